/- Several texts, laid as one. -/
import Derived.Test.YtjjggncbhenffaaGreatDoorGbt
import Derived.Test.YtjjggncbhenffaaGreatDoorGbr
/- Trees that are built: the open nodes form a chain, in plain terms. -/
namespace Go.Proofs.YtjjggncbhenffaaGreatDoor
/-- Where a node ends, as far as is known: an open one reaches to the end. -/
def endOf (s : BS) (i : Nat) (x : XNode) : Nat := if i ∈ s.opn then s.nodes.length else x.fin
structure Ch (s : BS) : Prop where
  z : s.opn[0]? = some 0
  ch : ∀ (j a c : Nat), s.opn[j]? = some a → s.opn[j + 1]? = some c → a < c ∧ ∃ y, s.nodes[c]? = some y ∧ y.parent = (a : Int)
  lt : ∀ i ∈ s.opn, i < s.nodes.length
  rt : ∀ y, s.nodes[0]? = some y → y.parent = -1
theorem Ch.mono {s : BS} (h : Ch s) : ∀ (d j a c : Nat), s.opn[j]? = some a → s.opn[j + d + 1]? = some c → a < c
  | 0, j, a, c, h1, h2 => (h.ch j a c h1 h2).1
  | d + 1, j, a, c, h1, h2 => by
    have hl := (List.getElem?_eq_some_iff.1 h2).1
    obtain ⟨b, hb⟩ : ∃ b, s.opn[j + d + 1]? = some b := ⟨s.opn[j + d + 1], List.getElem?_eq_getElem (by omega)⟩
    have h3 := Ch.mono h d j a b h1 hb
    have h4 := (h.ch (j + d + 1) b c hb h2).1
    omega
theorem Ch.ne {s : BS} (h : Ch s) : s.opn ≠ [] := fun h0 => by have := h.z; rw [h0] at this; cases this
theorem Ch.last {s : BS} (h : Ch s) : s.opn[s.opn.length - 1]? = some s.inner := by
  unfold BS.inner
  rw [List.getLastD_eq_getLast?, ← List.getLast?_eq_getElem?, List.getLast?_eq_some_getLast h.ne]
  rfl
theorem Ch.top {s : BS} (h : Ch s) {i : Nat} (hi : i ∈ s.opn) : i ≤ s.inner := by
  obtain ⟨j, hj⟩ := List.getElem?_of_mem hi
  have hl := (List.getElem?_eq_some_iff.1 hj).1
  by_cases e : j = s.opn.length - 1
  · rw [e, h.last] at hj
    cases hj
    exact Nat.le_refl _
  · have := h.mono (s.opn.length - 1 - j - 1) j i s.inner hj (by rw [show j + (s.opn.length - 1 - j - 1) + 1 = s.opn.length - 1 by omega]; exact h.last)
    omega
theorem Ch.up {s : BS} (h : Ch s) {c p : Nat} (hc : c ∈ s.opn) {y : XNode} (hy : s.nodes[c]? = some y) (hp : y.parent = (p : Int)) : p ∈ s.opn := by
  obtain ⟨j, hj⟩ := List.getElem?_of_mem hc
  cases j with
  | zero =>
    rw [h.z] at hj
    cases hj
    have := h.rt y hy
    omega
  | succ j =>
    have hl := (List.getElem?_eq_some_iff.1 hj).1
    obtain ⟨a, ha⟩ : ∃ a, s.opn[j]? = some a := ⟨s.opn[j], List.getElem?_eq_getElem (by omega)⟩
    obtain ⟨_, y', hy', hp'⟩ := h.ch j a c ha hj
    rw [hy] at hy'
    cases hy'
    have : p = a := by omega
    rw [this]
    exact List.mem_of_getElem? ha
theorem Ch.nxt {s : BS} (h : Ch s) {i : Nat} (hi : i ∈ s.opn) (hne : i ≠ s.inner) : ∃ c ∈ s.opn, ∃ y, s.nodes[c]? = some y ∧ y.parent = (i : Int) := by
  obtain ⟨j, hj⟩ := List.getElem?_of_mem hi
  have hl := (List.getElem?_eq_some_iff.1 hj).1
  have e : j ≠ s.opn.length - 1 := fun e => by
    rw [e, h.last] at hj
    cases hj
    exact hne rfl
  obtain ⟨c, hc⟩ : ∃ c, s.opn[j + 1]? = some c := ⟨s.opn[j + 1], List.getElem?_eq_getElem (by omega)⟩
  obtain ⟨_, y, hy, hp⟩ := h.ch j i c hj hc
  exact ⟨c, List.mem_of_getElem? hc, y, hy, hp⟩
theorem Ch.begin {s : BS} (h : Ch s) (x : XNode) (hx : x.parent = (s.inner : Int)) (hpos : 0 < s.nodes.length) : Ch (s.begin x) := by
  have hl := h.last
  have hne := h.ne
  have hop : 0 < s.opn.length := List.length_pos_iff.2 hne
  refine ⟨?_, fun j a c h1 h2 => ?_, fun i hi => ?_, fun y hy => ?_⟩
  · show (s.opn ++ [s.nodes.length])[0]? = some 0
    rw [List.getElem?_append_left hop]
    exact h.z
  · have h1' : (s.opn ++ [s.nodes.length])[j]? = some a := h1
    have h2' : (s.opn ++ [s.nodes.length])[j + 1]? = some c := h2
    show a < c ∧ ∃ y, (s.nodes ++ [x])[c]? = some y ∧ y.parent = (a : Int)
    by_cases hj : j + 1 < s.opn.length
    · rw [List.getElem?_append_left hj] at h2'
      rw [List.getElem?_append_left (by omega)] at h1'
      obtain ⟨h3, y, hy, hp⟩ := h.ch j a c h1' h2'
      refine ⟨h3, y, ?_, hp⟩
      rw [List.getElem?_append_left (List.getElem?_eq_some_iff.1 hy).1]
      exact hy
    · have h3 := (List.getElem?_eq_some_iff.1 h2').1
      rw [List.length_append, List.length_singleton] at h3
      have e : j = s.opn.length - 1 := by omega
      rw [List.getElem?_append_left (by omega), e, hl] at h1'
      cases h1'
      rw [List.getElem?_append_right (by omega), show j + 1 - s.opn.length = 0 by omega] at h2'
      cases h2'
      refine ⟨h.lt _ (List.mem_of_getElem? hl), x, ?_, hx⟩
      rw [List.getElem?_append_right (Nat.le_refl _), Nat.sub_self]
      rfl
  · show i < (s.nodes ++ [x]).length
    rw [List.length_append, List.length_singleton]
    have hi' : i ∈ s.opn ++ [s.nodes.length] := hi
    rcases List.mem_append.1 hi' with h1 | h1
    · have := h.lt i h1
      omega
    · rw [List.mem_singleton.1 h1]
      omega
  · have hy' : (s.nodes ++ [x])[0]? = some y := hy
    rw [List.getElem?_append_left hpos] at hy'
    exact h.rt y hy'
theorem fin_get {s : BS} {i : Nat} {x' : XNode} (h : s.finish.nodes[i]? = some x') : ∃ x, s.nodes[i]? = some x ∧ x' = (if s.inner = i then { x with fin := s.nodes.length } else x) ∧ x'.parent = x.parent := by
  have h' : (s.nodes.modify s.inner fun x => { x with fin := s.nodes.length })[i]? = some x' := h
  rw [List.getElem?_modify] at h'
  obtain ⟨x, hx, e⟩ := Option.map_eq_some_iff.1 h'
  refine ⟨x, hx, e.symm, ?_⟩
  rw [← e]
  split <;> rfl
theorem fin_put {s : BS} {i : Nat} {x : XNode} (h : s.nodes[i]? = some x) : ∃ x', s.finish.nodes[i]? = some x' ∧ x' = (if s.inner = i then { x with fin := s.nodes.length } else x) ∧ x'.parent = x.parent := by
  refine ⟨if s.inner = i then { x with fin := s.nodes.length } else x, ?_, rfl, by split <;> rfl⟩
  show (s.nodes.modify s.inner fun x => { x with fin := s.nodes.length })[i]? = _
  rw [List.getElem?_modify, h]
  rfl
theorem fin_len (s : BS) : s.finish.nodes.length = s.nodes.length := List.length_modify ..
theorem Ch.opnFin {s : BS} (h : Ch s) (i : Nat) : i ∈ s.finish.opn ↔ (i ∈ s.opn ∧ i ≠ s.inner) := by
  have e2 : s.opn = s.opn.dropLast ++ [s.inner] := by
    have h3 := List.dropLast_concat_getLast h.ne
    have h4 : s.opn.getLast h.ne = s.inner := by
      unfold BS.inner
      rw [List.getLastD_eq_getLast?, List.getLast?_eq_some_getLast h.ne]
      rfl
    rw [h4] at h3
    exact h3.symm
  show i ∈ s.opn.dropLast ↔ _
  constructor
  · intro hi
    have hm : i ∈ s.opn := by rw [e2]; exact List.mem_append_left _ hi
    refine ⟨hm, fun e => ?_⟩
    obtain ⟨j, hj⟩ := List.getElem?_of_mem hi
    have hl := (List.getElem?_eq_some_iff.1 hj).1
    rw [List.length_dropLast] at hl
    have hj' : s.opn[j]? = some i := by
      rw [e2, List.getElem?_append_left (by rw [List.length_dropLast]; exact hl)]
      exact hj
    have := h.mono (s.opn.length - 1 - j - 1) j i s.inner hj' (by rw [show j + (s.opn.length - 1 - j - 1) + 1 = s.opn.length - 1 by omega]; exact h.last)
    omega
  · rintro ⟨hm, hne⟩
    rw [e2] at hm
    rcases List.mem_append.1 hm with h1 | h1
    · exact h1
    · exact absurd (List.mem_singleton.1 h1) hne
theorem Ch.endFin {s : BS} (h : Ch s) {i : Nat} {x x' : XNode} (hx' : x' = (if s.inner = i then { x with fin := s.nodes.length } else x)) : endOf s.finish i x' = endOf s i x := by
  unfold endOf
  rw [fin_len]
  by_cases hi : s.inner = i
  · have h1 : ¬ i ∈ s.finish.opn := fun hm => ((h.opnFin i).1 hm).2 hi.symm
    have h2 : i ∈ s.opn := by rw [← hi]; exact List.mem_of_getElem? h.last
    rw [if_neg h1, if_pos h2, hx', if_pos hi]
  · rw [if_neg hi] at hx'
    subst hx'
    by_cases hm : i ∈ s.opn
    · rw [if_pos hm, if_pos ((h.opnFin i).2 ⟨hm, fun e => hi e.symm⟩)]
    · rw [if_neg hm, if_neg (fun h1 => hm ((h.opnFin i).1 h1).1)]
theorem Ch.finish {s : BS} (h : Ch s) (h2 : 2 ≤ s.opn.length) : Ch s.finish := by
  have hg : ∀ (j a : Nat), s.finish.opn[j]? = some a → s.opn[j]? = some a := by
    intro j a hj
    have hj' : s.opn.dropLast[j]? = some a := hj
    rw [List.getElem?_dropLast] at hj'
    split at hj'
    · exact hj'
    · cases hj'
  refine ⟨?_, fun j a c h1 h3 => ?_, fun i hi => ?_, fun y hy => ?_⟩
  · show s.opn.dropLast[0]? = some 0
    rw [List.getElem?_dropLast, if_pos (by omega)]
    exact h.z
  · obtain ⟨h4, y, hy, hp⟩ := h.ch j a c (hg _ _ h1) (hg _ _ h3)
    obtain ⟨y', hy', _, hp'⟩ := fin_put hy
    exact ⟨h4, y', hy', by rw [hp', hp]⟩
  · rw [fin_len]
    exact h.lt i ((h.opnFin i).1 hi).1
  · obtain ⟨x, hx, _, hp⟩ := fin_get hy
    rw [hp]
    exact h.rt x hx
structure InvF (s : BS) : Prop where
  bd : ∀ (i : Nat) (x : XNode), s.nodes[i]? = some x → endOf s i x ≤ s.nodes.length
  i2 : ∀ (i k : Nat) (x y : XNode), s.nodes[i]? = some x → s.nodes[k]? = some y → i < k → k < endOf s i x → (i : Int) ≤ y.parent
  i3 : ∀ (i : Nat) (x : XNode), s.nodes[i]? = some x → i + 1 < endOf s i x → ∃ c y, s.nodes[c]? = some y ∧ y.parent = (i : Int) ∧ endOf s c y = endOf s i x
  i4 : ∀ (k p : Nat) (y x : XNode), s.nodes[k]? = some y → y.parent = (p : Int) → s.nodes[p]? = some x → endOf s k y ≤ endOf s p x
theorem end_begin {s : BS} {x : XNode} {i : Nat} {y : XNode} (hi : i < s.nodes.length) : endOf (s.begin x) i y = if i ∈ s.opn then s.nodes.length + 1 else y.fin := by
  unfold endOf
  have e : (s.begin x).nodes.length = s.nodes.length + 1 := by show (s.nodes ++ [x]).length = _; rw [List.length_append]; rfl
  have e2 : (i ∈ (s.begin x).opn) ↔ i ∈ s.opn := by
    show i ∈ s.opn ++ [s.nodes.length] ↔ _
    rw [List.mem_append, List.mem_singleton]
    constructor
    · rintro (h | h)
      · exact h
      · omega
    · exact .inl
  rw [e]
  by_cases hm : i ∈ s.opn
  · rw [if_pos hm, if_pos (e2.2 hm)]
  · rw [if_neg hm, if_neg (fun h => hm (e2.1 h))]
theorem end_new {s : BS} {x y : XNode} : endOf (s.begin x) s.nodes.length y = s.nodes.length + 1 := by
  unfold endOf
  have e : (s.begin x).nodes.length = s.nodes.length + 1 := by show (s.nodes ++ [x]).length = _; rw [List.length_append]; rfl
  rw [if_pos (by show _ ∈ s.opn ++ [_]; simp), e]
theorem begin_get {s : BS} {x y : XNode} {i : Nat} (h : (s.begin x).nodes[i]? = some y) : (i < s.nodes.length ∧ s.nodes[i]? = some y) ∨ (i = s.nodes.length ∧ y = x) := by
  have h' : (s.nodes ++ [x])[i]? = some y := h
  by_cases hi : i < s.nodes.length
  · rw [List.getElem?_append_left hi] at h'
    exact .inl ⟨hi, h'⟩
  · have h1 := (List.getElem?_eq_some_iff.1 h').1
    rw [List.length_append, List.length_singleton] at h1
    have e : i = s.nodes.length := by omega
    subst e
    rw [List.getElem?_append_right (Nat.le_refl _), Nat.sub_self] at h'
    cases h'
    exact .inr ⟨rfl, rfl⟩
theorem begin_old {s : BS} {x y : XNode} {i : Nat} (h : s.nodes[i]? = some y) : (s.begin x).nodes[i]? = some y := by
  show (s.nodes ++ [x])[i]? = some y
  rw [List.getElem?_append_left (List.getElem?_eq_some_iff.1 h).1]
  exact h
theorem begin_new {s : BS} {x : XNode} : (s.begin x).nodes[s.nodes.length]? = some x := by
  show (s.nodes ++ [x])[_]? = some x
  rw [List.getElem?_append_right (Nat.le_refl _), Nat.sub_self]
  rfl
theorem endOf_opn {s : BS} {i : Nat} {x : XNode} (h : i ∈ s.opn) : endOf s i x = s.nodes.length := by unfold endOf; rw [if_pos h]
theorem endOf_not {s : BS} {i : Nat} {x : XNode} (h : ¬ i ∈ s.opn) : endOf s i x = x.fin := by unfold endOf; rw [if_neg h]
theorem InvF.begin {s : BS} (h : InvF s) (hC : Ch s) (x : XNode) (hx : x.parent = (s.inner : Int)) : InvF (s.begin x) := by
  have hin : s.inner ∈ s.opn := List.mem_of_getElem? hC.last
  have hlen : (s.begin x).nodes.length = s.nodes.length + 1 := by show (s.nodes ++ [x]).length = _; rw [List.length_append]; rfl
  refine ⟨fun i y hy => ?_, fun i k y z hy hz hik hke => ?_, fun i y hy hlt => ?_, fun k p y z hy hp hz => ?_⟩
  · rw [hlen]
    rcases begin_get hy with ⟨hi, hy⟩ | ⟨rfl, rfl⟩
    · rw [end_begin hi]
      have := h.bd i y hy
      split
      · exact Nat.le_refl _
      · rename_i hm
        rw [endOf_not hm] at this
        omega
    · rw [end_new]
      exact Nat.le_refl _
  · rcases begin_get hy with ⟨hi, hy1⟩ | ⟨rfl, rfl⟩
    · rw [end_begin hi] at hke
      rcases begin_get hz with ⟨hk, hz⟩ | ⟨rfl, rfl⟩
      · by_cases hm : i ∈ s.opn
        · exact h.i2 i k y z hy1 hz hik (by rw [endOf_opn hm]; exact hk)
        · rw [if_neg hm] at hke
          exact h.i2 i k y z hy1 hz hik (by rw [endOf_not hm]; exact hke)
      · by_cases hm : i ∈ s.opn
        · rw [hx]
          have := hC.top hm
          omega
        · rw [if_neg hm] at hke
          have := h.bd i y hy1
          rw [endOf_not hm] at this
          omega
    · rcases begin_get hz with ⟨hk, _⟩ | ⟨rfl, _⟩ <;> omega
  · rcases begin_get hy with ⟨hi, hy⟩ | ⟨rfl, rfl⟩
    · rw [end_begin hi] at hlt ⊢
      by_cases hm : i ∈ s.opn
      · rw [if_pos hm]
        by_cases he : i = s.inner
        · exact ⟨s.nodes.length, x, begin_new, by rw [hx, he], end_new⟩
        · obtain ⟨c, hc, z, hz, hp⟩ := hC.nxt hm he
          exact ⟨c, z, begin_old hz, hp, by rw [end_begin (hC.lt c hc), if_pos hc]⟩
      · rw [if_neg hm] at hlt ⊢
        obtain ⟨c, z, hz, hp, he⟩ := h.i3 i y hy (by rw [endOf_not hm]; exact hlt)
        have hc : ¬ c ∈ s.opn := fun hc => hm (hC.up hc hz hp)
        refine ⟨c, z, begin_old hz, hp, ?_⟩
        rw [end_begin (List.getElem?_eq_some_iff.1 hz).1, if_neg hc]
        rw [endOf_not hc, endOf_not hm] at he
        exact he
    · rw [end_new] at hlt
      omega
  · rcases begin_get hy with ⟨hk, hy1⟩ | ⟨rfl, rfl⟩
    · rcases begin_get hz with ⟨hpl, hz⟩ | ⟨rfl, rfl⟩
      · rw [end_begin hk, end_begin hpl]
        have h4 := h.i4 k p y z hy1 hp hz
        by_cases hm : k ∈ s.opn
        · rw [if_pos hm, if_pos (hC.up hm hy1 hp)]
          exact Nat.le_refl _
        · rw [if_neg hm]
          have hb := h.bd k y hy1
          rw [endOf_not hm] at hb h4
          split
          · omega
          · rename_i hpm
            rw [endOf_not hpm] at h4
            exact h4
      · rw [end_new, end_begin hk]
        have hb := h.bd k y hy1
        split
        · exact Nat.le_refl _
        · rename_i hm
          rw [endOf_not hm] at hb
          omega
    · have hpi : p = s.inner := by rw [hx] at hp; omega
      subst hpi
      rcases begin_get hz with ⟨hpl, hz⟩ | ⟨e, rfl⟩
      · rw [end_new, end_begin hpl, if_pos hin]
        exact Nat.le_refl _
      · have := hC.lt _ hin
        omega
theorem InvF.finish {s : BS} (h : InvF s) (hC : Ch s) : InvF s.finish := by
  refine ⟨fun i x' hx' => ?_, fun i k x' y' hx' hy' hik hke => ?_, fun i x' hx' hlt => ?_, fun k p y' x' hy' hp hx' => ?_⟩
  · obtain ⟨x, hx, e, _⟩ := fin_get hx'
    rw [hC.endFin e, fin_len]
    exact h.bd i x hx
  · obtain ⟨x, hx, e, _⟩ := fin_get hx'
    obtain ⟨y, hy, _, hp⟩ := fin_get hy'
    rw [hC.endFin e] at hke
    rw [hp]
    exact h.i2 i k x y hx hy hik hke
  · obtain ⟨x, hx, e, _⟩ := fin_get hx'
    rw [hC.endFin e] at hlt ⊢
    obtain ⟨c, y, hy, hp, he⟩ := h.i3 i x hx hlt
    obtain ⟨y', hy', e', hp'⟩ := fin_put hy
    exact ⟨c, y', hy', by rw [hp', hp], by rw [hC.endFin e', he]⟩
  · obtain ⟨x, hx, e, _⟩ := fin_get hx'
    obtain ⟨y, hy, e', hp'⟩ := fin_get hy'
    rw [hC.endFin e, hC.endFin e']
    exact h.i4 k p y x hy (by rw [← hp']; exact hp) hx
end Go.Proofs.YtjjggncbhenffaaGreatDoor
/- Trees that are built: what lies in a node follows it, in plain terms. -/
namespace Go.Proofs.YtjjggncbhenffaaGreatDoor
structure CF (s : BS) : Prop where
  c : Ch s
  f : InvF s
  p : 0 < s.nodes.length
theorem CF.begin {s : BS} (h : CF s) (x : XNode) : CF (s.begin (s.placed x)) :=
  ⟨h.c.begin _ rfl h.p, h.f.begin h.c _ rfl, by show 0 < (s.nodes ++ [_]).length; simp⟩
theorem CF.finish {s : BS} (h : CF s) (h2 : 2 ≤ s.opn.length) : CF s.finish := ⟨h.c.finish h2, h.f.finish h.c, by rw [fin_len]; exact h.p⟩
theorem CF.leaf {s : BS} (h : CF s) (x : XNode) : CF (s.leaf x) :=
  (h.begin x).finish (by
    show 2 ≤ (s.opn ++ [_]).length
    have := List.length_pos_iff.2 h.c.ne
    rw [List.length_append, List.length_singleton]
    omega)
theorem CF.leafs : ∀ (l : List XNode) (s : BS), CF s → CF (l.foldl BS.leaf s)
  | [], _, h => h
  | x :: l, s, h => CF.leafs l (s.leaf x) (h.leaf x)
theorem CF.add {s s' : BS} {t : XTok} (h : CF s) (h7 : t.kind = 7 → 2 ≤ s.opn.length) (ha : s.add t = .ok s') : CF s' := by
  unfold BS.add at ha
  split at ha
  · unfold BS.element BS.elementAt at ha
    split at ha
    · cases ha
    · split at ha
      · cases ha
      · split at ha
        · cases ha
        · cases ha
          exact CF.leafs _ _ (h.begin _)
  · split at ha
    · rename_i hk
      cases ha
      exact h.finish (h7 hk)
    · split at ha
      · cases ha; exact h.leaf _
      · cases ha; exact h.leaf _
theorem adds_F : ∀ (ts : List XTok) (s s' : BS) (o : List (List Nat)) (r : Bool) (q k : Nat), DocT o r q ts → Inv s o.length k → o.length ≤ 32 → CF s → s.adds ts = .ok s' → CF s' ∧ s'.opn.length = 1
  | [], s, s', o, r, q, k, hD, hI, _, h, ha => by
    cases ha
    cases hD
    exact ⟨h, hI.opn⟩
  | t :: ts, s, s', o, r, q, k, hD, hI, ho, h, ha => by
    unfold BS.adds at ha
    split at ha
    · cases ha
    · rename_i s1 h1
      have h7 : t.kind = 7 → 2 ≤ s.opn.length := by
        intro h7
        have hop := hI.opn
        cases hD with
        | elem => cases h7
        | fin n _ _ _ _ _ hl _ =>
          cases o with
          | nil => cases hl
          | cons a o => rw [List.length_cons] at hop; omega
        | text => cases h7
        | comment => cases h7
        | pi => cases h7
      obtain ⟨o', r', q', hD', hI', ho'⟩ := hI.add ho hD h1
      exact adds_F ts s1 s' o' r' q' (k + 1) hD' hI' ho' (h.add h7 h1) ha
theorem CF.start : CF BS.start := by
  have hg : ∀ (i : Nat) (x : XNode), BS.start.nodes[i]? = some x → i = 0 ∧ x = rootN := by
    intro i x hx
    have hx' : [rootN][i]? = some x := hx
    have h1 := (List.getElem?_eq_some_iff.1 hx').1
    simp at h1
    subst h1
    cases hx'
    exact ⟨rfl, rfl⟩
  have he : ∀ x, endOf BS.start 0 x = 1 := fun x => by
    unfold endOf
    rw [if_pos (by show 0 ∈ [0]; simp)]
    rfl
  refine ⟨⟨rfl, fun j a c _ h2 => ?_, fun i hi => ?_, fun y hy => ?_⟩, ⟨fun i x hx => ?_, fun i k x y hx hy hik _ => ?_, fun i x hx hlt => ?_, fun k p y x hy hp hx => ?_⟩, Nat.zero_lt_one⟩
  · have h2' : [0][j + 1]? = some c := h2
    have := (List.getElem?_eq_some_iff.1 h2').1
    simp at this
  · rw [List.mem_singleton.1 hi]
    exact Nat.zero_lt_one
  · rw [(hg 0 y hy).2]
    rfl
  · obtain ⟨rfl, _⟩ := hg i x hx
    rw [he]
    exact Nat.le_refl _
  · obtain ⟨rfl, _⟩ := hg i x hx
    obtain ⟨rfl, _⟩ := hg k y hy
    omega
  · obtain ⟨rfl, _⟩ := hg i x hx
    rw [he] at hlt
    omega
  · obtain ⟨_, rfl⟩ := hg k y hy
    have h1 : (-1 : Int) = (p : Int) := hp
    omega
/-- A tree's shape: what lies in a node follows it, ahead of what lies behind. -/
structure Shape (ns : List XNode) : Prop where
  pos : 0 < ns.length
  par : InvP ns
  root : ∀ x, ns[0]? = some x → x.fin = ns.length
  inn : ∀ (i k : Nat) (x y : XNode), ns[i]? = some x → ns[k]? = some y → i < k → k < x.fin → (i : Int) ≤ y.parent
  last : ∀ (i : Nat) (x : XNode), ns[i]? = some x → i + 1 < x.fin → ∃ (c : Nat) (y : XNode), ns[c]? = some y ∧ y.parent = (i : Int) ∧ y.fin = x.fin
  out : ∀ (k p : Nat) (y x : XNode), ns[k]? = some y → y.parent = (p : Int) → ns[p]? = some x → y.fin ≤ x.fin
theorem DocOk.shape {xs : List XTok} {ns : List XNode} (h : DocOk xs) (ht : treeD xs = .ok ns) : Shape ns := by
  have hpar := h.parents ht
  unfold treeD at ht
  split at ht
  · cases ht
  · rename_i s hs
    cases ht
    obtain ⟨hF, ho⟩ := adds_F xs BS.start s [] false 0 0 h.doc Inv.start (by decide) CF.start hs
    have hf := hF.f.finish hF.c
    have he : ∀ (i : Nat) (x : XNode), endOf s.finish i x = x.fin := fun i x => by
      refine endOf_not (fun hm => ?_)
      have hm' : i ∈ s.opn.dropLast := hm
      have : s.opn.dropLast.length = 0 := by rw [List.length_dropLast, ho]
      rw [List.length_eq_zero_iff.1 this] at hm'
      cases hm'
    have hin : s.inner = 0 := by
      have h1 := hF.c.last
      rw [ho] at h1
      have h2 := hF.c.z
      have h3 : s.opn[0]? = some s.inner := h1
      exact (Option.some.inj (h2.symm.trans h3)).symm
    refine ⟨by rw [fin_len]; exact hF.p, hpar, fun x hx => ?_, fun i k x y hx hy hik hk => ?_, fun i x hx hlt => ?_, fun k p y x hy hp hx => ?_⟩
    · obtain ⟨x0, _, e, _⟩ := fin_get hx
      rw [if_pos hin] at e
      rw [e, fin_len]
    · exact hf.i2 i k x y hx hy hik (by rw [he]; exact hk)
    · obtain ⟨c, y, hy, hp, e⟩ := hf.i3 i x hx (by rw [he]; exact hlt)
      rw [he, he] at e
      exact ⟨c, y, hy, hp, e⟩
    · have := hf.i4 k p y x hy hp hx
      rw [he, he] at this
      exact this
end Go.Proofs.YtjjggncbhenffaaGreatDoor
/- Trees that are built: what is no element ends at once, elements have no text of their own; strings of kids: plain. -/
namespace Go.Proofs.YtjjggncbhenffaaGreatDoor
/-- Root and elements: what may hold others. -/
def Hld (x : XNode) : Prop := x.kind = 1 ∨ x.kind = 2
structure InvL (s : BS) : Prop where
  lf : ∀ (i : Nat) (x : XNode), s.nodes[i]? = some x → ¬ Hld x → x.fin = i + 1
  tx : ∀ (i : Nat) (x : XNode), s.nodes[i]? = some x → Hld x → x.text = []
  op : ∀ (i : Nat) (x : XNode), i ∈ s.opn → s.nodes[i]? = some x → Hld x
  z : ∃ x, s.nodes[0]? = some x ∧ Hld x
  lt : ∀ i ∈ s.opn, i < s.nodes.length
  one : ∀ (i : Nat) (x : XNode), s.nodes[i]? = some x → x.kind = 1 → i = 0
theorem InvL.hold {s : BS} (h : InvL s) {x : XNode} (hx : s.nodes[s.inner]? = some x) : Hld x := by
  by_cases h0 : s.opn = []
  · have e : s.inner = 0 := by unfold BS.inner; rw [h0]; rfl
    rw [e] at hx
    obtain ⟨y, hy, hh⟩ := h.z
    rw [hx] at hy
    cases hy
    exact hh
  · exact h.op _ x (getLastD_mem h0) hx
theorem InvL.finish {s : BS} (h : InvL s) : InvL s.finish := by
  have hopn : ∀ i ∈ s.finish.opn, i ∈ s.opn := fun i hi => (List.dropLast_sublist s.opn).subset hi
  refine ⟨fun i x hx hn => ?_, fun i x hx hh => ?_, fun i x hi hx => ?_, ?_, fun i hi => by rw [fin_len]; exact h.lt i (hopn i hi), fun i x hx h1 => ?_⟩
  · obtain ⟨y, hy, e, _⟩ := fin_get hx
    by_cases hi : s.inner = i
    · rw [if_pos hi] at e
      subst e
      rw [← hi] at hy
      exact absurd (h.hold hy) hn
    · rw [if_neg hi] at e
      subst e
      exact h.lf i _ hy hn
  · obtain ⟨y, hy, e, _⟩ := fin_get hx
    have hk : y.kind = x.kind := by rw [e]; split <;> rfl
    have ht : x.text = y.text := by rw [e]; split <;> rfl
    rw [ht]
    exact h.tx i y hy (by unfold Hld; rw [hk]; exact hh)
  · obtain ⟨y, hy, e, _⟩ := fin_get hx
    have hk : x.kind = y.kind := by rw [e]; split <;> rfl
    have := h.op i y (hopn i hi) hy
    unfold Hld at this ⊢
    rw [hk]
    exact this
  · obtain ⟨x, hx, hh⟩ := h.z
    obtain ⟨x', hx', e, _⟩ := fin_put hx
    refine ⟨x', hx', ?_⟩
    have hk : x'.kind = x.kind := by rw [e]; split <;> rfl
    unfold Hld at hh ⊢
    rw [hk]
    exact hh
  · obtain ⟨y, hy, e, _⟩ := fin_get hx
    have hk : x.kind = y.kind := by rw [e]; split <;> rfl
    exact h.one i y hy (by omega)
theorem InvL.begin {s : BS} (h : InvL s) (x : XNode) (h2 : x.kind = 2) (ht : x.text = []) : InvL (s.begin x) := by
  have hh : Hld x := .inr h2
  have hpos : 0 < s.nodes.length := by
    obtain ⟨y, hy, _⟩ := h.z
    exact (List.getElem?_eq_some_iff.1 hy).1
  refine ⟨fun i y hy hn => ?_, fun i y hy _ => ?_, fun i y hi hy => ?_, ?_, fun i hi => ?_, fun i y hy h1 => ?_⟩
  · rcases begin_get hy with ⟨_, h1⟩ | ⟨rfl, rfl⟩
    · exact h.lf i y h1 hn
    · exact absurd hh hn
  · rcases begin_get hy with ⟨_, h1⟩ | ⟨rfl, rfl⟩
    · exact h.tx i y h1 (by assumption)
    · exact ht
  · rcases begin_get hy with ⟨hl, h1⟩ | ⟨rfl, rfl⟩
    · rcases List.mem_append.1 hi with hi | hi
      · exact h.op i y hi h1
      · have := List.mem_singleton.1 hi
        omega
    · exact hh
  · obtain ⟨y, hy, h2⟩ := h.z
    exact ⟨y, begin_old hy, h2⟩
  · show i < (s.nodes ++ [x]).length
    rw [List.length_append, List.length_singleton]
    rcases List.mem_append.1 hi with hi | hi
    · have := h.lt i hi
      omega
    · have := List.mem_singleton.1 hi
      omega
  · rcases begin_get hy with ⟨_, h3⟩ | ⟨rfl, rfl⟩
    · exact h.one i y h3 h1
    · omega
theorem InvL.leaf {s : BS} (h : InvL s) (x : XNode) (hn : ¬ Hld x) : InvL (s.leaf x) := by
  have hpos : 0 < s.nodes.length := by
    obtain ⟨y, hy, _⟩ := h.z
    exact (List.getElem?_eq_some_iff.1 hy).1
  have hin : (s.begin (s.placed x)).inner = s.nodes.length := begin_inner ..
  have hop : (s.leaf x).opn = s.opn := by
    show (s.opn ++ [s.nodes.length]).dropLast = s.opn
    rw [List.dropLast_concat]
  have hget : ∀ (i : Nat) (y : XNode), (s.leaf x).nodes[i]? = some y → (i < s.nodes.length ∧ s.nodes[i]? = some y) ∨ (i = s.nodes.length ∧ y.kind = x.kind ∧ y.fin = i + 1) := by
    intro i y hy
    obtain ⟨y0, hy0, e, _⟩ := fin_get hy
    rw [hin] at e
    rcases begin_get hy0 with ⟨h1, h2⟩ | ⟨h1, h2⟩
    · rw [if_neg (by omega)] at e
      subst e
      exact .inl ⟨h1, h2⟩
    · rw [if_pos h1.symm] at e
      subst h2
      refine .inr ⟨h1, by rw [e]; rfl, ?_⟩
      rw [e]
      show (s.nodes ++ [_]).length = i + 1
      rw [List.length_append, h1]
      rfl
  have hlen : (s.leaf x).nodes.length = s.nodes.length + 1 := by
    show (s.begin (s.placed x)).finish.nodes.length = _
    rw [fin_len]
    show (s.nodes ++ [_]).length = _
    rw [List.length_append]
    rfl
  refine ⟨fun i y hy hy2 => ?_, fun i y hy hy2 => ?_, fun i y hi hy => ?_, ?_, fun i hi => ?_, fun i y hy h1 => ?_⟩
  · rcases hget i y hy with ⟨_, h1⟩ | ⟨_, _, h1⟩
    · exact h.lf i y h1 hy2
    · exact h1
  · rcases hget i y hy with ⟨_, h1⟩ | ⟨_, hk, _⟩
    · exact h.tx i y h1 hy2
    · exact absurd (by unfold Hld at hy2 ⊢; rw [← hk]; exact hy2) hn
  · rw [hop] at hi
    rcases hget i y hy with ⟨_, h1⟩ | ⟨h1, _, _⟩
    · exact h.op i y hi h1
    · have := h.lt i hi
      omega
  · obtain ⟨y, hy, h2⟩ := h.z
    obtain ⟨y', hy', e, _⟩ := fin_put (s := s.begin (s.placed x)) (begin_old hy)
    rw [if_neg (by rw [hin]; omega)] at e
    exact ⟨y', hy', by rw [e]; exact h2⟩
  · rw [hop] at hi
    have := h.lt i hi
    omega
  · rcases hget i y hy with ⟨_, h2⟩ | ⟨_, hk, _⟩
    · exact h.one i y h2 h1
    · exact absurd (.inl (by omega)) hn
theorem InvL.leafs : ∀ (l : List XNode) (s : BS), InvL s → (∀ x ∈ l, ¬ Hld x) → InvL (l.foldl BS.leaf s)
  | [], _, h, _ => h
  | x :: l, s, h, hx => InvL.leafs l (s.leaf x) (h.leaf x (hx x (List.mem_cons_self ..))) (fun y hy => hx y (List.mem_cons_of_mem _ hy))
theorem attrsN_kind {s : Sc} : ∀ {l : List (List Nat × List Nat)} {r : List XNode}, attrsN s l = some r → ∀ x ∈ r, x.kind = 3
  | [], r, h, x, hx => by cases h; cases hx
  | y :: l, r, h, x, hx => by
    rw [attrsN] at h
    split at h
    · exact attrsN_kind h x hx
    · split at h
      · cases h
      · obtain ⟨r', h', rfl⟩ := Option.map_eq_some_iff.1 h
        rcases List.mem_cons.1 hx with rfl | hx
        · rfl
        · exact attrsN_kind h' x hx
theorem attributes_kind {s : Sc} {l : List (List Nat × List Nat)} {r : List XNode} (h : attributesD s l = .ok r) : ∀ x ∈ r, x.kind = 3 := by
  unfold attributesD at h
  split at h
  · cases h
  · rename_i r' hr
    split at h
    · cases h
      exact attrsN_kind hr
    · cases h
theorem InvL.add {s s' : BS} {t : XTok} (h : InvL s) (hk : t.kind = 2 ∨ t.kind = 7 ∨ t.kind = 6 ∨ t.kind = 4 ∨ t.kind = 5) (ha : s.add t = .ok s') : InvL s' := by
  unfold BS.add at ha
  split at ha
  · unfold BS.element BS.elementAt at ha
    split at ha
    · cases ha
    · split at ha
      · cases ha
      · split at ha
        · cases ha
        · rename_i hat
          cases ha
          refine InvL.leafs _ _ (h.begin _ rfl rfl) fun x hx => ?_
          have := attributes_kind hat x hx
          unfold Hld
          omega
  · split at ha
    · cases ha
      exact h.finish
    · split at ha
      · cases ha
        exact h.leaf _ (by unfold Hld; simp)
      · cases ha
        refine h.leaf _ ?_
        show ¬ (t.kind = 1 ∨ t.kind = 2)
        omega
theorem doc_kinds : ∀ {ts : List XTok} {o : List (List Nat)} {r : Bool} {k : Nat}, DocT o r k ts → ∀ t ∈ ts, t.kind = 2 ∨ t.kind = 7 ∨ t.kind = 6 ∨ t.kind = 4 ∨ t.kind = 5
  | [], _, _, _, _, t, ht => by cases ht
  | x :: ts, o, r, k, h, t, ht => by
    cases h with
    | elem n a _ _ _ _ h hr ho ha hn => exact (List.mem_cons.1 ht).elim (fun e => by rw [e]; exact .inl rfl) (fun ht => doc_kinds hn t ht)
    | fin n _ _ _ _ h ho hn => exact (List.mem_cons.1 ht).elim (fun e => by rw [e]; exact .inr (.inl rfl)) (fun ht => doc_kinds hn t ht)
    | text l _ _ _ _ h ho hk hn => exact (List.mem_cons.1 ht).elim (fun e => by rw [e]; exact .inr (.inr (.inr (.inl rfl)))) (fun ht => doc_kinds hn t ht)
    | comment l _ _ _ _ h hn => exact (List.mem_cons.1 ht).elim (fun e => by rw [e]; exact .inr (.inr (.inr (.inr rfl)))) (fun ht => doc_kinds hn t ht)
    | pi n l _ _ _ _ h hn => exact (List.mem_cons.1 ht).elim (fun e => by rw [e]; exact .inr (.inr (.inl rfl))) (fun ht => doc_kinds hn t ht)
theorem adds_L : ∀ (ts : List XTok) (s s' : BS), InvL s → (∀ t ∈ ts, t.kind = 2 ∨ t.kind = 7 ∨ t.kind = 6 ∨ t.kind = 4 ∨ t.kind = 5) → s.adds ts = .ok s' → InvL s'
  | [], s, s', h, _, ha => by cases ha; exact h
  | t :: ts, s, s', h, hk, ha => by
    unfold BS.adds at ha
    split at ha
    · cases ha
    · rename_i s1 h1
      exact adds_L ts s1 s' (h.add (hk t (List.mem_cons_self ..)) h1) (fun x hx => hk x (List.mem_cons_of_mem _ hx)) ha
theorem InvL.start : InvL BS.start := by
  have hg : ∀ (i : Nat) (x : XNode), BS.start.nodes[i]? = some x → i = 0 ∧ x = rootN := by
    intro i x hx
    have hx' : [rootN][i]? = some x := hx
    have h1 := (List.getElem?_eq_some_iff.1 hx').1
    simp at h1
    subst h1
    cases hx'
    exact ⟨rfl, rfl⟩
  refine ⟨fun i x hx hn => ?_, fun i x hx _ => ?_, fun i x _ hx => ?_, ⟨rootN, rfl, .inl rfl⟩, fun i hi => ?_, fun i x hx _ => (hg i x hx).1⟩
  · rw [(hg i x hx).2] at hn
    exact absurd (.inl rfl) hn
  · rw [(hg i x hx).2]
    rfl
  · rw [(hg i x hx).2]
    exact .inl rfl
  · rw [List.mem_singleton.1 hi]
    exact Nat.zero_lt_one
/-- What is no element ends at once; root and elements have no text. -/
structure Leafs (ns : List XNode) : Prop where
  lf : ∀ (i : Nat) (x : XNode), ns[i]? = some x → ¬ Hld x → x.fin = i + 1
  tx : ∀ (i : Nat) (x : XNode), ns[i]? = some x → Hld x → x.text = []
  rt : ∃ x, ns[0]? = some x ∧ Hld x
  one : ∀ (i : Nat) (x : XNode), ns[i]? = some x → x.kind = 1 → i = 0
theorem DocOk.leafs {xs : List XTok} {ns : List XNode} (h : DocOk xs) (ht : treeD xs = .ok ns) : Leafs ns := by
  unfold treeD at ht
  split at ht
  · cases ht
  · rename_i s hs
    cases ht
    have := (adds_L xs BS.start s InvL.start (doc_kinds h.doc) hs).finish
    exact ⟨this.lf, this.tx, this.z, this.one⟩
/-- What lies in a node ends no later. -/
theorem Shape.within {ns : List XNode} (h : Shape ns) {n : Nat} {x : XNode} (hx : ns[n]? = some x) : ∀ (k : Nat) (y : XNode), ns[k]? = some y → n < k → k < x.fin → y.fin ≤ x.fin := by
  intro k
  induction k using Nat.strongRecOn with
  | ind k ih =>
    intro y hy hnk hk
    have h1 := h.inn n k x y hx hy hnk hk
    rcases h.par k y hy with ⟨h2, _⟩ | ⟨p, hp, hpk⟩
    · omega
    · have hpl : p < ns.length := by
        have := (List.getElem?_eq_some_iff.1 hy).1
        omega
      obtain ⟨z, hz⟩ : ∃ z, ns[p]? = some z := ⟨ns[p], List.getElem?_eq_getElem hpl⟩
      have h3 := h.out k p y z hy hp hz
      by_cases e : p = n
      · subst e
        rw [hx] at hz
        cases hz
        exact h3
      · have := ih p hpk z hz (by omega) (by omega)
        omega
/-- The numbers of what lies right in a node, from one on, without attributes. -/
def kidsGo (ns : List XNode) : Nat → Nat → Nat → List Nat
  | 0, _, _ => []
  | f + 1, i, e => if i < e then (if (nodeD ns (i : Nat)).kind = 3 then [] else [i]) ++ kidsGo ns f (nodeD ns (i : Nat)).fin e else []
def kidsD (ns : List XNode) (n : Int) : List Nat := if (nodeD ns n).fin = 0 then [] else kidsGo ns ns.length (n.toNat + 1) (nodeD ns n).fin
def segD (ns : List XNode) (i e : Nat) : List XNode := (ns.drop i).take (e - i)
/-- What a kid gives to the string. -/
def kidS (ns : List XNode) (k : Nat) : List Nat := if (nodeD ns (k : Nat)).kind = 4 ∨ (nodeD ns (k : Nat)).kind = 2 then strD ns (k : Nat) else []
theorem txts_app (a b : List XNode) : txtsD (a ++ b) = txtsD a ++ txtsD b := by
  unfold txtsD
  rw [List.filter_append, List.flatMap_append]
theorem txts_cons (x : XNode) (b : List XNode) : txtsD (x :: b) = (if x.kind = 4 then x.text else []) ++ txtsD b := by
  have := txts_app [x] b
  rw [List.singleton_append] at this
  rw [this]
  congr 1
  have h := txts_snoc (xs := [x]) (k := 0) (x := x) rfl
  rw [show [x].take (0 + 1) = [x] from rfl] at h
  rw [h]
  rfl
theorem seg_split (ns : List XNode) {i m e : Nat} (h1 : i ≤ m) (h2 : m ≤ e) : segD ns i e = segD ns i m ++ segD ns m e := by
  unfold segD
  rw [show e - i = (m - i) + (e - m) by omega, List.take_add, List.drop_drop, show i + (m - i) = m by omega]
theorem seg_head {ns : List XNode} {i e : Nat} {x : XNode} (hx : ns[i]? = some x) (h : i < e) : segD ns i e = x :: segD ns (i + 1) e := by
  obtain ⟨hl, he⟩ := List.getElem?_eq_some_iff.1 hx
  unfold segD
  rw [List.drop_eq_getElem_cons hl, he, show e - i = (e - (i + 1)) + 1 by omega, List.take_succ_cons]
theorem part_seg {ns : List XNode} {i : Nat} {x : XNode} (hx : ns[i]? = some x) (h : 0 < x.fin) : partD ns (i : Nat) = segD ns (i + 1) x.fin := by
  unfold partD segD
  rw [nodeD_at hx, if_neg (by omega), Int.toNat_natCast]
theorem kids_txts {ns : List XNode} (hS : Shape ns) (hL : Leafs ns) (hf : ∀ (i : Nat) (x : XNode), ns[i]? = some x → i < x.fin ∧ x.fin ≤ ns.length) {n : Nat} {x : XNode} (hx : ns[n]? = some x) :
    ∀ (f i : Nat), n < i → i ≤ x.fin → x.fin ≤ i + f → txtsD (segD ns i x.fin) = (kidsGo ns f i x.fin).flatMap (kidS ns)
  | 0, i, _, h2, h3 => by
    have e : x.fin - i = 0 := by omega
    unfold segD
    rw [e, List.take_zero]
    rfl
  | f + 1, i, h1, h2, h3 => by
    by_cases hlt : i < x.fin
    · have hxl := (hf n x hx).2
      obtain ⟨y, hy⟩ : ∃ y, ns[i]? = some y := ⟨ns[i]'(by omega), List.getElem?_eq_getElem (by omega)⟩
      have hw := hS.within hx i y hy h1 hlt
      obtain ⟨hy1, hy2⟩ := hf i y hy
      have ih := kids_txts hS hL hf hx f y.fin (by omega) hw (by omega)
      rw [kidsGo, if_pos hlt, nodeD_at hy, seg_split ns (Nat.le_of_lt hy1) hw, txts_app, List.flatMap_append, ih]
      congr 1
      rw [seg_head hy hy1, txts_cons, ← part_seg hy (by omega)]
      by_cases hh : Hld y
      · have ht := hL.tx i y hy hh
        by_cases h2k : y.kind = 2
        · rw [if_neg (show ¬ y.kind = 4 by omega), if_neg (show ¬ y.kind = 3 by omega)]
          simp only [List.flatMap_cons, List.flatMap_nil, List.append_nil, List.nil_append]
          unfold kidS strD
          rw [nodeD_at hy, if_pos (.inr h2k), ht, List.nil_append]
        · rcases hh with h1k | h1k
          · have := hL.one i y hy h1k
            omega
          · exact absurd h1k h2k
      · have hfi := hL.lf i y hy hh
        have hp : partD ns (i : Nat) = [] := by
          rw [part_seg hy (by omega), hfi]
          unfold segD
          rw [Nat.sub_self, List.take_zero]
        rw [hp]
        by_cases h4 : y.kind = 4
        · rw [if_pos h4, if_neg (show ¬ y.kind = 3 by omega)]
          simp only [List.flatMap_cons, List.flatMap_nil, List.append_nil]
          unfold kidS strD
          rw [nodeD_at hy, if_pos (.inl h4), hp]
        · rw [if_neg h4]
          split
          · rfl
          · simp only [List.flatMap_cons, List.flatMap_nil, List.append_nil]
            unfold kidS
            rw [nodeD_at hy, if_neg (fun h => h.elim h4 (fun h2 => hh (.inr h2)))]
            rfl
    · have e : x.fin - i = 0 := by omega
      rw [kidsGo, if_neg hlt]
      unfold segD
      rw [e, List.take_zero]
      rfl
end Go.Proofs.YtjjggncbhenffaaGreatDoor
