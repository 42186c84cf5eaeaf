/- Several texts, laid as one. -/
import Derived.Test.YtjjggncbhenffaaGreatDoorGbu
/- Trees that are built: the open nodes form a chain, in plain terms. -/
namespace Go.Proofs.YtjjggncbhenffaaGreatDoor
/-- Where a node ends, as far as is known: an open one reaches to the end. -/
def endOf (s : BS) (i : Nat) (x : XNode) : Nat := if i ∈ s.opn then s.nodes.length else x.fin
structure Ch (s : BS) : Prop where
  z : s.opn[0]? = some 0
  ch : ∀ (j a c : Nat), s.opn[j]? = some a → s.opn[j + 1]? = some c → a < c ∧ ∃ y, s.nodes[c]? = some y ∧ y.parent = (a : Int)
  lt : ∀ i ∈ s.opn, i < s.nodes.length
  rt : ∀ y, s.nodes[0]? = some y → y.parent = -1
theorem Ch.mono {s : BS} (h : Ch s) : ∀ (d j a c : Nat), s.opn[j]? = some a → s.opn[j + d + 1]? = some c → a < c
  | 0, j, a, c, h1, h2 => (h.ch j a c h1 h2).1
  | d + 1, j, a, c, h1, h2 => by
    have hl := (List.getElem?_eq_some_iff.1 h2).1
    obtain ⟨b, hb⟩ : ∃ b, s.opn[j + d + 1]? = some b := ⟨s.opn[j + d + 1], List.getElem?_eq_getElem (by omega)⟩
    have h3 := Ch.mono h d j a b h1 hb
    have h4 := (h.ch (j + d + 1) b c hb h2).1
    omega
theorem Ch.ne {s : BS} (h : Ch s) : s.opn ≠ [] := fun h0 => by have := h.z; rw [h0] at this; cases this
theorem Ch.last {s : BS} (h : Ch s) : s.opn[s.opn.length - 1]? = some s.inner := by
  unfold BS.inner
  rw [List.getLastD_eq_getLast?, ← List.getLast?_eq_getElem?, List.getLast?_eq_some_getLast h.ne]
  rfl
theorem Ch.top {s : BS} (h : Ch s) {i : Nat} (hi : i ∈ s.opn) : i ≤ s.inner := by
  obtain ⟨j, hj⟩ := List.getElem?_of_mem hi
  have hl := (List.getElem?_eq_some_iff.1 hj).1
  by_cases e : j = s.opn.length - 1
  · rw [e, h.last] at hj
    cases hj
    exact Nat.le_refl _
  · have := h.mono (s.opn.length - 1 - j - 1) j i s.inner hj (by rw [show j + (s.opn.length - 1 - j - 1) + 1 = s.opn.length - 1 by omega]; exact h.last)
    omega
theorem Ch.up {s : BS} (h : Ch s) {c p : Nat} (hc : c ∈ s.opn) {y : XNode} (hy : s.nodes[c]? = some y) (hp : y.parent = (p : Int)) : p ∈ s.opn := by
  obtain ⟨j, hj⟩ := List.getElem?_of_mem hc
  cases j with
  | zero =>
    rw [h.z] at hj
    cases hj
    have := h.rt y hy
    omega
  | succ j =>
    have hl := (List.getElem?_eq_some_iff.1 hj).1
    obtain ⟨a, ha⟩ : ∃ a, s.opn[j]? = some a := ⟨s.opn[j], List.getElem?_eq_getElem (by omega)⟩
    obtain ⟨_, y', hy', hp'⟩ := h.ch j a c ha hj
    rw [hy] at hy'
    cases hy'
    have : p = a := by omega
    rw [this]
    exact List.mem_of_getElem? ha
theorem Ch.nxt {s : BS} (h : Ch s) {i : Nat} (hi : i ∈ s.opn) (hne : i ≠ s.inner) : ∃ c ∈ s.opn, ∃ y, s.nodes[c]? = some y ∧ y.parent = (i : Int) := by
  obtain ⟨j, hj⟩ := List.getElem?_of_mem hi
  have hl := (List.getElem?_eq_some_iff.1 hj).1
  have e : j ≠ s.opn.length - 1 := fun e => by
    rw [e, h.last] at hj
    cases hj
    exact hne rfl
  obtain ⟨c, hc⟩ : ∃ c, s.opn[j + 1]? = some c := ⟨s.opn[j + 1], List.getElem?_eq_getElem (by omega)⟩
  obtain ⟨_, y, hy, hp⟩ := h.ch j i c hj hc
  exact ⟨c, List.mem_of_getElem? hc, y, hy, hp⟩
theorem Ch.begin {s : BS} (h : Ch s) (x : XNode) (hx : x.parent = (s.inner : Int)) (hpos : 0 < s.nodes.length) : Ch (s.begin x) := by
  have hl := h.last
  have hne := h.ne
  have hop : 0 < s.opn.length := List.length_pos_iff.2 hne
  refine ⟨?_, fun j a c h1 h2 => ?_, fun i hi => ?_, fun y hy => ?_⟩
  · show (s.opn ++ [s.nodes.length])[0]? = some 0
    rw [List.getElem?_append_left hop]
    exact h.z
  · have h1' : (s.opn ++ [s.nodes.length])[j]? = some a := h1
    have h2' : (s.opn ++ [s.nodes.length])[j + 1]? = some c := h2
    show a < c ∧ ∃ y, (s.nodes ++ [x])[c]? = some y ∧ y.parent = (a : Int)
    by_cases hj : j + 1 < s.opn.length
    · rw [List.getElem?_append_left hj] at h2'
      rw [List.getElem?_append_left (by omega)] at h1'
      obtain ⟨h3, y, hy, hp⟩ := h.ch j a c h1' h2'
      refine ⟨h3, y, ?_, hp⟩
      rw [List.getElem?_append_left (List.getElem?_eq_some_iff.1 hy).1]
      exact hy
    · have h3 := (List.getElem?_eq_some_iff.1 h2').1
      rw [List.length_append, List.length_singleton] at h3
      have e : j = s.opn.length - 1 := by omega
      rw [List.getElem?_append_left (by omega), e, hl] at h1'
      cases h1'
      rw [List.getElem?_append_right (by omega), show j + 1 - s.opn.length = 0 by omega] at h2'
      cases h2'
      refine ⟨h.lt _ (List.mem_of_getElem? hl), x, ?_, hx⟩
      rw [List.getElem?_append_right (Nat.le_refl _), Nat.sub_self]
      rfl
  · show i < (s.nodes ++ [x]).length
    rw [List.length_append, List.length_singleton]
    have hi' : i ∈ s.opn ++ [s.nodes.length] := hi
    rcases List.mem_append.1 hi' with h1 | h1
    · have := h.lt i h1
      omega
    · rw [List.mem_singleton.1 h1]
      omega
  · have hy' : (s.nodes ++ [x])[0]? = some y := hy
    rw [List.getElem?_append_left hpos] at hy'
    exact h.rt y hy'
theorem fin_get {s : BS} {i : Nat} {x' : XNode} (h : s.finish.nodes[i]? = some x') : ∃ x, s.nodes[i]? = some x ∧ x' = (if s.inner = i then { x with fin := s.nodes.length } else x) ∧ x'.parent = x.parent := by
  have h' : (s.nodes.modify s.inner fun x => { x with fin := s.nodes.length })[i]? = some x' := h
  rw [List.getElem?_modify] at h'
  obtain ⟨x, hx, e⟩ := Option.map_eq_some_iff.1 h'
  refine ⟨x, hx, e.symm, ?_⟩
  rw [← e]
  split <;> rfl
theorem fin_put {s : BS} {i : Nat} {x : XNode} (h : s.nodes[i]? = some x) : ∃ x', s.finish.nodes[i]? = some x' ∧ x' = (if s.inner = i then { x with fin := s.nodes.length } else x) ∧ x'.parent = x.parent := by
  refine ⟨if s.inner = i then { x with fin := s.nodes.length } else x, ?_, rfl, by split <;> rfl⟩
  show (s.nodes.modify s.inner fun x => { x with fin := s.nodes.length })[i]? = _
  rw [List.getElem?_modify, h]
  rfl
theorem fin_len (s : BS) : s.finish.nodes.length = s.nodes.length := List.length_modify ..
theorem Ch.opnFin {s : BS} (h : Ch s) (i : Nat) : i ∈ s.finish.opn ↔ (i ∈ s.opn ∧ i ≠ s.inner) := by
  have e2 : s.opn = s.opn.dropLast ++ [s.inner] := by
    have h3 := List.dropLast_concat_getLast h.ne
    have h4 : s.opn.getLast h.ne = s.inner := by
      unfold BS.inner
      rw [List.getLastD_eq_getLast?, List.getLast?_eq_some_getLast h.ne]
      rfl
    rw [h4] at h3
    exact h3.symm
  show i ∈ s.opn.dropLast ↔ _
  constructor
  · intro hi
    have hm : i ∈ s.opn := by rw [e2]; exact List.mem_append_left _ hi
    refine ⟨hm, fun e => ?_⟩
    obtain ⟨j, hj⟩ := List.getElem?_of_mem hi
    have hl := (List.getElem?_eq_some_iff.1 hj).1
    rw [List.length_dropLast] at hl
    have hj' : s.opn[j]? = some i := by
      rw [e2, List.getElem?_append_left (by rw [List.length_dropLast]; exact hl)]
      exact hj
    have := h.mono (s.opn.length - 1 - j - 1) j i s.inner hj' (by rw [show j + (s.opn.length - 1 - j - 1) + 1 = s.opn.length - 1 by omega]; exact h.last)
    omega
  · rintro ⟨hm, hne⟩
    rw [e2] at hm
    rcases List.mem_append.1 hm with h1 | h1
    · exact h1
    · exact absurd (List.mem_singleton.1 h1) hne
theorem Ch.endFin {s : BS} (h : Ch s) {i : Nat} {x x' : XNode} (hx' : x' = (if s.inner = i then { x with fin := s.nodes.length } else x)) : endOf s.finish i x' = endOf s i x := by
  unfold endOf
  rw [fin_len]
  by_cases hi : s.inner = i
  · have h1 : ¬ i ∈ s.finish.opn := fun hm => ((h.opnFin i).1 hm).2 hi.symm
    have h2 : i ∈ s.opn := by rw [← hi]; exact List.mem_of_getElem? h.last
    rw [if_neg h1, if_pos h2, hx', if_pos hi]
  · rw [if_neg hi] at hx'
    subst hx'
    by_cases hm : i ∈ s.opn
    · rw [if_pos hm, if_pos ((h.opnFin i).2 ⟨hm, fun e => hi e.symm⟩)]
    · rw [if_neg hm, if_neg (fun h1 => hm ((h.opnFin i).1 h1).1)]
theorem Ch.finish {s : BS} (h : Ch s) (h2 : 2 ≤ s.opn.length) : Ch s.finish := by
  have hg : ∀ (j a : Nat), s.finish.opn[j]? = some a → s.opn[j]? = some a := by
    intro j a hj
    have hj' : s.opn.dropLast[j]? = some a := hj
    rw [List.getElem?_dropLast] at hj'
    split at hj'
    · exact hj'
    · cases hj'
  refine ⟨?_, fun j a c h1 h3 => ?_, fun i hi => ?_, fun y hy => ?_⟩
  · show s.opn.dropLast[0]? = some 0
    rw [List.getElem?_dropLast, if_pos (by omega)]
    exact h.z
  · obtain ⟨h4, y, hy, hp⟩ := h.ch j a c (hg _ _ h1) (hg _ _ h3)
    obtain ⟨y', hy', _, hp'⟩ := fin_put hy
    exact ⟨h4, y', hy', by rw [hp', hp]⟩
  · rw [fin_len]
    exact h.lt i ((h.opnFin i).1 hi).1
  · obtain ⟨x, hx, _, hp⟩ := fin_get hy
    rw [hp]
    exact h.rt x hx
structure InvF (s : BS) : Prop where
  bd : ∀ (i : Nat) (x : XNode), s.nodes[i]? = some x → endOf s i x ≤ s.nodes.length
  i2 : ∀ (i k : Nat) (x y : XNode), s.nodes[i]? = some x → s.nodes[k]? = some y → i < k → k < endOf s i x → (i : Int) ≤ y.parent
  i3 : ∀ (i : Nat) (x : XNode), s.nodes[i]? = some x → i + 1 < endOf s i x → ∃ c y, s.nodes[c]? = some y ∧ y.parent = (i : Int) ∧ endOf s c y = endOf s i x
  i4 : ∀ (k p : Nat) (y x : XNode), s.nodes[k]? = some y → y.parent = (p : Int) → s.nodes[p]? = some x → endOf s k y ≤ endOf s p x
theorem end_begin {s : BS} {x : XNode} {i : Nat} {y : XNode} (hi : i < s.nodes.length) : endOf (s.begin x) i y = if i ∈ s.opn then s.nodes.length + 1 else y.fin := by
  unfold endOf
  have e : (s.begin x).nodes.length = s.nodes.length + 1 := by show (s.nodes ++ [x]).length = _; rw [List.length_append]; rfl
  have e2 : (i ∈ (s.begin x).opn) ↔ i ∈ s.opn := by
    show i ∈ s.opn ++ [s.nodes.length] ↔ _
    rw [List.mem_append, List.mem_singleton]
    constructor
    · rintro (h | h)
      · exact h
      · omega
    · exact .inl
  rw [e]
  by_cases hm : i ∈ s.opn
  · rw [if_pos hm, if_pos (e2.2 hm)]
  · rw [if_neg hm, if_neg (fun h => hm (e2.1 h))]
theorem end_new {s : BS} {x y : XNode} : endOf (s.begin x) s.nodes.length y = s.nodes.length + 1 := by
  unfold endOf
  have e : (s.begin x).nodes.length = s.nodes.length + 1 := by show (s.nodes ++ [x]).length = _; rw [List.length_append]; rfl
  rw [if_pos (by show _ ∈ s.opn ++ [_]; simp), e]
theorem begin_get {s : BS} {x y : XNode} {i : Nat} (h : (s.begin x).nodes[i]? = some y) : (i < s.nodes.length ∧ s.nodes[i]? = some y) ∨ (i = s.nodes.length ∧ y = x) := by
  have h' : (s.nodes ++ [x])[i]? = some y := h
  by_cases hi : i < s.nodes.length
  · rw [List.getElem?_append_left hi] at h'
    exact .inl ⟨hi, h'⟩
  · have h1 := (List.getElem?_eq_some_iff.1 h').1
    rw [List.length_append, List.length_singleton] at h1
    have e : i = s.nodes.length := by omega
    subst e
    rw [List.getElem?_append_right (Nat.le_refl _), Nat.sub_self] at h'
    cases h'
    exact .inr ⟨rfl, rfl⟩
theorem begin_old {s : BS} {x y : XNode} {i : Nat} (h : s.nodes[i]? = some y) : (s.begin x).nodes[i]? = some y := by
  show (s.nodes ++ [x])[i]? = some y
  rw [List.getElem?_append_left (List.getElem?_eq_some_iff.1 h).1]
  exact h
theorem begin_new {s : BS} {x : XNode} : (s.begin x).nodes[s.nodes.length]? = some x := by
  show (s.nodes ++ [x])[_]? = some x
  rw [List.getElem?_append_right (Nat.le_refl _), Nat.sub_self]
  rfl
theorem endOf_opn {s : BS} {i : Nat} {x : XNode} (h : i ∈ s.opn) : endOf s i x = s.nodes.length := by unfold endOf; rw [if_pos h]
theorem endOf_not {s : BS} {i : Nat} {x : XNode} (h : ¬ i ∈ s.opn) : endOf s i x = x.fin := by unfold endOf; rw [if_neg h]
theorem InvF.begin {s : BS} (h : InvF s) (hC : Ch s) (x : XNode) (hx : x.parent = (s.inner : Int)) : InvF (s.begin x) := by
  have hin : s.inner ∈ s.opn := List.mem_of_getElem? hC.last
  have hlen : (s.begin x).nodes.length = s.nodes.length + 1 := by show (s.nodes ++ [x]).length = _; rw [List.length_append]; rfl
  refine ⟨fun i y hy => ?_, fun i k y z hy hz hik hke => ?_, fun i y hy hlt => ?_, fun k p y z hy hp hz => ?_⟩
  · rw [hlen]
    rcases begin_get hy with ⟨hi, hy⟩ | ⟨rfl, rfl⟩
    · rw [end_begin hi]
      have := h.bd i y hy
      split
      · exact Nat.le_refl _
      · rename_i hm
        rw [endOf_not hm] at this
        omega
    · rw [end_new]
      exact Nat.le_refl _
  · rcases begin_get hy with ⟨hi, hy1⟩ | ⟨rfl, rfl⟩
    · rw [end_begin hi] at hke
      rcases begin_get hz with ⟨hk, hz⟩ | ⟨rfl, rfl⟩
      · by_cases hm : i ∈ s.opn
        · exact h.i2 i k y z hy1 hz hik (by rw [endOf_opn hm]; exact hk)
        · rw [if_neg hm] at hke
          exact h.i2 i k y z hy1 hz hik (by rw [endOf_not hm]; exact hke)
      · by_cases hm : i ∈ s.opn
        · rw [hx]
          have := hC.top hm
          omega
        · rw [if_neg hm] at hke
          have := h.bd i y hy1
          rw [endOf_not hm] at this
          omega
    · rcases begin_get hz with ⟨hk, _⟩ | ⟨rfl, _⟩ <;> omega
  · rcases begin_get hy with ⟨hi, hy⟩ | ⟨rfl, rfl⟩
    · rw [end_begin hi] at hlt ⊢
      by_cases hm : i ∈ s.opn
      · rw [if_pos hm]
        by_cases he : i = s.inner
        · exact ⟨s.nodes.length, x, begin_new, by rw [hx, he], end_new⟩
        · obtain ⟨c, hc, z, hz, hp⟩ := hC.nxt hm he
          exact ⟨c, z, begin_old hz, hp, by rw [end_begin (hC.lt c hc), if_pos hc]⟩
      · rw [if_neg hm] at hlt ⊢
        obtain ⟨c, z, hz, hp, he⟩ := h.i3 i y hy (by rw [endOf_not hm]; exact hlt)
        have hc : ¬ c ∈ s.opn := fun hc => hm (hC.up hc hz hp)
        refine ⟨c, z, begin_old hz, hp, ?_⟩
        rw [end_begin (List.getElem?_eq_some_iff.1 hz).1, if_neg hc]
        rw [endOf_not hc, endOf_not hm] at he
        exact he
    · rw [end_new] at hlt
      omega
  · rcases begin_get hy with ⟨hk, hy1⟩ | ⟨rfl, rfl⟩
    · rcases begin_get hz with ⟨hpl, hz⟩ | ⟨rfl, rfl⟩
      · rw [end_begin hk, end_begin hpl]
        have h4 := h.i4 k p y z hy1 hp hz
        by_cases hm : k ∈ s.opn
        · rw [if_pos hm, if_pos (hC.up hm hy1 hp)]
          exact Nat.le_refl _
        · rw [if_neg hm]
          have hb := h.bd k y hy1
          rw [endOf_not hm] at hb h4
          split
          · omega
          · rename_i hpm
            rw [endOf_not hpm] at h4
            exact h4
      · rw [end_new, end_begin hk]
        have hb := h.bd k y hy1
        split
        · exact Nat.le_refl _
        · rename_i hm
          rw [endOf_not hm] at hb
          omega
    · have hpi : p = s.inner := by rw [hx] at hp; omega
      subst hpi
      rcases begin_get hz with ⟨hpl, hz⟩ | ⟨e, rfl⟩
      · rw [end_new, end_begin hpl, if_pos hin]
        exact Nat.le_refl _
      · have := hC.lt _ hin
        omega
theorem InvF.finish {s : BS} (h : InvF s) (hC : Ch s) : InvF s.finish := by
  refine ⟨fun i x' hx' => ?_, fun i k x' y' hx' hy' hik hke => ?_, fun i x' hx' hlt => ?_, fun k p y' x' hy' hp hx' => ?_⟩
  · obtain ⟨x, hx, e, _⟩ := fin_get hx'
    rw [hC.endFin e, fin_len]
    exact h.bd i x hx
  · obtain ⟨x, hx, e, _⟩ := fin_get hx'
    obtain ⟨y, hy, _, hp⟩ := fin_get hy'
    rw [hC.endFin e] at hke
    rw [hp]
    exact h.i2 i k x y hx hy hik hke
  · obtain ⟨x, hx, e, _⟩ := fin_get hx'
    rw [hC.endFin e] at hlt ⊢
    obtain ⟨c, y, hy, hp, he⟩ := h.i3 i x hx hlt
    obtain ⟨y', hy', e', hp'⟩ := fin_put hy
    exact ⟨c, y', hy', by rw [hp', hp], by rw [hC.endFin e', he]⟩
  · obtain ⟨x, hx, e, _⟩ := fin_get hx'
    obtain ⟨y, hy, e', hp'⟩ := fin_get hy'
    rw [hC.endFin e, hC.endFin e']
    exact h.i4 k p y x hy (by rw [← hp']; exact hp) hx
end Go.Proofs.YtjjggncbhenffaaGreatDoor
/- Trees that are built: what lies in a node follows it, in plain terms. -/
namespace Go.Proofs.YtjjggncbhenffaaGreatDoor
structure CF (s : BS) : Prop where
  c : Ch s
  f : InvF s
  p : 0 < s.nodes.length
theorem CF.begin {s : BS} (h : CF s) (x : XNode) : CF (s.begin (s.placed x)) :=
  ⟨h.c.begin _ rfl h.p, h.f.begin h.c _ rfl, by show 0 < (s.nodes ++ [_]).length; simp⟩
theorem CF.finish {s : BS} (h : CF s) (h2 : 2 ≤ s.opn.length) : CF s.finish := ⟨h.c.finish h2, h.f.finish h.c, by rw [fin_len]; exact h.p⟩
theorem CF.leaf {s : BS} (h : CF s) (x : XNode) : CF (s.leaf x) :=
  (h.begin x).finish (by
    show 2 ≤ (s.opn ++ [_]).length
    have := List.length_pos_iff.2 h.c.ne
    rw [List.length_append, List.length_singleton]
    omega)
theorem CF.leafs : ∀ (l : List XNode) (s : BS), CF s → CF (l.foldl BS.leaf s)
  | [], _, h => h
  | x :: l, s, h => CF.leafs l (s.leaf x) (h.leaf x)
theorem CF.add {s s' : BS} {t : XTok} (h : CF s) (h7 : t.kind = 7 → 2 ≤ s.opn.length) (ha : s.add t = .ok s') : CF s' := by
  unfold BS.add at ha
  split at ha
  · unfold BS.element BS.elementAt at ha
    split at ha
    · cases ha
    · split at ha
      · cases ha
      · split at ha
        · cases ha
        · cases ha
          exact CF.leafs _ _ (h.begin _)
  · split at ha
    · rename_i hk
      cases ha
      exact h.finish (h7 hk)
    · split at ha
      · cases ha; exact h.leaf _
      · cases ha; exact h.leaf _
theorem adds_F : ∀ (ts : List XTok) (s s' : BS) (o : List (List Nat)) (r : Bool) (q k : Nat), DocT o r q ts → Inv s o.length k → o.length ≤ 32 → CF s → s.adds ts = .ok s' → CF s' ∧ s'.opn.length = 1
  | [], s, s', o, r, q, k, hD, hI, _, h, ha => by
    cases ha
    cases hD
    exact ⟨h, hI.opn⟩
  | t :: ts, s, s', o, r, q, k, hD, hI, ho, h, ha => by
    unfold BS.adds at ha
    split at ha
    · cases ha
    · rename_i s1 h1
      have h7 : t.kind = 7 → 2 ≤ s.opn.length := by
        intro h7
        have hop := hI.opn
        cases hD with
        | elem => cases h7
        | fin n _ _ _ _ _ hl _ =>
          cases o with
          | nil => cases hl
          | cons a o => rw [List.length_cons] at hop; omega
        | text => cases h7
        | comment => cases h7
        | pi => cases h7
      obtain ⟨o', r', q', hD', hI', ho'⟩ := hI.add ho hD h1
      exact adds_F ts s1 s' o' r' q' (k + 1) hD' hI' ho' (h.add h7 h1) ha
theorem CF.start : CF BS.start := by
  have hg : ∀ (i : Nat) (x : XNode), BS.start.nodes[i]? = some x → i = 0 ∧ x = rootN := by
    intro i x hx
    have hx' : [rootN][i]? = some x := hx
    have h1 := (List.getElem?_eq_some_iff.1 hx').1
    simp at h1
    subst h1
    cases hx'
    exact ⟨rfl, rfl⟩
  have he : ∀ x, endOf BS.start 0 x = 1 := fun x => by
    unfold endOf
    rw [if_pos (by show 0 ∈ [0]; simp)]
    rfl
  refine ⟨⟨rfl, fun j a c _ h2 => ?_, fun i hi => ?_, fun y hy => ?_⟩, ⟨fun i x hx => ?_, fun i k x y hx hy hik _ => ?_, fun i x hx hlt => ?_, fun k p y x hy hp hx => ?_⟩, Nat.zero_lt_one⟩
  · have h2' : [0][j + 1]? = some c := h2
    have := (List.getElem?_eq_some_iff.1 h2').1
    simp at this
  · rw [List.mem_singleton.1 hi]
    exact Nat.zero_lt_one
  · rw [(hg 0 y hy).2]
    rfl
  · obtain ⟨rfl, _⟩ := hg i x hx
    rw [he]
    exact Nat.le_refl _
  · obtain ⟨rfl, _⟩ := hg i x hx
    obtain ⟨rfl, _⟩ := hg k y hy
    omega
  · obtain ⟨rfl, _⟩ := hg i x hx
    rw [he] at hlt
    omega
  · obtain ⟨_, rfl⟩ := hg k y hy
    have h1 : (-1 : Int) = (p : Int) := hp
    omega
/-- A tree's shape: what lies in a node follows it, ahead of what lies behind. -/
structure Shape (ns : List XNode) : Prop where
  pos : 0 < ns.length
  par : InvP ns
  root : ∀ x, ns[0]? = some x → x.fin = ns.length
  inn : ∀ (i k : Nat) (x y : XNode), ns[i]? = some x → ns[k]? = some y → i < k → k < x.fin → (i : Int) ≤ y.parent
  last : ∀ (i : Nat) (x : XNode), ns[i]? = some x → i + 1 < x.fin → ∃ (c : Nat) (y : XNode), ns[c]? = some y ∧ y.parent = (i : Int) ∧ y.fin = x.fin
  out : ∀ (k p : Nat) (y x : XNode), ns[k]? = some y → y.parent = (p : Int) → ns[p]? = some x → y.fin ≤ x.fin
theorem DocOk.shape {xs : List XTok} {ns : List XNode} (h : DocOk xs) (ht : treeD xs = .ok ns) : Shape ns := by
  have hpar := h.parents ht
  unfold treeD at ht
  split at ht
  · cases ht
  · rename_i s hs
    cases ht
    obtain ⟨hF, ho⟩ := adds_F xs BS.start s [] false 0 0 h.doc Inv.start (by decide) CF.start hs
    have hf := hF.f.finish hF.c
    have he : ∀ (i : Nat) (x : XNode), endOf s.finish i x = x.fin := fun i x => by
      refine endOf_not (fun hm => ?_)
      have hm' : i ∈ s.opn.dropLast := hm
      have : s.opn.dropLast.length = 0 := by rw [List.length_dropLast, ho]
      rw [List.length_eq_zero_iff.1 this] at hm'
      cases hm'
    have hin : s.inner = 0 := by
      have h1 := hF.c.last
      rw [ho] at h1
      have h2 := hF.c.z
      have h3 : s.opn[0]? = some s.inner := h1
      exact (Option.some.inj (h2.symm.trans h3)).symm
    refine ⟨by rw [fin_len]; exact hF.p, hpar, fun x hx => ?_, fun i k x y hx hy hik hk => ?_, fun i x hx hlt => ?_, fun k p y x hy hp hx => ?_⟩
    · obtain ⟨x0, _, e, _⟩ := fin_get hx
      rw [if_pos hin] at e
      rw [e, fin_len]
    · exact hf.i2 i k x y hx hy hik (by rw [he]; exact hk)
    · obtain ⟨c, y, hy, hp, e⟩ := hf.i3 i x hx (by rw [he]; exact hlt)
      rw [he, he] at e
      exact ⟨c, y, hy, hp, e⟩
    · have := hf.i4 k p y x hy hp hx
      rw [he, he] at this
      exact this
end Go.Proofs.YtjjggncbhenffaaGreatDoor
/- The law XdmOrder's table of last numbers, in plain terms. -/
namespace Go.Proofs.YtjjggncbhenffaaGreatDoor
structure LastInv (ns : List XNode) (n : Nat) (L : List Nat) : Prop where
  len : L.length = ns.length
  done : ∀ (m : Nat) (x : XNode), n ≤ m → ns[m]? = some x → L[m]? = some (x.fin - 1)
  le : ∀ (m : Nat) (x : XNode) (v : Nat), m < n → ns[m]? = some x → L[m]? = some v → v ≤ x.fin - 1
  kid : ∀ (m c : Nat) (y : XNode) (v : Nat), m < n → n ≤ c → ns[c]? = some y → y.parent = (m : Int) → L[m]? = some v → y.fin - 1 ≤ v
theorem LastInv.start (ns : List XNode) : LastInv ns ns.length (List.replicate ns.length 0) := by
  refine ⟨List.length_replicate .., fun m x hm hx => ?_, fun m x v hm hx hv => ?_, fun m c y v _ hc hy _ _ => ?_⟩
  · have := (List.getElem?_eq_some_iff.1 hx).1
    omega
  · rw [List.getElem?_replicate, if_pos hm] at hv
    cases hv
    exact Nat.zero_le _
  · have := (List.getElem?_eq_some_iff.1 hy).1
    omega
/-- What stands there when its turn comes. -/
theorem LastInv.own {ns : List XNode} {a : Nat} {L : List Nat} (h : LastInv ns (a + 1) L) (hS : Shape ns) (hf : ∀ (i : Nat) (x : XNode), ns[i]? = some x → i < x.fin ∧ x.fin ≤ ns.length) {x : XNode} {v : Nat} (hx : ns[a]? = some x) (hv : L[a]? = some v) : (if v < a then a else v) = x.fin - 1 := by
  have h1 := h.le a x v (Nat.lt_succ_self _) hx hv
  have h2 := (hf a x hx).1
  by_cases h3 : a + 1 < x.fin
  · obtain ⟨c, y, hy, hp, he⟩ := hS.last a x hx h3
    have hc : a + 1 ≤ c := by
      rcases hS.par c y hy with ⟨_, h4⟩ | ⟨p, h4, h5⟩
      · omega
      · omega
    have := h.kid a c y v (Nat.lt_succ_self _) hc hy hp hv
    rw [if_neg (by omega)]
    omega
  · split <;> omega
/-- One number more is told. -/
theorem LastInv.step {ns : List XNode} {a p : Nat} {L : List Nat} (h : LastInv ns (a + 1) L) (hS : Shape ns) {x : XNode} {v : Nat} (hx : ns[a]? = some x) (hp : x.parent = (p : Int)) (hv : L[p]? = some v) :
    LastInv ns a ((L.set a (x.fin - 1)).set p (if v < x.fin - 1 then x.fin - 1 else v)) := by
  have hpa : p < a := by
    rcases hS.par a x hx with ⟨_, h4⟩ | ⟨q, h4, h5⟩ <;> omega
  have hal := (List.getElem?_eq_some_iff.1 hx).1
  have hL := h.len
  have hget : ∀ m, m ≠ p → ((L.set a (x.fin - 1)).set p (if v < x.fin - 1 then x.fin - 1 else v))[m]? = (L.set a (x.fin - 1))[m]? := fun m hm => by rw [List.getElem?_set_ne (fun e => hm e.symm)]
  have hgp : ((L.set a (x.fin - 1)).set p (if v < x.fin - 1 then x.fin - 1 else v))[p]? = some (if v < x.fin - 1 then x.fin - 1 else v) := by
    rw [List.getElem?_set_self (by rw [List.length_set]; omega)]
  have hold : ∀ m, m ≠ a → (L.set a (x.fin - 1))[m]? = L[m]? := fun m hm => by rw [List.getElem?_set_ne (fun e => hm e.symm)]
  refine ⟨by rw [List.length_set, List.length_set]; exact hL, fun m y hm hy => ?_, fun m y u hm hy hu => ?_, fun m c y u hm hc hy hyp hu => ?_⟩
  · rw [hget m (by omega)]
    by_cases e : m = a
    · subst e
      rw [hx] at hy
      cases hy
      rw [List.getElem?_set_self (by omega)]
    · rw [hold m e]
      exact h.done m y (by omega) hy
  · by_cases e : m = p
    · subst e
      rw [hgp] at hu
      cases hu
      have h1 := hS.out a m x y hx hp hy
      have h2 := h.le m y v (by omega) hy hv
      split <;> omega
    · rw [hget m e, hold m (by omega)] at hu
      exact h.le m y u (by omega) hy hu
  · by_cases e : m = p
    · subst e
      rw [hgp] at hu
      cases hu
      by_cases ec : c = a
      · subst ec
        rw [hx] at hy
        cases hy
        split <;> omega
      · have := h.kid m c y v (by omega) (by omega) hy hyp hv
        split <;> omega
    · rw [hget m e, hold m (by omega)] at hu
      have hca : c ≠ a := by
        intro ec
        subst ec
        rw [hx] at hy
        cases hy
        rw [hp] at hyp
        omega
      exact h.kid m c y u (by omega) (by omega) hy hyp hu
/-- The first number, at last. -/
theorem LastInv.first {ns : List XNode} {L : List Nat} (h : LastInv ns 1 L) {x : XNode} (hx : ns[0]? = some x) : LastInv ns 0 (L.set 0 (x.fin - 1)) := by
  have hal := (List.getElem?_eq_some_iff.1 hx).1
  refine ⟨by rw [List.length_set]; exact h.len, fun m y _ hy => ?_, fun m y u hm _ _ => by omega, fun m c y u hm _ _ _ _ => by omega⟩
  by_cases e : m = 0
  · subst e
    rw [hx] at hy
    cases hy
    rw [List.getElem?_set_self (by rw [h.len]; exact hal)]
  · rw [List.getElem?_set_ne (fun e2 => e e2.symm)]
    exact h.done m y (by omega) hy
end Go.Proofs.YtjjggncbhenffaaGreatDoor
