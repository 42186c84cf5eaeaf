/- Several texts, laid as one. -/
import Derived.Test.YtllhajjceecjdaaDoorGaz
import Derived.Maps.Ext
import Derived.Maps.RangeWalk
import Derived.Lib.ItoaNum
/- An attribute's name, expanded: xdm's expandAttribute. -/
namespace Go.Proofs.YtllhajjceecjdaaDoor
open Go.RowKit
end Go.Proofs.YtllhajjceecjdaaDoor
/- What prefixes stand for, copied and changed: maps.Copy, xdm's copied, declare. -/
namespace Go.Proofs.YtllhajjceecjdaaDoor
open Go.RowKit Go.Maps
theorem strKeyed : Maps.Keyed Tryd.prog 9 := Maps.string_keyed Tryd.underlying9
theorem strInv {P : Program} {k : TypeId} (hk : P.underlying k = some .string) {key : Value} {kl : Lit} (h : keyOf P k key = some kl) : ∃ s : ByteArray, key = .string s ∧ s.size ≤ maxLen ∧ kl = .string s.data.toList := by
  have e : keyOf P k key = mapKey P k key := by simp [keyOf, hk]
  rw [e] at h
  cases key with
  | string s =>
    simp [mapKey, hk] at h
    exact ⟨s, rfl, h.1, h.2.symm⟩
  | _ => simp [mapKey, hk] at h
theorem str_inv {key : Value} {kl : Lit} (h : keyOf Tryd.prog 9 key = some kl) : ∃ s : ByteArray, key = .string s ∧ s.size ≤ maxLen ∧ kl = .string s.data.toList := strInv Tryd.underlying9 h
theorem ent_inv {v : Value} {y : DataW Unit × List MemPlace} (h : entElem v = some y) : ∃ c : ByteArray, v = .agg #[.string c] ∧ y = (.agg [.lit (.string c.data.toList)], []) := by
  unfold entElem at h
  split at h
  · rename_i a
    unfold entCells at h
    split at h
    · rename_i s hs
      cases h
      exact ⟨s, by rw [show a = #[.string s] from Array.toList_inj.1 hs], rfl⟩
    · cases h
  · cases h
/-- A copy: another map of the same. -/
theorem scD_size (s : Sc) : Maps.size (scD s) = s.length := by
  unfold scD
  rw [Maps.size_eq, List.length_map]
end Go.Proofs.YtllhajjceecjdaaDoor
/- A prefix declared: xdm's declare. -/
namespace Go.Proofs.YtllhajjceecjdaaDoor
open Go.RowKit Go.Maps
def scE (x : List Nat × List Nat) : Lit × DataW Unit := (.string (tx x.1), .agg [.lit (.string (tx x.2))])
theorem scD_eq (s : Sc) : scD s = .map (s.map scE) := rfl
theorem scD_filter {p : List Nat} (hp : okL p) : ∀ s : Sc, (∀ x ∈ s, okL x.1) → (s.map scE).filter (fun q => !q.1.sameKey (.string (tx p))) = (delS s p).map scE
  | [], _ => rfl
  | x :: s, h => by
    have ih := scD_filter hp s (fun y hy => h y (List.mem_cons_of_mem _ hy))
    have hk : (scE x).1.sameKey (.string (tx p)) = (x.1 == p) := key_same (h x (List.mem_cons_self ..)) hp
    rw [List.map_cons, List.filter_cons, hk]
    unfold delS
    rw [List.filter_cons]
    cases x.1 == p
    · simp only [Bool.not_false, if_true, List.map_cons]
      exact congrArg _ ih
    · simp only [Bool.not_true, Bool.false_eq_true, if_false]
      exact ih
theorem scD_insert (x : List Nat × List Nat) : ∀ s : Sc, DataW.insert (scE x) (s.map scE) = (insS x s).map scE
  | [] => rfl
  | y :: s => by
    have ih := scD_insert x s
    show (if bytesBefore (tx x.1) (tx y.1) then scE x :: scE y :: s.map scE else scE y :: DataW.insert (scE x) (s.map scE)) = (if bytesBefore (tx x.1) (tx y.1) then x :: y :: s else y :: insS x s).map scE
    split
    · rfl
    · rw [ih]; rfl
theorem scD_put {s : Sc} {p u : List Nat} (h : ∀ x ∈ s, okL x.1) (hp : okL p) : (scD s).put (.string (tx p)) (.agg [.lit (.string (tx u))]) = scD (setS s p u) := by
  rw [scD_eq, scD_eq]
  show DataW.map (DataW.insert (scE (p, u)) ((s.map scE).filter fun q => !q.1.sameKey (.string (tx p)))) = _
  rw [scD_filter hp s h, scD_insert]
  rfl
theorem insS_mem {x y : List Nat × List Nat} : ∀ {s : Sc}, y ∈ insS x s → y = x ∨ y ∈ s
  | [], h => .inl (List.mem_singleton.1 h)
  | z :: s, h => by
    unfold insS at h
    split at h
    · rcases List.mem_cons.1 h with h | h
      · exact .inl h
      · exact .inr h
    · rcases List.mem_cons.1 h with h | h
      · exact .inr (by rw [h]; exact List.mem_cons_self ..)
      · rcases insS_mem h with h | h
        · exact .inl h
        · exact .inr (List.mem_cons_of_mem _ h)
theorem insS_len (x : List Nat × List Nat) : ∀ s : Sc, (insS x s).length = s.length + 1
  | [] => rfl
  | z :: s => by
    unfold insS
    split
    · rfl
    · rw [List.length_cons, insS_len x s, List.length_cons]
theorem OkSc.del {s : Sc} (h : OkSc s) (p : List Nat) : OkSc (delS s p) := fun x hx => h x (List.mem_filter.1 hx).1
theorem OkSc.declare {s : Sc} (h : OkSc s) {p u : List Nat} (hp : okL p) (hu : okL u) (h1 : (T p).size ≤ 1048576) (h2 : (T u).size ≤ 1048576) : OkSc (declareD s p u) := by
  unfold declareD
  split
  · exact h
  · split
    · exact h.del p
    · intro x hx
      rcases insS_mem hx with rfl | hx
      · exact ⟨⟨hp, hu⟩, h1, h2⟩
      · exact h.del p x hx
theorem owns_fit {w : World} {b n : Nat} {s : Sc} (h : w.ownsMap Tryd.prog 9 entElem b n (scD s)) : w.ownsMap Tryd.prog 9 entElem b s.length (scD s) := by
  obtain ⟨es, clock, hb, F, hs, hD⟩ := h
  refine ⟨es, clock, hb, F, ?_, hD⟩
  have := congrArg Maps.size hD
  rw [scD_size] at this
  simp [Maps.size, length_sorted] at this
  omega
end Go.Proofs.YtllhajjceecjdaaDoor
/- Prefixes of what is built, in plain terms: a free one, a name's, the declarations of a tag. -/
namespace Go.Proofs.YtllhajjceecjdaaDoor
open Go.RowKit
/-- The i-th prefix that is tried. -/
def nsP (i : Nat) : List Nat := [110, 115] ++ (Lib.decDigits i).map UInt8.toNat
theorem dec_is : ∀ (n : Nat) (i : Nat), i < n → (∀ c ∈ Lib.decDigits i, 48 ≤ c.toNat ∧ c.toNat < 58) ∧ (Lib.decDigits i).foldl (fun a c => a * 10 + (c.toNat - 48)) 0 = i
  | 0, i, h => by omega
  | n + 1, i, h => by
    by_cases hi : i < 10
    · rw [Lib.decDigits, dif_pos hi]
      have e : (UInt8.ofNat (48 + i)).toNat = 48 + i := by simp; omega
      refine ⟨fun c hc => ?_, ?_⟩
      · obtain rfl := List.mem_singleton.1 hc
        rw [e]; omega
      · simp only [List.foldl_cons, List.foldl_nil, e]; omega
    · obtain ⟨h1, h2⟩ := dec_is n (i / 10) (by omega)
      rw [Lib.decDigits, dif_neg hi]
      have e : (UInt8.ofNat (48 + i % 10)).toNat = 48 + i % 10 := by simp; omega
      refine ⟨fun c hc => ?_, ?_⟩
      · rcases List.mem_append.1 hc with hc | hc
        · exact h1 c hc
        · obtain rfl := List.mem_singleton.1 hc
          rw [e]; omega
      · rw [List.foldl_append, h2]
        simp only [List.foldl_cons, List.foldl_nil, e]; omega
theorem dec_inj {i j : Nat} (h : Lib.decDigits i = Lib.decDigits j) : i = j := by
  have h1 := (dec_is _ i (Nat.lt_succ_self _)).2
  have h2 := (dec_is _ j (Nat.lt_succ_self _)).2
  rw [h] at h1
  exact h1.symm.trans h2
theorem map_toNat_inj : ∀ {a b : List UInt8}, a.map UInt8.toNat = b.map UInt8.toNat → a = b
  | [], [], _ => rfl
  | [], _ :: _, h => by cases h
  | _ :: _, [], h => by cases h
  | x :: a, y :: b, h => by
    simp only [List.map_cons, List.cons.injEq] at h
    rw [UInt8.toNat_inj.1 h.1, map_toNat_inj h.2]
theorem nsP_inj {i j : Nat} (h : nsP i = nsP j) : i = j := by
  unfold nsP at h
  exact dec_inj (map_toNat_inj (List.append_cancel_left h))
theorem nsP_ok (i : Nat) : okL (nsP i) := by
  intro c hc
  rcases List.mem_append.1 hc with hc | hc
  · simp at hc
    rcases hc with rfl | rfl <;> decide
  · obtain ⟨d, hd, rfl⟩ := List.mem_map.1 hc
    have := (dec_is _ i (Nat.lt_succ_self _)).1 d hd
    simp [charR]
    omega
theorem tx_asc : ∀ (l : List UInt8), (∀ c ∈ l, c.toNat < 128) → tx (l.map UInt8.toNat) = l
  | [], _ => rfl
  | c :: l, h => by
    have hc := h c (List.mem_cons_self ..)
    rw [List.map_cons, tx_cons, tx_asc l fun d hd => h d (List.mem_cons_of_mem _ hd)]
    rw [runeB_one hc, UInt8.ofNat_toNat]
    rfl
theorem nsP_T (i : Nat) : (⟨#[110, 115]⟩ : ByteArray) ++ ⟨(Lib.decDigits i).toArray⟩ = T (nsP i) := by
  have e : tx (nsP i) = [110, 115] ++ Lib.decDigits i := by
    unfold nsP
    rw [tx_append, tx_asc _ fun c hc => by have := (dec_is _ i (Nat.lt_succ_self _)).1 c hc; omega]
    rfl
  apply ByteArray.ext
  apply Array.toList_inj.1
  rw [T_data, e]
  simp
/-- Is the i-th one free? -/
def freeB (ar he : Sc) (i : Nat) : Bool := (lookS he (nsP i)).isNone && ((lookS ar (nsP i)).getD [] == [])
theorem lookS_mem {s : Sc} {p : List Nat} (h : (lookS s p).isSome = true) : p ∈ s.map (·.1) := by
  unfold lookS at h
  rw [Option.isSome_map] at h
  obtain ⟨x, hx⟩ := Option.isSome_iff_exists.1 h
  have h1 := List.mem_of_find?_eq_some hx
  have h2 := List.find?_some hx
  simp at h2
  exact List.mem_map.2 ⟨x, h1, h2⟩
/-- One of the first ones is free. -/
theorem free_some (ar he : Sc) : ∃ i, i ≤ he.length + ar.length ∧ freeB ar he i = true := by
  refine Classical.byContradiction fun hn => ?_
  have hall : ∀ i, i ≤ he.length + ar.length → freeB ar he i = false := fun i hi => by
    cases h : freeB ar he i with
    | false => rfl
    | true => exact absurd ⟨i, hi, h⟩ hn
  have hnd : ((List.range (he.length + ar.length + 1)).map nsP).Nodup := List.Pairwise.map nsP (fun a b h e => h (nsP_inj e)) List.nodup_range
  have hsub : (List.range (he.length + ar.length + 1)).map nsP ⊆ he.map (·.1) ++ ar.map (·.1) := by
    intro p hp
    obtain ⟨i, hi, rfl⟩ := List.mem_map.1 hp
    have hf := hall i (by have := List.mem_range.1 hi; omega)
    unfold freeB at hf
    rw [Bool.and_eq_false_iff] at hf
    rcases hf with hf | hf
    · exact List.mem_append_left _ (lookS_mem (by cases h : lookS he (nsP i) <;> simp_all))
    · refine List.mem_append_right _ (lookS_mem ?_)
      cases h : lookS ar (nsP i) with
      | none => rw [h] at hf; simp at hf
      | some _ => rfl
  have := hnd.length_le_of_subset hsub
  simp at this
  omega
def freeF (ar he : Sc) : Nat → Nat → Nat
  | 0, i => i
  | f + 1, i => if freeB ar he i then i else freeF ar he f (i + 1)
/-- The first prefix that is free. -/
def freeP (ar he : Sc) : List Nat := nsP (freeF ar he (he.length + ar.length) 0)
theorem freeF_is (ar he : Sc) : ∀ (f i k : Nat), (∀ j, i ≤ j → j < k → freeB ar he j = false) → i ≤ k → k ≤ i + f → freeB ar he k = true → freeF ar he f i = k
  | 0, i, k, _, h1, h2, _ => by unfold freeF; omega
  | f + 1, i, k, hn, h1, h2, hk => by
    unfold freeF
    by_cases e : i = k
    · subst e; rw [if_pos hk]
    · rw [if_neg (by rw [hn i (Nat.le_refl _) (by omega)]; decide)]
      exact freeF_is ar he f (i + 1) k (fun j h3 h4 => hn j (by omega) h4) (by omega) (by omega) hk
theorem freeP_is {ar he : Sc} {k : Nat} (hn : ∀ j, j < k → freeB ar he j = false) (hk : freeB ar he k = true) : freeP ar he = nsP k := by
  obtain ⟨i, h1, h2⟩ := free_some ar he
  have hki : k ≤ i := by
    rcases Nat.lt_or_ge i k with h | h
    · rw [hn i h] at h2; cases h2
    · exact h
  unfold freeP
  rw [freeF_is ar he _ 0 k (fun j _ hj => hn j hj) (Nat.zero_le _) (by omega) hk]
/-- Does a name want another prefix than its own? -/
def wantB (he : Sc) (n : Nm) : Bool := (lookS he n.pre).isSome && (!((lookS he n.pre).getD [] == n.uri) && !(n.uri == []))
def preP (ar he : Sc) (n : Nm) : List Nat := if wantB he n then freeP ar he else n.pre
def qnN (p l : List Nat) : List Nat := if p = [] then l else p ++ 58 :: l
/-- A name's text, and what stands there behind it. -/
def qnS (ar he : Sc) (n : Nm) : List Nat × Sc := (qnN (preP ar he n) n.loc, setS he (preP ar he n) n.uri)
def atS (ar he : Sc) (n : Nm) : List Nat × Sc := if n.pre = [] then (n.loc, he) else qnS ar he n
/-- The declarations of a tag. -/
def declP (ar he : Sc) (p : List Nat) : List (List Nat × List Nat) := if (lookS ar p).getD [] = (lookS he p).getD [] then [] else if p = [] then [(xmlnsL, (lookS he p).getD [])] else [(xmlnsL ++ 58 :: p, (lookS he p).getD [])]
def declsP (ar he : Sc) (ks : List (List Nat)) : List (List Nat × List Nat) := ks.flatMap (declP ar he)
end Go.Proofs.YtllhajjceecjdaaDoor
