/- Several texts, laid as one. -/
import Derived.Test.YtllhajjceecjdaaGreatDoorGbb
import Derived.Maps.Ext
import Derived.Maps.RangeWalk
/- An attribute's name, expanded: xdm's expandAttribute. -/
namespace Go.Proofs.YtllhajjceecjdaaGreatDoor
open Go.RowKit
end Go.Proofs.YtllhajjceecjdaaGreatDoor
/- What prefixes stand for, copied and changed: maps.Copy, xdm's copied, declare. -/
namespace Go.Proofs.YtllhajjceecjdaaGreatDoor
open Go.RowKit Go.Maps
theorem strKeyed : Maps.Keyed Tryz.prog 9 := Maps.string_keyed Tryz.underlying9
theorem strInv {P : Program} {k : TypeId} (hk : P.underlying k = some .string) {key : Value} {kl : Lit} (h : keyOf P k key = some kl) : ∃ s : ByteArray, key = .string s ∧ s.size ≤ maxLen ∧ kl = .string s.data.toList := by
  have e : keyOf P k key = mapKey P k key := by simp [keyOf, hk]
  rw [e] at h
  cases key with
  | string s =>
    simp [mapKey, hk] at h
    exact ⟨s, rfl, h.1, h.2.symm⟩
  | _ => simp [mapKey, hk] at h
theorem str_inv {key : Value} {kl : Lit} (h : keyOf Tryz.prog 9 key = some kl) : ∃ s : ByteArray, key = .string s ∧ s.size ≤ maxLen ∧ kl = .string s.data.toList := strInv Tryz.underlying9 h
theorem ent_inv {v : Value} {y : DataW Unit × List MemPlace} (h : entElem v = some y) : ∃ c : ByteArray, v = .agg #[.string c] ∧ y = (.agg [.lit (.string c.data.toList)], []) := by
  unfold entElem at h
  split at h
  · rename_i a
    unfold entCells at h
    split at h
    · rename_i s hs
      cases h
      exact ⟨s, by rw [show a = #[.string s] from Array.toList_inj.1 hs], rfl⟩
    · cases h
  · cases h
/-- A copy: another map of the same. -/
theorem scD_size (s : Sc) : Maps.size (scD s) = s.length := by
  unfold scD
  rw [Maps.size_eq, List.length_map]
end Go.Proofs.YtllhajjceecjdaaGreatDoor
/- A prefix declared: xdm's declare. -/
namespace Go.Proofs.YtllhajjceecjdaaGreatDoor
open Go.RowKit Go.Maps
def scE (x : List Nat × List Nat) : Lit × DataW Unit := (.string (tx x.1), .agg [.lit (.string (tx x.2))])
theorem scD_eq (s : Sc) : scD s = .map (s.map scE) := rfl
theorem scD_filter {p : List Nat} (hp : okL p) : ∀ s : Sc, (∀ x ∈ s, okL x.1) → (s.map scE).filter (fun q => !q.1.sameKey (.string (tx p))) = (delS s p).map scE
  | [], _ => rfl
  | x :: s, h => by
    have ih := scD_filter hp s (fun y hy => h y (List.mem_cons_of_mem _ hy))
    have hk : (scE x).1.sameKey (.string (tx p)) = (x.1 == p) := key_same (h x (List.mem_cons_self ..)) hp
    rw [List.map_cons, List.filter_cons, hk]
    unfold delS
    rw [List.filter_cons]
    cases x.1 == p
    · simp only [Bool.not_false, if_true, List.map_cons]
      exact congrArg _ ih
    · simp only [Bool.not_true, Bool.false_eq_true, if_false]
      exact ih
theorem scD_insert (x : List Nat × List Nat) : ∀ s : Sc, DataW.insert (scE x) (s.map scE) = (insS x s).map scE
  | [] => rfl
  | y :: s => by
    have ih := scD_insert x s
    show (if bytesBefore (tx x.1) (tx y.1) then scE x :: scE y :: s.map scE else scE y :: DataW.insert (scE x) (s.map scE)) = (if bytesBefore (tx x.1) (tx y.1) then x :: y :: s else y :: insS x s).map scE
    split
    · rfl
    · rw [ih]; rfl
theorem scD_put {s : Sc} {p u : List Nat} (h : ∀ x ∈ s, okL x.1) (hp : okL p) : (scD s).put (.string (tx p)) (.agg [.lit (.string (tx u))]) = scD (setS s p u) := by
  rw [scD_eq, scD_eq]
  show DataW.map (DataW.insert (scE (p, u)) ((s.map scE).filter fun q => !q.1.sameKey (.string (tx p)))) = _
  rw [scD_filter hp s h, scD_insert]
  rfl
theorem insS_mem {x y : List Nat × List Nat} : ∀ {s : Sc}, y ∈ insS x s → y = x ∨ y ∈ s
  | [], h => .inl (List.mem_singleton.1 h)
  | z :: s, h => by
    unfold insS at h
    split at h
    · rcases List.mem_cons.1 h with h | h
      · exact .inl h
      · exact .inr h
    · rcases List.mem_cons.1 h with h | h
      · exact .inr (by rw [h]; exact List.mem_cons_self ..)
      · rcases insS_mem h with h | h
        · exact .inl h
        · exact .inr (List.mem_cons_of_mem _ h)
theorem insS_len (x : List Nat × List Nat) : ∀ s : Sc, (insS x s).length = s.length + 1
  | [] => rfl
  | z :: s => by
    unfold insS
    split
    · rfl
    · rw [List.length_cons, insS_len x s, List.length_cons]
theorem OkSc.del {s : Sc} (h : OkSc s) (p : List Nat) : OkSc (delS s p) := fun x hx => h x (List.mem_filter.1 hx).1
theorem OkSc.declare {s : Sc} (h : OkSc s) {p u : List Nat} (hp : okL p) (hu : okL u) (h1 : (T p).size ≤ 1048576) (h2 : (T u).size ≤ 1048576) : OkSc (declareD s p u) := by
  unfold declareD
  split
  · exact h
  · split
    · exact h.del p
    · intro x hx
      rcases insS_mem hx with rfl | hx
      · exact ⟨⟨hp, hu⟩, h1, h2⟩
      · exact h.del p x hx
theorem owns_fit {w : World} {b n : Nat} {s : Sc} (h : w.ownsMap Tryz.prog 9 entElem b n (scD s)) : w.ownsMap Tryz.prog 9 entElem b s.length (scD s) := by
  obtain ⟨es, clock, hb, F, hs, hD⟩ := h
  refine ⟨es, clock, hb, F, ?_, hD⟩
  have := congrArg Maps.size hD
  rw [scD_size] at this
  simp [Maps.size, length_sorted] at this
  omega
end Go.Proofs.YtllhajjceecjdaaGreatDoor
