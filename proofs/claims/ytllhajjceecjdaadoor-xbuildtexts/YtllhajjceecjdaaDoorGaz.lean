/- Several texts, laid as one. -/
import Derived.Test.YtllhajjceecjdaaDoorXdmM
import Derived.Test.YtllhajjceecjdaaDoorGau
import Derived.Maps.Views
import Derived.Test.YtllhajjceecjdaaDoorXmlTell
/- Names and prefixes: xdm's declared, mayDeclare, expand, expandAttribute. -/
namespace Go.Proofs.YtllhajjceecjdaaDoor
open Go.RowKit
theorem okL_cs {l : List Nat} (h : l.all (fun c => decide (32 ≤ c) && decide (c < 128)) = true) : okL l := fun c hc => by
  have := List.all_eq_true.1 h c hc
  simp at this
  simp [charR]
  omega
theorem xmlns_ok : okL xmlnsL := okL_cs (by decide)
theorem xml_ok : okL xmlL := okL_cs (by decide)
theorem uri_ok : okL xmlUriL := okL_cs (by decide)
theorem okL_e : okL [] := fun _ h => by cases h
theorem is_xmlns {n : List Nat} (h : okL n) : ((T n).toList == [120, 109, 108, 110, 115]) = (n == xmlnsL) := by
  rw [← eq_T h xmlns_ok]
  rfl
theorem is_xml {n : List Nat} (h : okL n) : ((T n).toList == [120, 109, 108]) = (n == xmlL) := by
  rw [← eq_T h xml_ok]
  rfl
theorem is_uri {n : List Nat} (h : okL n) : ((T n).toList == [104, 116, 116, 112, 58, 47, 47, 119, 119, 119, 46, 119, 51, 46, 111, 114, 103, 47, 88, 77, 76, 47, 49, 57, 57, 56, 47, 110, 97, 109, 101, 115, 112, 97, 99, 101]) = (n == xmlUriL) := by
  rw [← eq_T h uri_ok]
  rfl
theorem is_empty {n : List Nat} (h : okL n) : (T n).toList.isEmpty = (n == []) := by
  by_cases hn : n = []
  · subst hn; rw [T_toList]; rfl
  · rw [ne_T h hn]
    simp [hn]
end Go.Proofs.YtllhajjceecjdaaDoor
/- Names, expanded: xdm's expand, expandAttribute. -/
namespace Go.Proofs.YtllhajjceecjdaaDoor
open Go.RowKit
theorem key_same {a b : List Nat} (ha : okL a) (hb : okL b) : (Lit.string (tx a)).sameKey (.string (tx b)) = (a == b) := by
  show (tx a == tx b) = _
  rw [Bool.eq_iff_iff, beq_iff_eq, beq_iff_eq]
  exact ⟨tx_inj ha hb, fun e => by rw [e]⟩
theorem scD_find : ∀ (s : Sc) (p : List Nat), (∀ x ∈ s, okL x.1) → okL p → (s.map fun x => ((.string (tx x.1) : Lit), (.agg [.lit (.string (tx x.2))] : DataW Unit))).find? (fun q => q.1.sameKey (.string (tx p))) = (s.find? fun y => y.1 == p).map fun x => ((.string (tx x.1) : Lit), (.agg [.lit (.string (tx x.2))] : DataW Unit))
  | [], p, _, _ => rfl
  | x :: s, p, h, hp => by
    have ih := scD_find s p (fun y hy => h y (List.mem_cons_of_mem _ hy)) hp
    rw [List.map_cons, List.find?_cons, List.find?_cons, key_same (h x (List.mem_cons_self ..)) hp, ih]
    cases x.1 == p <;> rfl
theorem scD_has (s : Sc) (p : List Nat) (h : ∀ x ∈ s, okL x.1) (hp : okL p) : Maps.has (scD s) (.string (tx p)) = (lookS s p).isSome := by
  unfold scD lookS
  rw [Maps.has_eq, Bool.eq_iff_iff, List.any_eq_true, ← List.find?_isSome, scD_find s p h hp]
  cases s.find? fun y => y.1 == p <;> simp
theorem scD_at (s : Sc) (p : List Nat) (h : ∀ x ∈ s, okL x.1) (hp : okL p) : (scD s).atKey (.string (tx p)) (.agg [.lit (.string [])]) = .agg [.lit (.string (tx ((lookS s p).getD [])))] := by
  unfold scD lookS DataW.atKey
  simp only
  rw [scD_find s p h hp]
  cases s.find? fun y => y.1 == p <;> rfl
end Go.Proofs.YtllhajjceecjdaaDoor
/- The first character that may not be: xmlscan's firstBad. -/
namespace Go.Proofs.YtllhajjceecjdaaDoor
open Go.RowKit
theorem textB_txt (s : ByteArray) : textB s = true ↔ Txt s.data.toList := by
  have h := fault_txt s (s.size + 1) 0 (by omega)
  unfold textB
  rw [List.drop_zero] at h
  constructor
  · intro e
    exact h.1 (by simpa [fault] using e)
  · intro e
    have := h.2 e
    simpa [fault] using this
end Go.Proofs.YtllhajjceecjdaaDoor
