/- Several texts, laid as one. -/
import Derived.Test.YtefjfjieoiegnaaGreatDoorXmlValue
/- Attributes: xmlscan's attributes. -/
namespace Go.Proofs.YtefjfjieoiegnaaGreatDoor
open Go.RowKit
abbrev PlacesAt (w : World) (b n : Nat) (D : DataW Unit) : Prop := w.ownsMap Tryz.prog 9 (plainElem Tryz.prog 3) b n D
def hasAll (D : DataW Unit) (names : List (List Nat)) : Prop := ∀ x, okL x → Maps.has D (.string (tx x)) = names.contains x
/-- Attributes in their variable, and the names in theirs, beside the reader. -/
structure AttAt (w : World) (p m : Nat) (vo vt vr : Value) (s s' : RS) (acc : List (List Nat × List Nat)) (names : List (List Nat)) (va : Value) (w' : World) : Prop where
  adv : AdvT s s'
  kp : Kp (fun k => k = p) w w'
  blk : w'.heap[p]? = some (.cells (rdArr s' m vo vt vr) 63 (0, 0))
  row : AttrsAt w' w.heap.size va acc
  map : ∃ D, PlacesAt w' w.heap.size names.length D ∧ hasAll D names
section
variable {w : World} {p m : Nat} {vo vt vr : Value} {s s' : RS} {acc : List (List Nat × List Nat)} {names : List (List Nat)} {va : Value} {w' : World}
theorem AttAt.rd {B : Nat} (h : AttAt w p m vo vt vr s s' acc names va w') (R : Rd w B p m vo vt vr s) : Rd w' B p m vo vt vr s' := h.kp.rd R h.adv h.blk
theorem AttAt.low {B : Nat} (h : AttAt w p m vo vt vr s s' acc names va w') (hB : B ≤ p) (hp : p < w.heap.size) : Below B w w' := h.kp.low (by omega) (fun k hk => by omega)
theorem AttAt.maplt (h : AttAt w p m vo vt vr s s' acc names va w') : w.heap.size < w'.heap.size := by
  obtain ⟨D, hD, _⟩ := h.map
  exact hD.lt
theorem Kp.then {S : Nat → Prop} {a b c : World} (h : Kp S a b) (g : Kp S b c) : Kp S a c :=
  ⟨g.os.trans h.os, g.tape.trans h.tape, g.output.trans h.output, Nat.le_trans h.size g.size, fun k hk hs => (g.block k (Nat.lt_of_lt_of_le hk h.size) hs).trans (h.block k hk hs)⟩
theorem Kp.below {p : Nat} {a b : World} (h : Below a.heap.size a b) : Kp (fun k => k = p) a b := ⟨h.os, h.tape, h.output, h.size, fun k hk _ => h.block k hk⟩
theorem Kp.moves {p n : Nat} {a b : World} (h : Moves p n a b) (hp : p < a.heap.size) : Kp (fun k => k = p) a b := by
  have hb := h.low (B := p) (Nat.le_refl _) (by omega)
  exact ⟨hb.os, hb.tape, hb.output, hb.size, fun k hk hs => h.block hk hs⟩
theorem AttAt.step (h : AttAt w p m vo vt vr s s' acc names va w') (hp : p < w.heap.size) {s2 : RS} {W : World} (ha : AdvT s' s2) (hk : Kp (fun k => k = p) w' W) (hb : W.heap[p]? = some (.cells (rdArr s2 m vo vt vr) 63 (0, 0))) : AttAt w p m vo vt vr s s2 acc names va W := by
  refine ⟨h.adv.then ha, h.kp.then hk, hb, ?_, ?_⟩
  · refine owns_kept (S := (· = p)) h.row (fun k o hk' hs => ?_) (fun k hk' hs => by have := (h.row.lt k hk').1; omega)
    rw [hk.block k (Array.getElem?_eq_some_iff.1 hk').1 hs]; exact hk'
  · obtain ⟨D, ⟨es, ck, h1, h2⟩, h3⟩ := h.map
    exact ⟨D, ⟨es, ck, by rw [hk.block _ h.maplt (by omega)]; exact h1, h2⟩, h3⟩
theorem AttAt.moved (h : AttAt w p m vo vt vr s s' acc names va w') (hp : p < w.heap.size) {s2 : RS} {W : World} (ha : Adv s' s2) (hm : Moves p s2.place w' W) : AttAt w p m vo vt vr s s2 acc names va W := by
  refine h.step hp ha.t (Kp.moves hm (by have := h.kp.size; omega)) ?_
  rw [hm.own h.blk]
  obtain ⟨k, rfl⟩ := ha
  unfold rdArr
  rw [adv_whole]
  rfl
theorem AttAt.on (h : AttAt w p m vo vt vr s s' acc names va w') (hp : p < w.heap.size) {W : World} (hb : Below w'.heap.size w' W) : AttAt w p m vo vt vr s s' acc names va W :=
  h.step hp (AdvT.refl _) (Kp.below hb) (block_below h.blk hb)
/-- A look-up among the names. -/
theorem AttAt.look (h : AttAt w p m vo vt vr s s' acc names va w') {n : List Nat} (hn : okL n) (hz : (T n).size ≤ 1000000) : ∃ c, (Instr.lookup 132 (.map (some w.heap.size)) (.string (T n)) true).run Tryz.prog w' = .ok (.tuple #[.int .i64 c, .bool (names.contains n)]) w' := by
  obtain ⟨D, hD, hh⟩ := h.map
  have hz0 : (zeroValue 3).run Tryz.prog w' = .ok (.int .i64 0) w' := by kernel_rfl
  obtain ⟨v, ps, hrun, hv⟩ := hD.look_ok (Maps.string_keyed Tryz.underlying9) Tryz.underlying132 hz0 (plainElem_int Tryz.underlying3 (by decide)) (Go.WideMaps.keyOf_string_mk Tryz.underlying9 (by unfold maxLen; omega : (T n).size ≤ maxLen))
  obtain ⟨c, rfl, _, _⟩ := plainElem_int_inv Tryz.underlying3 hv
  rw [T_data, hh n hn] at hrun
  exact ⟨c, hrun⟩
/-- A name more. -/
theorem AttAt.named (h : AttAt w p m vo vt vr s s' acc names va w') (hp : p < w.heap.size) {n : List Nat} (hn : okL n) {W : World} {D : DataW Unit} (hk : WideAt.IsKeyLit (.string (tx n))) (hD : PlacesAt w' w.heap.size names.length D) (hh : hasAll D names) {d : DataW Unit} (hW : PlacesAt W w.heap.size (names.length + 1) (D.put (.string (tx n)) d)) (hg : w'.grownBy W (some w.heap.size)) : AttAt w p m vo vt vr s s' acc (names ++ [n]) va W := by
  have hz := h.kp.size
  refine ⟨h.adv, ⟨hg.os.trans h.kp.os, hg.tape.trans h.kp.tape, hg.output.trans h.kp.output, Nat.le_trans hz hg.size, fun k hk hs => ?_⟩, ?_, ?_, ?_⟩
  · rw [hg.block k (by omega) (fun e => by cases e; omega), h.kp.block k hk hs]
  · rw [hg.block p (by omega) (fun e => by cases e; omega)]; exact h.blk
  · refine owns_kept (S := (· = w.heap.size)) h.row (fun k o hk' hs => ?_) (fun k hk' hs => ?_)
    · rw [hg.block k (Array.getElem?_eq_some_iff.1 hk').1 (fun e => hs (by cases e; rfl))]; exact hk'
    · subst hs
      obtain ⟨es, ck, h1, _⟩ := hD
      obtain ⟨c, hc⟩ := owns_type h.row hk'
      rw [h1] at hc
      cases hc
  · refine ⟨_, by rw [List.length_append]; exact hW, fun x hx => ?_⟩
    by_cases e : x = n
    · subst e
      rw [Maps.has_put_same hD.isMap hk]
      simp
    · rw [Maps.has_put_other (fun e' => e (tx_inj hx hn (Lit.string.inj e'))), hh x hx]
      simp [e]
/-- A pair more. -/
theorem AttAt.grown (h : AttAt w p m vo vt vr s s' acc names va w') (hp : p < w.heap.size) {W w2 : World} (hb : Below w'.heap.size w' W) (hg : W.grownBy w2 va.ownBlock) {v2 : Value} {acc2 : List (List Nat × List Nat)} (hown : AttrsAt w2 w.heap.size v2 acc2) : AttAt w p m vo vt vr s s' acc2 names v2 w2 := by
  have hz := h.kp.size
  have hz2 := hb.size
  have hlow : ∀ k, va.ownBlock = some k → w.heap.size ≤ k := fun k hk => (h.row.lt k hk).1
  have hml := h.maplt
  refine ⟨h.adv, ⟨hg.os.trans (hb.os.trans h.kp.os), hg.tape.trans (hb.tape.trans h.kp.tape), hg.output.trans (hb.output.trans h.kp.output), by have := hg.size; omega, fun k hk hs => ?_⟩, ?_, hown, ?_⟩
  · rw [hg.block k (by omega) (fun e => by have := hlow k e.symm; omega), hb.block k (by omega), h.kp.block k hk hs]
  · rw [hg.block p (by omega) (fun e => by have := hlow p e.symm; omega), hb.block p (by omega)]; exact h.blk
  · obtain ⟨D, ⟨es, ck, h1, h2⟩, h3⟩ := h.map
    refine ⟨D, ⟨es, ck, ?_, h2⟩, h3⟩
    rw [hg.block _ (by omega) (fun e => ?_), hb.block _ hml]
    · exact h1
    · obtain ⟨c, hc⟩ := owns_type h.row e.symm
      rw [h1] at hc
      cases hc
end
end Go.Proofs.YtefjfjieoiegnaaGreatDoor
/- Attributes: xmlscan's attributes, walked. -/
namespace Go.Proofs.YtefjfjieoiegnaaGreatDoor
open Go.RowKit
end Go.Proofs.YtefjfjieoiegnaaGreatDoor
