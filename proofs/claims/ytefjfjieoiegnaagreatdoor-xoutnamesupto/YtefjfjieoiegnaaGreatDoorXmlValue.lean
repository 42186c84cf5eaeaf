/- An attribute's value: xmlscan's value. -/
import Derived.Test.YtefjfjieoiegnaaGreatDoorGbc
import Derived.Test.YtefjfjieoiegnaaGreatDoorGbh
namespace Go.Proofs.YtefjfjieoiegnaaGreatDoor
open Go.RowKit
attribute [local go_sem] jumps_normal jumps_exit jumps_ret jumps_goto jumps_panic
/-- A value's text in its variable, beside the reader. -/
structure ValAt (w : World) (p m : Nat) (vo vt vr : Value) (s s' : RS) (t : List Nat) (vx : Value) (w' : World) : Prop where
  adv : AdvT s s'
  kp : Kp (fun k => k = p) w w'
  blk : w'.heap[p]? = some (.cells (rdArr s' m vo vt vr) 63 (0, 0))
  box : w'.heap[w.heap.size]? = some (.cells #[vx] 48 (0, 0))
  row : w'.ownsRow w.heap.size 5 1 vx (tx t).length (byteCells (tx t))
  ok : okL t
theorem Kp.rd {w w' : World} {B p m : Nat} {vo vt vr : Value} {s s' : RS} (R : Rd w B p m vo vt vr s) (hk : Kp (fun k => k = p) w w') (ha : AdvT s s')
    (hb : w'.heap[p]? = some (.cells (rdArr s' m vo vt vr) 63 (0, 0))) : Rd w' B p m vo vt vr s' := by
  refine R.keep (· = p) (fun k o hk' hs => ?_) (fun k hs => ?_) hb ?_ ?_ ?_ ?_
  · rw [hk.block k (Array.getElem?_eq_some_iff.1 hk').1 hs]; exact hk'
  · subst hs
    exact ⟨_, _, R.blk, by decide, by decide, by decide, by decide⟩
  all_goals (obtain ⟨k, n, rfl, _⟩ := ha; rfl)
section
variable {w : World} {p m : Nat} {vo vt vr : Value} {s s' : RS} {t : List Nat} {vx : Value} {w' : World}
theorem ValAt.rd {B : Nat} (h : ValAt w p m vo vt vr s s' t vx w') (R : Rd w B p m vo vt vr s) : Rd w' B p m vo vt vr s' := h.kp.rd R h.adv h.blk
theorem ValAt.boxlt (h : ValAt w p m vo vt vr s s' t vx w') : w.heap.size < w'.heap.size := (Array.getElem?_eq_some_iff.1 h.box).1
theorem ValAt.rowlow (h : ValAt w p m vo vt vr s s' t vx w') : ∀ k, vx.ownBlock = some k → w.heap.size ≤ k ∧ k < w'.heap.size ∧ k ≠ w.heap.size := fun k hk =>
  ⟨(h.row.lt k hk).1, (h.row.lt k hk).2, fun e => owns_not h.row h.box (by decide) (e ▸ hk)⟩
theorem ValAt.low {B : Nat} (h : ValAt w p m vo vt vr s s' t vx w') (hB : B ≤ p) (hp : p < w.heap.size) : Below B w w' := h.kp.low (by omega) (fun k hk => by omega)
theorem ValAt.moved (h : ValAt w p m vo vt vr s s' t vx w') (hp : p < w.heap.size) {s2 : RS} {W : World} (ha : Adv s' s2) (hm : Moves p s2.place w' W) : ValAt w p m vo vt vr s s2 t vx W := by
  have hz := h.boxlt
  refine ⟨h.adv.then ha.t, ?_, ?_, ?_, ?_, h.ok⟩
  · have hb := hm.low (B := p) (Nat.le_refl _) (by omega)
    refine ⟨hb.os.trans h.kp.os, hb.tape.trans h.kp.tape, hb.output.trans h.kp.output, by have := hb.size; have := h.kp.size; omega, fun k hk hs => ?_⟩
    rw [hm.block (by have := h.kp.size; omega) hs, h.kp.block k hk hs]
  · rw [hm.own h.blk]
    obtain ⟨k, rfl⟩ := ha
    unfold rdArr
    rw [adv_whole]
    rfl
  · rw [hm.block hz (by omega)]; exact h.box
  · refine owns_kept (S := (· = p)) h.row (fun k o hk hs => ?_) (fun k hk hs => by have := (h.rowlow k hk).1; omega)
    rw [hm.block (Array.getElem?_eq_some_iff.1 hk).1 hs]; exact hk
theorem Adv.refl (s : RS) : Adv s s := ⟨0, by unfold RS.adv; simp⟩
theorem ValAt.on (h : ValAt w p m vo vt vr s s' t vx w') {W : World} (hb : Below w'.heap.size w' W) : ValAt w p m vo vt vr s s' t vx W := by
  have hz := h.boxlt
  refine ⟨h.adv, ⟨hb.os.trans h.kp.os, hb.tape.trans h.kp.tape, hb.output.trans h.kp.output, by have := hb.size; have := h.kp.size; omega, fun k hk hs => ?_⟩, block_below h.blk hb, block_below h.box hb, owns_below h.row hb, h.ok⟩
  rw [hb.block k (by have := h.kp.size; omega), h.kp.block k hk hs]
/-- A text grew, and its variable holds it; the reader may have spent. -/
theorem ValAt.grownS (h : ValAt w p m vo vt vr s s' t vx w') (hp : p < w.heap.size) {w2 : World} {s2 : RS} (ha : AdvT s s2) (hg : ∀ k, k < w'.heap.size → vx.ownBlock ≠ some k → k ≠ p → w2.heap[k]? = w'.heap[k]?) (hbl : w2.heap[p]? = some (.cells (rdArr s2 m vo vt vr) 63 (0, 0))) (hk2 : w2.os = w'.os ∧ w2.tape = w'.tape ∧ w2.output = w'.output ∧ w'.heap.size ≤ w2.heap.size) {v2 : Value} {t2 : List Nat} (hok : okL t2) (hown : w2.ownsRow w.heap.size 5 1 v2 (tx t2).length (byteCells (tx t2))) :
    w2.heap[w.heap.size]? = some (.cells #[vx] 48 (0, 0)) ∧ ValAt w p m vo vt vr s s2 t2 v2 (w2.setCell ⟨w.heap.size, 0, none⟩ v2) := by
  have hz := h.boxlt
  have hk := h.kp.size
  have e1 : w2.heap[w.heap.size]? = some (.cells #[vx] 48 (0, 0)) := by
    rw [hg _ hz (fun e => (h.rowlow _ e).2.2 rfl) (by omega)]
    exact h.box
  refine ⟨e1, ha, ?_, ?_, (blk_set e1 0 v2).trans rfl, owns_kept (S := (· = w.heap.size)) hown (fun k o hk hs => by rw [blk_other hs]; exact hk) (fun k hk' hs => by subst hs; exact owns_not hown e1 (by decide) hk'), hok⟩
  · refine ⟨hk2.1.trans h.kp.os, hk2.2.1.trans h.kp.tape, hk2.2.2.1.trans h.kp.output, by rw [blk_size]; have := hk2.2.2.2; omega, fun k hk hs => ?_⟩
    rw [blk_other (by omega), hg k (by omega) (fun e => by have := (h.rowlow k e).1; omega) hs, h.kp.block k hk hs]
  · rw [blk_other (by omega), hbl]
theorem ValAt.grown (h : ValAt w p m vo vt vr s s' t vx w') (hp : p < w.heap.size) {w2 : World} (hg : ∀ k, k < w'.heap.size → vx.ownBlock ≠ some k → w2.heap[k]? = w'.heap[k]?) (hk2 : w2.os = w'.os ∧ w2.tape = w'.tape ∧ w2.output = w'.output ∧ w'.heap.size ≤ w2.heap.size) {v2 : Value} {t2 : List Nat} (hok : okL t2) (hown : w2.ownsRow w.heap.size 5 1 v2 (tx t2).length (byteCells (tx t2))) :
    w2.heap[w.heap.size]? = some (.cells #[vx] 48 (0, 0)) ∧ ValAt w p m vo vt vr s s' t2 v2 (w2.setCell ⟨w.heap.size, 0, none⟩ v2) :=
  h.grownS hp h.adv (fun k hk hne _ => hg k hk hne) (by have := h.kp.size; rw [hg p (by omega) (fun e => by have := (h.rowlow p e).1; omega)]; exact h.blk) hk2 hok hown
end
end Go.Proofs.YtefjfjieoiegnaaGreatDoor
