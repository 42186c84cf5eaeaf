/- The element that is open alone is closed: xbuild's pop, Close. -/
import Derived.Test.YtllhajjceecjdaaGreatDoorBuAt
namespace Go.Proofs.YtllhajjceecjdaaGreatDoor
open Go.RowKit Go.Maps
set_option maxRecDepth 100000 in
set_option maxHeartbeats 4000000 in
theorem pop_one (p g c : Nat) (vn : Value) (k : Int) (w : World) (h : BV w p (.slice (some ⟨g, 0, none⟩) 1 c) vn k) (hc : 1 ≤ c) :
    Calls Tryz.prog 22 #[.pointer (some ⟨p, 0, none⟩)] w fun e w' => e = .returned (.tuple #[]) ∧ ∃ ao c', BV w' p (.slice ao 0 c') vn k ∧ Kp (fun j => j = p) w w' := by
  have c0 : w.cell? ⟨p, 0, none⟩ = some (.slice (some ⟨g, 0, none⟩) 1 c) := blk_cell h 0
  have o0 := blk_open h 0
  have hpl : p < w.heap.size := (Array.getElem?_eq_some_iff.1 h).1
  go_enter Tryz.func22, Tryz.ntmps22
  go_wp2_with fail
  have HX := hide (show ClsB w w.drew from ⟨(Below.refl _ _).drew⟩)
  have HCE := hide (fun w' (hC : ClsB w w') => keptC hC.bel c0)
  have HH := hide (fun w' (hb : Below w.heap.size w w') => block_below h hb)
  clear c0 o0
  refine wp_region_cls_tail 12 (ClsB w) (by kernel_rfl) (by kernel_rfl) (by kernel_rfl) (unhide HX) ?_
  simp only [List.take_succ_cons, List.take_zero, List.drop_succ_cons, List.drop_zero]
  repeat
    (first
      | go_big_quiet_skip
      | (go_big_quiet_want
         go_big_quiet_op
         first
           | go_big_quiet_on
           | (apply Exists.intro
              refine ⟨fun w' hC => ?_, ?_⟩
              · (obtain k0 := unhide HCE _ hC; go_simp; first | done | rfl)
              go_big_quiet_on)))
  refine wpQuiet_nil ?_
  intro w2 hC2
  have h2 := unhide HH _ hC2.bel
  have c2 := blk_cell h2 0
  have o2 := blk_open h2 0
  have HF := hide (fun v => heap_setCell_same w2 p 0 _ _ v h2)
  have HK := hide (fun v => (Kp.of hC2.bel).andThen (S := fun j => j = p) (Kp.set w2 p 0 v) (fun _ _ h => h))
  clear h2 hC2 HX HCE HH
  go_wp2_with fail
  go_returns
  exact ⟨rfl, _, _, unhide HF _, unhide HK _⟩
theorem close_one (p g c : Nat) (vn : Value) (k : Int) (w : World) (h : BV w p (.slice (some ⟨g, 0, none⟩) 1 c) vn k) (hc : 1 ≤ c) :
    Calls Tryz.prog 7 #[.pointer (some ⟨p, 0, none⟩)] w fun e w' => e = .returned (.int .i64 0) ∧ ∃ ao c', BV w' p (.slice ao 0 c') vn k ∧ Kp (fun j => j = p) w w' := by
  have HD := hide (deep_any p _ 1 c vn k w h)
  have HP := hide (pop_one p g c vn k w h hc)
  clear h
  go_enter Tryz.func7, Tryz.ntmps7
  go_wp2_with fail
  refine (unhide HD).mono ?_
  rintro e w1 ⟨rfl, hw⟩
  have hw2 := hw.symm
  clear hw
  subst hw2
  go_wp2_with fail
  refine (unhide HP).mono ?_
  rintro e w2 ⟨rfl, hF⟩
  have HF := hide hF
  clear hF
  go_wp2_with fail
  go_returns
  exact ⟨rfl, unhide HF⟩
end Go.Proofs.YtllhajjceecjdaaGreatDoor
