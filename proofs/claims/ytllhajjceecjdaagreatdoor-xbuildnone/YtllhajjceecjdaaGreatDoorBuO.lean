/- A builder in memory, its small steps: xbuild's New, Deep, isFull, inner, innermost, isEmpty, add, push, put, Open. -/
import Derived.Test.YtllhajjceecjdaaGreatDoorBuD
namespace Go.Proofs.YtllhajjceecjdaaGreatDoor
open Go.RowKit Go.Maps
/-- A builder's block. -/
def BV (w : World) (p : Nat) (vo vn : Value) (k : Int) : Prop := w.heap[p]? = some (.cells #[vo, vn, .int .i64 k] 46 (0, 0))
/-- An element's block. -/
def EV (w : World) (p : Nat) (vn : Value) (n : Nm) (va m : Value) : Prop := w.heap[p]? = some (.cells #[vn, .string (T n.uri), .string (T n.pre), .string (T n.loc), va, m] 64 (0, 0))
theorem new_any (w : World) :
    Calls Tryz.prog 17 #[] w fun e w' => e = .returned (.pointer (some ⟨w.heap.size, 0, none⟩)) ∧ w' = w.alloc (.cells #[.slice none 0 0, .slice none 0 0, .int .i64 0] 46) := by
  go_enter Tryz.func17, Tryz.ntmps17
  go_wp2
  go_ret
  exact ⟨rfl, rfl⟩
theorem deep_any (p : Nat) (ao : Option Addr) (n c : Nat) (vn : Value) (k : Int) (w : World) (h : BV w p (.slice ao n c) vn k) :
    Calls Tryz.prog 13 #[.pointer (some ⟨p, 0, none⟩)] w fun e w' => e = .returned (.int .i64 (n : Int)) ∧ w' = w := by
  have c0 : w.cell? ⟨p, 0, none⟩ = some (.slice ao n c) := blk_cell h 0
  go_enter Tryz.func13, Tryz.ntmps13
  go_wp2
  go_returns
  exact ⟨rfl, rfl⟩
theorem isFull_any (p : Nat) (vo vn : Value) (k : Int) (w : World) (h : BV w p vo vn k) :
    Calls Tryz.prog 19 #[.pointer (some ⟨p, 0, none⟩)] w fun e w' => e = .returned (.bool (k == 4096)) ∧ w' = w := by
  have c0 : w.cell? ⟨p, 2, none⟩ = some (.int .i64 k) := blk_cell h 2
  go_enter Tryz.func19, Tryz.ntmps19
  go_wp2
  go_returns
  exact ⟨rfl, rfl⟩
theorem i64W (n : Int) : IntKind.i64.wrap n = wrap64 n := by
  unfold wrap64
  rw [IntKind.wrap_i64]
theorem innermost_any (p g q : Nat) (L n c : Nat) (w : World) (hL : L = n + 1) (hL2 : L ≤ 1000000) (h : w.cell? ⟨p, 0, none⟩ = some (.slice (some ⟨g, 0, none⟩) L c)) (hg : w.cell? ⟨g, n, none⟩ = some (.pointer (some ⟨q, 0, none⟩))) :
    Calls Tryz.prog 26 #[.pointer (some ⟨p, 0, none⟩)] w fun e w' => e = .returned (.pointer (some ⟨q, 0, none⟩)) ∧ Below w.heap.size w w' := by
  have n1 : (0 : Int) ≤ (n : Int) := by omega
  have n2 : (n : Int) < (L : Int) := by omega
  have n3 : IntKind.i64.wrap ((L : Int) - 1) = (n : Int) := by
    have e : wrap64 ((L : Int) - 1) = (n : Int) := by unfold wrap64; omega
    exact (i64W _).trans e
  have n4 : wrap64 ((L : Int) - 1) = (n : Int) := by unfold wrap64; omega
  have HX := hide (show ClsB w w.drew from ⟨(Below.refl _ _).drew⟩)
  have HCE := hide (fun w' (hC : ClsB w w') => And.intro (keptC hC.bel h) (keptC hC.bel hg))
  clear hL hL2
  go_enter Tryz.func26, Tryz.ntmps26
  go_wp2_with fail
  refine wp_region_cls (ClsB w) (by kernel_rfl) (by kernel_rfl) (unhide HX) ?_
  repeat
    (first
      | go_big_quiet_skip
      | (go_big_quiet_want
         go_big_quiet_op
         first
           | go_big_quiet_on
           | (apply Exists.intro
              refine ⟨fun w' hC => ?_, ?_⟩
              · (obtain ⟨k0, k1⟩ := unhide HCE _ hC; go_simp; first | done | rfl)
              go_big_quiet_on)))
  refine wpQuiet_nil ?_
  intro w2 hC2
  have hb := hC2.bel
  clear hC2 HX HCE
  go_wp2
  go_returns
  exact ⟨rfl, hb⟩
theorem isEmpty_any (p o : Nat) (ao : Option Addr) (n c : Nat) (w : World) (h : w.cell? ⟨p, o, none⟩ = some (.slice ao n c)) :
    Calls Tryz.prog 39 #[.pointer (some ⟨p, o, none⟩)] w fun e w' => e = .returned (.bool ((n : Int) == 0)) ∧ w' = w := by
  go_enter Tryz.func39, Tryz.ntmps39
  go_wp2
  go_returns
  exact ⟨rfl, rfl⟩
theorem inner_top (p : Nat) (ao : Option Addr) (c : Nat) (vn : Value) (k : Int) (w : World) (h : BV w p (.slice ao 0 c) vn k) :
    Calls Tryz.prog 29 #[.pointer (some ⟨p, 0, none⟩)] w fun e w' => e = .returned (.pointer (some ⟨p, 1, none⟩)) ∧ w' = w := by
  have HD := hide (fun w' (hw : w' = w) => deep_any p ao 0 c vn k w' (by rw [hw]; exact h))
  go_enter Tryz.func29, Tryz.ntmps29
  go_wp2_with fail
  refine (unhide HD _ rfl).mono ?_
  rintro e w1 ⟨rfl, rfl⟩
  go_wp2
  go_returns
  exact ⟨rfl, rfl⟩
end Go.Proofs.YtllhajjceecjdaaGreatDoor
