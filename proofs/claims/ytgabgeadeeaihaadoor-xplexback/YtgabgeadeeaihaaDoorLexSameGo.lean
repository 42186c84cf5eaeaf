/- Are tokens the same: the law's Same. -/
import Derived.Test.YtgabgeadeeaihaaDoorLexJoin
import Derived.Deep.QuietTactic
import Derived.BigQuiet
namespace Go.Proofs.YtgabgeadeeaihaaDoor
open Go.RowKit
theorem same_none (a b : Option Addr) (c d : Nat) (w : World) :
    Calls Tryd.prog 15 #[.slice a 0 c, .slice b 0 d, .bool false] w fun e w' => e = .returned (.bool true) ∧ Below w.heap.size w w' := by
  go_enter Tryd.func15, Tryd.ntmps15
  go_wp2_with fail
  refine wp_loop_rounds 1 ?_
  rw [rounds_succ]
  go_wp2
  go_ret
  exact ⟨rfl, Below.refl _ _⟩
set_option maxRecDepth 100000 in
set_option maxHeartbeats 4000000 in
theorem same_any (ls ms : Lexs) (g h c d : Nat) (w : World) (hl : LexsAt w g 0 ls) (hm : LexsAt w h 0 ms) (hn : ls.length ≤ 2000000) (he : ms.length = ls.length)
    (hs : ∀ (i : Nat) (x y : Int × ByteArray × Int), ls[i]? = some x → ms[i]? = some y → x.1 = y.1 ∧ x.2.1 = y.2.1) :
    Calls Tryd.prog 15 #[.slice (some ⟨g, 0, none⟩) ls.length c, .slice (some ⟨h, 0, none⟩) ls.length d, .bool false] w fun e w' => e = .returned (.bool true) ∧ Below w.heap.size w w' := by
  have HL := hide hl
  have HM := hide hm
  have HS := hide hs
  have HQ := hide he
  clear hl hm hs he
  go_enter Tryd.func15, Tryd.ntmps15
  go_wp2_with fail
  go_loopw [7] (fun i wr => ∃ k : Nat, i = .int .i64 (k : Nat) ∧ k ≤ ls.length ∧ Below w.heap.size w wr) (fun i _ => ls.length - (intOf i).toNat)
  case atStart => exact ⟨0, rfl, Nat.zero_le _, Below.refl _ _⟩
  case round =>
    obtain ⟨k, rfl, hk, hbr⟩ := hrel
    by_cases hlt : k < ls.length
    · obtain ⟨x, hx⟩ : ∃ x, ls[k]? = some x := ⟨ls[k], List.getElem?_eq_getElem hlt⟩
      obtain ⟨y, hy⟩ : ∃ y, ms[k]? = some y := ⟨ms[k]'(by rw [unhide HQ]; exact hlt), List.getElem?_eq_getElem _⟩
      obtain ⟨c0, c1, c2⟩ := (unhide HL).below hbr k x hx
      obtain ⟨d0, d1, d2⟩ := (unhide HM).below hbr k y hy
      obtain ⟨s0, s1⟩ := unhide HS k x y hx hy
      clear hx hy c2 d2
      obtain ⟨xk, xx, xa⟩ := x
      obtain ⟨yk, yx, ya⟩ := y
      simp only [Nat.zero_add] at c0 c1 d0 d1 s0 s1
      subst s0 s1
      have n1 : (0 : Int) ≤ (k : Int) := by omega
      have n2 : (k : Int) < (ls.length : Int) := by omega
      go_wp2_with fail
      go_quiet (fail)
      go_wp2
      exact ⟨⟨k + 1, by go_num, by omega, Below.then hbr (below_drewN _ _)⟩, by simp [intOf]; omega⟩
    · obtain rfl : k = ls.length := by omega
      go_wp2
      go_ret
      exact ⟨rfl, hbr⟩
end Go.Proofs.YtgabgeadeeaihaaDoor
