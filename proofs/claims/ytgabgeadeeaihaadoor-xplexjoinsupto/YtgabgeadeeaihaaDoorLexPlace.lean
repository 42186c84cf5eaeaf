/- What may stand behind the tokens that were read, and the first character that may not be: xplex's placeBehind and firstBad. -/
import Derived.Test.YtgabgeadeeaihaaDoorLexTok
namespace Go.Proofs.YtgabgeadeeaihaaDoor
open Go.RowKit
theorem placeBehind_nil (a : Option Addr) (c : Nat) (w : World) :
    Calls Tryd.prog 26 #[.slice a 0 c] w fun e w' => e = .returned (plV false) ∧ w' = w := by
  go_enter Tryd.func26, Tryd.ntmps26
  go_wp2
  go_ret
  exact ⟨rfl, rfl⟩
set_option maxHeartbeats 1000000 in
theorem placeBehind_last (g n cap : Nat) (k : Nat) (x : List Nat) (at' : Int) (w : World) (hx : okL x) (hn : n < 100000) (hk : k ≤ 9)
    (c0 : w.cell? ⟨g, n * 3, none⟩ = some (.int .i64 (k : Nat))) (c1 : w.cell? ⟨g, n * 3 + 1, none⟩ = some (.string (T x))) (c2 : w.cell? ⟨g, n * 3 + 2, none⟩ = some (.int .i64 at')) :
    Calls Tryd.prog 26 #[.slice (some ⟨g, 0, none⟩) (n + 1) cap] w fun e w' => e = .returned (plV (behindOp ⟨k, x, []⟩)) ∧ Below w.heap.size w w' := by
  have h1 := eq_asc hx [64] [64] rfl (by decide +kernel)
  have h2 := eq_asc hx [58, 58] [58, 58] rfl (by decide +kernel)
  have h3 := eq_asc hx [40] [40] rfl (by decide +kernel)
  have h4 := eq_asc hx [91] [91] rfl (by decide +kernel)
  have h5 := eq_asc hx [44] [44] rfl (by decide +kernel)
  have hO : behindOp ⟨k, x, []⟩ = !(k == 8 || (k == 9 && (x == [64] || x == [58, 58] || x == [40] || x == [91] || x == [44]))) := rfl
  have HO := hide hO
  clear hO
  generalize (x == [64]) = b1 at *
  generalize (x == [58, 58]) = b2 at *
  generalize (x == [40]) = b3 at *
  generalize (x == [91]) = b4 at *
  generalize (x == [44]) = b5 at *
  by_cases h8 : k = 8
  · subst h8
    go_enter Tryd.func26, Tryd.ntmps26
    go_wp2
    go_ret
    exact ⟨ret_int (by rw [unhide HO]; rfl), (Below.refl _ _).alloc (Nat.le_refl _) _⟩
  · by_cases h9 : k = 9
    · subst h9
      go_enter Tryd.func26, Tryd.ntmps26
      cases b1
      · cases b2
        · cases b3
          · cases b4
            · cases b5
              all_goals
                go_wp2
                go_ret
                exact ⟨ret_int (by rw [unhide HO]; rfl), (Below.refl _ _).alloc (Nat.le_refl _) _⟩
            · go_wp2
              go_ret
              exact ⟨ret_int (by rw [unhide HO]; rfl), (Below.refl _ _).alloc (Nat.le_refl _) _⟩
          · go_wp2
            go_ret
            exact ⟨ret_int (by rw [unhide HO]; rfl), (Below.refl _ _).alloc (Nat.le_refl _) _⟩
        · go_wp2
          go_ret
          exact ⟨ret_int (by rw [unhide HO]; rfl), (Below.refl _ _).alloc (Nat.le_refl _) _⟩
      · go_wp2
        go_ret
        exact ⟨ret_int (by rw [unhide HO]; rfl), (Below.refl _ _).alloc (Nat.le_refl _) _⟩
    · have g8 : ((k : Int) == 8) = false := by simp; omega
      have g9 : ((k : Int) == 9) = false := by simp; omega
      have f8 : (k == 8) = false := by simpa using h8
      have f9 : (k == 9) = false := by simpa using h9
      have F8 := hide f8
      have F9 := hide f9
      clear f8 f9
      go_enter Tryd.func26, Tryd.ntmps26
      go_wp2
      go_ret
      exact ⟨ret_int (by rw [unhide HO, unhide F8, unhide F9]; rfl), (Below.refl _ _).alloc (Nat.le_refl _) _⟩
set_option maxHeartbeats 1000000 in
theorem firstBad_any (s : ByteArray) (w : World) :
    Calls Tryd.prog 23 #[.string s] w fun e w' => (∃ k b, e = .returned (.tuple #[.int .i64 k, .bool b]) ∧ (b = false ↔ (fault s).1 = 0)) ∧ Below w.heap.size w w' := by
  go_enter Tryd.func23, Tryd.ntmps23
  go_wp2_with fail
  go_loopw [] (fun w' => ∃ (pos f : Nat), w' = w.iter s pos ∧ fault s = faultFrom s f pos ∧ s.size < pos + f) (fun w' => s.size - w'.iterPos w.heap.size)
  case atStart => exact ⟨0, s.size + 1, rfl, rfl, by omega⟩
  case round =>
    obtain ⟨pos, f, rfl, hf, hb⟩ := hrel
    by_cases hp : pos < s.size
    · have hnx : ∀ ty, (Instr.next (.pointer (some ⟨w.heap.size, 0, none⟩)) true ty).run Tryd.prog (w.iter s pos) = _ := fun ty => run_next_any w s pos ty hp
      have hwd := width_pos s pos hp
      obtain ⟨g, rfl, hg⟩ := faultFrom_step s f pos hp hb
      have HF := hide (hf.trans hg)
      clear hf hg
      go_wp2_with (first | (go_at_call 36; refine (hasMark_any s pos _).mono ?_; rintro e w' ⟨rfl, rfl⟩) | (go_at_call 37; refine (isChar_any _ _).mono ?_; rintro e w' ⟨rfl, rfl⟩))
      all_goals first
        | (go_ret2
           refine ⟨⟨_, _, rfl, ?_⟩, (Below.refl _ _).alloc (Nat.le_refl _) _⟩
           rw [unhide HF]
           simp_all; done)
        | (refine ⟨⟨_, g, rfl, ?_, by omega⟩, by simp; omega⟩
           rw [unhide HF]
           simp_all; done)
    · have hnx : ∀ ty, (Instr.next (.pointer (some ⟨w.heap.size, 0, none⟩)) true ty).run Tryd.prog (w.iter s pos) = _ := fun ty => run_next_end w s pos ty hp
      have HF := hide (hf.trans (faultFrom_end s f pos hp))
      clear hf
      go_wp2
      go_ret2
      exact ⟨⟨_, _, rfl, by rw [unhide HF]; simp⟩, (Below.refl _ _).alloc (Nat.le_refl _) _⟩
end Go.Proofs.YtgabgeadeeaihaaDoor
