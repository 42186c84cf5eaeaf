/- Roman numbers: xsort.Roman. -/
import Derived.Test.YtoeahagloobmoaaGreatDoorSortRom0
namespace Go.Proofs.YtoeahagloobmoaaGreatDoor
open Go.RowKit
theorem rom_next (k m : Nat) (hk : k < 13) (hm : m ≤ 3999) : ∃ (c r : Nat) (M D C R : Int), c = m / wtN k ∧ r = m % wtN k ∧ (m : Int) = M ∧ (wtN k : Int) = D ∧ (D == 0) = false ∧ M.tdiv D = C ∧ M.tmod D = R ∧ C = (c : Int) ∧ R = (r : Int) ∧ c ≤ 3999 ∧ r ≤ 3999 ∧ IntKind.i64.wrap C = C ∧ D ≠ 0 := by
  have h := wt_pos k hk
  have h1 : m / wtN k ≤ m := Nat.div_le_self _ _
  have h2 : m % wtN k ≤ m := Nat.mod_le _ _
  refine ⟨_, _, _, _, _, _, rfl, rfl, rfl, rfl, ?_, tdiv_nat _ _, tmod_nat _ _, rfl, rfl, by omega, by omega, ?_, by omega⟩
  · simp
    omega
  · rw [i64_is]
    generalize m / wtN k = c at *
    exact wrap_same _ (by omega) (by omega)
theorem rom_step (n k m c r : Nat) (l : List Nat) (hk : k < 13) (hl : l ++ romGo (romS.drop k) m = romN n) (hc : c = m / wtN k) (hr : r = m % wtN k) : (l ++ repN (sgN k) c) ++ romGo (romS.drop (k + 1)) r = romN n := by
  rw [romGo_at k m hk, ← hc, ← hr] at hl
  rw [← hl]
  simp
theorem rom_joined (k c : Nat) (l : List Nat) : (⟨(bytesN l).toArray⟩ : ByteArray) ++ ⟨(Lib.repeatL (sgB k).data.toList c).toArray⟩ = ⟨(bytesN (l ++ repN (sgN k) c)).toArray⟩ := by
  rw [mk_append, bytesN_append, bytesN_rep]
  rfl
theorem rom_size (n k m : Nat) (l : List Nat) (h2 : n ≤ 3999) (hl : l ++ romGo (romS.drop k) m = romN n) : (⟨(bytesN l).toArray⟩ : ByteArray).size ≤ 15 := by
  have h := (rom_ok n h2).2.1
  rw [← hl] at h
  rw [mk_size]
  simp [bytesN] at h ⊢
  omega
theorem rom_rep (k c : Nat) (hk : k < 13) (hc : c ≤ 3999) : (⟨(Lib.repeatL (sgB k).data.toList c).toArray⟩ : ByteArray).size ≤ 8000 ∧ (sgB k).size * c ≤ 8000 := by
  have h := wt_pos k hk
  have hs : (sgB k).size = (bytesN (sgN k)).length := mk_size _
  have hd : (sgB k).data.toList.length = (bytesN (sgN k)).length := rfl
  have hm : c * (bytesN (sgN k)).length ≤ 3999 * 2 := Nat.mul_le_mul hc h.2.2.1
  refine ⟨?_, ?_⟩
  · rw [mk_size, Lib.repeatL_length, hd]
    omega
  · rw [hs, Nat.mul_comm]
    omega
attribute [local go_sem ↓] Go.wp_at_zero Go.wp_at_succ
set_option maxRecDepth 100000 in
set_option maxHeartbeats 1000000 in
theorem roman_any (n : Nat) (w : World) (h1 : 1 ≤ n) (h2 : n ≤ 3999) :
    Calls Tryz.prog 42 #[.int .i64 (n : Int)] w fun e w' => e = .returned (.string ⟨(romP n).toArray⟩) ∧ Below w.heap.size w w' := by
  have b1 : ¬ (n : Int) < 1 := by omega
  have b2 : ¬ 3999 < (n : Int) := by omega
  go_enter Tryz.func42, Tryz.ntmps42
  go_wp2_with fail
  refine (romanParts_any _).mono ?_
  rintro e w1 ⟨rfl, hb1⟩
  go_wp2_with fail
  have hR0 := romAt_new w1 94 95
  have hB0 : Below w.heap.size w ((w1.alloc (.cells #[.string ⟨#[77]⟩, .string ⟨#[67, 77]⟩, .string ⟨#[68]⟩, .string ⟨#[67, 68]⟩, .string ⟨#[67]⟩, .string ⟨#[88, 67]⟩, .string ⟨#[76]⟩, .string ⟨#[88, 76]⟩, .string ⟨#[88]⟩, .string ⟨#[73, 88]⟩, .string ⟨#[86]⟩, .string ⟨#[73, 86]⟩, .string ⟨#[73]⟩] 94)).alloc (.cells #[.int .i64 1000, .int .i64 900, .int .i64 500, .int .i64 400, .int .i64 100, .int .i64 90, .int .i64 50, .int .i64 40, .int .i64 10, .int .i64 9, .int .i64 5, .int .i64 4, .int .i64 1] 95)) := Below.then hb1 (((Below.refl _ w1).alloc (Nat.le_refl _) _).alloc (by simp) _)
  generalize ((w1.alloc (.cells #[.string ⟨#[77]⟩, .string ⟨#[67, 77]⟩, .string ⟨#[68]⟩, .string ⟨#[67, 68]⟩, .string ⟨#[67]⟩, .string ⟨#[88, 67]⟩, .string ⟨#[76]⟩, .string ⟨#[88, 76]⟩, .string ⟨#[88]⟩, .string ⟨#[73, 88]⟩, .string ⟨#[86]⟩, .string ⟨#[73, 86]⟩, .string ⟨#[73]⟩] 94)).alloc (.cells #[.int .i64 1000, .int .i64 900, .int .i64 500, .int .i64 400, .int .i64 100, .int .i64 90, .int .i64 50, .int .i64 40, .int .i64 10, .int .i64 9, .int .i64 5, .int .i64 4, .int .i64 1] 95)) = W at *
  generalize (Value.agg #[.string ⟨#[77]⟩, .string ⟨#[67, 77]⟩, .string ⟨#[68]⟩, .string ⟨#[67, 68]⟩, .string ⟨#[67]⟩, .string ⟨#[88, 67]⟩, .string ⟨#[76]⟩, .string ⟨#[88, 76]⟩, .string ⟨#[88]⟩, .string ⟨#[73, 88]⟩, .string ⟨#[86]⟩, .string ⟨#[73, 86]⟩, .string ⟨#[73]⟩]) = A1 at *
  generalize (Value.agg #[.int .i64 1000, .int .i64 900, .int .i64 500, .int .i64 400, .int .i64 100, .int .i64 90, .int .i64 50, .int .i64 40, .int .i64 10, .int .i64 9, .int .i64 5, .int .i64 4, .int .i64 1]) = A2 at *
  generalize w1.heap.size = p at *
  generalize hq : p + 1 = q at *
  clear hq hb1
  have H1 := hide h1
  have H2 := hide h2
  clear h1 h2 b1 b2
  go_loopw [0, 3, 17] (fun v s i wr => ∃ (k m : Nat) (l : List Nat), i = .int .i64 (k : Int) ∧ k ≤ 13 ∧ v = .int .i64 (m : Int) ∧ s = .string ⟨(bytesN l).toArray⟩ ∧ l ++ romGo (romS.drop k) m = romN n ∧ m ≤ 3999 ∧ RomAt p q wr ∧ Below w.heap.size w wr) (fun _ _ i _ => 13 - vNat i)
  case atStart => exact ⟨0, n, [], rfl, by omega, rfl, rfl, rfl, unhide H2, hR0, hB0⟩
  case round =>
    obtain ⟨k, m, l, rfl, hk, rfl, rfl, hl, hm, hR, hB⟩ := hrel
    clear hR0 hB0
    by_cases h13 : k = 13
    · subst h13
      have HL := hide (show (⟨(bytesN l).toArray⟩ : ByteArray) = ⟨(romP n).toArray⟩ by
        have : l = romN n := by rw [← hl]; exact (List.append_nil l).symm
        rw [this]
        rfl)
      clear hl hm hk
      generalize (⟨(bytesN l).toArray⟩ : ByteArray) = V at *
      go_wp2
      go_ret
      exact ⟨by rw [← unhide HL]; rfl, hB⟩
    · have hk13 : k < 13 := by omega
      obtain ⟨c, r, M, D, C, R, hc, hr, hM, hD, hD0, e1, e2, hC, hRr, hc9, hr9, e3, hDn⟩ := rom_next k m hk13 hm
      have hcs := hR.sg k hk13
      have hcw := hR.wt k hk13
      have hrep := rom_rep k c hk13 hc9
      have hsz := rom_size n k m l (unhide H2) hl
      have HC := hide (show ∀ w, Calls Tryz.prog 48 #[.string (sgB k), .int .i64 C] w fun e w' => e = .returned (.string ⟨(Lib.repeatL (sgB k).data.toList c).toArray⟩) ∧ Below w.heap.size w w' from fun w => by
        rw [hC]
        exact Tryz.strings_Repeat (sgB k) c w (by omega) (by omega))
      have HN := hide (show ∃ l' : List Nat, (⟨(bytesN l).toArray⟩ : ByteArray) ++ ⟨(Lib.repeatL (sgB k).data.toList c).toArray⟩ = ⟨(bytesN l').toArray⟩ ∧ l' ++ romGo (romS.drop (k + 1)) r = romN n from ⟨_, rom_joined k c l, rom_step n k m c r l hk13 hl hc hr⟩)
      have HR := hide hRr
      have hRs := hrep.1
      have HW := hide hR
      have HB := hide hB
      have hk1 : (k : Int) < 13 := by omega
      rw [hM, hD] at *
      generalize (⟨(Lib.repeatL (sgB k).data.toList c).toArray⟩ : ByteArray) = X at *
      generalize (⟨(bytesN l).toArray⟩ : ByteArray) = V at *
      generalize sgB k = S at *
      have b1 : ¬ 9223372036854775807 < V.size + X.size := by omega
      have b2 : ¬ 9223372036854775807 < (V ++ X).size := by rw [ByteArray.size_append]; omega
      clear hl hm hk hc hr hrep hC hRr hM hR hB hD h13
      go_wp2_with fail
      go_region_with (go_at_call 48; refine (unhide HC _).mono ?_; rintro e w2 ⟨rfl, hb2⟩; (have hcw2 : w2.cell? ⟨q, k, none⟩ = some (.int .i64 D) := kept_cell hb2 (show wr.drew.cell? _ = _ from hcw)))
      all_goals (
        have hB2 : Below w.heap.size w w2 := Below.then ((unhide HB).drew) hb2
        have hR2 := (unhide HW).below (Below.then ((Below.refl _ wr).drew) hb2)
        (try go_wp2_with fail)
        obtain ⟨l', h1, h2⟩ := unhide HN
        refine ⟨⟨k + 1, r, l', ?_, hk13, by rw [unhide HR], by rw [h1], h2, hr9, hR2, hB2⟩, ?_⟩
        · rw [Int.natCast_add]
          rfl
        · show 13 - ((k : Int) + 1).toNat < 13 - (k : Int).toNat
          omega)
set_option maxRecDepth 100000 in
set_option maxHeartbeats 1000000 in
theorem roman_none (x : Int) (w : World) (h : x < 1 ∨ 3999 < x) :
    Calls Tryz.prog 42 #[.int .i64 x] w fun e w' => e = .returned (.string ⟨#[]⟩) ∧ Below w.heap.size w w' := by
  rcases h with h | h
  · go_enter Tryz.func42, Tryz.ntmps42
    go_wp2
    go_ret
    exact ⟨rfl, Below.refl _ _⟩
  · have h' : ¬ x < 1 := by omega
    go_enter Tryz.func42, Tryz.ntmps42
    go_wp2
    go_ret
    exact ⟨rfl, Below.refl _ _⟩
end Go.Proofs.YtoeahagloobmoaaGreatDoor
