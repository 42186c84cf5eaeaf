/- The reference's Roman numbers. -/
import Derived.Test.YtmjjckindnffdaaDoorSortRefD
namespace Go.Proofs.YtmjjckindnffdaaDoor
open Go.RowKit
theorem rom_sub (n k m : Nat) (l : List Nat) (hk : k < 13) (hl : l ++ romGo (romS.drop k) m = romN n) (h : wtN k ≤ m) : (l ++ sgN k) ++ romGo (romS.drop k) (m - wtN k) = romN n := by
  have hw := (wt_pos k hk).1
  obtain ⟨j, rfl⟩ : ∃ j, m = j + wtN k := ⟨m - wtN k, by omega⟩
  rw [romGo_at k _ hk, Nat.add_div_right _ (by omega), Nat.add_mod_right] at hl
  rw [Nat.add_sub_cancel, romGo_at k j hk, ← hl]
  simp [repN]
theorem rom_past (n k m : Nat) (l : List Nat) (hk : k < 13) (hl : l ++ romGo (romS.drop k) m = romN n) (h : ¬ wtN k ≤ m) : l ++ romGo (romS.drop (k + 1)) m = romN n := by
  rw [romGo_at k m hk, Nat.div_eq_of_lt (by omega), Nat.mod_eq_of_lt (by omega)] at hl
  exact hl
set_option maxRecDepth 100000 in
set_option maxHeartbeats 1000000 in
theorem refRoman_any (n : Nat) (w : World) (h1 : 1 ≤ n) (h2 : n ≤ 3999) :
    Calls Tryd.prog 16 #[.int .i64 (n : Int)] w fun e w' => e = .returned (.string ⟨(romP n).toArray⟩) ∧ Below w.heap.size w w' := by
  have b1 : ¬ (n : Int) < 1 := by omega
  have b2 : ¬ 3999 < (n : Int) := by omega
  go_enter Tryd.func16, Tryd.ntmps16
  go_wp2_with fail
  have hR := romAt_new w 9 3
  have hB : Below w.heap.size w ((w.alloc (.cells #[.string ⟨#[77]⟩, .string ⟨#[67, 77]⟩, .string ⟨#[68]⟩, .string ⟨#[67, 68]⟩, .string ⟨#[67]⟩, .string ⟨#[88, 67]⟩, .string ⟨#[76]⟩, .string ⟨#[88, 76]⟩, .string ⟨#[88]⟩, .string ⟨#[73, 88]⟩, .string ⟨#[86]⟩, .string ⟨#[73, 86]⟩, .string ⟨#[73]⟩] 9)).alloc (.cells #[.int .i64 1000, .int .i64 900, .int .i64 500, .int .i64 400, .int .i64 100, .int .i64 90, .int .i64 50, .int .i64 40, .int .i64 10, .int .i64 9, .int .i64 5, .int .i64 4, .int .i64 1] 3)) := ((Below.refl _ w).alloc (Nat.le_refl _) _).alloc (by simp) _
  generalize ((w.alloc (.cells #[.string ⟨#[77]⟩, .string ⟨#[67, 77]⟩, .string ⟨#[68]⟩, .string ⟨#[67, 68]⟩, .string ⟨#[67]⟩, .string ⟨#[88, 67]⟩, .string ⟨#[76]⟩, .string ⟨#[88, 76]⟩, .string ⟨#[88]⟩, .string ⟨#[73, 88]⟩, .string ⟨#[86]⟩, .string ⟨#[73, 86]⟩, .string ⟨#[73]⟩] 9)).alloc (.cells #[.int .i64 1000, .int .i64 900, .int .i64 500, .int .i64 400, .int .i64 100, .int .i64 90, .int .i64 50, .int .i64 40, .int .i64 10, .int .i64 9, .int .i64 5, .int .i64 4, .int .i64 1] 3)) = W at *
  generalize hp : w.heap.size = p at *
  generalize hq : p + 1 = q at *
  have HR := hide hR
  have HP := hide hp
  have HB := hide hB
  have H1 := hide h1
  have H2 := hide h2
  clear h1 h2 b1 b2 hp hq hR hB
  go_loop [0, 5, 6] (fun v s i => ∃ (k m : Nat) (l : List Nat), i = .int .i64 (k : Int) ∧ k ≤ 13 ∧ v = .int .i64 (m : Int) ∧ s = .string ⟨(bytesN l).toArray⟩ ∧ Hid (l ++ romGo (romS.drop k) m = romN n) ∧ Hid (m ≤ 3999)) (fun _ _ i => 13 - vNat i)
  case atStart => exact ⟨0, n, [], rfl, by omega, rfl, rfl, hide rfl, H2⟩
  case round =>
    obtain ⟨k, m, l, rfl, hk, rfl, rfl, hl, hm⟩ := hrel
    by_cases h13 : k = 13
    · subst h13
      have HL := hide (show (⟨(bytesN l).toArray⟩ : ByteArray) = ⟨(romP n).toArray⟩ by
        have : l = romN n := by rw [← unhide hl]; exact (List.append_nil l).symm
        rw [this]
        rfl)
      clear hl hm hk
      generalize (⟨(bytesN l).toArray⟩ : ByteArray) = V at *
      go_wp2
      go_ret
      exact ⟨by rw [← unhide HL]; rfl, by rw [unhide HP]; exact unhide HB⟩
    · have hk13 : k < 13 := by omega
      have hk1 : (k : Int) < 13 := by omega
      have hcs := (unhide HR).sg k hk13
      have hcw := (unhide HR).wt k hk13
      have HK := hide hk13
      clear hk h13 hk13
      go_wp2_with fail
      go_loop [0, 5] (fun v s => ∃ (m : Nat) (l : List Nat), v = .int .i64 (m : Int) ∧ s = .string ⟨(bytesN l).toArray⟩ ∧ Hid (l ++ romGo (romS.drop k) m = romN n) ∧ Hid (m ≤ 3999)) (fun v _ => vNat v)
      case atStart => exact ⟨m, l, rfl, rfl, hl, hm⟩
      case round =>
        clear hl hm
        obtain ⟨m, l, rfl, rfl, hl, hm⟩ := hrel
        have hw := wt_pos k (unhide HK)
        have hsz := rom_size n k m l (unhide H2) (unhide hl)
        have hm9 := unhide hm
        have hsg : (sgB k).size ≤ 2 := by
          have : (sgB k).size = (bytesN (sgN k)).length := mk_size _
          omega
        by_cases hge : wtN k ≤ m
        · have HN := hide (show ∃ (m' : Nat) (l' : List Nat), wrap64 ((m : Int) - (wtN k : Int)) = (m' : Int) ∧ (⟨(bytesN l).toArray⟩ : ByteArray) ++ sgB k = ⟨(bytesN l').toArray⟩ ∧ Hid (l' ++ romGo (romS.drop k) m' = romN n) ∧ Hid (m' ≤ 3999) ∧ m' < m from ⟨m - wtN k, l ++ sgN k, by rw [wrap_same _ (by omega) (by omega)]; omega, by rw [bytesN_append]; exact mk_append _ _, hide (rom_sub n k m l (unhide HK) (unhide hl) hge), hide (by omega), by omega⟩)
          have HM := hide (show vNat (.int .i64 (m : Int)) = m from rfl)
          obtain ⟨M, hM⟩ : ∃ M : Int, (m : Int) = M := ⟨_, rfl⟩
          obtain ⟨D, hD⟩ : ∃ D : Int, (wtN k : Int) = D := ⟨_, rfl⟩
          have hc : D ≤ M := by omega
          rw [hM] at HN HM ⊢
          rw [hD] at HN hcw
          generalize (⟨(bytesN l).toArray⟩ : ByteArray) = V at *
          generalize sgB k = S at *
          have c1 : ¬ 9223372036854775807 < V.size + S.size := by omega
          have c2 : ¬ 9223372036854775807 < (V ++ S).size := by rw [ByteArray.size_append]; omega
          clear hl hm hM hD hge hm9 hw
          go_wp2
          obtain ⟨m', l', e1, e2, e3, e4, e5⟩ := unhide HN
          refine ⟨⟨m', l', by rw [e1], by rw [e2], e3, e4⟩, ?_⟩
          rw [e1, unhide HM]
          exact e5
        · have HN := hide (show Hid (l ++ romGo (romS.drop (k + 1)) m = romN n) from hide (rom_past n k m l (unhide HK) (unhide hl) hge))
          have hlt : ¬ (wtN k : Int) ≤ (m : Int) := by omega
          clear hl hge hw
          generalize hV : (⟨(bytesN l).toArray⟩ : ByteArray) = V at *
          have HV := hide hV
          clear hV
          go_wp2
          refine ⟨⟨k + 1, m, l, ?_, unhide HK, rfl, by rw [unhide HV], unhide HN, hm⟩, ?_⟩
          · rw [Int.natCast_add]
            rfl
          · show 13 - ((k : Int) + 1).toNat < 13 - (k : Int).toNat
            have := unhide HK
            omega
set_option maxRecDepth 100000 in
set_option maxHeartbeats 1000000 in
theorem refRoman_none (x : Int) (w : World) (h : x < 1 ∨ 3999 < x) :
    Calls Tryd.prog 16 #[.int .i64 x] w fun e w' => e = .returned (.string ⟨#[]⟩) ∧ Below w.heap.size w w' := by
  rcases h with h | h
  · go_enter Tryd.func16, Tryd.ntmps16
    go_wp2
    go_ret
    exact ⟨rfl, Below.refl _ _⟩
  · have h' : ¬ x < 1 := by omega
    go_enter Tryd.func16, Tryd.ntmps16
    go_wp2
    go_ret
    exact ⟨rfl, Below.refl _ _⟩
end Go.Proofs.YtmjjckindnffdaaDoor
