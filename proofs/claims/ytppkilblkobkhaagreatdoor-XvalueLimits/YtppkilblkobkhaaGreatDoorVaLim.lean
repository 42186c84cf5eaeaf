/- The law XvalueLimits. -/
import Derived.Test.YtppkilblkobkhaaGreatDoorVaTx
import Derived.Test.YtppkilblkobkhaaGreatDoorOwnBytes
import Derived.Test.YtppkilblkobkhaaGreatDoorLines
import Derived.Laws.MakeOwn
namespace Go.Proofs.YtppkilblkobkhaaGreatDoor
open Go.RowKit
theorem zeros_vals (w : World) (s u : ByteArray) : ValsAt (w.alloc (.cells #[.int .i64 2, .slice none 0 0, .int .i64 0, .int .i64 0, .string s, .bool false, .int .i64 2, .slice none 0 0, .int .i64 0, .int .i64 0, .string u, .bool false] 34)) w.heap.size 0 [txtP s, txtP u] :=
  vals_new w [txtP s, txtP u] _
/-- A text of noughts. -/
def zeroT (n : Nat) : List UInt8 := List.replicate n 0
theorem infoB : (Tryz.prog.info? 5).map (fun i => (i.zero, i.size, i.bytes)) = some (some (.int .u8 0), 1, 1) := by kernel_rfl
theorem make_zero (n : Nat) (hn : n ≤ 65535) (w : World) : ∃ W, (Instr.makeSlice 45 (.int .i64 (n : Nat)) (.int .i64 (n : Nat))).run Tryz.prog w = .ok (.slice (some ⟨w.heap.size, 0, none⟩) n n) W ∧
    (convert 45 9 (.slice (some ⟨w.heap.size, 0, none⟩) n n)).run Tryz.prog W = .ok (.string (bsT (zeroT n))) W ∧ Below w.heap.size w W := by
  obtain ⟨iB, i1, i2, i3, i4⟩ := info_parts infoB
  have hr := run_make (P := Tryz.prog) w 45 5 iB _ Tryz.underlying45 i1 i2 .i64 .i64 n n (by omega) (Int.le_refl _) (by rw [i4]; omega) (by omega)
  simp only [Int.toNat_natCast, i3, Nat.mul_one] at hr
  refine ⟨_, hr, ?_, (Below.refl _ _).alloc (Nat.le_refl _) _⟩
  refine (run_convert_bytes_arg _ 45 5 Tryz.underlying45 Tryz.underlying5 w.heap.size 0 n n (List.replicate n 0) (by simp) ?_ 9 Tryz.underlying9).trans ?_
  · intro j hj
    rw [new_cell, Nat.zero_add]
    rw [show (List.replicate n (0 : Int)).getD j 0 = 0 by simp [List.getD, hj]]
    simp [madeCells, hj, Value.cells, Nat.mod_one]
  · rw [show strOfNums (List.replicate n 0) = bsT (zeroT n) by unfold strOfNums bsT zeroT; rw [List.map_replicate]; rfl]
set_option maxRecDepth 100000 in
set_option maxHeartbeats 4000000 in
theorem limits_walk (n k : Int) (w : World) (hn : 0 ≤ n) (hn2 : n ≤ 65535) (hk : 0 ≤ k) (hk2 : k ≤ 65535) (_hE : Env w) :
    Calls Tryz.prog 7 #[.int .u16 n, .int .u16 k] w fun e w' => e = .returned (.bool true) ∧ Below w.heap.size w w' := by
  have HO := hide ofText_any
  have HL := hide live7_any
  obtain ⟨p, hp⟩ : ∃ p : Nat, n % 32768 = (p : Int) := ⟨(n % 32768).toNat, by omega⟩
  obtain ⟨q, hq⟩ : ∃ q : Nat, k % 32768 = (q : Int) := ⟨(k % 32768).toNat, by omega⟩
  have hp2 : p < 32768 := by omega
  have hq2 : q < 32768 := by omega
  obtain ⟨w1, r1, c1, hb1⟩ := make_zero p (by omega) w
  obtain ⟨w2, r2, c2, hb2⟩ := make_zero q (by omega) w1
  have HB2 := hide (Below.then hb1 hb2)
  clear hb1 hb2
  have HV := hide zeros_vals
  have hsz : (bsT (zeroT p ++ zeroT q)).size = p + q := by rw [bsT_size]; simp [zeroT]
  have hsp : (bsT (zeroT p)).size = p := by rw [bsT_size]; simp [zeroT]
  have hsq : (bsT (zeroT q)).size = q := by rw [bsT_size]; simp [zeroT]
  have HF : Hid (∀ (W : World) (g o cap : Nat), ValsAt W g o [txtP (bsT (zeroT p)), txtP (bsT (zeroT q))] → Calls Tryz.prog 38 #[.agg #[.pointer none, .slice (some ⟨g, o, none⟩) 2 cap]] W fun e W' => e = .returned (txtA (bsT (zeroT p ++ zeroT q))) ∧ Below W.heap.size W W') := hide fun W g o cap hW => concat_two g o cap _ _ W hW (by simp [zeroT]; omega) (by simp [zeroT]; omega)
  generalize bsT (zeroT p) = P at *
  generalize bsT (zeroT q) = U at *
  generalize bsT (zeroT p ++ zeroT q) = R at *
  by_cases hlim : p + q ≤ 32768
  · have HC := hide (fun (W : World) => call_concat _ W.heap.size 0 2 _ (unhide HV W P U) 2 0 0 R false (by omega) (fun W' hW => unhide HF W' _ _ _ hW))
    have hw1 : wrap64 ((P.size : Int) + (U.size : Int)) = (p : Int) + (q : Int) := by unfold wrap64; omega
    have n1 : ¬ (32768 : Int) < (p : Int) + (q : Int) := by omega
    go_enter Tryz.func7, Tryz.ntmps7
    go_wp2_with fail
    refine (unhide HO _ _).mono ?_
    rintro e w3 ⟨rfl, hb3⟩
    go_wp2_with fail
    refine (unhide HO _ _).mono ?_
    rintro e w4 ⟨rfl, hb4⟩
    have HB4 := hide (Below.then (unhide HB2) (Below.then hb3 hb4))
    clear hb3 hb4
    go_wp2_with fail
    refine (unhide HC w4).mono ?_
    rintro e w5 ⟨rfl, hb5⟩
    have HB5 := hide (Below.then (unhide HB4) (Below.then ((Below.refl _ _).alloc (Nat.le_refl _) _) hb5))
    clear hb5
    go_wp2_with fail
    refine (unhide HL _).mono ?_
    rintro e w6 ⟨rfl, hb6⟩
    have HB6 := hide (Below.then ((unhide HB5).alloc (unhide HB5).size (.cells #[.int .i64 2, .slice none 0 0, .int .i64 0, .int .i64 0, .string R, .bool false] 34)) hb6)
    have hz6 : w6.heap[w5.heap.size]? = some (.cells #[.int .i64 2, .slice none 0 0, .int .i64 0, .int .i64 0, .string R, .bool false] 34 (0, 0)) := (hb6.block w5.heap.size (by simp)).trans (new_block _ _)
    have q4 := blk_c hz6 4
    clear hb6 hz6
    go_wp2
    go_ret
    exact ⟨rfl, unhide HB6⟩
  · have HC := hide (fun (W : World) => call_concat_limit _ W.heap.size 0 2 _ (unhide HV W P U) 2 0 0 R false (by omega) (fun W' hW => unhide HF W' _ _ _ hW))
    have hw1 : wrap64 ((P.size : Int) + (U.size : Int)) = (p : Int) + (q : Int) := by unfold wrap64; omega
    have n1 : (32768 : Int) < (p : Int) + (q : Int) := by omega
    go_enter Tryz.func7, Tryz.ntmps7
    go_wp2_with fail
    refine (unhide HO _ _).mono ?_
    rintro e w3 ⟨rfl, hb3⟩
    go_wp2_with fail
    refine (unhide HO _ _).mono ?_
    rintro e w4 ⟨rfl, hb4⟩
    have HB4 := hide (Below.then (unhide HB2) (Below.then hb3 hb4))
    clear hb3 hb4
    go_wp2_with fail
    refine (unhide HC w4).mono ?_
    rintro e w5 ⟨rfl, hb5⟩
    have HB5 := hide (Below.then (unhide HB4) (Below.then ((Below.refl _ _).alloc (Nat.le_refl _) _) hb5))
    clear hb5
    go_wp2_with fail
    refine (unhide HL _).mono ?_
    rintro e w6 ⟨rfl, hb6⟩
    have HB6 := hide (Below.then ((unhide HB5).alloc (unhide HB5).size (.cells #[.int .i64 0, .slice none 0 0, .int .i64 0, .int .i64 0, .string ⟨#[]⟩, .bool false] 34)) hb6)
    have hz6 : w6.heap[w5.heap.size]? = some (.cells #[.int .i64 0, .slice none 0 0, .int .i64 0, .int .i64 0, .string ⟨#[]⟩, .bool false] 34 (0, 0)) := (hb6.block w5.heap.size (by simp)).trans (new_block _ _)
    have q4 := blk_c hz6 4
    clear hb6 hz6
    go_wp2
    go_ret
    exact ⟨rfl, unhide HB6⟩
end Go.Proofs.YtppkilblkobkhaaGreatDoor
