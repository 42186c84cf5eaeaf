/- The law XvalueLengths. -/
import Derived.Test.YtppkilblkobkhaaGreatDoorVaCt
import Derived.Test.YtppkilblkobkhaaGreatDoorVaTx
namespace Go.Proofs.YtppkilblkobkhaaGreatDoor
open Go.RowKit
theorem i64_va (n : Int) : IntKind.i64.wrap n = wrap64 n := by
  rw [IntKind.wrap_i64]
  unfold wrap64
  omega
theorem has_prefix (a b : List UInt8) : Lib.hasPrefix (a ++ b) a = true := by
  unfold Lib.hasPrefix
  simp
set_option maxRecDepth 100000 in
set_option maxHeartbeats 4000000 in
theorem lengths_walk (s u : ByteArray) (w : World) (hs : s.size ≤ 1048576) (hu : u.size ≤ 1048576) (hE : Env w) :
    Calls Tryz.prog 5 #[.string s, .string u] w fun e w' => e = .returned (.bool true) ∧ Below w.heap.size w w' := by
  have HO := hide ofText_any
  have HL := hide live7_any
  have HE := hide hE
  have hw0 : wrap64 ((s.size : Int) + (u.size : Int)) = (s.size : Int) + (u.size : Int) := by unfold wrap64; omega
  have HR := hide (fun (z : ByteArray) (W : World) (hz : z.size ≤ 1048576) (hb : Below w.heap.size w W) => refIsText_any z W (by omega) (hE.below hb))
  clear hE
  by_cases hlim : s.size + u.size ≤ 32768
  case neg =>
    have n1 : (32768 : Int) < (s.size : Int) + (u.size : Int) := by omega
    go_enter Tryz.func5, Tryz.ntmps5
    go_wp2_with fail
    refine (unhide HL _).mono ?_
    rintro e w9 ⟨rfl, hb9⟩
    have HB9 := hide hb9
    clear hb9
    go_wp2
    go_ret
    exact ⟨rfl, unhide HB9⟩
  have n1 : ¬ (32768 : Int) < (s.size : Int) + (u.size : Int) := by omega
  by_cases hts : textR s = true
  case neg =>
    have hf : textR s = false := by simpa using hts
    have HT := hide (unhide HR s w hs (Below.refl _ _))
    rw [hf] at HT
    go_enter Tryz.func5, Tryz.ntmps5
    go_wp2_with fail
    refine (unhide HT).mono ?_
    rintro e w1 ⟨rfl, hb1⟩
    have HB1 := hide hb1
    clear hb1
    go_wp2_with fail
    refine (unhide HL _).mono ?_
    rintro e w9 ⟨rfl, hb9⟩
    have HB9 := hide (Below.then (unhide HB1) hb9)
    clear hb9
    go_wp2
    go_ret
    exact ⟨rfl, unhide HB9⟩
  have HT := hide (unhide HR s w hs (Below.refl _ _))
  rw [hts] at HT
  by_cases htu : textR u = true
  case neg =>
    have hf : textR u = false := by simpa using htu
    go_enter Tryz.func5, Tryz.ntmps5
    go_wp2_with fail
    refine (unhide HT).mono ?_
    rintro e w1 ⟨rfl, hb1⟩
    have HB1 := hide hb1
    have HT2 := hide (unhide HR u w1 hu hb1)
    rw [hf] at HT2
    clear hb1
    go_wp2_with fail
    refine (unhide HT2).mono ?_
    rintro e w2 ⟨rfl, hb2⟩
    have HB2 := hide (Below.then (unhide HB1) hb2)
    clear hb2
    go_wp2_with fail
    refine (unhide HL _).mono ?_
    rintro e w9 ⟨rfl, hb9⟩
    have HB9 := hide (Below.then (unhide HB2) hb9)
    clear hb9
    go_wp2
    go_ret
    exact ⟨rfl, unhide HB9⟩
  have hcnt := count_two s u ((textR_txt s).1 hts) ((textR_txt u).1 htu)
  have HCN := hide hcnt
  have hlc : (s.data.toList ++ u.data.toList).length ≤ 32768 := by rw [List.length_append]; exact hlim
  have HX : Hid (∀ (W : World) (gl cl : Nat), W.cell? ⟨gl, 0, none⟩ = some (.string s) → W.cell? ⟨gl, 1, none⟩ = some (.string u) → Calls Tryz.prog 12 #[.string ⟨#[99, 111, 110, 99, 97, 116]⟩, .slice (some ⟨gl, 0, none⟩) 2 cl] W fun e w' => e = .returned (.tuple #[.string (bsT (s.data.toList ++ u.data.toList)), .bool true]) ∧ Below W.heap.size W w') := hide fun W gl cl h0 h1 => by
    refine text_law _ [s, u] gl cl _ W (by simp) (by simp) (fun i z hz => ?_) 0 0 false (fun W' g cap hb hv => ?_)
    · match i, hz with
      | 0, hz => cases hz; exact h0
      | 1, hz => cases hz; exact h1
    · refine call_concat W' g 0 cap _ hv 2 0 0 _ false (by rw [bsT_size]; exact hlc) (fun W2 hW2 => ?_)
      have h := concat_two g 0 cap s.data.toList u.data.toList W2 (by rw [bsT_of, bsT_of]; exact hW2) hs hu
      exact h
  have hC : (bsT (s.data.toList ++ u.data.toList)).size ≤ 32768 := by rw [bsT_size]; exact hlc
  have HSL : Hid (∀ W : World, Calls Tryz.prog 13 #[.pointer none, .string ⟨#[115, 116, 114, 105, 110, 103, 45, 108, 101, 110, 103, 116, 104]⟩, .slice (some ⟨W.heap.size, 0, none⟩) 1 1] (W.alloc (.cells #[.int .i64 2, .slice none 0 0, .int .i64 0, .int .i64 0, .string (bsT (s.data.toList ++ u.data.toList)), .bool false] 34)) fun e w' => e = .returned (.tuple #[.agg #[.int .i64 1, .slice none 0 0, .int .i64 0, .int .i64 (((countN s + countN u : Nat) : Int) * 1000000), .string ⟨#[]⟩, .bool false], .int .i64 0]) ∧ Below (W.alloc (.cells #[.int .i64 2, .slice none 0 0, .int .i64 0, .int .i64 0, .string (bsT (s.data.toList ++ u.data.toList)), .bool false] 34)).heap.size (W.alloc (.cells #[.int .i64 2, .slice none 0 0, .int .i64 0, .int .i64 0, .string (bsT (s.data.toList ++ u.data.toList)), .bool false] 34)) w') := hide fun W => by
    have h := call_stringLength _ W.heap.size 0 1 _ (vals_new W [txtP (bsT (s.data.toList ++ u.data.toList))] 34) 1 0 (((countN (bsT (s.data.toList ++ u.data.toList)) : Nat) : Int) * 1000000) ⟨#[]⟩ false (by decide) (fun W' hW => stringLength_one _ _ _ _ W' hW (by omega))
    rw [unhide HCN] at h
    exact h
  have HSW : Hid (∀ W : World, Calls Tryz.prog 13 #[.pointer none, .string ⟨#[115, 116, 97, 114, 116, 115, 45, 119, 105, 116, 104]⟩, .slice (some ⟨W.heap.size, 0, none⟩) 2 2] (W.alloc (.cells #[.int .i64 2, .slice none 0 0, .int .i64 0, .int .i64 0, .string (bsT (s.data.toList ++ u.data.toList)), .bool false, .int .i64 2, .slice none 0 0, .int .i64 0, .int .i64 0, .string s, .bool false] 34)) fun e w' => e = .returned (.tuple #[.agg #[.int .i64 3, .slice none 0 0, .int .i64 0, .int .i64 0, .string ⟨#[]⟩, .bool true], .int .i64 0]) ∧ Below (W.alloc (.cells #[.int .i64 2, .slice none 0 0, .int .i64 0, .int .i64 0, .string (bsT (s.data.toList ++ u.data.toList)), .bool false, .int .i64 2, .slice none 0 0, .int .i64 0, .int .i64 0, .string s, .bool false] 34)).heap.size (W.alloc (.cells #[.int .i64 2, .slice none 0 0, .int .i64 0, .int .i64 0, .string (bsT (s.data.toList ++ u.data.toList)), .bool false, .int .i64 2, .slice none 0 0, .int .i64 0, .int .i64 0, .string s, .bool false] 34)) w') := hide fun W =>
    call_startsWith _ W.heap.size 0 2 _ (vals_new W [txtP (bsT (s.data.toList ++ u.data.toList)), txtP s] 34) 3 0 0 ⟨#[]⟩ true (by decide) (fun W' hW => startsWith_two _ _ _ _ _ true W' hW (has_prefix _ _))
  have hcat : s ++ u = bsT (s.data.toList ++ u.data.toList) := by
    rw [← bsT_of (s ++ u)]
    congr 1
  have HCAT := hide hcat
  have HK := hide (fun (z : ByteArray) (hz : z.size ≤ 1048576) W => count_any z W (by omega))
  have hk1 := countN_le s
  have hk2 := countN_le u
  generalize bsT (s.data.toList ++ u.data.toList) = R at *
  obtain ⟨V, hV⟩ : ∃ V : Int, ((countN s + countN u : Nat) : Int) * 1000000 = V := ⟨_, rfl⟩
  rw [hV] at HSL
  have hd1 : wrap64 ((countN s : Int) + (countN u : Int)) = (countN s : Int) + (countN u : Int) := by unfold wrap64; omega
  have hd2 : wrap64 (((countN s : Int) + (countN u : Int)) * 1000000) = V := by rw [← hV]; unfold wrap64; omega
  have HD := hide (And.intro hd1 hd2)
  have HKL := hide (And.intro hk1 hk2)
  clear hV hd1 hd2 hk1 hk2 hlc hC HCN
  go_enter Tryz.func5, Tryz.ntmps5
  go_wp2_with fail
  refine (unhide HT).mono ?_
  rintro e w1 ⟨rfl, hb1⟩
  have HB1 := hide hb1
  have HT2 := hide (unhide HR u w1 hu hb1)
  rw [htu] at HT2
  clear hb1
  go_wp2_with fail
  refine (unhide HT2).mono ?_
  rintro e w2 ⟨rfl, hb2⟩
  have HB2 := hide (Below.then (unhide HB1) hb2)
  clear hb2 hcnt
  go_wp2_with fail
  refine (unhide HX _ _ _ (by simp [go_sem]) (by simp [go_sem])).mono ?_
  rintro e w3 ⟨rfl, hb3⟩
  have HB3 := hide (Below.then (unhide HB2) (Below.then ((Below.refl _ _).alloc (Nat.le_refl _) _) hb3))
  clear hb3
  go_wp2_with fail
  refine (unhide HO _ _).mono ?_
  rintro e w4 ⟨rfl, hb4⟩
  have HB4 := hide (Below.then (unhide HB3) hb4)
  clear hb4
  go_wp2_with fail
  refine (unhide HSL _).mono ?_
  rintro e w5 ⟨rfl, hb5⟩
  have HB5 := hide (Below.then (unhide HB4) (Below.then ((Below.refl _ _).alloc (Nat.le_refl _) _) hb5))
  clear hb5
  go_wp2_with fail
  obtain ⟨W6, hW6⟩ : ∃ W6, w5.alloc (.cells #[.int .i64 1, .slice none 0 0, .int .i64 0, .int .i64 V, .string ⟨#[]⟩, .bool false] 34) = W6 := ⟨_, rfl⟩
  have hz6 : W6.heap[w5.heap.size]? = some (.cells #[.int .i64 1, .slice none 0 0, .int .i64 0, .int .i64 V, .string ⟨#[]⟩, .bool false] 34 (0, 0)) := by rw [← hW6]; exact new_block _ _
  have hb6 : Below w5.heap.size w5 W6 := by rw [← hW6]; exact (Below.refl _ _).alloc (Nat.le_refl _) _
  have HZ6 := hide hz6
  have HB6 := hide (Below.then (unhide HB5) hb6)
  rw [hW6]
  clear hz6 hb6 hW6 HB5
  generalize w5.heap.size = b5 at *
  refine (unhide HO _ _).mono ?_
  rintro e w7 ⟨rfl, hb7⟩
  have HB7 := hide (Below.then (unhide HB6) hb7)
  have HZ7 := hide (block_kept (unhide HZ6) hb7)
  clear hb7 HZ6 HB6
  go_wp2_with fail
  refine (unhide HO _ _).mono ?_
  rintro e w8 ⟨rfl, hb8⟩
  have HB8 := hide (Below.then (unhide HB7) hb8)
  have HZ8 := hide (block_kept (unhide HZ7) hb8)
  clear hb8 HZ7 HB7
  go_wp2_with fail
  refine (unhide HSW _).mono ?_
  rintro e w9 ⟨rfl, hb9⟩
  have hb89 := Below.then ((Below.refl w8.heap.size w8).alloc (Nat.le_refl _) (.cells #[.int .i64 2, .slice none 0 0, .int .i64 0, .int .i64 0, .string R, .bool false, .int .i64 2, .slice none 0 0, .int .i64 0, .int .i64 0, .string s, .bool false] 34)) hb9
  have HB9 := hide (Below.then (unhide HB8) hb89)
  have HZ9 := hide (block_kept (unhide HZ8) hb89)
  clear hb9 hb89 HZ8 HB8
  go_wp2_with fail
  obtain ⟨W10, hW10⟩ : ∃ W10, w9.alloc (.cells #[.int .i64 3, .slice none 0 0, .int .i64 0, .int .i64 0, .string ⟨#[]⟩, .bool true] 34) = W10 := ⟨_, rfl⟩
  have hz10 : W10.heap[w9.heap.size]? = some (.cells #[.int .i64 3, .slice none 0 0, .int .i64 0, .int .i64 0, .string ⟨#[]⟩, .bool true] 34 (0, 0)) := by rw [← hW10]; exact new_block _ _
  have hb10 : Below w9.heap.size w9 W10 := by rw [← hW10]; exact (Below.refl _ _).alloc (Nat.le_refl _) _
  have hy10 := block_kept (unhide HZ9) hb10
  have HB10 := hide (Below.then (unhide HB9) hb10)
  rw [hW10]
  have HX10 : Hid (ClsV W10 W10.drew) := hide ⟨(Below.refl _ _).drew⟩
  have HCE : Hid (∀ w', ClsV W10 w' → w'.cell? ⟨b5, 3, none⟩ = some (.int .i64 V) ∧ w'.cell? ⟨w9.heap.size, 5, none⟩ = some (.bool true)) := hide fun w' hC => ⟨kept_cell hC.bel (blk_c hy10 3), kept_cell hC.bel (blk_c hz10 5)⟩
  clear hz10 hb10 hy10 hW10 HB9 HZ9 HT HT2 HX HSL HSW HR HE HO HB1 HB2 HB3 HB4
  have hcat := unhide HCAT
  obtain ⟨hd1, hd2⟩ := unhide HD
  have hd3 := hd1
  have hd4 := hd2
  rw [← i64_va] at hd3 hd4
  have hno : ¬ 9223372036854775807 < s.size + u.size := by omega
  generalize w9.heap.size = b9 at *
  refine wp_region_cls (ClsV W10) (by kernel_rfl) (by kernel_rfl) (unhide HX10) ?_
  repeat
    (first
      | go_big_quiet_skip
      | (go_big_quiet_want
         go_big_quiet_op
         first
           | go_big_quiet_on
           | (apply Exists.intro
              refine ⟨fun w' hC => ?_, ?_⟩
              · (first
                  | (go_at_call 11; refine (unhide HL _).mono ?_; rintro e w11 ⟨rfl, hb11⟩; exact ⟨rfl, ⟨Below.then hC.bel hb11⟩⟩)
                  | (go_at_call 16; refine (unhide HK _ (by assumption) _).mono ?_; rintro e w11 ⟨rfl, hb11⟩; exact ⟨rfl, ⟨Below.then hC.bel hb11⟩⟩)
                  | (obtain ⟨k0, k1⟩ := unhide HCE _ hC; go_simp; first | done | rfl))
              go_big_quiet_on)))
  refine wpQuiet_nil ?_
  intro w12 hC12
  have hB12 := Below.then (unhide HB10) hC12.bel
  clear HCE HX10 hC12
  go_wp2
  go_ret
  exact ⟨rfl, hB12⟩
end Go.Proofs.YtppkilblkobkhaaGreatDoor
