/- A character above 127 among signs below 128: strings.IndexRune. -/
import Derived.Test.YtkklapoceknbcaaGreatDoorXmlRune
import Derived.Test.YtkklapoceknbcaaGreatDoorXmlCls
namespace Go.Proofs.YtkklapoceknbcaaGreatDoor
open Go.RowKit
set_option maxRecDepth 100000 in
set_option maxHeartbeats 2000000 in
theorem indexRune_error (l : List Nat) (hl : okL l) (ha : ∀ x ∈ l, x < 128) (w : World) :
    Calls Tryz.prog 138 #[.string (T l), .int .i32 65533] w fun e w' => e = .returned (.int .i64 (-1)) ∧ Below w.heap.size w w' := by
  go_enter Tryz.func138, Tryz.ntmps138
  go_wp2_with fail
  go_loopw [5, 6] (fun _ _ w' => ∃ p t : List Nat, l = p ++ t ∧ w' = w.iter (T l) (tx p).length) (fun _ _ w' => (T l).size - w'.iterPos w.heap.size)
  case atStart => exact ⟨[], l, rfl, rfl⟩
  case round =>
    obtain ⟨p, t, hpt, rfl⟩ := hrel
    cases t with
    | nil =>
      have hnx : ∀ ty, (Instr.next (.pointer (some ⟨w.heap.size, 0, none⟩)) true ty).run Tryz.prog (w.iter (T l) (tx p).length) = _ := fun ty => run_next_end w (T l) (tx p).length ty (end_at hpt)
      clear hpt
      go_wp2
      go_ret
      exact ⟨rfl, (Below.refl _ _).alloc (Nat.le_refl _) _⟩
    | cons c t =>
      obtain ⟨hd, hlt, hc, hpos⟩ := dec_at hpt hl
      have hnx : ∀ ty, (Instr.next (.pointer (some ⟨w.heap.size, 0, none⟩)) true ty).run Tryz.prog (w.iter (T l) (tx p).length) = _ := fun ty => run_next_any w (T l) (tx p).length ty hlt
      rw [hd] at hnx
      simp only at hnx
      have HS := hide (tx_snoc p c)
      have HPT := hide hpt
      have hcl : c < 128 := ha c (by rw [hpt]; simp)
      have hne : ((c : Int) == 65533) = false := by simp; omega
      clear hd hpt
      go_wp2
      exact ⟨⟨p ++ [c], t, by rw [unhide HPT]; simp, by rw [unhide HS]⟩, by simp; omega⟩
set_option maxRecDepth 100000 in
set_option maxHeartbeats 4000000 in
theorem indexRune_two (l : List Nat) (ha : ∀ x ∈ l, x < 128) (hz : l.length ≤ 64) (k : Nat) (hk : k = 1 ∨ k = 2 ∨ k = 3) (X : ByteArray) (hs : X.size = k + 1) (c y : Nat) (ho : okR c) (hc : 128 ≤ c) (hne : c ≠ 65533)
    (hX : ∀ w, (convert 21 9 (.int .i32 (c : Int))).run Tryz.prog w = .ok (.string X) w) (hy1 : 128 ≤ y) (hy2 : y < 256)
    (hix : ∀ w, (Instr.index 9 (.string X) (.int .i64 (k : Int))).run Tryz.prog w = .ok (.int .u8 (y : Int)) w) (w : World) :
    Calls Tryz.prog 138 #[.string (T l), .int .i32 (c : Int)] w fun e w' => e = .returned (.int .i64 (-1)) ∧ Below w.heap.size w w' := by
  have h1 : decide ((c : Int) < 128) = false := decide_eq_false (by omega)
  have h2 : ((c : Int) == 65533) = false := by simpa using (by omega : ¬ (c : Int) = 65533)
  have HV := hide (Tryz.utf8_ValidRune (c : Int))
  have hvt : Lib.validRune (c : Int) = true := by
    have hok := ho
    unfold okR at hok
    unfold Lib.validRune
    simp
    omega
  have hsz : (T l).size = l.length := by rw [T_size, sign_len_tx ha, List.length_map]
  have hb : ∀ b ∈ (T l).data.toList, b.toNat < 128 := by
    rw [T_data]
    intro b hb
    obtain ⟨x, hx, hbx⟩ := List.mem_flatMap.1 (by simpa [tx] using hb)
    have := ha x hx
    rw [runeB_one this] at hbx
    simp at hbx
    subst hbx
    simp
    omega
  generalize hS : T l = S at *
  have hi : ((X.size : Int) - 1) = (k : Int) := by omega
  have hw1 : wrap64 ((X.size : Int) - 1) = (k : Int) := by rw [hi]; unfold wrap64; omega
  have HIB : Hid (∀ (n : Nat) (w : World), Calls Tryz.prog 150 #[.string (S.extract n S.size), .int .u8 (y : Int)] w fun e w' => e = .returned (.int .i64 (-1)) ∧ w' = w) := by
    refine hide fun n w => (Tryz.strings_IndexByte _ _ w).mono ?_
    rintro e w' ⟨rfl, rfl⟩
    refine ⟨?_, rfl⟩
    rw [indexByte_none]
    intro hm
    have hm' : ((y : Int).toNat.toUInt8) ∈ S.data.toList := by
      rw [ByteArray.data_extract, Array.toList_extract] at hm
      exact List.mem_of_mem_drop (List.mem_of_mem_take hm)
    have hy : ((y : Int).toNat.toUInt8).toNat = y := by
      simp
      omega
    have := hb _ hm'
    omega
  have hcmp : ∀ (k : Nat) (hk : k < S.size), (((S[k]'hk).toNat : Int) != (y : Int)) = true := fun k hk => by
    have := hb (S[k]'hk) (Array.mem_toList_iff.2 (Array.getElem_mem _))
    simp
    omega
  clear hb hS ha
  go_enter Tryz.func138, Tryz.ntmps138
  go_wp2_with fail
  refine (unhide HV _).mono ?_
  rintro e w1 ⟨rfl, rfl⟩
  rw [hvt]
  go_wp2_with fail
  go_step3
  go_wp2_with fail
  refine wp_loop_rounds 2 ?_
  rw [rounds_succ]
  by_cases hkS : k < S.size
  · have hne1 := hcmp k hkS
    have hk1 : (k : Int) < (S.size : Int) := by omega
    obtain ⟨z, hz'⟩ : ∃ z : Int, ((S[k]'hkS).toNat : Int) = z := ⟨_, rfl⟩
    rw [hz'] at hne1
    have hSi : ∀ w, (Instr.index 9 (.string S) (.int .i64 (k : Int))).run Tryz.prog w = .ok (.int .u8 z) w := fun w => by
      rw [run_index_string w 9 S .i64 _ Tryz.underlying9, dif_pos ⟨by omega, by omega⟩]
      rw [← hz']
      simp
    have HKS := hide hkS
    have HZ : Hid ((S.size : Int) ≤ 64) := hide (by omega)
    obtain ⟨K, hK⟩ : ∃ K : Int, (k : Int) = K := ⟨_, rfl⟩
    have HK := hide hK
    rw [hK] at hSi hk1 hix
    rw [hK]
    have hd : decide (K < (S.size : Int)) = true := decide_eq_true hk1
    have HD := hide hk1
    clear hcmp hz' hkS hs hi hw1 hk hK hz hsz h1 h2 hvt HV hc hne ho hX hy1 hy2 hk1
    go_wp2_with fail
    go_step3
    go_wp2_with fail
    have HX : Hid (ClsW w1 w1.drew) := hide ⟨Below.drew (Below.refl _ _)⟩
    refine wp_region_cls (ClsW w1) (by kernel_rfl) (by kernel_rfl) (unhide HX) ?_
    repeat
      (first
        | go_big_quiet_skip
        | (go_big_quiet_want
           go_big_quiet_op
           first
             | go_big_quiet_on
             | (apply Exists.intro
                refine ⟨fun w' hC => ?_, ?_⟩
                · (go_simp; first | done | rfl)
                go_big_quiet_on)))
    refine wpQuiet_nil ?_
    intro w4 hC4
    have hb4 := hC4.bel
    obtain ⟨M, hM0, hM1, hM2⟩ : ∃ M : Int, IntKind.i64.wrap (K + 1) = M ∧ 0 ≤ M ∧ M ≤ (S.size : Int) := by
      have a1 := unhide HD
      have a2 := unhide HK
      have a3 := unhide HZ
      refine ⟨K + 1, ?_, by omega, by omega⟩
      rw [IntKind.wrap_i64]; omega
    go_wp2_with fail
    have HX4 : Hid (ClsW w4 w4.drew) := hide ⟨Below.drew (Below.refl _ _)⟩
    refine wp_region_cls (ClsW w4) (by kernel_rfl) (by kernel_rfl) (unhide HX4) ?_
    repeat
      (first
        | go_big_quiet_skip
        | (go_big_quiet_want
           go_big_quiet_op
           first
             | go_big_quiet_on
             | (apply Exists.intro
                refine ⟨fun w' hC => ?_, ?_⟩
                · (first
                    | (go_at_call 150; refine (unhide HIB _ _).mono ?_; rintro e w3 ⟨rfl, rfl⟩; exact ⟨rfl, hC⟩)
                    | (go_simp; first | done | rfl))
                go_big_quiet_on)))
    refine wpQuiet_nil ?_
    intro w5 hC5
    have hb5 := hC5.bel
    go_wp2
    simp only [Exit.noGoto, Exit.inBlock, Exit.then]
    go_ret
    exact ⟨rfl, hb4.trans (hb5.mono hb4.size)⟩
  · have hk1 : decide ((k : Int) < (S.size : Int)) = false := decide_eq_false (by omega)
    obtain ⟨K, hK⟩ : ∃ K : Int, (k : Int) = K := ⟨_, rfl⟩
    rw [hK] at hk1
    rw [hK]
    clear hcmp hkS hs hi hw1 hk hK hz hsz h1 h2 hvt HV hc hne ho hX hy1 hy2
    go_wp2
    rw [Exit.noGoto_ret]
    go_ret
    exact ⟨rfl, Below.refl _ _⟩
theorem indexRune_high (l : List Nat) (hl : okL l) (ha : ∀ x ∈ l, x < 128) (hz : l.length ≤ 64) (c : Nat) (ho : okR c) (hc : 128 ≤ c) (w : World) :
    Calls Tryz.prog 138 #[.string (T l), .int .i32 (c : Int)] w fun e w' => e = .returned (.int .i64 (-1)) ∧ Below w.heap.size w w' := by
  by_cases hne : c = 65533
  · subst hne; exact indexRune_error l hl ha w
  · obtain ⟨X, hX, hsz, y, hy1, hy2, hix⟩ := high_text c ho hc
    refine indexRune_two l ha hz (X.size - 1) (by omega) X (by omega) c y ho hc hne hX hy1 hy2 ?_ w
    rw [show ((X.size - 1 : Nat) : Int) = (X.size : Int) - 1 by omega]
    exact hix
end Go.Proofs.YtkklapoceknbcaaGreatDoor
