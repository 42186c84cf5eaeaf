/- The reference's Decode, whole; what it tells is what xchar's tells. -/
import Derived.Test.YtdoobohdddghbaaDoorRefWide
import Derived.Test.YtdoobohdddghbaaDoorBackPlain
namespace Go.Proofs.YtdoobohdddghbaaDoor
open Go.RowKit
theorem narrowV_tuple (t : ByteArray) (n : Nat) : ∃ a b c, narrowV t n = .tuple #[a, b, c] := by
  unfold narrowV
  split
  · exact ⟨_, _, _, rfl⟩
  · exact ⟨_, _, _, rfl⟩
theorem decEnd_tuple (x : List UInt8 × Int × Int) : ∃ a b c, decEnd x = .tuple #[a, b, c] := by
  unfold decEnd
  split
  · exact ⟨_, _, _, rfl⟩
  · exact ⟨_, _, _, rfl⟩
/-- The reference's Decode, by its tests. -/
def refV (t : ByteArray) : Value :=
  if 32768 < t.size then .tuple #[.string ⟨#[]⟩, .int .i64 6, .int .i64 0]
  else if 2 ≤ t.size ∧ (t.get! 0).toNat = 254 ∧ (t.get! 1).toNat = 255 then decEnd (decW t false)
  else if 2 ≤ t.size ∧ (t.get! 0).toNat = 255 ∧ (t.get! 1).toNat = 254 then decEnd (decW t true)
  else if 3 ≤ t.size ∧ (t.get! 0).toNat = 239 ∧ (t.get! 1).toNat = 187 ∧ (t.get! 2).toNat = 191 then narrowV t 3
  else narrowV t 0
theorem ret_refV {t : ByteArray} {a b c x : Value} (h : x = .tuple #[a, b, c]) (hr : refV t = x) : Ending.returned (.tuple #[a, b, c]) = .returned (refV t) := by rw [hr, h]
set_option maxHeartbeats 1000000 in
theorem refNarrow_none (a : Option Addr) (c : Nat) (w : World) (hE : Env w) (hc2 : c ≤ maxLen) :
    Calls Tryd.prog 15 #[.slice a 0 c, .int .i64 0] w fun e w' => e = .returned (narrowV ⟨#[]⟩ 0) ∧ Below w.heap.size w w' := by
  have HE := hide hE
  clear hE
  unfold maxLen at hc2
  have hcv := fun a c w => conv_none a c w
  have hre := fun w => refEnds_any ⟨#[]⟩ w (by decide)
  rw [show endsR (⟨#[]⟩ : ByteArray).data.toList = [] from rfl] at hre
  have HRE := hide hre
  clear hre
  have hbd : badFrom ⟨#[]⟩ ((⟨#[]⟩ : ByteArray).size + 1) 0 = (-1, false) := by decide +kernel
  have HBD := hide hbd
  have hnv : narrowV ⟨#[]⟩ 0 = .tuple #[.string ⟨#[]⟩, .int .i64 0, .int .i64 0] := by
    unfold narrowV
    rw [if_neg (by rw [show badFrom ⟨((⟨#[]⟩ : ByteArray).data.toList.drop 0).toArray⟩ ((⟨#[]⟩ : ByteArray).size - 0 + 1) 0 = (-1, false) from hbd]; decide)]
    rfl
  rw [hnv]
  clear hnv hbd
  cases a with
  | none =>
    go_enter Tryd.func15, Tryd.ntmps15
    go_wp2_with fail
    refine (refBad_any ⟨#[]⟩ _ (by decide) (unhide HE)).mono ?_
    rintro e w1 ⟨rfl, hb1⟩
    rw [unhide HBD]
    go_wp2_with fail
    refine (unhide HRE _).mono ?_
    rintro e w2 ⟨rfl, hb2⟩
    go_wp2
    go_ret3
    exact ⟨rfl, Below.then hb1 hb2⟩
  | some x =>
    obtain ⟨b, off, spot⟩ := x
    by_cases h0 : c = 0
    · subst h0
      go_enter Tryd.func15, Tryd.ntmps15
      go_wp2_with fail
      refine (refBad_any ⟨#[]⟩ _ (by decide) (unhide HE)).mono ?_
      rintro e w1 ⟨rfl, hb1⟩
      rw [unhide HBD]
      go_wp2_with fail
      refine (unhide HRE _).mono ?_
      rintro e w2 ⟨rfl, hb2⟩
      go_wp2
      go_ret3
      exact ⟨rfl, Below.then hb1 hb2⟩
    · have h0' : (0 : Int) < (c : Int) := by omega
      go_enter Tryd.func15, Tryd.ntmps15
      go_wp2_with fail
      refine (refBad_any ⟨#[]⟩ _ (by decide) (unhide HE)).mono ?_
      rintro e w1 ⟨rfl, hb1⟩
      rw [unhide HBD]
      go_wp2_with fail
      refine (unhide HRE _).mono ?_
      rintro e w2 ⟨rfl, hb2⟩
      go_wp2
      go_ret3
      exact ⟨rfl, Below.then hb1 hb2⟩
set_option maxRecDepth 100000 in
set_option maxHeartbeats 4000000 in
theorem refDecode_row (b off c : Nat) (t : ByteArray) (w : World) (hE : Env w) (hc1 : t.size ≤ c) (hc2 : c ≤ maxLen)
    (hc : ∀ i, i < t.size → w.cell? ⟨b, off + i, none⟩ = some (.int .u8 ((t.get! i).toNat : Int))) :
    Calls Tryd.prog 7 #[.slice (some ⟨b, off, none⟩) t.size c] w fun e w' => e = .returned (refV t) ∧ Below w.heap.size w w' := by
  have HE := hide hE
  have HC := hide hc
  clear hE hc
  have hm : c ≤ 9223372036854775807 := by have := hc2; unfold maxLen at this; omega
  by_cases hbig : 32768 < t.size
  · have hbig' : (32768 : Int) < (t.size : Int) := by omega
    have HR := hide (show refV t = _ from by unfold refV; rw [if_pos hbig])
    go_enter Tryd.func7, Tryd.ntmps7
    go_wp2
    go_ret3
    exact ⟨ret_refV rfl (unhide HR), Below.refl _ _⟩
  · have hbig' : (t.size : Int) ≤ 32768 := by omega
    by_cases h2 : 2 ≤ t.size
    · have h2' : (2 : Int) ≤ (t.size : Int) := by omega
      have hcA : w.cell? ⟨b, off, none⟩ = _ := unhide HC 0 (by omega)
      have hcB : w.cell? ⟨b, off + 1, none⟩ = _ := unhide HC 1 (by omega)
      by_cases h3 : 3 ≤ t.size
      · have h3' : (3 : Int) ≤ (t.size : Int) := by omega
        have hcD : w.cell? ⟨b, off + 2, none⟩ = _ := unhide HC 2 (by omega)
        by_cases e0 : (t.get! 0).toNat = 254
        · by_cases e1 : (t.get! 1).toNat = 255
          · rw [e0] at hcA
            rw [e1] at hcB
            have HR := hide (show refV t = _ from by unfold refV; rw [if_neg (by omega), if_pos (by omega)])
            obtain ⟨va, vb, vc, hvv⟩ := decEnd_tuple (decW t false)
            have HV := hide hvv
            clear hvv
            go_enter Tryd.func7, Tryd.ntmps7
            go_wp2_with fail
            refine (refWide_false b off c t _ (by omega) hc1 hc2 (unhide HC)).mono ?_
            rintro e w1 ⟨rfl, hb1⟩
            rw [unhide HV]
            go_wp2
            go_ret3
            exact ⟨ret_refV (unhide HV) (unhide HR), hb1⟩
          · rw [e0] at hcA
            have f1 : ((((t.get! 1).toNat : Nat) : Int) == 255) = false := by rw [beq_eq_false_iff_ne]; omega
            have HR := hide (show refV t = _ from by unfold refV; rw [if_neg (by omega), if_neg (by omega), if_neg (by omega), if_neg (by omega)])
            obtain ⟨va, vb, vc, hvv⟩ := narrowV_tuple t 0
            have HV := hide hvv
            clear hvv
            go_enter Tryd.func7, Tryd.ntmps7
            go_wp2_with fail
            refine (refNarrow_any b off c 0 t _ (unhide HE) (by omega) (by omega) hc1 hc2 (unhide HC)).mono ?_
            rintro e w1 ⟨rfl, hb1⟩
            rw [unhide HV]
            go_wp2
            go_ret3
            exact ⟨ret_refV (unhide HV) (unhide HR), hb1⟩
        · by_cases e0' : (t.get! 0).toNat = 255
          · by_cases e1 : (t.get! 1).toNat = 254
            · rw [e0'] at hcA
              rw [e1] at hcB
              have HR := hide (show refV t = _ from by unfold refV; rw [if_neg (by omega), if_neg (by omega), if_pos (by omega)])
              obtain ⟨va, vb, vc, hvv⟩ := decEnd_tuple (decW t true)
              have HV := hide hvv
              clear hvv
              go_enter Tryd.func7, Tryd.ntmps7
              go_wp2_with fail
              refine (refWide_true b off c t _ (by omega) hc1 hc2 (unhide HC)).mono ?_
              rintro e w1 ⟨rfl, hb1⟩
              rw [unhide HV]
              go_wp2
              go_ret3
              exact ⟨ret_refV (unhide HV) (unhide HR), hb1⟩
            · rw [e0'] at hcA
              have f1 : ((((t.get! 1).toNat : Nat) : Int) == 254) = false := by rw [beq_eq_false_iff_ne]; omega
              have HR := hide (show refV t = _ from by unfold refV; rw [if_neg (by omega), if_neg (by omega), if_neg (by omega), if_neg (by omega)])
              obtain ⟨va, vb, vc, hvv⟩ := narrowV_tuple t 0
              have HV := hide hvv
              clear hvv
              go_enter Tryd.func7, Tryd.ntmps7
              go_wp2_with fail
              refine (refNarrow_any b off c 0 t _ (unhide HE) (by omega) (by omega) hc1 hc2 (unhide HC)).mono ?_
              rintro e w1 ⟨rfl, hb1⟩
              rw [unhide HV]
              go_wp2
              go_ret3
              exact ⟨ret_refV (unhide HV) (unhide HR), hb1⟩
          · by_cases e0'' : (t.get! 0).toNat = 239
            · by_cases e1 : (t.get! 1).toNat = 187
              · by_cases e2 : (t.get! 2).toNat = 191
                · rw [e0''] at hcA
                  rw [e1] at hcB
                  rw [e2] at hcD
                  have HR := hide (show refV t = _ from by unfold refV; rw [if_neg (by omega), if_neg (by omega), if_neg (by omega), if_pos (by omega)])
                  obtain ⟨va, vb, vc, hvv⟩ := narrowV_tuple t 3
                  have HV := hide hvv
                  clear hvv
                  go_enter Tryd.func7, Tryd.ntmps7
                  go_wp2_with fail
                  refine (refNarrow_any b off c 3 t _ (unhide HE) (by omega) (by omega) hc1 hc2 (unhide HC)).mono ?_
                  rintro e w1 ⟨rfl, hb1⟩
                  rw [unhide HV]
                  go_wp2
                  go_ret3
                  exact ⟨ret_refV (unhide HV) (unhide HR), hb1⟩
                · rw [e0''] at hcA
                  rw [e1] at hcB
                  have f2 : ((((t.get! 2).toNat : Nat) : Int) == 191) = false := by rw [beq_eq_false_iff_ne]; omega
                  have HR := hide (show refV t = _ from by unfold refV; rw [if_neg (by omega), if_neg (by omega), if_neg (by omega), if_neg (by omega)])
                  obtain ⟨va, vb, vc, hvv⟩ := narrowV_tuple t 0
                  have HV := hide hvv
                  clear hvv
                  go_enter Tryd.func7, Tryd.ntmps7
                  go_wp2_with fail
                  refine (refNarrow_any b off c 0 t _ (unhide HE) (by omega) (by omega) hc1 hc2 (unhide HC)).mono ?_
                  rintro e w1 ⟨rfl, hb1⟩
                  rw [unhide HV]
                  go_wp2
                  go_ret3
                  exact ⟨ret_refV (unhide HV) (unhide HR), hb1⟩
              · rw [e0''] at hcA
                have f1 : ((((t.get! 1).toNat : Nat) : Int) == 187) = false := by rw [beq_eq_false_iff_ne]; omega
                have HR := hide (show refV t = _ from by unfold refV; rw [if_neg (by omega), if_neg (by omega), if_neg (by omega), if_neg (by omega)])
                obtain ⟨va, vb, vc, hvv⟩ := narrowV_tuple t 0
                have HV := hide hvv
                clear hvv
                go_enter Tryd.func7, Tryd.ntmps7
                go_wp2_with fail
                refine (refNarrow_any b off c 0 t _ (unhide HE) (by omega) (by omega) hc1 hc2 (unhide HC)).mono ?_
                rintro e w1 ⟨rfl, hb1⟩
                rw [unhide HV]
                go_wp2
                go_ret3
                exact ⟨ret_refV (unhide HV) (unhide HR), hb1⟩
            · skip
              have f1 : ((((t.get! 0).toNat : Nat) : Int) == 254) = false := by rw [beq_eq_false_iff_ne]; omega
              have f2 : ((((t.get! 0).toNat : Nat) : Int) == 255) = false := by rw [beq_eq_false_iff_ne]; omega
              have f3 : ((((t.get! 0).toNat : Nat) : Int) == 239) = false := by rw [beq_eq_false_iff_ne]; omega
              have HR := hide (show refV t = _ from by unfold refV; rw [if_neg (by omega), if_neg (by omega), if_neg (by omega), if_neg (by omega)])
              obtain ⟨va, vb, vc, hvv⟩ := narrowV_tuple t 0
              have HV := hide hvv
              clear hvv
              go_enter Tryd.func7, Tryd.ntmps7
              go_wp2_with fail
              refine (refNarrow_any b off c 0 t _ (unhide HE) (by omega) (by omega) hc1 hc2 (unhide HC)).mono ?_
              rintro e w1 ⟨rfl, hb1⟩
              rw [unhide HV]
              go_wp2
              go_ret3
              exact ⟨ret_refV (unhide HV) (unhide HR), hb1⟩
      · have h3' : decide ((3 : Int) ≤ (t.size : Int)) = false := by simp; omega
        by_cases e0 : (t.get! 0).toNat = 254
        · by_cases e1 : (t.get! 1).toNat = 255
          · rw [e0] at hcA
            rw [e1] at hcB
            have HR := hide (show refV t = _ from by unfold refV; rw [if_neg (by omega), if_pos (by omega)])
            obtain ⟨va, vb, vc, hvv⟩ := decEnd_tuple (decW t false)
            have HV := hide hvv
            clear hvv
            go_enter Tryd.func7, Tryd.ntmps7
            go_wp2_with fail
            refine (refWide_false b off c t _ (by omega) hc1 hc2 (unhide HC)).mono ?_
            rintro e w1 ⟨rfl, hb1⟩
            rw [unhide HV]
            go_wp2
            go_ret3
            exact ⟨ret_refV (unhide HV) (unhide HR), hb1⟩
          · rw [e0] at hcA
            have f1 : ((((t.get! 1).toNat : Nat) : Int) == 255) = false := by rw [beq_eq_false_iff_ne]; omega
            have HR := hide (show refV t = _ from by unfold refV; rw [if_neg (by omega), if_neg (by omega), if_neg (by omega), if_neg (by omega)])
            obtain ⟨va, vb, vc, hvv⟩ := narrowV_tuple t 0
            have HV := hide hvv
            clear hvv
            go_enter Tryd.func7, Tryd.ntmps7
            go_wp2_with fail
            refine (refNarrow_any b off c 0 t _ (unhide HE) (by omega) (by omega) hc1 hc2 (unhide HC)).mono ?_
            rintro e w1 ⟨rfl, hb1⟩
            rw [unhide HV]
            go_wp2
            go_ret3
            exact ⟨ret_refV (unhide HV) (unhide HR), hb1⟩
        · by_cases e0' : (t.get! 0).toNat = 255
          · by_cases e1 : (t.get! 1).toNat = 254
            · rw [e0'] at hcA
              rw [e1] at hcB
              have HR := hide (show refV t = _ from by unfold refV; rw [if_neg (by omega), if_neg (by omega), if_pos (by omega)])
              obtain ⟨va, vb, vc, hvv⟩ := decEnd_tuple (decW t true)
              have HV := hide hvv
              clear hvv
              go_enter Tryd.func7, Tryd.ntmps7
              go_wp2_with fail
              refine (refWide_true b off c t _ (by omega) hc1 hc2 (unhide HC)).mono ?_
              rintro e w1 ⟨rfl, hb1⟩
              rw [unhide HV]
              go_wp2
              go_ret3
              exact ⟨ret_refV (unhide HV) (unhide HR), hb1⟩
            · rw [e0'] at hcA
              have f1 : ((((t.get! 1).toNat : Nat) : Int) == 254) = false := by rw [beq_eq_false_iff_ne]; omega
              have HR := hide (show refV t = _ from by unfold refV; rw [if_neg (by omega), if_neg (by omega), if_neg (by omega), if_neg (by omega)])
              obtain ⟨va, vb, vc, hvv⟩ := narrowV_tuple t 0
              have HV := hide hvv
              clear hvv
              go_enter Tryd.func7, Tryd.ntmps7
              go_wp2_with fail
              refine (refNarrow_any b off c 0 t _ (unhide HE) (by omega) (by omega) hc1 hc2 (unhide HC)).mono ?_
              rintro e w1 ⟨rfl, hb1⟩
              rw [unhide HV]
              go_wp2
              go_ret3
              exact ⟨ret_refV (unhide HV) (unhide HR), hb1⟩
          · skip
            have f1 : ((((t.get! 0).toNat : Nat) : Int) == 254) = false := by rw [beq_eq_false_iff_ne]; omega
            have f2 : ((((t.get! 0).toNat : Nat) : Int) == 255) = false := by rw [beq_eq_false_iff_ne]; omega
            have HR := hide (show refV t = _ from by unfold refV; rw [if_neg (by omega), if_neg (by omega), if_neg (by omega), if_neg (by omega)])
            obtain ⟨va, vb, vc, hvv⟩ := narrowV_tuple t 0
            have HV := hide hvv
            clear hvv
            go_enter Tryd.func7, Tryd.ntmps7
            go_wp2_with fail
            refine (refNarrow_any b off c 0 t _ (unhide HE) (by omega) (by omega) hc1 hc2 (unhide HC)).mono ?_
            rintro e w1 ⟨rfl, hb1⟩
            rw [unhide HV]
            go_wp2
            go_ret3
            exact ⟨ret_refV (unhide HV) (unhide HR), hb1⟩
    · have h2' : decide ((2 : Int) ≤ (t.size : Int)) = false := by simp; omega
      have h3' : decide ((3 : Int) ≤ (t.size : Int)) = false := by simp; omega
      have HR := hide (show refV t = _ from by unfold refV; rw [if_neg (by omega), if_neg (by omega), if_neg (by omega), if_neg (by omega)])
      obtain ⟨va, vb, vc, hvv⟩ := narrowV_tuple t 0
      have HV := hide hvv
      clear hvv
      go_enter Tryd.func7, Tryd.ntmps7
      go_wp2_with fail
      refine (refNarrow_any b off c 0 t _ (unhide HE) (by omega) (by omega) hc1 hc2 (unhide HC)).mono ?_
      rintro e w1 ⟨rfl, hb1⟩
      rw [unhide HV]
      go_wp2
      go_ret3
      exact ⟨ret_refV (unhide HV) (unhide HR), hb1⟩
end Go.Proofs.YtdoobohdddghbaaDoor
