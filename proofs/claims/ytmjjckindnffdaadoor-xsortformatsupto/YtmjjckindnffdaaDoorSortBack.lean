/- The law XsortBack. -/
import Derived.Test.YtmjjckindnffdaaDoorSortRead
import Derived.Test.YtmjjckindnffdaaDoorSortLive
namespace Go.Proofs.YtmjjckindnffdaaDoor
open Go.RowKit
theorem read_any (s g : ByteArray) (f : Fm) (w : World) (hs : s.size ≤ 281474976710656) (hg : g.size ≤ 1048576) (hE : SEnv2 w) (hf : fmOf g.data.toList = some f) :
    Calls Tryd.prog 13 #[.string s, .string g] w fun e w' => (∃ y z, LetSay s y ∧ RomSay s z ∧ e = .returned (readV (readP f s.data.toList (digI s.data.toList) y z))) ∧ Below w.heap.size w w' := by
  rcases fm_cases g f hf with ⟨rfl, rfl⟩ | ⟨rfl, rfl⟩ | ⟨rfl, rfl⟩ | ⟨rfl, rfl⟩ | ⟨rfl, h, ht⟩
  · exact read_a s w hs hE
  · exact read_A s w hs hE
  · exact read_i s w hs hE
  · exact read_I s w hs hE
  · exact read_d s g w hs hE hg h ht
set_option maxRecDepth 100000 in
set_option maxHeartbeats 1000000 in
theorem read_none (s g : ByteArray) (w : World) (hf : fmOf g.data.toList = none) :
    Calls Tryd.prog 13 #[.string s, .string g] w fun e w' => e = .returned (.tuple #[.int .i64 0, .int .i64 18]) ∧ Below w.heap.size w w' := by
  have h := fm_none g hf
  have HW := hide (fun w => writer_none g w h.1 h.2)
  clear h hf
  go_enter Tryd.func13, Tryd.ntmps13
  go_wp2_with fail
  refine (unhide HW _).mono ?_
  rintro e w1 ⟨rfl, hb1⟩
  go_wp2
  go_ret2
  exact ⟨rfl, hb1⟩
/-- What was written of a number is read as it. -/
theorem read_back (f : Fm) (n : Nat) (h1 : 1 ≤ n) (h2 : n ≤ 1000000000) (s : ByteArray) (hs : s.data.toList = wrF f n) (y z : Int) (hy : LetSay s y) (hz : RomSay s z) : readP f s.data.toList (digI s.data.toList) y z = some (n : Int) := by
  have hsz : s.size = (wrF f n).length := by rw [← hs]; rfl
  unfold LetSay at hy
  unfold RomSay at hz
  have ha := wr_ascii f n
  rw [hs] at hy hz ⊢
  rw [Lib.toLowerD_ascii _ ha] at hy
  rw [Lib.toUpperD_ascii _ ha] at hz
  refine readP_some f n h1 h2 _ y z ?_
  rcases cand_of f n h1 h2 with h | ⟨h, e⟩ | ⟨h, e⟩
  · exact Or.inl h
  · refine Or.inr (Or.inl ?_)
    have hl : lettersB (Lib.toLowerA (wrF f n)) = true := by
      cases hb : lettersB (Lib.toLowerA (wrF f n)) with
      | true => rfl
      | false =>
        unfold letT at e
        unfold lettersB at hb
        rw [if_neg (by rw [hb]; simp)] at e
        omega
    rw [hy (by omega) hl (by unfold Lib.toLowerA; simp; omega)]
    unfold letT at e
    unfold lettersB at hl
    rw [if_pos hl] at e
    rw [e]
  · refine Or.inr (Or.inr ?_)
    rw [hz (by omega) (by unfold Lib.toUpperA; simp; omega), e]
theorem wr_size (f : Fm) (k : Nat) (hk : k ≤ 1000000000) (g : ByteArray) (hf : fmOf g.data.toList = some f) (hg : g.size ≤ 1048576) : (⟨(wrF f k).toArray⟩ : ByteArray).size ≤ 1048600 := by
  rw [mk_size]
  have h14 := letP_14 k (by omega)
  have h19 := dec_20 k (by omega)
  rw [mk_size] at h19
  have hI := wrI_len k (by omega)
  rcases fm_cases g f hf with ⟨rfl, rfl⟩ | ⟨rfl, rfl⟩ | ⟨rfl, rfl⟩ | ⟨rfl, rfl⟩ | ⟨rfl, h, ht⟩
  · show (letP k).length ≤ _
    omega
  · show (Lib.toUpperA (letP k)).length ≤ _
    unfold Lib.toUpperA
    simp
    omega
  · show (Lib.toLowerA (wrF .I k)).length ≤ _
    unfold Lib.toLowerA
    simp
    omega
  · omega
  · rw [wrF_d, List.length_append, Lib.repeatL_length]
    simp
    omega
set_option maxRecDepth 100000 in
set_option maxHeartbeats 2000000 in
theorem back_walk (a : Int) (g : ByteArray) (w : World) (hE : SEnv2 w) (h0 : 0 ≤ a) (h1 : a ≤ 4294967295) :
    Calls Tryd.prog 5 #[.int .u32 a, .string g] w fun e w' => e = .returned (.bool true) ∧ Below w.heap.size w w' := by
  have HV := hide (fun w hE => live_any w hE)
  have HE := hide hE
  have e0 : wrap64 a = a := wrap_same _ (by omega) (by omega)
  have e0' : IntKind.i64.wrap a = a := (i64_is _).trans e0
  obtain ⟨R, hR⟩ : ∃ R, a.tmod 1000000000 = R := ⟨_, rfl⟩
  have hR2 : 0 ≤ R ∧ R < 1000000000 := by
    rw [← hR, Int.tmod_eq_emod_of_nonneg h0]
    omega
  have e1 : wrap64 (R + 1) = R + 1 := wrap_same _ (by omega) (by omega)
  clear hE h0 h1
  by_cases hg : g.size ≤ 200
  · have hg' : ¬ 200 < (g.size : Int) := by omega
    cases hf : fmOf g.data.toList with
    | none =>
      have HF := hide (fun x w => format_none g x w hf)
      clear hf
      go_enter Tryd.func5, Tryd.ntmps5
      go_wp2_with fail
      refine (unhide HF _ _).mono ?_
      rintro e w1 ⟨rfl, hb1⟩
      go_wp2_with fail
      refine (unhide HV _ ((unhide HE).below hb1).toSEnv).mono ?_
      rintro e w2 ⟨rfl, hb2⟩
      go_wp2_with fail
      go_ret
      exact ⟨rfl, Below.then hb1 hb2⟩
    | some f =>
      have hk : R + 1 = (((R + 1).toNat : Nat) : Int) := by omega
      have hsz := wr_size f (R + 1).toNat (by omega) g hf (by omega)
      have HF := hide (show ∀ w, SEnv w → Calls Tryd.prog 11 #[.int .i64 (R + 1), .string g] w fun e w' => e = .returned (.tuple #[.string ⟨(wrF f (R + 1).toNat).toArray⟩, .int .i64 0]) ∧ Below w.heap.size w w' from fun w hE => by
        have := format_any g f (R + 1).toNat w (by omega) (by omega) hE (by omega) hf
        rw [← hk] at this
        exact this)
      have HR := hide (show ∀ w, SEnv2 w → Calls Tryd.prog 13 #[.string ⟨(wrF f (R + 1).toNat).toArray⟩, .string g] w fun e w' => e = .returned (.tuple #[.int .i64 (R + 1), .int .i64 0]) ∧ Below w.heap.size w w' from fun w hE => by
        refine (read_any ⟨(wrF f (R + 1).toNat).toArray⟩ g f w (by omega) (by omega) hE hf).mono ?_
        rintro e w' ⟨⟨y, z, hy, hz, rfl⟩, hb⟩
        refine ⟨?_, hb⟩
        rw [read_back f (R + 1).toNat (by omega) (by omega) ⟨(wrF f (R + 1).toNat).toArray⟩ rfl y z hy hz]
        show Ending.returned (.tuple #[.int .i64 (((R + 1).toNat : Nat) : Int), .int .i64 0]) = _
        rw [← hk])
      generalize (⟨(wrF f (R + 1).toNat).toArray⟩ : ByteArray) = T at *
      clear hf hk hsz
      go_enter Tryd.func5, Tryd.ntmps5
      go_wp2_with fail
      refine (unhide HF _ (unhide HE).toSEnv).mono ?_
      rintro e w1 ⟨rfl, hb1⟩
      go_wp2_with fail
      refine (unhide HR _ ((unhide HE).below hb1)).mono ?_
      rintro e w2 ⟨rfl, hb2⟩
      have hb12 := Below.then hb1 hb2
      go_wp2_with fail
      refine (unhide HV _ ((unhide HE).below hb12).toSEnv).mono ?_
      rintro e w3 ⟨rfl, hb3⟩
      go_wp2_with fail
      go_ret
      exact ⟨rfl, Below.then hb12 hb3⟩
  · have hg' : 200 < (g.size : Int) := by omega
    go_enter Tryd.func5, Tryd.ntmps5
    go_wp2_with fail
    refine (unhide HV _ (unhide HE).toSEnv).mono ?_
    rintro e w1 ⟨rfl, hb1⟩
    go_wp2_with fail
    go_ret
    exact ⟨rfl, hb1⟩
end Go.Proofs.YtmjjckindnffdaaDoor
