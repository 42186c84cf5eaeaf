/- The law XsortFormats. -/
import Derived.Test.YtmjjckindnffdaaDoorSortBack
import Derived.Test.YtmjjckindnffdaaDoorSortRefRi
namespace Go.Proofs.YtmjjckindnffdaaDoor
open Go.RowKit
theorem refRead_any (t : List UInt8) (g : ByteArray) (f : Fm) (w : World) (hs : t.length ≤ 1048576) (hg : g.size ≤ 1000000) (hf : fmOf g.data.toList = some f) :
    Calls Tryd.prog 14 #[.string ⟨t.toArray⟩, .string g] w fun e w' => (∃ r, AnsR f t r ∧ e = .returned (readV r)) ∧ Below w.heap.size w w' := by
  rcases fm_cases g f hf with ⟨rfl, rfl⟩ | ⟨rfl, rfl⟩ | ⟨rfl, rfl⟩ | ⟨rfl, rfl⟩ | ⟨rfl, h, ht⟩
  · exact refRead_a t w hs
  · exact refRead_A t w hs
  · cases ht : t with
    | nil => exact refRead_ie w
    | cons c r =>
      rw [← ht]
      by_cases h1 : 48 ≤ c.toNat
      · by_cases h2 : c.toNat ≤ 57
        · exact refRead_id t c r w hs ht ⟨h1, h2⟩
        · exact refRead_irh t c r w hs ht ⟨h1, by omega⟩
      · exact refRead_irl t c r w hs ht h1
  · cases ht : t with
    | nil => exact refRead_Ie w
    | cons c r =>
      rw [← ht]
      by_cases h1 : 48 ≤ c.toNat
      · by_cases h2 : c.toNat ≤ 57
        · exact refRead_Id t c r w hs ht ⟨h1, h2⟩
        · exact refRead_Irh t c r w hs ht ⟨h1, by omega⟩
      · exact refRead_Irl t c r w hs ht h1
  · exact refRead_d t g w hs hg h ht
set_option maxRecDepth 100000 in
set_option maxHeartbeats 1000000 in
theorem refRead_none (s g : ByteArray) (w : World) (hg : g.size ≤ 1000000) (hf : fmOf g.data.toList = none) :
    Calls Tryd.prog 14 #[.string s, .string g] w fun e w' => e = .returned (.tuple #[.int .i64 0, .int .i64 18]) ∧ Below w.heap.size w w' := by
  have HF := hide (fun w => refFormat_none g 1 w hg hf)
  clear hf
  go_enter Tryd.func14, Tryd.ntmps14
  go_wp2_with fail
  refine (unhide HF _).mono ?_
  rintro e w1 ⟨rfl, hb1⟩
  go_wp2
  go_ret2
  exact ⟨rfl, hb1⟩
theorem read_ans (f : Fm) (s : ByteArray) (y z : Int) (hy : LetSay s y) (hz : RomSay s z) : AnsR f s.data.toList (readP f s.data.toList (digI s.data.toList) y z) := by
  intro m
  constructor
  · exact readP_says f _ _ _ _ m
  · rintro ⟨h1, h2, h3⟩
    have := read_back f m.toNat (by omega) (by omega) s h3.symm y z hy hz
    rw [this]
    congr 1
    omega
theorem ans_is (f : Fm) (t : List UInt8) : ∃ r, AnsR f t r := by
  by_cases h : ∃ m : Nat, 1 ≤ m ∧ m ≤ 1000000000 ∧ wrF f m = t
  · obtain ⟨m, h1, h2, h3⟩ := h
    exact ⟨_, ans_yes h1 h2 h3⟩
  · exact ⟨none, ans_never fun m h1 h2 h3 => h ⟨m, h1, h2, h3⟩⟩
theorem readV_is (r : Option Int) : ∃ c d, readV r = .tuple #[.int .i64 c, .int .i64 d] := by
  cases r with
  | some m => exact ⟨m, 0, rfl⟩
  | none => exact ⟨0, 5, rfl⟩
/-- Both tell the same of a text. -/
theorem both_read (s g : ByteArray) (hs : s.size ≤ 1048576) (hg : g.size ≤ 200) : ∃ c d : Int,
    (∀ w, SEnv2 w → Calls Tryd.prog 13 #[.string s, .string g] w fun e w' => e = .returned (.tuple #[.int .i64 c, .int .i64 d]) ∧ Below w.heap.size w w') ∧
    (∀ w, Calls Tryd.prog 14 #[.string s, .string g] w fun e w' => e = .returned (.tuple #[.int .i64 c, .int .i64 d]) ∧ Below w.heap.size w w') := by
  cases hf : fmOf g.data.toList with
  | none => exact ⟨0, 18, fun w _ => read_none s g w hf, fun w => refRead_none s g w (by omega) hf⟩
  | some f =>
    obtain ⟨r, hr⟩ := ans_is f s.data.toList
    obtain ⟨c, d, hcd⟩ := readV_is r
    refine ⟨c, d, fun w hE => ?_, fun w => ?_⟩
    · refine (read_any s g f w (by omega) (by omega) hE hf).mono ?_
      rintro e w' ⟨⟨y, z, hy, hz, rfl⟩, hb⟩
      exact ⟨by rw [(read_ans f s y z hy hz).same hr, hcd], hb⟩
    · have := refRead_any s.data.toList g f w hs (by omega) hf
      rw [show (⟨s.data.toList.toArray⟩ : ByteArray) = s by simp] at this
      refine this.mono ?_
      rintro e w' ⟨⟨q, hq, rfl⟩, hb⟩
      exact ⟨by rw [hq.same hr, hcd], hb⟩
/-- Both write the same. -/
theorem both_format (g : ByteArray) (x : Int) (hx : x ≤ 1099511627776) (hg : g.size ≤ 200) : ∃ (B : ByteArray) (d : Int),
    (∀ w, SEnv w → Calls Tryd.prog 11 #[.int .i64 x, .string g] w fun e w' => e = .returned (.tuple #[.string B, .int .i64 d]) ∧ Below w.heap.size w w') ∧
    (∀ w, Calls Tryd.prog 12 #[.int .i64 x, .string g] w fun e w' => e = .returned (.tuple #[.string B, .int .i64 d]) ∧ Below w.heap.size w w') := by
  cases hf : fmOf g.data.toList with
  | none => exact ⟨_, 18, fun w _ => format_none g x w hf, fun w => refFormat_none g x w (by omega) hf⟩
  | some f =>
    by_cases h : x < 1
    · exact ⟨_, 2, fun w _ => format_low g f x w h hf, fun w => refFormat_low g f x w h (by omega) hf⟩
    · refine ⟨⟨(wrF f x.toNat).toArray⟩, 0, fun w hE => ?_, fun w => ?_⟩
      rotate_left 1
      · have := refFormat_any g f x.toNat w (by omega) (by omega) (by omega) hf
        rw [show ((x.toNat : Nat) : Int) = x by omega] at this
        exact this
      · have := format_any g f x.toNat w (by omega) (by omega) hE (by omega) hf
        rw [show ((x.toNat : Nat) : Int) = x by omega] at this
        exact this
theorem fmt_cases (a : Int) : 1099511627776 < a ∧ (∃ x, a.tmod 1099511627776 = x ∧ x ≤ 1099511627776) ∨ ¬ 1099511627776 < a := by
  by_cases h : 1099511627776 < a
  · refine Or.inl ⟨h, _, rfl, ?_⟩
    have e : a.tmod 1099511627776 = a % 1099511627776 := Int.tmod_eq_emod_of_nonneg (by omega)
    rw [e]
    omega
  · exact Or.inr h
set_option maxRecDepth 100000 in
set_option maxHeartbeats 2000000 in
theorem formats_walk (a : Int) (g s : ByteArray) (w : World) (hE : SEnv2 w) (hs : s.size ≤ 1048576) :
    Calls Tryd.prog 4 #[.int .i64 a, .string g, .string s] w fun e w' => e = .returned (.bool true) ∧ Below w.heap.size w w' := by
  have HV := hide (fun w hE => live_any w hE)
  have HE := hide hE
  clear hE
  by_cases hg : g.size ≤ 200
  · have hg' : ¬ 200 < (g.size : Int) := by omega
    obtain ⟨c, d, hr1, hr2⟩ := both_read s g hs hg
    have HR1 := hide hr1
    have HR2 := hide hr2
    clear hr1 hr2
    rcases fmt_cases a with ⟨c1, x, ex, x1⟩ | c1
    · obtain ⟨B, d', hf1, hf2⟩ := both_format g x x1 hg
      have HF1 := hide hf1
      have HF2 := hide hf2
      clear hf1 hf2
      go_enter Tryd.func4, Tryd.ntmps4
      go_wp2_with fail
      refine (unhide HF1 _ (unhide HE).toSEnv).mono ?_
      rintro e w1 ⟨rfl, hb1⟩
      go_wp2_with fail
      refine (unhide HF2 _).mono ?_
      rintro e w2 ⟨rfl, hb2⟩
      have hb12 := Below.then hb1 hb2
      go_wp2_with fail
      refine (unhide HR1 _ ((unhide HE).below hb12)).mono ?_
      rintro e w3 ⟨rfl, hb3⟩
      go_wp2_with fail
      refine (unhide HR2 _).mono ?_
      rintro e w4 ⟨rfl, hb4⟩
      have hb14 := Below.then hb12 (Below.then hb3 hb4)
      go_wp2_with fail
      refine (unhide HV _ ((unhide HE).below hb14).toSEnv).mono ?_
      rintro e w5 ⟨rfl, hb5⟩
      go_wp2_with fail
      go_ret
      exact ⟨rfl, Below.then hb14 hb5⟩
    · obtain ⟨B, d', hf1, hf2⟩ := both_format g a (by omega) hg
      have HF1 := hide hf1
      have HF2 := hide hf2
      clear hf1 hf2
      go_enter Tryd.func4, Tryd.ntmps4
      go_wp2_with fail
      refine (unhide HF1 _ (unhide HE).toSEnv).mono ?_
      rintro e w1 ⟨rfl, hb1⟩
      go_wp2_with fail
      refine (unhide HF2 _).mono ?_
      rintro e w2 ⟨rfl, hb2⟩
      have hb12 := Below.then hb1 hb2
      go_wp2_with fail
      refine (unhide HR1 _ ((unhide HE).below hb12)).mono ?_
      rintro e w3 ⟨rfl, hb3⟩
      go_wp2_with fail
      refine (unhide HR2 _).mono ?_
      rintro e w4 ⟨rfl, hb4⟩
      have hb14 := Below.then hb12 (Below.then hb3 hb4)
      go_wp2_with fail
      refine (unhide HV _ ((unhide HE).below hb14).toSEnv).mono ?_
      rintro e w5 ⟨rfl, hb5⟩
      go_wp2_with fail
      go_ret
      exact ⟨rfl, Below.then hb14 hb5⟩
  · have hg' : 200 < (g.size : Int) := by omega
    go_enter Tryd.func4, Tryd.ntmps4
    go_wp2_with fail
    refine (unhide HV _ (unhide HE).toSEnv).mono ?_
    rintro e w1 ⟨rfl, hb1⟩
    go_wp2_with fail
    go_ret
    exact ⟨rfl, hb1⟩
end Go.Proofs.YtmjjckindnffdaaDoor
