/- The law XcharBack: what is encoded is decoded as it was. -/
import Derived.Test.YtdoobohdddghbaaDoorBackPlain
namespace Go.Proofs.YtdoobohdddghbaaDoor
open Go.RowKit
theorem pre3_eq (s : ByteArray) (_h : 3 ≤ s.size) : ((s.extract 0 3).toList == [239, 187, 191]) = Lib.hasPrefix s.data.toList [239, 187, 191] := by
  rw [ByteArray.toList_eq, ByteArray.data_extract, Bool.eq_iff_iff, beq_iff_eq]
  unfold Lib.hasPrefix
  rw [List.isPrefixOf_iff_prefix, List.prefix_iff_eq_take]
  simp only [Array.toList_extract, List.extract_eq_take_drop, List.drop_zero, Nat.sub_zero, List.length_cons, List.length_nil]
  exact ⟨fun h => h.symm, fun h => h.symm⟩
theorem pre3_short (s : ByteArray) (h : ¬ 3 ≤ s.size) : Lib.hasPrefix s.data.toList [239, 187, 191] = false := by
  cases hc : Lib.hasPrefix s.data.toList [239, 187, 191]
  · rfl
  · unfold Lib.hasPrefix at hc
    have := (List.isPrefixOf_iff_prefix.1 hc).length_le
    have hl : s.data.toList.length = s.size := rfl
    simp at this
    omega
theorem no13_of (s : ByteArray) (h : ∀ i (hi : i < s.size), s[i] ≠ 13) : ∀ c ∈ s.data.toList, c ≠ 13 := by
  intro c hc
  obtain ⟨i, hi, rfl⟩ := List.getElem_of_mem hc
  exact h i hi
theorem encV_zero (s : ByteArray) (wide : Bool) (h : (encV s wide).2 = 0) : s.size ≤ 32768 := by
  unfold encV at h
  split at h
  · exact absurd h (by decide)
  · split at h
    · exact absurd h (by decide)
    · omega
set_option maxHeartbeats 1000000 in
theorem back_walk (s : ByteArray) (wide : Bool) (w : World) (hE : Env w) (hs : s.size ≤ 9223372036854775807) :
    Calls Tryd.prog 4 #[.string s, .bool wide] w fun e w' => e = .returned (.bool true) ∧ Below w.heap.size w w' := by
  have HE := hide hE
  clear hE
  have HP := hide (back_plain s wide)
  have hz := encV_zero s wide
  go_enter Tryd.func4, Tryd.ntmps4
  go_wp2_with fail
  refine (encode_any s wide _ (by omega) (unhide HE)).mono ?_
  rintro e w1 ⟨v1, rfl, hv1, hb1⟩
  have HE1 := hide ((unhide HE).below hb1)
  obtain ⟨⟨a1, c1, rfl⟩, hcv1⟩ := hv1
  have HCV := hide hcv1
  clear hcv1
  generalize hx : encV s wide = x at *
  obtain ⟨t, n⟩ := x
  simp only at hz HP HCV ⊢
  have hlv : ∀ w2, Below w1.heap.size w1 w2 → Calls Tryd.prog 8 #[] w2 fun e w' => e = .returned (.bool true) ∧ Below w2.heap.size w2 w' := fun w2 hb2 => live_any _ ((unhide HE1).below hb2)
  have HL := hide hlv
  clear hlv
  by_cases hn : n = 0
  · subst hn
    have hs32 := hz rfl
    go_wp2_with fail
    refine (refIsText_any s _ (by omega) (unhide HE1)).mono ?_
    rintro e w2 ⟨rfl, hb2⟩
    cases htx : textR s
    · go_wp2_with fail
      refine (unhide HL _ hb2).mono ?_
      rintro e w3 ⟨rfl, hb3⟩
      go_wp2
      go_ret
      exact ⟨rfl, Below.then hb1 (Below.then hb2 hb3)⟩
    · by_cases hbig : 32768 < t.size
      · have hbig' : (32768 : Int) < (t.size : Int) := by omega
        go_wp2_with fail
        refine (unhide HL _ hb2).mono ?_
        rintro e w3 ⟨rfl, hb3⟩
        go_wp2
        go_ret
        exact ⟨rfl, Below.then hb1 (Below.then hb2 hb3)⟩
      · have hbig' : ¬ (32768 : Int) < (t.size : Int) := by omega
        go_wp2_with fail
        go_loopw [7] (fun i wr => ∃ k : Nat, k ≤ s.size ∧ i = .int .i64 k ∧ wr = w2 ∧ ∀ j (hj : j < s.size), j < k → s[j] ≠ 13) (fun i _ => s.size - (intOf i).toNat)
        case atStart => exact ⟨0, Nat.zero_le _, rfl, rfl, fun j _ h => absurd h (Nat.not_lt_zero j)⟩
        case round =>
          obtain ⟨k, hk, rfl, rfl, hno⟩ := hrel
          by_cases hlt : k < s.size
          · by_cases h13 : s[k] = 13
            · have t13 : ((s[k].toNat : Nat) : Int) = 13 := by rw [h13]; rfl
              clear h13
              go_wp2_with fail
              refine (unhide HL _ hb2).mono ?_
              rintro e w3 ⟨rfl, hb3⟩
              go_wp2
              go_ret
              exact ⟨rfl, Below.then hb1 (Below.then hb2 hb3)⟩
            · have t13 : ((s[k].toNat : Nat) : Int) ≠ 13 := fun e => h13 (UInt8.toNat_inj.1 (by show s[k].toNat = 13; omega))
              have t13' : (((s[k].toNat : Nat) : Int) == 13) = false := by simpa using t13
              have HN := hide (show ∀ j (hj : j < s.size), j < k + 1 → s[j] ≠ 13 from fun j hj h => by
                by_cases e : j = k
                · subst e; exact h13
                · exact hno j hj (by omega))
              clear hno h13
              go_wp2
              exact ⟨⟨k + 1, by omega, by go_num, trivial, unhide HN⟩, by simp [intOf]; omega⟩
          · have HN := hide (no13_of s (fun j hj => hno j hj (by omega)))
            clear hno
            cases hm : Lib.hasPrefix s.data.toList [239, 187, 191]
            · have hdec := fun w2 hb2 => decode_any (.slice a1 t.size c1) t w2 ((unhide HE1).below hb2) (bytesAt_below ⟨⟨a1, c1, rfl⟩, unhide HCV⟩ hb2) (by omega)
              rw [unhide HP htx (unhide HN) hm trivial (by omega)] at hdec
              have HD := hide hdec
              clear hdec
              by_cases h3 : 3 ≤ s.size
              · have hpe := pre3_eq s h3
                rw [hm] at hpe
                have h3' : (3 : Int) ≤ (s.size : Int) := by omega
                have HM := hide hm
                clear hm
                go_wp2_with fail
                refine (unhide HD _ hb2).mono ?_
                rintro e w3 ⟨rfl, hb3⟩
                go_wp2_with fail
                refine (unhide HL _ (Below.then hb2 hb3)).mono ?_
                rintro e w4 ⟨rfl, hb4⟩
                go_wp2
                go_ret
                exact ⟨ret_bool (by simp), Below.then hb1 (Below.then hb2 (Below.then hb3 hb4))⟩
              · have h3' : ¬ (3 : Int) ≤ (s.size : Int) := by omega
                have HM := hide hm
                clear hm
                go_wp2_with fail
                refine (unhide HD _ hb2).mono ?_
                rintro e w3 ⟨rfl, hb3⟩
                go_wp2_with fail
                refine (unhide HL _ (Below.then hb2 hb3)).mono ?_
                rintro e w4 ⟨rfl, hb4⟩
                go_wp2
                go_ret
                exact ⟨ret_bool (by simp), Below.then hb1 (Below.then hb2 (Below.then hb3 hb4))⟩
            · have h3 : 3 ≤ s.size := by
                by_cases h3 : 3 ≤ s.size
                · exact h3
                · rw [pre3_short s h3] at hm; cases hm
              have hpe := pre3_eq s h3
              rw [hm] at hpe
              have h3' : (3 : Int) ≤ (s.size : Int) := by omega
              have HM := hide hm
              clear hm
              go_wp2_with fail
              refine (unhide HL _ hb2).mono ?_
              rintro e w3 ⟨rfl, hb3⟩
              go_wp2
              go_ret
              exact ⟨rfl, Below.then hb1 (Below.then hb2 hb3)⟩
  · have hn' : (n != 0) = true := by simpa using hn
    have hn'' : (n == 0) = false := by simpa using hn
    go_wp2_with fail
    refine (unhide HL _ (Below.refl _ _)).mono ?_
    rintro e w3 ⟨rfl, hb3⟩
    go_wp2
    go_ret
    exact ⟨rfl, Below.then hb1 hb3⟩
end Go.Proofs.YtdoobohdddghbaaDoor
