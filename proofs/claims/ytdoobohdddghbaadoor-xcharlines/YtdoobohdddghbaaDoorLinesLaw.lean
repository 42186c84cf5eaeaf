/- The law XcharLines: what is decoded has no 13, and is decoded as it is. -/
import Derived.Test.YtdoobohdddghbaaDoorBack
import Derived.Test.YtdoobohdddghbaaDoorArgBytes
namespace Go.Proofs.YtdoobohdddghbaaDoor
open Go.RowKit
theorem tail3_eq (s : ByteArray) : (s.extract 3 s.size) = ⟨(s.data.toList.drop 3).toArray⟩ := by
  apply WideShapes.bytes_inj
  rw [ByteArray.data_extract]
  simp [List.take_of_length_le]
theorem narrow_mark (s : ByteArray) (h : Lib.hasPrefix s.data.toList [239, 187, 191] = true) : (⟨(narrowL s.data.toList).toArray⟩ : ByteArray) = s.extract 3 s.size := by
  unfold narrowL Lib.trimPrefix
  rw [if_pos h, tail3_eq]; rfl
theorem narrow_none (s : ByteArray) (h : Lib.hasPrefix s.data.toList [239, 187, 191] = false) : (⟨(narrowL s.data.toList).toArray⟩ : ByteArray) = s := by
  unfold narrowL Lib.trimPrefix
  rw [if_neg (by rw [h]; decide), toArray_data]
set_option maxHeartbeats 1000000 in
theorem lines_walk (v : Value) (t : ByteArray) (w : World) (hE : Env w) (ha : ArgB w v t) (hs : t.size ≤ 9223372036854775807) :
    Calls Tryd.prog 5 #[v] w fun e w' => e = .returned (.bool true) ∧ Below w.heap.size w w' := by
  have HE := hide hE
  have hdec := decode_any v t w hE (argB_bytes ha) (by omega)
  have HD := hide hdec
  have hcv := fun w s => run_bytes_of_string (P := Tryd.prog) w 9 22 5 s Tryd.underlying9 Tryd.underlying22 Tryd.underlying5
  clear hE hdec ha
  go_enter Tryd.func5, Tryd.ntmps5
  go_wp2_with fail
  refine (unhide HD).mono ?_
  rintro e w1 ⟨rfl, hb1⟩
  have HE1 := hide ((unhide HE).below hb1)
  have hlv : ∀ w2, Below w1.heap.size w1 w2 → Calls Tryd.prog 8 #[] w2 fun e w' => e = .returned (.bool true) ∧ Below w2.heap.size w2 w' := fun w2 hb2 => live_any _ ((unhide HE1).below hb2)
  have HL := hide hlv
  clear hlv HD
  rcases dec_cases t with ⟨e1, p1, hne, hd⟩ | ⟨l, htx, hno, hlen, hd⟩
  · rw [hd]
    have hne' : (e1 != 0) = true := by simpa using hne
    clear hd
    go_wp2_with fail
    refine (unhide HL _ (Below.refl _ _)).mono ?_
    rintro e w3 ⟨rfl, hb3⟩
    go_wp2
    go_ret
    exact ⟨rfl, Below.then hb1 hb3⟩
  · rw [hd]
    clear hd
    obtain ⟨s, hsl⟩ : ∃ s : ByteArray, s = ⟨l.toArray⟩ := ⟨_, rfl⟩
    have hsz : s.size ≤ 200000 := by rw [hsl, size_mk]; exact hlen
    have hda : s.data.toList = l := by rw [hsl]
    rw [← hsl]
    rw [← hda] at htx hno
    have hat : ∀ k (h : k < s.size), s[k] ≠ 13 := fun k h => hno _ (by
      show s.data[k] ∈ s.data.toList
      simp)
    have HT := hide htx
    have HNO := hide hno
    have HAT := hide hat
    clear htx hno hat hda hsl hlen
    go_wp2_with fail
    go_loopw [6] (fun i wr => ∃ k : Nat, k ≤ s.size ∧ i = .int .i64 k ∧ wr = w1) (fun i _ => s.size - (intOf i).toNat)
    case atStart => exact ⟨0, Nat.zero_le _, rfl, rfl⟩
    case round =>
      obtain ⟨k, hk, rfl, rfl⟩ := hrel
      by_cases hlt : k < s.size
      · have t13 : (((s[k].toNat : Nat) : Int) == 13) = false := by
          have h := unhide HAT k hlt
          rw [beq_eq_false_iff_ne]
          exact fun e => h (UInt8.toNat_inj.1 (by show s[k].toNat = 13; omega))
        go_wp2
        exact ⟨⟨k + 1, by omega, by go_num, trivial⟩, by simp [intOf]; omega⟩
      · have hcs := fun w => hcv w s
        clear hcv
        have hbm : ∀ cap fr, Below wr.heap.size wr (wr.drew.alloc (.cells (bytesRow s cap) 5 fr)) := fun _ _ => ((Below.refl _ _).drew).alloc (Nat.le_refl _) _
        have hdec := fun cap fr => decode_any (.slice (some ⟨wr.heap.size, 0, none⟩) s.size cap) s (wr.drew.alloc (.cells (bytesRow s cap) 5 fr)) ((unhide HE1).below (hbm cap fr)) (bytesAt_made wr s cap fr) (by omega)
        have HBM := hide hbm
        clear hbm
        by_cases hbig : 32768 < s.size
        · have hbig' : (32768 : Int) < (s.size : Int) := by omega
          rw [show decodeAll s = .tuple #[.string ⟨#[]⟩, .int .i64 6, .int .i64 0] by unfold decodeAll; rw [if_pos hbig]] at hdec
          have HDEC := hide hdec
          clear hdec
          have h3' : (3 : Int) ≤ (s.size : Int) := by omega
          cases hm : ((s.extract 0 3).toList == [239, 187, 191])
          · go_wp2_with fail
            refine (unhide HDEC _ _).mono ?_
            rintro e w3 ⟨rfl, hb3⟩
            go_wp2_with fail
            go_region
            go_wp2_with fail
            refine (unhide HL _ (Below.then (unhide HBM _ _) hb3.drew)).mono ?_
            rintro e w4 ⟨rfl, hb4⟩
            go_wp2
            go_ret
            exact ⟨ret_bool (by simp), Below.then hb1 (Below.then (unhide HBM _ _) (Below.then hb3.drew hb4))⟩
          · go_wp2_with fail
            refine (unhide HDEC _ _).mono ?_
            rintro e w3 ⟨rfl, hb3⟩
            go_wp2_with fail
            go_region
            go_wp2_with fail
            refine (unhide HL _ (Below.then (unhide HBM _ _) hb3.drew)).mono ?_
            rintro e w4 ⟨rfl, hb4⟩
            go_wp2
            go_ret
            exact ⟨ret_bool (by simp), Below.then hb1 (Below.then (unhide HBM _ _) (Below.then hb3.drew hb4))⟩
        · have hbig' : ¬ (32768 : Int) < (s.size : Int) := by omega
          rw [decodeAll_txt s (unhide HT) (unhide HNO) (by omega)] at hdec
          cases hp : Lib.hasPrefix s.data.toList [239, 187, 191]
          · rw [narrow_none s hp] at hdec
            have HDEC := hide hdec
            clear hdec
            by_cases h3 : 3 ≤ s.size
            · have hm := pre3_eq s h3
              rw [hp] at hm
              have h3' : (3 : Int) ≤ (s.size : Int) := by omega
              clear hp
              go_wp2_with fail
              refine (unhide HDEC _ _).mono ?_
              rintro e w3 ⟨rfl, hb3⟩
              go_wp2_with fail
              go_region
              go_wp2_with fail
              refine (unhide HL _ (Below.then (unhide HBM _ _) hb3.drew)).mono ?_
              rintro e w4 ⟨rfl, hb4⟩
              go_wp2
              go_ret
              exact ⟨ret_bool (by simp), Below.then hb1 (Below.then (unhide HBM _ _) (Below.then hb3.drew hb4))⟩
            · have h3' : decide ((3 : Int) ≤ (s.size : Int)) = false := by simp; omega
              clear hp
              go_wp2_with fail
              refine (unhide HDEC _ _).mono ?_
              rintro e w3 ⟨rfl, hb3⟩
              go_wp2_with fail
              go_region
              go_wp2_with fail
              refine (unhide HL _ (Below.then (unhide HBM _ _) hb3.drew)).mono ?_
              rintro e w4 ⟨rfl, hb4⟩
              go_wp2
              go_ret
              exact ⟨ret_bool (by simp), Below.then hb1 (Below.then (unhide HBM _ _) (Below.then hb3.drew hb4))⟩
          · rw [narrow_mark s hp] at hdec
            have HDEC := hide hdec
            clear hdec
            have h3 : 3 ≤ s.size := by
              by_cases h3 : 3 ≤ s.size
              · exact h3
              · rw [pre3_short s h3] at hp; cases hp
            have hm := pre3_eq s h3
            rw [hp] at hm
            have h3' : (3 : Int) ≤ (s.size : Int) := by omega
            clear hp
            go_wp2_with fail
            refine (unhide HDEC _ _).mono ?_
            rintro e w3 ⟨rfl, hb3⟩
            go_wp2_with fail
            go_region
            go_wp2_with fail
            refine (unhide HL _ (Below.then (unhide HBM _ _) hb3.drew)).mono ?_
            rintro e w4 ⟨rfl, hb4⟩
            go_wp2
            go_ret
            exact ⟨ret_bool (by simp), Below.then hb1 (Below.then (unhide HBM _ _) (Below.then hb3.drew hb4))⟩
end Go.Proofs.YtdoobohdddghbaaDoor
