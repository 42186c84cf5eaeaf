/- What a text says by the reference: its Parse, walked. -/
import Derived.Test.YtmaefnmjfkbplaaGreatDoorNumRefP
import Derived.Deep.CutBlock
import Derived.Deep.DeepCutAuto
namespace Go.Proofs.YtmaefnmjfkbplaaGreatDoor
open Go.RowKit
attribute [local go_sem ↓] Go.wp_at_zero Go.wp_at_succ
set_option maxRecDepth 100000 in
set_option maxHeartbeats 4000000 in
theorem refParse_any (s : ByteArray) (w : World) (hs : s.size ≤ 1048576) :
    Calls Tryz.prog 22 #[.string s] w fun e w' => e = .returned (.agg #[.int .i64 (saidK (trimB s.data.toList)), .int .i64 (saidN (trimB s.data.toList))]) ∧ Below w.heap.size w w' := by
  unfold trimB
  obtain ⟨L, hL⟩ : ∃ L, L = trimLB s.data.toList := ⟨_, rfl⟩
  rw [← hL]
  have HL := hide hL
  clear hL
  obtain ⟨M, hMe⟩ : ∃ M, M = trimRB L := ⟨_, rfl⟩
  rw [← hMe]
  have HMe := hide hMe
  clear hMe
  have HSD := hide (show saidK M = bodyK (signB M) (cut1 (unsig M)) (cut2 (unsig M)) ∧ saidN M = bodyN (signB M) (cut1 (unsig M)) (cut2 (unsig M)) from ⟨rfl, rfl⟩)
  generalize saidK M = FK at *
  generalize saidN M = FN at *
  go_enter Tryz.func22, Tryz.ntmps22
  go_upto_block 0 with fail
  go_cut [0] (fun v wx => ∃ t : ByteArray, v = .string t ∧ Hid (t.data.toList = L) ∧ t.size ≤ 1048576 ∧ wx = w.alloc (.cells #[.int .i64 0, .int .i64 0] 24))
  case first =>
    go_wp2_with fail
    go_loop [0] (fun v => ∃ t : ByteArray, v = .string t ∧ Hid (trimLB t.data.toList = L) ∧ t.size ≤ 1048576) (fun v => strLen v)
    case atStart => exact ⟨s, rfl, hide (unhide HL).symm, hs⟩
    case round =>
      obtain ⟨t, rfl, HT, hts⟩ := hrel
      clear HL hs
      by_cases h0 : 0 < t.size
      · have h0' : (0 : Int) < (t.size : Int) := by omega
        cases hb : blankB (t[0]'h0)
        · have HX := hide ((lb_stop t h0 hb).symm.trans (unhide HT))
          clear HT
          have HR := hide (fun w => refBlank_any (t[0]'h0) w)
          rw [hb] at HR
          clear hb
          go_wp2_with (go_at_call 55; refine (unhide HR _).mono ?_; rintro e w' ⟨rfl, rfl⟩)
          go_meet
          exact ⟨t, rfl, HX, hts, rfl⟩
        · have HX := hide ((lb_cons t h0 hb).trans (unhide HT))
          clear HT
          have HR := hide (fun w => refBlank_any (t[0]'h0) w)
          rw [hb] at HR
          clear hb
          go_wp2_with (go_at_call 55; refine (unhide HR _).mono ?_; rintro e w' ⟨rfl, rfl⟩)
          exact ⟨⟨t.extract 1 t.size, rfl, HX, by rw [ByteArray.size_extract]; omega⟩, by simp only [strLen, ByteArray.size_extract]; omega⟩
      · have h0' : ¬ (0 : Int) < (t.size : Int) := by omega
        have HX := hide (show t.data.toList = L by
          have := unhide HT
          rw [l_none t h0] at this ⊢
          exact this)
        clear HT
        go_wp2_with fail
        go_meet
        exact ⟨t, rfl, HX, hts, rfl⟩
  case rest =>
    obtain ⟨t1, rfl, HT1, ht1, rfl⟩ := hcut
    clear HL hs
    go_upto_block 2 with fail
    go_cut [0] (fun v wx => ∃ t : ByteArray, v = .string t ∧ Hid (t.data.toList = M) ∧ t.size ≤ 1048576 ∧ wx = w.alloc (.cells #[.int .i64 0, .int .i64 0] 24))
    case first =>
      go_wp2_with fail
      go_loop [0] (fun v => ∃ t : ByteArray, v = .string t ∧ Hid (trimRB t.data.toList = M) ∧ t.size ≤ 1048576) (fun v => strLen v)
      case atStart => exact ⟨t1, rfl, hide (by rw [unhide HT1]; exact (unhide HMe).symm), ht1⟩
      case round =>
        obtain ⟨t, rfl, HT, hts⟩ := hrel
        clear HMe HT1 ht1
        by_cases h0 : 0 < t.size
        · have h0' : (0 : Int) < (t.size : Int) := by omega
          have hlt : t.size - 1 < t.size := by omega
          have hi1 : (t.size : Int) - 1 = ((t.size - 1 : Nat) : Int) := by omega
          cases hb : blankB (t[t.size - 1]'hlt)
          · have HX := hide ((rb_stop t hlt hb).symm.trans (unhide HT))
            clear HT
            have HR := hide (fun w => refBlank_any (t[t.size - 1]'hlt) w)
            rw [hb] at HR
            clear hb
            go_wp2_with (go_at_call 55; refine (unhide HR _).mono ?_; rintro e w' ⟨rfl, rfl⟩)
            go_meet
            exact ⟨t, rfl, HX, hts, rfl⟩
          · have HX := hide ((rb_cons t hlt hb).trans (unhide HT))
            clear HT
            have HR := hide (fun w => refBlank_any (t[t.size - 1]'hlt) w)
            rw [hb] at HR
            clear hb
            go_wp2_with (go_at_call 55; refine (unhide HR _).mono ?_; rintro e w' ⟨rfl, rfl⟩)
            exact ⟨⟨t.extract 0 (t.size - 1), rfl, HX, by rw [ByteArray.size_extract]; omega⟩, by simp only [strLen, ByteArray.size_extract]; omega⟩
        · have h0' : ¬ (0 : Int) < (t.size : Int) := by omega
          have HX := hide (show t.data.toList = M by
            have := unhide HT
            rw [l_none t h0] at this ⊢
            exact this)
          clear HT
          go_wp2_with fail
          go_meet
          exact ⟨t, rfl, HX, hts, rfl⟩
    case rest =>
      obtain ⟨t2, rfl, HT2, ht2, rfl⟩ := hcut
      clear HMe HT1 ht1
      have hML : M.length = t2.size := by rw [← unhide HT2]; rfl
      go_upto_region 5 with fail
      go_cut [3] (fun v wx => v = .bool (signB M) ∧ wx = w.alloc (.cells #[.int .i64 0, .int .i64 0] 24))
      case first =>
        by_cases h0 : 0 < t2.size
        · have h0' : (0 : Int) < (t2.size : Int) := by omega
          have hc : M = t2[0]'h0 :: M.drop 1 := by
            have := drop_cons t2 0 h0
            rw [List.drop_zero, unhide HT2] at this
            exact this
          by_cases h45 : (t2[0]'h0).toNat = 45
          · have h45' : (((t2[0]'h0).toNat : Int) == 45) = true := by rw [h45]; rfl
            have hsg : signB M = true := by
              rw [hc]
              unfold signB Lib.hasPrefix
              have : t2[0]'h0 = 45 := UInt8.toNat_inj.1 h45
              rw [this]
              rfl
            have HSG := hide hsg
            clear hc h45 hsg
            go_wp2_with fail
            go_meet
            exact ⟨by rw [unhide HSG], rfl⟩
          · have h45' : (((t2[0]'h0).toNat : Int) == 45) = false := by simpa using fun e => h45 (by omega)
            have hsg : signB M = false := by
              rw [hc]
              unfold signB Lib.hasPrefix
              simp [List.isPrefixOf]
              intro e
              exact h45 (by rw [← e]; rfl)
            have HSG := hide hsg
            clear hc h45 hsg
            go_wp2_with fail
            go_meet
            exact ⟨by rw [unhide HSG], rfl⟩
        · have h0' : ¬ (0 : Int) < (t2.size : Int) := by omega
          have hsg : signB M = false := by
            rw [List.eq_nil_of_length_eq_zero (show M.length = 0 by omega)]
            rfl
          have HSG := hide hsg
          clear hsg
          go_wp2_with fail
          go_meet
          exact ⟨by rw [unhide HSG], rfl⟩
      case rest =>
        obtain ⟨rfl, rfl⟩ := hcut
        go_upto_if 44 with fail
        go_cut [0, 3] (fun v bv wx => ∃ t : ByteArray, v = .string t ∧ bv = .bool (signB M) ∧ Hid (t.data.toList = unsig M) ∧ t.size ≤ 1048576 ∧ wx = (w.alloc (.cells #[.int .i64 0, .int .i64 0] 24)))
        case first =>
          generalize hsg : signB M = bl
          cases bl
          · have HSG := hide hsg
            have HU := hide (show t2.data.toList = unsig M by rw [unhide HT2]; unfold unsig; rw [hsg]; rfl)
            clear hsg
            go_wp2_with fail
            go_meet
            exact ⟨t2, rfl, by rw [unhide HSG], HU, ht2, rfl⟩
          · have HSG := hide hsg
            have hc := pre_tail M hsg
            have h1 : 1 ≤ t2.size := by rw [← hML, hc]; simp
            have h1' : (1 : Int) ≤ (t2.size : Int) := by omega
            have HU := hide (show (t2.extract 1 t2.size).data.toList = unsig M by
              rw [extract_list, unhide HT2, List.take_of_length_le (by rw [List.length_drop]; omega)]
              unfold unsig
              rw [hsg]
              simp)
            clear hc hsg
            go_wp2_with fail
            go_meet
            exact ⟨t2.extract 1 t2.size, rfl, by rw [unhide HSG], HU, by rw [ByteArray.size_extract]; omega, rfl⟩
        case rest =>
          obtain ⟨B, rfl, rfl, HB, hBs, rfl⟩ := hcut
          clear HT2 ht2 hML
          rw [← unhide HB] at HSD
          clear HB
          generalize signB M = below at *
          have hBl : B.data.toList.length = B.size := rfl
          go_upto_block 4 with fail
          go_cut [4, 5, 6, 7, 8] (fun n pl pt sm gr wx => ∃ (nn pp : Nat) (b1 b2 b3 : Bool) (A R : List UInt8), n = .int .u64 (nn : Int) ∧ pl = .int .i64 (pp : Int) ∧ pt = .bool b1 ∧ sm = .bool b2 ∧ gr = .bool b3 ∧ Hid (RefSt B.data.toList B.size nn pp b1 b2 b3 A R) ∧ pp ≤ 1048576 ∧ wx = (w.alloc (.cells #[.int .i64 0, .int .i64 0] 24)))
          case first =>
            go_wp2_with fail
            go_loop [4, 5, 6, 7, 8, 9] (fun n pl pt sm gr i => ∃ (nn pp k : Nat) (b1 b2 b3 : Bool) (A R : List UInt8), n = .int .u64 (nn : Int) ∧ pl = .int .i64 (pp : Int) ∧ pt = .bool b1 ∧ sm = .bool b2 ∧ gr = .bool b3 ∧ i = .int .i64 (k : Int) ∧ k ≤ B.size ∧ Hid (RefSt B.data.toList k nn pp b1 b2 b3 A R)) (fun _ _ _ _ _ i => B.size - (intOf i).toNat)
            case atStart => exact ⟨0, 0, 0, false, false, false, [], [], rfl, rfl, rfl, rfl, rfl, rfl, Nat.zero_le _, hide ⟨rfl, fun _ => rfl, rfl, rfl, rfl, rfl, fun _ => ⟨rfl, Nat.zero_le _⟩, fun h => by cases h⟩⟩
            case round =>
              obtain ⟨nn, pp, k, b1, b2, b3, A, R, rfl, rfl, rfl, rfl, rfl, rfl, hk, HS⟩ := hrel
              have hpk : pp ≤ 1048576 := by
                have h1 := (unhide HS).places
                have h2 := (unhide HS).read
                have h3 : (B.data.toList.take k).length ≤ B.size := by rw [List.length_take]; omega
                rw [h2] at h3
                cases b1
                · have := (unhide HS).none rfl
                  rw [this] at h1
                  simp at h1
                  omega
                · rw [if_pos rfl, List.length_append, List.length_cons] at h3
                  omega
              by_cases hkl : k < B.size
              · have hkl' : (k : Int) < (B.size : Int) := by omega
                cases hd : digB (B[k]'hkl)
                · have hnd : (((B[k]'hkl).toNat : Int) < 48) ∨ (48 ≤ ((B[k]'hkl).toNat : Int) ∧ (57 < ((B[k]'hkl).toNat : Int))) := by unfold digB at hd; simp at hd; omega
                  by_cases h46 : (B[k]'hkl).toNat = 46
                  · have h46' : (((B[k]'hkl).toNat : Int) == 46) = true := by rw [h46]; rfl
                    have h46b : B[k]'hkl = 46 := UInt8.toNat_inj.1 h46
                    cases b1
                    · have HN := hide ((unhide HS).point (by rw [hBl]; exact hkl) h46b)
                      clear HS hd hnd h46 h46b HSD
                      go_wp2
                      exact ⟨⟨nn, pp, k + 1, true, b2, b3, A, R, rfl, rfl, rfl, rfl, rfl, by first | rfl | go_num, by omega, HN⟩, by simp [intOf]; omega⟩
                    · have hbad := (unhide HS).bad (by rw [hBl]; exact hkl) hd (.inl rfl) below
                      have E1 := hide ((unhide HSD).1.trans hbad.1)
                      have E2 := hide ((unhide HSD).2.trans hbad.2)
                      have h48 : ((B[k]'hkl).toNat : Int) < 48 := by omega
                      clear HS hd hnd h46 h46b HSD hbad
                      go_wp2_with fail
                      refine (refNan_any _).mono ?_
                      rintro e w7 ⟨rfl, hb7⟩
                      have hNz := NumAt.below (w := (w.alloc (.cells #[.int .i64 0, .int .i64 0] 24))) (b := w.heap.size) (k := 0) (v := 0) ⟨by simp [go_sem], by simp [go_sem], by simp [go_sem], by simp [go_sem]⟩ hb7
                      have hfin : Below w.heap.size w w7 := Below.then (by (repeat first | exact Below.refl _ _ | assumption | refine Below.drew ?_ | refine Below.alloc ?_ (by simp <;> omega) _ | refine Below.setCell ?_ (by simp <;> omega) _)) hb7
                      have hP := hNz.put 1 0
                      have hB := putN_below hfin (Nat.le_refl w.heap.size) 1 0
                      obtain ⟨q0, q1, q2, q3⟩ := hNz
                      clear hb7 hfin
                      go_wp2
                      show bodyPost _ _ _ _ _ (putN w7 w.heap.size 1 0)
                      generalize putN w7 w.heap.size 1 0 = X at hP hB ⊢
                      obtain ⟨x0, x1, _, _⟩ := hP
                      refine bodyPost_ret (v := .agg #[.int .i64 1, .int .i64 0]) ?_ rfl ⟨by rw [unhide E1, unhide E2], hB⟩
                      simp [results, Tryz.results22, go_sem, x0, x1]
                  · have h46' : (((B[k]'hkl).toNat : Int) == 46) = false := by simpa using fun e => h46 (by omega)
                    have hbad := (unhide HS).bad (by rw [hBl]; exact hkl) hd (.inr (fun e => h46 (by have e' : B[k]'hkl = 46 := e; rw [e']; rfl))) below
                    have E1 := hide ((unhide HSD).1.trans hbad.1)
                    have E2 := hide ((unhide HSD).2.trans hbad.2)
                    clear HS hd h46 HSD hbad
                    rcases hnd with h48 | ⟨h48, h57⟩
                    · go_wp2_with fail
                      refine (refNan_any _).mono ?_
                      rintro e w7 ⟨rfl, hb7⟩
                      have hNz := NumAt.below (w := (w.alloc (.cells #[.int .i64 0, .int .i64 0] 24))) (b := w.heap.size) (k := 0) (v := 0) ⟨by simp [go_sem], by simp [go_sem], by simp [go_sem], by simp [go_sem]⟩ hb7
                      have hfin : Below w.heap.size w w7 := Below.then (by (repeat first | exact Below.refl _ _ | assumption | refine Below.drew ?_ | refine Below.alloc ?_ (by simp <;> omega) _ | refine Below.setCell ?_ (by simp <;> omega) _)) hb7
                      have hP := hNz.put 1 0
                      have hB := putN_below hfin (Nat.le_refl w.heap.size) 1 0
                      obtain ⟨q0, q1, q2, q3⟩ := hNz
                      clear hb7 hfin
                      go_wp2
                      show bodyPost _ _ _ _ _ (putN w7 w.heap.size 1 0)
                      generalize putN w7 w.heap.size 1 0 = X at hP hB ⊢
                      obtain ⟨x0, x1, _, _⟩ := hP
                      refine bodyPost_ret (v := .agg #[.int .i64 1, .int .i64 0]) ?_ rfl ⟨by rw [unhide E1, unhide E2], hB⟩
                      simp [results, Tryz.results22, go_sem, x0, x1]
                    · go_wp2_with fail
                      refine (refNan_any _).mono ?_
                      rintro e w7 ⟨rfl, hb7⟩
                      have hNz := NumAt.below (w := (w.alloc (.cells #[.int .i64 0, .int .i64 0] 24))) (b := w.heap.size) (k := 0) (v := 0) ⟨by simp [go_sem], by simp [go_sem], by simp [go_sem], by simp [go_sem]⟩ hb7
                      have hfin : Below w.heap.size w w7 := Below.then (by (repeat first | exact Below.refl _ _ | assumption | refine Below.drew ?_ | refine Below.alloc ?_ (by simp <;> omega) _ | refine Below.setCell ?_ (by simp <;> omega) _)) hb7
                      have hP := hNz.put 1 0
                      have hB := putN_below hfin (Nat.le_refl w.heap.size) 1 0
                      obtain ⟨q0, q1, q2, q3⟩ := hNz
                      clear hb7 hfin
                      go_wp2
                      show bodyPost _ _ _ _ _ (putN w7 w.heap.size 1 0)
                      generalize putN w7 w.heap.size 1 0 = X at hP hB ⊢
                      obtain ⟨x0, x1, _, _⟩ := hP
                      refine bodyPost_ret (v := .agg #[.int .i64 1, .int .i64 0]) ?_ rfl ⟨by rw [unhide E1, unhide E2], hB⟩
                      simp [results, Tryz.results22, go_sem, x0, x1]
                · have h1 : 48 ≤ (B[k]'hkl).toNat ∧ (B[k]'hkl).toNat ≤ 57 := by unfold digB at hd; simp at hd; omega
                  obtain ⟨d, hdd⟩ : ∃ d, d = digN (B[k]'hkl) := ⟨_, rfl⟩
                  have hdd' : digN (B.data.toList[k]'(by rw [hBl]; exact hkl)) = d := hdd.symm
                  have hc : (B[k]'hkl).toNat = d + 48 := by rw [hdd]; unfold digN; omega
                  have hd9 : d ≤ 9 := by omega
                  have hsub : ((B[k]'hkl).toNat : Int) - 48 = (d : Int) := by omega
                  have hnb : b3 = false → nn ≤ 1000000000000000000 := fun h => ((unhide HS).fin h).2
                  have h46' : (((B[k]'hkl).toNat : Int) == 46) = false := by simpa using (show ¬ ((B[k]'hkl).toNat : Int) = 46 by omega)
                  have hlo : 48 ≤ ((B[k]'hkl).toNat : Int) := by omega
                  have hhi : ((B[k]'hkl).toNat : Int) ≤ 57 := by omega
                  cases b1
                  · have hp0 : pp = 0 := by rw [(unhide HS).places, (unhide HS).none rfl]; rfl
                    subst hp0
                    cases b3
                    · have hn18 := hnb rfl
                      by_cases hg : 1000000000000000000 < nn * 10 + d
                      · have hg' : (1000000000000000000 : Int) < (nn : Int) * 10 + (d : Int) := by omega
                        have HN := hide ((unhide HS).ahead (by rw [hBl]; exact hkl) hd (nn * 10 + d) true (fun _ => ⟨by rw [hdd'], (decide_eq_true hg).symm⟩) (fun h => by cases h))
                        clear HS hd h1 hdd hdd' HSD hnb hc
                        go_wp2
                        exact ⟨⟨nn * 10 + d, 0, k + 1, false, true, true, _, _, by go_num, rfl, rfl, rfl, rfl, by first | rfl | go_num, by omega, HN⟩, by simp [intOf]; omega⟩
                      · have hg' : ¬ (1000000000000000000 : Int) < (nn : Int) * 10 + (d : Int) := by omega
                        have HN := hide ((unhide HS).ahead (by rw [hBl]; exact hkl) hd (nn * 10 + d) false (fun _ => ⟨by rw [hdd'], (decide_eq_false hg).symm⟩) (fun h => by cases h))
                        clear HS hd h1 hdd hdd' HSD hnb hc
                        go_wp2
                        exact ⟨⟨nn * 10 + d, 0, k + 1, false, true, false, _, _, by go_num, rfl, rfl, rfl, rfl, by first | rfl | go_num, by omega, HN⟩, by simp [intOf]; omega⟩
                    · have HN := hide ((unhide HS).ahead (by rw [hBl]; exact hkl) hd nn true (fun h => by cases h) (fun _ => rfl))
                      clear HS hd h1 hdd hdd' HSD hnb hc
                      go_wp2
                      exact ⟨⟨nn, 0, k + 1, false, true, true, _, _, rfl, rfl, rfl, rfl, rfl, by first | rfl | go_num, by omega, HN⟩, by simp [intOf]; omega⟩
                  · by_cases hp6 : pp + 1 ≤ 6
                    · have hp6' : (pp : Int) + 1 ≤ 6 := by omega
                      cases b3
                      · have hn18 := hnb rfl
                        by_cases hg : 1000000000000000000 < nn * 10 + d
                        · have hg' : (1000000000000000000 : Int) < (nn : Int) * 10 + (d : Int) := by omega
                          have HN := hide ((unhide HS).behind (by rw [hBl]; exact hkl) hd (nn * 10 + d) true (fun _ _ => ⟨by rw [hdd'], (decide_eq_true hg).symm⟩) (fun _ h => absurd hp6 h) (fun h => by cases h))
                          clear HS hd h1 hdd hdd' HSD hnb hc
                          go_wp2
                          exact ⟨⟨nn * 10 + d, pp + 1, k + 1, true, true, true, _, _, by go_num, by go_num, rfl, rfl, rfl, by first | rfl | go_num, by omega, HN⟩, by simp [intOf]; omega⟩
                        · have hg' : ¬ (1000000000000000000 : Int) < (nn : Int) * 10 + (d : Int) := by omega
                          have HN := hide ((unhide HS).behind (by rw [hBl]; exact hkl) hd (nn * 10 + d) false (fun _ _ => ⟨by rw [hdd'], (decide_eq_false hg).symm⟩) (fun _ h => absurd hp6 h) (fun h => by cases h))
                          clear HS hd h1 hdd hdd' HSD hnb hc
                          go_wp2
                          exact ⟨⟨nn * 10 + d, pp + 1, k + 1, true, true, false, _, _, by go_num, by go_num, rfl, rfl, rfl, by first | rfl | go_num, by omega, HN⟩, by simp [intOf]; omega⟩
                      · have HN := hide ((unhide HS).behind (by rw [hBl]; exact hkl) hd nn true (fun h => by cases h) (fun h => by cases h) (fun _ => rfl))
                        clear HS hd h1 hdd hdd' HSD hnb hc
                        go_wp2
                        exact ⟨⟨nn, pp + 1, k + 1, true, true, true, _, _, rfl, by go_num, rfl, rfl, rfl, by first | rfl | go_num, by omega, HN⟩, by simp [intOf]; omega⟩
                    · have hp6' : ¬ (pp : Int) + 1 ≤ 6 := by omega
                      have HN := hide ((unhide HS).behind (by rw [hBl]; exact hkl) hd nn b3 (fun _ h => absurd h hp6) (fun h _ => ⟨rfl, h⟩) (fun h => h))
                      clear HS hd h1 hdd hdd' HSD hnb hc
                      go_wp2
                      exact ⟨⟨nn, pp + 1, k + 1, true, true, b3, _, _, rfl, by go_num, rfl, rfl, rfl, by first | rfl | go_num, by omega, HN⟩, by simp [intOf]; omega⟩
              · have hkl' : ¬ (k : Int) < (B.size : Int) := by omega
                obtain rfl : k = B.size := by omega
                go_wp2_with fail
                go_meet
                exact ⟨nn, pp, b1, b2, b3, A, R, rfl, rfl, rfl, rfl, rfl, HS, hpk, rfl⟩
          case rest =>
            obtain ⟨nn, pp, b1, b2, b3, A, R, rfl, rfl, rfl, rfl, rfl, HS, hpk, rfl⟩ := hcut
            have hen := (unhide HS).end (by rw [hBl]; exact Nat.le_refl _)
            rw [hen.1, hen.2] at HSD
            have hA := (unhide HS).digA
            have hR := (unhide HS).digR
            have hsm := (unhide HS).some
            have hpl := (unhide HS).places
            have hfin := (unhide HS).fin
            have hinf := (unhide HS).inf
            clear HS hen hBl hBs
            cases b2
            · have hok : okB A R = false := by unfold okB; rw [← hsm]; simp
              have E1 := hide (show FK = 1 by rw [(unhide HSD).1]; unfold bodyK; rw [hok]; rfl)
              have E2 := hide (show FN = 0 by rw [(unhide HSD).2]; unfold bodyN; rw [hok]; rfl)
              clear HSD hA hR hsm hpl hfin hinf hok
              go_wp2_with fail
              refine (refNan_any _).mono ?_
              rintro e w7 ⟨rfl, hb7⟩
              have hNz := NumAt.below (w := (w.alloc (.cells #[.int .i64 0, .int .i64 0] 24))) (b := w.heap.size) (k := 0) (v := 0) ⟨by simp [go_sem], by simp [go_sem], by simp [go_sem], by simp [go_sem]⟩ hb7
              have hfin : Below w.heap.size w w7 := Below.then (by (repeat first | exact Below.refl _ _ | assumption | refine Below.drew ?_ | refine Below.alloc ?_ (by simp <;> omega) _ | refine Below.setCell ?_ (by simp <;> omega) _)) hb7
              have hP := hNz.put 1 0
              have hB := putN_below hfin (Nat.le_refl w.heap.size) 1 0
              obtain ⟨q0, q1, q2, q3⟩ := hNz
              clear hb7 hfin
              go_wp2
              show bodyPost _ _ _ _ _ (putN w7 w.heap.size 1 0)
              generalize putN w7 w.heap.size 1 0 = X at hP hB ⊢
              obtain ⟨x0, x1, _, _⟩ := hP
              refine bodyPost_ret (v := .agg #[.int .i64 1, .int .i64 0]) ?_ rfl ⟨by rw [unhide E1, unhide E2], hB⟩
              simp [results, Tryz.results22, go_sem, x0, x1]
            · have hok : okB A R = true := by unfold okB; rw [← hsm, hA, hR]; rfl
              have E1 := hide (show FK = signK below (valL 0 (digs A R)) by rw [(unhide HSD).1]; unfold bodyK; rw [hok]; rfl)
              have E2 := hide (show FN = signN below (valL 0 (digs A R)) by rw [(unhide HSD).2]; unfold bodyN; rw [hok]; rfl)
              clear HSD hA hR hsm hok
              have hval : valL 0 (digs A R) = valL 0 (A ++ R.take 6) * 10 ^ (6 - (R.take 6).length) := by
                unfold digs
                rw [← List.append_assoc, valL_append, val_rep]
              have hge : valL 0 (A ++ R.take 6) ≤ valL 0 (digs A R) := by
                unfold digs
                rw [← List.append_assoc, valL_append 0 (A ++ R.take 6)]
                exact valL_ge _ _
              cases b3
              · obtain ⟨hn, hn18⟩ := hfin rfl
                rw [← hn] at hval
                have hlen : (R.take 6).length = min 6 pp := by rw [List.length_take, ← hpl]
                rw [hlen] at hval
                generalize valL 0 (digs A R) = V at *
                clear hfin hinf hn hlen hpl hge A R
                go_upto_block 7 with fail
                go_wp2_with fail
                go_loop [4, 5] (fun n pl => ∃ m p : Nat, n = .int .u64 (m : Int) ∧ pl = .int .i64 (p : Int) ∧ p ≤ 1048576 ∧ m ≤ 1000000000000000000 ∧ Hid (V = m * 10 ^ (6 - p))) (fun _ pl => 6 - (intOf pl).toNat)
                case atStart => exact ⟨nn, pp, rfl, rfl, hpk, hn18, hide (by rw [hval, show 6 - min 6 pp = 6 - pp by omega])⟩
                case round =>
                  obtain ⟨m, p, rfl, rfl, hp, hm, HV⟩ := hrel
                  clear hval hn18 hpk
                  by_cases h6 : p < 6
                  · have h6' : (p : Int) < 6 := by omega
                    have hstep : m * 10 ^ (6 - p) = m * 10 * 10 ^ (6 - (p + 1)) := by
                      rw [show 6 - p = (6 - (p + 1)) + 1 by omega, Nat.pow_succ, Nat.mul_assoc, Nat.mul_comm 10]
                    have hone : 1 ≤ 10 ^ (6 - (p + 1)) := Nat.one_le_pow _ _ (by decide)
                    by_cases hg : 100000000000000000 < m
                    · have hg' : (100000000000000000 : Int) < (m : Int) := by omega
                      have hV : 1000000000000000000 < V := by
                        rw [unhide HV, hstep]
                        have := Nat.le_mul_of_pos_right (m * 10) hone
                        omega
                      have E1 := hide (show FK = infK below by rw [unhide E1]; unfold signK; rw [if_pos hV])
                      have E2 := hide (show FN = 0 by rw [unhide E2]; unfold signN; rw [if_pos hV])
                      clear HV hstep hone hV
                      go_wp2_with fail
                      refine (refInf_any below _).mono ?_
                      rintro e w7 ⟨rfl, hb7⟩
                      have hNz := NumAt.below (w := (w.alloc (.cells #[.int .i64 0, .int .i64 0] 24))) (b := w.heap.size) (k := 0) (v := 0) ⟨by simp [go_sem], by simp [go_sem], by simp [go_sem], by simp [go_sem]⟩ hb7
                      have hfin : Below w.heap.size w w7 := Below.then (by (repeat first | exact Below.refl _ _ | assumption | refine Below.drew ?_ | refine Below.alloc ?_ (by simp <;> omega) _ | refine Below.setCell ?_ (by simp <;> omega) _)) hb7
                      have hP := hNz.put (infK below) 0
                      have hB := putN_below hfin (Nat.le_refl w.heap.size) (infK below) 0
                      obtain ⟨q0, q1, q2, q3⟩ := hNz
                      clear hb7 hfin
                      go_wp2
                      show bodyPost _ _ _ _ _ (putN w7 w.heap.size (infK below) 0)
                      generalize putN w7 w.heap.size (infK below) 0 = X at hP hB ⊢
                      obtain ⟨x0, x1, _, _⟩ := hP
                      refine bodyPost_ret (v := .agg #[.int .i64 (infK below), .int .i64 0]) ?_ rfl ⟨by rw [unhide E1, unhide E2], hB⟩
                      simp [results, Tryz.results22, go_sem, x0, x1]
                    · have hg' : ¬ (100000000000000000 : Int) < (m : Int) := by omega
                      have HV2 := hide ((unhide HV).trans hstep)
                      clear HV hstep hone
                      go_wp2
                      exact ⟨⟨m * 10, p + 1, by go_num, by go_num, by omega, by omega, HV2⟩, by simp [intOf]; omega⟩
                  · have h6' : ¬ (p : Int) < 6 := by omega
                    have hV : V = m := by rw [unhide HV, show 6 - p = 0 by omega]; simp
                    have E1 := hide (show FK = signK below m by rw [unhide E1, hV])
                    have E2 := hide (show FN = signN below m by rw [unhide E2, hV])
                    have HMD := hide (fun w => refMade_any m below w (by omega))
                    clear HV hV
                    generalize signK below m = K at *
                    generalize signN below m = U at *
                    go_wp2_with fail
                    refine (unhide HMD _).mono ?_
                    rintro e w7 ⟨rfl, hb7⟩
                    have hNz := NumAt.below (w := (w.alloc (.cells #[.int .i64 0, .int .i64 0] 24))) (b := w.heap.size) (k := 0) (v := 0) ⟨by simp [go_sem], by simp [go_sem], by simp [go_sem], by simp [go_sem]⟩ hb7
                    have hfin : Below w.heap.size w w7 := Below.then (by (repeat first | exact Below.refl _ _ | assumption | refine Below.drew ?_ | refine Below.alloc ?_ (by simp <;> omega) _ | refine Below.setCell ?_ (by simp <;> omega) _)) hb7
                    have hP := hNz.put K U
                    have hB := putN_below hfin (Nat.le_refl w.heap.size) K U
                    obtain ⟨q0, q1, q2, q3⟩ := hNz
                    clear hb7 hfin
                    go_wp2
                    show bodyPost _ _ _ _ _ (putN w7 w.heap.size K U)
                    generalize putN w7 w.heap.size K U = X at hP hB ⊢
                    obtain ⟨x0, x1, _, _⟩ := hP
                    refine bodyPost_ret (v := .agg #[.int .i64 K, .int .i64 U]) ?_ rfl ⟨by rw [unhide E1, unhide E2], hB⟩
                    simp [results, Tryz.results22, go_sem, x0, x1]
              · have hV : 1000000000000000000 < valL 0 (digs A R) := Nat.lt_of_lt_of_le (hinf rfl) hge
                have E1 := hide (show FK = infK below by rw [unhide E1]; unfold signK; rw [if_pos hV])
                have E2 := hide (show FN = 0 by rw [unhide E2]; unfold signN; rw [if_pos hV])
                clear hfin hinf hV hge hval
                go_wp2_with fail
                refine (refInf_any below _).mono ?_
                rintro e w7 ⟨rfl, hb7⟩
                have hNz := NumAt.below (w := (w.alloc (.cells #[.int .i64 0, .int .i64 0] 24))) (b := w.heap.size) (k := 0) (v := 0) ⟨by simp [go_sem], by simp [go_sem], by simp [go_sem], by simp [go_sem]⟩ hb7
                have hfin : Below w.heap.size w w7 := Below.then (by (repeat first | exact Below.refl _ _ | assumption | refine Below.drew ?_ | refine Below.alloc ?_ (by simp <;> omega) _ | refine Below.setCell ?_ (by simp <;> omega) _)) hb7
                have hP := hNz.put (infK below) 0
                have hB := putN_below hfin (Nat.le_refl w.heap.size) (infK below) 0
                obtain ⟨q0, q1, q2, q3⟩ := hNz
                clear hb7 hfin
                go_wp2
                show bodyPost _ _ _ _ _ (putN w7 w.heap.size (infK below) 0)
                generalize putN w7 w.heap.size (infK below) 0 = X at hP hB ⊢
                obtain ⟨x0, x1, _, _⟩ := hP
                refine bodyPost_ret (v := .agg #[.int .i64 (infK below), .int .i64 0]) ?_ rfl ⟨by rw [unhide E1, unhide E2], hB⟩
                simp [results, Tryz.results22, go_sem, x0, x1]
end Go.Proofs.YtmaefnmjfkbplaaGreatDoor
