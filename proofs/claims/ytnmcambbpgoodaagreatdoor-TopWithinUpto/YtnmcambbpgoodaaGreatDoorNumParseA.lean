/- What any text says: xnum's areDigits and Parse. -/
import Derived.Test.YtnmcambbpgoodaaGreatDoorGbg
namespace Go.Proofs.YtnmcambbpgoodaaGreatDoor
open Go.RowKit
attribute [local go_sem ↓] Go.wp_at_zero Go.wp_at_succ
theorem get_all {s : ByteArray} (h : s.data.toList.all digB = true) : ∀ i (hi : i < s.size), digB (s[i]'hi) = true := fun i hi => List.all_eq_true.1 h _ (List.getElem_mem (show i < s.data.toList.length from hi))
set_option maxHeartbeats 1000000 in
theorem areDigits_not (s : ByteArray) (w : World) (ha : s.data.toList.all digB = false) :
    Calls Tryz.prog 110 #[.string s] w fun e w' => e = .returned (.bool false) ∧ Below w.heap.size w w' := by
  have HA := hide ha
  clear ha
  have hl : s.data.toList.length = s.size := rfl
  go_enter Tryz.func110, Tryz.ntmps110
  go_wp2_with fail
  go_loopw [] (fun w' => ∃ pos : Nat, w' = w.iter s pos ∧ pos ≤ s.size ∧ (s.data.toList.take pos).all digB = true) (fun w' => s.size - w'.iterPos w.heap.size)
  case atStart => exact ⟨0, rfl, Nat.zero_le _, rfl⟩
  case round =>
    obtain ⟨pos, rfl, hps, hall⟩ := hrel
    have HL := hide hall
    clear hall
    by_cases hp : pos < s.size
    · cases hd : digB (s[pos]'hp)
      · have hnx : ∀ ty, (Instr.next (.pointer (some ⟨w.heap.size, 0, none⟩)) true ty).run Tryz.prog (w.iter s pos) = _ := fun ty => run_next_any w s pos ty hp
        have h1 : ((Utf8.decode s pos).1 : Int) < 48 ∨ (48 ≤ ((Utf8.decode s pos).1 : Int) ∧ 57 < ((Utf8.decode s pos).1 : Int)) := by
          by_cases hlo : (s[pos]'hp).toNat < 128
          · rw [decode_ascii s pos hp hlo]
            unfold digB at hd
            simp at hd
            simp only
            omega
          · have := (decode_high s pos hp (by omega)).1
            omega
        clear hd
        generalize (Utf8.decode s pos).1 = c at *
        generalize (Utf8.decode s pos).2 = d at *
        rcases h1 with h1 | ⟨h1, h2⟩
        · go_wp2
          go_ret
          exact ⟨rfl, (Below.refl _ _).alloc (Nat.le_refl _) _⟩
        · go_wp2
          go_ret
          exact ⟨rfl, (Below.refl _ _).alloc (Nat.le_refl _) _⟩
      · have hlt := dig_ascii hd
        have hnx : ∀ ty, (Instr.next (.pointer (some ⟨w.heap.size, 0, none⟩)) true ty).run Tryz.prog (w.iter s pos) = _ := fun ty => run_next_ascii w s pos ty hp hlt
        have h1 : (48 : Int) ≤ ((s[pos]'hp).toNat : Int) ∧ ((s[pos]'hp).toNat : Int) ≤ 57 := by unfold digB at hd; simp at hd; omega
        have HN := hide (show (s.data.toList.take (pos + 1)).all digB = true by
          rw [← List.take_append_getElem (show pos < s.data.toList.length from hp), List.all_append, unhide HL, List.all_cons, show digB (s.data.toList[pos]'hp) = true from hd]
          rfl)
        obtain ⟨h2, h3⟩ := h1
        clear hd hlt
        generalize (s[pos]'hp).toNat = c at *
        go_wp2
        exact ⟨⟨pos + 1, rfl, hp, unhide HN⟩, by simp; omega⟩
    · exfalso
      have h1 := unhide HL
      rw [List.take_of_length_le (by omega), unhide HA] at h1
      cases h1
theorem areDigits_all (s : ByteArray) (w : World) :
    Calls Tryz.prog 110 #[.string s] w fun e w' => e = .returned (.bool (s.data.toList.all digB)) ∧ Below w.heap.size w w' := by
  cases h : s.data.toList.all digB
  · exact areDigits_not s w h
  · exact areDigits_yes s w (get_all h)
theorem readL_lt : ∀ (l : List UInt8) (n : Nat), l.all digB = true → n ≤ 1000000000000000000 → readL n l < 18446744073709551616
  | [], n, _, h => by rw [readL]; omega
  | c :: l, n, h, hn => by
    rw [List.all_cons, Bool.and_eq_true] at h
    have hc : digN c ≤ 9 := by
      have := h.1
      unfold digB at this
      simp at this
      unfold digN
      omega
    rw [readL]
    split
    · omega
    · exact readL_lt l _ h.2 (by omega)
theorem nan_any (w : World) : Calls Tryz.prog 111 #[] w fun e w' => e = .returned (.agg #[.int .i64 1, .int .i64 0]) ∧ Below w.heap.size w w' := by
  refine (notANumber_any w).mono ?_
  rintro e w' ⟨rfl, rfl⟩
  exact ⟨rfl, by (repeat first | exact Below.refl _ _ | assumption | refine Below.drew ?_ | refine Below.alloc ?_ (by simp <;> omega) _ | refine Below.setCell ?_ (by simp <;> omega) _)⟩
/-- The way to Parse's parts: what is trimmed, cut at its sign and at its point. -/
structure Parts (s B A R : ByteArray) (below : Bool) : Prop where
  pre : Lib.hasPrefix (Lib.trimF blankP s).data.toList [45] = below
  cp : cutPre (Lib.trimF blankP s) ⟨#[45]⟩ = B
  c1 : (⟨(Lib.cut B.data.toList [46]).1.toArray⟩ : ByteArray) = A
  c2 : (⟨(Lib.cut B.data.toList [46]).2.1.toArray⟩ : ByteArray) = R
  bsz : B.size ≤ 1048576
  asz : A.size ≤ 1048576
  rsz : R.size ≤ 1048576
set_option maxRecDepth 100000 in
set_option maxHeartbeats 2000000 in
theorem parse_none (s B A R : ByteArray) (below : Bool) (w : World) (hM : MaxLenIs w) (hT : Lib.Utf8Tabs 2 3 w)
    (hs : s.size ≤ 1048576) (hp : Parts s B A R below) (h : (A.size = 0 ∧ R.size = 0) ∨ (A.size = 0 ∧ R.size ≠ 0 ∧ R.data.toList.all digB = false) ∨ (A.size ≠ 0 ∧ A.data.toList.all digB = false) ∨ (A.size ≠ 0 ∧ A.data.toList.all digB = true ∧ R.data.toList.all digB = false)) :
    Calls Tryz.prog 107 #[.string s] w fun e w' => e = .returned (.agg #[.int .i64 1, .int .i64 0]) ∧ Below w.heap.size w w' := by
  have HM := hide hM
  have HT := hide hT
  have HC := hide (fun w => cutPrefix_any (Lib.trimF blankP s) ⟨#[45]⟩ w)
  rw [hp.cp, show (⟨#[45]⟩ : ByteArray).data.toList = [45] from rfl, hp.pre] at HC
  have HAD := hide (fun w => areDigits_all A w)
  have HRD := hide (fun w => areDigits_all R w)
  have hBs := hp.bsz
  have HP := hide hp
  clear hp hM hT
  have hemp : ∀ X : ByteArray, X.size = 0 → X.toList = [] := fun X h => by
    rw [ByteArray.toList_eq]
    exact List.eq_nil_of_length_eq_zero h
  have hnon : ∀ X : ByteArray, X.size ≠ 0 → ¬ X.toList = [] := fun X h e => by
    rw [ByteArray.toList_eq] at e
    have h2 : X.data.toList.length = X.size := rfl
    rw [e] at h2
    exact h h2.symm
  have HEM := hide hemp
  have HNO := hide hnon
  clear hemp hnon
  go_enter Tryz.func107, Tryz.ntmps107
  go_wp2_with fail
  have hb0 : Below w.heap.size w (w.alloc (.cells #[.int .i64 0, .int .i64 0] 29)) := by
    (repeat first | exact Below.refl _ _ | assumption | refine Below.drew ?_ | refine Below.alloc ?_ (by simp <;> omega) _ | refine Below.setCell ?_ (by simp <;> omega) _)
  have hN : NumAt (w.alloc (.cells #[.int .i64 0, .int .i64 0] 29)) w.heap.size 0 0 := ⟨by simp [go_sem], by simp [go_sem], by simp [go_sem], by simp [go_sem]⟩
  refine (Tryz.strings_TrimFunc_runes 23 #[] blank_enters blankP s _ (by omega) (Utf8Tabs_below (unhide HT) hb0) (blank_runes _)).mono ?_
  rintro e w1 ⟨rfl, hb1⟩
  have hN1 := hN.below hb1
  have hb01 := Below.then hb0 hb1
  clear hN hb0 hb1
  go_wp2_with fail
  refine (unhide HC _).mono ?_
  rintro e w2 ⟨rfl, rfl⟩
  obtain ⟨m, hm⟩ := (unhide HM).below hb01
  have HM1 := hide hm
  clear hm
  have HN1 := hide hN1
  clear hN1
  go_wp2_with fail
  refine (Tryz.strings_Cut B ⟨#[46]⟩ m _ (by omega) (unhide HM1)).mono ?_
  rintro e w3 ⟨rfl, n2, rfl⟩
  rw [show (⟨#[46]⟩ : ByteArray).data.toList = [46] from rfl, (unhide HP).c1, (unhide HP).c2]
  have hb02 := bel_draws hb01 n2
  have hN2 := (unhide HN1).below (bel_draws (Below.refl _ w2) n2)
  clear HM1 HN1 hb01 HP HC HM HT hs hBs
  rcases h with ⟨h1, h2⟩ | ⟨h1, h2, h3⟩ | ⟨h1, h2⟩ | ⟨h1, h2, h3⟩
  · have k1 := unhide HEM A h1
    have k2 := unhide HEM R h2
    go_wp2_with fail
    refine (nan_any _).mono ?_
    rintro e w7 ⟨rfl, hb7⟩
    have hN7 := hN2.below hb7
    have hb07 := Below.then hb02 hb7
    clear hN2 hb02
    have hP := hN7.put 1 0
    have hB := putN_below hb07 (Nat.le_refl w.heap.size) 1 0
    obtain ⟨q0, q1, q2, q3⟩ := hN7
    go_wp2
    show bodyPost _ _ _ _ _ (putN w7 w.heap.size 1 0)
    generalize putN w7 w.heap.size 1 0 = X at hP hB ⊢
    obtain ⟨x0, x1, _, _⟩ := hP
    refine bodyPost_ret (v := .agg #[.int .i64 1, .int .i64 0]) ?_ rfl ⟨rfl, hB⟩
    simp [results, Tryz.results107, go_sem, x0, x1]
  · have k1 := unhide HEM A h1
    have k2 := unhide HNO R h2
    have h4 : A.data.toList.all digB = true := by rw [← ByteArray.toList_eq, k1]; rfl
    go_wp2_with fail
    refine (unhide HAD _).mono ?_
    rintro e w3 ⟨rfl, hb3⟩
    rw [h4]
    have hN3 := hN2.below hb3
    have hb03 := Below.then hb02 hb3
    clear hN2 hb02 hb3
    go_wp2_with fail
    refine (unhide HRD _).mono ?_
    rintro e w4 ⟨rfl, hb4⟩
    rw [h3]
    have hN4 := hN3.below hb4
    have hb04 := Below.then hb03 hb4
    clear hN3 hb03 hb4
    go_wp2_with fail
    refine (nan_any _).mono ?_
    rintro e w7 ⟨rfl, hb7⟩
    have hN7 := hN4.below hb7
    have hb07 := Below.then hb04 hb7
    clear hN4 hb04
    have hP := hN7.put 1 0
    have hB := putN_below hb07 (Nat.le_refl w.heap.size) 1 0
    obtain ⟨q0, q1, q2, q3⟩ := hN7
    go_wp2
    show bodyPost _ _ _ _ _ (putN w7 w.heap.size 1 0)
    generalize putN w7 w.heap.size 1 0 = X at hP hB ⊢
    obtain ⟨x0, x1, _, _⟩ := hP
    refine bodyPost_ret (v := .agg #[.int .i64 1, .int .i64 0]) ?_ rfl ⟨rfl, hB⟩
    simp [results, Tryz.results107, go_sem, x0, x1]
  · have k1 := unhide HNO A h1
    go_wp2_with fail
    refine (unhide HAD _).mono ?_
    rintro e w3 ⟨rfl, hb3⟩
    rw [h2]
    have hN3 := hN2.below hb3
    have hb03 := Below.then hb02 hb3
    clear hN2 hb02 hb3
    go_wp2_with fail
    refine (nan_any _).mono ?_
    rintro e w7 ⟨rfl, hb7⟩
    have hN7 := hN3.below hb7
    have hb07 := Below.then hb03 hb7
    clear hN3 hb03
    have hP := hN7.put 1 0
    have hB := putN_below hb07 (Nat.le_refl w.heap.size) 1 0
    obtain ⟨q0, q1, q2, q3⟩ := hN7
    go_wp2
    show bodyPost _ _ _ _ _ (putN w7 w.heap.size 1 0)
    generalize putN w7 w.heap.size 1 0 = X at hP hB ⊢
    obtain ⟨x0, x1, _, _⟩ := hP
    refine bodyPost_ret (v := .agg #[.int .i64 1, .int .i64 0]) ?_ rfl ⟨rfl, hB⟩
    simp [results, Tryz.results107, go_sem, x0, x1]
  · have k1 := unhide HNO A h1
    go_wp2_with fail
    refine (unhide HAD _).mono ?_
    rintro e w3 ⟨rfl, hb3⟩
    rw [h2]
    have hN3 := hN2.below hb3
    have hb03 := Below.then hb02 hb3
    clear hN2 hb02 hb3
    go_wp2_with fail
    refine (unhide HRD _).mono ?_
    rintro e w4 ⟨rfl, hb4⟩
    rw [h3]
    have hN4 := hN3.below hb4
    have hb04 := Below.then hb03 hb4
    clear hN3 hb03 hb4
    go_wp2_with fail
    refine (nan_any _).mono ?_
    rintro e w7 ⟨rfl, hb7⟩
    have hN7 := hN4.below hb7
    have hb07 := Below.then hb04 hb7
    clear hN4 hb04
    have hP := hN7.put 1 0
    have hB := putN_below hb07 (Nat.le_refl w.heap.size) 1 0
    obtain ⟨q0, q1, q2, q3⟩ := hN7
    go_wp2
    show bodyPost _ _ _ _ _ (putN w7 w.heap.size 1 0)
    generalize putN w7 w.heap.size 1 0 = X at hP hB ⊢
    obtain ⟨x0, x1, _, _⟩ := hP
    refine bodyPost_ret (v := .agg #[.int .i64 1, .int .i64 0]) ?_ rfl ⟨rfl, hB⟩
    simp [results, Tryz.results107, go_sem, x0, x1]
theorem rep_size (k : Nat) : (⟨(Lib.repeatL [48] k).toArray⟩ : ByteArray).size = k := by
  show (Lib.repeatL [48] k).toArray.size = _
  simp [Lib.repeatL_length]
set_option maxRecDepth 100000 in
set_option maxHeartbeats 2000000 in
theorem parse_some (s B A R Q : ByteArray) (below : Bool) (n : Nat) (w : World) (hM : MaxLenIs w) (hT : Lib.Utf8Tabs 2 3 w)
    (hs : s.size ≤ 1048576) (hp : Parts s B A R below) (h : A.size ≠ 0 ∨ (A.size = 0 ∧ R.size ≠ 0)) (hA : A.data.toList.all digB = true) (hR : R.data.toList.all digB = true)
    (hQ : R.extract 0 (min R.size 6) = Q) (hall : (A ++ (Q ++ (⟨(Lib.repeatL [48] (6 - Q.size)).toArray⟩ : ByteArray))).data.toList.all digB = true) (hn : readL 0 (A ++ (Q ++ (⟨(Lib.repeatL [48] (6 - Q.size)).toArray⟩ : ByteArray))).data.toList = n) :
    Calls Tryz.prog 107 #[.string s] w fun e w' => e = .returned (.agg #[.int .i64 (signK below n), .int .i64 (signN below n)]) ∧ Below w.heap.size w w' := by
  have HM := hide hM
  have HT := hide hT
  have HC := hide (fun w => cutPrefix_any (Lib.trimF blankP s) ⟨#[45]⟩ w)
  rw [hp.cp, show (⟨#[45]⟩ : ByteArray).data.toList = [45] from rfl, hp.pre] at HC
  have HAD := hide (fun w => areDigits_yes A w (get_all hA))
  have HRD := hide (fun w => areDigits_yes R w (get_all hR))
  have hQs : Q.size ≤ 6 := by rw [← hQ, ByteArray.size_extract]; omega
  have HPD := hide (fun w => padRight_any Q 6 w (by omega) (by decide))
  have HRE := hide (fun w => readDigits_any (A ++ (Q ++ (⟨(Lib.repeatL [48] (6 - Q.size)).toArray⟩ : ByteArray))) w (get_all hall))
  have hnl : n < 18446744073709551616 := by rw [← hn]; exact readL_lt _ 0 hall (by decide)
  rw [hn] at HRE
  have HSG := hide (fun w => signed_any below n w hnl)
  generalize signK below n = K at *
  generalize signN below n = U at *
  have hPs : (Q ++ (⟨(Lib.repeatL [48] (6 - Q.size)).toArray⟩ : ByteArray)).size ≤ 6 := by
    rw [ByteArray.size_append, rep_size]
    omega
  generalize (Q ++ (⟨(Lib.repeatL [48] (6 - Q.size)).toArray⟩ : ByteArray)) = RP at *
  have hBs := hp.bsz
  have hAs := hp.asz
  have hRs := hp.rsz
  have HP := hide hp
  have hmin : min (R.size : Int) 6 = ((min R.size 6 : Nat) : Int) := by omega
  have hml : min R.size 6 ≤ R.size := by omega
  have hmz : (0 : Int) ≤ ((min R.size 6 : Nat) : Int) := by omega
  generalize min R.size 6 = mr at *
  clear hp hM hT hA hR hall hn hnl
  have hemp : ∀ X : ByteArray, X.size = 0 → X.toList = [] := fun X h => by
    rw [ByteArray.toList_eq]
    exact List.eq_nil_of_length_eq_zero h
  have hnon : ∀ X : ByteArray, X.size ≠ 0 → ¬ X.toList = [] := fun X h e => by
    rw [ByteArray.toList_eq] at e
    have h2 : X.data.toList.length = X.size := rfl
    rw [e] at h2
    exact h h2.symm
  have HEM := hide hemp
  have HNO := hide hnon
  clear hemp hnon
  go_enter Tryz.func107, Tryz.ntmps107
  go_wp2_with fail
  have hb0 : Below w.heap.size w (w.alloc (.cells #[.int .i64 0, .int .i64 0] 29)) := by
    (repeat first | exact Below.refl _ _ | assumption | refine Below.drew ?_ | refine Below.alloc ?_ (by simp <;> omega) _ | refine Below.setCell ?_ (by simp <;> omega) _)
  have hN : NumAt (w.alloc (.cells #[.int .i64 0, .int .i64 0] 29)) w.heap.size 0 0 := ⟨by simp [go_sem], by simp [go_sem], by simp [go_sem], by simp [go_sem]⟩
  refine (Tryz.strings_TrimFunc_runes 23 #[] blank_enters blankP s _ (by omega) (Utf8Tabs_below (unhide HT) hb0) (blank_runes _)).mono ?_
  rintro e w1 ⟨rfl, hb1⟩
  have hN1 := hN.below hb1
  have hb01 := Below.then hb0 hb1
  clear hN hb0 hb1
  go_wp2_with fail
  refine (unhide HC _).mono ?_
  rintro e w2 ⟨rfl, rfl⟩
  obtain ⟨m, hm⟩ := (unhide HM).below hb01
  have HM1 := hide hm
  clear hm
  have HN1 := hide hN1
  clear hN1
  go_wp2_with fail
  refine (Tryz.strings_Cut B ⟨#[46]⟩ m _ (by omega) (unhide HM1)).mono ?_
  rintro e w3 ⟨rfl, n2, rfl⟩
  rw [show (⟨#[46]⟩ : ByteArray).data.toList = [46] from rfl, (unhide HP).c1, (unhide HP).c2]
  have hb02 := bel_draws hb01 n2
  have hN2 := (unhide HN1).below (bel_draws (Below.refl _ w2) n2)
  clear HM1 HN1 hb01 HP HC HM HT hs hBs
  have HMN := hide hmin
  have HQQ := hide hQ
  clear hmin hQ
  rcases h with h1 | ⟨h1, h2⟩
  · have k1 := unhide HNO A h1
    go_wp2_with fail
    refine (unhide HAD _).mono ?_
    rintro e w3 ⟨rfl, hb3⟩
    go_wp2_with fail
    refine (unhide HRD _).mono ?_
    rintro e w4 ⟨rfl, hb4⟩
    have hN4 := (hN2.below hb3).below hb4
    have hb04 := Below.then hb02 (Below.then hb3 hb4)
    clear hN2 hb02 hb3 hb4
    have hmin := unhide HMN
    have hQ := unhide HQQ
    go_wp2_with fail
    refine (unhide HPD _).mono ?_
    rintro e w5 ⟨rfl, hb5⟩
    go_wp2_with fail
    refine (unhide HRE _).mono ?_
    rintro e w6 ⟨rfl, hb6⟩
    go_wp2_with fail
    refine (unhide HSG _).mono ?_
    rintro e w7 ⟨rfl, hb7⟩
    have hN7 := ((hN4.below hb5).below hb6).below hb7
    have hb07 := Below.then hb04 (Below.then hb5 (Below.then hb6 hb7))
    clear hN4 hb04 hb5 hb6 hb7
    have hPp := hN7.put K U
    have hBb := putN_below hb07 (Nat.le_refl w.heap.size) K U
    obtain ⟨q0, q1, q2, q3⟩ := hN7
    go_wp2
    show bodyPost _ _ _ _ _ (putN w7 w.heap.size K U)
    generalize putN w7 w.heap.size K U = X at hPp hBb ⊢
    obtain ⟨x0, x1, _, _⟩ := hPp
    refine bodyPost_ret (v := .agg #[.int .i64 K, .int .i64 U]) ?_ rfl ⟨rfl, hBb⟩
    simp [results, Tryz.results107, go_sem, x0, x1]
  · have k1 := unhide HEM A h1
    have k2 : R.toList.isEmpty = false := by simpa using unhide HNO R h2
    go_wp2_with fail
    refine (unhide HAD _).mono ?_
    rintro e w3 ⟨rfl, hb3⟩
    go_wp2_with fail
    refine (unhide HRD _).mono ?_
    rintro e w4 ⟨rfl, hb4⟩
    have hN4 := (hN2.below hb3).below hb4
    have hb04 := Below.then hb02 (Below.then hb3 hb4)
    clear hN2 hb02 hb3 hb4
    have hmin := unhide HMN
    have hQ := unhide HQQ
    go_wp2_with fail
    refine (unhide HPD _).mono ?_
    rintro e w5 ⟨rfl, hb5⟩
    go_wp2_with fail
    refine (unhide HRE _).mono ?_
    rintro e w6 ⟨rfl, hb6⟩
    go_wp2_with fail
    refine (unhide HSG _).mono ?_
    rintro e w7 ⟨rfl, hb7⟩
    have hN7 := ((hN4.below hb5).below hb6).below hb7
    have hb07 := Below.then hb04 (Below.then hb5 (Below.then hb6 hb7))
    clear hN4 hb04 hb5 hb6 hb7
    have hPp := hN7.put K U
    have hBb := putN_below hb07 (Nat.le_refl w.heap.size) K U
    obtain ⟨q0, q1, q2, q3⟩ := hN7
    go_wp2
    show bodyPost _ _ _ _ _ (putN w7 w.heap.size K U)
    generalize putN w7 w.heap.size K U = X at hPp hBb ⊢
    obtain ⟨x0, x1, _, _⟩ := hPp
    refine bodyPost_ret (v := .agg #[.int .i64 K, .int .i64 U]) ?_ rfl ⟨rfl, hBb⟩
    simp [results, Tryz.results107, go_sem, x0, x1]
end Go.Proofs.YtnmcambbpgoodaaGreatDoor
