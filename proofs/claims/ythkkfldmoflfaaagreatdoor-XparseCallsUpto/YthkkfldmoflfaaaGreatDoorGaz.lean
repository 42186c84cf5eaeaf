/- Several texts, laid as one. -/
import Derived.Test.YthkkfldmoflfaaaGreatDoorGay
import Derived.Test.YthkkfldmoflfaaaGreatDoorGaw
/- What any text says: xnum's areDigits and Parse. -/
namespace Go.Proofs.YthkkfldmoflfaaaGreatDoor
open Go.RowKit
attribute [local go_sem ↓] Go.wp_at_zero Go.wp_at_succ
theorem get_all {s : ByteArray} (h : s.data.toList.all digB = true) : ∀ i (hi : i < s.size), digB (s[i]'hi) = true := fun i hi => List.all_eq_true.1 h _ (List.getElem_mem (show i < s.data.toList.length from hi))
set_option maxHeartbeats 1000000 in
theorem areDigits_not (s : ByteArray) (w : World) (ha : s.data.toList.all digB = false) :
    Calls Tryz.prog 174 #[.string s] w fun e w' => e = .returned (.bool false) ∧ Below w.heap.size w w' := by
  have HA := hide ha
  clear ha
  have hl : s.data.toList.length = s.size := rfl
  go_enter Tryz.func174, Tryz.ntmps174
  go_wp2_with fail
  go_loopw [] (fun w' => ∃ pos : Nat, w' = w.iter s pos ∧ pos ≤ s.size ∧ (s.data.toList.take pos).all digB = true) (fun w' => s.size - w'.iterPos w.heap.size)
  case atStart => exact ⟨0, rfl, Nat.zero_le _, rfl⟩
  case round =>
    obtain ⟨pos, rfl, hps, hall⟩ := hrel
    have HL := hide hall
    clear hall
    by_cases hp : pos < s.size
    · cases hd : digB (s[pos]'hp)
      · have hnx : ∀ ty, (Instr.next (.pointer (some ⟨w.heap.size, 0, none⟩)) true ty).run Tryz.prog (w.iter s pos) = _ := fun ty => run_next_any w s pos ty hp
        have h1 : ((Utf8.decode s pos).1 : Int) < 48 ∨ (48 ≤ ((Utf8.decode s pos).1 : Int) ∧ 57 < ((Utf8.decode s pos).1 : Int)) := by
          by_cases hlo : (s[pos]'hp).toNat < 128
          · rw [decode_ascii s pos hp hlo]
            unfold digB at hd
            simp at hd
            simp only
            omega
          · have := (decode_high s pos hp (by omega)).1
            omega
        clear hd
        generalize (Utf8.decode s pos).1 = c at *
        generalize (Utf8.decode s pos).2 = d at *
        rcases h1 with h1 | ⟨h1, h2⟩
        · go_wp2
          go_ret
          exact ⟨rfl, (Below.refl _ _).alloc (Nat.le_refl _) _⟩
        · go_wp2
          go_ret
          exact ⟨rfl, (Below.refl _ _).alloc (Nat.le_refl _) _⟩
      · have hlt := dig_ascii hd
        have hnx : ∀ ty, (Instr.next (.pointer (some ⟨w.heap.size, 0, none⟩)) true ty).run Tryz.prog (w.iter s pos) = _ := fun ty => run_next_ascii w s pos ty hp hlt
        have h1 : (48 : Int) ≤ ((s[pos]'hp).toNat : Int) ∧ ((s[pos]'hp).toNat : Int) ≤ 57 := by unfold digB at hd; simp at hd; omega
        have HN := hide (show (s.data.toList.take (pos + 1)).all digB = true by
          rw [← List.take_append_getElem (show pos < s.data.toList.length from hp), List.all_append, unhide HL, List.all_cons, show digB (s.data.toList[pos]'hp) = true from hd]
          rfl)
        obtain ⟨h2, h3⟩ := h1
        clear hd hlt
        generalize (s[pos]'hp).toNat = c at *
        go_wp2
        exact ⟨⟨pos + 1, rfl, hp, unhide HN⟩, by simp; omega⟩
    · exfalso
      have h1 := unhide HL
      rw [List.take_of_length_le (by omega), unhide HA] at h1
      cases h1
theorem areDigits_all (s : ByteArray) (w : World) :
    Calls Tryz.prog 174 #[.string s] w fun e w' => e = .returned (.bool (s.data.toList.all digB)) ∧ Below w.heap.size w w' := by
  cases h : s.data.toList.all digB
  · exact areDigits_not s w h
  · exact areDigits_yes s w (get_all h)
theorem readL_lt : ∀ (l : List UInt8) (n : Nat), l.all digB = true → n ≤ 1000000000000000000 → readL n l < 18446744073709551616
  | [], n, _, h => by rw [readL]; omega
  | c :: l, n, h, hn => by
    rw [List.all_cons, Bool.and_eq_true] at h
    have hc : digN c ≤ 9 := by
      have := h.1
      unfold digB at this
      simp at this
      unfold digN
      omega
    rw [readL]
    split
    · omega
    · exact readL_lt l _ h.2 (by omega)
theorem nan_any (w : World) : Calls Tryz.prog 175 #[] w fun e w' => e = .returned (.agg #[.int .i64 1, .int .i64 0]) ∧ Below w.heap.size w w' := by
  refine (notANumber_any w).mono ?_
  rintro e w' ⟨rfl, rfl⟩
  exact ⟨rfl, by (repeat first | exact Below.refl _ _ | assumption | refine Below.drew ?_ | refine Below.alloc ?_ (by simp <;> omega) _ | refine Below.setCell ?_ (by simp <;> omega) _)⟩
/-- The way to Parse's parts: what is trimmed, cut at its sign and at its point. -/
structure Parts (s B A R : ByteArray) (below : Bool) : Prop where
  pre : Lib.hasPrefix (Lib.trimF blankP s).data.toList [45] = below
  cp : cutPre (Lib.trimF blankP s) ⟨#[45]⟩ = B
  c1 : (⟨(Lib.cut B.data.toList [46]).1.toArray⟩ : ByteArray) = A
  c2 : (⟨(Lib.cut B.data.toList [46]).2.1.toArray⟩ : ByteArray) = R
  bsz : B.size ≤ 1048576
  asz : A.size ≤ 1048576
  rsz : R.size ≤ 1048576
set_option maxRecDepth 100000 in
set_option maxHeartbeats 2000000 in
theorem parse_none (s B A R : ByteArray) (below : Bool) (w : World) (hM : MaxLenIs w) (hT : Lib.Utf8Tabs 1 2 w)
    (hs : s.size ≤ 1048576) (hp : Parts s B A R below) (h : (A.size = 0 ∧ R.size = 0) ∨ (A.size = 0 ∧ R.size ≠ 0 ∧ R.data.toList.all digB = false) ∨ (A.size ≠ 0 ∧ A.data.toList.all digB = false) ∨ (A.size ≠ 0 ∧ A.data.toList.all digB = true ∧ R.data.toList.all digB = false)) :
    Calls Tryz.prog 156 #[.string s] w fun e w' => e = .returned (.agg #[.int .i64 1, .int .i64 0]) ∧ Below w.heap.size w w' := by
  have HM := hide hM
  have HT := hide hT
  have HC := hide (fun w => cutPrefix_any (Lib.trimF blankP s) ⟨#[45]⟩ w)
  rw [hp.cp, show (⟨#[45]⟩ : ByteArray).data.toList = [45] from rfl, hp.pre] at HC
  have HAD := hide (fun w => areDigits_all A w)
  have HRD := hide (fun w => areDigits_all R w)
  have hBs := hp.bsz
  have HP := hide hp
  clear hp hM hT
  have hemp : ∀ X : ByteArray, X.size = 0 → X.toList = [] := fun X h => by
    rw [ByteArray.toList_eq]
    exact List.eq_nil_of_length_eq_zero h
  have hnon : ∀ X : ByteArray, X.size ≠ 0 → ¬ X.toList = [] := fun X h e => by
    rw [ByteArray.toList_eq] at e
    have h2 : X.data.toList.length = X.size := rfl
    rw [e] at h2
    exact h h2.symm
  have HEM := hide hemp
  have HNO := hide hnon
  clear hemp hnon
  go_enter Tryz.func156, Tryz.ntmps156
  go_wp2_with fail
  have hb0 : Below w.heap.size w (w.alloc (.cells #[.int .i64 0, .int .i64 0] 27)) := by
    (repeat first | exact Below.refl _ _ | assumption | refine Below.drew ?_ | refine Below.alloc ?_ (by simp <;> omega) _ | refine Below.setCell ?_ (by simp <;> omega) _)
  have hN : NumAt (w.alloc (.cells #[.int .i64 0, .int .i64 0] 27)) w.heap.size 0 0 := ⟨by simp [go_sem], by simp [go_sem], by simp [go_sem], by simp [go_sem]⟩
  refine (Tryz.strings_TrimFunc_runes 40 #[] blank_enters blankP s _ (by omega) (Utf8Tabs_below (unhide HT) hb0) (blank_runes _)).mono ?_
  rintro e w1 ⟨rfl, hb1⟩
  have hN1 := hN.below hb1
  have hb01 := Below.then hb0 hb1
  clear hN hb0 hb1
  go_wp2_with fail
  refine (unhide HC _).mono ?_
  rintro e w2 ⟨rfl, rfl⟩
  obtain ⟨m, hm⟩ := (unhide HM).below hb01
  have HM1 := hide hm
  clear hm
  have HN1 := hide hN1
  clear hN1
  go_wp2_with fail
  refine (Tryz.strings_Cut B ⟨#[46]⟩ m _ (by omega) (unhide HM1)).mono ?_
  rintro e w3 ⟨rfl, n2, rfl⟩
  rw [show (⟨#[46]⟩ : ByteArray).data.toList = [46] from rfl, (unhide HP).c1, (unhide HP).c2]
  have hb02 := bel_draws hb01 n2
  have hN2 := (unhide HN1).below (bel_draws (Below.refl _ w2) n2)
  clear HM1 HN1 hb01 HP HC HM HT hs hBs
  rcases h with ⟨h1, h2⟩ | ⟨h1, h2, h3⟩ | ⟨h1, h2⟩ | ⟨h1, h2, h3⟩
  · have k1 := unhide HEM A h1
    have k2 := unhide HEM R h2
    go_wp2_with fail
    refine (nan_any _).mono ?_
    rintro e w7 ⟨rfl, hb7⟩
    have hN7 := hN2.below hb7
    have hb07 := Below.then hb02 hb7
    clear hN2 hb02
    have hP := hN7.put 1 0
    have hB := putN_below hb07 (Nat.le_refl w.heap.size) 1 0
    obtain ⟨q0, q1, q2, q3⟩ := hN7
    go_wp2
    show bodyPost _ _ _ _ _ (putN w7 w.heap.size 1 0)
    generalize putN w7 w.heap.size 1 0 = X at hP hB ⊢
    obtain ⟨x0, x1, _, _⟩ := hP
    refine bodyPost_ret (v := .agg #[.int .i64 1, .int .i64 0]) ?_ rfl ⟨rfl, hB⟩
    simp [results, Tryz.results156, go_sem, x0, x1]
  · have k1 := unhide HEM A h1
    have k2 := unhide HNO R h2
    have h4 : A.data.toList.all digB = true := by rw [← ByteArray.toList_eq, k1]; rfl
    go_wp2_with fail
    refine (unhide HAD _).mono ?_
    rintro e w3 ⟨rfl, hb3⟩
    rw [h4]
    have hN3 := hN2.below hb3
    have hb03 := Below.then hb02 hb3
    clear hN2 hb02 hb3
    go_wp2_with fail
    refine (unhide HRD _).mono ?_
    rintro e w4 ⟨rfl, hb4⟩
    rw [h3]
    have hN4 := hN3.below hb4
    have hb04 := Below.then hb03 hb4
    clear hN3 hb03 hb4
    go_wp2_with fail
    refine (nan_any _).mono ?_
    rintro e w7 ⟨rfl, hb7⟩
    have hN7 := hN4.below hb7
    have hb07 := Below.then hb04 hb7
    clear hN4 hb04
    have hP := hN7.put 1 0
    have hB := putN_below hb07 (Nat.le_refl w.heap.size) 1 0
    obtain ⟨q0, q1, q2, q3⟩ := hN7
    go_wp2
    show bodyPost _ _ _ _ _ (putN w7 w.heap.size 1 0)
    generalize putN w7 w.heap.size 1 0 = X at hP hB ⊢
    obtain ⟨x0, x1, _, _⟩ := hP
    refine bodyPost_ret (v := .agg #[.int .i64 1, .int .i64 0]) ?_ rfl ⟨rfl, hB⟩
    simp [results, Tryz.results156, go_sem, x0, x1]
  · have k1 := unhide HNO A h1
    go_wp2_with fail
    refine (unhide HAD _).mono ?_
    rintro e w3 ⟨rfl, hb3⟩
    rw [h2]
    have hN3 := hN2.below hb3
    have hb03 := Below.then hb02 hb3
    clear hN2 hb02 hb3
    go_wp2_with fail
    refine (nan_any _).mono ?_
    rintro e w7 ⟨rfl, hb7⟩
    have hN7 := hN3.below hb7
    have hb07 := Below.then hb03 hb7
    clear hN3 hb03
    have hP := hN7.put 1 0
    have hB := putN_below hb07 (Nat.le_refl w.heap.size) 1 0
    obtain ⟨q0, q1, q2, q3⟩ := hN7
    go_wp2
    show bodyPost _ _ _ _ _ (putN w7 w.heap.size 1 0)
    generalize putN w7 w.heap.size 1 0 = X at hP hB ⊢
    obtain ⟨x0, x1, _, _⟩ := hP
    refine bodyPost_ret (v := .agg #[.int .i64 1, .int .i64 0]) ?_ rfl ⟨rfl, hB⟩
    simp [results, Tryz.results156, go_sem, x0, x1]
  · have k1 := unhide HNO A h1
    go_wp2_with fail
    refine (unhide HAD _).mono ?_
    rintro e w3 ⟨rfl, hb3⟩
    rw [h2]
    have hN3 := hN2.below hb3
    have hb03 := Below.then hb02 hb3
    clear hN2 hb02 hb3
    go_wp2_with fail
    refine (unhide HRD _).mono ?_
    rintro e w4 ⟨rfl, hb4⟩
    rw [h3]
    have hN4 := hN3.below hb4
    have hb04 := Below.then hb03 hb4
    clear hN3 hb03 hb4
    go_wp2_with fail
    refine (nan_any _).mono ?_
    rintro e w7 ⟨rfl, hb7⟩
    have hN7 := hN4.below hb7
    have hb07 := Below.then hb04 hb7
    clear hN4 hb04
    have hP := hN7.put 1 0
    have hB := putN_below hb07 (Nat.le_refl w.heap.size) 1 0
    obtain ⟨q0, q1, q2, q3⟩ := hN7
    go_wp2
    show bodyPost _ _ _ _ _ (putN w7 w.heap.size 1 0)
    generalize putN w7 w.heap.size 1 0 = X at hP hB ⊢
    obtain ⟨x0, x1, _, _⟩ := hP
    refine bodyPost_ret (v := .agg #[.int .i64 1, .int .i64 0]) ?_ rfl ⟨rfl, hB⟩
    simp [results, Tryz.results156, go_sem, x0, x1]
theorem rep_size (k : Nat) : (⟨(Lib.repeatL [48] k).toArray⟩ : ByteArray).size = k := by
  show (Lib.repeatL [48] k).toArray.size = _
  simp [Lib.repeatL_length]
set_option maxRecDepth 100000 in
set_option maxHeartbeats 2000000 in
theorem parse_some (s B A R Q : ByteArray) (below : Bool) (n : Nat) (w : World) (hM : MaxLenIs w) (hT : Lib.Utf8Tabs 1 2 w)
    (hs : s.size ≤ 1048576) (hp : Parts s B A R below) (h : A.size ≠ 0 ∨ (A.size = 0 ∧ R.size ≠ 0)) (hA : A.data.toList.all digB = true) (hR : R.data.toList.all digB = true)
    (hQ : R.extract 0 (min R.size 6) = Q) (hall : (A ++ (Q ++ (⟨(Lib.repeatL [48] (6 - Q.size)).toArray⟩ : ByteArray))).data.toList.all digB = true) (hn : readL 0 (A ++ (Q ++ (⟨(Lib.repeatL [48] (6 - Q.size)).toArray⟩ : ByteArray))).data.toList = n) :
    Calls Tryz.prog 156 #[.string s] w fun e w' => e = .returned (.agg #[.int .i64 (signK below n), .int .i64 (signN below n)]) ∧ Below w.heap.size w w' := by
  have HM := hide hM
  have HT := hide hT
  have HC := hide (fun w => cutPrefix_any (Lib.trimF blankP s) ⟨#[45]⟩ w)
  rw [hp.cp, show (⟨#[45]⟩ : ByteArray).data.toList = [45] from rfl, hp.pre] at HC
  have HAD := hide (fun w => areDigits_yes A w (get_all hA))
  have HRD := hide (fun w => areDigits_yes R w (get_all hR))
  have hQs : Q.size ≤ 6 := by rw [← hQ, ByteArray.size_extract]; omega
  have HPD := hide (fun w => padRight_any Q 6 w (by omega) (by decide))
  have HRE := hide (fun w => readDigits_any (A ++ (Q ++ (⟨(Lib.repeatL [48] (6 - Q.size)).toArray⟩ : ByteArray))) w (get_all hall))
  have hnl : n < 18446744073709551616 := by rw [← hn]; exact readL_lt _ 0 hall (by decide)
  rw [hn] at HRE
  have HSG := hide (fun w => signed_any below n w hnl)
  generalize signK below n = K at *
  generalize signN below n = U at *
  have hPs : (Q ++ (⟨(Lib.repeatL [48] (6 - Q.size)).toArray⟩ : ByteArray)).size ≤ 6 := by
    rw [ByteArray.size_append, rep_size]
    omega
  generalize (Q ++ (⟨(Lib.repeatL [48] (6 - Q.size)).toArray⟩ : ByteArray)) = RP at *
  have hBs := hp.bsz
  have hAs := hp.asz
  have hRs := hp.rsz
  have HP := hide hp
  have hmin : min (R.size : Int) 6 = ((min R.size 6 : Nat) : Int) := by omega
  have hml : min R.size 6 ≤ R.size := by omega
  have hmz : (0 : Int) ≤ ((min R.size 6 : Nat) : Int) := by omega
  generalize min R.size 6 = mr at *
  clear hp hM hT hA hR hall hn hnl
  have hemp : ∀ X : ByteArray, X.size = 0 → X.toList = [] := fun X h => by
    rw [ByteArray.toList_eq]
    exact List.eq_nil_of_length_eq_zero h
  have hnon : ∀ X : ByteArray, X.size ≠ 0 → ¬ X.toList = [] := fun X h e => by
    rw [ByteArray.toList_eq] at e
    have h2 : X.data.toList.length = X.size := rfl
    rw [e] at h2
    exact h h2.symm
  have HEM := hide hemp
  have HNO := hide hnon
  clear hemp hnon
  go_enter Tryz.func156, Tryz.ntmps156
  go_wp2_with fail
  have hb0 : Below w.heap.size w (w.alloc (.cells #[.int .i64 0, .int .i64 0] 27)) := by
    (repeat first | exact Below.refl _ _ | assumption | refine Below.drew ?_ | refine Below.alloc ?_ (by simp <;> omega) _ | refine Below.setCell ?_ (by simp <;> omega) _)
  have hN : NumAt (w.alloc (.cells #[.int .i64 0, .int .i64 0] 27)) w.heap.size 0 0 := ⟨by simp [go_sem], by simp [go_sem], by simp [go_sem], by simp [go_sem]⟩
  refine (Tryz.strings_TrimFunc_runes 40 #[] blank_enters blankP s _ (by omega) (Utf8Tabs_below (unhide HT) hb0) (blank_runes _)).mono ?_
  rintro e w1 ⟨rfl, hb1⟩
  have hN1 := hN.below hb1
  have hb01 := Below.then hb0 hb1
  clear hN hb0 hb1
  go_wp2_with fail
  refine (unhide HC _).mono ?_
  rintro e w2 ⟨rfl, rfl⟩
  obtain ⟨m, hm⟩ := (unhide HM).below hb01
  have HM1 := hide hm
  clear hm
  have HN1 := hide hN1
  clear hN1
  go_wp2_with fail
  refine (Tryz.strings_Cut B ⟨#[46]⟩ m _ (by omega) (unhide HM1)).mono ?_
  rintro e w3 ⟨rfl, n2, rfl⟩
  rw [show (⟨#[46]⟩ : ByteArray).data.toList = [46] from rfl, (unhide HP).c1, (unhide HP).c2]
  have hb02 := bel_draws hb01 n2
  have hN2 := (unhide HN1).below (bel_draws (Below.refl _ w2) n2)
  clear HM1 HN1 hb01 HP HC HM HT hs hBs
  have HMN := hide hmin
  have HQQ := hide hQ
  clear hmin hQ
  rcases h with h1 | ⟨h1, h2⟩
  · have k1 := unhide HNO A h1
    go_wp2_with fail
    refine (unhide HAD _).mono ?_
    rintro e w3 ⟨rfl, hb3⟩
    go_wp2_with fail
    refine (unhide HRD _).mono ?_
    rintro e w4 ⟨rfl, hb4⟩
    have hN4 := (hN2.below hb3).below hb4
    have hb04 := Below.then hb02 (Below.then hb3 hb4)
    clear hN2 hb02 hb3 hb4
    have hmin := unhide HMN
    have hQ := unhide HQQ
    go_wp2_with fail
    refine (unhide HPD _).mono ?_
    rintro e w5 ⟨rfl, hb5⟩
    go_wp2_with fail
    refine (unhide HRE _).mono ?_
    rintro e w6 ⟨rfl, hb6⟩
    go_wp2_with fail
    refine (unhide HSG _).mono ?_
    rintro e w7 ⟨rfl, hb7⟩
    have hN7 := ((hN4.below hb5).below hb6).below hb7
    have hb07 := Below.then hb04 (Below.then hb5 (Below.then hb6 hb7))
    clear hN4 hb04 hb5 hb6 hb7
    have hPp := hN7.put K U
    have hBb := putN_below hb07 (Nat.le_refl w.heap.size) K U
    obtain ⟨q0, q1, q2, q3⟩ := hN7
    go_wp2
    show bodyPost _ _ _ _ _ (putN w7 w.heap.size K U)
    generalize putN w7 w.heap.size K U = X at hPp hBb ⊢
    obtain ⟨x0, x1, _, _⟩ := hPp
    refine bodyPost_ret (v := .agg #[.int .i64 K, .int .i64 U]) ?_ rfl ⟨rfl, hBb⟩
    simp [results, Tryz.results156, go_sem, x0, x1]
  · have k1 := unhide HEM A h1
    have k2 : R.toList.isEmpty = false := by simpa using unhide HNO R h2
    go_wp2_with fail
    refine (unhide HAD _).mono ?_
    rintro e w3 ⟨rfl, hb3⟩
    go_wp2_with fail
    refine (unhide HRD _).mono ?_
    rintro e w4 ⟨rfl, hb4⟩
    have hN4 := (hN2.below hb3).below hb4
    have hb04 := Below.then hb02 (Below.then hb3 hb4)
    clear hN2 hb02 hb3 hb4
    have hmin := unhide HMN
    have hQ := unhide HQQ
    go_wp2_with fail
    refine (unhide HPD _).mono ?_
    rintro e w5 ⟨rfl, hb5⟩
    go_wp2_with fail
    refine (unhide HRE _).mono ?_
    rintro e w6 ⟨rfl, hb6⟩
    go_wp2_with fail
    refine (unhide HSG _).mono ?_
    rintro e w7 ⟨rfl, hb7⟩
    have hN7 := ((hN4.below hb5).below hb6).below hb7
    have hb07 := Below.then hb04 (Below.then hb5 (Below.then hb6 hb7))
    clear hN4 hb04 hb5 hb6 hb7
    have hPp := hN7.put K U
    have hBb := putN_below hb07 (Nat.le_refl w.heap.size) K U
    obtain ⟨q0, q1, q2, q3⟩ := hN7
    go_wp2
    show bodyPost _ _ _ _ _ (putN w7 w.heap.size K U)
    generalize putN w7 w.heap.size K U = X at hPp hBb ⊢
    obtain ⟨x0, x1, _, _⟩ := hPp
    refine bodyPost_ret (v := .agg #[.int .i64 K, .int .i64 U]) ?_ rfl ⟨rfl, hBb⟩
    simp [results, Tryz.results156, go_sem, x0, x1]
end Go.Proofs.YthkkfldmoflfaaaGreatDoor
/- What a text says, in plain terms: its sign, the digits ahead of and behind the point. -/
namespace Go.Proofs.YthkkfldmoflfaaaGreatDoor
open Go.RowKit
def noPt (b : UInt8) : Bool := b != 46
def cut1 (l : List UInt8) : List UInt8 := l.takeWhile noPt
def cut2 (l : List UInt8) : List UInt8 := (l.dropWhile noPt).tail
theorem mem_tw (p : UInt8 → Bool) (b : UInt8) : ∀ l : List UInt8, b ∈ l.takeWhile p → p b = true
  | [], h => by cases h
  | c :: l, h => by
    by_cases hc : p c = true
    · rw [List.takeWhile_cons_of_pos hc] at h
      rcases List.mem_cons.1 h with rfl | h
      · exact hc
      · exact mem_tw p b l h
    · rw [List.takeWhile_cons_of_neg hc] at h
      cases h
theorem cut_is (l : List UInt8) : (Lib.cut l [46]).1 = cut1 l ∧ (Lib.cut l [46]).2.1 = cut2 l := by
  unfold cut1 cut2
  have hno : (46 : UInt8) ∉ l.takeWhile noPt := fun h => by
    have := mem_tw _ _ _ h
    cases this
  have hl := List.takeWhile_append_dropWhile (p := noPt) (l := l)
  cases hd : l.dropWhile noPt with
  | nil =>
    rw [hd, List.append_nil] at hl
    rw [hl] at hno ⊢
    rw [cut_no l 46 hno]
    exact ⟨rfl, rfl⟩
  | cons c r =>
    have hc : c = 46 := by
      have h1 := List.head?_dropWhile_not noPt l
      rw [hd] at h1
      simp only [List.head?_cons] at h1
      unfold noPt at h1
      simpa using h1
    subst hc
    rw [hd] at hl
    have h2 := cut_at (l.takeWhile noPt) r 46 hno
    rw [hl] at h2
    rw [h2]
    exact ⟨rfl, rfl⟩
/-- The digits that count: those ahead of the point, and six behind it. -/
def digs (A R : List UInt8) : List UInt8 := A ++ (R.take 6 ++ List.replicate (6 - (R.take 6).length) 48)
def okB (A R : List UInt8) : Bool := A.all digB && R.all digB && !(A ++ R).isEmpty
def bodyK (below : Bool) (A R : List UInt8) : Int := if okB A R then signK below (valL 0 (digs A R)) else 1
def bodyN (below : Bool) (A R : List UInt8) : Int := if okB A R then signN below (valL 0 (digs A R)) else 0
/-- A text that was trimmed: does it begin with a sign? what is behind it? -/
def signB (l : List UInt8) : Bool := Lib.hasPrefix l [45]
def unsig (l : List UInt8) : List UInt8 := if signB l then l.tail else l
def saidK (l : List UInt8) : Int := bodyK (signB l) (cut1 (unsig l)) (cut2 (unsig l))
def saidN (l : List UInt8) : Int := bodyN (signB l) (cut1 (unsig l)) (cut2 (unsig l))
theorem sign_read (below : Bool) (l : List UInt8) : signK below (readL 0 l) = signK below (valL 0 l) ∧ signN below (readL 0 l) = signN below (valL 0 l) := by
  by_cases h : valL 0 l ≤ 1000000000000000000
  · rw [readL_val l 0 h]
    exact ⟨rfl, rfl⟩
  · have hg : ∀ (l : List UInt8) (n : Nat), 1000000000000000000 < valL n l → n ≤ 1000000000000000000 → 1000000000000000000 < readL n l := by
      intro l
      induction l with
      | nil => intro n h1 h2; exact absurd h1 (by simp only [valL, List.foldl_nil]; omega)
      | cons c l ih =>
        intro n h1 h2
        rw [valL_cons] at h1
        rw [readL]
        split
        · assumption
        · exact ih _ h1 (by omega)
    have hr := hg l 0 (by omega) (by omega)
    unfold signK signN
    rw [if_pos hr, if_pos hr, if_pos (by omega), if_pos (by omega)]
    exact ⟨rfl, rfl⟩
theorem pre_tail (l : List UInt8) (h : signB l = true) : l = 45 :: l.tail := by
  unfold signB Lib.hasPrefix at h
  cases l with
  | nil => cases h
  | cons c l =>
    simp [List.isPrefixOf] at h
    rw [h]
    rfl
theorem unsig_is (t : ByteArray) : (cutPre t ⟨#[45]⟩).data.toList = unsig t.data.toList := by
  unfold cutPre unsig signB
  rw [show (⟨#[45]⟩ : ByteArray).data.toList = [45] from rfl]
  by_cases h : Lib.hasPrefix t.data.toList [45] = true
  · rw [if_pos h, if_pos h, extract_list]
    show (t.data.toList.drop 1).take (t.size - 1) = _
    rw [List.take_of_length_le (by rw [List.length_drop]; exact Nat.le_refl _)]
    simp
  · rw [if_neg h, if_neg h]
theorem mem_parts (l : List UInt8) (b : UInt8) (h : b ∈ l) (hb : 128 ≤ b.toNat) : (cut1 (unsig l)).all digB = false ∨ (cut2 (unsig l)).all digB = false := by
  have h1 : b ∈ unsig l := by
    unfold unsig
    split
    · rename_i hs
      rw [pre_tail l hs] at h
      rcases List.mem_cons.1 h with rfl | h
      · exact absurd hb (by decide)
      · exact h
    · exact h
  have hnd : digB b = false := by unfold digB; simp; omega
  have hn46 : b ≠ 46 := fun e => by rw [e] at hb; exact absurd hb (by decide)
  rw [← List.takeWhile_append_dropWhile (p := noPt) (l := unsig l)] at h1
  rcases List.mem_append.1 h1 with h2 | h2
  · left
    unfold cut1
    exact List.all_eq_false.2 ⟨b, h2, by rw [hnd]; decide⟩
  · right
    unfold cut2
    refine List.all_eq_false.2 ⟨b, ?_, by rw [hnd]; decide⟩
    cases hd : (unsig l).dropWhile noPt with
    | nil => rw [hd] at h2; cases h2
    | cons c r =>
      rw [hd] at h2
      have hc : c = 46 := by
        have h3 := List.head?_dropWhile_not noPt (unsig l)
        rw [hd] at h3
        simp only [List.head?_cons] at h3
        unfold noPt at h3
        simpa using h3
      subst hc
      rcases List.mem_cons.1 h2 with h4 | h4
      · exact absurd h4 hn46
      · exact h4
theorem said_none (l : List UInt8) (h : (cut1 (unsig l)).all digB = false ∨ (cut2 (unsig l)).all digB = false) : saidK l = 1 ∧ saidN l = 0 := by
  unfold saidK saidN bodyK bodyN okB
  rcases h with h | h <;> rw [h] <;> simp
theorem all_ext {s : ByteArray} {l : List UInt8} (h : s.data.toList = l) : s = ⟨l.toArray⟩ := by rw [← h, mk_of]
/-- What any text says: xnum's Parse. -/
theorem parse_all (s : ByteArray) (w : World) (hM : MaxLenIs w) (hT : Lib.Utf8Tabs 1 2 w) (hs : s.size ≤ 1048576) :
    Calls Tryz.prog 156 #[.string s] w fun e w' => e = .returned (.agg #[.int .i64 (saidK (trimB s.data.toList)), .int .i64 (saidN (trimB s.data.toList))]) ∧ Below w.heap.size w w' := by
  have hts := trimF_size s
  obtain ⟨t, ht⟩ : ∃ t, t = Lib.trimF blankP s := ⟨_, rfl⟩
  rw [← ht] at hts
  have hk : saidK (trimB s.data.toList) = saidK t.data.toList ∧ saidN (trimB s.data.toList) = saidN t.data.toList := by
    rcases trim_any s with h | ⟨⟨b, hb1, hb2⟩, ⟨c, hc1, hc2⟩⟩
    · rw [← h, ← ht]
      exact ⟨rfl, rfl⟩
    · rw [← ht] at hb1
      have h1 := said_none _ (mem_parts _ b hb1 hb2)
      have h2 := said_none _ (mem_parts _ c hc1 hc2)
      rw [h1.1, h1.2, h2.1, h2.2]
      exact ⟨rfl, rfl⟩
  rw [hk.1, hk.2]
  have hB : cutPre t ⟨#[45]⟩ = ⟨(unsig t.data.toList).toArray⟩ := all_ext (unsig_is t)
  have hul : (unsig t.data.toList).length ≤ t.size := by
    unfold unsig
    split
    · rw [List.length_tail]; show t.data.toList.length - 1 ≤ t.data.toList.length; omega
    · exact Nat.le_refl _
  have hc := cut_is (unsig t.data.toList)
  have h1l : (cut1 (unsig t.data.toList)).length ≤ (unsig t.data.toList).length := (List.takeWhile_prefix _).length_le
  have h2l : (cut2 (unsig t.data.toList)).length ≤ (unsig t.data.toList).length := by
    unfold cut2
    rw [List.length_tail]
    have := (List.dropWhile_suffix noPt (l := unsig t.data.toList)).length_le
    omega
  have hp : Parts s ⟨(unsig t.data.toList).toArray⟩ ⟨(cut1 (unsig t.data.toList)).toArray⟩ ⟨(cut2 (unsig t.data.toList)).toArray⟩ (signB t.data.toList) := by
    refine ⟨by rw [← ht]; rfl, by rw [← ht]; exact hB, ?_, ?_, ?_, ?_, ?_⟩
    · rw [mk_list, hc.1]
    · rw [mk_list, hc.2]
    · rw [mk_size]; omega
    · rw [mk_size]; omega
    · rw [mk_size]; omega
  unfold saidK saidN
  generalize unsig t.data.toList = L at *
  generalize signB t.data.toList = below at *
  generalize cut1 L = A at *
  generalize cut2 L = R at *
  clear hc hB hk
  unfold bodyK bodyN
  cases hok : okB A R
  · rw [if_neg (by decide), if_neg (by decide)]
    refine parse_none s _ _ _ below w hM hT hs hp ?_
    rw [mk_size, mk_size, mk_list, mk_list]
    unfold okB at hok
    by_cases hA0 : A.length = 0
    · by_cases hR0 : R.length = 0
      · exact .inl ⟨hA0, hR0⟩
      · refine .inr (.inl ⟨hA0, hR0, ?_⟩)
        rw [List.eq_nil_of_length_eq_zero hA0] at hok
        have hRe : R.isEmpty = false := by cases R with | nil => exact absurd rfl hR0 | cons c r => rfl
        simpa [hRe] using hok
    · have hAe : (A ++ R).isEmpty = false := by cases A with | nil => exact absurd rfl hA0 | cons c r => rfl
      rw [hAe] at hok
      cases hAd : A.all digB
      · exact .inr (.inr (.inl ⟨hA0, rfl⟩))
      · rw [hAd] at hok
        exact .inr (.inr (.inr ⟨hA0, rfl, by simpa using hok⟩))
  · rw [if_pos rfl, if_pos rfl]
    unfold okB at hok
    rw [Bool.and_eq_true, Bool.and_eq_true] at hok
    obtain ⟨⟨hAd, hRd⟩, hne⟩ := hok
    have hQ : (⟨R.toArray⟩ : ByteArray).extract 0 (min (⟨R.toArray⟩ : ByteArray).size 6) = ⟨(R.take 6).toArray⟩ := by
      refine all_ext ?_
      rw [extract_list, mk_list, mk_size, List.drop_zero, Nat.sub_zero]
      by_cases h6 : R.length ≤ 6
      · rw [List.take_of_length_le (by omega), List.take_of_length_le h6]
      · rw [show min R.length 6 = 6 by omega]
    have hL : ((⟨A.toArray⟩ : ByteArray) ++ ((⟨(R.take 6).toArray⟩ : ByteArray) ++ (⟨(Lib.repeatL [48] (6 - (⟨(R.take 6).toArray⟩ : ByteArray).size)).toArray⟩ : ByteArray))).data.toList = digs A R := by
      rw [mk_append, mk_append, mk_list, mk_size, rep_eq]
      rfl
    have hda : (digs A R).all digB = true := by
      unfold digs
      rw [List.all_append, hAd, List.all_append]
      have h1 : (R.take 6).all digB = true := List.all_eq_true.2 fun b hb => List.all_eq_true.1 hRd b (List.mem_of_mem_take hb)
      rw [h1]
      simp [digB]
    rw [← (sign_read below (digs A R)).1, ← (sign_read below (digs A R)).2]
    refine parse_some s _ _ _ _ below _ w hM hT hs hp ?_ (by rw [mk_list]; exact hAd) (by rw [mk_list]; exact hRd) hQ (by rw [hL]; exact hda) (by rw [hL])
    rw [mk_size, mk_size]
    by_cases hA0 : A.length = 0
    · refine .inr ⟨hA0, fun hR0 => ?_⟩
      rw [List.eq_nil_of_length_eq_zero hA0, List.eq_nil_of_length_eq_zero hR0] at hne
      cases hne
    · exact .inl hA0
end Go.Proofs.YthkkfldmoflfaaaGreatDoor
/- Numbers of expressions: xparse's number. -/
namespace Go.Proofs.YthkkfldmoflfaaaGreatDoor
open Go.RowKit Go.Maps
/-- A number's text: what it says; none: no number that is Fin. -/
def numP (t : List Nat) : Option Int := if saidK (trimB (tx t)) = 0 then some (saidN (trimB (tx t))) else none
set_option maxRecDepth 100000 in
set_option maxHeartbeats 4000000 in
theorem pnumber_any (t : List Nat) (v : Int) (w : World) (hs : (T t).size ≤ 512) (hE : EnvG w) (hv : numP t = some v) :
    Calls Tryz.prog 131 #[.string (T t)] w fun e w' => e = .returned (exAgg (.mk 16 [] v 0 0 []) (.slice none 0 0)) ∧ Below w.heap.size w w' := by
  obtain ⟨w0, hw0⟩ : ∃ w0, w.alloc expr0 = w0 := ⟨_, rfl⟩
  have hp := fun w' (hb : Below w.heap.size w w') => parse_all (T t) w' ((hE.below hb).lex.env.len) ((hE.below hb).lex.env.tabs) (by omega)
  rw [T_data] at hp
  unfold numP at hv
  have hk : saidK (trimB (tx t)) = 0 := by
    by_cases h : saidK (trimB (tx t)) = 0
    · exact h
    · rw [if_neg h] at hv; cases hv
  rw [if_pos hk] at hv
  rw [hk, Option.some.inj hv] at hp
  have HP := hide hp
  clear hp hv hk hs hE
  go_enter Tryz.func131, Tryz.ntmps131
  go_wp2_with fail
  have hb0 : Below w.heap.size w w0 := by rw [← hw0]; exact (Below.refl _ _).alloc (Nat.le_refl _) _
  have hq0 : w0.heap[w.heap.size]? = some expr0 := by rw [← hw0]; exact palloc_new w expr0
  clear hw0
  refine (unhide HP _ hb0).mono ?_
  rintro e w1 ⟨rfl, hb⟩
  have hq1 := blockK (Kq.of (S := fun _ => False) hb) hq0 (fun h => h)
  have hb1 := Below.then hb0 hb
  have hb2 : Below w1.heap.size w1 (w1.alloc (.cells #[.int .i64 0, .int .i64 0] 27)) := (Below.refl _ _).alloc (Nat.le_refl _) _
  have hn2 := palloc_new w1 (.cells #[.int .i64 0, .int .i64 0] 27)
  have hq2 := blockK (Kq.of (S := fun _ => False) hb2) hq1 (fun h => h)
  obtain ⟨W2, e2⟩ : ∃ W2, w1.alloc (.cells #[.int .i64 0, .int .i64 0] 27) = W2 := ⟨_, rfl⟩
  rw [e2] at hb2 hn2 hq2
  have hlq : w.heap.size < w1.heap.size := (Array.getElem?_eq_some_iff.1 hq1).1
  generalize hg : w1.heap.size = g at hn2 hlq
  have m0 : W2.cell? ⟨g, 0, none⟩ = some (.int .i64 0) := pcell hn2 0
  have m1 : W2.cell? ⟨g, 1, none⟩ = some (.int .i64 0) := pcell hn2 1
  have p0 := popen hn2 0
  have p1 := popen hn2 1
  have hg2 : g < W2.heap.size := (Array.getElem?_eq_some_iff.1 hn2).1
  have HB2 := hide (Below.then hb1 hb2)
  generalize hq : w.heap.size = q at hq2 hlq ⊢
  have HQQ := hide hq
  obtain ⟨a0, a1, a2, a3, a4, a5, a6⟩ := var_cells hq2
  obtain ⟨o0, o1, o2, o3, o4, o5, o6⟩ := var_opens hq2
  have HQ1 := hide hq2
  have hne : q ≠ g := by omega
  have hne2 : g ≠ q := by omega
  clear hq2 hn2 hq1 hq0 hb hb0 hb1 hb2 hq HP
  go_wp2_with fail
  have hk5 := (Kq.set W2 g 0 (.int .i64 0)).andThen (Kq.set _ g 1 (.int .i64 v)) (fun _ _ h => h)
  have hq5 := blockK hk5 (unhide HQ1) hne
  change bodyPost _ _ _ _ _ (put7 ((W2.setCell ⟨g, 0, none⟩ (.int .i64 0)).setCell ⟨g, 1, none⟩ (.int .i64 v)) q (.mk 16 [] v 0 0 []) (.slice none 0 0))
  generalize (W2.setCell ⟨g, 0, none⟩ (.int .i64 0)).setCell ⟨g, 1, none⟩ (.int .i64 v) = W5 at hk5 hq5 ⊢
  have hV := put7_var hq5 (.mk 16 [] v 0 0 []) (.slice none 0 0)
  have hb9 : Below w.heap.size w (put7 W5 q (.mk 16 [] v 0 0 []) (.slice none 0 0)) := Kq.fresh (S := fun j => j = g ∨ j = q) (((Kq.of (S := fun j => j = g ∨ j = q) (unhide HB2)).andThen hk5 (fun _ _ h => .inl h)).andThen (put7_kq W5 q _ _) (fun _ _ h => .inr h)) (fun j hj => by have := unhide HQQ; omega)
  obtain ⟨W9, e9⟩ : ∃ W9, put7 W5 q (.mk 16 [] v 0 0 []) (.slice none 0 0) = W9 := ⟨_, rfl⟩
  rw [e9]
  rw [e9] at hV hb9
  obtain ⟨b0, b1, b2, b3, b4, b5, b6⟩ := var_cells hV
  have HB9 := hide hb9
  clear hV hb9 e9 a0 a1 a2 a3 a4 a5 a6
  refine bodyPost_ret (v := exAgg (.mk 16 [] v 0 0 []) (.slice none 0 0)) (by simp [results, Tryz.results131, go_sem, b0, b1, b2, b3, b4, b5, b6]) rfl ?_
  exact ⟨rfl, unhide HB9⟩
end Go.Proofs.YthkkfldmoflfaaaGreatDoor
