/- What a number's text says: xnum's Parse at what Text writes, and at what is no number. -/
import Derived.Test.YtmaefnmjfkbplaaGreatDoorNumParse
import Derived.Test.YtmaefnmjfkbplaaGreatDoorNumInv
import Derived.Lib.ValidLaws
namespace Go.Proofs.YtmaefnmjfkbplaaGreatDoor
open Go.RowKit
def tailL (m : Nat) : List UInt8 := if placesL m = [] then [] else 46 :: placesL m
def bodyL (q m : Nat) : List UInt8 := Lib.decDigits q ++ tailL m
/-- A number's text. -/
def textL (below : Bool) (q m : Nat) : List UInt8 := (if below then [45] else []) ++ bodyL q m
theorem bel_draws {B : Nat} {a w : World} (h : Below B a w) (n : Nat) : Below B a (w.drewN n) := h.trans ⟨rfl, rfl, rfl, Nat.le_refl _, fun _ _ => rfl⟩
theorem dig_range {l : List UInt8} (h : l.all digB = true) : ∀ b ∈ l, 45 ≤ b.toNat ∧ b.toNat ≤ 57 := fun b hb => by
  have := List.all_eq_true.1 h b hb
  unfold digB at this
  simp at this
  omega
theorem body_range (q m : Nat) (hm : m < 1000000) : ∀ b ∈ bodyL q m, 45 ≤ b.toNat ∧ b.toNat ≤ 57 := fun b hb => by
  unfold bodyL tailL at hb
  rcases List.mem_append.1 hb with h | h
  · exact dig_range (dec_all q).2.1 b h
  · split at h
    · cases h
    · rcases List.mem_cons.1 h with rfl | h
      · decide
      · exact dig_range (places_all m hm).1 b h
theorem text_range (below : Bool) (q m : Nat) (hm : m < 1000000) : ∀ b ∈ textL below q m, 45 ≤ b.toNat ∧ b.toNat ≤ 57 := fun b hb => by
  unfold textL at hb
  rcases List.mem_append.1 hb with h | h
  · cases below
    · cases h
    · rcases List.mem_cons.1 h with rfl | h
      · decide
      · cases h
  · exact body_range q m hm b h
theorem cut_body (q m : Nat) : (Lib.cut (bodyL q m) [46]).1 = Lib.decDigits q ∧ (Lib.cut (bodyL q m) [46]).2.1 = placesL m := by
  have hn : (46 : UInt8) ∉ Lib.decDigits q := dig_ne (dec_all q).2.1 46 (by decide)
  unfold bodyL tailL
  split
  · rename_i h
    rw [List.append_nil, cut_no _ _ hn, h]
    exact ⟨rfl, rfl⟩
  · rw [cut_at _ _ _ hn]
    exact ⟨rfl, rfl⟩
theorem range_trim (l : List UInt8) (h0 : l ≠ []) (h : ∀ b ∈ l, 45 ≤ b.toNat ∧ b.toNat ≤ 122) : Lib.trimF blankP ⟨l.toArray⟩ = ⟨l.toArray⟩ := by
  have hsz : (⟨l.toArray⟩ : ByteArray).size = l.length := by simp [ByteArray.size]
  have hpos : 0 < l.length := List.length_pos_iff.2 h0
  have hget : ∀ i (hi : i < (⟨l.toArray⟩ : ByteArray).size), 45 ≤ ((⟨l.toArray⟩ : ByteArray)[i]'hi).toNat ∧ ((⟨l.toArray⟩ : ByteArray)[i]'hi).toNat ≤ 122 := fun i hi => by
    have hil : i < l.length := by omega
    have : (⟨l.toArray⟩ : ByteArray)[i]'hi = l[i]'hil := by
      show l.toArray[i]'_ = _
      simp
    rw [this]
    exact h _ (List.getElem_mem hil)
  have hnb : ∀ x : Nat, 45 ≤ x → blankP x = false := fun x hx => by
    unfold blankP blankC
    simp
    omega
  exact trimF_same blankP _ (by omega) (fun i hi => by have := (hget i hi).2; omega) (hnb _ (hget 0 (by omega)).1) (hnb _ (hget _ _).1)
set_option maxRecDepth 100000 in
set_option maxHeartbeats 2000000 in
theorem parse_parts (s t B A R : ByteArray) (below : Bool) (w : World) (hM : MaxLenIs w) (hT : Lib.Utf8Tabs 2 3 w)
    (hs : s.size ≤ 1000) (htr : Lib.trimF blankP s = t) (hpre : Lib.hasPrefix t.data.toList [45] = below) (hcp : cutPre t ⟨#[45]⟩ = B) (hBs : B.size ≤ 1000)
    (hc1 : (⟨(Lib.cut B.data.toList [46]).1.toArray⟩ : ByteArray) = A) (hc2 : (⟨(Lib.cut B.data.toList [46]).2.1.toArray⟩ : ByteArray) = R)
    (hA0 : 0 < A.size) (hAs : A.size ≤ 1000) (hRs : R.size ≤ 6) (hA : ∀ i (h : i < A.size), digB (A[i]'h) = true) (hR : ∀ i (h : i < R.size), digB (R[i]'h) = true) (n : Nat)
    (hn : readL 0 (A ++ (R ++ (⟨(Lib.repeatL [48] (6 - R.size)).toArray⟩ : ByteArray))).data.toList = n) (hn1 : n ≤ 1000000000000000000) (hall : ∀ i (h : i < (A ++ (R ++ (⟨(Lib.repeatL [48] (6 - R.size)).toArray⟩ : ByteArray))).size), digB ((A ++ (R ++ (⟨(Lib.repeatL [48] (6 - R.size)).toArray⟩ : ByteArray)))[i]'h) = true) :
    Calls Tryz.prog 21 #[.string s] w fun e w' => e = .returned (.agg #[.int .i64 (signK below n), .int .i64 (signN below n)]) ∧ Below w.heap.size w w' := by
  have HM := hide hM
  have HT := hide hT
  have HC := hide (fun w => cutPrefix_any t ⟨#[45]⟩ w)
  rw [hcp, show (⟨#[45]⟩ : ByteArray).data.toList = [45] from rfl, hpre] at HC
  have HAD := hide (fun w => areDigits_yes A w hA)
  have HRD := hide (fun w => areDigits_yes R w hR)
  have HPD := hide (fun w => padRight_any R 6 w (by omega) (by decide))
  have HRE := hide (fun w => readDigits_any (A ++ (R ++ (⟨(Lib.repeatL [48] (6 - R.size)).toArray⟩ : ByteArray))) w hall)
  rw [hn] at HRE
  have HSG := hide (fun w => signed_any below n w (by omega))
  generalize signK below n = K at *
  generalize signN below n = U at *
  have hPs : (R ++ (⟨(Lib.repeatL [48] (6 - R.size)).toArray⟩ : ByteArray)).size ≤ 1000 := by
    rw [ByteArray.size_append]
    have : (⟨(Lib.repeatL [48] (6 - R.size)).toArray⟩ : ByteArray).size = 6 - R.size := by
      show (Lib.repeatL [48] (6 - R.size)).toArray.size = _
      simp [Lib.repeatL_length]
    omega
  generalize (R ++ (⟨(Lib.repeatL [48] (6 - R.size)).toArray⟩ : ByteArray)) = RP at *
  have hAe : ¬ A.toList = [] := fun h => by
    rw [ByteArray.toList_eq] at h
    have h2 : A.data.toList.length = A.size := rfl
    rw [h] at h2
    simp at h2
    omega
  have hmin : min (R.size : Int) 6 = R.size := by omega
  have hex : R.extract 0 R.size = R := extract_all R
  have HTR := hide htr
  have HC1 := hide hc1
  have HC2 := hide hc2
  clear hA hR hn hall htr hpre hcp hc1 hc2 hM hT
  go_enter Tryz.func21, Tryz.ntmps21
  go_wp2_with fail
  have hb0 : Below w.heap.size w (w.alloc (.cells #[.int .i64 0, .int .i64 0] 24)) := by
    (repeat first | exact Below.refl _ _ | assumption | refine Below.drew ?_ | refine Below.alloc ?_ (by simp <;> omega) _ | refine Below.setCell ?_ (by simp <;> omega) _)
  have hN : NumAt (w.alloc (.cells #[.int .i64 0, .int .i64 0] 24)) w.heap.size 0 0 := ⟨by simp [go_sem], by simp [go_sem], by simp [go_sem], by simp [go_sem]⟩
  refine (Tryz.strings_TrimFunc_runes 50 #[] blank_enters blankP s _ (by omega) (Utf8Tabs_below (unhide HT) hb0) (blank_runes _)).mono ?_
  rintro e w1 ⟨rfl, hb1⟩
  rw [unhide HTR]
  have hN1 := hN.below hb1
  have hb01 := Below.then hb0 hb1
  clear hN hb0 hb1
  go_wp2_with fail
  refine (unhide HC _).mono ?_
  rintro e w2 ⟨rfl, rfl⟩
  obtain ⟨m, hm⟩ := (unhide HM).below hb01
  have HM1 := hide hm
  clear hm
  have HN1 := hide hN1
  clear hN1
  go_wp2_with fail
  refine (Tryz.strings_Cut B ⟨#[46]⟩ m _ (by omega) (unhide HM1)).mono ?_
  rintro e w3 ⟨rfl, n2, rfl⟩
  rw [show (⟨#[46]⟩ : ByteArray).data.toList = [46] from rfl, unhide HC1, unhide HC2]
  have hb02 := bel_draws hb01 n2
  have hN2 := (unhide HN1).below (bel_draws (Below.refl _ w2) n2)
  clear HM1 HN1 hb01
  go_wp2_with fail
  refine (unhide HAD _).mono ?_
  rintro e w3 ⟨rfl, hb3⟩
  go_wp2_with fail
  refine (unhide HRD _).mono ?_
  rintro e w4 ⟨rfl, hb4⟩
  have hN4 := (hN2.below hb3).below hb4
  have hb04 := Below.then hb02 (Below.then hb3 hb4)
  clear hN2 hb02 hb3 hb4
  go_wp2_with fail
  refine (unhide HPD _).mono ?_
  rintro e w5 ⟨rfl, hb5⟩
  go_wp2_with fail
  refine (unhide HRE _).mono ?_
  rintro e w6 ⟨rfl, hb6⟩
  go_wp2_with fail
  refine (unhide HSG _).mono ?_
  rintro e w7 ⟨rfl, hb7⟩
  have hN7 := ((hN4.below hb5).below hb6).below hb7
  have hb07 := Below.then hb04 (Below.then hb5 (Below.then hb6 hb7))
  clear hN4 hb04 hb5 hb6 hb7
  have hP := hN7.put K U
  have hB := putN_below hb07 (Nat.le_refl w.heap.size) K U
  obtain ⟨q0, q1, q2, q3⟩ := hN7
  go_wp2
  show bodyPost _ _ _ _ _ (putN w7 w.heap.size K U)
  generalize putN w7 w.heap.size K U = X at hP hB ⊢
  obtain ⟨x0, x1, _, _⟩ := hP
  refine bodyPost_ret (v := .agg #[.int .i64 K, .int .i64 U]) ?_ rfl ⟨rfl, hB⟩
  simp [results, Tryz.results21, go_sem, x0, x1]
end Go.Proofs.YtmaefnmjfkbplaaGreatDoor
