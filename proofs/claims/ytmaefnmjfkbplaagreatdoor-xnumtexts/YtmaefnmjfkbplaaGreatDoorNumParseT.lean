/- What is written is read: xnum's Parse at Text's texts. -/
import Derived.Test.YtmaefnmjfkbplaaGreatDoorNumParseN
namespace Go.Proofs.YtmaefnmjfkbplaaGreatDoor
open Go.RowKit
theorem all_get (l : List UInt8) (h : l.all digB = true) : ∀ i (hi : i < (⟨l.toArray⟩ : ByteArray).size), digB ((⟨l.toArray⟩ : ByteArray)[i]'hi) = true := fun i hi => by
  have hsz : (⟨l.toArray⟩ : ByteArray).size = l.length := by simp [ByteArray.size]
  have hil : i < l.length := by omega
  have : (⟨l.toArray⟩ : ByteArray)[i]'hi = l[i]'hil := by
    show l.toArray[i]'_ = _
    simp
  rw [this]
  exact List.all_eq_true.1 h _ (List.getElem_mem hil)
theorem mk_size (l : List UInt8) : (⟨l.toArray⟩ : ByteArray).size = l.length := by simp [ByteArray.size]
theorem mk_list (l : List UInt8) : (⟨l.toArray⟩ : ByteArray).data.toList = l := by simp
theorem mk_append (l m : List UInt8) : (⟨l.toArray⟩ : ByteArray) ++ ⟨m.toArray⟩ = ⟨(l ++ m).toArray⟩ := by
  apply ByteArray.ext
  rw [ByteArray.data_append]
  simp
theorem body_head (q m : Nat) : ∃ c r, bodyL q m = c :: r ∧ digB c = true := by
  obtain ⟨_, h2, h3⟩ := dec_all q
  unfold bodyL
  cases hd : Lib.decDigits q with
  | nil => exact absurd hd h3
  | cons c r =>
    rw [hd] at h2
    rw [List.all_cons, Bool.and_eq_true] at h2
    exact ⟨c, r ++ tailL m, rfl, h2.1⟩
theorem text_prefix (below : Bool) (q m : Nat) : Lib.hasPrefix (textL below q m) [45] = below := by
  unfold Lib.hasPrefix textL
  cases below
  · obtain ⟨c, r, h1, h2⟩ := body_head q m
    have hc : ((45 : UInt8) == c) = false := by
      cases he : (45 : UInt8) == c with
      | false => rfl
      | true => rw [← beq_iff_eq.1 he] at h2; cases h2
    rw [h1]
    simp [List.isPrefixOf, hc]
  · simp [List.isPrefixOf]
theorem text_cut (below : Bool) (q m : Nat) : cutPre ⟨(textL below q m).toArray⟩ ⟨#[45]⟩ = ⟨(bodyL q m).toArray⟩ := by
  unfold cutPre
  rw [mk_list, show (⟨#[45]⟩ : ByteArray).data.toList = [45] from rfl, text_prefix]
  cases below
  · rfl
  · rw [if_pos rfl]
    apply ByteArray.ext
    rw [ByteArray.data_extract]
    show Array.extract (textL true q m).toArray 1 (textL true q m).toArray.size = (bodyL q m).toArray
    apply Array.ext'
    simp [textL]
theorem places_len (m : Nat) (hm : m < 1000000) : (placesL m).length ≤ 6 := (places_all m hm).2.1
theorem text_ne (below : Bool) (q m : Nat) : textL below q m ≠ [] := by
  obtain ⟨c, r, h1, _⟩ := body_head q m
  unfold textL
  rw [h1]
  simp
theorem text_len (below : Bool) (q m : Nat) (hm : m < 1000000) (hn : q * 1000000 + m ≤ 1000000000000000000) : (textL below q m).length ≤ 21 := by
  have hql := dec_len 12 q (by omega)
  have hpl := places_len m hm
  have htl : (tailL m).length ≤ 7 := by unfold tailL; split <;> simp; omega
  have hbl : (bodyL q m).length ≤ 20 := by unfold bodyL; rw [List.length_append]; omega
  unfold textL; rw [List.length_append]; cases below <;> simp <;> omega
theorem parse_around (s : ByteArray) (below : Bool) (q m : Nat) (w : World) (hs : s.size ≤ 1000) (htr : Lib.trimF blankP s = ⟨(textL below q m).toArray⟩) (hM : MaxLenIs w) (hT : Lib.Utf8Tabs 2 3 w) (hm : m < 1000000) (hn : q * 1000000 + m ≤ 1000000000000000000) :
    Calls Tryz.prog 21 #[.string s] w fun e w' => e = .returned (.agg #[.int .i64 (signK below (q * 1000000 + m)), .int .i64 (signN below (q * 1000000 + m))]) ∧ Below w.heap.size w w' := by
  have hql := dec_len 12 q (by omega)
  have hpl := places_len m hm
  have htl : (tailL m).length ≤ 7 := by unfold tailL; split <;> simp; omega
  have hbl : (bodyL q m).length ≤ 20 := by unfold bodyL; rw [List.length_append]; omega
  obtain ⟨hc1, hc2⟩ := cut_body q m
  have hrp : (⟨(Lib.repeatL [48] (6 - (⟨(placesL m).toArray⟩ : ByteArray).size)).toArray⟩ : ByteArray) = ⟨(List.replicate (6 - (placesL m).length) 48).toArray⟩ := by rw [mk_size, rep_eq]
  have hcat : (⟨(Lib.decDigits q).toArray⟩ : ByteArray) ++ (⟨(placesL m).toArray⟩ ++ (⟨(Lib.repeatL [48] (6 - (⟨(placesL m).toArray⟩ : ByteArray).size)).toArray⟩ : ByteArray)) = ⟨(Lib.decDigits q ++ (placesL m ++ List.replicate (6 - (placesL m).length) 48)).toArray⟩ := by
    rw [hrp, mk_append, mk_append]
  refine parse_parts s ⟨(textL below q m).toArray⟩ ⟨(bodyL q m).toArray⟩ ⟨(Lib.decDigits q).toArray⟩ ⟨(placesL m).toArray⟩ below w hM hT hs htr ?_ (text_cut below q m) (by rw [mk_size]; omega) ?_ ?_ ?_ (by rw [mk_size]; omega) (by rw [mk_size]; omega) (all_get _ (dec_all q).2.1) (all_get _ (places_all m hm).1) (q * 1000000 + m) ?_ hn ?_
  · rw [mk_list]
    exact text_prefix below q m
  · rw [mk_list, hc1]
  · rw [mk_list, hc2]
  · rw [mk_size]; exact List.length_pos_iff.2 (dec_all q).2.2
  · rw [hcat, mk_list]
    exact read_back q m hm hn
  · rw [hcat]
    refine all_get _ ?_
    rw [(places_all m hm).2.2, List.all_append, (dec_all q).2.1, six_all]
    rfl
theorem parse_text (below : Bool) (q m : Nat) (w : World) (hM : MaxLenIs w) (hT : Lib.Utf8Tabs 2 3 w) (hm : m < 1000000) (hn : q * 1000000 + m ≤ 1000000000000000000) :
    Calls Tryz.prog 21 #[.string ⟨(textL below q m).toArray⟩] w fun e w' => e = .returned (.agg #[.int .i64 (signK below (q * 1000000 + m)), .int .i64 (signN below (q * 1000000 + m))]) ∧ Below w.heap.size w w' :=
  parse_around _ below q m w (by have := text_len below q m hm hn; rw [mk_size]; omega) (range_trim _ (text_ne below q m) (fun b hb => by have := text_range below q m hm b hb; omega)) hM hT hm hn
set_option maxRecDepth 100000 in
set_option maxHeartbeats 2000000 in
theorem parse_bad (s B A : ByteArray) (below : Bool) (w : World) (hM : MaxLenIs w) (hT : Lib.Utf8Tabs 2 3 w)
    (hs : s.size ≤ 1000) (htr : Lib.trimF blankP s = s) (hpre : Lib.hasPrefix s.data.toList [45] = below) (hcp : cutPre s ⟨#[45]⟩ = B) (hBs : B.size ≤ 1000)
    (hc1 : (⟨(Lib.cut B.data.toList [46]).1.toArray⟩ : ByteArray) = A) (hA0 : 0 < A.size) (hA1 : (A[0]'hA0).toNat < 128) (hA2 : digB (A[0]'hA0) = false) :
    Calls Tryz.prog 21 #[.string s] w fun e w' => e = .returned (.agg #[.int .i64 1, .int .i64 0]) ∧ Below w.heap.size w w' := by
  have HM := hide hM
  have HT := hide hT
  have HC := hide (fun w => cutPrefix_any s ⟨#[45]⟩ w)
  rw [hcp, show (⟨#[45]⟩ : ByteArray).data.toList = [45] from rfl, hpre] at HC
  have HAD := hide (fun w => areDigits_no A w hA0 hA1 hA2)
  have hAe : ¬ A.toList = [] := fun h => by
    rw [ByteArray.toList_eq] at h
    have h2 : A.data.toList.length = A.size := rfl
    rw [h] at h2
    simp at h2
    omega
  have HTR := hide htr
  have HC1 := hide hc1
  clear htr hpre hcp hc1 hM hT hA1 hA2 hA0
  go_enter Tryz.func21, Tryz.ntmps21
  go_wp2_with fail
  have hb0 : Below w.heap.size w (w.alloc (.cells #[.int .i64 0, .int .i64 0] 24)) := by
    (repeat first | exact Below.refl _ _ | assumption | refine Below.drew ?_ | refine Below.alloc ?_ (by simp <;> omega) _ | refine Below.setCell ?_ (by simp <;> omega) _)
  have hN : NumAt (w.alloc (.cells #[.int .i64 0, .int .i64 0] 24)) w.heap.size 0 0 := ⟨by simp [go_sem], by simp [go_sem], by simp [go_sem], by simp [go_sem]⟩
  refine (Tryz.strings_TrimFunc_runes 50 #[] blank_enters blankP s _ (by omega) (Utf8Tabs_below (unhide HT) hb0) (blank_runes _)).mono ?_
  rintro e w1 ⟨rfl, hb1⟩
  rw [unhide HTR]
  have hN1 := hN.below hb1
  have hb01 := Below.then hb0 hb1
  clear hN hb0 hb1
  go_wp2_with fail
  refine (unhide HC _).mono ?_
  rintro e w2 ⟨rfl, rfl⟩
  obtain ⟨m, hm⟩ := (unhide HM).below hb01
  have HM1 := hide hm
  clear hm
  have HN1 := hide hN1
  clear hN1
  go_wp2_with fail
  refine (Tryz.strings_Cut B ⟨#[46]⟩ m _ (by omega) (unhide HM1)).mono ?_
  rintro e w3 ⟨rfl, n2, rfl⟩
  rw [show (⟨#[46]⟩ : ByteArray).data.toList = [46] from rfl, unhide HC1]
  have hb02 := bel_draws hb01 n2
  have hN2 := (unhide HN1).below (bel_draws (Below.refl _ w2) n2)
  clear HM1 HN1 hb01
  go_wp2_with fail
  refine (unhide HAD _).mono ?_
  rintro e w4 ⟨rfl, hb4⟩
  have hN4 := hN2.below hb4
  have hb04 := Below.then hb02 hb4
  have hs4 := hb04.size
  have hl4 := block_lt_of_cell hN4.kind
  clear hN2 hb02 hb4
  obtain ⟨q0, q1, q2, q3⟩ := hN4
  go_wp2_with (go_at_call 27; refine (notANumber_any _).mono ?_; rintro e w' ⟨rfl, rfl⟩)
  refine bodyPost_ret (v := .agg #[.int .i64 1, .int .i64 0]) (by simp [results, Tryz.results21, go_sem, *]) rfl ⟨rfl, ?_⟩
  (repeat first | assumption | refine Below.drew ?_ | refine Below.setCell ?_ (by first | omega | (simp; omega) | (simp; done)) _ | refine Below.alloc ?_ (by first | omega | (simp; omega) | (simp; done)) _ | exact Below.refl _ _)
end Go.Proofs.YtmaefnmjfkbplaaGreatDoor
