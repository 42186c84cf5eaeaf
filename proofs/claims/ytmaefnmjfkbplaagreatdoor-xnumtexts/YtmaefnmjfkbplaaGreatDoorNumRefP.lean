/- What a text says by the reference: its Parse. -/
import Derived.Test.YtmaefnmjfkbplaaGreatDoorNumSpec
namespace Go.Proofs.YtmaefnmjfkbplaaGreatDoor
open Go.RowKit
attribute [local go_sem ↓] Go.wp_at_zero Go.wp_at_succ
set_option maxHeartbeats 1000000 in
theorem refBlank_any (b : UInt8) (w : World) :
    Calls Tryz.prog 55 #[.int .u8 (b.toNat : Int)] w fun e w' => e = .returned (.bool (blankB b)) ∧ w' = w := by
  unfold blankB blankP
  generalize ((b.toNat : Nat) : Int) = r
  go_enter Tryz.func55, Tryz.ntmps55
  go_wp2
  all_goals
    go_ret
    exact ⟨ret_bool (by first | (simp [blankC, *]; done) | (unfold blankC; cases (r == 9) <;> cases (r == 10) <;> cases (r == 13) <;> cases (r == 32) <;> rfl)), rfl⟩
set_option maxHeartbeats 1000000 in
theorem refNan_any (w : World) :
    Calls Tryz.prog 37 #[] w fun e w' => e = .returned (.agg #[.int .i64 1, .int .i64 0]) ∧ Below w.heap.size w w' := by
  go_enter Tryz.func37, Tryz.ntmps37
  go_wp2
  refine bodyPost_ret (v := .agg #[.int .i64 1, .int .i64 0]) (by simp [results, Tryz.results37, go_sem]) rfl ?_
  refine ⟨rfl, ?_⟩
  (repeat first | exact Below.refl _ _ | assumption | refine Below.drew ?_ | refine Below.alloc ?_ (by simp <;> omega) _ | refine Below.setCell ?_ (by simp <;> omega) _)
set_option maxHeartbeats 1000000 in
theorem refInf_any (b : Bool) (w : World) :
    Calls Tryz.prog 40 #[.bool b] w fun e w' => e = .returned (.agg #[.int .i64 (infK b), .int .i64 0]) ∧ Below w.heap.size w w' := by
  cases b
  all_goals
    go_enter Tryz.func40, Tryz.ntmps40
    go_wp2
  · refine bodyPost_ret (v := .agg #[.int .i64 2, .int .i64 0]) (by simp [results, Tryz.results40, go_sem]) rfl ?_
    refine ⟨rfl, ?_⟩
    (repeat first | exact Below.refl _ _ | assumption | refine Below.drew ?_ | refine Below.alloc ?_ (by simp <;> omega) _ | refine Below.setCell ?_ (by simp <;> omega) _)
  · refine bodyPost_ret (v := .agg #[.int .i64 3, .int .i64 0]) (by simp [results, Tryz.results40, go_sem]) rfl ?_
    refine ⟨rfl, ?_⟩
    (repeat first | exact Below.refl _ _ | assumption | refine Below.drew ?_ | refine Below.alloc ?_ (by simp <;> omega) _ | refine Below.setCell ?_ (by simp <;> omega) _)
set_option maxHeartbeats 1000000 in
theorem refFin_is (v : Int) (w : World) :
    Calls Tryz.prog 44 #[.int .i64 v] w fun e w' => e = .returned (.agg #[.int .i64 0, .int .i64 v]) ∧ Below w.heap.size w w' := by
  go_enter Tryz.func44, Tryz.ntmps44
  go_wp2
  refine bodyPost_ret (v := .agg #[.int .i64 0, .int .i64 v]) (by simp [results, Tryz.results44, go_sem]) rfl ?_
  refine ⟨rfl, ?_⟩
  (repeat first | exact Below.refl _ _ | assumption | refine Below.drew ?_ | refine Below.alloc ?_ (by simp <;> omega) _ | refine Below.setCell ?_ (by simp <;> omega) _)
set_option maxRecDepth 100000 in
set_option maxHeartbeats 1000000 in
theorem refMade_any (n : Nat) (b : Bool) (w : World) (hn : n < 18446744073709551616) :
    Calls Tryz.prog 38 #[.int .u64 (n : Int), .bool b, .bool false] w fun e w' => e = .returned (.agg #[.int .i64 (signK b n), .int .i64 (signN b n)]) ∧ Below w.heap.size w w' := by
  unfold signK signN
  by_cases hg : 1000000000000000000 < n
  · rw [if_pos hg, if_pos hg]
    have hg' : (1000000000000000000 : Int) < (n : Int) := by omega
    have HI := hide (fun w => refInf_any b w)
    generalize infK b = K at *
    clear hn hg
    go_enter Tryz.func38, Tryz.ntmps38
    go_wp2_with fail
    refine (unhide HI _).mono ?_
    rintro e w7 ⟨rfl, hb7⟩
    have hNz := NumAt.below (b := w.heap.size) (k := 0) (v := 0) ⟨by simp [go_sem], by simp [go_sem], by simp [go_sem], by simp [go_sem]⟩ hb7
    have hfin : Below w.heap.size w w7 := Below.then (by (repeat first | exact Below.refl _ _ | assumption | refine Below.drew ?_ | refine Below.alloc ?_ (by simp <;> omega) _ | refine Below.setCell ?_ (by simp <;> omega) _)) hb7
    have hP := hNz.put K 0
    have hB := putN_below hfin (Nat.le_refl w.heap.size) K 0
    obtain ⟨q0, q1, q2, q3⟩ := hNz
    clear hb7 hfin
    go_wp2
    show bodyPost _ _ _ _ _ (putN w7 w.heap.size K 0)
    generalize putN w7 w.heap.size K 0 = X at hP hB ⊢
    obtain ⟨x0, x1, _, _⟩ := hP
    refine bodyPost_ret (v := .agg #[.int .i64 K, .int .i64 0]) ?_ rfl ⟨rfl, hB⟩
    simp [results, Tryz.results38, go_sem, x0, x1]
  · rw [if_neg hg, if_neg hg]
    have hg' : ¬ (1000000000000000000 : Int) < (n : Int) := by omega
    cases b
    · simp only [Bool.false_eq_true, if_false]
      have HF := hide (fun w => refFin_is (n : Int) w)
      have hw : IntKind.i64.wrap (n : Int) = (n : Int) := by rw [IntKind.wrap_i64]; omega
      clear hn hg
      go_enter Tryz.func38, Tryz.ntmps38
      go_wp2_with fail
      refine (unhide HF _).mono ?_
      rintro e w7 ⟨rfl, hb7⟩
      have hNz := NumAt.below (b := w.heap.size) (k := 0) (v := 0) ⟨by simp [go_sem], by simp [go_sem], by simp [go_sem], by simp [go_sem]⟩ hb7
      have hfin : Below w.heap.size w w7 := Below.then (by (repeat first | exact Below.refl _ _ | assumption | refine Below.drew ?_ | refine Below.alloc ?_ (by simp <;> omega) _ | refine Below.setCell ?_ (by simp <;> omega) _)) hb7
      have hP := hNz.put 0 (n : Int)
      have hB := putN_below hfin (Nat.le_refl w.heap.size) 0 (n : Int)
      obtain ⟨q0, q1, q2, q3⟩ := hNz
      clear hb7 hfin
      go_wp2
      show bodyPost _ _ _ _ _ (putN w7 w.heap.size 0 (n : Int))
      generalize putN w7 w.heap.size 0 (n : Int) = X at hP hB ⊢
      obtain ⟨x0, x1, _, _⟩ := hP
      refine bodyPost_ret (v := .agg #[.int .i64 0, .int .i64 (n : Int)]) ?_ rfl ⟨rfl, hB⟩
      simp [results, Tryz.results38, go_sem, x0, x1]
    · simp only [if_true]
      have HF := hide (fun w => refFin_is (-(n : Int)) w)
      have hw : IntKind.i64.wrap (n : Int) = (n : Int) := by rw [IntKind.wrap_i64]; omega
      have hw2 : IntKind.i64.wrap (-(n : Int)) = -(n : Int) := by rw [IntKind.wrap_i64]; omega
      clear hn hg
      go_enter Tryz.func38, Tryz.ntmps38
      go_wp2_with fail
      refine (unhide HF _).mono ?_
      rintro e w7 ⟨rfl, hb7⟩
      have hNz := NumAt.below (b := w.heap.size) (k := 0) (v := 0) ⟨by simp [go_sem], by simp [go_sem], by simp [go_sem], by simp [go_sem]⟩ hb7
      have hfin : Below w.heap.size w w7 := Below.then (by (repeat first | exact Below.refl _ _ | assumption | refine Below.drew ?_ | refine Below.alloc ?_ (by simp <;> omega) _ | refine Below.setCell ?_ (by simp <;> omega) _)) hb7
      have hP := hNz.put 0 (-(n : Int))
      have hB := putN_below hfin (Nat.le_refl w.heap.size) 0 (-(n : Int))
      obtain ⟨q0, q1, q2, q3⟩ := hNz
      clear hb7 hfin
      go_wp2
      show bodyPost _ _ _ _ _ (putN w7 w.heap.size 0 (-(n : Int)))
      generalize putN w7 w.heap.size 0 (-(n : Int)) = X at hP hB ⊢
      obtain ⟨x0, x1, _, _⟩ := hP
      refine bodyPost_ret (v := .agg #[.int .i64 0, .int .i64 (-(n : Int))]) ?_ rfl ⟨rfl, hB⟩
      simp [results, Tryz.results38, go_sem, x0, x1]
def strLen : Value → Nat
  | .string t => t.size
  | _ => 0
theorem lb_cons (t : ByteArray) (h : 0 < t.size) (hb : blankB (t[0]'h) = true) : trimLB (t.extract 1 t.size).data.toList = trimLB t.data.toList := by
  have e : t.data.toList = t[0]'h :: (t.extract 1 t.size).data.toList := by
    have := drop_cons t 0 h
    rw [List.drop_zero] at this
    rw [extract_list, List.take_of_length_le (by rw [List.length_drop]; exact Nat.le_refl _)]
    exact this
  unfold trimLB
  rw [e, List.dropWhile_cons_of_pos hb]
theorem lb_stop (t : ByteArray) (h : 0 < t.size) (hb : blankB (t[0]'h) = false) : trimLB t.data.toList = t.data.toList := by
  have e : t.data.toList = t[0]'h :: t.data.toList.drop 1 := by
    have := drop_cons t 0 h
    rw [List.drop_zero] at this
    exact this
  unfold trimLB
  rw [e, List.dropWhile_cons_of_neg (by rw [hb]; decide)]
theorem l_none (t : ByteArray) (h : ¬ 0 < t.size) : t.data.toList = [] := List.eq_nil_of_length_eq_zero (show t.size = 0 by omega)
theorem rb_snoc (t : ByteArray) (h : t.size - 1 < t.size) : t.data.toList = (t.extract 0 (t.size - 1)).data.toList ++ [t[t.size - 1]'h] := by
  have hl : t.data.toList.length = t.size := rfl
  have := List.take_append_getElem (show t.size - 1 < t.data.toList.length from h)
  rw [extract_list, List.drop_zero, Nat.sub_zero]
  rw [show t.size - 1 + 1 = t.size by omega, List.take_of_length_le (l := t.data.toList) (show t.data.toList.length ≤ t.size from Nat.le_refl _)] at this
  exact this.symm
theorem rb_cons (t : ByteArray) (h : t.size - 1 < t.size) (hb : blankB (t[t.size - 1]'h) = true) : trimRB (t.extract 0 (t.size - 1)).data.toList = trimRB t.data.toList := by
  unfold trimRB
  rw [rb_snoc t h, List.reverse_append, List.reverse_singleton, List.singleton_append, List.dropWhile_cons_of_pos hb]
theorem rb_stop (t : ByteArray) (h : t.size - 1 < t.size) (hb : blankB (t[t.size - 1]'h) = false) : trimRB t.data.toList = t.data.toList := by
  unfold trimRB
  have e := rb_snoc t h
  have hr : t.data.toList.reverse = t[t.size - 1]'h :: (t.extract 0 (t.size - 1)).data.toList.reverse := by
    rw [e, List.reverse_append, List.reverse_singleton, List.singleton_append]
  rw [hr, List.dropWhile_cons_of_neg (by rw [hb]; decide), ← hr, List.reverse_reverse]
/-- Where the reference stands in a text: the digits that it has read ahead of and behind the point, and what they come to. -/
structure RefSt (l : List UInt8) (i n places : Nat) (point some great : Bool) (A R : List UInt8) : Prop where
  read : l.take i = if point then A ++ 46 :: R else A
  none : point = false → R = []
  digA : A.all digB = true
  digR : R.all digB = true
  places : places = R.length
  some : some = !(A ++ R).isEmpty
  fin : great = false → n = valL 0 (A ++ R.take 6) ∧ n ≤ 1000000000000000000
  inf : great = true → 1000000000000000000 < valL 0 (A ++ R.take 6)
theorem take_next (l : List UInt8) (i : Nat) (h : i < l.length) : l.take (i + 1) = l.take i ++ [l[i]'h] := (List.take_append_getElem h).symm
theorem RefSt.point {l : List UInt8} {i n places : Nat} {some great : Bool} {A R : List UInt8} (h : RefSt l i n places false some great A R) (hi : i < l.length) (hc : l[i]'hi = 46) : RefSt l (i + 1) n places true some great A R := by
  obtain ⟨h1, h2, h3, h4, h5, h6, h7, h8⟩ := h
  have hR := h2 rfl
  subst hR
  refine ⟨?_, (fun e => by cases e), h3, h4, h5, h6, h7, h8⟩
  rw [take_next l i hi, h1, hc]
  rfl
theorem valL_snoc (L : List UInt8) (c : UInt8) : valL 0 (L ++ [c]) = valL 0 L * 10 + digN c := by
  rw [valL_append, valL_cons]
  rfl
theorem all_snoc {L : List UInt8} {c : UInt8} (h : L.all digB = true) (hc : digB c = true) : (L ++ [c]).all digB = true := by
  rw [List.all_append, h, List.all_cons, hc]
  rfl
theorem RefSt.ahead {l : List UInt8} {i n places : Nat} {some great : Bool} {A R : List UInt8} (h : RefSt l i n places false some great A R) (hi : i < l.length) (hc : digB (l[i]'hi) = true) (n' : Nat) (great' : Bool)
    (hn : great = false → n' = n * 10 + digN (l[i]'hi) ∧ great' = decide (1000000000000000000 < n')) (hg : great = true → great' = true) : RefSt l (i + 1) n' places false true great' (A ++ [l[i]'hi]) R := by
  obtain ⟨h1, h2, h3, h4, h5, h6, h7, h8⟩ := h
  have hR := h2 rfl
  subst hR
  have hv : valL 0 (A ++ [l[i]'hi] ++ ([] : List UInt8).take 6) = valL 0 A * 10 + digN (l[i]'hi) := by
    rw [List.take_nil, List.append_nil, valL_snoc]
  rw [List.take_nil, List.append_nil] at h7 h8
  refine ⟨?_, fun _ => rfl, all_snoc h3 hc, h4, h5, by simp, ?_, ?_⟩
  · rw [take_next l i hi, h1]
    rfl
  · intro hg'
    rw [hv]
    cases great with
    | true => rw [hg rfl] at hg'; cases hg'
    | false =>
      obtain ⟨e1, e2⟩ := hn rfl
      obtain ⟨e3, e4⟩ := h7 rfl
      rw [e2] at hg'
      have := of_decide_eq_false hg'
      exact ⟨by rw [e1, e3], by omega⟩
  · intro hg'
    rw [hv]
    cases great with
    | true => have := h8 rfl; omega
    | false =>
      obtain ⟨e1, e2⟩ := hn rfl
      obtain ⟨e3, e4⟩ := h7 rfl
      rw [e2] at hg'
      have := of_decide_eq_true hg'
      rw [← e3, ← e1]
      exact this
theorem RefSt.behind {l : List UInt8} {i n places : Nat} {some great : Bool} {A R : List UInt8} (h : RefSt l i n places true some great A R) (hi : i < l.length) (hc : digB (l[i]'hi) = true) (n' : Nat) (great' : Bool)
    (hn : great = false → places + 1 ≤ 6 → n' = n * 10 + digN (l[i]'hi) ∧ great' = decide (1000000000000000000 < n')) (hm : great = false → ¬ places + 1 ≤ 6 → n' = n ∧ great' = false) (hg : great = true → great' = true) : RefSt l (i + 1) n' (places + 1) true true great' A (R ++ [l[i]'hi]) := by
  obtain ⟨h1, h2, h3, h4, h5, h6, h7, h8⟩ := h
  have hv : places + 1 ≤ 6 → (R ++ [l[i]'hi]).take 6 = R.take 6 ++ [l[i]'hi] := fun h => by
    rw [List.take_of_length_le (by rw [List.length_append, List.length_singleton]; omega), List.take_of_length_le (by omega)]
  have hv' : ¬ places + 1 ≤ 6 → (R ++ [l[i]'hi]).take 6 = R.take 6 := fun h => by
    rw [List.take_append_of_le_length (by omega)]
  refine ⟨?_, (fun e => by cases e), h3, all_snoc h4 hc, by rw [List.length_append, h5]; rfl, by simp, ?_, ?_⟩
  · rw [take_next l i hi, h1]
    simp
  · intro hg'
    cases great with
    | true => rw [hg rfl] at hg'; cases hg'
    | false =>
      obtain ⟨e3, e4⟩ := h7 rfl
      by_cases h6' : places + 1 ≤ 6
      · obtain ⟨e1, e2⟩ := hn rfl h6'
        rw [hv h6', ← List.append_assoc, valL_snoc, ← e3, ← e1]
        rw [e2] at hg'
        have := of_decide_eq_false hg'
        exact ⟨rfl, by omega⟩
      · obtain ⟨e1, e2⟩ := hm rfl h6'
        rw [hv' h6', e1]
        exact ⟨e3, e4⟩
  · intro hg'
    cases great with
    | true =>
      have := h8 rfl
      by_cases h6' : places + 1 ≤ 6
      · rw [hv h6', ← List.append_assoc, valL_snoc]
        omega
      · rw [hv' h6']
        exact this
    | false =>
      obtain ⟨e3, e4⟩ := h7 rfl
      by_cases h6' : places + 1 ≤ 6
      · obtain ⟨e1, e2⟩ := hn rfl h6'
        rw [hv h6', ← List.append_assoc, valL_snoc, ← e3, ← e1]
        rw [e2] at hg'
        exact of_decide_eq_true hg'
      · obtain ⟨e1, e2⟩ := hm rfl h6'
        rw [e2] at hg'
        cases hg'
theorem dig_noPt {A : List UInt8} (h : A.all digB = true) : ∀ a ∈ A, noPt a = true := fun a ha => by
  have := List.all_eq_true.1 h a ha
  unfold digB at this
  simp at this
  unfold noPt
  simp
  intro e
  rw [e] at this
  exact absurd this.1 (by decide)
theorem cut_dig (A r : List UInt8) (h : A.all digB = true) : cut1 (A ++ r) = A ++ cut1 r ∧ cut2 (A ++ r) = cut2 r := by
  unfold cut1 cut2
  rw [List.takeWhile_append_of_pos (dig_noPt h), List.dropWhile_append_of_pos (dig_noPt h)]
  exact ⟨rfl, rfl⟩
theorem cut_pt (A r : List UInt8) (h : A.all digB = true) : cut1 (A ++ 46 :: r) = A ∧ cut2 (A ++ 46 :: r) = r := by
  have := cut_dig A (46 :: r) h
  rw [this.1, this.2]
  unfold cut1 cut2
  rw [List.takeWhile_cons_of_neg (by decide), List.dropWhile_cons_of_neg (by decide)]
  exact ⟨List.append_nil _, rfl⟩
theorem RefSt.end {l : List UInt8} {i n places : Nat} {point some great : Bool} {A R : List UInt8} (h : RefSt l i n places point some great A R) (hi : l.length ≤ i) : cut1 l = A ∧ cut2 l = R := by
  have h1 := h.read
  rw [List.take_of_length_le hi] at h1
  cases point with
  | false =>
    rw [if_neg (by decide)] at h1
    have h2 := cut_dig A [] h.digA
    rw [List.append_nil, ← h1] at h2
    rw [h2.1, h2.2, h.none rfl]
    exact ⟨by rw [← h1]; exact List.append_nil _, rfl⟩
  | true =>
    rw [if_pos rfl] at h1
    rw [h1]
    exact cut_pt A R h.digA
theorem RefSt.bad {l : List UInt8} {i n places : Nat} {point some great : Bool} {A R : List UInt8} (h : RefSt l i n places point some great A R) (hi : i < l.length) (hc : digB (l[i]'hi) = false) (hp : point = true ∨ l[i]'hi ≠ 46) (below : Bool) : bodyK below (cut1 l) (cut2 l) = 1 ∧ bodyN below (cut1 l) (cut2 l) = 0 := by
  have hl : l = l.take i ++ l[i]'hi :: l.drop (i + 1) := by
    rw [← List.drop_eq_getElem_cons hi, List.take_append_drop]
  have h1 := h.read
  have key : (cut1 l).all digB = false ∨ (cut2 l).all digB = false := by
    cases point with
    | false =>
      rw [if_neg (by decide)] at h1
      have hne : l[i]'hi ≠ 46 := by
        rcases hp with e | e
        · cases e
        · exact e
      have h2 := (cut_dig A (l[i]'hi :: l.drop (i + 1)) h.digA).1
      rw [h1] at hl
      rw [← hl] at h2
      left
      rw [h2]
      have h3 : cut1 (l[i]'hi :: l.drop (i + 1)) = l[i]'hi :: cut1 (l.drop (i + 1)) := by
        unfold cut1
        rw [List.takeWhile_cons_of_pos (by unfold noPt; simpa using hne)]
      rw [h3]
      exact List.all_eq_false.2 ⟨l[i]'hi, by simp, by rw [hc]; decide⟩
    | true =>
      rw [if_pos rfl] at h1
      rw [h1, List.append_assoc, List.cons_append] at hl
      have h2 := (cut_pt A (R ++ l[i]'hi :: l.drop (i + 1)) h.digA).2
      rw [← hl] at h2
      right
      rw [h2]
      exact List.all_eq_false.2 ⟨l[i]'hi, List.mem_append.2 (.inr (.head _)), by rw [hc]; decide⟩
  unfold bodyK bodyN okB
  rcases key with h | h <;> rw [h] <;> simp
end Go.Proofs.YtmaefnmjfkbplaaGreatDoor
