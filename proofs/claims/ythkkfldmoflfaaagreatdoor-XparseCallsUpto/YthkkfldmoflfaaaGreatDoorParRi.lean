/- The reference's right: of what is right it tells true. -/
import Derived.Test.YthkkfldmoflfaaaGreatDoorGbq
namespace Go.Proofs.YthkkfldmoflfaaaGreatDoor
open Go.RowKit Go.Maps
theorem refNumRight_ok (v : Int) (w : World) (h : rightB 0 v = true) :
    Calls Tryz.prog 61 #[.agg #[.int .i64 0, .int .i64 v]] w fun e w' => e = .returned (.bool true) ∧ Below w.heap.size w w' := by
  refine (refRight_any 0 v w).mono ?_
  rintro e w' ⟨rfl, rfl⟩
  exact ⟨by rw [h], (Below.refl _ _).alloc (Nat.le_refl _) _⟩
theorem fl_num {o a k : Nat} {t : List Nat} {m : Int} {ks : List Ex} (h : flX (.mk o t m a k ks) = true) (ho : o = 16) : rightB 0 m = true ∧ 0 ≤ m ∧ t = [] ∧ a = 0 ∧ k = 0 := by
  rw [ho] at h
  have h1 : ((rightB 0 m && decide (0 ≤ m)) && restX t 0 a k) = true := h
  simp only [Bool.and_eq_true, decide_eq_true_eq] at h1
  have := rest_inv h1.2
  exact ⟨h1.1.1, h1.1.2, this.1, this.2.2.1, this.2.2.2⟩
theorem fl_str {o a k : Nat} {t : List Nat} {m : Int} {ks : List Ex} (h : flX (.mk o t m a k ks) = true) (ho : o = 17) : litX t = true ∧ m = 0 ∧ a = 0 ∧ k = 0 := by
  rw [ho] at h
  have h1 : (litX t && restX [] m a k) = true := h
  simp only [Bool.and_eq_true] at h1
  have := rest_inv h1.2
  exact ⟨h1.1, this.2.1, this.2.2.1, this.2.2.2⟩
theorem fl_var {o a k : Nat} {t : List Nat} {m : Int} {ks : List Ex} (h : flX (.mk o t m a k ks) = true) (ho : o = 18) : isQ t = true ∧ m = 0 ∧ a = 0 ∧ k = 0 := by
  rw [ho] at h
  have h1 : (isQ t && restX [] m a k) = true := h
  simp only [Bool.and_eq_true] at h1
  have := rest_inv h1.2
  exact ⟨h1.1, this.2.1, this.2.2.1, this.2.2.2⟩
theorem fl_call {o a k : Nat} {t : List Nat} {m : Int} {ks : List Ex} (h : flX (.mk o t m a k ks) = true) (ho : o = 19) : isQ t = true ∧ (typeNo t).isNone = true ∧ m = 0 ∧ a = 0 ∧ k = 0 := by
  rw [ho] at h
  have h1 : ((isQ t && (typeNo t).isNone) && restX [] m a k) = true := h
  simp only [Bool.and_eq_true] at h1
  have := rest_inv h1.2
  exact ⟨h1.1.1, h1.1.2, this.2.1, this.2.2.1, this.2.2.2⟩
theorem refTypes_no (t : List Nat) (w : World) (ht : okL t) (h : (typeNo t).isNone = true) :
    Calls Tryz.prog 64 #[.string (T t)] w fun e w' => e = .returned (.bool false) ∧ Below w.heap.size w w' := by
  refine (refTypes_any t w ht).mono ?_
  rintro e w' ⟨rfl, rfl⟩
  exact ⟨by rw [type_none h], Below.refl _ _⟩
set_option maxRecDepth 100000 in
set_option maxHeartbeats 4000000 in
theorem refRight_step (n : Nat) (IH : ∀ m, m < n → RRight m) (IP : ∀ m, m < n → RPath m) : RRight n := by
  intro d c c' x al cc w S hE hz hx hj
  have hl := jright_len hj
  obtain ⟨hs, hf, mm, hmm, hj21, hjk⟩ := jright_inv hj
  have ht := hx.1
  have hzt := small_T hz
  have hzk := smallX.kids hz
  have HXX := hide hx
  have HZZ := hide hz
  replace hx := hx.ks
  have HBX := hide (fun b w h => refBare_ok x al cc b w ht h)
  have HPX := hide (fun w hE (hx : exV w S x (.slice al x.kids.length cc)) hba hp => (IP mm hmm) (d + 1) (c + 1) c' x al cc w S hE hz hx hl hba hp)
  obtain ⟨o, t, m, a, k, ks⟩ := x
  replace hs : ((1 ≤ o : Bool) && (o ≤ 21 : Bool)) = true := hs
  replace hf : flX (.mk o t m a k ks) = true := hf
  replace hj21 : o = 21 → jPath flX mm (d + 1) (c + 1) ks = some (true, c') := hj21
  replace hjk : o ≠ 21 → kidsN (.mk o t m a k ks) = true ∧ jAll flX mm (d + 1) (c + 1) ks = some (true, c') := hjk
  replace ht : okL t := ht
  replace hzt : (T t).size ≤ 4000 := hzt
  replace hzk : smallKs ks = true := hzk
  replace hx : KsV w S ks (.slice al ks.length cc) := hx
  replace hl : ks.length ≤ 512 := hl
  replace HBX : Hid (∀ (b : Bool) (w : World), (m = 0 ∧ a = 0 ∧ k = 0 ∧ (b = true ∨ t = [])) → Calls Tryz.prog 59 #[.agg #[.int .i64 (o : Nat), .string (T t), .int .i64 0, .int .i64 m, .int .i64 (a : Nat), .int .i64 (k : Nat), .slice al ks.length cc], .bool b] w fun e w' => e = .returned (.bool true) ∧ Below w.heap.size w w') := HBX
  replace HPX : Hid (∀ (w : World), EnvG w → exV w S (.mk o t m a k ks) (.slice al ks.length cc) → (m = 0 ∧ a = 0 ∧ k = 0 ∧ (false = true ∨ t = [])) → jPath flX mm (d + 1) (c + 1) ks = some (true, c') → Calls Tryz.prog 65 #[.agg #[.int .i64 (o : Nat), .string (T t), .int .i64 0, .int .i64 m, .int .i64 (a : Nat), .int .i64 (k : Nat), .slice al ks.length cc]] w fun e w' => e = .returned (.bool true) ∧ Below w.heap.size w w') := HPX
  have hsel : 1 ≤ o ∧ o ≤ 21 := by simpa using hs
  have HAL : Hid (o ≠ 21 → ∀ (w' : World), EnvG w' → KsV w' S ks (.slice al ks.length cc) → Calls Tryz.prog 60 #[.slice al ks.length cc, .int .i64 0] w' fun e w2 => e = .returned (.bool true) ∧ Below w'.heap.size w' w2) := hide (fun ho w' hE' hx' => refAll_ok mm (fun m hm => IH m (by omega)) ks al cc w' S hE' hzk hx' hl (fun i x hi => by
    obtain ⟨m, c1, c2, h1, h2⟩ := jall_inv (hjk ho).2 i x hi
    exact ⟨m, _, c1, c2, h1, h2⟩))
  have HF := hide hf
  have HT := hide ht
  have HZT := hide hzt
  have HKN := hide (fun ho => (hjk ho).1)
  have HJP := hide hj21
  have HL := hide hl
  have HZK := hide hzk
  show Calls Tryz.prog 33 #[.agg #[.int .i64 (o : Nat), .string (T t), .int .i64 0, .int .i64 m, .int .i64 (a : Nat), .int .i64 (k : Nat), .slice al ks.length cc]] w fun e w' => e = .returned (.bool true) ∧ Below w.heap.size w w'
  clear hs hf hj21 hjk hl hz hzk hzt ht hj IH IP
  obtain ⟨W1, e1⟩ : ∃ W1, w.alloc (.cells #[.int .i64 (o : Nat), .string (T t), .int .i64 0, .int .i64 m, .int .i64 (a : Nat), .int .i64 (k : Nat), .slice al ks.length cc] 32) = W1 := ⟨_, rfl⟩
  have hb1 : Below w.heap.size w W1 := by rw [← e1]; exact (Below.refl _ _).alloc (Nat.le_refl _) _
  have hq1 : W1.heap[w.heap.size]? = some (.cells #[.int .i64 (o : Nat), .string (T t), .int .i64 0, .int .i64 m, .int .i64 (a : Nat), .int .i64 (k : Nat), .slice al ks.length cc] 32) := by rw [← e1]; exact palloc_new _ _
  have HB1 := hide hb1
  have HQ1 := hide hq1
  have HE1 := hide (hE.below hb1)
  have HX1 := hide (hx.below hb1)
  have HXX1 := hide ((unhide HXX).below hb1)
  generalize hq : w.heap.size = q at hq1 HQ1
  obtain ⟨a0, a1, a2, a3, a4, a5, a6⟩ := var_cells hq1
  clear hb1 hq1
  clear hE hx
  have d1 : decide (1 ≤ o) = true := decide_eq_true (by omega)
  have d1' : decide ((1 : Int) ≤ ((o : Nat) : Int)) = true := decide_eq_true (by omega)
  by_cases ho : o ≤ 13
  · skip
    have d2 : decide (((o : Nat) : Int) ≤ 13) = true := decide_eq_true (by omega)
    have d3 : ((o : Nat) : Int) ≤ 13 := by omega
    have d4 : (1 : Int) ≤ ((o : Nat) : Int) := by omega
    have d5 : 1 ≤ o := by omega
    have d6 : o ≤ 13 := by omega
    have hfb := fl_bare (unhide HF) (by show o ≠ 16 ∧ o ≠ 17 ∧ o ≠ 18 ∧ o ≠ 19 ∧ o ≠ 23; omega)
    have HBA : Hid (m = 0 ∧ a = 0 ∧ k = 0 ∧ (false = true ∨ t = [])) := hide hfb
    clear hfb
    have HO : Hid (o ≠ 21) := hide (by omega)
    have n2 : (((ks.length : Nat) : Int) == 2) = true := icast_eq (by have h := unhide HKN (by omega); rw [kidsN_two (by omega), beq_iff_eq] at h; omega)
    have HC1 := hide (unhide HBX false W1 (unhide HBA))
    clear ho hsel
    go_enter Tryz.func33, Tryz.ntmps33
    go_wp2_with fail
    refine (unhide HC1).mono ?_
    rintro e w2 ⟨rfl, hb2⟩
    have HB2 := hide (Below.then (unhide HB1) hb2)
    have HQ2 := hide (blockB (unhide HQ1) hb2)
    have HE2 := hide ((unhide HE1).below hb2)
    have HX2 := hide ((unhide HX1).below hb2)
    clear a0 a1 a2 a3 a4 a5 a6 hb2
    obtain ⟨a0, a1, a2, a3, a4, a5, a6⟩ := var_cells (unhide HQ2)
    clear HC1
    have HC2 := hide (unhide HAL (unhide HO) w2 (unhide HE2) (unhide HX2))
    go_wp2_with fail
    refine (unhide HC2).mono ?_
    rintro e w3 ⟨rfl, hb3⟩
    have HB3 := hide (Below.then (unhide HB2) hb3)
    have HQ3 := hide (blockB (unhide HQ2) hb3)
    have HE3 := hide ((unhide HE2).below hb3)
    have HX3 := hide ((unhide HX2).below hb3)
    clear a0 a1 a2 a3 a4 a5 a6 hb3
    obtain ⟨a0, a1, a2, a3, a4, a5, a6⟩ := var_cells (unhide HQ3)
    clear HC2
    go_wp2_with fail
    go_returns
    exact ⟨rfl, by have h := unhide HB3; rw [hq] at h; exact h⟩
  by_cases ho : o = 15
  · skip
    have d2 : decide (((o : Nat) : Int) ≤ 13) = false := decide_eq_false (by omega)
    have d3 : ¬ ((o : Nat) : Int) ≤ 13 := by omega
    have d4 : (1 : Int) ≤ ((o : Nat) : Int) := by omega
    have d5 : 1 ≤ o := by omega
    have d6 : ¬ o ≤ 13 := by omega
    have e15 : (((o : Nat) : Int) == 15) = true := icast_eq (by omega)
    have hfb := fl_bare (unhide HF) (by show o ≠ 16 ∧ o ≠ 17 ∧ o ≠ 18 ∧ o ≠ 19 ∧ o ≠ 23; omega)
    have HBA : Hid (m = 0 ∧ a = 0 ∧ k = 0 ∧ (false = true ∨ t = [])) := hide hfb
    clear hfb
    have HO : Hid (o ≠ 21) := hide (by omega)
    have n2 : (((ks.length : Nat) : Int) == 2) = true := icast_eq (by have h := unhide HKN (by omega); rw [kidsN_two (by omega), beq_iff_eq] at h; omega)
    have HC1 := hide (unhide HBX false W1 (unhide HBA))
    clear ho hsel
    go_enter Tryz.func33, Tryz.ntmps33
    go_wp2_with fail
    refine (unhide HC1).mono ?_
    rintro e w2 ⟨rfl, hb2⟩
    have HB2 := hide (Below.then (unhide HB1) hb2)
    have HQ2 := hide (blockB (unhide HQ1) hb2)
    have HE2 := hide ((unhide HE1).below hb2)
    have HX2 := hide ((unhide HX1).below hb2)
    clear a0 a1 a2 a3 a4 a5 a6 hb2
    obtain ⟨a0, a1, a2, a3, a4, a5, a6⟩ := var_cells (unhide HQ2)
    clear HC1
    have HC2 := hide (unhide HAL (unhide HO) w2 (unhide HE2) (unhide HX2))
    go_wp2_with fail
    refine (unhide HC2).mono ?_
    rintro e w3 ⟨rfl, hb3⟩
    have HB3 := hide (Below.then (unhide HB2) hb3)
    have HQ3 := hide (blockB (unhide HQ2) hb3)
    have HE3 := hide ((unhide HE2).below hb3)
    have HX3 := hide ((unhide HX2).below hb3)
    clear a0 a1 a2 a3 a4 a5 a6 hb3
    obtain ⟨a0, a1, a2, a3, a4, a5, a6⟩ := var_cells (unhide HQ3)
    clear HC2
    go_wp2_with fail
    go_returns
    exact ⟨rfl, by have h := unhide HB3; rw [hq] at h; exact h⟩
  by_cases ho : o = 14
  · skip
    have d2 : decide (((o : Nat) : Int) ≤ 13) = false := decide_eq_false (by omega)
    have d3 : ¬ ((o : Nat) : Int) ≤ 13 := by omega
    have d4 : (1 : Int) ≤ ((o : Nat) : Int) := by omega
    have d5 : 1 ≤ o := by omega
    have d6 : ¬ o ≤ 13 := by omega
    have e15 : (((o : Nat) : Int) == 15) = false := icast_ne (by omega)
    have e14 : (((o : Nat) : Int) == 14) = true := icast_eq (by omega)
    have hfb := fl_bare (unhide HF) (by show o ≠ 16 ∧ o ≠ 17 ∧ o ≠ 18 ∧ o ≠ 19 ∧ o ≠ 23; omega)
    have HBA : Hid (m = 0 ∧ a = 0 ∧ k = 0 ∧ (false = true ∨ t = [])) := hide hfb
    clear hfb
    have HO : Hid (o ≠ 21) := hide (by omega)
    have n2 : (((ks.length : Nat) : Int) == 1) = true := icast_eq (by have h := unhide HKN (by omega); rw [ho, kidsN_neg, beq_iff_eq] at h; omega)
    have HC1 := hide (unhide HBX false W1 (unhide HBA))
    clear ho hsel
    go_enter Tryz.func33, Tryz.ntmps33
    go_wp2_with fail
    refine (unhide HC1).mono ?_
    rintro e w2 ⟨rfl, hb2⟩
    have HB2 := hide (Below.then (unhide HB1) hb2)
    have HQ2 := hide (blockB (unhide HQ1) hb2)
    have HE2 := hide ((unhide HE1).below hb2)
    have HX2 := hide ((unhide HX1).below hb2)
    clear a0 a1 a2 a3 a4 a5 a6 hb2
    obtain ⟨a0, a1, a2, a3, a4, a5, a6⟩ := var_cells (unhide HQ2)
    clear HC1
    have HC2 := hide (unhide HAL (unhide HO) w2 (unhide HE2) (unhide HX2))
    go_wp2_with fail
    refine (unhide HC2).mono ?_
    rintro e w3 ⟨rfl, hb3⟩
    have HB3 := hide (Below.then (unhide HB2) hb3)
    have HQ3 := hide (blockB (unhide HQ2) hb3)
    have HE3 := hide ((unhide HE2).below hb3)
    have HX3 := hide ((unhide HX2).below hb3)
    clear a0 a1 a2 a3 a4 a5 a6 hb3
    obtain ⟨a0, a1, a2, a3, a4, a5, a6⟩ := var_cells (unhide HQ3)
    clear HC2
    go_wp2_with fail
    go_returns
    exact ⟨rfl, by have h := unhide HB3; rw [hq] at h; exact h⟩
  by_cases ho : o = 16
  · skip
    have d2 : decide (((o : Nat) : Int) ≤ 13) = false := decide_eq_false (by omega)
    have d3 : ¬ ((o : Nat) : Int) ≤ 13 := by omega
    have d4 : (1 : Int) ≤ ((o : Nat) : Int) := by omega
    have d5 : 1 ≤ o := by omega
    have d6 : ¬ o ≤ 13 := by omega
    have e15 : (((o : Nat) : Int) == 15) = false := icast_ne (by omega)
    have e14 : (((o : Nat) : Int) == 14) = false := icast_ne (by omega)
    have e16 : (((o : Nat) : Int) == 16) = true := icast_eq (by omega)
    obtain ⟨f1, f2, f3, f4, f5⟩ := fl_num (unhide HF) ho
    have HF1 := hide f1
    have n2 : (((ks.length : Nat) : Int) == 0) = true := icast_eq (by have h := unhide HKN (by omega); rw [kidsN_mk, if_pos (by omega), beq_iff_eq] at h; omega)
    have n3 : (T t).toList.isEmpty = true := by rw [pempty_T (unhide HT), f3]; rfl
    have n4 : (((a : Nat) : Int) == 0) = true := icast_eq (by omega)
    have n5 : (((k : Nat) : Int) == 0) = true := icast_eq (by omega)
    have n6 : decide ((0 : Int) ≤ m) = true := decide_eq_true f2
    clear f1 f2 f3 f4 f5
    have HC1 := hide (refNumRight_ok m W1 (unhide HF1))
    clear ho hsel
    go_enter Tryz.func33, Tryz.ntmps33
    go_wp2_with fail
    refine (unhide HC1).mono ?_
    rintro e w2 ⟨rfl, hb2⟩
    have HB2 := hide (Below.then (unhide HB1) hb2)
    have HQ2 := hide (blockB (unhide HQ1) hb2)
    have HE2 := hide ((unhide HE1).below hb2)
    have HX2 := hide ((unhide HX1).below hb2)
    clear a0 a1 a2 a3 a4 a5 a6 hb2
    obtain ⟨a0, a1, a2, a3, a4, a5, a6⟩ := var_cells (unhide HQ2)
    clear HC1
    go_wp2_with fail
    go_returns
    exact ⟨rfl, by have h := unhide HB2; rw [hq] at h; exact h⟩
  by_cases ho : o = 17
  · skip
    have d2 : decide (((o : Nat) : Int) ≤ 13) = false := decide_eq_false (by omega)
    have d3 : ¬ ((o : Nat) : Int) ≤ 13 := by omega
    have d4 : (1 : Int) ≤ ((o : Nat) : Int) := by omega
    have d5 : 1 ≤ o := by omega
    have d6 : ¬ o ≤ 13 := by omega
    have e15 : (((o : Nat) : Int) == 15) = false := icast_ne (by omega)
    have e14 : (((o : Nat) : Int) == 14) = false := icast_ne (by omega)
    have e16 : (((o : Nat) : Int) == 16) = false := icast_ne (by omega)
    have e17 : (((o : Nat) : Int) == 17) = true := icast_eq (by omega)
    obtain ⟨f1, f3, f4, f5⟩ := fl_str (unhide HF) ho
    have HF1 := hide f1
    have HBA : Hid (m = 0 ∧ a = 0 ∧ k = 0 ∧ (true = true ∨ t = [])) := hide ⟨f3, f4, f5, .inl rfl⟩
    clear f1 f3 f4 f5
    have n2 : (((ks.length : Nat) : Int) == 0) = true := icast_eq (by have h := unhide HKN (by omega); rw [kidsN_mk, if_pos (by omega), beq_iff_eq] at h; omega)
    have HC1 := hide (unhide HBX true W1 (unhide HBA))
    clear ho hsel
    go_enter Tryz.func33, Tryz.ntmps33
    go_wp2_with fail
    refine (unhide HC1).mono ?_
    rintro e w2 ⟨rfl, hb2⟩
    have HB2 := hide (Below.then (unhide HB1) hb2)
    have HQ2 := hide (blockB (unhide HQ1) hb2)
    have HE2 := hide ((unhide HE1).below hb2)
    have HX2 := hide ((unhide HX1).below hb2)
    clear a0 a1 a2 a3 a4 a5 a6 hb2
    obtain ⟨a0, a1, a2, a3, a4, a5, a6⟩ := var_cells (unhide HQ2)
    clear HC1
    have HC2 := hide (show Calls Tryz.prog 62 #[.string (T t)] w2 (fun e w' => e = .returned (.bool true) ∧ Below w2.heap.size w2 w') from unhide HF1 ▸ refText_any t w2 (unhide HT) (unhide HZT) (unhide HE2).lex.env)
    go_wp2_with fail
    refine (unhide HC2).mono ?_
    rintro e w3 ⟨rfl, hb3⟩
    have HB3 := hide (Below.then (unhide HB2) hb3)
    have HQ3 := hide (blockB (unhide HQ2) hb3)
    have HE3 := hide ((unhide HE2).below hb3)
    have HX3 := hide ((unhide HX2).below hb3)
    clear a0 a1 a2 a3 a4 a5 a6 hb3
    obtain ⟨a0, a1, a2, a3, a4, a5, a6⟩ := var_cells (unhide HQ3)
    clear HC2
    go_wp2_with fail
    go_returns
    exact ⟨rfl, by have h := unhide HB3; rw [hq] at h; exact h⟩
  by_cases ho : o = 18
  · skip
    have d2 : decide (((o : Nat) : Int) ≤ 13) = false := decide_eq_false (by omega)
    have d3 : ¬ ((o : Nat) : Int) ≤ 13 := by omega
    have d4 : (1 : Int) ≤ ((o : Nat) : Int) := by omega
    have d5 : 1 ≤ o := by omega
    have d6 : ¬ o ≤ 13 := by omega
    have e15 : (((o : Nat) : Int) == 15) = false := icast_ne (by omega)
    have e14 : (((o : Nat) : Int) == 14) = false := icast_ne (by omega)
    have e16 : (((o : Nat) : Int) == 16) = false := icast_ne (by omega)
    have e17 : (((o : Nat) : Int) == 17) = false := icast_ne (by omega)
    have e18 : (((o : Nat) : Int) == 18) = true := icast_eq (by omega)
    obtain ⟨f1, f3, f4, f5⟩ := fl_var (unhide HF) ho
    have HF1 := hide f1
    have HBA : Hid (m = 0 ∧ a = 0 ∧ k = 0 ∧ (true = true ∨ t = [])) := hide ⟨f3, f4, f5, .inl rfl⟩
    clear f1 f3 f4 f5
    have n2 : (((ks.length : Nat) : Int) == 0) = true := icast_eq (by have h := unhide HKN (by omega); rw [kidsN_mk, if_pos (by omega), beq_iff_eq] at h; omega)
    have HC1 := hide (unhide HBX true W1 (unhide HBA))
    clear ho hsel
    go_enter Tryz.func33, Tryz.ntmps33
    go_wp2_with fail
    refine (unhide HC1).mono ?_
    rintro e w2 ⟨rfl, hb2⟩
    have HB2 := hide (Below.then (unhide HB1) hb2)
    have HQ2 := hide (blockB (unhide HQ1) hb2)
    have HE2 := hide ((unhide HE1).below hb2)
    have HX2 := hide ((unhide HX1).below hb2)
    clear a0 a1 a2 a3 a4 a5 a6 hb2
    obtain ⟨a0, a1, a2, a3, a4, a5, a6⟩ := var_cells (unhide HQ2)
    clear HC1
    have HC2 := hide (show Calls Tryz.prog 63 #[.string (T t)] w2 (fun e w' => e = .returned (.bool true) ∧ Below w2.heap.size w2 w') from unhide HF1 ▸ refQname_any t w2 (unhide HT) (unhide HZT) (unhide HE2).lex.env)
    go_wp2_with fail
    refine (unhide HC2).mono ?_
    rintro e w3 ⟨rfl, hb3⟩
    have HB3 := hide (Below.then (unhide HB2) hb3)
    have HQ3 := hide (blockB (unhide HQ2) hb3)
    have HE3 := hide ((unhide HE2).below hb3)
    have HX3 := hide ((unhide HX2).below hb3)
    clear a0 a1 a2 a3 a4 a5 a6 hb3
    obtain ⟨a0, a1, a2, a3, a4, a5, a6⟩ := var_cells (unhide HQ3)
    clear HC2
    go_wp2_with fail
    go_returns
    exact ⟨rfl, by have h := unhide HB3; rw [hq] at h; exact h⟩
  by_cases ho : o = 19
  · skip
    have d2 : decide (((o : Nat) : Int) ≤ 13) = false := decide_eq_false (by omega)
    have d3 : ¬ ((o : Nat) : Int) ≤ 13 := by omega
    have d4 : (1 : Int) ≤ ((o : Nat) : Int) := by omega
    have d5 : 1 ≤ o := by omega
    have d6 : ¬ o ≤ 13 := by omega
    have e15 : (((o : Nat) : Int) == 15) = false := icast_ne (by omega)
    have e14 : (((o : Nat) : Int) == 14) = false := icast_ne (by omega)
    have e16 : (((o : Nat) : Int) == 16) = false := icast_ne (by omega)
    have e17 : (((o : Nat) : Int) == 17) = false := icast_ne (by omega)
    have e18 : (((o : Nat) : Int) == 18) = false := icast_ne (by omega)
    have e19 : (((o : Nat) : Int) == 19) = true := icast_eq (by omega)
    obtain ⟨f1, f2, f3, f4, f5⟩ := fl_call (unhide HF) ho
    have HF1 := hide f1
    have HF2 := hide f2
    have HBA : Hid (m = 0 ∧ a = 0 ∧ k = 0 ∧ (true = true ∨ t = [])) := hide ⟨f3, f4, f5, .inl rfl⟩
    clear f1 f2 f3 f4 f5
    have HO : Hid (o ≠ 21) := hide (by omega)
    have HC1 := hide (unhide HBX true W1 (unhide HBA))
    clear ho hsel
    go_enter Tryz.func33, Tryz.ntmps33
    go_wp2_with fail
    refine (unhide HC1).mono ?_
    rintro e w2 ⟨rfl, hb2⟩
    have HB2 := hide (Below.then (unhide HB1) hb2)
    have HQ2 := hide (blockB (unhide HQ1) hb2)
    have HE2 := hide ((unhide HE1).below hb2)
    have HX2 := hide ((unhide HX1).below hb2)
    clear a0 a1 a2 a3 a4 a5 a6 hb2
    obtain ⟨a0, a1, a2, a3, a4, a5, a6⟩ := var_cells (unhide HQ2)
    clear HC1
    have HC2 := hide (show Calls Tryz.prog 63 #[.string (T t)] w2 (fun e w' => e = .returned (.bool true) ∧ Below w2.heap.size w2 w') from unhide HF1 ▸ refQname_any t w2 (unhide HT) (unhide HZT) (unhide HE2).lex.env)
    go_wp2_with fail
    refine (unhide HC2).mono ?_
    rintro e w3 ⟨rfl, hb3⟩
    have HB3 := hide (Below.then (unhide HB2) hb3)
    have HQ3 := hide (blockB (unhide HQ2) hb3)
    have HE3 := hide ((unhide HE2).below hb3)
    have HX3 := hide ((unhide HX2).below hb3)
    clear a0 a1 a2 a3 a4 a5 a6 hb3
    obtain ⟨a0, a1, a2, a3, a4, a5, a6⟩ := var_cells (unhide HQ3)
    clear HC2
    have HC3 := hide (refTypes_no t w3 (unhide HT) (unhide HF2))
    go_wp2_with fail
    refine (unhide HC3).mono ?_
    rintro e w4 ⟨rfl, hb4⟩
    have HB4 := hide (Below.then (unhide HB3) hb4)
    have HQ4 := hide (blockB (unhide HQ3) hb4)
    have HE4 := hide ((unhide HE3).below hb4)
    have HX4 := hide ((unhide HX3).below hb4)
    clear a0 a1 a2 a3 a4 a5 a6 hb4
    obtain ⟨a0, a1, a2, a3, a4, a5, a6⟩ := var_cells (unhide HQ4)
    clear HC3
    have HC4 := hide (unhide HAL (unhide HO) w4 (unhide HE4) (unhide HX4))
    go_wp2_with fail
    refine (unhide HC4).mono ?_
    rintro e w5 ⟨rfl, hb5⟩
    have HB5 := hide (Below.then (unhide HB4) hb5)
    have HQ5 := hide (blockB (unhide HQ4) hb5)
    have HE5 := hide ((unhide HE4).below hb5)
    have HX5 := hide ((unhide HX4).below hb5)
    clear a0 a1 a2 a3 a4 a5 a6 hb5
    obtain ⟨a0, a1, a2, a3, a4, a5, a6⟩ := var_cells (unhide HQ5)
    clear HC4
    go_wp2_with fail
    go_returns
    exact ⟨rfl, by have h := unhide HB5; rw [hq] at h; exact h⟩
  by_cases ho : o = 20
  · skip
    have d2 : decide (((o : Nat) : Int) ≤ 13) = false := decide_eq_false (by omega)
    have d3 : ¬ ((o : Nat) : Int) ≤ 13 := by omega
    have d4 : (1 : Int) ≤ ((o : Nat) : Int) := by omega
    have d5 : 1 ≤ o := by omega
    have d6 : ¬ o ≤ 13 := by omega
    have e15 : (((o : Nat) : Int) == 15) = false := icast_ne (by omega)
    have e14 : (((o : Nat) : Int) == 14) = false := icast_ne (by omega)
    have e16 : (((o : Nat) : Int) == 16) = false := icast_ne (by omega)
    have e17 : (((o : Nat) : Int) == 17) = false := icast_ne (by omega)
    have e18 : (((o : Nat) : Int) == 18) = false := icast_ne (by omega)
    have e19 : (((o : Nat) : Int) == 19) = false := icast_ne (by omega)
    have e20 : (((o : Nat) : Int) == 20) = true := icast_eq (by omega)
    have hfb := fl_bare (unhide HF) (by show o ≠ 16 ∧ o ≠ 17 ∧ o ≠ 18 ∧ o ≠ 19 ∧ o ≠ 23; omega)
    have HBA : Hid (m = 0 ∧ a = 0 ∧ k = 0 ∧ (false = true ∨ t = [])) := hide hfb
    clear hfb
    have HO : Hid (o ≠ 21) := hide (by omega)
    have hk20 : 2 ≤ ks.length ∧ ((ks.headD noX).op != 20) = true := by
      have h := unhide HKN (by omega)
      rw [ho, kidsN_fil, Bool.and_eq_true, decide_eq_true_eq] at h
      exact h
    obtain ⟨g0, o0, cc0, ev0, _, hop0⟩ := (unhide HX1).op0 (by omega)
    obtain ⟨hv, ehv⟩ : ∃ v, (ks.headD noX).op = v := ⟨_, rfl⟩
    rw [ehv] at hop0 hk20
    have h9 : hv ≠ 20 := by
      intro e
      have h := hk20.2
      rw [e] at h
      exact absurd h (by decide)
    have HG0 := hide (fun (wz : World) (hb : Below W1.heap.size W1 wz) => pkept hb hop0)
    cases ev0
    have n2 : decide ((2 : Int) ≤ ((ks.length : Nat) : Int)) = true := decide_eq_true (by omega)
    have n3 : 0 < ks.length := by omega
    have n3' : 2 ≤ ks.length := by omega
    have n5 : (((hv : Nat) : Int) == 20) = false := icast_ne (by omega)
    have n4 : (((hv : Nat) : Int) != 20) = true := by rw [bne, n5]; rfl
    clear hk20 hop0 ehv h9
    have HC1 := hide (unhide HBX false W1 (unhide HBA))
    clear ho hsel
    go_enter Tryz.func33, Tryz.ntmps33
    go_wp2_with fail
    refine (unhide HC1).mono ?_
    rintro e w2 ⟨rfl, hb2⟩
    have HB2 := hide (Below.then (unhide HB1) hb2)
    have HQ2 := hide (blockB (unhide HQ1) hb2)
    have HE2 := hide ((unhide HE1).below hb2)
    have HX2 := hide ((unhide HX1).below hb2)
    have HG2 := hide (unhide HG0 w2 hb2)
    clear a0 a1 a2 a3 a4 a5 a6 hb2
    obtain ⟨a0, a1, a2, a3, a4, a5, a6⟩ := var_cells (unhide HQ2)
    have hg0 := unhide HG2
    clear HC1
    have HC2 := hide (unhide HAL (unhide HO) w2 (unhide HE2) (unhide HX2))
    go_wp2_with fail
    refine (unhide HC2).mono ?_
    rintro e w3 ⟨rfl, hb3⟩
    have HB3 := hide (Below.then (unhide HB2) hb3)
    have HQ3 := hide (blockB (unhide HQ2) hb3)
    have HE3 := hide ((unhide HE2).below hb3)
    have HX3 := hide ((unhide HX2).below hb3)
    clear a0 a1 a2 a3 a4 a5 a6 hb3 hg0
    obtain ⟨a0, a1, a2, a3, a4, a5, a6⟩ := var_cells (unhide HQ3)
    clear HC2
    go_wp2_with fail
    go_returns
    exact ⟨rfl, by have h := unhide HB3; rw [hq] at h; exact h⟩
  · skip
    have d2 : decide (((o : Nat) : Int) ≤ 13) = false := decide_eq_false (by omega)
    have d3 : ¬ ((o : Nat) : Int) ≤ 13 := by omega
    have d4 : (1 : Int) ≤ ((o : Nat) : Int) := by omega
    have d5 : 1 ≤ o := by omega
    have d6 : ¬ o ≤ 13 := by omega
    have e15 : (((o : Nat) : Int) == 15) = false := icast_ne (by omega)
    have e14 : (((o : Nat) : Int) == 14) = false := icast_ne (by omega)
    have e16 : (((o : Nat) : Int) == 16) = false := icast_ne (by omega)
    have e17 : (((o : Nat) : Int) == 17) = false := icast_ne (by omega)
    have e18 : (((o : Nat) : Int) == 18) = false := icast_ne (by omega)
    have e19 : (((o : Nat) : Int) == 19) = false := icast_ne (by omega)
    have e20 : (((o : Nat) : Int) == 20) = false := icast_ne (by omega)
    have e21 : (((o : Nat) : Int) == 21) = true := icast_eq (by omega)
    have ho : o = 21 := by omega
    have HJ := hide (unhide HJP ho)
    have hfb := fl_bare (unhide HF) (by show o ≠ 16 ∧ o ≠ 17 ∧ o ≠ 18 ∧ o ≠ 19 ∧ o ≠ 23; omega)
    have HBA : Hid (m = 0 ∧ a = 0 ∧ k = 0 ∧ (false = true ∨ t = [])) := hide hfb
    clear hfb
    have HC1 := hide (unhide HPX W1 (unhide HE1) (unhide HXX1) (unhide HBA) (unhide HJ))
    clear ho hsel
    go_enter Tryz.func33, Tryz.ntmps33
    go_wp2_with fail
    refine (unhide HC1).mono ?_
    rintro e w2 ⟨rfl, hb2⟩
    have HB2 := hide (Below.then (unhide HB1) hb2)
    have HQ2 := hide (blockB (unhide HQ1) hb2)
    have HE2 := hide ((unhide HE1).below hb2)
    have HX2 := hide ((unhide HX1).below hb2)
    clear a0 a1 a2 a3 a4 a5 a6 hb2
    obtain ⟨a0, a1, a2, a3, a4, a5, a6⟩ := var_cells (unhide HQ2)
    clear HC1
    go_wp2_with fail
    go_returns
    exact ⟨rfl, by have h := unhide HB2; rw [hq] at h; exact h⟩
end Go.Proofs.YthkkfldmoflfaaaGreatDoor
