/- Several texts, laid as one. -/
import Derived.Test.YthkkfldmoflfaaaGreatDoorGbp
/- The reference's all, step, path, right: of what is right they tell true. -/
namespace Go.Proofs.YthkkfldmoflfaaaGreatDoor
open Go.RowKit Go.Maps
theorem jall_len {fl : Ex → Bool} : ∀ {n d c c' : Nat} {ks : List Ex}, jAll fl n d c ks = some (true, c') → c + ks.length ≤ c'
  | 0, _, _, _, _, h => by rw [jAll] at h; cases h
  | n + 1, d, c, c', [], h => by rw [jAll] at h; cases h; simp
  | n + 1, d, c, c', k :: ks, h => by
    rw [jAll] at h
    obtain ⟨c1, h1, h2⟩ := JR.then_some h
    have := (j_counts fl n).2.2.1 _ _ _ _ h1
    have := jall_len h2
    simp only [List.length_cons]
    omega
theorem jsteps_len {fl : Ex → Bool} : ∀ {n d c c' : Nat} {ks : List Ex}, jSteps fl n d c ks = some (true, c') → c + ks.length ≤ c'
  | 0, _, _, _, _, h => by rw [jSteps] at h; cases h
  | n + 1, d, c, c', [], h => by rw [jSteps] at h; cases h; simp
  | n + 1, d, c, c', k :: ks, h => by
    rw [jSteps] at h
    split at h
    · obtain ⟨c1, h1, h2⟩ := JR.then_some h
      have := (j_counts fl n).1 _ _ _ _ h1
      have := jsteps_len h2
      simp only [List.length_cons]
      omega
    · cases h
theorem jpath_len {fl : Ex → Bool} {n d c c' : Nat} {ks : List Ex} (h : jPath fl n d c ks = some (true, c')) : c + ks.length ≤ c' := by
  cases n with
  | zero => rw [jPath] at h; cases h
  | succ n =>
    cases ks with
    | nil => rw [jPath] at h; cases h
    | cons k rest =>
      rw [jPath] at h
      split at h
      · cases h
      · obtain ⟨c1, h1, h2⟩ := JR.then_some h
        have := jbeg_count h1
        have := jsteps_len h2
        simp only [List.length_cons]
        omega
theorem jright_len {fl : Ex → Bool} {n d c c' : Nat} {x : Ex} (h : jRight fl n d c x = some (true, c')) : x.kids.length ≤ 512 := by
  have h1 := (j_counts fl n).2.2.1 _ _ _ _ h
  obtain ⟨_, _, m, _, h2, h3⟩ := jright_inv h
  by_cases h21 : x.op = 21
  · have := jpath_len (h2 h21); omega
  · have := jall_len (h3 h21).2; omega
theorem jpart_len {fl : Ex → Bool} {n d c c' : Nat} {x : Ex} (h : jPart fl n d c x = some (true, c')) (hx : x.op ≠ 21) : x.kids.length ≤ 512 := by
  have h1 := (j_counts fl n).1 _ _ _ _ h
  obtain ⟨_, _, m, _, h2⟩ := jpart_inv h hx
  have := jall_len h2
  omega
/-- What the reference's right tells of what is right. -/
def RRight (m : Nat) : Prop := ∀ (d c c' : Nat) (x : Ex) (al : Option Addr) (cc : Nat) (w : World) (S : Nat → Prop), EnvG w → smallX x = true → exV w S x (.slice al x.kids.length cc) → jRight flX m d c x = some (true, c') → Calls Tryz.prog 33 #[exAgg x (.slice al x.kids.length cc)] w fun e w' => e = .returned (.bool true) ∧ Below w.heap.size w w'
theorem axAt_ne : ∀ a, a < 12 → (axAt a == []) = false := by decide
def RStep (m : Nat) : Prop := ∀ (d c c' : Nat) (x : Ex) (al : Option Addr) (cc : Nat) (w : World) (S : Nat → Prop), EnvG w → smallX x = true → exV w S x (.slice al x.kids.length cc) → x.op = 23 → jPart flX m d c x = some (true, c') → Calls Tryz.prog 99 #[exAgg x (.slice al x.kids.length cc)] w fun e w' => e = .returned (.bool true) ∧ Below w.heap.size w w'
theorem KsV.below {w w' : World} {S : Nat → Prop} {ks : List Ex} {v : Value} (h : KsV w S ks v) (hb : Below w.heap.size w w') : KsV w' S ks v := h.kept (Kq.of (S := fun _ => False) hb) (fun _ _ _ h => h)
theorem exV.below {w w' : World} {S : Nat → Prop} {x : Ex} {v : Value} (h : exV w S x v) (hb : Below w.heap.size w w') : exV w' S x v := h.kept (Kq.of (S := fun _ => False) hb) (fun _ _ _ h => h)
theorem blockB {w w' : World} {q : Nat} {o : Obj} (h : w.heap[q]? = some o) (hb : Below w.heap.size w w') : w'.heap[q]? = some o := blockK (Kq.of (S := fun _ => False) hb) h (fun h => h)
/-- A Kid's cells, where its slice lies. -/
theorem KsV.kid7 {w : World} {S : Nat → Prop} {ks : List Ex} {al : Option Addr} {cc : Nat} (h : KsV w S ks (.slice al ks.length cc)) (k : Nat) (x : Ex) (hk : ks[k]? = some x) : ∃ g o al1 cc1, al = some ⟨g, o, none⟩ ∧ exV w S x (.slice al1 x.kids.length cc1) ∧
    w.cell? ⟨g, o + k * 7, none⟩ = some (.int .i64 (x.op : Nat)) ∧ w.cell? ⟨g, o + k * 7 + 1, none⟩ = some (.string (T x.text)) ∧ w.cell? ⟨g, o + k * 7 + 2, none⟩ = some (.int .i64 0) ∧ w.cell? ⟨g, o + k * 7 + 3, none⟩ = some (.int .i64 x.num) ∧ w.cell? ⟨g, o + k * 7 + 4, none⟩ = some (.int .i64 (x.axis : Nat)) ∧ w.cell? ⟨g, o + k * 7 + 5, none⟩ = some (.int .i64 (x.test : Nat)) ∧ w.cell? ⟨g, o + k * 7 + 6, none⟩ = some (.slice al1 x.kids.length cc1) := by
  obtain ⟨g, o, ce, al1, cc1, ev, hg, hx1, hcells⟩ := h.kid k x hk
  cases ev
  exact ⟨g, o, al1, cc1, rfl, hx1, hcells 0 _ rfl, (Nat.add_assoc o (k * 7) 1) ▸ hcells 1 _ rfl, (Nat.add_assoc o (k * 7) 2) ▸ hcells 2 _ rfl, (Nat.add_assoc o (k * 7) 3) ▸ hcells 3 _ rfl, (Nat.add_assoc o (k * 7) 4) ▸ hcells 4 _ rfl, (Nat.add_assoc o (k * 7) 5) ▸ hcells 5 _ rfl, (Nat.add_assoc o (k * 7) 6) ▸ hcells 6 _ rfl⟩
set_option maxRecDepth 100000 in
set_option maxHeartbeats 1000000 in
theorem refAll_ok (n : Nat) (IH : ∀ m, m < n → RRight m) (ks : List Ex) (al : Option Addr) (cc : Nat) (w : World) (S : Nat → Prop) (hE : EnvG w) (hz : smallKs ks = true) (hx : KsV w S ks (.slice al ks.length cc)) (hl : ks.length ≤ 512) (h : ∀ (i : Nat) (k : Ex), ks[i]? = some k → ∃ m d c1 c2, m < n ∧ jRight flX m d c1 k = some (true, c2)) :
    Calls Tryz.prog 60 #[.slice al ks.length cc, .int .i64 0] w fun e w' => e = .returned (.bool true) ∧ Below w.heap.size w w' := by
  have HIH := hide IH
  have HE := hide hE
  have HZ := hide hz
  have HX := hide hx
  have HL := hide hl
  have HH := hide h
  clear IH hE hz hx hl h
  go_enter Tryz.func60, Tryz.ntmps60
  go_wp2_with fail
  go_loopw [5] (fun v wr => ∃ k : Nat, v = .int .i64 (k : Nat) ∧ k ≤ ks.length ∧ Hid (Below w.heap.size w wr)) (fun v _ => ks.length - (intOf v).toNat)
  case atStart => exact ⟨0, rfl, Nat.zero_le _, hide (Below.refl _ _)⟩
  case round =>
    obtain ⟨k, rfl, hk, HB⟩ := hrel
    by_cases hkn : k < ks.length
    · obtain ⟨x, hkx⟩ : ∃ x, ks[k]? = some x := ⟨_, List.getElem?_eq_getElem hkn⟩
      obtain ⟨m, d, c1, c2, hm, hj⟩ := unhide HH k x hkx
      obtain ⟨g, o, al1, cc1, ev, hx1, h0, h1, h2, h3, h4, h5, h6⟩ := ((unhide HX).below (unhide HB)).kid7 k x hkx
      subst ev
      have HC := hide ((unhide HIH) m hm d c1 c2 x al1 cc1 wr S ((unhide HE).below (unhide HB)) (small_at _ (unhide HZ) k x hkx) hx1 hj)
      have n1 : decide (k < ks.length) = true := decide_eq_true hkn
      have hl := unhide HL
      have w1 : IntKind.i64.wrap ((k : Int) + 1) = ((k + 1 : Nat) : Int) := by rw [wrap_small] <;> omega
      clear hx1 hj hm hkx hl
      go_wp2_with fail
      refine (unhide HC).mono ?_
      rintro e w2 ⟨rfl, hb2⟩
      have HB2 := hide (Below.then (unhide HB) hb2)
      clear hb2 HC h0 h1 h2 h3 h4 h5 h6
      go_wp2_with fail
      exact ⟨⟨k + 1, by go_num, by omega, HB2⟩, by show ks.length - ((k : Int) + 1).toNat < ks.length - (k : Int).toNat; omega⟩
    · have n1 : decide (k < ks.length) = false := decide_eq_false hkn
      go_wp2_with fail
      go_returns
      exact ⟨rfl, unhide HB⟩
set_option maxRecDepth 100000 in
set_option maxHeartbeats 2000000 in
theorem refStep_ok (n : Nat) (IH : ∀ m, m < n → RRight m) : RStep n := by
  intro d c c' x al cc w S hE hz hx ho hj
  have hl := jpart_len hj (by omega)
  obtain ⟨hf, _, mm, hmm, hja⟩ := jpart_inv hj (by omega)
  have hki := jall_inv hja
  have ht := hx.1
  have hzt := small_T hz
  have hzk := smallX.kids hz
  replace hx := hx.ks
  obtain ⟨o, t, m, a, k, ks⟩ := x
  replace ho : o = 23 := ho
  replace ht : okL t := ht
  replace hzt : (T t).size ≤ 4000 := hzt
  replace hzk : smallKs ks = true := hzk
  replace hx : KsV w S ks (.slice al ks.length cc) := hx
  replace hl : ks.length ≤ 512 := hl
  replace hki : ∀ (i : Nat) (x : Ex), ks[i]? = some x → ∃ m c1 c2, m < mm ∧ jRight flX m (d + 1) c1 x = some (true, c2) := hki
  have hfl : ((decide (a < 12) && testX k t) && restX [] m 0 0) = true := by
    have h : flX (.mk o t m a k ks) = true := hf
    rw [ho] at h
    exact h
  simp only [Bool.and_eq_true, decide_eq_true_eq] at hfl
  obtain ⟨⟨h12, htx⟩, hre⟩ := hfl
  have hm0 := (rest_inv hre).2.1
  have n0 : (((o : Nat) : Int) != 23) = false := by rw [bne, icast_eq (by omega)]; rfl
  have n0' : (((o : Nat) : Int) == 23) = true := icast_eq (by omega)
  have n1 : (m == 0) = true := by rw [hm0]; rfl
  have n2 : (T (axAt a)).toList.isEmpty = false := by
    rw [pempty_T (tab_asc.2.1 a h12)]
    exact axAt_ne a h12
  have HAX := hide (fun w => refAxisName_ok a w h12)
  have HAL := hide (fun w' hE' (hx' : KsV w' S ks (.slice al ks.length cc)) => refAll_ok mm (fun m hm => IH m (by omega)) ks al cc w' S hE' hzk hx' hl (fun i x hi => by
    obtain ⟨m, c1, c2, h1, h2⟩ := hki i x hi
    exact ⟨m, _, c1, c2, h1, h2⟩))
  have HTX := hide htx
  have HT := hide ht
  have HZT := hide hzt
  show Calls Tryz.prog 99 #[.agg #[.int .i64 (o : Nat), .string (T t), .int .i64 0, .int .i64 m, .int .i64 (a : Nat), .int .i64 (k : Nat), .slice al ks.length cc]] w fun e w' => e = .returned (.bool true) ∧ Below w.heap.size w w'
  clear hf hki hja hmm hl hz hzk hzt ht htx hre hm0 ho hj IH
  obtain ⟨W1, e1⟩ : ∃ W1, w.alloc (.cells #[.int .i64 (o : Nat), .string (T t), .int .i64 0, .int .i64 m, .int .i64 (a : Nat), .int .i64 (k : Nat), .slice al ks.length cc] 32) = W1 := ⟨_, rfl⟩
  have hb1 : Below w.heap.size w W1 := by rw [← e1]; exact (Below.refl _ _).alloc (Nat.le_refl _) _
  have hq1 : W1.heap[w.heap.size]? = some (.cells #[.int .i64 (o : Nat), .string (T t), .int .i64 0, .int .i64 m, .int .i64 (a : Nat), .int .i64 (k : Nat), .slice al ks.length cc] 32) := by rw [← e1]; exact palloc_new _ _
  have HB1 := hide hb1
  have HQ1 := hide hq1
  have HE1 := hide (hE.below hb1)
  have HX1 := hide (hx.below hb1)
  generalize hq : w.heap.size = q at hq1 HQ1
  obtain ⟨a0, a1, a2, a3, a4, a5, a6⟩ := var_cells hq1
  clear hb1 hq1
  have HC1 := hide ((unhide HAX) W1)
  clear hE hx h12
  go_enter Tryz.func99, Tryz.ntmps99
  go_wp2_with fail
  refine (unhide HC1).mono ?_
  rintro e w2 ⟨rfl, hb2⟩
  have HB2 := hide (Below.then (unhide HB1) hb2)
  have HQ2 := hide (blockB (unhide HQ1) hb2)
  have HE2 := hide ((unhide HE1).below hb2)
  have HX2 := hide ((unhide HX1).below hb2)
  clear a0 a1 a2 a3 a4 a5 a6 hb2
  obtain ⟨a0, a1, a2, a3, a4, a5, a6⟩ := var_cells (unhide HQ2)
  have HC2 := hide ((unhide HAL) w2 (unhide HE2) (unhide HX2))
  clear HC1
  go_wp2_with fail
  refine (unhide HC2).mono ?_
  rintro e w3 ⟨rfl, hb3⟩
  have HB3 := hide (Below.then (unhide HB2) hb3)
  have HQ3 := hide (blockB (unhide HQ2) hb3)
  have HE3 := hide ((unhide HE2).below hb3)
  have HX3 := hide ((unhide HX2).below hb3)
  clear a0 a1 a2 a3 a4 a5 a6 hb3
  obtain ⟨a0, a1, a2, a3, a4, a5, a6⟩ := var_cells (unhide HQ3)
  clear HC2
  have htx := unhide HTX
  clear HTX
  unfold testX at htx
  by_cases h0 : k = 0 ∨ k = 3 ∨ k = 4 ∨ k = 5
  · rw [if_pos h0] at htx
    have n4 : (T t).toList.isEmpty = true := by rw [pempty_T (unhide HT)]; exact htx
    have m0 : (((k : Nat) : Int) == 0 || (((k : Nat) : Int) == 3 || (((k : Nat) : Int) == 4 || ((k : Nat) : Int) == 5))) = true := by
      rcases h0 with rfl | rfl | rfl | rfl <;> rfl
    have m1 : (((k : Nat) : Int) == 0) = true ∨ (((k : Nat) : Int) == 0) = false ∧ (((k : Nat) : Int) == 3) = true ∨ (((k : Nat) : Int) == 0) = false ∧ (((k : Nat) : Int) == 3) = false ∧ (((k : Nat) : Int) == 4) = true ∨ (((k : Nat) : Int) == 0) = false ∧ (((k : Nat) : Int) == 3) = false ∧ (((k : Nat) : Int) == 4) = false ∧ (((k : Nat) : Int) == 5) = true := by
      rcases h0 with rfl | rfl | rfl | rfl
      · exact .inl rfl
      · exact .inr (.inl ⟨rfl, rfl⟩)
      · exact .inr (.inr (.inl ⟨rfl, rfl, rfl⟩))
      · exact .inr (.inr (.inr ⟨rfl, rfl, rfl, rfl⟩))
    clear h0 htx m0
    rcases m1 with p0 | ⟨p0, p3⟩ | ⟨p0, p3, p4⟩ | ⟨p0, p3, p4, p5⟩
    all_goals
      go_wp2_with fail
      go_returns
      exact ⟨rfl, by have h := unhide HB3; rw [hq] at h; exact h⟩
  · rw [if_neg h0] at htx
    have p0 : (((k : Nat) : Int) == 0) = false := icast_ne (by omega)
    have p3 : (((k : Nat) : Int) == 3) = false := icast_ne (by omega)
    have p4 : (((k : Nat) : Int) == 4) = false := icast_ne (by omega)
    have p5 : (((k : Nat) : Int) == 5) = false := icast_ne (by omega)
    by_cases h1 : k = 1
    · rw [if_pos h1] at htx
      have p1 : (((k : Nat) : Int) == 1) = true := icast_eq (by omega)
      have hC := refIsName_any (T t) w3 (by have := unhide HZT; omega) (unhide HE3).lex.env
      rw [nameB_T (unhide HT), htx] at hC
      have HC3 := hide hC
      clear hC htx h0 h1
      go_wp2_with fail
      refine (unhide HC3).mono ?_
      rintro e w4 ⟨rfl, hb4⟩
      have HB4 := hide (Below.then (unhide HB3) hb4)
      have HQ4 := hide (blockB (unhide HQ3) hb4)
      have HE4 := hide ((unhide HE3).below hb4)
      have HX4 := hide ((unhide HX3).below hb4)
      clear a0 a1 a2 a3 a4 a5 a6 hb4
      obtain ⟨a0, a1, a2, a3, a4, a5, a6⟩ := var_cells (unhide HQ4)
      clear HC3
      go_wp2_with fail
      go_returns
      exact ⟨rfl, by have h := unhide HB4; rw [hq] at h; exact h⟩
    · rw [if_neg h1] at htx
      have p1 : (((k : Nat) : Int) == 1) = false := icast_ne (by omega)
      by_cases h2 : k = 2
      · rw [if_pos h2] at htx
        have p2 : (((k : Nat) : Int) == 2) = true := icast_eq (by omega)
        have hC := refQname_any t w3 (unhide HT) (unhide HZT) (unhide HE3).lex.env
        rw [htx] at hC
        have HC3 := hide hC
        clear hC htx h0 h1 h2
        go_wp2_with fail
        refine (unhide HC3).mono ?_
        rintro e w4 ⟨rfl, hb4⟩
        have HB4 := hide (Below.then (unhide HB3) hb4)
        have HQ4 := hide (blockB (unhide HQ3) hb4)
        have HE4 := hide ((unhide HE3).below hb4)
        have HX4 := hide ((unhide HX3).below hb4)
        clear a0 a1 a2 a3 a4 a5 a6 hb4
        obtain ⟨a0, a1, a2, a3, a4, a5, a6⟩ := var_cells (unhide HQ4)
        clear HC3
        go_wp2_with fail
        go_returns
        exact ⟨rfl, by have h := unhide HB4; rw [hq] at h; exact h⟩
      · rw [if_neg h2] at htx
        have p2 : (((k : Nat) : Int) == 2) = false := icast_ne (by omega)
        by_cases h6 : k = 6
        · rw [if_pos h6] at htx
          have p6 : (((k : Nat) : Int) == 6) = true := icast_eq (by omega)
          have hC := refText_any t w3 (unhide HT) (unhide HZT) (unhide HE3).lex.env
          rw [htx] at hC
          have HC3 := hide hC
          clear hC htx h0 h1 h2 h6
          go_wp2_with fail
          refine (unhide HC3).mono ?_
          rintro e w4 ⟨rfl, hb4⟩
          have HB4 := hide (Below.then (unhide HB3) hb4)
          have HQ4 := hide (blockB (unhide HQ3) hb4)
          have HE4 := hide ((unhide HE3).below hb4)
          have HX4 := hide ((unhide HX3).below hb4)
          clear a0 a1 a2 a3 a4 a5 a6 hb4
          obtain ⟨a0, a1, a2, a3, a4, a5, a6⟩ := var_cells (unhide HQ4)
          clear HC3
          go_wp2_with fail
          go_returns
          exact ⟨rfl, by have h := unhide HB4; rw [hq] at h; exact h⟩
        · rw [if_neg h6] at htx
          cases htx
end Go.Proofs.YthkkfldmoflfaaaGreatDoor
/- The reference's path and right: of what is right they tell true. -/
namespace Go.Proofs.YthkkfldmoflfaaaGreatDoor
open Go.RowKit Go.Maps
theorem fl_bare {x : Ex} (h : flX x = true) (ho : x.op ≠ 16 ∧ x.op ≠ 17 ∧ x.op ≠ 18 ∧ x.op ≠ 19 ∧ x.op ≠ 23) : x.num = 0 ∧ x.axis = 0 ∧ x.test = 0 ∧ (false = true ∨ x.text = []) := by
  unfold flX at h
  rw [if_neg ho.1, if_neg ho.2.1, if_neg ho.2.2.1, if_neg ho.2.2.2.1, if_neg ho.2.2.2.2] at h
  have := rest_inv h
  exact ⟨this.2.1, this.2.2.1, this.2.2.2, .inr this.1⟩
/-- What the reference's path tells of a path that is right. -/
def RPath (n : Nat) : Prop := ∀ (d c c' : Nat) (x : Ex) (al : Option Addr) (cc : Nat) (w : World) (S : Nat → Prop), EnvG w → smallX x = true → exV w S x (.slice al x.kids.length cc) → x.kids.length ≤ 512 → (x.num = 0 ∧ x.axis = 0 ∧ x.test = 0 ∧ (false = true ∨ x.text = [])) → jPath flX n d c x.kids = some (true, c') → Calls Tryz.prog 65 #[exAgg x (.slice al x.kids.length cc)] w fun e w' => e = .returned (.bool true) ∧ Below w.heap.size w w'
set_option maxRecDepth 100000 in
set_option maxHeartbeats 2000000 in
theorem refPath_ok (n : Nat) (IH : ∀ m, m < n → RRight m) (IS : ∀ m, m < n → RStep m) : RPath n := by
  intro d c c' x al cc w S hE hz hx hl hba hj
  obtain ⟨k0, rest, hks, hbeg, hst⟩ := jpath_inv hj
  have HBA := hide (fun w => refBare_ok x al cc false w hx.1 hba)
  have hzk := smallX.kids hz
  replace hx := hx.ks
  obtain ⟨o, t, m, a, k, ks⟩ := x
  replace hks : ks = k0 :: rest := hks
  replace hzk : smallKs ks = true := hzk
  replace hx : KsV w S ks (.slice al ks.length cc) := hx
  replace hl : ks.length ≤ 512 := hl
  replace HBA : Hid (∀ w, Calls Tryz.prog 59 #[.agg #[.int .i64 (o : Nat), .string (T t), .int .i64 0, .int .i64 m, .int .i64 (a : Nat), .int .i64 (k : Nat), .slice al ks.length cc], .bool false] w fun e w' => e = .returned (.bool true) ∧ Below w.heap.size w w') := HBA
  have hN : ks.length = rest.length + 1 := by rw [hks]; rfl
  have n0 : (((ks.length : Nat) : Int) == 0) = false := icast_ne (by omega)
  have HST := hide hst
  have HBEG := hide hbeg
  have HKS := hide hks
  have HN := hide hN
  have HZ := hide hzk
  have HL := hide hl
  have HIH := hide IH
  have HIS := hide IS
  have hk0 : ks[0]? = some k0 := by rw [hks]; rfl
  have HK0 := hide hk0
  show Calls Tryz.prog 65 #[.agg #[.int .i64 (o : Nat), .string (T t), .int .i64 0, .int .i64 m, .int .i64 (a : Nat), .int .i64 (k : Nat), .slice al ks.length cc]] w fun e w' => e = .returned (.bool true) ∧ Below w.heap.size w w'
  clear hbeg hst hks hN hzk hl IH IS hba hj hz hk0
  obtain ⟨W1, e1⟩ : ∃ W1, w.alloc (.cells #[.int .i64 (o : Nat), .string (T t), .int .i64 0, .int .i64 m, .int .i64 (a : Nat), .int .i64 (k : Nat), .slice al ks.length cc] 32) = W1 := ⟨_, rfl⟩
  have hb1 : Below w.heap.size w W1 := by rw [← e1]; exact (Below.refl _ _).alloc (Nat.le_refl _) _
  have hq1 : W1.heap[w.heap.size]? = some (.cells #[.int .i64 (o : Nat), .string (T t), .int .i64 0, .int .i64 m, .int .i64 (a : Nat), .int .i64 (k : Nat), .slice al ks.length cc] 32) := by rw [← e1]; exact palloc_new _ _
  have HB1 := hide hb1
  have HQ1 := hide hq1
  have HE1 := hide (hE.below hb1)
  have HX1 := hide (hx.below hb1)
  generalize hq : w.heap.size = q at hq1 HQ1
  obtain ⟨a0, a1, a2, a3, a4, a5, a6⟩ := var_cells hq1
  clear hb1 hq1
  have HC1 := hide ((unhide HBA) W1)
  clear hE hx
  go_enter Tryz.func65, Tryz.ntmps65
  go_wp2_with fail
  refine (unhide HC1).mono ?_
  rintro e w2 ⟨rfl, hb2⟩
  have HB2 := hide (Below.then (unhide HB1) hb2)
  have HQ2 := hide (blockB (unhide HQ1) hb2)
  have HE2 := hide ((unhide HE1).below hb2)
  have HX2 := hide ((unhide HX1).below hb2)
  clear a0 a1 a2 a3 a4 a5 a6 hb2
  obtain ⟨a0, a1, a2, a3, a4, a5, a6⟩ := var_cells (unhide HQ2)
  clear HC1 HBA
  have h1N : (1 : Nat) ≤ ks.length := by have := unhide HN; omega
  go_upto_block 1 with fail
  go_loopw [4] (fun v wr => ∃ j : Nat, v = .int .i64 (j : Nat) ∧ 1 ≤ j ∧ j ≤ ks.length ∧ Hid (Below w.heap.size w wr) ∧ Hid (Below w2.heap.size w2 wr)) (fun v _ => ks.length - (intOf v).toNat)
  case atStart => exact ⟨1, rfl, Nat.le_refl _, h1N, HB2, hide (Below.refl _ _)⟩
  case round =>
    clear a0 a1 a2 a3 a4 a5 a6
    obtain ⟨j, rfl, hj1, hjn, HB, HB3⟩ := hrel
    have hqr := blockB (unhide HQ2) (unhide HB3)
    obtain ⟨a0, a1, a2, a3, a4, a5, a6⟩ := var_cells hqr
    have HQR := hide hqr
    have hxr := (unhide HX2).below (unhide HB3)
    have hEr := (unhide HE2).below (unhide HB3)
    clear hqr
    by_cases hkn : j < ks.length
    · obtain ⟨x, hkx⟩ : ∃ x, ks[j]? = some x := ⟨_, List.getElem?_eq_getElem hkn⟩
      have hrx : rest[j - 1]? = some x := by
        have h := hkx
        rw [unhide HKS, show j = (j - 1) + 1 by omega, List.getElem?_cons_succ] at h
        exact h
      obtain ⟨h23, mm, c1, c2, hm, hjp⟩ := unhide HST (j - 1) x hrx
      obtain ⟨g, o', al1, cc1, ev, hx1, h0, h1, h2, h3, h4, h5, h6⟩ := hxr.kid7 j x hkx
      subst ev
      have HC := hide ((unhide HIS) mm hm d c1 c2 x al1 cc1 wr S hEr (small_at _ (unhide HZ) j x hkx) hx1 h23 hjp)
      have n1 : decide (j < ks.length) = true := decide_eq_true hkn
      have hl := unhide HL
      have w1 : IntKind.i64.wrap ((j : Int) + 1) = ((j + 1 : Nat) : Int) := by rw [wrap_small] <;> omega
      clear hx1 hm hkx hl hrx h23 hxr hEr hjp
      go_wp2_with fail
      refine (unhide HC).mono ?_
      rintro e w5 ⟨rfl, hb5⟩
      have HB5 := hide (Below.then (unhide HB) hb5)
      have HB6 := hide (Below.then (unhide HB3) hb5)
      clear hb5 HC h0 h1 h2 h3 h4 h5 h6 a0 a1 a2 a3 a4 a5 a6
      go_wp2_with fail
      exact ⟨⟨j + 1, by go_num, by omega, by omega, HB5, HB6⟩, by show ks.length - ((j : Int) + 1).toNat < ks.length - (j : Int).toNat; omega⟩
    · have n1 : decide (j < ks.length) = false := decide_eq_false hkn
      obtain ⟨g, o', al1, cc1, ev, hx1, h0, h1, h2, h3, h4, h5, h6⟩ := hxr.kid7 0 k0 (unhide HK0)
      subst ev
      rw [Nat.zero_mul, Nat.add_zero] at h0 h1 h2 h3 h4 h5 h6
      obtain ⟨W5, e5⟩ : ∃ W5, wr.alloc (oneB k0 (.slice al1 k0.kids.length cc1)) = W5 := ⟨_, rfl⟩
      have hb5 : Below wr.heap.size wr W5 := by rw [← e5]; exact (Below.refl _ _).alloc (Nat.le_refl _) _
      have hq5 : W5.heap[wr.heap.size]? = some (oneB k0 (.slice al1 k0.kids.length cc1)) := by rw [← e5]; exact palloc_new _ _
      have hx5 := hx1.below hb5
      have HX5 := hide hx5
      have HE5 := hide (hEr.below hb5)
      have HB5 := hide (Below.then (unhide HB) hb5)
      have hzk0 := small_at _ (unhide HZ) 0 k0 (unhide HK0)
      have HZ0 := hide hzk0
      have n4 : 0 < ks.length := h1N
      have hbeg := unhide HBEG
      generalize hq2 : wr.heap.size = q2 at hq5
      have HQ5 := hide hq5
      obtain ⟨b0, b1, b2, b3, b4, b5, b6⟩ := var_cells hq5
      clear hx1 hxr hEr hb5 hq5 hzk0
      rcases hbeg with ⟨hop, hfl, hkk⟩ | ⟨hr, hop, hfl, hkk⟩ | ⟨hr, hop0, hop, mm, c1, c2, hm, hjr⟩
      · have HC := hide (refBare_ok k0 al1 cc1 false W5 hx5.1 (fl_bare hfl (by omega)))
        have p22 : (((k0.op : Nat) : Int) == 22) = true := icast_eq (by omega)
        have n5 : (((k0.kids.length : Nat) : Int) == 0) = true := icast_eq (by rw [hkk]; rfl)
        clear hfl hop hkk hx5
        go_wp2_with fail
        refine (unhide HC).mono ?_
        rintro e w6 ⟨rfl, hb6⟩
        have HB6 := hide (Below.then (unhide HB5) hb6)
        clear HC hb6 h0 h1 h2 h3 h4 h5 h6 a0 a1 a2 a3 a4 a5 a6 b0 b1 b2 b3 b4 b5 b6
        go_wp2_with fail
        go_returns
        exact ⟨rfl, by have h := unhide HB6; rw [hq] at h; exact h⟩
      · have HC := hide (refBare_ok k0 al1 cc1 false W5 hx5.1 (fl_bare hfl (by omega)))
        have p22 : (((k0.op : Nat) : Int) == 22) = false := icast_ne (by omega)
        have p0 : (((k0.op : Nat) : Int) == 0) = true := icast_eq (by omega)
        have n5 : (((k0.kids.length : Nat) : Int) == 0) = true := icast_eq (by rw [hkk]; rfl)
        have hrl : 0 < rest.length := List.length_pos_iff.2 hr
        have n6 : decide (1 < ks.length) = true := decide_eq_true (by have := unhide HN; omega)
        have n7 : 1 < ks.length := by have := unhide HN; omega
        clear hfl hop hkk hx5 hrl
        go_wp2_with fail
        refine (unhide HC).mono ?_
        rintro e w6 ⟨rfl, hb6⟩
        have HB6 := hide (Below.then (unhide HB5) hb6)
        clear HC hb6 h0 h1 h2 h3 h4 h5 h6 a0 a1 a2 a3 a4 a5 a6 b0 b1 b2 b3 b4 b5 b6
        go_wp2_with fail
        go_returns
        exact ⟨rfl, by have h := unhide HB6; rw [hq] at h; exact h⟩
      · have HC := hide ((unhide HIH) mm hm d c1 c2 k0 al1 cc1 W5 S (unhide HE5) (unhide HZ0) hx5 hjr)
        have p22 : (((k0.op : Nat) : Int) == 22) = false := icast_ne (by omega)
        have p0 : (((k0.op : Nat) : Int) == 0) = false := icast_ne (by omega)
        have hrl : 0 < rest.length := List.length_pos_iff.2 hr
        have n6 : decide (1 < ks.length) = true := decide_eq_true (by have := unhide HN; omega)
        have n7 : 1 < ks.length := by have := unhide HN; omega
        clear hop0 hop hx5 hrl hm hjr
        go_wp2_with fail
        refine (unhide HC).mono ?_
        rintro e w6 ⟨rfl, hb6⟩
        have HB6 := hide (Below.then (unhide HB5) hb6)
        clear HC hb6 h0 h1 h2 h3 h4 h5 h6 a0 a1 a2 a3 a4 a5 a6 b0 b1 b2 b3 b4 b5 b6
        go_wp2_with fail
        go_returns
        exact ⟨rfl, by have h := unhide HB6; rw [hq] at h; exact h⟩
end Go.Proofs.YthkkfldmoflfaaaGreatDoor
