/- Several texts, laid as one. -/
import Derived.Test.YthkkfldmoflfaaaGreatDoorParB3
import Derived.Test.YthkkfldmoflfaaaGreatDoorGah
import Derived.Test.YthkkfldmoflfaaaGreatDoorGbe
import Derived.Deep.RegionWith
import Derived.Deep.DeepCutAuto
import Derived.Test.YthkkfldmoflfaaaGreatDoorGbf
/- xparse's writer: an operator between operands that need no ( ). -/
namespace Go.Proofs.YthkkfldmoflfaaaGreatDoor
open Go.RowKit Go.Maps
theorem signX_asc : ∀ o, o < 24 → (signX o).all (fun c => decide (32 ≤ c) && decide (c < 128)) = true ∧ (signX o).length ≤ 3 := by decide
/-- What an operator is written as, between two texts. -/
def opL (o : Nat) : List UInt8 := 32 :: (tx (signX o) ++ [32])
theorem opL_len (o : Nat) (h : o < 24) : (opL o).length ≤ 14 ∧ (T (signX o)).size ≤ 12 := by
  have h1 := (signX_asc o h).2
  have h2 := tx_len4 (signX o)
  unfold opL
  rw [T_size]
  simp only [List.length_cons, List.length_append, List.length_nil]
  omega
theorem opL_bytes (o : Nat) : (⟨#[32]⟩ : ByteArray) ++ T (signX o) ++ (⟨#[32]⟩ : ByteArray) = ⟨(opL o).toArray⟩ := by
  apply ByteArray.ext
  apply Array.toList_inj.1
  rw [ByteArray.data_append, ByteArray.data_append]
  simp only [Array.toList_append]
  rw [show (T (signX o)).data.toList = tx (signX o) from T_data _]
  rfl
set_option maxRecDepth 100000 in
set_option maxHeartbeats 2000000 in
theorem woperator_ok (Wb : World) (hE : EnvG Wb) (x a c : Ex) (la lc : List UInt8) (hop : x.op < 24) (hm : ∃ k, k < 14 ∧ (opAt k).2.1 = x.op) (hk : x.kids = [a, c]) (hA : WOpd Wb a (gramX x.op) la) (hC : WOpd Wb c (gramX x.op + 1) lc) (hg : gramX x.op ≤ 100)
    (b : Nat) (bs : List UInt8) (al : Option Addr) (cc : Nat) (w : World) (S : Nat → Prop) (hw : WAt Wb b bs w) (hx : exV Wb S x (.slice al x.kids.length cc)) (hbs : bs.length + (la ++ (opL x.op ++ lc)).length ≤ 10000) :
    Calls Tryz.prog 58 #[.pointer (some ⟨b, 0, none⟩), exAgg x (.slice al x.kids.length cc)] w (outW Wb b w (bs ++ (la ++ (opL x.op ++ lc)))) := by
  obtain ⟨h1, h2, h3, h4, h5⟩ := wvar hw x (.slice al x.kids.length cc)
  obtain ⟨W1, e1⟩ : ∃ W1, w.alloc (oneB x (.slice al x.kids.length cc)) = W1 := ⟨_, rfl⟩
  rw [e1] at h1 h2 h3 h4
  have HKA := hide (hx.ks.kid7 0 a (by rw [hk]; rfl))
  have HKC := hide (hx.ks.kid7 1 c (by rw [hk]; rfl))
  obtain ⟨a0, a1, a2, a3, a4, a5, a6⟩ := var_cells h2
  have HW1 := hide h1
  have HB1 := hide h3
  have HK1 := hide h4
  have HQ1 := hide h2
  have HNE := hide h5
  have n0 : 0 < x.kids.length := by rw [hk]; exact Nat.succ_pos _
  have n1 : 1 < x.kids.length := by rw [hk]; exact Nat.lt_succ_self _
  have hlen : x.kids.length = 2 := by rw [hk]; rfl
  have HS := hide (psignOf_any x.op W1 hop hm (hE.below h1.bel))
  have HG := hide (fun w (hw : WAt Wb b bs w) => pgrammarOf_any x.op w hop (hE.below hw.bel))
  have HOA := hide hA
  have HOC := hide hC
  have HBS := hide hbs
  have hol := opL_len x.op hop
  have HOL := hide hol
  have HOB := hide (opL_bytes x.op)
  have w9 : IntKind.i64.wrap (((gramX x.op : Nat) : Int) + 1) = ((gramX x.op + 1 : Nat) : Int) := by rw [wrap_small] <;> omega
  have hz1 : (9223372036854775807 < 1 + (T (signX x.op)).size) = False := by simp only [eq_iff_iff, iff_false]; omega
  have hz2 : (9223372036854775807 < 1 + (T (signX x.op)).size + 1) = False := by simp only [eq_iff_iff, iff_false]; omega
  have hz3 : (⟨#[32]⟩ : ByteArray).size = 1 := rfl
  have hz4 : (T (signX x.op)).size ≤ 12 := hol.2
  clear h1 h2 h3 h4 h5 hw hx hbs hA hC hE hop hm hk hol hlen
  generalize hq : w.heap.size = q at *
  generalize hsg : T (signX x.op) = sg at *
  generalize hgg : gramX x.op = gg at *
  go_enter Tryz.func58, Tryz.ntmps58
  go_wp2_with fail
  refine (unhide HS).mono ?_
  rintro e w2 ⟨rfl, hb2⟩
  have HW2 := hide ((unhide HW1).below hb2)
  have HB2 := hide ((unhide HB1).trans (hb2.mono ((unhide HW1).bel.size)))
  have HK2 := hide ((unhide HK1).trans (KeptW.of hb2))
  have HQ2 := hide (blockB (unhide HQ1) hb2)
  have HG2 := hide (unhide HG w2 (unhide HW2))
  clear hb2 HS a0 a1 a2 a3 a4 a5 a6
  obtain ⟨a0, a1, a2, a3, a4, a5, a6⟩ := var_cells (unhide HQ2)
  go_wp2_with fail
  refine (unhide HG2).mono ?_
  rintro e w3 ⟨rfl, hb3⟩
  have HW3 := hide ((unhide HW2).below hb3)
  have HB3 := hide ((unhide HB2).trans (hb3.mono ((unhide HW2).bel.size)))
  have HK3 := hide ((unhide HK2).trans (KeptW.of hb3))
  have HQ3 := hide (blockB (unhide HQ2) hb3)
  clear hb3 HG HG2 a0 a1 a2 a3 a4 a5 a6
  obtain ⟨a0, a1, a2, a3, a4, a5, a6⟩ := var_cells (unhide HQ3)
  obtain ⟨g, o, al1, cc1, ev, hx1, k0, k1, k2, k3, k4, k5, k6⟩ := unhide HKA
  subst ev
  have HC1 := hide (unhide HOA b bs al1 cc1 w3 S (unhide HW3) hx1 (by have := unhide HBS; simp only [List.length_append] at this; omega))
  rw [Nat.zero_mul, Nat.add_zero] at k0 k1 k2 k3 k4 k5 k6
  have hb := (unhide HW3).bel
  replace k0 := pkept hb k0
  replace k1 := pkept hb k1
  replace k2 := pkept hb k2
  replace k3 := pkept hb k3
  replace k4 := pkept hb k4
  replace k5 := pkept hb k5
  replace k6 := pkept hb k6
  clear hb hx1 HOA
  go_wp2_with fail
  refine (unhide HC1).mono ?_
  rintro e w4 ⟨rfl, r1, r2, r3⟩
  have HW4 : Hid (WAt Wb b (bs ++ la) w4) := hide ⟨r1, (unhide HW3).bel.trans r2⟩
  have HB4 := hide ((unhide HB3).trans r2)
  have HK4 := hide ((unhide HK3).trans r3)
  have HQ4 := hide (r3.var (unhide HQ3) (by exact unhide HNE))
  have HP := hide (wput Wb b (bs ++ la) (opL x.op) _ w4 (unhide HW4) (unhide HOB) (by have := unhide HBS; simp only [List.length_append] at this ⊢; omega))
  clear r1 r2 r3 HC1 a0 a1 a2 a3 a4 a5 a6 k0 k1 k2 k3 k4 k5 k6
  obtain ⟨a0, a1, a2, a3, a4, a5, a6⟩ := var_cells (unhide HQ4)
  go_wp2_with fail
  refine (unhide HP).mono ?_
  rintro e w5 ⟨⟨n, rfl⟩, r1, r2, r3⟩
  have HW5 : Hid (WAt Wb b (bs ++ la ++ opL x.op) w5) := hide ⟨r1, (unhide HW4).bel.trans r2⟩
  have HB5 := hide ((unhide HB4).trans r2)
  have HK5 := hide ((unhide HK4).trans r3)
  have HQ5 := hide (r3.var (unhide HQ4) (by exact unhide HNE))
  clear r1 r2 r3 HP a0 a1 a2 a3 a4 a5 a6
  obtain ⟨a0, a1, a2, a3, a4, a5, a6⟩ := var_cells (unhide HQ5)
  obtain ⟨g', o', al2, cc2, ev, hx2, k0, k1, k2, k3, k4, k5, k6⟩ := unhide HKC
  cases ev
  have HC2 := hide (unhide HOC b (bs ++ la ++ opL x.op) al2 cc2 w5 S (unhide HW5) hx2 (by have := unhide HBS; simp only [List.length_append] at this ⊢; omega))
  rw [Nat.one_mul] at k0 k1 k2 k3 k4 k5 k6
  have hb := (unhide HW5).bel
  replace k0 := pkept hb k0
  replace k1 := pkept hb k1
  replace k2 := pkept hb k2
  replace k3 := pkept hb k3
  replace k4 := pkept hb k4
  replace k5 := pkept hb k5
  replace k6 := pkept hb k6
  clear hb hx2 HOC
  go_wp2_with fail
  refine (unhide HC2).mono ?_
  rintro e w6 ⟨rfl, r1, r2, r3⟩
  have HR1 := hide r1
  have HB6 := hide ((unhide HB5).trans r2)
  have HK6 := hide ((unhide HK5).trans r3)
  clear r1 r2 r3 HC2 a0 a1 a2 a3 a4 a5 a6 k0 k1 k2 k3 k4 k5 k6
  go_wp2_with fail
  go_end0
  refine ⟨rfl, ?_, unhide HB6, unhide HK6⟩
  have := unhide HR1
  rw [List.append_assoc, List.append_assoc] at this
  exact this
set_option maxRecDepth 100000 in
set_option maxHeartbeats 2000000 in
/-- An operator between two operands. -/
theorem woper_ok (Wb : World) (hE : EnvG Wb) (x a c : Ex) (la lc : List UInt8) (hop : x.op < 24) (hm : ∃ k, k < 14 ∧ (opAt k).2.1 = x.op) (hno : x.op < 14 ∨ x.op = 15) (hk : x.kids = [a, c]) (hA : WOpd Wb a (gramX x.op) la) (hC : WOpd Wb c (gramX x.op + 1) lc) (hg : gramX x.op ≤ 100) : WExpr Wb x (la ++ (opL x.op ++ lc)) := by
  intro b bs al cc w S hw hx hbs
  obtain ⟨h1, h2, h3, h4, h5⟩ := wvar hw x (.slice al x.kids.length cc)
  obtain ⟨W1, e1⟩ : ∃ W1, w.alloc (oneB x (.slice al x.kids.length cc)) = W1 := ⟨_, rfl⟩
  rw [e1] at h1 h2 h3 h4
  obtain ⟨a0, a1, a2, a3, a4, a5, a6⟩ := var_cells h2
  have HB1 := hide h3
  have HK1 := hide h4
  have HC := hide (woperator_ok Wb hE x a c la lc hop hm hk hA hC hg b bs al cc W1 S h1 hx hbs)
  have n14 : (((x.op : Nat) : Int) == 14) = false := icast_ne (by omega)
  have n16 : (((x.op : Nat) : Int) == 16) = false := icast_ne (by omega)
  have n17 : (((x.op : Nat) : Int) == 17) = false := icast_ne (by omega)
  have n18 : (((x.op : Nat) : Int) == 18) = false := icast_ne (by omega)
  have n19 : (((x.op : Nat) : Int) == 19) = false := icast_ne (by omega)
  have n20 : (((x.op : Nat) : Int) == 20) = false := icast_ne (by omega)
  have n21 : (((x.op : Nat) : Int) == 21) = false := icast_ne (by omega)
  clear h1 h2 h3 h4 h5 hw hx hbs hA hC hE hop hm hk hno hg
  go_enter Tryz.func29, Tryz.ntmps29
  go_wp2_with fail
  refine (unhide HC).mono ?_
  rintro e w3 ⟨rfl, r1, r2, r3⟩
  have HR1 := hide r1
  have HB3 := hide ((unhide HB1).trans r2)
  have HK3 := hide ((unhide HK1).trans r3)
  clear r1 r2 r3 HC
  go_wp2_with fail
  go_end0
  exact ⟨rfl, unhide HR1, unhide HB3, unhide HK3⟩
end Go.Proofs.YthkkfldmoflfaaaGreatDoor
/- A number as a text: xnum's Text. -/
namespace Go.Proofs.YthkkfldmoflfaaaGreatDoor
open Go.RowKit
end Go.Proofs.YthkkfldmoflfaaaGreatDoor
/- A number as a text: xnum's Text. -/
namespace Go.Proofs.YthkkfldmoflfaaaGreatDoor
open Go.RowKit
theorem app_nil (D : ByteArray) : D ++ (⟨#[]⟩ : ByteArray) = D := by
  apply ByteArray.ext
  rw [ByteArray.data_append]
  simp
theorem nil_app (D : ByteArray) : (⟨#[]⟩ : ByteArray) ++ D = D := by
  apply ByteArray.ext
  rw [ByteArray.data_append]
  simp
set_option maxRecDepth 100000 in
set_option maxHeartbeats 2000000 in
theorem text_fin (v : Int) (w : World) (htab : Lib.TabIs Tryz.prog w "internal/strconv.uint64pow10" .u64 Lib.pow10Tab) (h1 : -1000000000000000000 ≤ v) (h2 : v ≤ 1000000000000000000) :
    Calls Tryz.prog 52 #[.agg #[.int .i64 0, .int .i64 v]] w fun e w' => e = .returned (.string ⟨(textL (decide (v < 0)) (v.natAbs / 1000000) (v.natAbs % 1000000)).toArray⟩) ∧ Below w.heap.size w w' := by
  have HT := hide htab
  clear htab
  have HV := hide (fun w => sizeOf_any v w (by omega) (by omega))
  have HQ := hide (fun w => (quotient_any v.natAbs 1000000 w (by omega) (by decide) (by decide)).mono (R' := fun e w' => e = .returned (.agg #[.int .u64 ((v.natAbs / 1000000 : Nat) : Int), .int .u64 ((v.natAbs % 1000000 : Nat) : Int)]) ∧ Below w.heap.size w w') (by rintro e w' ⟨rfl, rfl⟩; exact ⟨rfl, by (repeat first | exact Below.refl _ _ | assumption | refine Below.drew ?_ | refine Below.alloc ?_ (by simp <;> omega) _ | refine Below.setCell ?_ (by simp <;> omega) _)⟩))
  have hq : v.natAbs / 1000000 < 18446744073709551616 := by omega
  have hm : v.natAbs % 1000000 < 1000000 := by omega
  have HB := hide (show belowB 0 v = decide (v < 0) by simp [belowB])
  have hqs : v.natAbs / 1000000 < 10 ^ 13 := by omega
  generalize v.natAbs / 1000000 = q at *
  generalize v.natAbs % 1000000 = m at *
  generalize v.natAbs = va at *
  have hds : (⟨(Lib.decDigits q).toArray⟩ : ByteArray).size ≤ 1000 := by
    have := dec_len 12 q hqs
    show (Lib.decDigits q).toArray.size ≤ _
    simp
    omega
  have hps : (⟨(placesL m).toArray⟩ : ByteArray).size ≤ 1000 := by
    have := (places_all m hm).2.1
    show (placesL m).toArray.size ≤ _
    simp
    omega
  have hPl : (⟨(placesL m).toArray⟩ : ByteArray).toList = placesL m := by rw [ByteArray.toList_eq]
  have HF := hide (fun w h => formatUint_any q hq w h)
  have HPO := hide (fun w h => placesOf_any m w (by omega) h)
  have HTX := hide (show (⟨(textL (decide (v < 0)) q m).toArray⟩ : ByteArray) = (if v < 0 then (⟨#[45]⟩ : ByteArray) else ⟨#[]⟩) ++ ((⟨(Lib.decDigits q).toArray⟩ : ByteArray) ++ (if placesL m = [] then (⟨#[]⟩ : ByteArray) else ⟨#[46]⟩ ++ ⟨(placesL m).toArray⟩)) by
    apply ByteArray.ext
    unfold textL bodyL tailL
    by_cases h3 : v < 0 <;> by_cases h4 : placesL m = [] <;> simp [h3, h4])
  by_cases h4 : placesL m = []
  · rw [if_pos h4] at HTX
    rw [h4] at hPl HPO
    clear h4
    generalize (⟨(Lib.decDigits q).toArray⟩ : ByteArray) = D at *
    generalize (⟨(textL (decide (v < 0)) q m).toArray⟩ : ByteArray) = X at *
    go_enter Tryz.func52, Tryz.ntmps52
    go_wp2_with fail
    refine (unhide HV _).mono ?_
    rintro e w1 ⟨rfl, rfl⟩
    go_wp2_with fail
    refine (unhide HQ _).mono ?_
    rintro e w1 ⟨rfl, hb1⟩
    have hN : NumAt w1 w.heap.size 0 v := NumAt.below (w := (w.alloc (.cells #[.int .i64 0, .int .i64 v] 27))) ⟨by simp [go_sem], by simp [go_sem], by simp [go_sem], by simp [go_sem]⟩ hb1
    have hb01 : Below w.heap.size w w1 := Below.then (by (repeat first | exact Below.refl _ _ | assumption | refine Below.drew ?_ | refine Below.alloc ?_ (by simp <;> omega) _ | refine Below.setCell ?_ (by simp <;> omega) _)) hb1
    clear hb1
    go_wp2_with fail
    have hX : Below w.heap.size w (w1.alloc (.cells #[.int .u64 (q : Int), .int .u64 (m : Int)] 126)) := hb01.alloc hb01.size _
    have hNX : NumAt (w1.alloc (.cells #[.int .u64 (q : Int), .int .u64 (m : Int)] 126)) w.heap.size 0 v := hN.below (by (repeat first | exact Below.refl _ _ | assumption | refine Below.drew ?_ | refine Below.alloc ?_ (by simp <;> omega) _ | refine Below.setCell ?_ (by simp <;> omega) _))
    have d1 : (w1.alloc (.cells #[.int .u64 (q : Int), .int .u64 (m : Int)] 126)).cell? ⟨w1.heap.size, 1, none⟩ = some (.int .u64 (m : Int)) := by simp [go_sem]
    refine (unhide HF _ (tab_below (unhide HT) hX)).mono ?_
    rintro e w2 ⟨rfl, hb2⟩
    have hb02 := Below.then hX hb2
    have hN2 := hNX.below hb2
    have d2 := kept_cell hb2 d1
    clear hX hNX d1 hb2 hb01 hN
    go_wp2_with fail
    refine (unhide HPO _ (tab_below (unhide HT) hb02)).mono ?_
    rintro e w3 ⟨rfl, hb3⟩
    have hb03 := Below.then hb02 hb3
    obtain ⟨a0, a1, _, _⟩ := hN2.below hb3
    clear hb02 hb3 hN2 d2 HF HPO HT HV HQ
    by_cases hv : v < 0
    · have hbv : belowB 0 v = true := by rw [unhide HB]; exact decide_eq_true hv
      rw [if_pos hv] at HTX
      go_wp2_with (go_at_call 91; refine (isBelow_any _ _ _).mono ?_; rintro e w' ⟨rfl, rfl⟩; rw [hbv])
      go_ret
      exact ⟨by rw [unhide HTX]; rw [app_nil]; rfl, hb03.alloc hb03.size _⟩
    · have hbv : belowB 0 v = false := by rw [unhide HB]; exact decide_eq_false hv
      rw [if_neg hv] at HTX
      go_wp2_with (go_at_call 91; refine (isBelow_any _ _ _).mono ?_; rintro e w' ⟨rfl, rfl⟩; rw [hbv])
      go_ret
      exact ⟨by rw [unhide HTX]; rw [app_nil, nil_app]; rfl, hb03.alloc hb03.size _⟩
  · rw [if_neg h4] at HTX
    have hne : (⟨(placesL m).toArray⟩ : ByteArray).toList.isEmpty = false := by rw [hPl]; simpa using h4
    clear h4 hPl
    generalize (⟨(placesL m).toArray⟩ : ByteArray) = P at *
    generalize (⟨(Lib.decDigits q).toArray⟩ : ByteArray) = D at *
    generalize (⟨(textL (decide (v < 0)) q m).toArray⟩ : ByteArray) = X at *
    go_enter Tryz.func52, Tryz.ntmps52
    go_wp2_with fail
    refine (unhide HV _).mono ?_
    rintro e w1 ⟨rfl, rfl⟩
    go_wp2_with fail
    refine (unhide HQ _).mono ?_
    rintro e w1 ⟨rfl, hb1⟩
    have hN : NumAt w1 w.heap.size 0 v := NumAt.below (w := (w.alloc (.cells #[.int .i64 0, .int .i64 v] 27))) ⟨by simp [go_sem], by simp [go_sem], by simp [go_sem], by simp [go_sem]⟩ hb1
    have hb01 : Below w.heap.size w w1 := Below.then (by (repeat first | exact Below.refl _ _ | assumption | refine Below.drew ?_ | refine Below.alloc ?_ (by simp <;> omega) _ | refine Below.setCell ?_ (by simp <;> omega) _)) hb1
    clear hb1
    go_wp2_with fail
    have hX : Below w.heap.size w (w1.alloc (.cells #[.int .u64 (q : Int), .int .u64 (m : Int)] 126)) := hb01.alloc hb01.size _
    have hNX : NumAt (w1.alloc (.cells #[.int .u64 (q : Int), .int .u64 (m : Int)] 126)) w.heap.size 0 v := hN.below (by (repeat first | exact Below.refl _ _ | assumption | refine Below.drew ?_ | refine Below.alloc ?_ (by simp <;> omega) _ | refine Below.setCell ?_ (by simp <;> omega) _))
    have d1 : (w1.alloc (.cells #[.int .u64 (q : Int), .int .u64 (m : Int)] 126)).cell? ⟨w1.heap.size, 1, none⟩ = some (.int .u64 (m : Int)) := by simp [go_sem]
    refine (unhide HF _ (tab_below (unhide HT) hX)).mono ?_
    rintro e w2 ⟨rfl, hb2⟩
    have hb02 := Below.then hX hb2
    have hN2 := hNX.below hb2
    have d2 := kept_cell hb2 d1
    clear hX hNX d1 hb2 hb01 hN
    go_wp2_with fail
    refine (unhide HPO _ (tab_below (unhide HT) hb02)).mono ?_
    rintro e w3 ⟨rfl, hb3⟩
    have hb03 := Below.then hb02 hb3
    obtain ⟨a0, a1, _, _⟩ := hN2.below hb3
    clear hb02 hb3 hN2 d2 HF HPO HT HV HQ
    by_cases hv : v < 0
    · have hbv : belowB 0 v = true := by rw [unhide HB]; exact decide_eq_true hv
      rw [if_pos hv] at HTX
      go_wp2_with (go_at_call 91; refine (isBelow_any _ _ _).mono ?_; rintro e w' ⟨rfl, rfl⟩; rw [hbv])
      go_ret
      exact ⟨by rw [unhide HTX]; rfl, hb03.alloc hb03.size _⟩
    · have hbv : belowB 0 v = false := by rw [unhide HB]; exact decide_eq_false hv
      rw [if_neg hv] at HTX
      go_wp2_with (go_at_call 91; refine (isBelow_any _ _ _).mono ?_; rintro e w' ⟨rfl, rfl⟩; rw [hbv])
      go_ret
      exact ⟨by rw [unhide HTX]; rw [nil_app]; rfl, hb03.alloc hb03.size _⟩
end Go.Proofs.YthkkfldmoflfaaaGreatDoor
