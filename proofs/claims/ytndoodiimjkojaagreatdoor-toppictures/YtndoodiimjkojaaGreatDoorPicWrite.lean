/- What stands between head and tail by the pictures 0.###### and #,##0.######: xnum's partDigits without groups, writeWhole and writeSize of every number. -/
import Derived.Test.YtndoodiimjkojaaGreatDoorNumWrite
import Derived.Test.YtndoodiimjkojaaGreatDoorNumRound
import Derived.Test.YtndoodiimjkojaaGreatDoorNumDiv
import Derived.Test.YtndoodiimjkojaaGreatDoorNumParseT
namespace Go.Proofs.YtndoodiimjkojaaGreatDoor
open Go.RowKit
attribute [local go_sem ↓] Go.wp_at_zero Go.wp_at_succ
set_option maxHeartbeats 1000000 in
theorem partDigits_0 (s : ByteArray) (w : World) :
    Calls Tryz.prog 61 #[.string s, .int .i64 0] w fun e w' => e = .returned (.string s) ∧ Below w.heap.size w w' := by
  go_enter Tryz.func61, Tryz.ntmps61
  go_wp2
  go_ret
  exact ⟨rfl, by (repeat first | exact Below.refl _ _ | assumption | refine Below.drew ?_ | refine Below.alloc ?_ (by simp <;> omega) _ | refine Below.setCell ?_ (by simp <;> omega) _)⟩
set_option maxHeartbeats 1000000 in
theorem roundTo_6 (n : Nat) (w : World) (hn : n ≤ 1000000000000000000) :
    Calls Tryz.prog 35 #[.int .u64 (n : Int), .int .i64 6] w fun e w' => e = .returned (.int .u64 (n : Int)) ∧ w' = w := by
  go_enter Tryz.func35, Tryz.ntmps35
  go_wp2_with fail
  go_loop [5, 8] (fun u i => i = .int .i64 0 ∧ u = .int .u64 1) (fun _ _ => 0)
  case atStart => exact ⟨rfl, rfl⟩
  case round =>
    obtain ⟨rfl, rfl⟩ := hrel
    go_wp2
    go_ret
    refine ⟨?_, rfl⟩
    simp
theorem pad_one (l : List UInt8) (h : l ≠ []) : ((⟨(Lib.repeatL [48] (1 - (⟨l.toArray⟩ : ByteArray).size)).toArray⟩ : ByteArray) ++ ⟨l.toArray⟩) = ⟨l.toArray⟩ := by
  have : 0 < l.length := List.length_pos_iff.2 h
  rw [mk_size, show 1 - l.length = 0 by omega]
  apply ByteArray.ext
  rw [ByteArray.data_append]
  apply Array.ext'
  simp [Lib.repeatL]
theorem digits_ne (n : Nat) : Lib.decDigits n ≠ [] := (dec_all n).2.2
set_option maxRecDepth 100000 in
set_option maxHeartbeats 2000000 in
theorem writeWhole_of (g : Int) (n : Nat) (R : ByteArray) (w : World) (hn : n < 18446744073709551616) (hT : Lib.TabIs Tryz.prog w "internal/strconv.uint64pow10" .u64 Lib.pow10Tab)
    (hD : ∀ w, Calls Tryz.prog 61 #[.string ⟨(Lib.decDigits n).toArray⟩, .int .i64 g] w fun e w' => e = .returned (.string R) ∧ Below w.heap.size w w') :
    Calls Tryz.prog 36 #[.agg #[.string ⟨#[]⟩, .string ⟨#[]⟩, .int .i64 1, .int .i64 0, .int .i64 6, .int .i64 g], .int .u64 (n : Int)] w fun e w' => e = .returned (.string R) ∧ Below w.heap.size w w' := by
  have HT := hide hT
  have HD := hide hD
  clear hT hD
  have HF := hide (fun w h => formatUint_any n hn w h)
  by_cases h0 : n = 0
  · subst h0
    have HP := hide (fun w => padLeft_any ⟨#[]⟩ 1 w (by decide) (by decide))
    have hd0 : (⟨(Lib.decDigits 0).toArray⟩ : ByteArray) = ⟨#[48]⟩ := by decide +kernel
    rw [hd0] at HD
    go_enter Tryz.func36, Tryz.ntmps36
    go_wp2_with fail
    have hb0 : Below w.heap.size w (w.alloc (.cells #[.string ⟨#[]⟩, .string ⟨#[]⟩, .int .i64 1, .int .i64 0, .int .i64 6, .int .i64 g] 40)) := by
      (repeat first | exact Below.refl _ _ | assumption | refine Below.drew ?_ | refine Below.alloc ?_ (by simp <;> omega) _ | refine Below.setCell ?_ (by simp <;> omega) _)
    obtain ⟨c0, c1, c2, c3, c4, c5, o0, o1, o2, o3, o4, o5⟩ := LayAt.lay w ⟨#[]⟩ ⟨#[]⟩ 1 0 6 g
    generalize (w.alloc (.cells #[.string ⟨#[]⟩, .string ⟨#[]⟩, .int .i64 1, .int .i64 0, .int .i64 6, .int .i64 g] 40)) = w1 at *
    have hS : w1.cell? ⟨w.heap.size, 2, none⟩ = some (.int .i64 1) ∧ w1.cell? ⟨w.heap.size, 5, none⟩ = some (.int .i64 g) := ⟨c2, c5⟩
    clear c0 c1 c2 c3 c4 c5 o0 o1 o2 o3 o4 o5 HT HF
    go_region_held3 (fun w' => w'.cell? ⟨w.heap.size, 2, none⟩ = some (.int .i64 1) ∧ w'.cell? ⟨w.heap.size, 5, none⟩ = some (.int .i64 g))
      (first | exact hS | exact ⟨kept_cell hbp hS.1, kept_cell hbp hS.2⟩ | exact ⟨kept_cell hbq hHp.1, kept_cell hbq hHp.2⟩)
      (first
        | (go_at_call 30; refine (unhide HP _).mono ?_; rintro e w2 ⟨rfl, hbp⟩; (have hHp : w2.cell? ⟨w.heap.size, 2, none⟩ = some (.int .i64 1) ∧ w2.cell? ⟨w.heap.size, 5, none⟩ = some (.int .i64 g) := ⟨kept_cell hbp hS.1, kept_cell hbp hS.2⟩); rw [show ((⟨(Lib.repeatL [48] (1 - (⟨#[]⟩ : ByteArray).size)).toArray⟩ : ByteArray) ++ ⟨#[]⟩) = ⟨#[48]⟩ by decide +kernel])
        | (go_at_call 61; refine (unhide HD _).mono ?_; rintro e w3 ⟨rfl, hbq⟩))
    go_wp2
    go_ret
    exact ⟨rfl, Below.then hb0.drew (Below.then hbp hbq)⟩
  · have h0' : 0 < n := by omega
    have hd := digits_small n hn
    have HP := hide (fun w => padLeft_any ⟨(Lib.decDigits n).toArray⟩ 1 w (by rw [mk_size]; omega) (by decide))
    rw [pad_one _ (digits_ne n)] at HP
    clear hd h0
    generalize (⟨(Lib.decDigits n).toArray⟩ : ByteArray) = D at *
    go_enter Tryz.func36, Tryz.ntmps36
    go_wp2_with fail
    have hb0 : Below w.heap.size w (w.alloc (.cells #[.string ⟨#[]⟩, .string ⟨#[]⟩, .int .i64 1, .int .i64 0, .int .i64 6, .int .i64 g] 40)) := by
      (repeat first | exact Below.refl _ _ | assumption | refine Below.drew ?_ | refine Below.alloc ?_ (by simp <;> omega) _ | refine Below.setCell ?_ (by simp <;> omega) _)
    have hl := LayAt.lay w ⟨#[]⟩ ⟨#[]⟩ 1 0 6 g
    refine (unhide HF _ (tab_below (unhide HT) hb0)).mono ?_
    rintro e w1 ⟨rfl, hb1⟩
    have hl1 := hl.below hb1
    have hb01 := Below.then hb0 hb1
    clear hl hb0 hb1 HT HF
    obtain ⟨c0, c1, c2, c3, c4, c5, o0, o1, o2, o3, o4, o5⟩ := hl1
    have hS : w1.cell? ⟨w.heap.size, 2, none⟩ = some (.int .i64 1) ∧ w1.cell? ⟨w.heap.size, 5, none⟩ = some (.int .i64 g) := ⟨c2, c5⟩
    clear c0 c1 c2 c3 c4 c5 o0 o1 o2 o3 o4 o5
    go_wp2_with fail
    go_region_held3 (fun w' => w'.cell? ⟨w.heap.size, 2, none⟩ = some (.int .i64 1) ∧ w'.cell? ⟨w.heap.size, 5, none⟩ = some (.int .i64 g))
      (first | exact hS | exact ⟨kept_cell hbp hS.1, kept_cell hbp hS.2⟩ | exact ⟨kept_cell hbq hHp.1, kept_cell hbq hHp.2⟩)
      (first
        | (go_at_call 30; refine (unhide HP _).mono ?_; rintro e w2 ⟨rfl, hbp⟩; (have hHp : w2.cell? ⟨w.heap.size, 2, none⟩ = some (.int .i64 1) ∧ w2.cell? ⟨w.heap.size, 5, none⟩ = some (.int .i64 g) := ⟨kept_cell hbp hS.1, kept_cell hbp hS.2⟩))
        | (go_at_call 61; refine (unhide HD _).mono ?_; rintro e w3 ⟨rfl, hbq⟩))
    go_wp2
    go_ret
    exact ⟨rfl, Below.then hb01.drew (Below.then hbp hbq)⟩
theorem tail_cat (R : List UInt8) (m : Nat) (h : placesL m ≠ []) : (⟨R.toArray⟩ : ByteArray) ++ (⟨#[46]⟩ ++ ⟨(placesL m).toArray⟩) = ⟨(R ++ tailL m).toArray⟩ := by
  apply ByteArray.ext
  rw [ByteArray.data_append, ByteArray.data_append]
  apply Array.ext'
  unfold tailL
  rw [if_neg h]
  simp
theorem pad_none (s : ByteArray) : (s ++ (⟨(Lib.repeatL [48] (0 - s.size)).toArray⟩ : ByteArray)) = s := by
  rw [Nat.zero_sub]
  apply ByteArray.ext
  rw [ByteArray.data_append]
  apply Array.ext'
  simp [Lib.repeatL]
set_option maxRecDepth 100000 in
set_option maxHeartbeats 2000000 in
theorem writeSize_of (g v : Int) (R : List UInt8) (w : World) (h1 : -1000000000000000000 ≤ v) (h2 : v ≤ 1000000000000000000) (hR : R.length ≤ 1000) (hT : Lib.TabIs Tryz.prog w "internal/strconv.uint64pow10" .u64 Lib.pow10Tab)
    (hD : ∀ w, Calls Tryz.prog 61 #[.string ⟨(Lib.decDigits (v.natAbs / 1000000)).toArray⟩, .int .i64 g] w fun e w' => e = .returned (.string ⟨R.toArray⟩) ∧ Below w.heap.size w w') :
    Calls Tryz.prog 17 #[.agg #[.string ⟨#[]⟩, .string ⟨#[]⟩, .int .i64 1, .int .i64 0, .int .i64 6, .int .i64 g], .agg #[.int .i64 0, .int .i64 v]] w fun e w' => e = .returned (.string ⟨(R ++ tailL (v.natAbs % 1000000)).toArray⟩) ∧ Below w.heap.size w w' := by
  have HT := hide hT
  have HW := hide (fun w (hT : Lib.TabIs Tryz.prog w "internal/strconv.uint64pow10" .u64 Lib.pow10Tab) => writeWhole_of g (v.natAbs / 1000000) ⟨R.toArray⟩ w (by omega) hT hD)
  clear hT hD
  have HC := hide (fun w => Tryz.strings_Contains_one ⟨#[]⟩ 37 w)
  have HV := hide (fun w => sizeOf_any v w (by omega) (by omega))
  have HR := hide (fun w => roundTo_6 v.natAbs w (by omega))
  have HQ := hide (fun w => (quotient_any v.natAbs 1000000 w (by omega) (by decide) (by decide)).mono (R' := fun e w' => e = .returned (.agg #[.int .u64 ((v.natAbs / 1000000 : Nat) : Int), .int .u64 ((v.natAbs % 1000000 : Nat) : Int)]) ∧ Below w.heap.size w w') (by rintro e w' ⟨rfl, rfl⟩; exact ⟨rfl, by (repeat first | exact Below.refl _ _ | assumption | refine Below.drew ?_ | refine Below.alloc ?_ (by simp <;> omega) _ | refine Below.setCell ?_ (by simp <;> omega) _)⟩))
  have hn : v.natAbs ≤ 1000000000000000000 := by omega
  have hm : v.natAbs % 1000000 < 1000000 := by omega
  have hpl := places_len (v.natAbs % 1000000) hm
  have hsR : (⟨R.toArray⟩ : ByteArray).size ≤ 1000 := by rw [mk_size]; exact hR
  have hsP : (⟨(placesL (v.natAbs % 1000000)).toArray⟩ : ByteArray).size ≤ 6 := by rw [mk_size]; exact hpl
  have HPL := hide (fun w h => placesOf_any (v.natAbs % 1000000) w (by omega) h)
  have HP := hide (fun w => padRight_any ⟨(placesL (v.natAbs % 1000000)).toArray⟩ 0 w (by omega) (by decide))
  rw [pad_none] at HP
  have HPE := hide (show (placesL (v.natAbs % 1000000) = [] ∧ (⟨(placesL (v.natAbs % 1000000)).toArray⟩ : ByteArray).toList.isEmpty = true ∧ (⟨R.toArray⟩ : ByteArray) = ⟨(R ++ tailL (v.natAbs % 1000000)).toArray⟩) ∨ ((⟨(placesL (v.natAbs % 1000000)).toArray⟩ : ByteArray).toList.isEmpty = false ∧ (⟨R.toArray⟩ : ByteArray) ++ (⟨#[46]⟩ ++ ⟨(placesL (v.natAbs % 1000000)).toArray⟩) = ⟨(R ++ tailL (v.natAbs % 1000000)).toArray⟩) by
    by_cases h : placesL (v.natAbs % 1000000) = []
    · refine .inl ⟨h, by rw [h]; decide +kernel, by unfold tailL; rw [if_pos h, List.append_nil]⟩
    · refine .inr ⟨?_, tail_cat R _ h⟩
      rw [ByteArray.toList_eq, mk_list]
      simpa using h)
  clear hpl hR
  generalize (⟨(R ++ tailL (v.natAbs % 1000000)).toArray⟩ : ByteArray) = X at *
  generalize (⟨(placesL (v.natAbs % 1000000)).toArray⟩ : ByteArray) = P at *
  generalize (⟨R.toArray⟩ : ByteArray) = RB at *
  generalize v.natAbs / 1000000 = q at *
  generalize v.natAbs % 1000000 = m at *
  generalize v.natAbs = n at *
  have hg1 : ¬ (1000000000000000000 : Int) < (n : Int) := by omega
  go_enter Tryz.func17, Tryz.ntmps17
  go_wp2_with fail
  refine (unhide HC _).mono ?_
  rintro e w' ⟨rfl, rfl⟩
  rw [show decide (0 ≤ Lib.indexByte [] 37) = false by decide +kernel]
  go_wp2_with fail
  refine (unhide HV _).mono ?_
  rintro e w' ⟨rfl, rfl⟩
  go_wp2_with fail
  refine (isInfinite_any 0 v _).mono ?_
  rintro e w' ⟨rfl, rfl⟩
  rw [show infB 0 = false from rfl]
  go_wp2_with fail
  refine (unhide HR _).mono ?_
  rintro e w' ⟨rfl, rfl⟩
  go_wp2_with fail
  refine (unhide HQ _).mono ?_
  rintro e w1 ⟨rfl, hb1⟩
  have hl := (LayAt.lay w ⟨#[]⟩ ⟨#[]⟩ 1 0 6 g).below (w' := w1) (Below.then (by (repeat first | exact Below.refl _ _ | assumption | refine Below.drew ?_ | refine Below.alloc ?_ (by simp <;> omega) _ | refine Below.setCell ?_ (by simp <;> omega) _)) hb1)
  have hb01 : Below w.heap.size w w1 := Below.then (by (repeat first | exact Below.refl _ _ | assumption | refine Below.drew ?_ | refine Below.alloc ?_ (by simp <;> omega) _ | refine Below.setCell ?_ (by simp <;> omega) _)) hb1
  have hsz := hb01.size
  have hlt := block_lt_of_cell hl.c0
  clear hb1 HQ HV HC HR
  go_upto_region 8 with fail
  refine wp_named ?_
  intro W hW
  have hlW : LayAt W w.heap.size ⟨#[]⟩ ⟨#[]⟩ 1 0 6 g := by
    rw [hW]; exact hl.below (by (repeat first | exact Below.refl _ _ | assumption | refine Below.drew ?_ | refine Below.alloc ?_ (by simp <;> omega) _ | refine Below.setCell ?_ (by simp <;> omega) _))
  have hbW : Below w.heap.size w W := by
    rw [hW]; exact hb01.alloc hsz _
  have hp0 : W.cell? ⟨w1.heap.size, 0, none⟩ = some (.int .u64 (q : Int)) := by rw [hW]; simp [go_sem]
  have hp1 : W.cell? ⟨w1.heap.size, 1, none⟩ = some (.int .u64 (m : Int)) := by rw [hW]; simp [go_sem]
  clear hW hl hsz
  have HL := hide hlW
  obtain ⟨c0, c1, c2, c3, c4, c5, o0, o1, o2, o3, o4, o5⟩ := hlW
  go_wp2_with fail
  refine (unhide HW _ (tab_below (unhide HT) hbW)).mono ?_
  rintro e w2 ⟨rfl, hb2⟩
  have hS : w2.cell? ⟨w1.heap.size, 1, none⟩ = some (.int .u64 (m : Int)) ∧ w2.cell? ⟨w.heap.size, 3, none⟩ = some (.int .i64 0) := ⟨kept_cell hb2 hp1, kept_cell hb2 c3⟩
  have hb02 := Below.then hbW hb2
  have HT2 := hide (tab_below (unhide HT) hb02.drew)
  clear c0 c1 c2 c3 c4 c5 o0 o1 o2 o3 o4 o5 hp0 hp1 HL HT hb2 hbW hb01 HW
  go_wp2_with fail
  go_region_held3 (fun w' => w'.cell? ⟨w1.heap.size, 1, none⟩ = some (.int .u64 (m : Int)) ∧ w'.cell? ⟨w.heap.size, 3, none⟩ = some (.int .i64 0))
    (first | exact hS | exact hHp | exact ⟨kept_cell hbq hHp.1, kept_cell hbq hHp.2⟩)
    (first
      | (go_at_call 12; refine (unhide HPL _ (unhide HT2)).mono ?_; rintro e w3 ⟨rfl, hbp⟩; (have hHp : w3.cell? ⟨w1.heap.size, 1, none⟩ = some (.int .u64 (m : Int)) ∧ w3.cell? ⟨w.heap.size, 3, none⟩ = some (.int .i64 0) := ⟨kept_cell hbp hS.1, kept_cell hbp hS.2⟩))
      | (go_at_call 26; refine (unhide HP _).mono ?_; rintro e w4 ⟨rfl, hbq⟩))
  have hfin := Below.then hb02.drew (Below.then hbp hbq)
  clear hb02 hbp hbq HP HPL HT2 hS hlt
  rcases unhide HPE with ⟨_, hem, hx⟩ | ⟨hem, hx⟩
  · have HX := hide hx
    clear hx HPE
    go_wp2
    go_ret
    exact ⟨by rw [← unhide HX]; rfl, hfin⟩
  · have HX := hide hx
    clear hx HPE
    go_wp2
    go_ret
    exact ⟨by rw [← unhide HX]; rfl, hfin⟩
end Go.Proofs.YtndoodiimjkojaaGreatDoor
