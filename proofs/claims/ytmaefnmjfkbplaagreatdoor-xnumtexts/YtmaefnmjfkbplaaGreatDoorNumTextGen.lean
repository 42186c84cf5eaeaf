/- A number as a text, of every kind and value: xnum's Text. -/
import Derived.Test.YtmaefnmjfkbplaaGreatDoorNumTextAny
namespace Go.Proofs.YtmaefnmjfkbplaaGreatDoor
open Go.RowKit
set_option maxRecDepth 100000 in
set_option maxHeartbeats 2000000 in
theorem text_gen (k v : Int) (w : World) (k1 : (k == 1) = false) (k2 : (k == 2) = false) (k3 : (k == 3) = false) (htab : Lib.TabIs Tryz.prog w "internal/strconv.uint64pow10" .u64 Lib.pow10Tab) (h1 : -9223372036854775808 ≤ v) (h2 : v ≤ 9223372036854775807) :
    Calls Tryz.prog 20 #[.agg #[.int .i64 k, .int .i64 v]] w fun e w' => e = .returned (.string ⟨(textL (belowB k v) (v.natAbs / 1000000) (v.natAbs % 1000000)).toArray⟩) ∧ Below w.heap.size w w' := by
  have HT := hide htab
  clear htab
  have HV := hide (fun w => sizeOf_any v w (by omega) (by omega))
  have HQ := hide (fun w => (quotient_any v.natAbs 1000000 w (by omega) (by decide) (by decide)).mono (R' := fun e w' => e = .returned (.agg #[.int .u64 ((v.natAbs / 1000000 : Nat) : Int), .int .u64 ((v.natAbs % 1000000 : Nat) : Int)]) ∧ Below w.heap.size w w') (by rintro e w' ⟨rfl, rfl⟩; exact ⟨rfl, by (repeat first | exact Below.refl _ _ | assumption | refine Below.drew ?_ | refine Below.alloc ?_ (by simp <;> omega) _ | refine Below.setCell ?_ (by simp <;> omega) _)⟩))
  have hq : v.natAbs / 1000000 < 18446744073709551616 := by omega
  have hm : v.natAbs % 1000000 < 1000000 := by omega
  generalize hbb : belowB k v = bb
  have HB := hide hbb
  clear hbb
  have hqs : v.natAbs / 1000000 < 10 ^ 13 := by omega
  generalize v.natAbs / 1000000 = q at *
  generalize v.natAbs % 1000000 = m at *
  generalize v.natAbs = va at *
  have hds : (⟨(Lib.decDigits q).toArray⟩ : ByteArray).size ≤ 1000 := by
    have := dec_len 12 q hqs
    show (Lib.decDigits q).toArray.size ≤ _
    simp
    omega
  have hps : (⟨(placesL m).toArray⟩ : ByteArray).size ≤ 1000 := by
    have := (places_all m hm).2.1
    show (placesL m).toArray.size ≤ _
    simp
    omega
  have hPl : (⟨(placesL m).toArray⟩ : ByteArray).toList = placesL m := by rw [ByteArray.toList_eq]
  have HF := hide (fun w h => formatUint_any q hq w h)
  have HPO := hide (fun w h => placesOf_any m w (by omega) h)
  have HTX := hide (show (⟨(textL bb q m).toArray⟩ : ByteArray) = (if bb then (⟨#[45]⟩ : ByteArray) else ⟨#[]⟩) ++ ((⟨(Lib.decDigits q).toArray⟩ : ByteArray) ++ (if placesL m = [] then (⟨#[]⟩ : ByteArray) else ⟨#[46]⟩ ++ ⟨(placesL m).toArray⟩)) by
    apply ByteArray.ext
    unfold textL bodyL tailL
    cases bb <;> by_cases h4 : placesL m = [] <;> simp [h4])
  by_cases h4 : placesL m = []
  · rw [if_pos h4] at HTX
    rw [h4] at hPl HPO
    clear h4
    generalize (⟨(Lib.decDigits q).toArray⟩ : ByteArray) = D at *
    generalize (⟨(textL bb q m).toArray⟩ : ByteArray) = X at *
    go_enter Tryz.func20, Tryz.ntmps20
    go_wp2_with fail
    refine (unhide HV _).mono ?_
    rintro e w1 ⟨rfl, rfl⟩
    go_wp2_with fail
    refine (unhide HQ _).mono ?_
    rintro e w1 ⟨rfl, hb1⟩
    have hN : NumAt w1 w.heap.size k v := NumAt.below (w := (w.alloc (.cells #[.int .i64 k, .int .i64 v] 24))) ⟨by simp [go_sem], by simp [go_sem], by simp [go_sem], by simp [go_sem]⟩ hb1
    have hb01 : Below w.heap.size w w1 := Below.then (by (repeat first | exact Below.refl _ _ | assumption | refine Below.drew ?_ | refine Below.alloc ?_ (by simp <;> omega) _ | refine Below.setCell ?_ (by simp <;> omega) _)) hb1
    clear hb1
    go_wp2_with fail
    have hX : Below w.heap.size w (w1.alloc (.cells #[.int .u64 (q : Int), .int .u64 (m : Int)] 39)) := hb01.alloc hb01.size _
    have hNX : NumAt (w1.alloc (.cells #[.int .u64 (q : Int), .int .u64 (m : Int)] 39)) w.heap.size k v := hN.below (by (repeat first | exact Below.refl _ _ | assumption | refine Below.drew ?_ | refine Below.alloc ?_ (by simp <;> omega) _ | refine Below.setCell ?_ (by simp <;> omega) _))
    have d1 : (w1.alloc (.cells #[.int .u64 (q : Int), .int .u64 (m : Int)] 39)).cell? ⟨w1.heap.size, 1, none⟩ = some (.int .u64 (m : Int)) := by simp [go_sem]
    refine (unhide HF _ (tab_below (unhide HT) hX)).mono ?_
    rintro e w2 ⟨rfl, hb2⟩
    have hb02 := Below.then hX hb2
    have hN2 := hNX.below hb2
    have d2 := kept_cell hb2 d1
    clear hX hNX d1 hb2 hb01 hN
    go_wp2_with fail
    refine (unhide HPO _ (tab_below (unhide HT) hb02)).mono ?_
    rintro e w3 ⟨rfl, hb3⟩
    have hb03 := Below.then hb02 hb3
    obtain ⟨a0, a1, _, _⟩ := hN2.below hb3
    clear hb02 hb3 hN2 d2 HF HPO HT HV HQ
    by_cases hv : bb = true
    · have hbv : belowB k v = true := (unhide HB).trans hv
      rw [if_pos hv] at HTX
      go_wp2_with (go_at_call 30; refine (isBelow_any _ _ _).mono ?_; rintro e w' ⟨rfl, rfl⟩; rw [hbv])
      go_ret
      exact ⟨by rw [unhide HTX]; rw [app_nil]; rfl, hb03.alloc hb03.size _⟩
    · have hbv : belowB k v = false := (unhide HB).trans (by simpa using hv)
      rw [if_neg hv] at HTX
      go_wp2_with (go_at_call 30; refine (isBelow_any _ _ _).mono ?_; rintro e w' ⟨rfl, rfl⟩; rw [hbv])
      go_ret
      exact ⟨by rw [unhide HTX]; rw [app_nil, nil_app]; rfl, hb03.alloc hb03.size _⟩
  · rw [if_neg h4] at HTX
    have hne : (⟨(placesL m).toArray⟩ : ByteArray).toList.isEmpty = false := by rw [hPl]; simpa using h4
    clear h4 hPl
    generalize (⟨(placesL m).toArray⟩ : ByteArray) = P at *
    generalize (⟨(Lib.decDigits q).toArray⟩ : ByteArray) = D at *
    generalize (⟨(textL bb q m).toArray⟩ : ByteArray) = X at *
    go_enter Tryz.func20, Tryz.ntmps20
    go_wp2_with fail
    refine (unhide HV _).mono ?_
    rintro e w1 ⟨rfl, rfl⟩
    go_wp2_with fail
    refine (unhide HQ _).mono ?_
    rintro e w1 ⟨rfl, hb1⟩
    have hN : NumAt w1 w.heap.size k v := NumAt.below (w := (w.alloc (.cells #[.int .i64 k, .int .i64 v] 24))) ⟨by simp [go_sem], by simp [go_sem], by simp [go_sem], by simp [go_sem]⟩ hb1
    have hb01 : Below w.heap.size w w1 := Below.then (by (repeat first | exact Below.refl _ _ | assumption | refine Below.drew ?_ | refine Below.alloc ?_ (by simp <;> omega) _ | refine Below.setCell ?_ (by simp <;> omega) _)) hb1
    clear hb1
    go_wp2_with fail
    have hX : Below w.heap.size w (w1.alloc (.cells #[.int .u64 (q : Int), .int .u64 (m : Int)] 39)) := hb01.alloc hb01.size _
    have hNX : NumAt (w1.alloc (.cells #[.int .u64 (q : Int), .int .u64 (m : Int)] 39)) w.heap.size k v := hN.below (by (repeat first | exact Below.refl _ _ | assumption | refine Below.drew ?_ | refine Below.alloc ?_ (by simp <;> omega) _ | refine Below.setCell ?_ (by simp <;> omega) _))
    have d1 : (w1.alloc (.cells #[.int .u64 (q : Int), .int .u64 (m : Int)] 39)).cell? ⟨w1.heap.size, 1, none⟩ = some (.int .u64 (m : Int)) := by simp [go_sem]
    refine (unhide HF _ (tab_below (unhide HT) hX)).mono ?_
    rintro e w2 ⟨rfl, hb2⟩
    have hb02 := Below.then hX hb2
    have hN2 := hNX.below hb2
    have d2 := kept_cell hb2 d1
    clear hX hNX d1 hb2 hb01 hN
    go_wp2_with fail
    refine (unhide HPO _ (tab_below (unhide HT) hb02)).mono ?_
    rintro e w3 ⟨rfl, hb3⟩
    have hb03 := Below.then hb02 hb3
    obtain ⟨a0, a1, _, _⟩ := hN2.below hb3
    clear hb02 hb3 hN2 d2 HF HPO HT HV HQ
    by_cases hv : bb = true
    · have hbv : belowB k v = true := (unhide HB).trans hv
      rw [if_pos hv] at HTX
      go_wp2_with (go_at_call 30; refine (isBelow_any _ _ _).mono ?_; rintro e w' ⟨rfl, rfl⟩; rw [hbv])
      go_ret
      exact ⟨by rw [unhide HTX]; rfl, hb03.alloc hb03.size _⟩
    · have hbv : belowB k v = false := (unhide HB).trans (by simpa using hv)
      rw [if_neg hv] at HTX
      go_wp2_with (go_at_call 30; refine (isBelow_any _ _ _).mono ?_; rintro e w' ⟨rfl, rfl⟩; rw [hbv])
      go_ret
      exact ⟨by rw [unhide HTX]; rw [nil_app]; rfl, hb03.alloc hb03.size _⟩
end Go.Proofs.YtmaefnmjfkbplaaGreatDoor
