/- A number as a text by the reference: its Text. -/
import Derived.Test.YtmaefnmjfkbplaaGreatDoorNumRefT
import Derived.Test.YtmaefnmjfkbplaaGreatDoorNumTextGen
import Derived.Deep.CutBlock
import Derived.Deep.DeepCutAuto
namespace Go.Proofs.YtmaefnmjfkbplaaGreatDoor
open Go.RowKit
attribute [local go_sem ↓] Go.wp_at_zero Go.wp_at_succ
theorem tr_cons (t : ByteArray) (h : t.size - 1 < t.size) (hb : t[t.size - 1]'h = 48) : Lib.trimRightB (t.extract 0 (t.size - 1)).data.toList 48 = Lib.trimRightB t.data.toList 48 := by
  unfold Lib.trimRightB
  rw [rb_snoc t h, hb, List.reverse_append, List.reverse_singleton, List.singleton_append, List.dropWhile_cons_of_pos (by decide)]
theorem tr_stop (t : ByteArray) (h : t.size - 1 < t.size) (hb : t[t.size - 1]'h ≠ 48) : Lib.trimRightB t.data.toList 48 = t.data.toList := by
  unfold Lib.trimRightB
  have e := rb_snoc t h
  have hr : t.data.toList.reverse = t[t.size - 1]'h :: (t.extract 0 (t.size - 1)).data.toList.reverse := by
    rw [e, List.reverse_append, List.reverse_singleton, List.singleton_append]
  rw [hr, List.dropWhile_cons_of_neg (by simpa using hb), ← hr, List.reverse_reverse]
set_option maxRecDepth 100000 in
set_option maxHeartbeats 1000000 in
theorem refText_not (v : Int) (w : World) :
    (Calls Tryz.prog 24 #[.agg #[.int .i64 1, .int .i64 v]] w fun e w' => e = .returned (.string ⟨#[78, 97, 78]⟩) ∧ Below w.heap.size w w') ∧
    (Calls Tryz.prog 24 #[.agg #[.int .i64 2, .int .i64 v]] w fun e w' => e = .returned (.string ⟨#[73, 110, 102, 105, 110, 105, 116, 121]⟩) ∧ Below w.heap.size w w') ∧
    (Calls Tryz.prog 24 #[.agg #[.int .i64 3, .int .i64 v]] w fun e w' => e = .returned (.string ⟨#[45, 73, 110, 102, 105, 110, 105, 116, 121]⟩) ∧ Below w.heap.size w w') := by
  refine ⟨?_, ?_, ?_⟩
  all_goals
    go_enter Tryz.func24, Tryz.ntmps24
    go_wp2
    go_ret
    refine ⟨rfl, ?_⟩
    (repeat first | exact Below.refl _ _ | assumption | refine Below.drew ?_ | refine Below.alloc ?_ (by simp <;> omega) _ | refine Below.setCell ?_ (by simp <;> omega) _)
set_option maxRecDepth 100000 in
set_option maxHeartbeats 2000000 in
theorem refText_fin (v : Int) (w : World) (h1 : -1000000000000000000 ≤ v) (h2 : v ≤ 1000000000000000000) :
    Calls Tryz.prog 24 #[.agg #[.int .i64 0, .int .i64 v]] w fun e w' => e = .returned (.string ⟨(textL (decide (v < 0)) (v.natAbs / 1000000) (v.natAbs % 1000000)).toArray⟩) ∧ Below w.heap.size w w' := by
  have HZ := hide (fun w => refSize_any 0 v w h1 h2)
  obtain ⟨q, hq⟩ : ∃ q, q = v.natAbs / 1000000 := ⟨_, rfl⟩
  obtain ⟨m, hm⟩ : ∃ m, m = v.natAbs % 1000000 := ⟨_, rfl⟩
  obtain ⟨na, hna⟩ : ∃ na, na = v.natAbs := ⟨_, rfl⟩
  rw [← hna] at hq hm HZ ⊢
  rw [← hq, ← hm]
  have hq13 : q < 10 ^ 13 := by omega
  have hm6 : m < 1000000 := by omega
  have hwq : IntKind.u64.wrap (q : Int) = (q : Int) := by rw [IntKind.wrap_u64]; omega
  have hwq' : (na : Int) / 1000000 = (q : Int) := by omega
  have htm : (na : Int).tmod 1000000 = (m : Int) := by rw [Int.tmod_eq_emod_of_nonneg (Int.natCast_nonneg na)]; omega
  have htm' : (na : Int) % 1000000 = (m : Int) := by omega
  have HDQ := hide (fun w => refDecimal_any q w (by omega))
  have HPM := hide (fun w => refPlaces_any m w hm6)
  have hds : (⟨(Lib.decDigits q).toArray⟩ : ByteArray).size ≤ 1000 := by
    have := dec_len 12 q hq13
    rw [mk_size]
    omega
  have HPL := hide (places_six m)
  have hsx : (⟨(sixL m).toArray⟩ : ByteArray).size ≤ 6 := by rw [mk_size, six_len m hm6]; omega
  have HTX := hide (show (⟨(textL (decide (v < 0)) q m).toArray⟩ : ByteArray) = (if v < 0 then (⟨#[45]⟩ : ByteArray) else ⟨#[]⟩) ++ ((⟨(Lib.decDigits q).toArray⟩ : ByteArray) ++ (if placesL m = [] then (⟨#[]⟩ : ByteArray) else ⟨#[46]⟩ ++ ⟨(placesL m).toArray⟩)) by
    apply ByteArray.ext
    unfold textL bodyL tailL
    by_cases h3 : v < 0 <;> by_cases h4 : placesL m = [] <;> simp [h3, h4])
  generalize (⟨(textL (decide (v < 0)) q m).toArray⟩ : ByteArray) = X at *
  generalize (⟨(Lib.decDigits q).toArray⟩ : ByteArray) = D at *
  have HSL := hide (show (⟨(sixL m).toArray⟩ : ByteArray).data.toList = sixL m from mk_list _)
  generalize (⟨(sixL m).toArray⟩ : ByteArray) = S6 at *
  clear hq hm hna hq13 hm6
  go_enter Tryz.func24, Tryz.ntmps24
  go_wp2_with fail
  refine (unhide HZ _).mono ?_
  rintro e w1 ⟨rfl, hb1⟩
  have hN : NumAt w1 w.heap.size 0 v := NumAt.below (w := (w.alloc (.cells #[.int .i64 0, .int .i64 v] 24))) ⟨by simp [go_sem], by simp [go_sem], by simp [go_sem], by simp [go_sem]⟩ hb1
  have hb01 : Below w.heap.size w w1 := Below.then (by (repeat first | exact Below.refl _ _ | assumption | refine Below.drew ?_ | refine Below.alloc ?_ (by simp <;> omega) _ | refine Below.setCell ?_ (by simp <;> omega) _)) hb1
  clear hb1 HZ
  go_wp2_with fail
  refine (unhide HDQ _).mono ?_
  rintro e w2 ⟨rfl, hb2⟩
  have hb02 := Below.then hb01 hb2
  have hN2 := hN.below hb2
  clear hN hb01 hb2 HDQ
  go_wp2_with fail
  refine (unhide HPM _).mono ?_
  rintro e w3 ⟨rfl, hb3⟩
  have hb03 := Below.then hb02 hb3
  have hN3 := hN2.below hb3
  clear hN2 hb02 hb3 HPM hwq hwq' htm htm'
  obtain ⟨a0, a1, _, _⟩ := hN3
  go_upto_block 1 with fail
  go_cut [5] (fun v wx => ∃ P : ByteArray, v = .string P ∧ Hid (P.data.toList = placesL m) ∧ P.size ≤ 6 ∧ wx = w3)
  case first =>
    go_wp2_with fail
    go_loop [5] (fun v => ∃ P : ByteArray, v = .string P ∧ Hid (Lib.trimRightB P.data.toList 48 = placesL m) ∧ P.size ≤ 6) (fun v => strLen v)
    case atStart => exact ⟨S6, rfl, hide (by rw [unhide HSL, unhide HPL]), hsx⟩
    case round =>
      obtain ⟨t, rfl, HT, hts⟩ := hrel
      clear HSL HPL HTX
      by_cases h0 : 0 < t.size
      · have h0' : (0 : Int) < (t.size : Int) := by omega
        have hlt : t.size - 1 < t.size := by omega
        have hi1 : (t.size : Int) - 1 = ((t.size - 1 : Nat) : Int) := by omega
        by_cases hb : t[t.size - 1]'hlt = 48
        · have HX := hide ((tr_cons t hlt hb).trans (unhide HT))
          have hb' : ((((t[t.size - 1]'hlt).toNat : Nat) : Int) == 48) = true := by rw [hb]; rfl
          clear HT hb
          go_wp2
          exact ⟨⟨t.extract 0 (t.size - 1), rfl, HX, by rw [ByteArray.size_extract]; omega⟩, by simp only [strLen, ByteArray.size_extract]; omega⟩
        · have HX := hide ((tr_stop t hlt hb).symm.trans (unhide HT))
          have hb' : ((((t[t.size - 1]'hlt).toNat : Nat) : Int) == 48) = false := by simpa using fun e => hb (UInt8.toNat_inj.1 (by show (t[t.size - 1]'hlt).toNat = 48; omega))
          clear HT hb
          go_wp2_with fail
          go_meet
          exact ⟨t, rfl, HX, hts, rfl⟩
      · have h0' : ¬ (0 : Int) < (t.size : Int) := by omega
        have HX := hide (show t.data.toList = placesL m by
          have := unhide HT
          rw [l_none t h0] at this ⊢
          exact this)
        clear HT
        go_wp2_with fail
        go_meet
        exact ⟨t, rfl, HX, hts, rfl⟩
  case rest =>
    obtain ⟨P, rfl, HP, hPs, rfl⟩ := hcut
    have hPl : P.toList = placesL m := by rw [ByteArray.toList_eq]; exact unhide HP
    rw [show (⟨(placesL m).toArray⟩ : ByteArray) = P by rw [← unhide HP, mk_of]] at HTX
    clear HSL HPL hsx HP
    by_cases h4 : placesL m = []
    · have hPe : P.toList = [] := hPl.trans h4
      have hPb : P.toList.isEmpty = true := by rw [hPe]; rfl
      rw [if_pos h4] at HTX
      clear hPl h4
      by_cases hv : v < 0
      · rw [if_pos hv] at HTX
        go_wp2
        go_ret
        exact ⟨by rw [unhide HTX, app_nil]; rfl, hb03⟩
      · rw [if_neg hv] at HTX
        go_wp2
        go_ret
        exact ⟨by rw [unhide HTX, app_nil, nil_app]; rfl, hb03⟩
    · have hPe : ¬ P.toList = [] := fun e => h4 (hPl.symm.trans e)
      have hPb : P.toList.isEmpty = false := by simpa using hPe
      rw [if_neg h4] at HTX
      clear hPl h4
      by_cases hv : v < 0
      · rw [if_pos hv] at HTX
        go_wp2
        go_ret
        exact ⟨by rw [unhide HTX]; rfl, hb03⟩
      · rw [if_neg hv] at HTX
        go_wp2
        go_ret
        exact ⟨by rw [unhide HTX, nil_app]; rfl, hb03⟩
end Go.Proofs.YtmaefnmjfkbplaaGreatDoor
