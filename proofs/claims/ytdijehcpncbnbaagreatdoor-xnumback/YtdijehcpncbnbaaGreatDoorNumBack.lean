/- Parse of Text is the number: the law XnumBack. -/
import Derived.Test.YtdijehcpncbnbaaGreatDoorNumParseT
import Derived.Test.YtdijehcpncbnbaaGreatDoorNumTextAny
import Derived.Test.YtdijehcpncbnbaaGreatDoorNumRight
import Derived.Test.YtdijehcpncbnbaaGreatDoorNumLive
namespace Go.Proofs.YtdijehcpncbnbaaGreatDoor
open Go.RowKit
set_option maxRecDepth 100000 in
set_option maxHeartbeats 1000000 in
theorem back_core (k v K U : Int) (s : ByteArray) (w : World) (hE : NumEnv w) (hr : rightB k v = true)
    (HTX : ∀ w, NumEnv w → Calls Tryz.prog 24 #[.agg #[.int .i64 k, .int .i64 v]] w fun e w' => e = .returned (.string s) ∧ Below w.heap.size w w')
    (HPS : ∀ w, NumEnv w → Calls Tryz.prog 23 #[.string s] w fun e w' => e = .returned (.agg #[.int .i64 K, .int .i64 U]) ∧ Below w.heap.size w w')
    (h : (k = 0 ∧ K = 0 ∧ U = v) ∨ ((k == 0) = false ∧ K = 1)) :
    Calls Tryz.prog 5 #[.agg #[.int .i64 k, .int .i64 v]] w fun e w' => e = .returned (.bool true) ∧ Below w.heap.size w w' := by
  have HE := hide hE
  have HX := hide HTX
  have HP := hide HPS
  have HR := hide hr
  clear hE HTX HPS hr
  go_enter Tryz.func5, Tryz.ntmps5
  go_wp2_with fail
  refine (refRight_any k v _).mono ?_
  rintro e w' ⟨rfl, rfl⟩
  rw [unhide HR]
  have hb0 : Below w.heap.size w ((w.alloc (.cells #[.int .i64 k, .int .i64 v] 24)).alloc (.cells #[.int .i64 k, .int .i64 v] 24)) := by
    (repeat first | exact Below.refl _ _ | assumption | refine Below.drew ?_ | refine Below.alloc ?_ (by simp <;> omega) _ | refine Below.setCell ?_ (by simp <;> omega) _)
  have hN : NumAt ((w.alloc (.cells #[.int .i64 k, .int .i64 v] 24)).alloc (.cells #[.int .i64 k, .int .i64 v] 24)) w.heap.size k v := ⟨by simp [go_sem], by simp [go_sem], by simp [go_sem], by simp [go_sem]⟩
  generalize ((w.alloc (.cells #[.int .i64 k, .int .i64 v] 24)).alloc (.cells #[.int .i64 k, .int .i64 v] 24)) = W at hb0 hN ⊢
  have HN := hide hN
  obtain ⟨a0, a1, _, _⟩ := hN
  go_wp2_with fail
  refine (unhide HX _ ((unhide HE).below hb0)).mono ?_
  rintro e w1 ⟨rfl, hb1⟩
  have hb01 := Below.then hb0 hb1
  go_wp2_with fail
  refine (unhide HP _ ((unhide HE).below hb01)).mono ?_
  rintro e w2 ⟨rfl, hb2⟩
  have hb02 := Below.then hb01 hb2
  have hN2 := ((unhide HN).below hb1).below hb2
  have hs2 := hb02.size
  clear hb0 hb1 hb01 hb2 HN a0 a1 HX HP HR
  go_upto_region 4 with fail
  refine wp_named ?_
  intro X hX
  have hA : NumAt X w.heap.size k v := by rw [hX]; exact hN2.below (by (repeat first | exact Below.refl _ _ | assumption | refine Below.drew ?_ | refine Below.alloc ?_ (by simp <;> omega) _ | refine Below.setCell ?_ (by simp <;> omega) _))
  have hB : NumAt X w2.heap.size K U := by rw [hX]; exact ⟨by simp [go_sem], by simp [go_sem], by simp [go_sem], by simp [go_sem]⟩
  have hbX : Below w.heap.size w X := by rw [hX]; exact hb02.alloc hs2 _
  clear hX hN2 hb02 hs2
  have HA := hide hA
  have HB := hide hB
  obtain ⟨a0, a1, _, _⟩ := hA
  rcases h with ⟨rfl, rfl, rfl⟩ | ⟨h, rfl⟩
  · go_wp2_with fail
    refine (live_any _ ((unhide HE).below hbX)).mono ?_
    rintro e w5 ⟨rfl, hb5⟩
    clear a0 a1 hB
    obtain ⟨a0, a1, _, _⟩ := (unhide HA).below hb5
    obtain ⟨b0, b1, _, _⟩ := (unhide HB).below hb5
    go_wp2
    go_ret
    exact ⟨rfl, Below.then hbX hb5⟩
  · go_wp2_with fail
    refine (live_any _ ((unhide HE).below hbX)).mono ?_
    rintro e w5 ⟨rfl, hb5⟩
    clear a0 a1 hB
    obtain ⟨b0, b1, _, _⟩ := (unhide HB).below hb5
    go_wp2
    go_ret
    exact ⟨rfl, Below.then hbX hb5⟩
set_option maxHeartbeats 1000000 in
theorem back_not (k v : Int) (w : World) (hE : NumEnv w) (hr : rightB k v = false) :
    Calls Tryz.prog 5 #[.agg #[.int .i64 k, .int .i64 v]] w fun e w' => e = .returned (.bool true) ∧ Below w.heap.size w w' := by
  have HE := hide hE
  clear hE
  go_enter Tryz.func5, Tryz.ntmps5
  go_wp2_with fail
  refine (refRight_any k v _).mono ?_
  rintro e w' ⟨rfl, rfl⟩
  rw [hr]
  have hb0 : Below w.heap.size w ((w.alloc (.cells #[.int .i64 k, .int .i64 v] 24)).alloc (.cells #[.int .i64 k, .int .i64 v] 24)) := by
    (repeat first | exact Below.refl _ _ | assumption | refine Below.drew ?_ | refine Below.alloc ?_ (by simp <;> omega) _ | refine Below.setCell ?_ (by simp <;> omega) _)
  go_wp2_with fail
  refine (live_any _ ((unhide HE).below hb0)).mono ?_
  rintro e w5 ⟨rfl, hb5⟩
  go_wp2
  go_ret
  exact ⟨rfl, Below.then hb0 hb5⟩
theorem range_of (l : List UInt8) (h : l.all (fun b => decide (45 ≤ b.toNat) && decide (b.toNat ≤ 122)) = true) : ∀ b ∈ l, 45 ≤ b.toNat ∧ b.toNat ≤ 122 := fun b hb => by
  have := List.all_eq_true.1 h b hb
  simpa using this
theorem sign_back (v : Int) (h1 : -1000000000000000000 ≤ v) (h2 : v ≤ 1000000000000000000) : signK (decide (v < 0)) (v.natAbs / 1000000 * 1000000 + v.natAbs % 1000000) = 0 ∧ signN (decide (v < 0)) (v.natAbs / 1000000 * 1000000 + v.natAbs % 1000000) = v := by
  rw [show v.natAbs / 1000000 * 1000000 + v.natAbs % 1000000 = v.natAbs by omega]
  unfold signK signN
  rw [if_neg (by omega), if_neg (by omega)]
  refine ⟨rfl, ?_⟩
  by_cases h : v < 0
  · simp [h]; omega
  · simp [h]; omega
theorem back_walk (k v : Int) (w : World) (hE : NumEnv w) :
    Calls Tryz.prog 5 #[.agg #[.int .i64 k, .int .i64 v]] w fun e w' => e = .returned (.bool true) ∧ Below w.heap.size w w' := by
  cases hr : rightB k v
  · exact back_not k v w hE hr
  · rcases right_cases hr with ⟨rfl, h1, h2⟩ | ⟨rfl, rfl⟩ | ⟨rfl, rfl⟩ | ⟨rfl, rfl⟩
    · obtain ⟨e1, e2⟩ := sign_back v h1 h2
      refine back_core 0 v _ _ _ w hE hr (fun w hE => text_fin v w hE.pow h1 h2) (fun w hE => parse_text (decide (v < 0)) (v.natAbs / 1000000) (v.natAbs % 1000000) w hE.len hE.tabs (by omega) (by omega)) (.inl ⟨rfl, e1, e2⟩)
    · exact back_core 1 0 1 0 ⟨#[78, 97, 78]⟩ w hE hr (fun w _ => (text_not 0 w).1) (fun w hE => parse_bad ⟨#[78, 97, 78]⟩ ⟨#[78, 97, 78]⟩ ⟨#[78, 97, 78]⟩ false w hE.len hE.tabs (by decide) (range_trim [78, 97, 78] (by simp) (range_of _ (by decide))) (by decide +kernel) (by decide +kernel) (by decide) (by decide +kernel) (by decide) (by decide) (by decide)) (.inr ⟨rfl, rfl⟩)
    · exact back_core 2 0 1 0 ⟨#[73, 110, 102, 105, 110, 105, 116, 121]⟩ w hE hr (fun w _ => (text_not 0 w).2.1) (fun w hE => parse_bad ⟨#[73, 110, 102, 105, 110, 105, 116, 121]⟩ ⟨#[73, 110, 102, 105, 110, 105, 116, 121]⟩ ⟨#[73, 110, 102, 105, 110, 105, 116, 121]⟩ false w hE.len hE.tabs (by decide) (range_trim [73, 110, 102, 105, 110, 105, 116, 121] (by simp) (range_of _ (by decide))) (by decide +kernel) (by decide +kernel) (by decide) (by decide +kernel) (by decide) (by decide) (by decide)) (.inr ⟨rfl, rfl⟩)
    · exact back_core 3 0 1 0 ⟨#[45, 73, 110, 102, 105, 110, 105, 116, 121]⟩ w hE hr (fun w _ => (text_not 0 w).2.2) (fun w hE => parse_bad ⟨#[45, 73, 110, 102, 105, 110, 105, 116, 121]⟩ ⟨#[73, 110, 102, 105, 110, 105, 116, 121]⟩ ⟨#[73, 110, 102, 105, 110, 105, 116, 121]⟩ true w hE.len hE.tabs (by decide) (range_trim [45, 73, 110, 102, 105, 110, 105, 116, 121] (by simp) (range_of _ (by decide))) (by decide +kernel) (by decide +kernel) (by decide) (by decide +kernel) (by decide) (by decide) (by decide)) (.inr ⟨rfl, rfl⟩)
end Go.Proofs.YtdijehcpncbnbaaGreatDoor
