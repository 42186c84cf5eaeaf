/- A number's text, with blanks around it, encoded and decoded, read and trimmed and read, is the number: the law TopDigits. -/
import Derived.Test.YtfgifocgkiploaaGreatDoorTopPlain
import Derived.Test.YtfgifocgkiploaaGreatDoorTopEnvOf
import Derived.Test.YtfgifocgkiploaaGreatDoorNumXRight
import Derived.Test.YtfgifocgkiploaaGreatDoorNumTextAny
import Derived.Test.YtfgifocgkiploaaGreatDoorNumMath
import Derived.Test.YtfgifocgkiploaaGreatDoorNumCls
import Derived.WalkSmall
namespace Go.Proofs.YtfgifocgkiploaaGreatDoor
open Go.RowKit
attribute [local go_sem ↓] Go.wp_at_zero Go.wp_at_succ
theorem minus12 (w : World) (hE : TopEnv w) : Calls Tryz.prog 5 #[.agg #[.int .i64 0, .int .i64 (-12000000)]] w fun e w' => e = .returned (.string ⟨#[45, 49, 50]⟩) ∧ Below w.heap.size w w' := by
  have h := text_fin (-12000000) w hE.pow (by decide) (by decide)
  rw [show (⟨(textL (decide ((-12000000 : Int) < 0)) ((-12000000 : Int).natAbs / 1000000) ((-12000000 : Int).natAbs % 1000000)).toArray⟩ : ByteArray) = ⟨#[45, 49, 50]⟩ by decide +kernel] at h
  exact h
theorem twelve (w : World) : Calls Tryz.prog 6 #[.int .i64 (-12)] w fun e w' => e = .returned (.agg #[.int .i64 0, .int .i64 (-12000000)]) ∧ Below w.heap.size w w' :=
  int_any (-12) w (by decide) (by decide)
theorem around_cat (T : List UInt8) : (⟨#[32, 10]⟩ ++ ⟨T.toArray⟩ : ByteArray) ++ ⟨#[9]⟩ = ⟨(aroundL T).toArray⟩ := by
  apply ByteArray.ext
  rw [ByteArray.data_append, ByteArray.data_append]
  apply Array.ext'
  simp [aroundL]
set_option maxRecDepth 100000 in
set_option maxHeartbeats 1000000 in
theorem top_not (k v : Int) (wide : Bool) (w : World) (hE : TopEnv w) (h : rightB k v = false ∨ (rightB k v = true ∧ (k != 0) = true)) :
    Calls Tryz.prog 3 #[.agg #[.int .i64 k, .int .i64 v], .bool wide] w fun e w' => e = .returned (.bool true) ∧ Below w.heap.size w w' := by
  have HE := hide hE
  clear hE
  go_enter Tryz.func3, Tryz.ntmps3
  go_wp2_with fail
  refine (xright_any k v _).mono ?_
  rintro e w1 ⟨rfl, hb1⟩
  have hA : NumAt w1 w.heap.size k v := NumAt.below (w := (w.alloc (.cells #[.int .i64 k, .int .i64 v] 24))) ⟨by simp [go_sem], by simp [go_sem], by simp [go_sem], by simp [go_sem]⟩ hb1
  have hb01 : Below w.heap.size w w1 := Below.then (by (repeat first | exact Below.refl _ _ | assumption | refine Below.drew ?_ | refine Below.alloc ?_ (by simp <;> omega) _ | refine Below.setCell ?_ (by simp <;> omega) _)) hb1
  clear hb1
  have HA := hide hA
  obtain ⟨a0, a1, _, _⟩ := hA
  rcases h with hr | ⟨hr, hk⟩
  all_goals
    rw [hr]
    clear hr
    go_wp2_with fail
    refine (twelve _).mono ?_
    rintro e w2 ⟨rfl, hb2⟩
    have hb02 := Below.then hb01 hb2
    go_wp2_with fail
    refine (minus12 _ ((unhide HE).below hb02)).mono ?_
    rintro e w3 ⟨rfl, hb3⟩
    go_wp2
    go_ret
    exact ⟨rfl, Below.then hb02 hb3⟩
/-- Worlds in which the number's variable stands. -/
structure Cls2 (X : World) (p : Nat) (k v : Int) (w' : World) : Prop where
  bel : Below X.heap.size X w'
  a0 : w'.cell? ⟨p, 0, none⟩ = some (.int .i64 k)
  a1 : w'.cell? ⟨p, 1, none⟩ = some (.int .i64 v)
theorem Cls2.below {X w w' : World} {p : Nat} {k v : Int} (h : Cls2 X p k v w) (hb : Below w.heap.size w w') : Cls2 X p k v w' :=
  ⟨Below.then h.bel hb, kept_cell hb h.a0, kept_cell hb h.a1⟩
set_option maxRecDepth 100000 in
set_option maxHeartbeats 1000000 in
theorem top_core (v : Int) (wide : Bool) (T : List UInt8) (t : ByteArray) (w : World) (hE : TopEnv w) (hr : rightB 0 v = true) (hT : T.length ≤ 1000)
    (HTX : ∀ w, TopEnv w → Calls Tryz.prog 5 #[.agg #[.int .i64 0, .int .i64 v]] w fun e w' => e = .returned (.string ⟨T.toArray⟩) ∧ Below w.heap.size w w')
    (HPA : ∀ w, TopEnv w → Calls Tryz.prog 9 #[.string ⟨(aroundL T).toArray⟩] w fun e w' => e = .returned (.agg #[.int .i64 0, .int .i64 v]) ∧ Below w.heap.size w w')
    (HPT : ∀ w, TopEnv w → Calls Tryz.prog 9 #[.string ⟨T.toArray⟩] w fun e w' => e = .returned (.agg #[.int .i64 0, .int .i64 v]) ∧ Below w.heap.size w w')
    (HTR : ∀ w, Calls Tryz.prog 10 #[.string ⟨(aroundL T).toArray⟩] w fun e w' => e = .returned (.string ⟨T.toArray⟩) ∧ Below w.heap.size w w')
    (HEN : ∀ w, TopEnv w → Calls Tryz.prog 7 #[.string ⟨(aroundL T).toArray⟩, .bool wide] w fun e w' => ∃ b, e = .returned (.tuple #[b, .int .i64 0]) ∧ BytesAt w' b t ∧ Below w.heap.size w w')
    (HDE : ∀ w b, TopEnv w → BytesAt w b t → Calls Tryz.prog 8 #[b] w fun e w' => e = .returned (.tuple #[.string ⟨(aroundL T).toArray⟩, .int .i64 0, .int .i64 0]) ∧ Below w.heap.size w w') :
    Calls Tryz.prog 3 #[.agg #[.int .i64 0, .int .i64 v], .bool wide] w fun e w' => e = .returned (.bool true) ∧ Below w.heap.size w w' := by
  have HE := hide hE
  have HX := hide HTX
  have HP := hide HPA
  have HQ := hide HPT
  have HT := hide HTR
  have HN := hide HEN
  have HD := hide HDE
  have HC := hide (around_cat T)
  have hsz : (⟨T.toArray⟩ : ByteArray).size ≤ 1000 := by rw [mk_size]; exact hT
  clear hT
  clear hE HTX HPA HPT HTR HEN HDE
  generalize (⟨(aroundL T).toArray⟩ : ByteArray) = s at *
  generalize (⟨T.toArray⟩ : ByteArray) = tx at *
  go_enter Tryz.func3, Tryz.ntmps3
  go_wp2_with fail
  refine (xright_any 0 v _).mono ?_
  rintro e w1 ⟨rfl, hb1⟩
  have hA : NumAt w1 w.heap.size 0 v := NumAt.below (w := (w.alloc (.cells #[.int .i64 0, .int .i64 v] 24))) ⟨by simp [go_sem], by simp [go_sem], by simp [go_sem], by simp [go_sem]⟩ hb1
  have hb01 : Below w.heap.size w w1 := Below.then (by (repeat first | exact Below.refl _ _ | assumption | refine Below.drew ?_ | refine Below.alloc ?_ (by simp <;> omega) _ | refine Below.setCell ?_ (by simp <;> omega) _)) hb1
  clear hb1
  have HA := hide hA
  obtain ⟨a0, a1, _, _⟩ := hA
  rw [hr]
  clear hr
  go_wp2_with fail
  refine (unhide HX _ ((unhide HE).below hb01)).mono ?_
  rintro e w2 ⟨rfl, hb2⟩
  have hb02 := Below.then hb01 hb2
  go_wp2_with fail
  rw [unhide HC]
  refine (unhide HN _ ((unhide HE).below hb02)).mono ?_
  rintro e w3 ⟨b, rfl, hB, hb3⟩
  have hb03 := Below.then hb02 hb3
  have hN3 := ((unhide HA).below hb2).below hb3
  have HB := hide hB
  clear hB a0 a1 HA hb01 hb02 hb2 hb3
  go_wp2_with fail
  refine (unhide HD _ b ((unhide HE).below hb03) (unhide HB)).mono ?_
  rintro e w4 ⟨rfl, hb4⟩
  have hb04 := Below.then hb03 hb4
  have hN4 := hN3.below hb4
  clear hN3 hb03 hb4 HB
  go_upto_region 5 with fail
  have hC : Cls2 w4 w.heap.size 0 v w4.drew := ⟨(Below.refl _ _).drew, hN4.kind, hN4.val⟩
  have HE4 := hide ((unhide HE).below hb04)
  have HR := hide (show ∀ w, TopEnv w → ∀ x, x = s ∨ x = tx → Calls Tryz.prog 9 #[.string x] w fun e w' => e = .returned (.agg #[.int .i64 0, .int .i64 v]) ∧ Below w.heap.size w w' by
    rintro w hE x (rfl | rfl)
    · exact unhide HP w hE
    · exact unhide HQ w hE)
  clear HP HQ
  clear hN4 HX HN HD HC HE hsz
  refine wp_region_cls (Cls2 w4 w.heap.size 0 v) (by kernel_rfl) (by kernel_rfl) hC ?_
  repeat
    (first
      | go_big_quiet_skip
      | (go_big_quiet_want
         go_big_quiet_op
         first
           | go_big_quiet_on
           | (apply Exists.intro
              refine ⟨fun w' hC => ?_, ?_⟩
              · (first
                  | (go_at_call 9; refine (unhide HR _ ((unhide HE4).below hC.bel) _ ?_).mono ?_; (first | exact .inl rfl | exact .inr rfl); rintro e w5 ⟨rfl, hb5⟩; exact ⟨rfl, hC.below hb5⟩)
                  | (go_at_call 10; refine (unhide HT _).mono ?_; rintro e w5 ⟨rfl, hb5⟩; exact ⟨rfl, hC.below hb5⟩)
                  | (have c0 := hC.a0; have c1 := hC.a1; go_simp; first | done | rfl))
              go_big_quiet_on)))
  refine wpQuiet_nil ?_
  intro w6 hC6
  have hb6 := Below.then hb04 hC6.bel
  clear hC hC6 hb04 HR HT HE4
  go_wp2
  go_ret
  exact ⟨rfl, hb6⟩
theorem sign_back (v : Int) (h1 : -1000000000000000000 ≤ v) (h2 : v ≤ 1000000000000000000) : signK (decide (v < 0)) (v.natAbs / 1000000 * 1000000 + v.natAbs % 1000000) = 0 ∧ signN (decide (v < 0)) (v.natAbs / 1000000 * 1000000 + v.natAbs % 1000000) = v := by
  rw [show v.natAbs / 1000000 * 1000000 + v.natAbs % 1000000 = v.natAbs by omega]
  unfold signK signN
  rw [if_neg (by omega), if_neg (by omega)]
  refine ⟨rfl, ?_⟩
  by_cases h : v < 0
  · simp [h]; omega
  · simp [h]; omega
theorem top_walk (k v : Int) (wide : Bool) (w : World) (hE : TopEnv w) :
    Calls Tryz.prog 3 #[.agg #[.int .i64 k, .int .i64 v], .bool wide] w fun e w' => e = .returned (.bool true) ∧ Below w.heap.size w w' := by
  cases hr : rightB k v
  · exact top_not k v wide w hE (.inl hr)
  · rcases right_cases hr with ⟨rfl, h1, h2⟩ | ⟨rfl, rfl⟩ | ⟨rfl, rfl⟩ | ⟨rfl, rfl⟩
    · obtain ⟨e1, e2⟩ := sign_back v h1 h2
      have hm : v.natAbs % 1000000 < 1000000 := by omega
      have hn : v.natAbs / 1000000 * 1000000 + v.natAbs % 1000000 ≤ 1000000000000000000 := by omega
      have hX := fun (w : World) (hE : TopEnv w) => text_fin v w hE.pow h1 h2
      have hP := fun (s : ByteArray) (hs : s.size ≤ 1000) (htr : Lib.trimF blankP s = ⟨(textL (decide (v < 0)) (v.natAbs / 1000000) (v.natAbs % 1000000)).toArray⟩) (w : World) (hE : TopEnv w) => parse_around s (decide (v < 0)) (v.natAbs / 1000000) (v.natAbs % 1000000) w hs htr hE.env.len hE.env.tabs hm hn
      have hl := text_len (decide (v < 0)) (v.natAbs / 1000000) (v.natAbs % 1000000) hm hn
      have h0 := text_ne (decide (v < 0)) (v.natAbs / 1000000) (v.natAbs % 1000000)
      have hg : ∀ b ∈ textL (decide (v < 0)) (v.natAbs / 1000000) (v.natAbs % 1000000), 45 ≤ b.toNat ∧ b.toNat ≤ 122 := fun b hb => by
        have := text_range (decide (v < 0)) (v.natAbs / 1000000) (v.natAbs % 1000000) hm b hb
        omega
      rw [e1, e2] at hP
      generalize textL (decide (v < 0)) (v.natAbs / 1000000) (v.natAbs % 1000000) = T at *
      have ha : (aroundL T).length = T.length + 3 := by simp [aroundL]
      have hp := around_plain T hg
      obtain ⟨c1, c2⟩ := plain_enc (aroundL T) wide hp (by omega)
      have hpb := plain_back (aroundL T) wide hp (by omega)
      refine top_core v wide T (encV ⟨(aroundL T).toArray⟩ wide).1 w hE hr (by omega) hX (hP _ (by rw [mk_size]; omega) (around_trim T h0 hg)) (hP _ (by rw [mk_size]; omega) (range_trim T h0 hg)) ?_ ?_ ?_
      · intro w
        have h := trim_is ⟨(aroundL T).toArray⟩ w (by rw [mk_size]; omega)
        rw [mk_list, around_trimU T hg] at h
        exact h
      · intro w hE
        have h := encode_any ⟨(aroundL T).toArray⟩ wide w (by rw [mk_size]; omega) hE.env
        rw [c1] at h
        exact h
      · intro w b hE hb
        have h := decode_any b (encV ⟨(aroundL T).toArray⟩ wide).1 w hE.env hb (by omega)
        rw [hpb] at h
        exact h
    · exact top_not 1 0 wide w hE (.inr ⟨hr, rfl⟩)
    · exact top_not 2 0 wide w hE (.inr ⟨hr, rfl⟩)
    · exact top_not 3 0 wide w hE (.inr ⟨hr, rfl⟩)
end Go.Proofs.YtfgifocgkiploaaGreatDoor
