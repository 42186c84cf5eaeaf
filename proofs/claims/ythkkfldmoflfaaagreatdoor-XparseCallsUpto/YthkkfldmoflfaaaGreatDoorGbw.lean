/- Several texts, laid as one. -/
import Derived.Test.YthkkfldmoflfaaaGreatDoorGbt
import Derived.Test.YthkkfldmoflfaaaGreatDoorGbv
import Derived.Deep.Strs
import Derived.Lib.LaidU8
import Derived.HandedShaped
import Derived.WalkKit
import Derived.ProofKit
import Derived.OpenShut
import Derived.ShutString
import Derived.Deep.DeepHandedRow
import Derived.Lib.LaidTab
/- XparseCalls: a function's arguments are the expressions between ( , and ). -/
namespace Go.Proofs.YthkkfldmoflfaaaGreatDoor
open Go.RowKit Go.Maps
theorem argB_size (s : ByteArray) : ∀ k, k ≤ 3 → (argB s k).size ≤ k * (s.size + 2)
  | 0, _ => Nat.zero_le _
  | 1, _ => by simp only [argB, ByteArray.size_append]; show 0 + (1 + s.size) ≤ _; omega
  | k + 2, h => by
    have := argB_size s (k + 1) (by omega)
    simp only [argB, ByteArray.size_append]
    show (argB s (k + 1)).size + 1 + (1 + s.size) ≤ _
    rw [Nat.add_mul] at this ⊢
    omega
set_option maxRecDepth 100000 in
set_option maxHeartbeats 2000000 in
theorem calls_gen (s : ByteArray) (K : Nat) (n : Int) (hK : K ≤ 3) (hn : n % 4 = (K : Int)) (hn0 : 0 ≤ n ∧ n < 256) (hs : s.size ≤ 140737488355328) (r1 r2 : Except Int Ex) (hP1 : ParseIs s r1) (hP2 : ParseIs (callB s K) r2) (w : World) (hE : Env6 w)
    (h0 : K = 0 → r2 = .ok (.mk 19 [102] 0 0 0 [])) (h1 : 0 < K → (∀ k, r1 = .error k → k ≠ 0) ∧ (∀ k, r2 = .error k → k ≠ 0) ∧ (∀ y, r2 = .ok y → ∃ c, jRight flX (wt y) 0 0 y = some (true, c)) ∧ (∀ x, r1 = .ok x → smallX x = true ∧ (∃ c, jRight flX (wt x) 0 0 x = some (true, c)) ∧ (r2 = .ok (.mk 19 [102] 0 0 0 (List.replicate K x)) ∨ r2 = .error 6)) ∧ (∀ k y, r1 = .error k → r2 = .ok y → y.kids.length ≠ K ∨ (comB s = true ∧ s.size ≤ 512))) :
    Calls Tryz.prog 5 #[.string s, .int .u8 n] w fun e w' => e = .returned (.bool true) ∧ Below w.heap.size w w' := by
  have HG := hide hE.env
  have HE := hide hE
  have HL := hide (fun w hE => live6_any w hE)
  have HP1 := hide hP1
  have HP2 := hide hP2
  have H0 := hide h0
  have H1 := hide h1
  have HN := hide hn0
  clear hE hP1 hP2 h0 h1 hn0
  go_enter Tryz.func5, Tryz.ntmps5
  go_wp2_with fail
  refine ((unhide HP1).one w (unhide HG)).mono ?_
  rintro e w1 ⟨x1, al1, c1, f1, rfl, hx1, hb1, hr1⟩
  have hb1a : Below w1.heap.size w1 (w1.alloc (oneB x1 (.slice al1 x1.kids.length c1))) := (Below.refl _ _).alloc (Nat.le_refl _) _
  have HB1 := hide (Below.then hb1 hb1a)
  have HQ1 := hide (palloc_new w1 (oneB x1 (.slice al1 x1.kids.length c1)))
  have HX1 := hide (hx1.below hb1a)
  have HR1 := hide hr1
  have wn : IntKind.i64.wrap n = n := by have := unhide HN; rw [wrap_small] <;> omega
  clear hx1 hb1 hb1a hr1
  go_wp2_with fail
  have ht : n.tmod 4 = (K : Int) := by rw [Int.tmod_eq_emod_of_nonneg (unhide HN).1, hn]
  rw [ht]
  clear ht hn wn
  go_loop [8, 9] (fun vt vi => ∃ (i : Nat) (G : ByteArray), vi = .int .i64 (i : Nat) ∧ vt = .string G ∧ i ≤ K ∧ Hid (G = argB s i)) (fun vt vi => K - (intOf vi).toNat)
  case atStart => exact ⟨0, _, rfl, rfl, Nat.zero_le _, hide rfl⟩
  case round =>
    obtain ⟨i, G, rfl, rfl, hi, HGA⟩ := hrel
    have hz := argB_size s i (by omega)
    rw [← unhide HGA] at hz
    have hz2 : G.size ≤ 3 * (s.size + 2) := Nat.le_trans hz (Nat.mul_le_mul_right _ (by omega))
    by_cases hiK : i < K
    · have n0 : decide ((i : Int) < (K : Int)) = true := decide_eq_true (by omega)
      have n0' : decide (i < K) = true := decide_eq_true hiK
      have hw : IntKind.i64.wrap ((i : Int) + 1) = ((i + 1 : Nat) : Int) := by rw [wrap_small] <;> omega
      have y1 : (9223372036854775807 < 1 + s.size) = False := by simp; omega
      by_cases hi0 : i = 0
      · subst hi0
        have HG2 : Hid (G ++ (⟨#[32]⟩ ++ s) = argB s 1) := hide (by rw [unhide HGA]; rfl)
        have y2 : (9223372036854775807 < G.size + (1 + s.size)) = False := by simp; omega
        clear hz hz2
        go_wp2_with fail
        exact ⟨⟨1, _, by go_num, rfl, by omega, HG2⟩, by show K - 1 < K - 0; omega⟩
      · have n1 : decide ((0 : Int) < (i : Int)) = true := decide_eq_true (by omega)
        have n1' : decide (0 < i) = true := decide_eq_true (by omega)
        have HG2 : Hid (G ++ ⟨#[44]⟩ ++ (⟨#[32]⟩ ++ s) = argB s (i + 1)) := hide (by
          rw [unhide HGA]
          obtain ⟨j, rfl⟩ : ∃ j, i = j + 1 := ⟨i - 1, by omega⟩
          rfl)
        have y2 : (9223372036854775807 < G.size + 1) = False := by simp; omega
        have y3 : (9223372036854775807 < G.size + 1 + (1 + s.size)) = False := by simp; omega
        clear hz hz2
        go_wp2_with fail
        exact ⟨⟨i + 1, _, by go_num, rfl, by omega, HG2⟩, by show K - ((i : Int) + 1).toNat < K - (i : Int).toNat; omega⟩
    · have n0 : decide ((i : Int) < (K : Int)) = false := decide_eq_false (by omega)
      have n0' : decide (i < K) = false := decide_eq_false hiK
      obtain rfl : i = K := by omega
      have y2 : (9223372036854775807 < 2 + G.size) = False := by simp; omega
      have y3 : (9223372036854775807 < 2 + G.size + 1) = False := by simp; omega
      have HP3 : Hid (ParseIs (⟨#[102, 40]⟩ ++ G ++ ⟨#[41]⟩) r2) := hide (by
        have h := unhide HP2
        unfold callB at h
        rw [unhide HGA]
        exact h)
      clear hz hz2 HGA HP2 hiK
      go_wp2_with fail
      refine ((unhide HP3).one _ ((unhide HG).below (unhide HB1))).mono ?_
      rintro e w2 ⟨x2, al2, c2, f2, rfl, hx2, hb2, hr2⟩
      have hb2a : Below w2.heap.size w2 (w2.alloc (oneB x2 (.slice al2 x2.kids.length c2))) := (Below.refl _ _).alloc (Nat.le_refl _) _
      have HB2 := hide (Below.then (unhide HB1) (Below.then hb2 hb2a))
      have HQ2a := hide (blockB (unhide HQ1) (Below.then hb2 hb2a))
      have HX2a := hide ((unhide HX1).below (Below.then hb2 hb2a))
      have HQ2 := hide (palloc_new w2 (oneB x2 (.slice al2 x2.kids.length c2)))
      have HX2 := hide (hx2.below hb2a)
      have HR2 := hide hr2
      clear hx2 hb2 hb2a hr2 HB1 HQ1 HX1 y2 y3
      by_cases hi0 : i = 0
      · subst hi0
        have e2 := unhide H0 rfl
        have k2 : f2 = 0 ∧ x2 = .mk 19 [102] 0 0 0 [] := by
          rcases unhide HR2 with ⟨h, h0⟩ | h <;> rw [e2] at h <;> cases h
          exact ⟨h0, rfl⟩
        obtain ⟨rfl, hx2⟩ := k2
        have HC := hide (unhide HL _ ((unhide HE).below (unhide HB2)))
        clear HR1 HR2 H0 H1 e2 HL HX2a HQ2a HX2 HP3
        have y0 : (w2.alloc (oneB x2 (.slice al2 x2.kids.length c2))).cell? ⟨w2.heap.size, 0, none⟩ = some (.int .i64 19) := by
          have := (var_cells (unhide HQ2)).1
          rw [hx2] at this ⊢
          exact this
        have y6 : (w2.alloc (oneB x2 (.slice al2 x2.kids.length c2))).cell? ⟨w2.heap.size, 6, none⟩ = some (.slice al2 0 c2) := by
          have := (var_cells (unhide HQ2)).2.2.2.2.2.2
          rw [hx2] at this ⊢
          exact this
        have Y0 := hide y0
        have Y6 := hide y6
        clear y0 y6 hx2 HQ2
        go_wp2_with fail
        refine (unhide HC).mono ?_
        rintro e w3 ⟨rfl, hb3⟩
        have y0 := pkept hb3 (unhide Y0)
        have y6 := pkept hb3 (unhide Y6)
        have HB3 := hide (Below.then (unhide HB2) hb3)
        clear hb3 HC Y0 Y6
        go_wp2_with fail
        go_returns
        exact ⟨rfl, unhide HB3⟩
      · have h1 := unhide H1 (by omega)
        have HC := hide (unhide HL _ ((unhide HE).below (unhide HB2)))
        have m1 : (((i : Nat) : Int) == 0) = false := by simpa using hi0
        by_cases hf1 : f1 = 0
        · subst hf1
          have e1 : r1 = .ok x1 := by
            rcases unhide HR1 with ⟨h, _⟩ | h
            · exact h
            · exact absurd rfl (h1.1 _ h)
          obtain ⟨z1, _, z3⟩ := h1.2.2.2.1 x1 e1
          rcases z3 with e2 | e2
          · obtain ⟨c, hj⟩ := h1.2.2.1 _ e2
            have k2 : f2 = 0 ∧ x2 = .mk 19 [102] 0 0 0 (List.replicate i x1) := by
              rcases unhide HR2 with ⟨h, h0⟩ | h <;> rw [e2] at h <;> cases h
              exact ⟨h0, rfl⟩
            obtain ⟨rfl, hx2⟩ := k2
            have HOK : Hid (okX x1) := hide (by
              obtain ⟨j, rfl⟩ : ∃ j, i = j + 1 := ⟨i - 1, by omega⟩
              exact okX_kid z1 hj)
            have hln : x2.kids.length = i := by rw [hx2]; exact List.length_replicate
            have hkq : ∀ q, q < i → x2.kids[q]? = some x1 := fun q hq => by
              rw [hx2]
              show (List.replicate i x1)[q]? = some x1
              rw [List.getElem?_replicate, if_pos hq]
            have HKQ := hide hkq
            have hy := var_cells (unhide HQ2)
            have y0 : (w2.alloc (oneB x2 (.slice al2 x2.kids.length c2))).cell? ⟨w2.heap.size, 0, none⟩ = some (.int .i64 19) := by
              have := hy.1
              rw [show (x2.op : Nat) = 19 by rw [hx2]; rfl] at this
              exact this
            have y1 : (w2.alloc (oneB x2 (.slice al2 x2.kids.length c2))).cell? ⟨w2.heap.size, 1, none⟩ = some (.string ⟨#[102]⟩) := by
              have := hy.2.1
              rw [show x2.text = [102] by rw [hx2]; rfl, show T [102] = ⟨#[102]⟩ from rfl] at this
              exact this
            have y6 : (w2.alloc (oneB x2 (.slice al2 x2.kids.length c2))).cell? ⟨w2.heap.size, 6, none⟩ = some (.slice al2 i c2) := by
              refine hy.2.2.2.2.2.2.trans ?_
              rw [hln]
            have Y0 := hide y0
            have Y1 := hide y1
            have Y6 := hide y6
            have m2 : (((i : Nat) : Int) != ((i : Nat) : Int)) = false := bne_self_eq_false _
            clear HR1 HR2 H0 H1 h1 e1 e2 z1 hj HP1 HP3 hy hkq hx2 hln y0 y1 HQ2 HC
            go_wp2_with fail
            clear y6
            go_loopw [12] (fun vi wr => ∃ q : Nat, vi = .int .i64 (q : Nat) ∧ q ≤ i ∧ Hid (Below (w2.alloc (oneB x2 (.slice al2 x2.kids.length c2))).heap.size (w2.alloc (oneB x2 (.slice al2 x2.kids.length c2))) wr)) (fun vi _ => i - (intOf vi).toNat)
            case atStart => exact ⟨0, rfl, Nat.zero_le _, hide (Below.refl _ _)⟩
            case round =>
              obtain ⟨q, rfl, hq, HBL⟩ := hrel
              have y6 := pkept (unhide HBL) (unhide Y6)
              by_cases hqi : q < i
              · obtain ⟨g, o, al1', cc1, ev, hk1, k0, k1, k2, k3, k4, k5, k6⟩ := ((unhide HX2).below (unhide HBL)).ks.kid7 q x1 (unhide HKQ q hqi)
                have n1 : decide ((q : Int) < (i : Int)) = true := decide_eq_true (by omega)
                have n1' : decide (q < i) = true := decide_eq_true hqi
                have hw : IntKind.i64.wrap ((q : Int) + 1) = ((q + 1 : Nat) : Int) := by rw [wrap_small] <;> omega
                cases ev
                obtain ⟨a0, a1, a2, a3, a4, a5, a6⟩ := var_cells (blockB (unhide HQ2a) (unhide HBL))
                have hC0 : ∀ w', ClsW wr w' → Calls Tryz.prog 8 #[exAgg x1 (.slice al1' x1.kids.length cc1), exAgg x1 (.slice al1 x1.kids.length c1)] w' fun e w2 => e = .returned (.bool true) ∧ Below w'.heap.size w' w2 := fun w' hC => by
                  have h := refSameAll_ok x1 x1 al1' al1 cc1 c1 w' _ _ ((unhide HG).below (Below.then (unhide HB2) (Below.then (unhide HBL) hC))) (hk1.below hC) (((unhide HX2a).below (unhide HBL)).below hC) (unhide HOK) (unhide HOK)
                  rw [sameX_me] at h
                  exact h
                have HC := hide hC0
                have HCE := hide (fun w' (hC : ClsW wr w') => (⟨pkept hC y6, pkept hC a0, pkept hC a1, pkept hC a2, pkept hC a3, pkept hC a4, pkept hC a5, pkept hC a6, pkept hC k0, pkept hC k1, pkept hC k2, pkept hC k3, pkept hC k4, pkept hC k5, pkept hC k6⟩ : _ ∧ _ ∧ _ ∧ _ ∧ _ ∧ _ ∧ _ ∧ _ ∧ _ ∧ _ ∧ _ ∧ _ ∧ _ ∧ _ ∧ _))
                have HXD : Hid (ClsW wr wr.drew) := hide ((Below.refl _ _).drew)
                clear hC0 hk1 a0 a1 a2 a3 a4 a5 a6 k0 k1 k2 k3 k4 k5 k6 y6
                go_wp2_with fail
                refine wp_region_cls (ClsW wr) (by kernel_rfl) (by kernel_rfl) (unhide HXD) ?_
                repeat
                  (first
                    | go_big_quiet_skip
                    | (go_big_quiet_want
                       go_big_quiet_op
                       first
                         | go_big_quiet_on
                         | (apply Exists.intro
                            refine ⟨fun w' hC => ?_, ?_⟩
                            · (first
                                | (go_at_call 8; refine (unhide HC _ hC).mono ?_; rintro e w3 ⟨rfl, hb3⟩; exact ⟨rfl, Below.then hC hb3⟩)
                                | (obtain ⟨y6, a0, a1, a2, a3, a4, a5, a6, k0, k1, k2, k3, k4, k5, k6⟩ := unhide HCE _ hC; go_simp; first | done | rfl))
                            go_big_quiet_on)))
                refine wpQuiet_nil ?_
                intro w5 hb5
                have HB5 := hide (Below.then (unhide HBL) hb5)
                clear hb5 HC HCE HXD
                go_wp2_with fail
                exact ⟨⟨q + 1, by go_num, by omega, HB5⟩, by show i - ((q : Int) + 1).toNat < i - (q : Int).toNat; omega⟩
              · have n1 : decide ((q : Int) < (i : Int)) = false := decide_eq_false (by omega)
                have n1' : decide (q < i) = false := decide_eq_false hqi
                obtain rfl : q = i := by omega
                have HC := hide (unhide HL _ ((unhide HE).below (Below.then (unhide HB2) (unhide HBL))))
                go_wp2_with fail
                refine (unhide HC).mono ?_
                rintro e w4 ⟨rfl, hb4⟩
                have y0 := pkept (Below.then (unhide HBL) hb4) (unhide Y0)
                have y1 := pkept (Below.then (unhide HBL) hb4) (unhide Y1)
                have y6' := pkept (Below.then (unhide HBL) hb4) (unhide Y6)
                have HB4 := hide (Below.then (unhide HB2) (Below.then (unhide HBL) hb4))
                clear hb4 HC y6
                go_wp2_with fail
                go_returns
                exact ⟨rfl, unhide HB4⟩
          · have k2 : f2 = 6 := by
              rcases unhide HR2 with ⟨h, h0⟩ | h <;> rw [e2] at h <;> cases h
              rfl
            subst k2
            clear HR1 HR2 H0 H1 h1 e1 e2 z1
            go_wp2_with fail
            refine (unhide HC).mono ?_
            rintro e w3 ⟨rfl, hb3⟩
            have HB3 := hide (Below.then (unhide HB2) hb3)
            clear hb3 HC
            go_wp2_with fail
            go_returns
            exact ⟨rfl, unhide HB3⟩
        · have n1 : (f1 != 0) = true := by simpa using hf1
          have e1 : r1 = .error f1 := by
            rcases unhide HR1 with ⟨_, h⟩ | h
            · exact absurd h hf1
            · exact h
          by_cases hf2 : f2 = 0
          · subst hf2
            have e2 : r2 = .ok x2 := by
              rcases unhide HR2 with ⟨h, _⟩ | h
              · exact h
              · exact absurd rfl (h1.2.1 _ h)
            have hc := h1.2.2.2.2 _ _ e1 e2
            have HL2 := hide (var_cells (unhide HQ2)).2.2.2.2.2.2
            clear HR1 HR2 H0 H1 h1 e1 e2 HQ2
            by_cases hln : x2.kids.length = i
            · have hc2 : comB s = true ∧ s.size ≤ 512 := hc.resolve_left (fun h => h hln)
              have HCM := hide (fun w => commas_any s w hc2.2)
              rw [hc2.1] at HCM
              have n3 : (((x2.kids.length : Nat) : Int) != ((i : Nat) : Int)) = false := by rw [hln]; exact bne_self_eq_false _
              clear hc hc2 hln
              go_wp2_with fail
              refine (unhide HC).mono ?_
              rintro e w3 ⟨rfl, hb3⟩
              have y6 := pkept hb3 (unhide HL2)
              have HB3 := hide (Below.then (unhide HB2) hb3)
              clear hb3 HC HL2
              go_wp2_with fail
              refine (unhide HCM w3).mono ?_
              rintro e w4 ⟨rfl, rfl⟩
              go_wp2_with fail
              go_returns
              exact ⟨rfl, unhide HB3⟩
            · have n3 : (((x2.kids.length : Nat) : Int) != ((i : Nat) : Int)) = true := by rw [bne_iff_ne]; omega
              clear hc hln
              go_wp2_with fail
              refine (unhide HC).mono ?_
              rintro e w3 ⟨rfl, hb3⟩
              have y6 := pkept hb3 (unhide HL2)
              have HB3 := hide (Below.then (unhide HB2) hb3)
              clear hb3 HC HL2
              go_wp2_with fail
              go_returns
              exact ⟨rfl, unhide HB3⟩
          · have n2 : (f2 != 0) = true := by simpa using hf2
            clear HR1 HR2 H0 H1 h1 e1 hf1 hf2
            go_wp2_with fail
            refine (unhide HC).mono ?_
            rintro e w3 ⟨rfl, hb3⟩
            have HB3 := hide (Below.then (unhide HB2) hb3)
            clear hb3 HC
            go_wp2_with fail
            go_returns
            exact ⟨rfl, unhide HB3⟩
end Go.Proofs.YthkkfldmoflfaaaGreatDoor
/- XparseCalls: for every text and every number. -/
namespace Go.Proofs.YthkkfldmoflfaaaGreatDoor
open Go.RowKit Go.Maps
theorem call0_T (s : ByteArray) : callB s 0 = T [102, 40, 41] := by
  refine arr_ext ?_
  rw [T_data]
  unfold callB
  simp only [argB, ByteArray.data_append, Array.toList_append]
  rfl
theorem says_call0 : saysT [102, 40, 41] = .ok (.mk 19 [102] 0 0 0 []) := by kernel_rfl
theorem calls_walk (s : ByteArray) (n : Int) (hn0 : 0 ≤ n ∧ n < 256) (hs : s.size ≤ 140737488355328) (w : World) (hE : Env6 w) :
    Calls Tryz.prog 5 #[.string s, .int .u8 n] w fun e w' => e = .returned (.bool true) ∧ Below w.heap.size w w' := by
  obtain ⟨K, hK⟩ : ∃ K : Nat, (K : Int) = n % 4 := ⟨(n % 4).toNat, by omega⟩
  cases K with
  | zero =>
    obtain ⟨r1, hP1, _⟩ := parse_any s
    have h := parse_T [102, 40, 41] (fun c hc => by
      simp only [List.mem_cons, List.not_mem_nil, or_false] at hc
      rcases hc with rfl | rfl | rfl <;> decide) (by decide)
    rw [says_call0, ← call0_T s] at h
    exact calls_gen s 0 n (by omega) hK.symm hn0 hs r1 _ hP1 h w hE (fun _ => rfl) (fun h => absurd h (by omega))
  | succ j =>
    obtain ⟨r1, r2, hP1, hP2, q1, q2, q3, q4, q5⟩ := call_says s j (by omega)
    exact calls_gen s (j + 1) n (by omega) hK.symm hn0 hs r1 r2 hP1 hP2 w hE (fun h => absurd h (by omega)) fun _ => ⟨q1, q2, q3, q4, q5⟩
end Go.Proofs.YthkkfldmoflfaaaGreatDoor
/- From what a row of layer 6 lists of the library's, xplex's and xparse's tables, and from the world's shape, to what the walks ask. -/
namespace Go.Proofs.YthkkfldmoflfaaaGreatDoor
open Go.ChangeShapes Go.WideShapes Go.ChangeAt Go.RowKit
theorem u8extra : U8Extra Tryz.prog Tryz.lays260_ren where
  n3 := by kernel_rfl
  n4 := by kernel_rfl
  y3 := by kernel_rfl
  y4 := by kernel_rfl
  c5 := by kernel_rfl
  c119 := by kernel_rfl
  c138 := by kernel_rfl
theorem first_data : Rows.laid_unicode_utf8_first = Lib.firstData := by kernel_rfl
theorem accept_data : Rows.laid_unicode_utf8_acceptRanges = Lib.acceptData := by kernel_rfl
theorem signs_data : Rows.laid_stencil_xplex_signs = (.agg (signL.map fun x => .agg [.lit (.int .i64 (x.1 : Nat)), .lit (.string (tx x.2)), .lit (.int .i64 0)]) : DataW Unit) := by kernel_rfl
theorem cellsKind : Tryz.prog.cellsOf 60 = 1 := by kernel_rfl
theorem cellsString : Tryz.prog.cellsOf 9 = 1 := by kernel_rfl
theorem cellsInt : Tryz.prog.cellsOf 3 = 1 := by kernel_rfl
theorem cellsLex : Tryz.prog.cellsOf 62 = 3 := by kernel_rfl
theorem lex_trod {w : World} {fuel : Nat} {cs : List Value} {k a : Int} {s : List UInt8} {q : List MemPlace}
    (h : DataW.trod (fun _ => ()) Tryz.prog w 0 (fun _ => true) false fuel 62 cs = some (.agg [.lit (.int .i64 k), .lit (.string s), .lit (.int .i64 a)], q)) : cs = [.int .i64 k, .string ⟨s.toArray⟩, .int .i64 a] := by
  obtain ⟨y0, y1, y2, n, hx, hl, h0, h1, h2⟩ := Deep.trod_struct3 Tryz.underlying62 h
  rw [cellsLex] at hl
  simp only [cellsKind, cellsString, cellsInt] at h0 h1 h2
  obtain ⟨z0, e0, rfl, _⟩ := DataW.trod_int Tryz.underlying60 h0
  obtain ⟨z1, e1, rfl, _⟩ := DataW.trod_string Tryz.underlying9 h1
  obtain ⟨z2, e2, rfl, _⟩ := DataW.trod_int Tryz.underlying3 h2
  match cs, hl with
  | [v0, v1, v2], _ =>
    simp at e0 e1 e2
    simp at hx
    obtain ⟨⟨rfl, rfl, rfl⟩, _⟩ := hx
    subst e0 e1 e2
    rfl
theorem signs_of_reads {w : World} (h : Lib.VarReads Tryz.prog w "stencil/xplex.signs" (.agg (signL.map fun x => .agg [.lit (.int .i64 (x.1 : Nat)), .lit (.string (tx x.2)), .lit (.int .i64 0)]))) : w.rangeAt 0 0 signCells := by
  obtain ⟨g, t, cs, fuel, p, hg, hty, hvar, hd⟩ := h
  obtain rfl := Option.some.inj ((show Tryz.prog.globalNamed "stencil/xplex.signs" = some 0 by kernel_rfl).symm.trans hg)
  obtain rfl := Option.some.inj ((show (Tryz.prog.globals[0]?).map (·.type) = some 89 by kernel_rfl).symm.trans hty)
  have key : ∀ i, i < 20 → ((cs.toList.drop (i * 3)).take 3) = [.int .i64 ((signAt i).1 : Nat), .string (T (signAt i).2), .int .i64 0] := by
    intro i hi
    obtain ⟨fuel', d, q, hdi, he⟩ := Lib.array_elem Tryz.underlying89 hd i hi
    rw [cellsLex] at he
    rw [List.getElem?_map, List.getElem?_eq_getElem (by rw [sign_len]; exact hi), sign_get hi] at hdi
    simp only [Option.map_some, Option.some.injEq] at hdi
    subst hdi
    exact lex_trod he
  intro j v hv
  have hj : j < 60 := by
    have h60 : signCells.length = 60 := by decide +kernel
    have := (List.getElem?_eq_some_iff.1 hv).1
    omega
  rw [Nat.zero_add, World.var?_cell hg hvar j, ← Array.getElem?_toList]
  have hk := congrArg (·[j % 3]?) (key (j / 3) (by omega))
  simp only [List.getElem?_take, List.getElem?_drop] at hk
  rw [if_pos (by omega), show j / 3 * 3 + j % 3 = j by omega] at hk
  rw [hk]
  have hs : ∀ i, i < 20 → ∀ r, r < 3 → ([.int .i64 ((signAt i).1 : Nat), .string (T (signAt i).2), .int .i64 0] : List Value)[r]? = signCells[i * 3 + r]? := by
    intro i hi r hr
    rcases (show i = 0 ∨ i = 1 ∨ i = 2 ∨ i = 3 ∨ i = 4 ∨ i = 5 ∨ i = 6 ∨ i = 7 ∨ i = 8 ∨ i = 9 ∨ i = 10 ∨ i = 11 ∨ i = 12 ∨ i = 13 ∨ i = 14 ∨ i = 15 ∨ i = 16 ∨ i = 17 ∨ i = 18 ∨ i = 19 by omega) with rfl | rfl | rfl | rfl | rfl | rfl | rfl | rfl | rfl | rfl | rfl | rfl | rfl | rfl | rfl | rfl | rfl | rfl | rfl | rfl <;> (rcases (show r = 0 ∨ r = 1 ∨ r = 2 by omega) with rfl | rfl | rfl <;> rfl)
  rw [hs (j / 3) (by omega) (j % 3) (by omega), show j / 3 * 3 + j % 3 = j by omega]
  exact hv
theorem str_trod {w : World} {fuel : Nat} {cs : List Value} {s : List UInt8} {q : List MemPlace}
    (h : DataW.trod (fun _ => ()) Tryz.prog w 0 (fun _ => true) false fuel 9 cs = some (.lit (.string s), q)) : cs = [.string ⟨s.toArray⟩] := by
  obtain ⟨z1, e1, e2, _⟩ := DataW.trod_string Tryz.underlying9 h
  rw [e1]
  simp at e2
  obtain ⟨rfl, _⟩ := e2
  rfl
theorem axAt_get : ∀ i, i < 12 → axisL[i]? = some (axAt i) := by decide
theorem tyAt_get : ∀ i, i < 4 → typeL[i]? = some (tyAt i) := by decide
theorem opAt_get : ∀ i, i < 14 → opTab[i]? = some (opAt i) := by decide
theorem axes_data : Rows.laid_stencil_xparse_axes = (.agg (axisL.map fun x => .lit (.string (tx x))) : DataW Unit) := by kernel_rfl
theorem axes_of_reads {w : World} (h : Lib.VarReads Tryz.prog w "stencil/xparse.axes" (.agg (axisL.map fun x => .lit (.string (tx x))))) : w.rangeAt 4 0 axCells := by
  obtain ⟨g, t, cs, fuel, p, hg, hty, hvar, hd⟩ := h
  obtain rfl := Option.some.inj ((show Tryz.prog.globalNamed "stencil/xparse.axes" = some 4 by kernel_rfl).symm.trans hg)
  obtain rfl := Option.some.inj ((show (Tryz.prog.globals[4]?).map (·.type) = some 148 by kernel_rfl).symm.trans hty)
  have key : ∀ i, i < 12 → ((cs.toList.drop (i * 1)).take 1) = [.string (T (axAt i))] := by
    intro i hi
    obtain ⟨fuel', d, q, hdi, he⟩ := Lib.array_elem Tryz.underlying148 hd i hi
    rw [cellsString] at he
    rw [List.getElem?_map, axAt_get i hi] at hdi
    simp only [Option.map_some, Option.some.injEq] at hdi
    subst hdi
    exact str_trod he
  intro j v hv
  have hj : j < 12 := by
    have h60 : axCells.length = 12 := by decide
    have := (List.getElem?_eq_some_iff.1 hv).1
    omega
  rw [Nat.zero_add, World.var?_cell hg hvar j, ← Array.getElem?_toList]
  have hk := congrArg (·[0]?) (key j hj)
  simp only [List.getElem?_take, List.getElem?_drop] at hk
  rw [if_pos (by omega), Nat.mul_one, Nat.add_zero] at hk
  rw [hk]
  have hs : ∀ i, i < 12 → axCells[i]? = some (.string (T (axAt i))) := by
    intro i hi
    unfold axCells
    rw [List.getElem?_map, axAt_get i hi]
    rfl
  rw [hs j hj] at hv
  exact hv
theorem types_data : Rows.laid_stencil_xparse_types = (.agg (typeL.map fun x => .lit (.string (tx x))) : DataW Unit) := by kernel_rfl
theorem types_of_reads {w : World} (h : Lib.VarReads Tryz.prog w "stencil/xparse.types" (.agg (typeL.map fun x => .lit (.string (tx x))))) : w.rangeAt 5 0 tyCells := by
  obtain ⟨g, t, cs, fuel, p, hg, hty, hvar, hd⟩ := h
  obtain rfl := Option.some.inj ((show Tryz.prog.globalNamed "stencil/xparse.types" = some 5 by kernel_rfl).symm.trans hg)
  obtain rfl := Option.some.inj ((show (Tryz.prog.globals[5]?).map (·.type) = some 149 by kernel_rfl).symm.trans hty)
  have key : ∀ i, i < 4 → ((cs.toList.drop (i * 1)).take 1) = [.string (T (tyAt i))] := by
    intro i hi
    obtain ⟨fuel', d, q, hdi, he⟩ := Lib.array_elem Tryz.underlying149 hd i hi
    rw [cellsString] at he
    rw [List.getElem?_map, tyAt_get i hi] at hdi
    simp only [Option.map_some, Option.some.injEq] at hdi
    subst hdi
    exact str_trod he
  intro j v hv
  have hj : j < 4 := by
    have h60 : tyCells.length = 4 := by decide
    have := (List.getElem?_eq_some_iff.1 hv).1
    omega
  rw [Nat.zero_add, World.var?_cell hg hvar j, ← Array.getElem?_toList]
  have hk := congrArg (·[0]?) (key j hj)
  simp only [List.getElem?_take, List.getElem?_drop] at hk
  rw [if_pos (by omega), Nat.mul_one, Nat.add_zero] at hk
  rw [hk]
  have hs : ∀ i, i < 4 → tyCells[i]? = some (.string (T (tyAt i))) := by
    intro i hi
    unfold tyCells
    rw [List.getElem?_map, tyAt_get i hi]
    rfl
  rw [hs j hj] at hv
  exact hv
theorem cellsOp : Tryz.prog.cellsOf 24 = 1 := by kernel_rfl
theorem cellsOper : Tryz.prog.cellsOf 121 = 3 := by kernel_rfl
theorem oper_trod {w : World} {fuel : Nat} {cs : List Value} {k a : Int} {s : List UInt8} {q : List MemPlace}
    (h : DataW.trod (fun _ => ()) Tryz.prog w 0 (fun _ => true) false fuel 121 cs = some (.agg [.lit (.string s), .lit (.int .i64 k), .lit (.int .i64 a)], q)) : cs = [.string ⟨s.toArray⟩, .int .i64 k, .int .i64 a] := by
  obtain ⟨y0, y1, y2, n, hx, hl, h0, h1, h2⟩ := Deep.trod_struct3 Tryz.underlying121 h
  rw [cellsOper] at hl
  simp only [cellsOp, cellsString, cellsInt] at h0 h1 h2
  obtain ⟨z0, e0, rfl, _⟩ := DataW.trod_string Tryz.underlying9 h0
  obtain ⟨z1, e1, rfl, _⟩ := DataW.trod_int Tryz.underlying24 h1
  obtain ⟨z2, e2, rfl, _⟩ := DataW.trod_int Tryz.underlying3 h2
  match cs, hl with
  | [v0, v1, v2], _ =>
    simp at e0 e1 e2
    simp at hx
    obtain ⟨⟨rfl, rfl, rfl⟩, _⟩ := hx
    subst e0 e1 e2
    rfl
theorem oper_data : Rows.laid_stencil_xparse_operators = (.agg (opTab.map fun x => .agg [.lit (.string (tx x.1)), .lit (.int .i64 (x.2.1 : Nat)), .lit (.int .i64 (x.2.2 : Nat))]) : DataW Unit) := by kernel_rfl
theorem opers_of_reads {w : World} (h : Lib.VarReads Tryz.prog w "stencil/xparse.operators" (.agg (opTab.map fun x => .agg [.lit (.string (tx x.1)), .lit (.int .i64 (x.2.1 : Nat)), .lit (.int .i64 (x.2.2 : Nat))]))) : w.rangeAt 3 0 opCells := by
  obtain ⟨g, t, cs, fuel, p, hg, hty, hvar, hd⟩ := h
  obtain rfl := Option.some.inj ((show Tryz.prog.globalNamed "stencil/xparse.operators" = some 3 by kernel_rfl).symm.trans hg)
  obtain rfl := Option.some.inj ((show (Tryz.prog.globals[3]?).map (·.type) = some 122 by kernel_rfl).symm.trans hty)
  have key : ∀ i, i < 14 → ((cs.toList.drop (i * 3)).take 3) = [.string (T (opAt i).1), .int .i64 ((opAt i).2.1 : Nat), .int .i64 ((opAt i).2.2 : Nat)] := by
    intro i hi
    obtain ⟨fuel', d, q, hdi, he⟩ := Lib.array_elem Tryz.underlying122 hd i hi
    rw [cellsOper] at he
    rw [List.getElem?_map, opAt_get i hi] at hdi
    simp only [Option.map_some, Option.some.injEq] at hdi
    subst hdi
    exact oper_trod he
  intro j v hv
  have hj : j < 42 := by
    have h60 : opCells.length = 42 := by decide +kernel
    have := (List.getElem?_eq_some_iff.1 hv).1
    omega
  rw [Nat.zero_add, World.var?_cell hg hvar j, ← Array.getElem?_toList]
  have hk := congrArg (·[j % 3]?) (key (j / 3) (by omega))
  simp only [List.getElem?_take, List.getElem?_drop] at hk
  rw [if_pos (by omega), show j / 3 * 3 + j % 3 = j by omega] at hk
  rw [hk]
  have hs : ∀ i, i < 14 → ∀ r, r < 3 → ([.string (T (opAt i).1), .int .i64 ((opAt i).2.1 : Nat), .int .i64 ((opAt i).2.2 : Nat)] : List Value)[r]? = opCells[i * 3 + r]? := by
    intro i hi r hr
    rcases (show i = 0 ∨ i = 1 ∨ i = 2 ∨ i = 3 ∨ i = 4 ∨ i = 5 ∨ i = 6 ∨ i = 7 ∨ i = 8 ∨ i = 9 ∨ i = 10 ∨ i = 11 ∨ i = 12 ∨ i = 13 by omega) with rfl | rfl | rfl | rfl | rfl | rfl | rfl | rfl | rfl | rfl | rfl | rfl | rfl | rfl <;> rcases (show r = 0 ∨ r = 1 ∨ r = 2 by omega) with rfl | rfl | rfl <;> rfl
  rw [hs (j / 3) (by omega) (j % 3) (by omega), show j / 3 * 3 + j % 3 = j by omega]
  exact hv
theorem pow_data : (Rows.laid_internal_strconv_uint64pow10 : DataW Unit) = Lib.tabData .u64 Lib.pow10Tab := by kernel_rfl
theorem tab_of {P : Program} {W : World} {name : String} {k : IntKind} {zs : List Int} {g : Nat} {t e : TypeId} {n : Nat} (hg : P.globalNamed name = some g) (hty : (P.globals[g]?).map (·.type) = some t) (ht : P.underlying t = some (.array n e)) (he : P.underlying e = some (.int k)) (hce : P.cellsOf e = 1) (hct : P.cellsOf t = n) (h : Lib.VarReads P W name (Lib.tabData k zs)) : Lib.TabIs P W name k zs := by
  obtain ⟨g', t', cs, fuel, p, hg', ht', hvar, hd⟩ := h
  obtain rfl := Option.some.inj (hg.symm.trans hg')
  obtain rfl := Option.some.inj (hty.symm.trans ht')
  unfold Lib.TabIs
  rw [hvar, ← Lib.cells_of_tab ht he hce hct hd]
theorem env_of {W : World} (hM : laidMet Tryz.prog [("math/bits.deBruijn32tab", Rows.laid_math_bits_deBruijn32tab), ("math/bits.deBruijn64tab", Rows.laid_math_bits_deBruijn64tab), ("internal/strconv.uint64pow10", Rows.laid_internal_strconv_uint64pow10), ("unicode/utf8.acceptRanges", Rows.laid_unicode_utf8_acceptRanges), ("stencil/xplex.signs", Rows.laid_stencil_xplex_signs), ("stencil/xparse.operators", Rows.laid_stencil_xparse_operators), ("stencil/xparse.axes", Rows.laid_stencil_xparse_axes), ("stencil/xparse.types", Rows.laid_stencil_xparse_types), ("unicode/utf8.first", Rows.laid_unicode_utf8_first)] W) (hs : W.ShapedOpen Tryz.prog) : Env6 W := by
  have h3 := Lib.laidMet.reads hM (n := "unicode/utf8.first") (d := Rows.laid_unicode_utf8_first) (by simp)
  have h4 := Lib.laidMet.reads hM (n := "unicode/utf8.acceptRanges") (d := Rows.laid_unicode_utf8_acceptRanges) (by simp)
  have h5 := Lib.laidMet.reads hM (n := "stencil/xplex.signs") (d := Rows.laid_stencil_xplex_signs) (by simp)
  have h6 := Lib.laidMet.reads hM (n := "internal/strconv.uint64pow10") (d := Rows.laid_internal_strconv_uint64pow10) (by simp)
  have h7 := Lib.laidMet.reads hM (n := "stencil/xparse.operators") (d := Rows.laid_stencil_xparse_operators) (by simp)
  have h8 := Lib.laidMet.reads hM (n := "stencil/xparse.axes") (d := Rows.laid_stencil_xparse_axes) (by simp)
  have h9 := Lib.laidMet.reads hM (n := "stencil/xparse.types") (d := Rows.laid_stencil_xparse_types) (by simp)
  rw [first_data] at h3
  rw [accept_data] at h4
  rw [signs_data] at h5
  rw [pow_data] at h6
  rw [oper_data] at h7
  rw [axes_data] at h8
  rw [types_data] at h9
  refine ⟨⟨⟨⟨?_, utf8Tabs_of_reads Tryz.lays260 u8extra h3 h4⟩, signs_of_reads h5⟩, opers_of_reads h7, axes_of_reads h8, types_of_reads h9⟩, ?_⟩
  · exact cell_of_shapedOpen_int (zero := #[.int .i64 0]) (t := 3) hs (of_decide_eq_true (by kernel_rfl)) (by kernel_rfl) rfl (by kernel_rfl) (by kernel_rfl) Tryz.underlying3
  · exact tab_of (g := 9) (t := 179) (e := 125) (n := 20) (by kernel_rfl) (by kernel_rfl) (by kernel_rfl) Tryz.underlying125 (by kernel_rfl) (by kernel_rfl) h6
theorem u8_wf {n : Int} (h : (Lit.int .u8 n).wf = true) : 0 ≤ n ∧ n < 256 := by
  have h1 : IntKind.u8.min = 0 := by decide
  have h2 : IntKind.u8.max = 255 := by decide
  simp only [Lit.wf, Bool.and_eq_true, decide_eq_true_eq] at h
  omega
theorem own : ownKnob Tryz.prog.godebug = none := by kernel_rfl
end Go.Proofs.YthkkfldmoflfaaaGreatDoor
