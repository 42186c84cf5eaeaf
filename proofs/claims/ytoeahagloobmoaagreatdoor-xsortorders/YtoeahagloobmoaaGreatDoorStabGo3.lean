/- The library's stable sort: parts are sorted by putting in. -/
import Derived.Test.YtoeahagloobmoaaGreatDoorStabGo2
import Derived.BigQuiet
import Derived.BigGuard
import Derived.BigCall
import Derived.Deep.QuietTactic
namespace Go.Proofs.YtoeahagloobmoaaGreatDoor
open Go.RowKit
theorem swp_comm (a : Rw) (i j : Nat) : swp a i j = swp a j i := by
  funext k
  unfold swp
  by_cases c1 : k = i
  · by_cases c2 : k = j
    · rw [if_pos c1, if_pos c2, ← c1, ← c2]
    · rw [if_pos c1, if_neg c2, if_pos c1]
  · by_cases c2 : k = j
    · rw [if_neg c1, if_pos c2, if_pos c2]
    · rw [if_neg c1, if_neg c2, if_neg c2, if_neg c1]
/-- The function handed in: a closure over one variable. -/
def cloV (g : Nat) : Value := .func (.func 12) #[] #[.pointer (some ⟨g, 0, none⟩)]
/-- What it must tell, in every world of a kind. -/
def CmpK (K : World → Prop) (cf : Nat → Nat → Int) (N g : Nat) : Prop := ∀ w x y, K w → x < N → y < N → Calls Tryz.prog 12 #[.int .i64 (x : Int), .int .i64 (y : Int), .pointer (some ⟨g, 0, none⟩)] w fun e w' => e = .returned (.int .i64 (cf x y)) ∧ Below w.heap.size w w'
theorem wp_region_cls {P : Program} {id : Nat} {Q : Exit → Act → World → Prop} {a : Act} {w : World} {l : List Oper} (C : World → Prop) (hm : P.follows .mixedOrders = true) (hB : Region.lexB .any l.toArray = true) (hC : C w.drew)
    (h : wpQuiet P l.toArray C (fun a' => ∀ w', C w' → Q .normal a' w') l a) : (Code.region id l.toArray true).wp P Q a w :=
  wp_region_quiet (C := C) hm hB hC (by simpa using h)
/-- What a kind of worlds must keep. -/
structure Kind (K : World → Prop) (q n : Nat) : Prop where
  set : ∀ w i v, K w → i < n → K (w.setCell ⟨q, i, none⟩ v)
  drew : ∀ w, K w → K w.drew
  below : ∀ w w', K w → Below w.heap.size w w' → K w'
/-- Worlds of a kind in which a row stands. -/
structure ClsR (K : World → Prop) (q n : Nat) (r : Rw) (u : World) : Prop where
  kind : K u
  row : RowAt q n r u
/-- A row of different values, each below N, in which what stands the wrong way round does so by lt. -/
structure Rws (L lt : Nat → Nat → Prop) (N n : Nat) (r : Rw) : Prop where
  inj : Inj r
  inv : InvBy L lt r
  low : ∀ i, i < n → r i < N
theorem Rws.fine {L lt : Nat → Nat → Prop} {N n lo hi : Nat} {r r' : Rw} (h : Rws L lt N n r) (f : Fine L lo hi r r') (hh : hi ≤ n) : Rws L lt N n r' := by
  refine ⟨f.inj h.inj, f.inv h.inv, fun i hi' => ?_⟩
  by_cases c : lo ≤ i ∧ i < hi
  · obtain ⟨j, j1, j2, e⟩ := f.from i c.1 c.2
    rw [e]
    exact h.low j (by omega)
  · rw [f.same i c]
    exact h.low i hi'
theorem Rws.later {L lt : Nat → Nat → Prop} {N n : Nat} {r : Rw} (h : Rws L lt N n r) (hsub : ∀ x y, lt x y → L x y) {i j : Nat} (hij : i < j) : lt (r j) (r i) ↔ L (r j) (r i) := ⟨hsub _ _, h.inv i j hij⟩
attribute [local go_sem ↓] Go.wp_at_zero Go.wp_at_succ
set_option maxRecDepth 100000 in
set_option maxHeartbeats 4000000 in
theorem insertion_any (q n lo hi N g : Nat) (L lt : Nat → Nat → Prop) (hL : Tot L) (hsub : ∀ x y, lt x y → L x y) (cf : Nat → Nat → Int) (hcf : ∀ x y, cf x y < 0 ↔ lt x y) (r : Rw) (w : World) (hr : RowAt q n r w) (hR : Rws L lt N n r) (h1 : lo ≤ hi) (h2 : hi ≤ n) (hn : n ≤ 1000000) (K : World → Prop) (hK : K w) (hKK : Kind K q n) (hC : CmpK K cf N g) :
    Calls Tryz.prog 30 #[.slice (some ⟨q, 0, none⟩) n n, .int .i64 (lo : Int), .int .i64 (hi : Int), cloV g] w fun e w' => e = .returned (.tuple #[]) ∧ ∃ r', RowAt q n r' w' ∧ K w' ∧ Fine L lo hi r r' ∧ Srt L lo hi r' := by
  unfold cloV
  have HKK := hide hKK
  have HC := hide hC
  have HS := hide hsub
  have e0 : wrap64 ((lo : Int) + 1) = ((lo + 1 : Nat) : Int) := by
    rw [wrap_same _ (by omega) (by omega)]
    omega
  clear hKK hC hsub
  go_enter Tryz.func30, Tryz.ntmps30
  go_wp2_with fail
  go_loopw [8] (fun v wr => ∃ (i : Nat) (r' : Rw), v = .int .i64 (i : Int) ∧ lo + 1 ≤ i ∧ (i ≤ hi ∨ i = lo + 1) ∧ RowAt q n r' wr ∧ K wr ∧ Hid (Fine L lo hi r r') ∧ Hid (Srt L lo i r')) (fun v _ => hi - vNat v)
  case atStart =>
    refine ⟨lo + 1, r, ?_, Nat.le_refl _, Or.inr rfl, hr, hK, hide (Fine.refl _ _ _ _), hide (fun i j a1 a2 a3 => by omega)⟩
    first | rfl | (rw [e0]) | (rw [Int.natCast_add]; rfl)
  case round =>
    clear e0 hr hK
    obtain ⟨i, r1, rfl, g1, g2, hr, hK, hF, hSr⟩ := hrel
    by_cases hlt : i < hi
    · have hlt' := nat_lt hlt
      have hR1 := hR.fine (unhide hF) h2
      go_wp2_with fail
      go_loopw [9] (fun v wr => ∃ (j : Nat) (r' : Rw), v = .int .i64 (j : Int) ∧ RowAt q n r' wr ∧ K wr ∧ Hid (Fine L lo hi r r') ∧ Hid (InsAt L lo i j r')) (fun v _ => vNat v)
      case atStart => exact ⟨i, r1, rfl, hr, hK, hF, hide (InsAt.start (unhide hSr) (by omega))⟩
      case round =>
        clear hr hK hF hSr hR1
        obtain ⟨j, r2, rfl, hr, hK, hF, hI⟩ := hrel
        have hR2 := hR.fine (unhide hF) h2
        have k1 := (unhide hI).low
        have k2 := (unhide hI).high
        by_cases hja : lo < j
        · have hja' := nat_lt hja
          obtain ⟨j1, hj1⟩ : ∃ j1, j1 + 1 = j := ⟨j - 1, by omega⟩
          have b1 : j < n := by omega
          have b2 : j1 < n := by omega
          have b3 : j ≤ 1000000 := by omega
          obtain ⟨c1, c2⟩ := hr j b1
          obtain ⟨d1, d2⟩ := hr j1 b2
          have hlater := hR2.later (unhide HS) (show j1 < j by omega)
          have v1 := hR2.low j b1
          have v2 := hR2.low j1 b2
          have HCC := hide (fun w hK => unhide HC w (r2 j) (r2 j1) hK v1 v2)
          obtain ⟨e1, e1'⟩ := sub_wrap j 1 j1 hj1 b3
          rw [show ((1 : Nat) : Int) = 1 from rfl] at e1 e1'
          have B1 := nat_lt b1
          have B2 := nat_lt b2
          generalize hVJ : ((r2 j : Nat) : Int) = VJ at *
          generalize hVK : ((r2 j1 : Nat) : Int) = VK at *
          have HKD := hide ((unhide HKK).drew wr hK)
          have HLT := hide hlater
          have HR2 := hide hR2
          have HB := hide (And.intro b1 (And.intro b2 (And.intro k1 k2)))
          have HVJ := hide hVJ
          have HVK := hide hVK
          have Hj1 := hide hj1
          have HJ := hide hja
          have HG := hide (And.intro g1 g2)
          have Hh := hide (And.intro h1 (And.intro h2 hn))
          have HLL := hide hL
          have HRR := hide hR
          have HHlt := hide hlt
          clear hlater hR2 b1 b2 k1 k2 hVJ hVK hj1 hja g1 g2 h1 h2 hn hL hR hlt b3 v1 v2 e1' hlt' d2 c2
          have HCL := hide (show ClsR K q n r2 wr.drew from ⟨unhide HKD, hr.drew⟩)
          have HCB := hide (fun (u u' : World) (h : ClsR K q n r2 u) (hb : Below u.heap.size u u') => (⟨(unhide HKK).below u u' h.kind hb, h.row.below hb⟩ : ClsR K q n r2 u'))
          have HCE := hide (fun (u : World) (h : ClsR K q n r2 u) => (⟨(h.row j (unhide HB).1).1, (h.row j1 (unhide HB).2.1).1⟩ : u.cell? ⟨q, j, none⟩ = some (.int .i64 ((r2 j : Nat) : Int)) ∧ u.cell? ⟨q, j1, none⟩ = some (.int .i64 ((r2 j1 : Nat) : Int))))
          rw [unhide HVJ, unhide HVK] at HCE
          clear c1 d1
          go_wp2_with fail
          refine wp_region_cls (ClsR K q n r2) (by kernel_rfl) (by kernel_rfl) (unhide HCL) ?_
          repeat
            (first
              | go_big_quiet_skip
              | (go_big_quiet_want
                 go_big_quiet_op
                 first
                   | go_big_quiet_on
                   | (apply Exists.intro
                      refine ⟨fun w' hC => ?_, ?_⟩
                      · (first
                          | (go_at_call 12; refine (unhide HCC _ hC.kind).mono ?_; rintro e w3 ⟨rfl, hb3⟩; exact ⟨rfl, unhide HCB _ _ hC hb3⟩)
                          | (have c0 := (unhide HCE _ hC).1; have c1 := (unhide HCE _ hC).2; go_simp; first | done | rfl))
                      go_big_quiet_on)))
          refine wpQuiet_nil ?_
          have HE0 := hide e1
          clear e1
          intro w4 hC4
          obtain ⟨hK4, hr4⟩ := hC4
          clear HCL HCB HCE HCC HKD hK hr
          have hB := unhide HB
          have hj1 := unhide Hj1
          obtain ⟨c1, c2⟩ := hr4 j hB.1
          obtain ⟨d1, d2⟩ := hr4 j1 hB.2.1
          by_cases hc : cf (r2 j) (r2 j1) < 0
          · have hl : L (r2 j) (r2 j1) := (unhide HLT).1 ((hcf _ _).1 hc)
            have nJ : j1 ≠ j := by omega
            have nJ' : j ≠ j1 := by omega
            have HN := hide ((hr4.put j j1 hB.1 hB.2.1 nJ').drew)
            have HKN := hide ((unhide HKK).drew _ ((unhide HKK).set _ j1 (.int .i64 ((r2 j : Nat) : Int)) ((unhide HKK).set w4 j (.int .i64 ((r2 j1 : Nat) : Int)) hK4 hB.1) hB.2.1))
            have HF2 := hide (show Hid (Fine L lo hi r (swp r2 j j1)) from hide (by
              rw [swp_comm, ← hj1]
              exact (unhide hF).then (swp_fine (unhide HLL) r2 j1 lo hi (by have := unhide HJ; omega) (by have := unhide HHlt; have := hB.2.2.2; omega) (by rw [hj1]; exact hl))))
            have HI2 := hide (show Hid (InsAt L lo i j1 (swp r2 j j1)) from hide (by
              have h0 := unhide hI
              rw [← hj1] at h0
              rw [swp_comm, ← hj1]
              exact h0.step (by have := unhide HJ; omega) (by rw [hj1]; exact hl)))
            have HM := hide (show ((j1 : Nat) : Int).toNat < ((j : Nat) : Int).toNat by rw [Int.toNat_natCast, Int.toNat_natCast]; omega)
            have HE1 := hide (show (j : Int) - 1 = (j1 : Int) by omega)
            rw [unhide HVJ] at c1 HN HKN
            rw [unhide HVK] at d1 HN HKN
            clear hI hF hB hj1 hl hr4 hK4
            generalize hcc : cf (r2 j) (r2 j1) = cc at *
            have e1 := unhide HE0
            go_wp2_with fail
            go_region
            go_wp2_with fail
            refine ⟨⟨j1, swp r2 j j1, ?_, unhide HN, unhide HKN, unhide HF2, unhide HI2⟩, ?_⟩
            · first | (rw [unhide HE1]) | rfl | (rw [e1])
            · first | exact unhide HM | (rw [unhide HE1]; exact unhide HM)
          · have HS2 := hide (show Hid (Srt L lo (i + 1) r2) from hide ((unhide hI).stop (unhide HLL) (unhide HR2).inj (Or.inr ⟨j1, hj1.symm, by have := unhide HJ; omega, fun hl => hc ((hcf _ _).2 ((unhide HLT).2 hl))⟩)))
            have HM := hide (show hi - (((i + 1 : Nat) : Int)).toNat < hi - ((i : Nat) : Int).toNat by rw [Int.toNat_natCast, Int.toNat_natCast]; exact Nat.sub_lt_sub_left (unhide HHlt) (Nat.lt_succ_self i))
            have HE1 := hide (show (i : Int) + 1 = ((i + 1 : Nat) : Int) by omega)
            have z1 := unhide HHlt
            have z2 := (unhide HG).1
            have HE2 := hide (show wrap64 ((i : Int) + 1) = ((i + 1 : Nat) : Int) by
              have := (unhide Hh).2
              rw [wrap_same _ (by omega) (by omega)]
              omega)
            clear hI hj1 hB c1 c2 d1 d2
            generalize hcc : cf (r2 j) (r2 j1) = cc at *
            go_wp2_with fail
            refine ⟨⟨i + 1, r2, ?_, by omega, Or.inl z1, hr4, hK4, hF, unhide HS2⟩, ?_⟩
            · first | (rw [unhide HE2]) | (rw [unhide HE1]) | rfl
            · first | (rw [unhide HE2]; exact unhide HM) | (rw [unhide HE1]; exact unhide HM) | exact unhide HM
        · have hja' := nat_nlt hja
          have HS2 := hide (show Hid (Srt L lo (i + 1) r2) from hide ((unhide hI).stop hL hR2.inj (Or.inl (by omega))))
          have HM := hide (show hi - (((i + 1 : Nat) : Int)).toNat < hi - ((i : Nat) : Int).toNat by rw [Int.toNat_natCast, Int.toNat_natCast]; exact Nat.sub_lt_sub_left hlt (Nat.lt_succ_self i))
          have HE1 := hide (show (i : Int) + 1 = ((i + 1 : Nat) : Int) by omega)
          have HCL := hide (show ClsR K q n r2 wr.drew from ⟨(unhide HKK).drew wr hK, hr.drew⟩)
          clear hI
          go_wp2_with fail
          refine wp_region_cls (ClsR K q n r2) (by kernel_rfl) (by kernel_rfl) (unhide HCL) ?_
          repeat
            (first
              | go_big_quiet_skip
              | (go_big_quiet_want
                 go_big_quiet_op
                 first
                   | go_big_quiet_on
                   | (apply Exists.intro
                      refine ⟨fun w' hC => ?_, ?_⟩
                      · (go_simp; first | done | rfl)
                      go_big_quiet_on)))
          refine wpQuiet_nil ?_
          intro w4 hC4
          obtain ⟨hK4, hr4⟩ := hC4
          go_wp2_with fail
          refine ⟨⟨i + 1, r2, ?_, Nat.le_succ_of_le g1, Or.inl hlt, hr4, hK4, hF, unhide HS2⟩, ?_⟩
          · first | (rw [unhide HE1]) | rfl
          · first | (rw [unhide HE1]; exact unhide HM) | exact unhide HM
    · have hlt' := nat_nlt hlt
      go_wp2_with fail
      go_end0
      exact ⟨rfl, r1, hr, hK, unhide hF, (unhide hSr).part (Nat.le_refl _) (by omega)⟩
end Go.Proofs.YtoeahagloobmoaaGreatDoor
