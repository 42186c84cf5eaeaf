/- The library's stable sort: two parts in order are merged. -/
import Derived.Test.YtoeahagloobmoaaGreatDoorStabGo5
namespace Go.Proofs.YtoeahagloobmoaaGreatDoor
open Go.RowKit
theorem seek_bounds (a m b : Nat) (h1 : a + 1 < m) (h2 : m + 1 < b) : ∃ mid s0 r0 p, mid = (a + b) / 2 ∧ (2 * mid = a + b ∨ 2 * mid + 1 = a + b) ∧ Bounds a m b mid s0 r0 p ∧ s0 ≤ r0 ∧ p + 1 = mid + m ∧ ((mid < m ∧ s0 + b = mid + m ∧ r0 = mid) ∨ (¬ mid < m ∧ s0 = a ∧ r0 = m)) := by
  by_cases c : (a + b) / 2 < m
  · refine ⟨(a + b) / 2, (a + b) / 2 + m - b, (a + b) / 2, (a + b) / 2 + m - 1, rfl, by omega, ⟨by omega, by omega, by omega, by omega, by omega, Or.inl ⟨c, by omega, rfl⟩⟩, by omega, by omega, Or.inl ⟨c, by omega, rfl⟩⟩
  · refine ⟨(a + b) / 2, a, m, (a + b) / 2 + m - 1, rfl, by omega, ⟨by omega, by omega, by omega, by omega, by omega, Or.inr ⟨by omega, rfl, rfl⟩⟩, by omega, by omega, Or.inr ⟨c, rfl, rfl⟩⟩
set_option maxRecDepth 100000 in
set_option maxHeartbeats 8000000 in
theorem sym_any (q n N g : Nat) (L lt : Nat → Nat → Prop) (hL : Tot L) (hsub : ∀ x y, lt x y → L x y) (cf : Nat → Nat → Int) (hcf : ∀ x y, cf x y < 0 ↔ lt x y) (hn : n ≤ 1000000) (K : World → Prop) (hKK : Kind K q n) (hC : CmpK K cf N g) :
    ∀ (sz a m b : Nat) (r : Rw) (w : World), b - a ≤ sz → a < m → m < b → b ≤ n → Srt L a m r → Srt L m b r → RowAt q n r w → Rws L lt N n r → K w →
    Calls Tryz.prog 31 #[.slice (some ⟨q, 0, none⟩) n n, .int .i64 (a : Int), .int .i64 (m : Int), .int .i64 (b : Int), cloV g] w fun e w' => e = .returned (.tuple #[]) ∧ ∃ r', RowAt q n r' w' ∧ K w' ∧ Fine L a b r r' ∧ Srt L a b r' := by
  intro sz
  induction sz with
  | zero => intro a m b r w h0 h1 h2; omega
  | succ sz ih =>
    intro a m b r w h0 h1 h2 hb hs1 hs2 hr hR hK
    by_cases c1 : m = a + 1
    · subst c1
      exact symOne_any q n a b N g L lt hL hsub cf hcf r w hr hR h2 hb hn hs2 K hK hKK hC
    · by_cases c2 : b = m + 1
      · subst c2
        exact symLast_any q n a m N g L lt hL hsub cf hcf r w hr hR (by omega) hb hn hs1 K hK hKK hC
      · obtain ⟨mid, s0, r0, p, hmid, hh, hB, hs0, hp, hway⟩ := seek_bounds a m b (by omega) (by omega)
        obtain ⟨d, hd⟩ : ∃ d, d + a = m := ⟨m - a, by omega⟩
        obtain ⟨d2, hd2⟩ : ∃ d2, d2 + m = b := ⟨b - m, by omega⟩
        have hdn : ((m : Int) - (a : Int) == 1) = false := by rw [beq_eq_false_iff_ne]; omega
        have hdn2 : ((b : Int) - (m : Int) == 1) = false := by rw [beq_eq_false_iff_ne]; omega
        have hm2 : ((a : Int) + (b : Int)) / 2 = (mid : Int) := by omega
        unfold cloV
        have HKK := hide hKK
        have HC := hide hC
        have HS := hide hsub
        have HCF := hide hcf
        have HIH := hide ih
        have Hm2 := hide hm2
        clear hKK hC hsub hcf ih hm2 hmid
        rcases hway with ⟨w1, w2, w3⟩ | ⟨w1, w2, w3⟩
        · have w1' := nat_lt w1
          have hs0' : (mid : Int) + (m : Int) - (b : Int) = (s0 : Int) := by omega
          have hp' : (mid : Int) + (m : Int) - 1 = (p : Int) := by omega
          have Hs0 := hide hs0'
          have Hp := hide hp'
          clear hs0' hp'
          go_enter Tryz.func31, Tryz.ntmps31
          go_wp2_with fail
          simp only [unhide Hm2, unhide Hs0, unhide Hp]
          go_loopw [20, 21] (fun v u wr => ∃ st rr : Nat, v = .int .i64 (st : Int) ∧ u = .int .i64 (rr : Int) ∧ Hid (Seek L r s0 r0 p st rr) ∧ RowAt q n r wr ∧ K wr) (fun v u _ => vNat u - vNat v)
          case atStart => exact ⟨s0, r0, by rfl, by rw [w3], hide ⟨Nat.le_refl _, hs0, Nat.le_refl _, fun c a1 a2 => by omega, fun c a1 a2 => by omega⟩, hr, hK⟩
          case round =>
            clear hr hK
            obtain ⟨st, rr, rfl, rfl, hsk, hr, hK⟩ := hrel
            have k1 := (unhide hsk).le0
            have k2 := (unhide hsk).le1
            have k3 := (unhide hsk).le2
            by_cases hij : st < rr
            · have hij' := nat_lt hij
              obtain ⟨c, hc⟩ : ∃ c, c = (st + rr) / 2 := ⟨_, rfl⟩
              have hins := (hB.ins hh).2.2.2.2 c (by omega) (by omega)
              obtain ⟨pc, hpc⟩ : ∃ pc, pc + c = p := ⟨p - c, by omega⟩
              have hpc' : p - c = pc := by omega
              rw [hpc'] at hins
              have b1 : c < n := by omega
              have b2 : pc < n := by omega
              have b3 : c < pc := by omega
              have b4 : st ≤ c ∧ c < rr := by omega
              have hh2 : ((st : Int) + (rr : Int)) / 2 = (c : Int) := by omega
              have hpI : (p : Int) - (c : Int) = (pc : Int) := by omega
              have pb : p ≤ 2000000 := by omega
              have hlater := hR.later (unhide HS) b3
              have v1 := hR.low c b1
              have v2 := hR.low pc b2
              have HCC := hide (fun w hK => unhide HC w (r pc) (r c) hK v2 v1)
              have HCL := hide (show ClsR K q n r wr.drew from ⟨(unhide HKK).drew wr hK, hr.drew⟩)
              have HCB := hide (fun (u u' : World) (h : ClsR K q n r u) (hb : Below u.heap.size u u') => (⟨(unhide HKK).below u u' h.kind hb, h.row.below hb⟩ : ClsR K q n r u'))
              have HCE := hide (fun (u : World) (hc : ClsR K q n r u) => (⟨(hc.row c b1).1, (hc.row pc b2).1⟩ : u.cell? ⟨q, c, none⟩ = some (.int .i64 ((r c : Nat) : Int)) ∧ u.cell? ⟨q, pc, none⟩ = some (.int .i64 ((r pc : Nat) : Int))))
              have B1 := nat_lt b1
              have B2 := nat_lt b2
              have HA := hide hlater
              have HPC := hide hpc'
              have eP : IntKind.i64.wrap ((p : Int) - (c : Int)) = (pc : Int) := by
                rw [hpI, i64_is, wrap_same _ (by omega) (by omega)]
              clear hlater
              generalize hVC : ((r c : Nat) : Int) = VC at *
              generalize hVP : ((r pc : Nat) : Int) = VP at *
              have HH := hide hh2
              clear hVC hVP v1 v2 hr hK hh2 hc hpI hpc hpc'
              go_wp2_with fail
              rw [unhide HH]
              refine wp_region_cls (ClsR K q n r) (by kernel_rfl) (by kernel_rfl) (unhide HCL) ?_
              repeat
                (first
                  | go_big_quiet_skip
                  | (go_big_quiet_want
                     go_big_quiet_op
                     first
                       | go_big_quiet_on
                       | (apply Exists.intro
                          refine ⟨fun w' hC => ?_, ?_⟩
                          · (first
                              | (go_at_call 12; refine (unhide HCC _ hC.kind).mono ?_; rintro e w3 ⟨rfl, hb3⟩; exact ⟨rfl, unhide HCB _ _ hC hb3⟩)
                              | (have c0 := (unhide HCE _ hC).1; have c1 := (unhide HCE _ hC).2; go_simp; first | done | rfl))
                          go_big_quiet_on)))
              refine wpQuiet_nil ?_
              intro w4 hC4
              obtain ⟨hK4, hr4⟩ := hC4
              clear HCL HCB HCE HCC
              by_cases hcc : cf (r pc) (r c) < 0
              · have hl : L (r pc) (r c) := (unhide HA).1 ((unhide HCF _ _).1 hcc)
                have HN := hide (show Hid (Seek L r s0 r0 p st c) from hide ((unhide hsk).down hL hB hh hs1 hs2 b4.1 b4.2 (by rw [unhide HPC]; exact hl)))
                have HM := hide (show ((c : Nat) : Int).toNat - ((st : Nat) : Int).toNat < ((rr : Nat) : Int).toNat - ((st : Nat) : Int).toNat by rw [Int.toNat_natCast, Int.toNat_natCast, Int.toNat_natCast]; omega)
                clear eP
                generalize hce : cf (r pc) (r c) = cc at *
                have hc2 : (!decide (cc < 0)) = false := by simp [hcc]
                go_wp2_with fail
                all_goals first
                  | (rename_i hx; rw [hc2] at hx; cases hx; done)
                  | exact ⟨⟨st, c, rfl, rfl, unhide HN, hr4, hK4⟩, unhide HM⟩
              · have hl : L (r c) (r pc) := by
                  rcases hL.tri (r c) (r pc) (fun e => by have := hR.inj _ _ e; omega) with u | u
                  · exact u
                  · exact absurd ((unhide HCF _ _).2 ((unhide HA).2 u)) hcc
                have HN := hide (show Hid (Seek L r s0 r0 p (c + 1) rr) from hide ((unhide hsk).up hL hB hh hs1 hs2 b4.1 b4.2 (by rw [unhide HPC]; exact hl)))
                have HE := hide (show (c : Int) + 1 = ((c + 1 : Nat) : Int) by omega)
                have HM := hide (show ((rr : Nat) : Int).toNat - ((c + 1 : Nat) : Int).toNat < ((rr : Nat) : Int).toNat - ((st : Nat) : Int).toNat by rw [Int.toNat_natCast, Int.toNat_natCast, Int.toNat_natCast]; omega)
                clear eP
                generalize hce : cf (r pc) (r c) = cc at *
                have hc2 : (!decide (cc < 0)) = true := by simp [hcc]
                go_wp2_with fail
                all_goals first
                  | (rename_i hx; rw [hc2] at hx; cases hx; done)
                  | exact ⟨⟨c + 1, rr, by first | (rw [unhide HE]) | rfl, rfl, unhide HN, hr4, hK4⟩, by first | (rw [unhide HE]; exact unhide HM) | exact unhide HM⟩
            · have hij' := nat_nlt hij
              have hEq : st = rr := by omega
              subst hEq
              obtain ⟨e, he⟩ : ∃ e, e + st = mid + m := ⟨mid + m - st, by omega⟩
              obtain ⟨f1, f2, f3, f4, f5, f6, hF, t1, t2, t3, t4, tA⟩ := sym_main hL (unhide hsk) hB hh hs1 hs2 e he
              have hR2 := hR.fine hF hb
              have HROT := hide (fun (w : World) (hr : RowAt q n r w) (hK : K w) (h1 : st < m) (h2 : m < e) => rotate_any q n st m e (cloV g) r w hr h1 h2 (by omega) hn K hK (unhide HKK).set (unhide HKK).drew)
              have HI1 := hide (fun (w : World) (y : Rw) (hr : RowAt q n y w) (hR : Rws L lt N n y) (hK : K w) (h1 : a < st) (h2 : st < mid) (s1 : Srt L a st y) (s2 : Srt L st mid y) => unhide HIH a st mid y w (by omega) h1 h2 (by omega) s1 s2 hr hR hK)
              have HI2 := hide (fun (w : World) (y : Rw) (hr : RowAt q n y w) (hR : Rws L lt N n y) (hK : K w) (h1 : mid < e) (h2 : e < b) (s1 : Srt L mid e y) (s2 : Srt L e b y) => unhide HIH mid e b y w (by omega) h1 h2 hb s1 s2 hr hR hK)
              unfold cloV at HROT HI1 HI2
              have hEI : ((mid : Int) + (m : Int)) - (st : Int) = (e : Int) := by omega
              have HEI := hide hEI
              clear hsk hij hij' hEI
              by_cases A : st < m ∧ m < e
              · have A1 := nat_lt A.1
                have A2 := nat_lt A.2
                have A2' : (m : Int) < (mid : Int) + (m : Int) - (st : Int) := by omega
                go_wp2_with fail
                all_goals (
                  (try rw [unhide HEI])
                  refine (unhide HROT wr hr hK A.1 A.2).mono ?_
                  rintro e' wR ⟨rfl, hrR, hKR⟩
                  by_cases B : a < st ∧ st < mid
                  · have B1 := nat_lt B.1
                    have B2 := nat_lt B.2
                    go_wp2_with fail
                    all_goals (
                      refine (unhide HI1 _ _ hrR hR2 hKR B.1 B.2 t1 t2).mono ?_
                      rintro e' w8 ⟨rfl, y1, hr1, hK1, hF1, hS1⟩
                      by_cases C : mid < e ∧ e < b
                      · have C1 := nat_lt C.1
                        have C2 := nat_lt C.2
                        have C1' : (mid : Int) < (mid : Int) + (m : Int) - (st : Int) := by omega
                        have C2' : (mid : Int) + (m : Int) - (st : Int) < (b : Int) := by omega
                        go_wp2_with fail
                        all_goals (
                          (try rw [unhide HEI])
                          refine (unhide HI2 _ y1 hr1 (hR2.fine hF1 (by omega)) hK1 C.1 C.2 (t3.keep (fun u a1 a2 => hF1.same u (by omega))) (t4.keep (fun u a1 a2 => hF1.same u (by omega)))).mono ?_
                          rintro e' w9 ⟨rfl, y2, hr2, hK2, hF2, hS2⟩
                          have HFF := hide ((hF.then (hF1.wide (Nat.le_refl _) (by omega))).then (hF2.wide (by omega) (Nat.le_refl _)))
                          have HSS := hide (Srt.join (hS1.keep (fun u a1 a2 => hF2.same u (by omega))) hS2 ((tA.left hF1).right hF2))
                          go_wp2_with fail
                          all_goals (first | go_end0 | go_returns)
                          all_goals exact ⟨rfl, _, hr2, hK2, unhide HFF, unhide HSS⟩)
                      · have CC : ¬ (mid : Int) < (mid : Int) + (m : Int) - (st : Int) ∨ (mid : Int) < (mid : Int) + (m : Int) - (st : Int) ∧ ¬ (mid : Int) + (m : Int) - (st : Int) < (b : Int) := by omega
                        obtain ⟨hr2, hK2⟩ : RowAt q n y1 _ ∧ K _ := ⟨hr1, hK1⟩
                        have hF2 := Fine.refl L mid b y1
                        have hS2 : Srt L mid b y1 := by
                          by_cases c : mid < e
                          · have : e = b := by omega
                            rw [← this]
                            exact t3.keep (fun u a1 a2 => hF1.same u (by omega))
                          · have : e = mid := by omega
                            rw [← this]
                            exact t4.keep (fun u a1 a2 => hF1.same u (by omega))
                        rcases CC with CC | ⟨CC, CD⟩
                        · have HFF := hide ((hF.then (hF1.wide (Nat.le_refl _) (by omega))).then (hF2.wide (by omega) (Nat.le_refl _)))
                          have HSS := hide (Srt.join (hS1.keep (fun u a1 a2 => hF2.same u (by omega))) hS2 ((tA.left hF1).right hF2))
                          go_wp2_with fail
                          all_goals (first | go_end0 | go_returns)
                          all_goals exact ⟨rfl, _, hr2, hK2, unhide HFF, unhide HSS⟩
                        · have HFF := hide ((hF.then (hF1.wide (Nat.le_refl _) (by omega))).then (hF2.wide (by omega) (Nat.le_refl _)))
                          have HSS := hide (Srt.join (hS1.keep (fun u a1 a2 => hF2.same u (by omega))) hS2 ((tA.left hF1).right hF2))
                          go_wp2_with fail
                          all_goals (first | go_end0 | go_returns)
                          all_goals exact ⟨rfl, _, hr2, hK2, unhide HFF, unhide HSS⟩)
                  · have BB : ¬ (a : Int) < (st : Int) ∨ (a : Int) < (st : Int) ∧ ¬ (st : Int) < (mid : Int) := by omega
                    obtain ⟨y1, hy1⟩ : ∃ y1, y1 = rot r st m e := ⟨_, rfl⟩
                    have hr1 := hrR
                    have hK1 := hKR
                    rw [← hy1] at hr1 hF hR2 t1 t2 t3 t4 tA
                    have hF1 := Fine.refl L a mid y1
                    have hS1 : Srt L a mid y1 := by
                      by_cases c : a < st
                      · have : st = mid := by omega
                        rw [← this]
                        exact t1
                      · have : st = a := by omega
                        rw [← this]
                        exact t2
                    rcases BB with BB | ⟨BB, BD⟩
                    · by_cases C : mid < e ∧ e < b
                      · have C1 := nat_lt C.1
                        have C2 := nat_lt C.2
                        have C1' : (mid : Int) < (mid : Int) + (m : Int) - (st : Int) := by omega
                        have C2' : (mid : Int) + (m : Int) - (st : Int) < (b : Int) := by omega
                        go_wp2_with fail
                        all_goals (
                          (try rw [unhide HEI])
                          refine (unhide HI2 _ y1 hr1 (hR2.fine hF1 (by omega)) hK1 C.1 C.2 (t3.keep (fun u a1 a2 => hF1.same u (by omega))) (t4.keep (fun u a1 a2 => hF1.same u (by omega)))).mono ?_
                          rintro e' w9 ⟨rfl, y2, hr2, hK2, hF2, hS2⟩
                          have HFF := hide ((hF.then (hF1.wide (Nat.le_refl _) (by omega))).then (hF2.wide (by omega) (Nat.le_refl _)))
                          have HSS := hide (Srt.join (hS1.keep (fun u a1 a2 => hF2.same u (by omega))) hS2 ((tA.left hF1).right hF2))
                          go_wp2_with fail
                          all_goals (first | go_end0 | go_returns)
                          all_goals exact ⟨rfl, _, hr2, hK2, unhide HFF, unhide HSS⟩)
                      · have CC : ¬ (mid : Int) < (mid : Int) + (m : Int) - (st : Int) ∨ (mid : Int) < (mid : Int) + (m : Int) - (st : Int) ∧ ¬ (mid : Int) + (m : Int) - (st : Int) < (b : Int) := by omega
                        obtain ⟨hr2, hK2⟩ : RowAt q n y1 _ ∧ K _ := ⟨hr1, hK1⟩
                        have hF2 := Fine.refl L mid b y1
                        have hS2 : Srt L mid b y1 := by
                          by_cases c : mid < e
                          · have : e = b := by omega
                            rw [← this]
                            exact t3.keep (fun u a1 a2 => hF1.same u (by omega))
                          · have : e = mid := by omega
                            rw [← this]
                            exact t4.keep (fun u a1 a2 => hF1.same u (by omega))
                        rcases CC with CC | ⟨CC, CD⟩
                        · have HFF := hide ((hF.then (hF1.wide (Nat.le_refl _) (by omega))).then (hF2.wide (by omega) (Nat.le_refl _)))
                          have HSS := hide (Srt.join (hS1.keep (fun u a1 a2 => hF2.same u (by omega))) hS2 ((tA.left hF1).right hF2))
                          go_wp2_with fail
                          all_goals (first | go_end0 | go_returns)
                          all_goals exact ⟨rfl, _, hr2, hK2, unhide HFF, unhide HSS⟩
                        · have HFF := hide ((hF.then (hF1.wide (Nat.le_refl _) (by omega))).then (hF2.wide (by omega) (Nat.le_refl _)))
                          have HSS := hide (Srt.join (hS1.keep (fun u a1 a2 => hF2.same u (by omega))) hS2 ((tA.left hF1).right hF2))
                          go_wp2_with fail
                          all_goals (first | go_end0 | go_returns)
                          all_goals exact ⟨rfl, _, hr2, hK2, unhide HFF, unhide HSS⟩
                    · by_cases C : mid < e ∧ e < b
                      · have C1 := nat_lt C.1
                        have C2 := nat_lt C.2
                        have C1' : (mid : Int) < (mid : Int) + (m : Int) - (st : Int) := by omega
                        have C2' : (mid : Int) + (m : Int) - (st : Int) < (b : Int) := by omega
                        go_wp2_with fail
                        all_goals (
                          (try rw [unhide HEI])
                          refine (unhide HI2 _ y1 hr1 (hR2.fine hF1 (by omega)) hK1 C.1 C.2 (t3.keep (fun u a1 a2 => hF1.same u (by omega))) (t4.keep (fun u a1 a2 => hF1.same u (by omega)))).mono ?_
                          rintro e' w9 ⟨rfl, y2, hr2, hK2, hF2, hS2⟩
                          have HFF := hide ((hF.then (hF1.wide (Nat.le_refl _) (by omega))).then (hF2.wide (by omega) (Nat.le_refl _)))
                          have HSS := hide (Srt.join (hS1.keep (fun u a1 a2 => hF2.same u (by omega))) hS2 ((tA.left hF1).right hF2))
                          go_wp2_with fail
                          all_goals (first | go_end0 | go_returns)
                          all_goals exact ⟨rfl, _, hr2, hK2, unhide HFF, unhide HSS⟩)
                      · have CC : ¬ (mid : Int) < (mid : Int) + (m : Int) - (st : Int) ∨ (mid : Int) < (mid : Int) + (m : Int) - (st : Int) ∧ ¬ (mid : Int) + (m : Int) - (st : Int) < (b : Int) := by omega
                        obtain ⟨hr2, hK2⟩ : RowAt q n y1 _ ∧ K _ := ⟨hr1, hK1⟩
                        have hF2 := Fine.refl L mid b y1
                        have hS2 : Srt L mid b y1 := by
                          by_cases c : mid < e
                          · have : e = b := by omega
                            rw [← this]
                            exact t3.keep (fun u a1 a2 => hF1.same u (by omega))
                          · have : e = mid := by omega
                            rw [← this]
                            exact t4.keep (fun u a1 a2 => hF1.same u (by omega))
                        rcases CC with CC | ⟨CC, CD⟩
                        · have HFF := hide ((hF.then (hF1.wide (Nat.le_refl _) (by omega))).then (hF2.wide (by omega) (Nat.le_refl _)))
                          have HSS := hide (Srt.join (hS1.keep (fun u a1 a2 => hF2.same u (by omega))) hS2 ((tA.left hF1).right hF2))
                          go_wp2_with fail
                          all_goals (first | go_end0 | go_returns)
                          all_goals exact ⟨rfl, _, hr2, hK2, unhide HFF, unhide HSS⟩
                        · have HFF := hide ((hF.then (hF1.wide (Nat.le_refl _) (by omega))).then (hF2.wide (by omega) (Nat.le_refl _)))
                          have HSS := hide (Srt.join (hS1.keep (fun u a1 a2 => hF2.same u (by omega))) hS2 ((tA.left hF1).right hF2))
                          go_wp2_with fail
                          all_goals (first | go_end0 | go_returns)
                          all_goals exact ⟨rfl, _, hr2, hK2, unhide HFF, unhide HSS⟩)
              · have AA : ¬ (st : Int) < (m : Int) ∨ (st : Int) < (m : Int) ∧ ¬ (m : Int) < (mid : Int) + (m : Int) - (st : Int) := by omega
                have hrR : RowAt q n (rot r st m e) wr := by
                  by_cases c : st < m
                  · have : e = m := by omega
                    rw [this, rot_right]
                    exact hr
                  · have : st = m := by omega
                    rw [this, rot_left]
                    exact hr
                have hKR := hK
                rcases AA with AA | ⟨AA, AD⟩
                · by_cases B : a < st ∧ st < mid
                  · have B1 := nat_lt B.1
                    have B2 := nat_lt B.2
                    go_wp2_with fail
                    all_goals (
                      refine (unhide HI1 _ _ hrR hR2 hKR B.1 B.2 t1 t2).mono ?_
                      rintro e' w8 ⟨rfl, y1, hr1, hK1, hF1, hS1⟩
                      by_cases C : mid < e ∧ e < b
                      · have C1 := nat_lt C.1
                        have C2 := nat_lt C.2
                        have C1' : (mid : Int) < (mid : Int) + (m : Int) - (st : Int) := by omega
                        have C2' : (mid : Int) + (m : Int) - (st : Int) < (b : Int) := by omega
                        go_wp2_with fail
                        all_goals (
                          (try rw [unhide HEI])
                          refine (unhide HI2 _ y1 hr1 (hR2.fine hF1 (by omega)) hK1 C.1 C.2 (t3.keep (fun u a1 a2 => hF1.same u (by omega))) (t4.keep (fun u a1 a2 => hF1.same u (by omega)))).mono ?_
                          rintro e' w9 ⟨rfl, y2, hr2, hK2, hF2, hS2⟩
                          have HFF := hide ((hF.then (hF1.wide (Nat.le_refl _) (by omega))).then (hF2.wide (by omega) (Nat.le_refl _)))
                          have HSS := hide (Srt.join (hS1.keep (fun u a1 a2 => hF2.same u (by omega))) hS2 ((tA.left hF1).right hF2))
                          go_wp2_with fail
                          all_goals (first | go_end0 | go_returns)
                          all_goals exact ⟨rfl, _, hr2, hK2, unhide HFF, unhide HSS⟩)
                      · have CC : ¬ (mid : Int) < (mid : Int) + (m : Int) - (st : Int) ∨ (mid : Int) < (mid : Int) + (m : Int) - (st : Int) ∧ ¬ (mid : Int) + (m : Int) - (st : Int) < (b : Int) := by omega
                        obtain ⟨hr2, hK2⟩ : RowAt q n y1 _ ∧ K _ := ⟨hr1, hK1⟩
                        have hF2 := Fine.refl L mid b y1
                        have hS2 : Srt L mid b y1 := by
                          by_cases c : mid < e
                          · have : e = b := by omega
                            rw [← this]
                            exact t3.keep (fun u a1 a2 => hF1.same u (by omega))
                          · have : e = mid := by omega
                            rw [← this]
                            exact t4.keep (fun u a1 a2 => hF1.same u (by omega))
                        rcases CC with CC | ⟨CC, CD⟩
                        · have HFF := hide ((hF.then (hF1.wide (Nat.le_refl _) (by omega))).then (hF2.wide (by omega) (Nat.le_refl _)))
                          have HSS := hide (Srt.join (hS1.keep (fun u a1 a2 => hF2.same u (by omega))) hS2 ((tA.left hF1).right hF2))
                          go_wp2_with fail
                          all_goals (first | go_end0 | go_returns)
                          all_goals exact ⟨rfl, _, hr2, hK2, unhide HFF, unhide HSS⟩
                        · have HFF := hide ((hF.then (hF1.wide (Nat.le_refl _) (by omega))).then (hF2.wide (by omega) (Nat.le_refl _)))
                          have HSS := hide (Srt.join (hS1.keep (fun u a1 a2 => hF2.same u (by omega))) hS2 ((tA.left hF1).right hF2))
                          go_wp2_with fail
                          all_goals (first | go_end0 | go_returns)
                          all_goals exact ⟨rfl, _, hr2, hK2, unhide HFF, unhide HSS⟩)
                  · have BB : ¬ (a : Int) < (st : Int) ∨ (a : Int) < (st : Int) ∧ ¬ (st : Int) < (mid : Int) := by omega
                    obtain ⟨y1, hy1⟩ : ∃ y1, y1 = rot r st m e := ⟨_, rfl⟩
                    have hr1 := hrR
                    have hK1 := hKR
                    rw [← hy1] at hr1 hF hR2 t1 t2 t3 t4 tA
                    have hF1 := Fine.refl L a mid y1
                    have hS1 : Srt L a mid y1 := by
                      by_cases c : a < st
                      · have : st = mid := by omega
                        rw [← this]
                        exact t1
                      · have : st = a := by omega
                        rw [← this]
                        exact t2
                    rcases BB with BB | ⟨BB, BD⟩
                    · by_cases C : mid < e ∧ e < b
                      · have C1 := nat_lt C.1
                        have C2 := nat_lt C.2
                        have C1' : (mid : Int) < (mid : Int) + (m : Int) - (st : Int) := by omega
                        have C2' : (mid : Int) + (m : Int) - (st : Int) < (b : Int) := by omega
                        go_wp2_with fail
                        all_goals (
                          (try rw [unhide HEI])
                          refine (unhide HI2 _ y1 hr1 (hR2.fine hF1 (by omega)) hK1 C.1 C.2 (t3.keep (fun u a1 a2 => hF1.same u (by omega))) (t4.keep (fun u a1 a2 => hF1.same u (by omega)))).mono ?_
                          rintro e' w9 ⟨rfl, y2, hr2, hK2, hF2, hS2⟩
                          have HFF := hide ((hF.then (hF1.wide (Nat.le_refl _) (by omega))).then (hF2.wide (by omega) (Nat.le_refl _)))
                          have HSS := hide (Srt.join (hS1.keep (fun u a1 a2 => hF2.same u (by omega))) hS2 ((tA.left hF1).right hF2))
                          go_wp2_with fail
                          all_goals (first | go_end0 | go_returns)
                          all_goals exact ⟨rfl, _, hr2, hK2, unhide HFF, unhide HSS⟩)
                      · have CC : ¬ (mid : Int) < (mid : Int) + (m : Int) - (st : Int) ∨ (mid : Int) < (mid : Int) + (m : Int) - (st : Int) ∧ ¬ (mid : Int) + (m : Int) - (st : Int) < (b : Int) := by omega
                        obtain ⟨hr2, hK2⟩ : RowAt q n y1 _ ∧ K _ := ⟨hr1, hK1⟩
                        have hF2 := Fine.refl L mid b y1
                        have hS2 : Srt L mid b y1 := by
                          by_cases c : mid < e
                          · have : e = b := by omega
                            rw [← this]
                            exact t3.keep (fun u a1 a2 => hF1.same u (by omega))
                          · have : e = mid := by omega
                            rw [← this]
                            exact t4.keep (fun u a1 a2 => hF1.same u (by omega))
                        rcases CC with CC | ⟨CC, CD⟩
                        · have HFF := hide ((hF.then (hF1.wide (Nat.le_refl _) (by omega))).then (hF2.wide (by omega) (Nat.le_refl _)))
                          have HSS := hide (Srt.join (hS1.keep (fun u a1 a2 => hF2.same u (by omega))) hS2 ((tA.left hF1).right hF2))
                          go_wp2_with fail
                          all_goals (first | go_end0 | go_returns)
                          all_goals exact ⟨rfl, _, hr2, hK2, unhide HFF, unhide HSS⟩
                        · have HFF := hide ((hF.then (hF1.wide (Nat.le_refl _) (by omega))).then (hF2.wide (by omega) (Nat.le_refl _)))
                          have HSS := hide (Srt.join (hS1.keep (fun u a1 a2 => hF2.same u (by omega))) hS2 ((tA.left hF1).right hF2))
                          go_wp2_with fail
                          all_goals (first | go_end0 | go_returns)
                          all_goals exact ⟨rfl, _, hr2, hK2, unhide HFF, unhide HSS⟩
                    · by_cases C : mid < e ∧ e < b
                      · have C1 := nat_lt C.1
                        have C2 := nat_lt C.2
                        have C1' : (mid : Int) < (mid : Int) + (m : Int) - (st : Int) := by omega
                        have C2' : (mid : Int) + (m : Int) - (st : Int) < (b : Int) := by omega
                        go_wp2_with fail
                        all_goals (
                          (try rw [unhide HEI])
                          refine (unhide HI2 _ y1 hr1 (hR2.fine hF1 (by omega)) hK1 C.1 C.2 (t3.keep (fun u a1 a2 => hF1.same u (by omega))) (t4.keep (fun u a1 a2 => hF1.same u (by omega)))).mono ?_
                          rintro e' w9 ⟨rfl, y2, hr2, hK2, hF2, hS2⟩
                          have HFF := hide ((hF.then (hF1.wide (Nat.le_refl _) (by omega))).then (hF2.wide (by omega) (Nat.le_refl _)))
                          have HSS := hide (Srt.join (hS1.keep (fun u a1 a2 => hF2.same u (by omega))) hS2 ((tA.left hF1).right hF2))
                          go_wp2_with fail
                          all_goals (first | go_end0 | go_returns)
                          all_goals exact ⟨rfl, _, hr2, hK2, unhide HFF, unhide HSS⟩)
                      · have CC : ¬ (mid : Int) < (mid : Int) + (m : Int) - (st : Int) ∨ (mid : Int) < (mid : Int) + (m : Int) - (st : Int) ∧ ¬ (mid : Int) + (m : Int) - (st : Int) < (b : Int) := by omega
                        obtain ⟨hr2, hK2⟩ : RowAt q n y1 _ ∧ K _ := ⟨hr1, hK1⟩
                        have hF2 := Fine.refl L mid b y1
                        have hS2 : Srt L mid b y1 := by
                          by_cases c : mid < e
                          · have : e = b := by omega
                            rw [← this]
                            exact t3.keep (fun u a1 a2 => hF1.same u (by omega))
                          · have : e = mid := by omega
                            rw [← this]
                            exact t4.keep (fun u a1 a2 => hF1.same u (by omega))
                        rcases CC with CC | ⟨CC, CD⟩
                        · have HFF := hide ((hF.then (hF1.wide (Nat.le_refl _) (by omega))).then (hF2.wide (by omega) (Nat.le_refl _)))
                          have HSS := hide (Srt.join (hS1.keep (fun u a1 a2 => hF2.same u (by omega))) hS2 ((tA.left hF1).right hF2))
                          go_wp2_with fail
                          all_goals (first | go_end0 | go_returns)
                          all_goals exact ⟨rfl, _, hr2, hK2, unhide HFF, unhide HSS⟩
                        · have HFF := hide ((hF.then (hF1.wide (Nat.le_refl _) (by omega))).then (hF2.wide (by omega) (Nat.le_refl _)))
                          have HSS := hide (Srt.join (hS1.keep (fun u a1 a2 => hF2.same u (by omega))) hS2 ((tA.left hF1).right hF2))
                          go_wp2_with fail
                          all_goals (first | go_end0 | go_returns)
                          all_goals exact ⟨rfl, _, hr2, hK2, unhide HFF, unhide HSS⟩
                · by_cases B : a < st ∧ st < mid
                  · have B1 := nat_lt B.1
                    have B2 := nat_lt B.2
                    go_wp2_with fail
                    all_goals (
                      refine (unhide HI1 _ _ hrR hR2 hKR B.1 B.2 t1 t2).mono ?_
                      rintro e' w8 ⟨rfl, y1, hr1, hK1, hF1, hS1⟩
                      by_cases C : mid < e ∧ e < b
                      · have C1 := nat_lt C.1
                        have C2 := nat_lt C.2
                        have C1' : (mid : Int) < (mid : Int) + (m : Int) - (st : Int) := by omega
                        have C2' : (mid : Int) + (m : Int) - (st : Int) < (b : Int) := by omega
                        go_wp2_with fail
                        all_goals (
                          (try rw [unhide HEI])
                          refine (unhide HI2 _ y1 hr1 (hR2.fine hF1 (by omega)) hK1 C.1 C.2 (t3.keep (fun u a1 a2 => hF1.same u (by omega))) (t4.keep (fun u a1 a2 => hF1.same u (by omega)))).mono ?_
                          rintro e' w9 ⟨rfl, y2, hr2, hK2, hF2, hS2⟩
                          have HFF := hide ((hF.then (hF1.wide (Nat.le_refl _) (by omega))).then (hF2.wide (by omega) (Nat.le_refl _)))
                          have HSS := hide (Srt.join (hS1.keep (fun u a1 a2 => hF2.same u (by omega))) hS2 ((tA.left hF1).right hF2))
                          go_wp2_with fail
                          all_goals (first | go_end0 | go_returns)
                          all_goals exact ⟨rfl, _, hr2, hK2, unhide HFF, unhide HSS⟩)
                      · have CC : ¬ (mid : Int) < (mid : Int) + (m : Int) - (st : Int) ∨ (mid : Int) < (mid : Int) + (m : Int) - (st : Int) ∧ ¬ (mid : Int) + (m : Int) - (st : Int) < (b : Int) := by omega
                        obtain ⟨hr2, hK2⟩ : RowAt q n y1 _ ∧ K _ := ⟨hr1, hK1⟩
                        have hF2 := Fine.refl L mid b y1
                        have hS2 : Srt L mid b y1 := by
                          by_cases c : mid < e
                          · have : e = b := by omega
                            rw [← this]
                            exact t3.keep (fun u a1 a2 => hF1.same u (by omega))
                          · have : e = mid := by omega
                            rw [← this]
                            exact t4.keep (fun u a1 a2 => hF1.same u (by omega))
                        rcases CC with CC | ⟨CC, CD⟩
                        · have HFF := hide ((hF.then (hF1.wide (Nat.le_refl _) (by omega))).then (hF2.wide (by omega) (Nat.le_refl _)))
                          have HSS := hide (Srt.join (hS1.keep (fun u a1 a2 => hF2.same u (by omega))) hS2 ((tA.left hF1).right hF2))
                          go_wp2_with fail
                          all_goals (first | go_end0 | go_returns)
                          all_goals exact ⟨rfl, _, hr2, hK2, unhide HFF, unhide HSS⟩
                        · have HFF := hide ((hF.then (hF1.wide (Nat.le_refl _) (by omega))).then (hF2.wide (by omega) (Nat.le_refl _)))
                          have HSS := hide (Srt.join (hS1.keep (fun u a1 a2 => hF2.same u (by omega))) hS2 ((tA.left hF1).right hF2))
                          go_wp2_with fail
                          all_goals (first | go_end0 | go_returns)
                          all_goals exact ⟨rfl, _, hr2, hK2, unhide HFF, unhide HSS⟩)
                  · have BB : ¬ (a : Int) < (st : Int) ∨ (a : Int) < (st : Int) ∧ ¬ (st : Int) < (mid : Int) := by omega
                    obtain ⟨y1, hy1⟩ : ∃ y1, y1 = rot r st m e := ⟨_, rfl⟩
                    have hr1 := hrR
                    have hK1 := hKR
                    rw [← hy1] at hr1 hF hR2 t1 t2 t3 t4 tA
                    have hF1 := Fine.refl L a mid y1
                    have hS1 : Srt L a mid y1 := by
                      by_cases c : a < st
                      · have : st = mid := by omega
                        rw [← this]
                        exact t1
                      · have : st = a := by omega
                        rw [← this]
                        exact t2
                    rcases BB with BB | ⟨BB, BD⟩
                    · by_cases C : mid < e ∧ e < b
                      · have C1 := nat_lt C.1
                        have C2 := nat_lt C.2
                        have C1' : (mid : Int) < (mid : Int) + (m : Int) - (st : Int) := by omega
                        have C2' : (mid : Int) + (m : Int) - (st : Int) < (b : Int) := by omega
                        go_wp2_with fail
                        all_goals (
                          (try rw [unhide HEI])
                          refine (unhide HI2 _ y1 hr1 (hR2.fine hF1 (by omega)) hK1 C.1 C.2 (t3.keep (fun u a1 a2 => hF1.same u (by omega))) (t4.keep (fun u a1 a2 => hF1.same u (by omega)))).mono ?_
                          rintro e' w9 ⟨rfl, y2, hr2, hK2, hF2, hS2⟩
                          have HFF := hide ((hF.then (hF1.wide (Nat.le_refl _) (by omega))).then (hF2.wide (by omega) (Nat.le_refl _)))
                          have HSS := hide (Srt.join (hS1.keep (fun u a1 a2 => hF2.same u (by omega))) hS2 ((tA.left hF1).right hF2))
                          go_wp2_with fail
                          all_goals (first | go_end0 | go_returns)
                          all_goals exact ⟨rfl, _, hr2, hK2, unhide HFF, unhide HSS⟩)
                      · have CC : ¬ (mid : Int) < (mid : Int) + (m : Int) - (st : Int) ∨ (mid : Int) < (mid : Int) + (m : Int) - (st : Int) ∧ ¬ (mid : Int) + (m : Int) - (st : Int) < (b : Int) := by omega
                        obtain ⟨hr2, hK2⟩ : RowAt q n y1 _ ∧ K _ := ⟨hr1, hK1⟩
                        have hF2 := Fine.refl L mid b y1
                        have hS2 : Srt L mid b y1 := by
                          by_cases c : mid < e
                          · have : e = b := by omega
                            rw [← this]
                            exact t3.keep (fun u a1 a2 => hF1.same u (by omega))
                          · have : e = mid := by omega
                            rw [← this]
                            exact t4.keep (fun u a1 a2 => hF1.same u (by omega))
                        rcases CC with CC | ⟨CC, CD⟩
                        · have HFF := hide ((hF.then (hF1.wide (Nat.le_refl _) (by omega))).then (hF2.wide (by omega) (Nat.le_refl _)))
                          have HSS := hide (Srt.join (hS1.keep (fun u a1 a2 => hF2.same u (by omega))) hS2 ((tA.left hF1).right hF2))
                          go_wp2_with fail
                          all_goals (first | go_end0 | go_returns)
                          all_goals exact ⟨rfl, _, hr2, hK2, unhide HFF, unhide HSS⟩
                        · have HFF := hide ((hF.then (hF1.wide (Nat.le_refl _) (by omega))).then (hF2.wide (by omega) (Nat.le_refl _)))
                          have HSS := hide (Srt.join (hS1.keep (fun u a1 a2 => hF2.same u (by omega))) hS2 ((tA.left hF1).right hF2))
                          go_wp2_with fail
                          all_goals (first | go_end0 | go_returns)
                          all_goals exact ⟨rfl, _, hr2, hK2, unhide HFF, unhide HSS⟩
                    · by_cases C : mid < e ∧ e < b
                      · have C1 := nat_lt C.1
                        have C2 := nat_lt C.2
                        have C1' : (mid : Int) < (mid : Int) + (m : Int) - (st : Int) := by omega
                        have C2' : (mid : Int) + (m : Int) - (st : Int) < (b : Int) := by omega
                        go_wp2_with fail
                        all_goals (
                          (try rw [unhide HEI])
                          refine (unhide HI2 _ y1 hr1 (hR2.fine hF1 (by omega)) hK1 C.1 C.2 (t3.keep (fun u a1 a2 => hF1.same u (by omega))) (t4.keep (fun u a1 a2 => hF1.same u (by omega)))).mono ?_
                          rintro e' w9 ⟨rfl, y2, hr2, hK2, hF2, hS2⟩
                          have HFF := hide ((hF.then (hF1.wide (Nat.le_refl _) (by omega))).then (hF2.wide (by omega) (Nat.le_refl _)))
                          have HSS := hide (Srt.join (hS1.keep (fun u a1 a2 => hF2.same u (by omega))) hS2 ((tA.left hF1).right hF2))
                          go_wp2_with fail
                          all_goals (first | go_end0 | go_returns)
                          all_goals exact ⟨rfl, _, hr2, hK2, unhide HFF, unhide HSS⟩)
                      · have CC : ¬ (mid : Int) < (mid : Int) + (m : Int) - (st : Int) ∨ (mid : Int) < (mid : Int) + (m : Int) - (st : Int) ∧ ¬ (mid : Int) + (m : Int) - (st : Int) < (b : Int) := by omega
                        obtain ⟨hr2, hK2⟩ : RowAt q n y1 _ ∧ K _ := ⟨hr1, hK1⟩
                        have hF2 := Fine.refl L mid b y1
                        have hS2 : Srt L mid b y1 := by
                          by_cases c : mid < e
                          · have : e = b := by omega
                            rw [← this]
                            exact t3.keep (fun u a1 a2 => hF1.same u (by omega))
                          · have : e = mid := by omega
                            rw [← this]
                            exact t4.keep (fun u a1 a2 => hF1.same u (by omega))
                        rcases CC with CC | ⟨CC, CD⟩
                        · have HFF := hide ((hF.then (hF1.wide (Nat.le_refl _) (by omega))).then (hF2.wide (by omega) (Nat.le_refl _)))
                          have HSS := hide (Srt.join (hS1.keep (fun u a1 a2 => hF2.same u (by omega))) hS2 ((tA.left hF1).right hF2))
                          go_wp2_with fail
                          all_goals (first | go_end0 | go_returns)
                          all_goals exact ⟨rfl, _, hr2, hK2, unhide HFF, unhide HSS⟩
                        · have HFF := hide ((hF.then (hF1.wide (Nat.le_refl _) (by omega))).then (hF2.wide (by omega) (Nat.le_refl _)))
                          have HSS := hide (Srt.join (hS1.keep (fun u a1 a2 => hF2.same u (by omega))) hS2 ((tA.left hF1).right hF2))
                          go_wp2_with fail
                          all_goals (first | go_end0 | go_returns)
                          all_goals exact ⟨rfl, _, hr2, hK2, unhide HFF, unhide HSS⟩
        · have w1' := nat_nlt w1
          have hp' : (mid : Int) + (m : Int) - 1 = (p : Int) := by omega
          have Hp := hide hp'
          clear hp'
          go_enter Tryz.func31, Tryz.ntmps31
          go_wp2_with fail
          simp only [unhide Hm2, unhide Hp]
          go_loopw [20, 21] (fun v u wr => ∃ st rr : Nat, v = .int .i64 (st : Int) ∧ u = .int .i64 (rr : Int) ∧ Hid (Seek L r s0 r0 p st rr) ∧ RowAt q n r wr ∧ K wr) (fun v u _ => vNat u - vNat v)
          case atStart => exact ⟨s0, r0, by rw [w2], by rw [w3], hide ⟨Nat.le_refl _, hs0, Nat.le_refl _, fun c a1 a2 => by omega, fun c a1 a2 => by omega⟩, hr, hK⟩
          case round =>
            clear hr hK
            obtain ⟨st, rr, rfl, rfl, hsk, hr, hK⟩ := hrel
            have k1 := (unhide hsk).le0
            have k2 := (unhide hsk).le1
            have k3 := (unhide hsk).le2
            by_cases hij : st < rr
            · have hij' := nat_lt hij
              obtain ⟨c, hc⟩ : ∃ c, c = (st + rr) / 2 := ⟨_, rfl⟩
              have hins := (hB.ins hh).2.2.2.2 c (by omega) (by omega)
              obtain ⟨pc, hpc⟩ : ∃ pc, pc + c = p := ⟨p - c, by omega⟩
              have hpc' : p - c = pc := by omega
              rw [hpc'] at hins
              have b1 : c < n := by omega
              have b2 : pc < n := by omega
              have b3 : c < pc := by omega
              have b4 : st ≤ c ∧ c < rr := by omega
              have hh2 : ((st : Int) + (rr : Int)) / 2 = (c : Int) := by omega
              have hpI : (p : Int) - (c : Int) = (pc : Int) := by omega
              have pb : p ≤ 2000000 := by omega
              have hlater := hR.later (unhide HS) b3
              have v1 := hR.low c b1
              have v2 := hR.low pc b2
              have HCC := hide (fun w hK => unhide HC w (r pc) (r c) hK v2 v1)
              have HCL := hide (show ClsR K q n r wr.drew from ⟨(unhide HKK).drew wr hK, hr.drew⟩)
              have HCB := hide (fun (u u' : World) (h : ClsR K q n r u) (hb : Below u.heap.size u u') => (⟨(unhide HKK).below u u' h.kind hb, h.row.below hb⟩ : ClsR K q n r u'))
              have HCE := hide (fun (u : World) (hc : ClsR K q n r u) => (⟨(hc.row c b1).1, (hc.row pc b2).1⟩ : u.cell? ⟨q, c, none⟩ = some (.int .i64 ((r c : Nat) : Int)) ∧ u.cell? ⟨q, pc, none⟩ = some (.int .i64 ((r pc : Nat) : Int))))
              have B1 := nat_lt b1
              have B2 := nat_lt b2
              have HA := hide hlater
              have HPC := hide hpc'
              have eP : IntKind.i64.wrap ((p : Int) - (c : Int)) = (pc : Int) := by
                rw [hpI, i64_is, wrap_same _ (by omega) (by omega)]
              clear hlater
              generalize hVC : ((r c : Nat) : Int) = VC at *
              generalize hVP : ((r pc : Nat) : Int) = VP at *
              have HH := hide hh2
              clear hVC hVP v1 v2 hr hK hh2 hc hpI hpc hpc'
              go_wp2_with fail
              rw [unhide HH]
              refine wp_region_cls (ClsR K q n r) (by kernel_rfl) (by kernel_rfl) (unhide HCL) ?_
              repeat
                (first
                  | go_big_quiet_skip
                  | (go_big_quiet_want
                     go_big_quiet_op
                     first
                       | go_big_quiet_on
                       | (apply Exists.intro
                          refine ⟨fun w' hC => ?_, ?_⟩
                          · (first
                              | (go_at_call 12; refine (unhide HCC _ hC.kind).mono ?_; rintro e w3 ⟨rfl, hb3⟩; exact ⟨rfl, unhide HCB _ _ hC hb3⟩)
                              | (have c0 := (unhide HCE _ hC).1; have c1 := (unhide HCE _ hC).2; go_simp; first | done | rfl))
                          go_big_quiet_on)))
              refine wpQuiet_nil ?_
              intro w4 hC4
              obtain ⟨hK4, hr4⟩ := hC4
              clear HCL HCB HCE HCC
              by_cases hcc : cf (r pc) (r c) < 0
              · have hl : L (r pc) (r c) := (unhide HA).1 ((unhide HCF _ _).1 hcc)
                have HN := hide (show Hid (Seek L r s0 r0 p st c) from hide ((unhide hsk).down hL hB hh hs1 hs2 b4.1 b4.2 (by rw [unhide HPC]; exact hl)))
                have HM := hide (show ((c : Nat) : Int).toNat - ((st : Nat) : Int).toNat < ((rr : Nat) : Int).toNat - ((st : Nat) : Int).toNat by rw [Int.toNat_natCast, Int.toNat_natCast, Int.toNat_natCast]; omega)
                clear eP
                generalize hce : cf (r pc) (r c) = cc at *
                have hc2 : (!decide (cc < 0)) = false := by simp [hcc]
                go_wp2_with fail
                all_goals first
                  | (rename_i hx; rw [hc2] at hx; cases hx; done)
                  | exact ⟨⟨st, c, rfl, rfl, unhide HN, hr4, hK4⟩, unhide HM⟩
              · have hl : L (r c) (r pc) := by
                  rcases hL.tri (r c) (r pc) (fun e => by have := hR.inj _ _ e; omega) with u | u
                  · exact u
                  · exact absurd ((unhide HCF _ _).2 ((unhide HA).2 u)) hcc
                have HN := hide (show Hid (Seek L r s0 r0 p (c + 1) rr) from hide ((unhide hsk).up hL hB hh hs1 hs2 b4.1 b4.2 (by rw [unhide HPC]; exact hl)))
                have HE := hide (show (c : Int) + 1 = ((c + 1 : Nat) : Int) by omega)
                have HM := hide (show ((rr : Nat) : Int).toNat - ((c + 1 : Nat) : Int).toNat < ((rr : Nat) : Int).toNat - ((st : Nat) : Int).toNat by rw [Int.toNat_natCast, Int.toNat_natCast, Int.toNat_natCast]; omega)
                clear eP
                generalize hce : cf (r pc) (r c) = cc at *
                have hc2 : (!decide (cc < 0)) = true := by simp [hcc]
                go_wp2_with fail
                all_goals first
                  | (rename_i hx; rw [hc2] at hx; cases hx; done)
                  | exact ⟨⟨c + 1, rr, by first | (rw [unhide HE]) | rfl, rfl, unhide HN, hr4, hK4⟩, by first | (rw [unhide HE]; exact unhide HM) | exact unhide HM⟩
            · have hij' := nat_nlt hij
              have hEq : st = rr := by omega
              subst hEq
              obtain ⟨e, he⟩ : ∃ e, e + st = mid + m := ⟨mid + m - st, by omega⟩
              obtain ⟨f1, f2, f3, f4, f5, f6, hF, t1, t2, t3, t4, tA⟩ := sym_main hL (unhide hsk) hB hh hs1 hs2 e he
              have hR2 := hR.fine hF hb
              have HROT := hide (fun (w : World) (hr : RowAt q n r w) (hK : K w) (h1 : st < m) (h2 : m < e) => rotate_any q n st m e (cloV g) r w hr h1 h2 (by omega) hn K hK (unhide HKK).set (unhide HKK).drew)
              have HI1 := hide (fun (w : World) (y : Rw) (hr : RowAt q n y w) (hR : Rws L lt N n y) (hK : K w) (h1 : a < st) (h2 : st < mid) (s1 : Srt L a st y) (s2 : Srt L st mid y) => unhide HIH a st mid y w (by omega) h1 h2 (by omega) s1 s2 hr hR hK)
              have HI2 := hide (fun (w : World) (y : Rw) (hr : RowAt q n y w) (hR : Rws L lt N n y) (hK : K w) (h1 : mid < e) (h2 : e < b) (s1 : Srt L mid e y) (s2 : Srt L e b y) => unhide HIH mid e b y w (by omega) h1 h2 hb s1 s2 hr hR hK)
              unfold cloV at HROT HI1 HI2
              have hEI : ((mid : Int) + (m : Int)) - (st : Int) = (e : Int) := by omega
              have HEI := hide hEI
              clear hsk hij hij' hEI
              by_cases A : st < m ∧ m < e
              · have A1 := nat_lt A.1
                have A2 := nat_lt A.2
                have A2' : (m : Int) < (mid : Int) + (m : Int) - (st : Int) := by omega
                go_wp2_with fail
                all_goals (
                  (try rw [unhide HEI])
                  refine (unhide HROT wr hr hK A.1 A.2).mono ?_
                  rintro e' wR ⟨rfl, hrR, hKR⟩
                  by_cases B : a < st ∧ st < mid
                  · have B1 := nat_lt B.1
                    have B2 := nat_lt B.2
                    go_wp2_with fail
                    all_goals (
                      refine (unhide HI1 _ _ hrR hR2 hKR B.1 B.2 t1 t2).mono ?_
                      rintro e' w8 ⟨rfl, y1, hr1, hK1, hF1, hS1⟩
                      by_cases C : mid < e ∧ e < b
                      · have C1 := nat_lt C.1
                        have C2 := nat_lt C.2
                        have C1' : (mid : Int) < (mid : Int) + (m : Int) - (st : Int) := by omega
                        have C2' : (mid : Int) + (m : Int) - (st : Int) < (b : Int) := by omega
                        go_wp2_with fail
                        all_goals (
                          (try rw [unhide HEI])
                          refine (unhide HI2 _ y1 hr1 (hR2.fine hF1 (by omega)) hK1 C.1 C.2 (t3.keep (fun u a1 a2 => hF1.same u (by omega))) (t4.keep (fun u a1 a2 => hF1.same u (by omega)))).mono ?_
                          rintro e' w9 ⟨rfl, y2, hr2, hK2, hF2, hS2⟩
                          have HFF := hide ((hF.then (hF1.wide (Nat.le_refl _) (by omega))).then (hF2.wide (by omega) (Nat.le_refl _)))
                          have HSS := hide (Srt.join (hS1.keep (fun u a1 a2 => hF2.same u (by omega))) hS2 ((tA.left hF1).right hF2))
                          go_wp2_with fail
                          all_goals (first | go_end0 | go_returns)
                          all_goals exact ⟨rfl, _, hr2, hK2, unhide HFF, unhide HSS⟩)
                      · have CC : ¬ (mid : Int) < (mid : Int) + (m : Int) - (st : Int) ∨ (mid : Int) < (mid : Int) + (m : Int) - (st : Int) ∧ ¬ (mid : Int) + (m : Int) - (st : Int) < (b : Int) := by omega
                        obtain ⟨hr2, hK2⟩ : RowAt q n y1 _ ∧ K _ := ⟨hr1, hK1⟩
                        have hF2 := Fine.refl L mid b y1
                        have hS2 : Srt L mid b y1 := by
                          by_cases c : mid < e
                          · have : e = b := by omega
                            rw [← this]
                            exact t3.keep (fun u a1 a2 => hF1.same u (by omega))
                          · have : e = mid := by omega
                            rw [← this]
                            exact t4.keep (fun u a1 a2 => hF1.same u (by omega))
                        rcases CC with CC | ⟨CC, CD⟩
                        · have HFF := hide ((hF.then (hF1.wide (Nat.le_refl _) (by omega))).then (hF2.wide (by omega) (Nat.le_refl _)))
                          have HSS := hide (Srt.join (hS1.keep (fun u a1 a2 => hF2.same u (by omega))) hS2 ((tA.left hF1).right hF2))
                          go_wp2_with fail
                          all_goals (first | go_end0 | go_returns)
                          all_goals exact ⟨rfl, _, hr2, hK2, unhide HFF, unhide HSS⟩
                        · have HFF := hide ((hF.then (hF1.wide (Nat.le_refl _) (by omega))).then (hF2.wide (by omega) (Nat.le_refl _)))
                          have HSS := hide (Srt.join (hS1.keep (fun u a1 a2 => hF2.same u (by omega))) hS2 ((tA.left hF1).right hF2))
                          go_wp2_with fail
                          all_goals (first | go_end0 | go_returns)
                          all_goals exact ⟨rfl, _, hr2, hK2, unhide HFF, unhide HSS⟩)
                  · have BB : ¬ (a : Int) < (st : Int) ∨ (a : Int) < (st : Int) ∧ ¬ (st : Int) < (mid : Int) := by omega
                    obtain ⟨y1, hy1⟩ : ∃ y1, y1 = rot r st m e := ⟨_, rfl⟩
                    have hr1 := hrR
                    have hK1 := hKR
                    rw [← hy1] at hr1 hF hR2 t1 t2 t3 t4 tA
                    have hF1 := Fine.refl L a mid y1
                    have hS1 : Srt L a mid y1 := by
                      by_cases c : a < st
                      · have : st = mid := by omega
                        rw [← this]
                        exact t1
                      · have : st = a := by omega
                        rw [← this]
                        exact t2
                    rcases BB with BB | ⟨BB, BD⟩
                    · by_cases C : mid < e ∧ e < b
                      · have C1 := nat_lt C.1
                        have C2 := nat_lt C.2
                        have C1' : (mid : Int) < (mid : Int) + (m : Int) - (st : Int) := by omega
                        have C2' : (mid : Int) + (m : Int) - (st : Int) < (b : Int) := by omega
                        go_wp2_with fail
                        all_goals (
                          (try rw [unhide HEI])
                          refine (unhide HI2 _ y1 hr1 (hR2.fine hF1 (by omega)) hK1 C.1 C.2 (t3.keep (fun u a1 a2 => hF1.same u (by omega))) (t4.keep (fun u a1 a2 => hF1.same u (by omega)))).mono ?_
                          rintro e' w9 ⟨rfl, y2, hr2, hK2, hF2, hS2⟩
                          have HFF := hide ((hF.then (hF1.wide (Nat.le_refl _) (by omega))).then (hF2.wide (by omega) (Nat.le_refl _)))
                          have HSS := hide (Srt.join (hS1.keep (fun u a1 a2 => hF2.same u (by omega))) hS2 ((tA.left hF1).right hF2))
                          go_wp2_with fail
                          all_goals (first | go_end0 | go_returns)
                          all_goals exact ⟨rfl, _, hr2, hK2, unhide HFF, unhide HSS⟩)
                      · have CC : ¬ (mid : Int) < (mid : Int) + (m : Int) - (st : Int) ∨ (mid : Int) < (mid : Int) + (m : Int) - (st : Int) ∧ ¬ (mid : Int) + (m : Int) - (st : Int) < (b : Int) := by omega
                        obtain ⟨hr2, hK2⟩ : RowAt q n y1 _ ∧ K _ := ⟨hr1, hK1⟩
                        have hF2 := Fine.refl L mid b y1
                        have hS2 : Srt L mid b y1 := by
                          by_cases c : mid < e
                          · have : e = b := by omega
                            rw [← this]
                            exact t3.keep (fun u a1 a2 => hF1.same u (by omega))
                          · have : e = mid := by omega
                            rw [← this]
                            exact t4.keep (fun u a1 a2 => hF1.same u (by omega))
                        rcases CC with CC | ⟨CC, CD⟩
                        · have HFF := hide ((hF.then (hF1.wide (Nat.le_refl _) (by omega))).then (hF2.wide (by omega) (Nat.le_refl _)))
                          have HSS := hide (Srt.join (hS1.keep (fun u a1 a2 => hF2.same u (by omega))) hS2 ((tA.left hF1).right hF2))
                          go_wp2_with fail
                          all_goals (first | go_end0 | go_returns)
                          all_goals exact ⟨rfl, _, hr2, hK2, unhide HFF, unhide HSS⟩
                        · have HFF := hide ((hF.then (hF1.wide (Nat.le_refl _) (by omega))).then (hF2.wide (by omega) (Nat.le_refl _)))
                          have HSS := hide (Srt.join (hS1.keep (fun u a1 a2 => hF2.same u (by omega))) hS2 ((tA.left hF1).right hF2))
                          go_wp2_with fail
                          all_goals (first | go_end0 | go_returns)
                          all_goals exact ⟨rfl, _, hr2, hK2, unhide HFF, unhide HSS⟩
                    · by_cases C : mid < e ∧ e < b
                      · have C1 := nat_lt C.1
                        have C2 := nat_lt C.2
                        have C1' : (mid : Int) < (mid : Int) + (m : Int) - (st : Int) := by omega
                        have C2' : (mid : Int) + (m : Int) - (st : Int) < (b : Int) := by omega
                        go_wp2_with fail
                        all_goals (
                          (try rw [unhide HEI])
                          refine (unhide HI2 _ y1 hr1 (hR2.fine hF1 (by omega)) hK1 C.1 C.2 (t3.keep (fun u a1 a2 => hF1.same u (by omega))) (t4.keep (fun u a1 a2 => hF1.same u (by omega)))).mono ?_
                          rintro e' w9 ⟨rfl, y2, hr2, hK2, hF2, hS2⟩
                          have HFF := hide ((hF.then (hF1.wide (Nat.le_refl _) (by omega))).then (hF2.wide (by omega) (Nat.le_refl _)))
                          have HSS := hide (Srt.join (hS1.keep (fun u a1 a2 => hF2.same u (by omega))) hS2 ((tA.left hF1).right hF2))
                          go_wp2_with fail
                          all_goals (first | go_end0 | go_returns)
                          all_goals exact ⟨rfl, _, hr2, hK2, unhide HFF, unhide HSS⟩)
                      · have CC : ¬ (mid : Int) < (mid : Int) + (m : Int) - (st : Int) ∨ (mid : Int) < (mid : Int) + (m : Int) - (st : Int) ∧ ¬ (mid : Int) + (m : Int) - (st : Int) < (b : Int) := by omega
                        obtain ⟨hr2, hK2⟩ : RowAt q n y1 _ ∧ K _ := ⟨hr1, hK1⟩
                        have hF2 := Fine.refl L mid b y1
                        have hS2 : Srt L mid b y1 := by
                          by_cases c : mid < e
                          · have : e = b := by omega
                            rw [← this]
                            exact t3.keep (fun u a1 a2 => hF1.same u (by omega))
                          · have : e = mid := by omega
                            rw [← this]
                            exact t4.keep (fun u a1 a2 => hF1.same u (by omega))
                        rcases CC with CC | ⟨CC, CD⟩
                        · have HFF := hide ((hF.then (hF1.wide (Nat.le_refl _) (by omega))).then (hF2.wide (by omega) (Nat.le_refl _)))
                          have HSS := hide (Srt.join (hS1.keep (fun u a1 a2 => hF2.same u (by omega))) hS2 ((tA.left hF1).right hF2))
                          go_wp2_with fail
                          all_goals (first | go_end0 | go_returns)
                          all_goals exact ⟨rfl, _, hr2, hK2, unhide HFF, unhide HSS⟩
                        · have HFF := hide ((hF.then (hF1.wide (Nat.le_refl _) (by omega))).then (hF2.wide (by omega) (Nat.le_refl _)))
                          have HSS := hide (Srt.join (hS1.keep (fun u a1 a2 => hF2.same u (by omega))) hS2 ((tA.left hF1).right hF2))
                          go_wp2_with fail
                          all_goals (first | go_end0 | go_returns)
                          all_goals exact ⟨rfl, _, hr2, hK2, unhide HFF, unhide HSS⟩)
              · have AA : ¬ (st : Int) < (m : Int) ∨ (st : Int) < (m : Int) ∧ ¬ (m : Int) < (mid : Int) + (m : Int) - (st : Int) := by omega
                have hrR : RowAt q n (rot r st m e) wr := by
                  by_cases c : st < m
                  · have : e = m := by omega
                    rw [this, rot_right]
                    exact hr
                  · have : st = m := by omega
                    rw [this, rot_left]
                    exact hr
                have hKR := hK
                rcases AA with AA | ⟨AA, AD⟩
                · by_cases B : a < st ∧ st < mid
                  · have B1 := nat_lt B.1
                    have B2 := nat_lt B.2
                    go_wp2_with fail
                    all_goals (
                      refine (unhide HI1 _ _ hrR hR2 hKR B.1 B.2 t1 t2).mono ?_
                      rintro e' w8 ⟨rfl, y1, hr1, hK1, hF1, hS1⟩
                      by_cases C : mid < e ∧ e < b
                      · have C1 := nat_lt C.1
                        have C2 := nat_lt C.2
                        have C1' : (mid : Int) < (mid : Int) + (m : Int) - (st : Int) := by omega
                        have C2' : (mid : Int) + (m : Int) - (st : Int) < (b : Int) := by omega
                        go_wp2_with fail
                        all_goals (
                          (try rw [unhide HEI])
                          refine (unhide HI2 _ y1 hr1 (hR2.fine hF1 (by omega)) hK1 C.1 C.2 (t3.keep (fun u a1 a2 => hF1.same u (by omega))) (t4.keep (fun u a1 a2 => hF1.same u (by omega)))).mono ?_
                          rintro e' w9 ⟨rfl, y2, hr2, hK2, hF2, hS2⟩
                          have HFF := hide ((hF.then (hF1.wide (Nat.le_refl _) (by omega))).then (hF2.wide (by omega) (Nat.le_refl _)))
                          have HSS := hide (Srt.join (hS1.keep (fun u a1 a2 => hF2.same u (by omega))) hS2 ((tA.left hF1).right hF2))
                          go_wp2_with fail
                          all_goals (first | go_end0 | go_returns)
                          all_goals exact ⟨rfl, _, hr2, hK2, unhide HFF, unhide HSS⟩)
                      · have CC : ¬ (mid : Int) < (mid : Int) + (m : Int) - (st : Int) ∨ (mid : Int) < (mid : Int) + (m : Int) - (st : Int) ∧ ¬ (mid : Int) + (m : Int) - (st : Int) < (b : Int) := by omega
                        obtain ⟨hr2, hK2⟩ : RowAt q n y1 _ ∧ K _ := ⟨hr1, hK1⟩
                        have hF2 := Fine.refl L mid b y1
                        have hS2 : Srt L mid b y1 := by
                          by_cases c : mid < e
                          · have : e = b := by omega
                            rw [← this]
                            exact t3.keep (fun u a1 a2 => hF1.same u (by omega))
                          · have : e = mid := by omega
                            rw [← this]
                            exact t4.keep (fun u a1 a2 => hF1.same u (by omega))
                        rcases CC with CC | ⟨CC, CD⟩
                        · have HFF := hide ((hF.then (hF1.wide (Nat.le_refl _) (by omega))).then (hF2.wide (by omega) (Nat.le_refl _)))
                          have HSS := hide (Srt.join (hS1.keep (fun u a1 a2 => hF2.same u (by omega))) hS2 ((tA.left hF1).right hF2))
                          go_wp2_with fail
                          all_goals (first | go_end0 | go_returns)
                          all_goals exact ⟨rfl, _, hr2, hK2, unhide HFF, unhide HSS⟩
                        · have HFF := hide ((hF.then (hF1.wide (Nat.le_refl _) (by omega))).then (hF2.wide (by omega) (Nat.le_refl _)))
                          have HSS := hide (Srt.join (hS1.keep (fun u a1 a2 => hF2.same u (by omega))) hS2 ((tA.left hF1).right hF2))
                          go_wp2_with fail
                          all_goals (first | go_end0 | go_returns)
                          all_goals exact ⟨rfl, _, hr2, hK2, unhide HFF, unhide HSS⟩)
                  · have BB : ¬ (a : Int) < (st : Int) ∨ (a : Int) < (st : Int) ∧ ¬ (st : Int) < (mid : Int) := by omega
                    obtain ⟨y1, hy1⟩ : ∃ y1, y1 = rot r st m e := ⟨_, rfl⟩
                    have hr1 := hrR
                    have hK1 := hKR
                    rw [← hy1] at hr1 hF hR2 t1 t2 t3 t4 tA
                    have hF1 := Fine.refl L a mid y1
                    have hS1 : Srt L a mid y1 := by
                      by_cases c : a < st
                      · have : st = mid := by omega
                        rw [← this]
                        exact t1
                      · have : st = a := by omega
                        rw [← this]
                        exact t2
                    rcases BB with BB | ⟨BB, BD⟩
                    · by_cases C : mid < e ∧ e < b
                      · have C1 := nat_lt C.1
                        have C2 := nat_lt C.2
                        have C1' : (mid : Int) < (mid : Int) + (m : Int) - (st : Int) := by omega
                        have C2' : (mid : Int) + (m : Int) - (st : Int) < (b : Int) := by omega
                        go_wp2_with fail
                        all_goals (
                          (try rw [unhide HEI])
                          refine (unhide HI2 _ y1 hr1 (hR2.fine hF1 (by omega)) hK1 C.1 C.2 (t3.keep (fun u a1 a2 => hF1.same u (by omega))) (t4.keep (fun u a1 a2 => hF1.same u (by omega)))).mono ?_
                          rintro e' w9 ⟨rfl, y2, hr2, hK2, hF2, hS2⟩
                          have HFF := hide ((hF.then (hF1.wide (Nat.le_refl _) (by omega))).then (hF2.wide (by omega) (Nat.le_refl _)))
                          have HSS := hide (Srt.join (hS1.keep (fun u a1 a2 => hF2.same u (by omega))) hS2 ((tA.left hF1).right hF2))
                          go_wp2_with fail
                          all_goals (first | go_end0 | go_returns)
                          all_goals exact ⟨rfl, _, hr2, hK2, unhide HFF, unhide HSS⟩)
                      · have CC : ¬ (mid : Int) < (mid : Int) + (m : Int) - (st : Int) ∨ (mid : Int) < (mid : Int) + (m : Int) - (st : Int) ∧ ¬ (mid : Int) + (m : Int) - (st : Int) < (b : Int) := by omega
                        obtain ⟨hr2, hK2⟩ : RowAt q n y1 _ ∧ K _ := ⟨hr1, hK1⟩
                        have hF2 := Fine.refl L mid b y1
                        have hS2 : Srt L mid b y1 := by
                          by_cases c : mid < e
                          · have : e = b := by omega
                            rw [← this]
                            exact t3.keep (fun u a1 a2 => hF1.same u (by omega))
                          · have : e = mid := by omega
                            rw [← this]
                            exact t4.keep (fun u a1 a2 => hF1.same u (by omega))
                        rcases CC with CC | ⟨CC, CD⟩
                        · have HFF := hide ((hF.then (hF1.wide (Nat.le_refl _) (by omega))).then (hF2.wide (by omega) (Nat.le_refl _)))
                          have HSS := hide (Srt.join (hS1.keep (fun u a1 a2 => hF2.same u (by omega))) hS2 ((tA.left hF1).right hF2))
                          go_wp2_with fail
                          all_goals (first | go_end0 | go_returns)
                          all_goals exact ⟨rfl, _, hr2, hK2, unhide HFF, unhide HSS⟩
                        · have HFF := hide ((hF.then (hF1.wide (Nat.le_refl _) (by omega))).then (hF2.wide (by omega) (Nat.le_refl _)))
                          have HSS := hide (Srt.join (hS1.keep (fun u a1 a2 => hF2.same u (by omega))) hS2 ((tA.left hF1).right hF2))
                          go_wp2_with fail
                          all_goals (first | go_end0 | go_returns)
                          all_goals exact ⟨rfl, _, hr2, hK2, unhide HFF, unhide HSS⟩
                    · by_cases C : mid < e ∧ e < b
                      · have C1 := nat_lt C.1
                        have C2 := nat_lt C.2
                        have C1' : (mid : Int) < (mid : Int) + (m : Int) - (st : Int) := by omega
                        have C2' : (mid : Int) + (m : Int) - (st : Int) < (b : Int) := by omega
                        go_wp2_with fail
                        all_goals (
                          (try rw [unhide HEI])
                          refine (unhide HI2 _ y1 hr1 (hR2.fine hF1 (by omega)) hK1 C.1 C.2 (t3.keep (fun u a1 a2 => hF1.same u (by omega))) (t4.keep (fun u a1 a2 => hF1.same u (by omega)))).mono ?_
                          rintro e' w9 ⟨rfl, y2, hr2, hK2, hF2, hS2⟩
                          have HFF := hide ((hF.then (hF1.wide (Nat.le_refl _) (by omega))).then (hF2.wide (by omega) (Nat.le_refl _)))
                          have HSS := hide (Srt.join (hS1.keep (fun u a1 a2 => hF2.same u (by omega))) hS2 ((tA.left hF1).right hF2))
                          go_wp2_with fail
                          all_goals (first | go_end0 | go_returns)
                          all_goals exact ⟨rfl, _, hr2, hK2, unhide HFF, unhide HSS⟩)
                      · have CC : ¬ (mid : Int) < (mid : Int) + (m : Int) - (st : Int) ∨ (mid : Int) < (mid : Int) + (m : Int) - (st : Int) ∧ ¬ (mid : Int) + (m : Int) - (st : Int) < (b : Int) := by omega
                        obtain ⟨hr2, hK2⟩ : RowAt q n y1 _ ∧ K _ := ⟨hr1, hK1⟩
                        have hF2 := Fine.refl L mid b y1
                        have hS2 : Srt L mid b y1 := by
                          by_cases c : mid < e
                          · have : e = b := by omega
                            rw [← this]
                            exact t3.keep (fun u a1 a2 => hF1.same u (by omega))
                          · have : e = mid := by omega
                            rw [← this]
                            exact t4.keep (fun u a1 a2 => hF1.same u (by omega))
                        rcases CC with CC | ⟨CC, CD⟩
                        · have HFF := hide ((hF.then (hF1.wide (Nat.le_refl _) (by omega))).then (hF2.wide (by omega) (Nat.le_refl _)))
                          have HSS := hide (Srt.join (hS1.keep (fun u a1 a2 => hF2.same u (by omega))) hS2 ((tA.left hF1).right hF2))
                          go_wp2_with fail
                          all_goals (first | go_end0 | go_returns)
                          all_goals exact ⟨rfl, _, hr2, hK2, unhide HFF, unhide HSS⟩
                        · have HFF := hide ((hF.then (hF1.wide (Nat.le_refl _) (by omega))).then (hF2.wide (by omega) (Nat.le_refl _)))
                          have HSS := hide (Srt.join (hS1.keep (fun u a1 a2 => hF2.same u (by omega))) hS2 ((tA.left hF1).right hF2))
                          go_wp2_with fail
                          all_goals (first | go_end0 | go_returns)
                          all_goals exact ⟨rfl, _, hr2, hK2, unhide HFF, unhide HSS⟩
                · by_cases B : a < st ∧ st < mid
                  · have B1 := nat_lt B.1
                    have B2 := nat_lt B.2
                    go_wp2_with fail
                    all_goals (
                      refine (unhide HI1 _ _ hrR hR2 hKR B.1 B.2 t1 t2).mono ?_
                      rintro e' w8 ⟨rfl, y1, hr1, hK1, hF1, hS1⟩
                      by_cases C : mid < e ∧ e < b
                      · have C1 := nat_lt C.1
                        have C2 := nat_lt C.2
                        have C1' : (mid : Int) < (mid : Int) + (m : Int) - (st : Int) := by omega
                        have C2' : (mid : Int) + (m : Int) - (st : Int) < (b : Int) := by omega
                        go_wp2_with fail
                        all_goals (
                          (try rw [unhide HEI])
                          refine (unhide HI2 _ y1 hr1 (hR2.fine hF1 (by omega)) hK1 C.1 C.2 (t3.keep (fun u a1 a2 => hF1.same u (by omega))) (t4.keep (fun u a1 a2 => hF1.same u (by omega)))).mono ?_
                          rintro e' w9 ⟨rfl, y2, hr2, hK2, hF2, hS2⟩
                          have HFF := hide ((hF.then (hF1.wide (Nat.le_refl _) (by omega))).then (hF2.wide (by omega) (Nat.le_refl _)))
                          have HSS := hide (Srt.join (hS1.keep (fun u a1 a2 => hF2.same u (by omega))) hS2 ((tA.left hF1).right hF2))
                          go_wp2_with fail
                          all_goals (first | go_end0 | go_returns)
                          all_goals exact ⟨rfl, _, hr2, hK2, unhide HFF, unhide HSS⟩)
                      · have CC : ¬ (mid : Int) < (mid : Int) + (m : Int) - (st : Int) ∨ (mid : Int) < (mid : Int) + (m : Int) - (st : Int) ∧ ¬ (mid : Int) + (m : Int) - (st : Int) < (b : Int) := by omega
                        obtain ⟨hr2, hK2⟩ : RowAt q n y1 _ ∧ K _ := ⟨hr1, hK1⟩
                        have hF2 := Fine.refl L mid b y1
                        have hS2 : Srt L mid b y1 := by
                          by_cases c : mid < e
                          · have : e = b := by omega
                            rw [← this]
                            exact t3.keep (fun u a1 a2 => hF1.same u (by omega))
                          · have : e = mid := by omega
                            rw [← this]
                            exact t4.keep (fun u a1 a2 => hF1.same u (by omega))
                        rcases CC with CC | ⟨CC, CD⟩
                        · have HFF := hide ((hF.then (hF1.wide (Nat.le_refl _) (by omega))).then (hF2.wide (by omega) (Nat.le_refl _)))
                          have HSS := hide (Srt.join (hS1.keep (fun u a1 a2 => hF2.same u (by omega))) hS2 ((tA.left hF1).right hF2))
                          go_wp2_with fail
                          all_goals (first | go_end0 | go_returns)
                          all_goals exact ⟨rfl, _, hr2, hK2, unhide HFF, unhide HSS⟩
                        · have HFF := hide ((hF.then (hF1.wide (Nat.le_refl _) (by omega))).then (hF2.wide (by omega) (Nat.le_refl _)))
                          have HSS := hide (Srt.join (hS1.keep (fun u a1 a2 => hF2.same u (by omega))) hS2 ((tA.left hF1).right hF2))
                          go_wp2_with fail
                          all_goals (first | go_end0 | go_returns)
                          all_goals exact ⟨rfl, _, hr2, hK2, unhide HFF, unhide HSS⟩)
                  · have BB : ¬ (a : Int) < (st : Int) ∨ (a : Int) < (st : Int) ∧ ¬ (st : Int) < (mid : Int) := by omega
                    obtain ⟨y1, hy1⟩ : ∃ y1, y1 = rot r st m e := ⟨_, rfl⟩
                    have hr1 := hrR
                    have hK1 := hKR
                    rw [← hy1] at hr1 hF hR2 t1 t2 t3 t4 tA
                    have hF1 := Fine.refl L a mid y1
                    have hS1 : Srt L a mid y1 := by
                      by_cases c : a < st
                      · have : st = mid := by omega
                        rw [← this]
                        exact t1
                      · have : st = a := by omega
                        rw [← this]
                        exact t2
                    rcases BB with BB | ⟨BB, BD⟩
                    · by_cases C : mid < e ∧ e < b
                      · have C1 := nat_lt C.1
                        have C2 := nat_lt C.2
                        have C1' : (mid : Int) < (mid : Int) + (m : Int) - (st : Int) := by omega
                        have C2' : (mid : Int) + (m : Int) - (st : Int) < (b : Int) := by omega
                        go_wp2_with fail
                        all_goals (
                          (try rw [unhide HEI])
                          refine (unhide HI2 _ y1 hr1 (hR2.fine hF1 (by omega)) hK1 C.1 C.2 (t3.keep (fun u a1 a2 => hF1.same u (by omega))) (t4.keep (fun u a1 a2 => hF1.same u (by omega)))).mono ?_
                          rintro e' w9 ⟨rfl, y2, hr2, hK2, hF2, hS2⟩
                          have HFF := hide ((hF.then (hF1.wide (Nat.le_refl _) (by omega))).then (hF2.wide (by omega) (Nat.le_refl _)))
                          have HSS := hide (Srt.join (hS1.keep (fun u a1 a2 => hF2.same u (by omega))) hS2 ((tA.left hF1).right hF2))
                          go_wp2_with fail
                          all_goals (first | go_end0 | go_returns)
                          all_goals exact ⟨rfl, _, hr2, hK2, unhide HFF, unhide HSS⟩)
                      · have CC : ¬ (mid : Int) < (mid : Int) + (m : Int) - (st : Int) ∨ (mid : Int) < (mid : Int) + (m : Int) - (st : Int) ∧ ¬ (mid : Int) + (m : Int) - (st : Int) < (b : Int) := by omega
                        obtain ⟨hr2, hK2⟩ : RowAt q n y1 _ ∧ K _ := ⟨hr1, hK1⟩
                        have hF2 := Fine.refl L mid b y1
                        have hS2 : Srt L mid b y1 := by
                          by_cases c : mid < e
                          · have : e = b := by omega
                            rw [← this]
                            exact t3.keep (fun u a1 a2 => hF1.same u (by omega))
                          · have : e = mid := by omega
                            rw [← this]
                            exact t4.keep (fun u a1 a2 => hF1.same u (by omega))
                        rcases CC with CC | ⟨CC, CD⟩
                        · have HFF := hide ((hF.then (hF1.wide (Nat.le_refl _) (by omega))).then (hF2.wide (by omega) (Nat.le_refl _)))
                          have HSS := hide (Srt.join (hS1.keep (fun u a1 a2 => hF2.same u (by omega))) hS2 ((tA.left hF1).right hF2))
                          go_wp2_with fail
                          all_goals (first | go_end0 | go_returns)
                          all_goals exact ⟨rfl, _, hr2, hK2, unhide HFF, unhide HSS⟩
                        · have HFF := hide ((hF.then (hF1.wide (Nat.le_refl _) (by omega))).then (hF2.wide (by omega) (Nat.le_refl _)))
                          have HSS := hide (Srt.join (hS1.keep (fun u a1 a2 => hF2.same u (by omega))) hS2 ((tA.left hF1).right hF2))
                          go_wp2_with fail
                          all_goals (first | go_end0 | go_returns)
                          all_goals exact ⟨rfl, _, hr2, hK2, unhide HFF, unhide HSS⟩
                    · by_cases C : mid < e ∧ e < b
                      · have C1 := nat_lt C.1
                        have C2 := nat_lt C.2
                        have C1' : (mid : Int) < (mid : Int) + (m : Int) - (st : Int) := by omega
                        have C2' : (mid : Int) + (m : Int) - (st : Int) < (b : Int) := by omega
                        go_wp2_with fail
                        all_goals (
                          (try rw [unhide HEI])
                          refine (unhide HI2 _ y1 hr1 (hR2.fine hF1 (by omega)) hK1 C.1 C.2 (t3.keep (fun u a1 a2 => hF1.same u (by omega))) (t4.keep (fun u a1 a2 => hF1.same u (by omega)))).mono ?_
                          rintro e' w9 ⟨rfl, y2, hr2, hK2, hF2, hS2⟩
                          have HFF := hide ((hF.then (hF1.wide (Nat.le_refl _) (by omega))).then (hF2.wide (by omega) (Nat.le_refl _)))
                          have HSS := hide (Srt.join (hS1.keep (fun u a1 a2 => hF2.same u (by omega))) hS2 ((tA.left hF1).right hF2))
                          go_wp2_with fail
                          all_goals (first | go_end0 | go_returns)
                          all_goals exact ⟨rfl, _, hr2, hK2, unhide HFF, unhide HSS⟩)
                      · have CC : ¬ (mid : Int) < (mid : Int) + (m : Int) - (st : Int) ∨ (mid : Int) < (mid : Int) + (m : Int) - (st : Int) ∧ ¬ (mid : Int) + (m : Int) - (st : Int) < (b : Int) := by omega
                        obtain ⟨hr2, hK2⟩ : RowAt q n y1 _ ∧ K _ := ⟨hr1, hK1⟩
                        have hF2 := Fine.refl L mid b y1
                        have hS2 : Srt L mid b y1 := by
                          by_cases c : mid < e
                          · have : e = b := by omega
                            rw [← this]
                            exact t3.keep (fun u a1 a2 => hF1.same u (by omega))
                          · have : e = mid := by omega
                            rw [← this]
                            exact t4.keep (fun u a1 a2 => hF1.same u (by omega))
                        rcases CC with CC | ⟨CC, CD⟩
                        · have HFF := hide ((hF.then (hF1.wide (Nat.le_refl _) (by omega))).then (hF2.wide (by omega) (Nat.le_refl _)))
                          have HSS := hide (Srt.join (hS1.keep (fun u a1 a2 => hF2.same u (by omega))) hS2 ((tA.left hF1).right hF2))
                          go_wp2_with fail
                          all_goals (first | go_end0 | go_returns)
                          all_goals exact ⟨rfl, _, hr2, hK2, unhide HFF, unhide HSS⟩
                        · have HFF := hide ((hF.then (hF1.wide (Nat.le_refl _) (by omega))).then (hF2.wide (by omega) (Nat.le_refl _)))
                          have HSS := hide (Srt.join (hS1.keep (fun u a1 a2 => hF2.same u (by omega))) hS2 ((tA.left hF1).right hF2))
                          go_wp2_with fail
                          all_goals (first | go_end0 | go_returns)
                          all_goals exact ⟨rfl, _, hr2, hK2, unhide HFF, unhide HSS⟩
end Go.Proofs.YtoeahagloobmoaaGreatDoor
