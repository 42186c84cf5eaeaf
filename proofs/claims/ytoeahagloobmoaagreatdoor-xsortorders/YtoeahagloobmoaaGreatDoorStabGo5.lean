/- The library's stable sort: one value is merged with those ahead of it. -/
import Derived.Test.YtoeahagloobmoaaGreatDoorStabGo4
namespace Go.Proofs.YtoeahagloobmoaaGreatDoor
open Go.RowKit
set_option maxRecDepth 100000 in
set_option maxHeartbeats 4000000 in
theorem symLast_any (q n a m N g : Nat) (L lt : Nat → Nat → Prop) (hL : Tot L) (hsub : ∀ x y, lt x y → L x y) (cf : Nat → Nat → Int) (hcf : ∀ x y, cf x y < 0 ↔ lt x y) (r : Rw) (w : World) (hr : RowAt q n r w) (hR : Rws L lt N n r) (h1 : a + 1 < m) (h2 : m + 1 ≤ n) (hn : n ≤ 1000000) (hs : Srt L a m r) (K : World → Prop) (hK : K w) (hKK : Kind K q n) (hC : CmpK K cf N g) :
    Calls Tryz.prog 31 #[.slice (some ⟨q, 0, none⟩) n n, .int .i64 (a : Int), .int .i64 (m : Int), .int .i64 ((m + 1 : Nat) : Int), cloV g] w fun e w' => e = .returned (.tuple #[]) ∧ ∃ r', RowAt q n r' w' ∧ K w' ∧ Fine L a (m + 1) r r' ∧ Srt L a (m + 1) r' := by
  unfold cloV
  obtain ⟨b, hb⟩ : ∃ b, b = m + 1 := ⟨_, rfl⟩
  obtain ⟨d, hd⟩ : ∃ d, d + a = m := ⟨m - a, by omega⟩
  have hdn : ((d : Int) == 1) = false := by rw [beq_eq_false_iff_ne]; omega
  have hmm : m ≤ 1000000 := by omega
  have hbb : b ≤ 1000000 := by omega
  have hbm : 1 + m = b := by omega
  have hxm : m < n := by omega
  have HN0 := hide (show Hid (m + 1 = b) from hide hb.symm)
  rw [← hb]
  have e0 := (sub_wrap m a d hd hmm).2
  have e1 := (sub_wrap b m 1 hbm hbb).2
  rw [show ((1 : Nat) : Int) = 1 from rfl] at e1
  go_enter Tryz.func31, Tryz.ntmps31
  go_wp2_with fail
  clear e0 e1
  have HKK := hide hKK
  have HC := hide hC
  have HS := hide hsub
  have HCF := hide hcf
  clear hKK hC hsub hcf
  go_loopw [14, 15] (fun v u wr => ∃ i j : Nat, v = .int .i64 (i : Int) ∧ u = .int .i64 (j : Int) ∧ a ≤ i ∧ i ≤ j ∧ j ≤ m ∧ RowAt q n r wr ∧ K wr ∧ Hid (∀ h, a ≤ h → h < i → L (r h) (r m)) ∧ Hid (∀ h, j ≤ h → h < m → L (r m) (r h))) (fun v u _ => vNat u - vNat v)
  case atStart => exact ⟨a, m, rfl, rfl, Nat.le_refl _, by omega, Nat.le_refl _, hr, hK, hide (fun h a1 a2 => by omega), hide (fun h a1 a2 => by omega)⟩
  case round =>
    clear hr hK
    obtain ⟨i, j, rfl, rfl, k1, k2, k3, hr, hK, hlo, hhi⟩ := hrel
    by_cases hij : i < j
    · have hij' := nat_lt hij
      obtain ⟨h, hh⟩ : ∃ h, h = (i + j) / 2 := ⟨_, rfl⟩
      have b1 : h < n := by omega
      have b2 : i ≤ h ∧ h < j := by omega
      have b3 : h < m := by omega
      have hh' : ((i : Int) + (j : Int)) / 2 = (h : Int) := by omega
      have hlater := hR.later (unhide HS) b3
      have v1 := hR.low h b1
      have v2 := hR.low m hxm
      have HCC := hide (fun w hK => unhide HC w (r m) (r h) hK v2 v1)
      have HCL := hide (show ClsR K q n r wr.drew from ⟨(unhide HKK).drew wr hK, hr.drew⟩)
      have HCB := hide (fun (u u' : World) (h : ClsR K q n r u) (hb : Below u.heap.size u u') => (⟨(unhide HKK).below u u' h.kind hb, h.row.below hb⟩ : ClsR K q n r u'))
      have HCE := hide (fun (u : World) (hc : ClsR K q n r u) => (⟨(hc.row h b1).1, (hc.row m hxm).1⟩ : u.cell? ⟨q, h, none⟩ = some (.int .i64 ((r h : Nat) : Int)) ∧ u.cell? ⟨q, m, none⟩ = some (.int .i64 ((r m : Nat) : Int))))
      have B1 := nat_lt b1
      have B2 := nat_lt hxm
      have HA := hide hlater
      clear hlater
      generalize hVH : ((r h : Nat) : Int) = VH at *
      generalize hVA : ((r m : Nat) : Int) = VA at *
      have HH := hide hh'
      clear hVH hVA v1 v2 hr hK hh' hh
      go_wp2_with fail
      rw [unhide HH]
      refine wp_region_cls (ClsR K q n r) (by kernel_rfl) (by kernel_rfl) (unhide HCL) ?_
      repeat
        (first
          | go_big_quiet_skip
          | (go_big_quiet_want
             go_big_quiet_op
             first
               | go_big_quiet_on
               | (apply Exists.intro
                  refine ⟨fun w' hC => ?_, ?_⟩
                  · (first
                      | (go_at_call 12; refine (unhide HCC _ hC.kind).mono ?_; rintro e w3 ⟨rfl, hb3⟩; exact ⟨rfl, unhide HCB _ _ hC hb3⟩)
                      | (have c0 := (unhide HCE _ hC).1; have c1 := (unhide HCE _ hC).2; go_simp; first | done | rfl))
                  go_big_quiet_on)))
      refine wpQuiet_nil ?_
      intro w4 hC4
      obtain ⟨hK4, hr4⟩ := hC4
      clear HCL HCB HCE HCC
      by_cases hc : cf (r m) (r h) < 0
      · have hl : L (r m) (r h) := (unhide HA).1 ((unhide HCF _ _).1 hc)
        have HN := hide (show Hid (∀ h', h ≤ h' → h' < m → L (r m) (r h')) from hide (fun h' a1 a2 => by
          by_cases e : h' = h
          · rw [e]
            exact hl
          · exact hL.trans _ _ _ hl (hs h h' (by omega) (by omega) a2)))
        have HM := hide (show ((h : Nat) : Int).toNat - ((i : Nat) : Int).toNat < ((j : Nat) : Int).toNat - ((i : Nat) : Int).toNat by rw [Int.toNat_natCast, Int.toNat_natCast, Int.toNat_natCast]; omega)
        have z1 : i ≤ h ∧ h ≤ m := by omega
        generalize hcc : cf (r m) (r h) = cc at *
        have hc' : ¬ 0 ≤ cc := by omega
        have hc2 : (!decide (cc < 0)) = false := by simp [hc]
        go_wp2_with fail
        all_goals first
          | (rename_i hx; rw [hc2] at hx; cases hx; done)
          | exact ⟨⟨i, h, rfl, rfl, k1, z1.1, z1.2, hr4, hK4, hlo, unhide HN⟩, unhide HM⟩
      · have hl : L (r h) (r m) := by
          rcases hL.tri (r h) (r m) (fun e => by have := hR.inj _ _ e; omega) with c | c
          · exact c
          · exact absurd ((unhide HCF _ _).2 ((unhide HA).2 c)) hc
        have HN := hide (show Hid (∀ h', a ≤ h' → h' < h + 1 → L (r h') (r m)) from hide (fun h' a1 a2 => by
          by_cases e : h' = h
          · rw [e]
            exact hl
          · exact hL.trans _ _ _ (hs h' h a1 (by omega) (by omega)) hl))
        have HE := hide (show (h : Int) + 1 = ((h + 1 : Nat) : Int) by omega)
        have HM := hide (show ((j : Nat) : Int).toNat - ((h + 1 : Nat) : Int).toNat < ((j : Nat) : Int).toNat - ((i : Nat) : Int).toNat by rw [Int.toNat_natCast, Int.toNat_natCast, Int.toNat_natCast]; omega)
        have z1 : a ≤ h + 1 ∧ h + 1 ≤ j := by omega
        generalize hcc : cf (r m) (r h) = cc at *
        have hc' : 0 ≤ cc := by omega
        have hc2 : (!decide (cc < 0)) = true := by simp [hc]
        go_wp2_with fail
        all_goals first
          | (rename_i hx; rw [hc2] at hx; cases hx; done)
          | exact ⟨⟨h + 1, j, by first | (rw [unhide HE]) | rfl, rfl, z1.1, z1.2, k3, hr4, hK4, unhide HN, hhi⟩, by first | (rw [unhide HE]; exact unhide HM) | exact unhide HM⟩
    · have hij' := nat_nlt hij
      have hEq : i = j := by omega
      subst hEq
      obtain ⟨hfine, hsrt⟩ := sym_last hL r a m i k1 k3 hs (unhide hlo) (unhide hhi)
      have HFI := hide hfine
      have HSI := hide hsrt
      have HS0 := hide (show RowAt q n (rot r m m (m + 1)) wr by rw [rot_left]; exact hr)
      clear hfine hsrt hlo hhi hr hij hij'
      go_wp2_with fail
      go_loopw [17] (fun v wr => ∃ (k : Nat), v = .int .i64 (k : Int) ∧ i ≤ k ∧ k ≤ m ∧ RowAt q n (rot r k m (m + 1)) wr ∧ K wr) (fun v _ => vNat v)
      case atStart => exact ⟨m, rfl, k3, Nat.le_refl _, unhide HS0, hK⟩
      case round =>
        clear hK HS0
        obtain ⟨k, rfl, k4, k5, hr, hK⟩ := hrel
        by_cases hk : i < k
        · obtain ⟨kk, hkk⟩ : ∃ kk, kk + 1 = k := ⟨k - 1, by omega⟩
          have b1 : k < n := by omega
          have b2 : kk < n := by omega
          have b3 : k ≤ 1000000 := by omega
          have nK : kk ≠ k := by omega
          have nK' : k ≠ kk := by omega
          obtain ⟨c1, c2⟩ := hr k b1
          obtain ⟨d1, d2⟩ := hr kk b2
          have hk' := nat_lt hk
          have HN := hide (show RowAt q n (rot r kk m (m + 1)) _ by rw [← rot_out r kk m (by omega), hkk]; exact (hr.put k kk b1 b2 nK').drew)
          have HKN := hide ((unhide HKK).drew _ ((unhide HKK).set _ kk (.int .i64 ((rot r k m (m + 1) k : Nat) : Int)) ((unhide HKK).set wr k (.int .i64 ((rot r k m (m + 1) kk : Nat) : Int)) hK b1) b2))
          have HM := hide (show ((kk : Nat) : Int).toNat < ((k : Nat) : Int).toNat by rw [Int.toNat_natCast, Int.toNat_natCast]; omega)
          have HE2 := hide (show (k : Int) - 1 = (kk : Int) by omega)
          have B1 := nat_lt b1
          have B2 := nat_lt b2
          have hle : i ≤ kk ∧ kk ≤ m := by omega
          obtain ⟨e1, e1'⟩ := sub_wrap k 1 kk hkk b3
          rw [show ((1 : Nat) : Int) = 1 from rfl] at e1 e1'
          have HE := hide e1'
          generalize rot r k m (m + 1) k = UK at *
          generalize rot r k m (m + 1) kk = UL at *
          generalize (UK : Int) = VK at *
          generalize (UL : Int) = VL at *
          clear hkk b3 hr hK
          go_wp2_with fail
          go_region
          go_wp2_with fail
          refine ⟨⟨kk, ?_, hle.1, hle.2, unhide HN, unhide HKN⟩, ?_⟩
          · first | rfl | (rw [unhide HE]) | (rw [unhide HE2])
          · first | exact unhide HM | (rw [unhide HE]; exact unhide HM) | (rw [unhide HE2]; exact unhide HM)
        · have hk' := nat_nlt hk
          have hkk : k = i := by omega
          have HN := hide (show RowAt q n (rot r i m (m + 1)) wr by rw [← hkk]; exact hr)
          clear hr hkk
          go_wp2_with fail
          go_returns
          exact ⟨rfl, _, unhide HN, hK, unhide HFI, unhide HSI⟩
end Go.Proofs.YtoeahagloobmoaaGreatDoor
