/- The library's stable sort: two parts in order are merged. -/
import Derived.Test.YtoeahagloobmoaaGreatDoorStabGo3
namespace Go.Proofs.YtoeahagloobmoaaGreatDoor
open Go.RowKit
theorem mid_wrap (i j : Nat) (h : i + j ≤ 2000000) : ∃ S : Int, ((i + j : Nat) : Int) = S ∧ wrap64 ((i : Int) + (j : Int)) = S ∧ IntKind.u64.wrap S = S := by
  refine ⟨_, rfl, ?_, ?_⟩
  · rw [wrap_same _ (by omega) (by omega)]
    omega
  · rw [IntKind.wrap_u64]
    omega
set_option maxRecDepth 100000 in
set_option maxHeartbeats 4000000 in
theorem symOne_any (q n a b N g : Nat) (L lt : Nat → Nat → Prop) (hL : Tot L) (hsub : ∀ x y, lt x y → L x y) (cf : Nat → Nat → Int) (hcf : ∀ x y, cf x y < 0 ↔ lt x y) (r : Rw) (w : World) (hr : RowAt q n r w) (hR : Rws L lt N n r) (h1 : a + 1 < b) (h2 : b ≤ n) (hn : n ≤ 1000000) (hs : Srt L (a + 1) b r) (K : World → Prop) (hK : K w) (hKK : Kind K q n) (hC : CmpK K cf N g) :
    Calls Tryz.prog 31 #[.slice (some ⟨q, 0, none⟩) n n, .int .i64 (a : Int), .int .i64 ((a + 1 : Nat) : Int), .int .i64 (b : Int), cloV g] w fun e w' => e = .returned (.tuple #[]) ∧ ∃ r', RowAt q n r' w' ∧ K w' ∧ Fine L a b r r' ∧ Srt L a b r' := by
  unfold cloV
  obtain ⟨m, hm⟩ : ∃ m, m = a + 1 := ⟨_, rfl⟩
  have ha : a ≤ 1000000 := by omega
  have hmm : m ≤ 1000000 := by omega
  rw [← hm]
  have e1 := (sub_wrap m a 1 (by omega) hmm).2
  rw [show ((1 : Nat) : Int) = 1 from rfl] at e1
  go_enter Tryz.func31, Tryz.ntmps31
  go_wp2_with fail
  have hxa : a < n := by omega
  clear e1
  have HKK := hide hKK
  have HC := hide hC
  have HS := hide hsub
  have HCF := hide hcf
  have HRR := hide hR
  have HLL := hide hL
  clear hKK hC hsub hcf
  go_loopw [10, 11] (fun v u wr => ∃ i j : Nat, v = .int .i64 (i : Int) ∧ u = .int .i64 (j : Int) ∧ m ≤ i ∧ i ≤ j ∧ j ≤ b ∧ RowAt q n r wr ∧ K wr ∧ Hid (∀ h, m ≤ h → h < i → L (r h) (r a)) ∧ Hid (∀ h, j ≤ h → h < b → L (r a) (r h))) (fun v u _ => vNat u - vNat v)
  case atStart => exact ⟨m, b, rfl, rfl, Nat.le_refl _, by omega, Nat.le_refl _, hr, hK, hide (fun h a1 a2 => by omega), hide (fun h a1 a2 => by omega)⟩
  case round =>
    clear hr hK
    obtain ⟨i, j, rfl, rfl, k1, k2, k3, hr, hK, hlo, hhi⟩ := hrel
    by_cases hij : i < j
    · have hij' := nat_lt hij
      obtain ⟨h, hh⟩ : ∃ h, h = (i + j) / 2 := ⟨_, rfl⟩
      have b1 : h < n := by omega
      have b2 : i ≤ h ∧ h < j := by omega
      have b3 : a < h := by omega
      have hh' : ((i : Int) + (j : Int)) / 2 = (h : Int) := by omega
      have hlater := hR.later (unhide HS) b3
      have v1 := hR.low h b1
      have v2 := hR.low a hxa
      have HCC := hide (fun w hK => unhide HC w (r h) (r a) hK v1 v2)
      have HCL := hide (show ClsR K q n r wr.drew from ⟨(unhide HKK).drew wr hK, hr.drew⟩)
      have HCB := hide (fun (u u' : World) (h : ClsR K q n r u) (hb : Below u.heap.size u u') => (⟨(unhide HKK).below u u' h.kind hb, h.row.below hb⟩ : ClsR K q n r u'))
      have HCE := hide (fun (u : World) (hc : ClsR K q n r u) => (⟨(hc.row h b1).1, (hc.row a hxa).1⟩ : u.cell? ⟨q, h, none⟩ = some (.int .i64 ((r h : Nat) : Int)) ∧ u.cell? ⟨q, a, none⟩ = some (.int .i64 ((r a : Nat) : Int))))
      have B1 := nat_lt b1
      have B2 := nat_lt hxa
      have HB := hide (And.intro b2 b3)
      have HA := hide hlater
      clear hlater
      generalize hVH : ((r h : Nat) : Int) = VH at *
      generalize hVA : ((r a : Nat) : Int) = VA at *
      have Hm := hide hm
      have HH := hide hh'
      clear hVH hVA v1 v2 hr hK hm hh' hh
      go_wp2_with fail
      rw [unhide HH]
      refine wp_region_cls (ClsR K q n r) (by kernel_rfl) (by kernel_rfl) (unhide HCL) ?_
      repeat
        (first
          | go_big_quiet_skip
          | (go_big_quiet_want
             go_big_quiet_op
             first
               | go_big_quiet_on
               | (apply Exists.intro
                  refine ⟨fun w' hC => ?_, ?_⟩
                  · (first
                      | (go_at_call 12; refine (unhide HCC _ hC.kind).mono ?_; rintro e w3 ⟨rfl, hb3⟩; exact ⟨rfl, unhide HCB _ _ hC hb3⟩)
                      | (have c0 := (unhide HCE _ hC).1; have c1 := (unhide HCE _ hC).2; go_simp; first | done | rfl))
                  go_big_quiet_on)))
      refine wpQuiet_nil ?_
      intro w4 hC4
      obtain ⟨hK4, hr4⟩ := hC4
      clear HCL HCB HCE HCC
      by_cases hc : cf (r h) (r a) < 0
      · have hl : L (r h) (r a) := (unhide HA).1 ((unhide HCF _ _).1 hc)
        have HN := hide (show Hid (∀ h', m ≤ h' → h' < h + 1 → L (r h') (r a)) from hide (fun h' a1 a2 => by
          by_cases e : h' = h
          · rw [e]
            exact hl
          · exact hL.trans _ _ _ (hs h' h (by have := unhide Hm; omega) (by omega) (by omega)) hl))
        have HE := hide (show (h : Int) + 1 = ((h + 1 : Nat) : Int) by omega)
        have HM := hide (show ((j : Nat) : Int).toNat - ((h + 1 : Nat) : Int).toNat < ((j : Nat) : Int).toNat - ((i : Nat) : Int).toNat by rw [Int.toNat_natCast, Int.toNat_natCast, Int.toNat_natCast]; omega)
        have z1 : m ≤ h + 1 ∧ h + 1 ≤ j := by omega
        generalize hcc : cf (r h) (r a) = cc at *
        go_wp2_with fail
        refine ⟨⟨h + 1, j, ?_, rfl, z1.1, z1.2, k3, hr4, hK4, unhide HN, hhi⟩, ?_⟩
        · first | (rw [unhide HE]) | rfl
        · first | (rw [unhide HE]; exact unhide HM) | exact unhide HM
      · have hl : L (r a) (r h) := by
          rcases hL.tri (r a) (r h) (fun e => by have := hR.inj _ _ e; omega) with c | c
          · exact c
          · exact absurd ((unhide HCF _ _).2 ((unhide HA).2 c)) hc
        have HN := hide (show Hid (∀ h', h ≤ h' → h' < b → L (r a) (r h')) from hide (fun h' a1 a2 => by
          by_cases e : h' = h
          · rw [e]
            exact hl
          · exact hL.trans _ _ _ hl (hs h h' (by have := unhide Hm; omega) (by omega) a2)))
        have HM := hide (show ((h : Nat) : Int).toNat - ((i : Nat) : Int).toNat < ((j : Nat) : Int).toNat - ((i : Nat) : Int).toNat by rw [Int.toNat_natCast, Int.toNat_natCast, Int.toNat_natCast]; omega)
        have z1 : i ≤ h ∧ h ≤ b := by omega
        generalize hcc : cf (r h) (r a) = cc at *
        go_wp2_with fail
        exact ⟨⟨i, h, rfl, rfl, k1, z1.1, z1.2, hr4, hK4, hlo, unhide HN⟩, unhide HM⟩
    · have hij' := nat_nlt hij
      have hEq : i = j := by omega
      subst hEq
      obtain ⟨hfine, hsrt⟩ := sym_one hL r a b i (by omega) k3 hs (by rw [← hm]; exact unhide hlo) (unhide hhi)
      have HFI := hide hfine
      have HSI := hide hsrt
      obtain ⟨i1, hi1⟩ : ∃ i1, i1 + 1 = i := ⟨i - 1, by omega⟩
      have Hi1 := hide hi1
      have g1 : a ≤ i1 := by omega
      have g2 : i1 < n := by omega
      have g3 : i ≤ 1000000 := by omega
      have HS0 := hide (show RowAt q n (rot r a (a + 1) (a + 1)) wr by rw [rot_right]; exact hr)
      have Hm := hide hm
      clear hfine hsrt hlo hhi hr hi1 hm hij hij'
      go_wp2_with fail
      go_loopw [13] (fun v wr => ∃ (k : Nat), v = .int .i64 (k : Int) ∧ a ≤ k ∧ k ≤ i1 ∧ RowAt q n (rot r a (a + 1) (k + 1)) wr ∧ K wr) (fun v _ => i1 - vNat v)
      case atStart => exact ⟨a, rfl, Nat.le_refl _, g1, unhide HS0, hK⟩
      case round =>
        clear hK HS0
        obtain ⟨k, rfl, k4, k5, hr, hK⟩ := hrel
        by_cases hk : k < i1
        · have b1 : k < n := by omega
          have b2 : k + 1 < n := by omega
          have b3 : k + 1 ≤ 1000000 := by omega
          have nK : k + 1 ≠ k := by omega
          have nK' : k ≠ k + 1 := by omega
          obtain ⟨c1, c2⟩ := hr k b1
          obtain ⟨d1, d2⟩ := hr (k + 1) b2
          have hk' := nat_lt hk
          have HN := hide (show RowAt q n (rot r a (a + 1) (k + 1 + 1)) _ by rw [← rot_in r a k k4]; exact (hr.put k (k + 1) b1 b2 nK').drew)
          have HKN := hide ((unhide HKK).drew _ ((unhide HKK).set _ (k + 1) (.int .i64 ((rot r a (a + 1) (k + 1) k : Nat) : Int)) ((unhide HKK).set wr k (.int .i64 ((rot r a (a + 1) (k + 1) (k + 1) : Nat) : Int)) hK b1) b2))
          have HM := hide (show i1 - (((k + 1 : Nat) : Int)).toNat < i1 - ((k : Nat) : Int).toNat by rw [Int.toNat_natCast, Int.toNat_natCast]; exact Nat.sub_lt_sub_left hk (Nat.lt_succ_self k))
          have B1 := nat_lt b1
          have B2 := nat_lt b2
          have hi1' := unhide Hi1
          obtain ⟨kk, hkk⟩ : ∃ kk, kk = k + 1 := ⟨_, rfl⟩
          have Hkk := hide hkk
          have hle : kk ≤ i1 := by omega
          rw [← hkk] at c1 d1 d2 B2 b2 nK nK' HM
          obtain ⟨e1, e1'⟩ := add_wrap k 1 kk hkk (by rw [hkk]; exact b3)
          obtain ⟨e2, e2'⟩ := sub_wrap i 1 i1 hi1' g3
          rw [show ((1 : Nat) : Int) = 1 from rfl] at e1 e1' e2 e2'
          have HE := hide e1'
          rw [← hkk] at HN HKN
          generalize rot r a (a + 1) kk k = UK at *
          generalize rot r a (a + 1) kk kk = UL at *
          generalize (UK : Int) = VK at *
          generalize (UL : Int) = VL at *
          clear hkk hi1' b3 hr hK
          go_wp2_with fail
          go_region
          go_wp2_with fail
          refine ⟨⟨kk, ?_, Nat.le_of_lt (Nat.lt_of_le_of_lt k4 (by rw [unhide Hkk]; exact Nat.lt_succ_self k)), hle, unhide HN, unhide HKN⟩, ?_⟩
          · first | rfl | (rw [unhide HE])
          · first | exact unhide HM | (rw [unhide HE]; exact unhide HM)
        · have hk' := nat_nlt hk
          have hkk : k = i1 := by omega
          have HN := hide (show RowAt q n (rot r a (a + 1) i) wr by rw [← unhide Hi1, ← hkk]; exact hr)
          obtain ⟨e2, e2'⟩ := sub_wrap i 1 i1 (unhide Hi1) g3
          rw [show ((1 : Nat) : Int) = 1 from rfl] at e2 e2'
          clear hr hkk
          go_wp2_with fail
          go_returns
          exact ⟨rfl, _, unhide HN, hK, unhide HFI, unhide HSI⟩
end Go.Proofs.YtoeahagloobmoaaGreatDoor
