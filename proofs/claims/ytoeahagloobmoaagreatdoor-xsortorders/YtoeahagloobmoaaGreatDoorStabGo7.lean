/- The library's stable sort of at most 41 numbers. -/
import Derived.Test.YtoeahagloobmoaaGreatDoorStabGo6
namespace Go.Proofs.YtoeahagloobmoaaGreatDoor
open Go.RowKit
set_option maxRecDepth 100000 in
set_option maxHeartbeats 4000000 in
theorem stable_under (q n N g : Nat) (L lt : Nat → Nat → Prop) (hL : Tot L) (hsub : ∀ x y, lt x y → L x y) (cf : Nat → Nat → Int) (hcf : ∀ x y, cf x y < 0 ↔ lt x y) (K : World → Prop) (hKK : Kind K q n) (hC : CmpK K cf N g) (r : Rw) (w : World) (hr : RowAt q n r w) (hR : Rws L lt N n r) (hK : K w) (hn : n < 20) :
    Calls Tryz.prog 16 #[.slice (some ⟨q, 0, none⟩) n n, .int .i64 (n : Int), cloV g] w fun e w' => e = .returned (.tuple #[]) ∧ ∃ r', RowAt q n r' w' ∧ K w' ∧ Fine L 0 n r r' ∧ Srt L 0 n r' := by
  have q1 : ¬ (20 : Int) ≤ (n : Int) := by omega
  have q2 : ¬ (20 : Int) < (n : Int) := by omega
  have HI := hide (fun (lo hi : Nat) (r : Rw) (w : World) (h1 : lo ≤ hi) (h2 : hi ≤ n) (hr : RowAt q n r w) (hR : Rws L lt N n r) (hK : K w) => insertion_any q n lo hi N g L lt hL hsub cf hcf r w hr hR h1 h2 (by omega) K hK hKK hC)
  have HS := hide (fun (a m b : Nat) (r : Rw) (w : World) (h1 : a < m) (h2 : m < b) (h3 : b ≤ n) (s1 : Srt L a m r) (s2 : Srt L m b r) (hr : RowAt q n r w) (hR : Rws L lt N n r) (hK : K w) => sym_any q n N g L lt hL hsub cf hcf (by omega) K hKK hC (b - a) a m b r w (Nat.le_refl _) h1 h2 h3 s1 s2 hr hR hK)
  unfold cloV at HI HS ⊢
  clear hKK hC hsub hcf
  obtain ⟨r0, hr00⟩ : ∃ r0, r0 = r := ⟨_, rfl⟩
  rw [← hr00] at hr hR ⊢
  have hr0 := hr
  have hR0 := hR
  have hK0 := hK
  clear hr hR hK
  go_enter Tryz.func16, Tryz.ntmps16
  go_wp2_with fail
  refine wp_loop_rounds 1 ?_
  rw [rounds_succ]
  go_wp2_with fail
  refine (unhide HI 0 n r0 _ (by omega) (by omega) hr0 hR0 hK0).mono ?_
  rintro e w1 ⟨rfl, r1, hr1, hK1, hF1, hS1⟩
  have hR1 := hR0.fine hF1 (by omega)
  go_wp2_with fail
  refine wp_loop_rounds 1 ?_
  rw [rounds_succ]
  go_wp2_with fail
  go_end0
  exact ⟨rfl, r1, hr1, hK1, hF1, hS1⟩
set_option maxRecDepth 100000 in
set_option maxHeartbeats 4000000 in
theorem stable_twenty (q n N g : Nat) (L lt : Nat → Nat → Prop) (hL : Tot L) (hsub : ∀ x y, lt x y → L x y) (cf : Nat → Nat → Int) (hcf : ∀ x y, cf x y < 0 ↔ lt x y) (K : World → Prop) (hKK : Kind K q n) (hC : CmpK K cf N g) (r : Rw) (w : World) (hr : RowAt q n r w) (hR : Rws L lt N n r) (hK : K w) (hn : 20 ≤ n ∧ n ≤ 20) :
    Calls Tryz.prog 16 #[.slice (some ⟨q, 0, none⟩) n n, .int .i64 (n : Int), cloV g] w fun e w' => e = .returned (.tuple #[]) ∧ ∃ r', RowAt q n r' w' ∧ K w' ∧ Fine L 0 n r r' ∧ Srt L 0 n r' := by
  have q1 : (20 : Int) ≤ (n : Int) := by omega
  have q2 : ¬ (40 : Int) ≤ (n : Int) := by omega
  have q3 : ¬ (20 : Int) < (n : Int) := by omega
  have HI := hide (fun (lo hi : Nat) (r : Rw) (w : World) (h1 : lo ≤ hi) (h2 : hi ≤ n) (hr : RowAt q n r w) (hR : Rws L lt N n r) (hK : K w) => insertion_any q n lo hi N g L lt hL hsub cf hcf r w hr hR h1 h2 (by omega) K hK hKK hC)
  have HS := hide (fun (a m b : Nat) (r : Rw) (w : World) (h1 : a < m) (h2 : m < b) (h3 : b ≤ n) (s1 : Srt L a m r) (s2 : Srt L m b r) (hr : RowAt q n r w) (hR : Rws L lt N n r) (hK : K w) => sym_any q n N g L lt hL hsub cf hcf (by omega) K hKK hC (b - a) a m b r w (Nat.le_refl _) h1 h2 h3 s1 s2 hr hR hK)
  unfold cloV at HI HS ⊢
  clear hKK hC hsub hcf
  obtain ⟨r0, hr00⟩ : ∃ r0, r0 = r := ⟨_, rfl⟩
  rw [← hr00] at hr hR ⊢
  have hr0 := hr
  have hR0 := hR
  have hK0 := hK
  clear hr hR hK
  go_enter Tryz.func16, Tryz.ntmps16
  go_wp2_with fail
  refine wp_loop_rounds 2 ?_
  rw [rounds_succ]
  go_wp2_with fail
  refine (unhide HI 0 20 r0 _ (by omega) (by omega) hr0 hR0 hK0).mono ?_
  rintro e w1 ⟨rfl, r1, hr1, hK1, hF1, hS1⟩
  have hR1 := hR0.fine hF1 (by omega)
  go_wp2_with fail
  rw [rounds_succ]
  go_wp2_with fail
  refine (unhide HI 20 n r1 _ (by omega) (by omega) hr1 hR1 hK1).mono ?_
  rintro e w2 ⟨rfl, r2, hr2, hK2, hF2, hS2⟩
  have hR2 := hR1.fine hF2 (by omega)
  go_wp2_with fail
  refine wp_loop_rounds 1 ?_
  rw [rounds_succ]
  go_wp2_with fail
  go_end0
  exact ⟨rfl, r2, hr2, hK2, (hF1.wide (Nat.le_refl _) (by omega)).then (hF2.wide (by omega) (Nat.le_refl _)), (hS1.keep (fun u a1 a2 => hF2.same u (by omega))).part (Nat.le_refl _) (by omega)⟩
set_option maxRecDepth 100000 in
set_option maxHeartbeats 4000000 in
theorem stable_forty (q n N g : Nat) (L lt : Nat → Nat → Prop) (hL : Tot L) (hsub : ∀ x y, lt x y → L x y) (cf : Nat → Nat → Int) (hcf : ∀ x y, cf x y < 0 ↔ lt x y) (K : World → Prop) (hKK : Kind K q n) (hC : CmpK K cf N g) (r : Rw) (w : World) (hr : RowAt q n r w) (hR : Rws L lt N n r) (hK : K w) (hn : 20 < n ∧ n < 40) :
    Calls Tryz.prog 16 #[.slice (some ⟨q, 0, none⟩) n n, .int .i64 (n : Int), cloV g] w fun e w' => e = .returned (.tuple #[]) ∧ ∃ r', RowAt q n r' w' ∧ K w' ∧ Fine L 0 n r r' ∧ Srt L 0 n r' := by
  have q1 : (20 : Int) ≤ (n : Int) := by omega
  have q2 : ¬ (40 : Int) ≤ (n : Int) := by omega
  have q3 : (20 : Int) < (n : Int) := by omega
  have q4 : ¬ (40 : Int) < (n : Int) := by omega
  have HI := hide (fun (lo hi : Nat) (r : Rw) (w : World) (h1 : lo ≤ hi) (h2 : hi ≤ n) (hr : RowAt q n r w) (hR : Rws L lt N n r) (hK : K w) => insertion_any q n lo hi N g L lt hL hsub cf hcf r w hr hR h1 h2 (by omega) K hK hKK hC)
  have HS := hide (fun (a m b : Nat) (r : Rw) (w : World) (h1 : a < m) (h2 : m < b) (h3 : b ≤ n) (s1 : Srt L a m r) (s2 : Srt L m b r) (hr : RowAt q n r w) (hR : Rws L lt N n r) (hK : K w) => sym_any q n N g L lt hL hsub cf hcf (by omega) K hKK hC (b - a) a m b r w (Nat.le_refl _) h1 h2 h3 s1 s2 hr hR hK)
  unfold cloV at HI HS ⊢
  clear hKK hC hsub hcf
  obtain ⟨r0, hr00⟩ : ∃ r0, r0 = r := ⟨_, rfl⟩
  rw [← hr00] at hr hR ⊢
  have hr0 := hr
  have hR0 := hR
  have hK0 := hK
  clear hr hR hK
  go_enter Tryz.func16, Tryz.ntmps16
  go_wp2_with fail
  refine wp_loop_rounds 2 ?_
  rw [rounds_succ]
  go_wp2_with fail
  refine (unhide HI 0 20 r0 _ (by omega) (by omega) hr0 hR0 hK0).mono ?_
  rintro e w1 ⟨rfl, r1, hr1, hK1, hF1, hS1⟩
  have hR1 := hR0.fine hF1 (by omega)
  go_wp2_with fail
  rw [rounds_succ]
  go_wp2_with fail
  refine (unhide HI 20 n r1 _ (by omega) (by omega) hr1 hR1 hK1).mono ?_
  rintro e w2 ⟨rfl, r2, hr2, hK2, hF2, hS2⟩
  have hR2 := hR1.fine hF2 (by omega)
  go_wp2_with fail
  refine wp_loop_rounds 2 ?_
  rw [rounds_succ]
  go_wp2_with fail
  refine wp_loop_rounds 1 ?_
  rw [rounds_succ]
  go_wp2_with fail
  refine (unhide HS 0 20 n r2 _ (by omega) (by omega) (by omega) (hS1.keep (fun u a1 a2 => hF2.same u (by omega))) (hS2) hr2 hR2 hK2).mono ?_
  rintro e w3 ⟨rfl, r3, hr3, hK3, hF3, hS3⟩
  go_wp2_with fail
  rw [rounds_succ]
  go_wp2_with fail
  go_end0
  exact ⟨rfl, r3, hr3, hK3, ((hF1.wide (Nat.le_refl _) (by omega)).then (hF2.wide (by omega) (Nat.le_refl _))).then hF3, hS3⟩
/-- The stable sort of fewer than 40 numbers. -/
theorem stable_any (q n N g : Nat) (L lt : Nat → Nat → Prop) (hL : Tot L) (hsub : ∀ x y, lt x y → L x y) (cf : Nat → Nat → Int) (hcf : ∀ x y, cf x y < 0 ↔ lt x y) (K : World → Prop) (hKK : Kind K q n) (hC : CmpK K cf N g) (r : Rw) (w : World) (hr : RowAt q n r w) (hR : Rws L lt N n r) (hK : K w) (hn : n < 40) :
    Calls Tryz.prog 16 #[.slice (some ⟨q, 0, none⟩) n n, .int .i64 (n : Int), cloV g] w fun e w' => e = .returned (.tuple #[]) ∧ ∃ r', RowAt q n r' w' ∧ K w' ∧ Fine L 0 n r r' ∧ Srt L 0 n r' := by
  by_cases c1 : n < 20
  · exact stable_under q n N g L lt hL hsub cf hcf K hKK hC r w hr hR hK c1
  · by_cases c2 : n ≤ 20
    · exact stable_twenty q n N g L lt hL hsub cf hcf K hKK hC r w hr hR hK ⟨by omega, c2⟩
    · exact stable_forty q n N g L lt hL hsub cf hcf K hKK hC r w hr hR hK ⟨by omega, hn⟩
set_option maxRecDepth 100000 in
set_option maxHeartbeats 1000000 in
theorem sortStable_any (q n N g : Nat) (L lt : Nat → Nat → Prop) (hL : Tot L) (hsub : ∀ x y, lt x y → L x y) (cf : Nat → Nat → Int) (hcf : ∀ x y, cf x y < 0 ↔ lt x y) (K : World → Prop) (hKK : Kind K q n) (hC : CmpK K cf N g) (r : Rw) (w : World) (hr : RowAt q n r w) (hR : Rws L lt N n r) (hK : K w) (hn : n < 40) :
    Calls Tryz.prog 11 #[.slice (some ⟨q, 0, none⟩) n n, cloV g] w fun e w' => e = .returned (.tuple #[]) ∧ ∃ r', RowAt q n r' w' ∧ K w' ∧ Fine L 0 n r r' ∧ Srt L 0 n r' := by
  have HS := hide (stable_any q n N g L lt hL hsub cf hcf K hKK hC r w hr hR hK hn)
  unfold cloV at HS ⊢
  clear hKK hC hr hR hK hL hsub hcf hn
  go_enter Tryz.func11, Tryz.ntmps11
  go_wp2_with fail
  refine (unhide HS).mono ?_
  rintro e w1 ⟨rfl, h⟩
  go_wp2_with fail
  go_end0
  exact ⟨rfl, h⟩
end Go.Proofs.YtoeahagloobmoaaGreatDoor
