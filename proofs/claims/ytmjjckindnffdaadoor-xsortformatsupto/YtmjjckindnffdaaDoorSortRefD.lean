/- The reference's Roman numbers and digits. -/
import Derived.Test.YtmjjckindnffdaaDoorSortRom
namespace Go.Proofs.YtmjjckindnffdaaDoor
open Go.RowKit
attribute [local go_sem ↓] Go.wp_at_zero Go.wp_at_succ
theorem sdec_small (n : Nat) (h : n < 10) : Lib.decDigits n = [UInt8.ofNat (48 + n)] := by
  rw [Lib.decDigits, dif_pos h]
theorem sdec_great (n : Nat) (h : ¬ n < 10) : Lib.decDigits n = Lib.decDigits (n / 10) ++ [UInt8.ofNat (48 + n % 10)] := by
  rw [Lib.decDigits, dif_neg h]
theorem dig_facts (n : Nat) (hn : n < 9223372036854775808) : ∃ (q c : Nat) (M Q C D : Int), q = n / 10 ∧ c = n % 10 ∧ c < 10 ∧ (n : Int) = M ∧ Q = (q : Int) ∧ M.tdiv 10 = Q ∧ M.tmod 10 = C ∧ IntKind.i64.wrap (48 + C) = D ∧ D = ((48 + c : Nat) : Int) ∧ IntKind.u8.wrap D = D ∧ IntKind.i64.wrap Q = Q ∧ wrap64 (48 + C) = D :=
  ⟨n / 10, n % 10, n, (n / 10 : Nat), (n % 10 : Nat), (48 + n % 10 : Nat), rfl, rfl, by omega, rfl, rfl, tdiv_nat _ 10, tmod_nat _ 10, by rw [i64_is, wrap_same _ (by omega) (by omega)]; omega, rfl, by rw [IntKind.wrap_u8]; omega, by rw [i64_is, wrap_same _ (by omega) (by omega)], by rw [wrap_same _ (by omega) (by omega)]; omega⟩
set_option maxRecDepth 100000 in
set_option maxHeartbeats 1000000 in
theorem refDigits_any (n : Nat) : ∀ (w : World), n < 9223372036854775808 →
    Calls Tryd.prog 27 #[.int .i64 (n : Int)] w fun e w' => e = .returned (.string ⟨(Lib.decDigits n).toArray⟩) ∧ Below w.heap.size w w' := by
  induction n using Nat.strongRecOn with
  | _ n ih =>
    intro w hn
    obtain ⟨q, c, M, Q, C, D, hq, hc, hc10, hMm, hQ, e1, e2, e3, hD, hwb, e4, e5⟩ := dig_facts n hn
    have hcw : ∀ (b : Nat) (w : World), w.cell? ⟨b, 0, none⟩ = some (.int .u8 D) → (convert 66 9 (.slice (some ⟨b, 0, none⟩) 1 1)).run Tryd.prog w = .ok (.string ⟨#[UInt8.ofNat (48 + c)]⟩) w := fun b w hc => conv_one b (48 + c) w (by rw [hc, hD])
    by_cases h : n < 10
    · have hcn : c = n := by omega
      have h' : M < 10 := by omega
      have e6 : wrap64 (48 + M) = D := by rw [hD, ← hMm, hcn, wrap_same _ (by omega) (by omega)]; omega
      have e7 : IntKind.i64.wrap (48 + M) = D := (i64_is _).trans e6
      have hcv := hcw w.heap.size (w.alloc (.cells #[.int .u8 D] 5)) (by simp [go_sem])
      rw [sdec_small n h, show (⟨[UInt8.ofNat (48 + n)].toArray⟩ : ByteArray) = ⟨#[UInt8.ofNat (48 + c)]⟩ by rw [hcn], hMm]
      generalize (⟨#[UInt8.ofNat (48 + c)]⟩ : ByteArray) = E at *
      clear ih hq hc hMm hQ hcw hn e1 e2 hc10 h hcn hD
      go_enter Tryd.func27, Tryd.ntmps27
      go_wp2
      go_ret
      exact ⟨rfl, (Below.refl _ _).alloc (Nat.le_refl _) _⟩
    · have h' : ¬ M < 10 := by omega
      have HI := hide (show ∀ w, Calls Tryd.prog 27 #[.int .i64 Q] w fun e w' => e = .returned (.string ⟨(Lib.decDigits q).toArray⟩) ∧ Below w.heap.size w w' from fun w => by
        rw [hQ]
        exact ih q (by omega) w (by omega))
      have hDs : (⟨(Lib.decDigits q).toArray⟩ : ByteArray).size ≤ 19 := by
        rw [mk_size]
        exact decLen 18 q (Nat.lt_trans (show q < 9223372036854775808 by omega) (by decide))
      have HR := hide (show (⟨(Lib.decDigits n).toArray⟩ : ByteArray) = (⟨(Lib.decDigits q).toArray⟩ : ByteArray) ++ ⟨#[UInt8.ofNat (48 + c)]⟩ by
        rw [sdec_great n h, ← hq, ← hc]
        exact (mk_append (Lib.decDigits q) [UInt8.ofNat (48 + c)]).symm)
      have hcA : ∀ W : World, (convert 66 9 (.slice (some ⟨W.heap.size, 0, none⟩) 1 1)).run Tryd.prog (W.alloc (.cells #[.int .u8 D] 5)) = .ok (.string ⟨#[UInt8.ofNat (48 + c)]⟩) (W.alloc (.cells #[.int .u8 D] 5)) := fun W => hcw _ _ (by simp [go_sem])
      have hcD : ∀ W : World, (convert 66 9 (.slice (some ⟨W.heap.size, 0, none⟩) 1 1)).run Tryd.prog (W.alloc (.cells #[.int .u8 D] 5)).drew = .ok (.string ⟨#[UInt8.ofNat (48 + c)]⟩) (W.alloc (.cells #[.int .u8 D] 5)).drew := fun W => hcw _ _ (by simp [go_sem])
      have HCB := hide (show ∀ (W w1 : World), Below (W.alloc (.cells #[.int .u8 D] 5)).drew.heap.size (W.alloc (.cells #[.int .u8 D] 5)).drew w1 → (convert 66 9 (.slice (some ⟨W.heap.size, 0, none⟩) 1 1)).run Tryd.prog w1 = .ok (.string ⟨#[UInt8.ofNat (48 + c)]⟩) w1 from fun W w1 hb => hcw _ _ (kept_cell hb (by simp [go_sem])))
      clear hcw ih
      rw [hMm]
      generalize (⟨(Lib.decDigits n).toArray⟩ : ByteArray) = T at *
      generalize (⟨(Lib.decDigits q).toArray⟩ : ByteArray) = F at *
      have hE : (⟨#[UInt8.ofNat (48 + c)]⟩ : ByteArray).size = 1 := rfl
      generalize (⟨#[UInt8.ofNat (48 + c)]⟩ : ByteArray) = E at *
      have b1 : ¬ 9223372036854775807 < F.size + E.size := by omega
      have b2 : ¬ 9223372036854775807 < (F ++ E).size := by rw [ByteArray.size_append]; omega
      have e8 : IntKind.i64.wrap (M.tdiv 10) = Q := by rw [e1, e4]
      clear hq hc hMm hD hQ hc10 h hn e1 e4
      go_enter Tryd.func27, Tryd.ntmps27
      go_wp2_with fail
      go_region_with (go_at_call 27; refine (unhide HI _).mono ?_; rintro e w1 ⟨rfl, hb⟩; (try have hcB : (convert 66 9 (.slice (some ⟨w.heap.size, 0, none⟩) 1 1)).run Tryd.prog w1 = .ok (.string E) w1 := unhide HCB _ _ hb))
      all_goals (try go_wp2_with fail)
      all_goals go_ret
      all_goals refine ⟨by rw [unhide HR]; rfl, ?_⟩
      all_goals first
        | exact (Below.then ((Below.refl _ w).drew) hb).alloc (Below.then ((Below.refl _ w).drew) hb).size _
        | exact Below.then (((Below.refl _ w).alloc (Nat.le_refl _) _).drew) hb
end Go.Proofs.YtmjjckindnffdaaDoor
