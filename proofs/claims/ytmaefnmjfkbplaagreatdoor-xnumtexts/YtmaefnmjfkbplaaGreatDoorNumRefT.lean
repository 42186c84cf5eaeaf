/- A number as a text by the reference: its decimal, places and Text. -/
import Derived.Test.YtmaefnmjfkbplaaGreatDoorNumRefP
import Derived.Deep.RegionHeld3
import Derived.Deep.RegionWith
namespace Go.Proofs.YtmaefnmjfkbplaaGreatDoor
open Go.RowKit
attribute [local go_sem ↓] Go.wp_at_zero Go.wp_at_succ
theorem conv_one (b : Nat) (x : Nat) (w : World) (h : w.cell? ⟨b, 0, none⟩ = some (.int .u8 (x : Int))) : (convert 75 9 (.slice (some ⟨b, 0, none⟩) 1 1)).run Tryz.prog w = .ok (.string ⟨#[UInt8.ofNat x]⟩) w := by
  refine (run_convert_bytes_arg w 75 5 Tryz.underlying75 Tryz.underlying5 b 0 1 1 [(x : Int)] rfl ?_ 9 Tryz.underlying9).trans ?_
  · intro i hi
    obtain rfl : i = 0 := by omega
    exact h
  · congr 2
theorem dec_small (n : Nat) (h : n < 10) : Lib.decDigits n = [UInt8.ofNat (48 + n)] := by
  rw [Lib.decDigits, dif_pos h]
theorem dec_great (n : Nat) (h : ¬ n < 10) : Lib.decDigits n = Lib.decDigits (n / 10) ++ [UInt8.ofNat (48 + n % 10)] := by
  rw [Lib.decDigits, dif_neg h]
set_option maxRecDepth 100000 in
set_option maxHeartbeats 1000000 in
theorem refDecimal_any (n : Nat) : ∀ (w : World), n < 18446744073709551616 →
    Calls Tryz.prog 56 #[.int .u64 (n : Int)] w fun e w' => e = .returned (.string ⟨(Lib.decDigits n).toArray⟩) ∧ Below w.heap.size w w' := by
  induction n using Nat.strongRecOn with
  | _ n ih =>
    intro w hn
    by_cases h : n < 10
    · have h' : (n : Int) < 10 := by omega
      rw [dec_small n h]
      have hcv := conv_one w.heap.size (48 + n) (w.alloc (.cells #[.int .u8 (48 + (n : Int))] 5)) (by simp [go_sem])
      rw [show (⟨[UInt8.ofNat (48 + n)].toArray⟩ : ByteArray) = ⟨#[UInt8.ofNat (48 + n)]⟩ from rfl]
      generalize (⟨#[UInt8.ofNat (48 + n)]⟩ : ByteArray) = E at *
      go_enter Tryz.func56, Tryz.ntmps56
      go_wp2
      go_ret
      exact ⟨rfl, (Below.refl _ _).alloc (Nat.le_refl _) _⟩
    · have h' : (10 : Int) ≤ (n : Int) := by omega
      obtain ⟨q, hq⟩ : ∃ q, q = n / 10 := ⟨_, rfl⟩
      obtain ⟨r, hr⟩ : ∃ r, r = n % 10 := ⟨_, rfl⟩
      have hwq : IntKind.u64.wrap ((n : Int) / 10) = (q : Int) := by rw [IntKind.wrap_u64]; omega
      have htm : (n : Int).tmod 10 = (r : Int) := by rw [Int.tmod_eq_emod_of_nonneg (Int.natCast_nonneg n)]; omega
      have hws : IntKind.u64.wrap (48 + (r : Int)) = 48 + (r : Int) := by rw [IntKind.wrap_u64]; omega
      have hwb : IntKind.u8.wrap (48 + (r : Int)) = 48 + (r : Int) := by rw [IntKind.wrap_u8]; omega
      have HI := hide (fun w => ih q (by omega) w (by omega))
      have hDs : (⟨(Lib.decDigits q).toArray⟩ : ByteArray).size ≤ 20 := by
        have := dec_len 19 q (by omega)
        rw [mk_size]
        omega
      have HR := hide (show (⟨(Lib.decDigits n).toArray⟩ : ByteArray) = (⟨(Lib.decDigits q).toArray⟩ : ByteArray) ++ ⟨#[UInt8.ofNat (48 + r)]⟩ by
        rw [dec_great n h, ← hq, ← hr]
        exact (mk_append (Lib.decDigits q) [UInt8.ofNat (48 + r)]).symm)
      have hcw : ∀ (b : Nat) (w : World), w.cell? ⟨b, 0, none⟩ = some (.int .u8 (48 + (r : Int))) → (convert 75 9 (.slice (some ⟨b, 0, none⟩) 1 1)).run Tryz.prog w = .ok (.string ⟨#[UInt8.ofNat (48 + r)]⟩) w := fun b w hc => conv_one b (48 + r) w (by rw [hc]; congr 2)
      have hcA : ∀ W : World, (convert 75 9 (.slice (some ⟨W.heap.size, 0, none⟩) 1 1)).run Tryz.prog (W.alloc (.cells #[.int .u8 (48 + (r : Int))] 5)) = .ok (.string ⟨#[UInt8.ofNat (48 + r)]⟩) (W.alloc (.cells #[.int .u8 (48 + (r : Int))] 5)) := fun W => hcw _ _ (by simp [go_sem])
      have hcD : ∀ W : World, (convert 75 9 (.slice (some ⟨W.heap.size, 0, none⟩) 1 1)).run Tryz.prog (W.alloc (.cells #[.int .u8 (48 + (r : Int))] 5)).drew = .ok (.string ⟨#[UInt8.ofNat (48 + r)]⟩) (W.alloc (.cells #[.int .u8 (48 + (r : Int))] 5)).drew := fun W => hcw _ _ (by simp [go_sem])
      have HCB := hide (show ∀ (W w1 : World), Below (W.alloc (.cells #[.int .u8 (48 + (r : Int))] 5)).drew.heap.size (W.alloc (.cells #[.int .u8 (48 + (r : Int))] 5)).drew w1 → (convert 75 9 (.slice (some ⟨W.heap.size, 0, none⟩) 1 1)).run Tryz.prog w1 = .ok (.string ⟨#[UInt8.ofNat (48 + r)]⟩) w1 from fun W w1 hb => hcw _ _ (kept_cell hb (by simp [go_sem])))
      clear hcw ih
      generalize (⟨(Lib.decDigits n).toArray⟩ : ByteArray) = T at *
      generalize (⟨(Lib.decDigits q).toArray⟩ : ByteArray) = D at *
      have hE : (⟨#[UInt8.ofNat (48 + r)]⟩ : ByteArray).size = 1 := rfl
      generalize (⟨#[UInt8.ofNat (48 + r)]⟩ : ByteArray) = E at *
      have b1 : ¬ 9223372036854775807 < D.size + E.size := by omega
      have b2 : ¬ 9223372036854775807 < (D ++ E).size := by rw [ByteArray.size_append]; omega
      clear hq hr
      go_enter Tryz.func56, Tryz.ntmps56
      go_wp2_with fail
      go_region_with (go_at_call 56; refine (unhide HI _).mono ?_; rintro e w1 ⟨rfl, hb⟩; (try have hcB : (convert 75 9 (.slice (some ⟨w.heap.size, 0, none⟩) 1 1)).run Tryz.prog w1 = .ok (.string E) w1 := unhide HCB _ _ hb))
      all_goals (try go_wp2_with fail)
      all_goals go_ret
      all_goals refine ⟨by rw [unhide HR]; rfl, ?_⟩
      all_goals first
        | exact (Below.then ((Below.refl _ w).drew) hb).alloc (Below.then ((Below.refl _ w).drew) hb).size _
        | exact Below.then (((Below.refl _ w).alloc (Nat.le_refl _) _).drew) hb
theorem six_at (m k : Nat) : (⟨#[48]⟩ : ByteArray) ++ ⟨(List.replicate k 48 ++ Lib.decDigits m).toArray⟩ = ⟨(List.replicate (k + 1) 48 ++ Lib.decDigits m).toArray⟩ := by
  have := mk_append [48] (List.replicate k 48 ++ Lib.decDigits m)
  rw [show (⟨#[48]⟩ : ByteArray) = ⟨[(48 : UInt8)].toArray⟩ from rfl, this, List.replicate_succ]
  rfl
set_option maxRecDepth 100000 in
set_option maxHeartbeats 1000000 in
theorem refPlaces_any (m : Nat) (w : World) (hm : m < 1000000) :
    Calls Tryz.prog 57 #[.int .u64 (m : Int)] w fun e w' => e = .returned (.string ⟨(sixL m).toArray⟩) ∧ Below w.heap.size w w' := by
  have hdl := dec_len 5 m hm
  have HD := hide (fun w => refDecimal_any m w (by omega))
  have HX := hide (show ∀ k, k + (Lib.decDigits m).length = 6 → sixL m = List.replicate k 48 ++ Lib.decDigits m from fun k hk => by unfold sixL; rw [show 6 - (Lib.decDigits m).length = k by omega])
  have HS := hide (fun k => six_at m k)
  clear hm
  go_enter Tryz.func57, Tryz.ntmps57
  go_wp2_with fail
  refine (unhide HD _).mono ?_
  rintro e w1 ⟨rfl, hb1⟩
  clear HD
  go_wp2_with fail
  go_loop [3] (fun v => ∃ k : Nat, v = .string ⟨(List.replicate k 48 ++ Lib.decDigits m).toArray⟩ ∧ k + (Lib.decDigits m).length ≤ 6) (fun v => 6 - strLen v)
  case atStart => exact ⟨0, by rfl, by omega⟩
  case round =>
    obtain ⟨k, rfl, hk⟩ := hrel
    have hsz : (⟨(List.replicate k 48 ++ Lib.decDigits m).toArray⟩ : ByteArray).size = k + (Lib.decDigits m).length := by rw [mk_size]; simp
    by_cases h6 : k + (Lib.decDigits m).length < 6
    · have hn := unhide HS k
      have hsz2 : (⟨(List.replicate (k + 1) 48 ++ Lib.decDigits m).toArray⟩ : ByteArray).size = k + 1 + (Lib.decDigits m).length := by rw [mk_size]; simp
      have h6' : ((⟨(List.replicate k 48 ++ Lib.decDigits m).toArray⟩ : ByteArray).size : Int) < 6 := by omega
      have HZ := hide hn
      have HY := hide (show ∃ j, j = k + 1 ∧ (⟨(List.replicate (k + 1) 48 ++ Lib.decDigits m).toArray⟩ : ByteArray) = ⟨(List.replicate j 48 ++ Lib.decDigits m).toArray⟩ from ⟨_, rfl, rfl⟩)
      clear hn HX HS
      generalize (⟨(List.replicate (k + 1) 48 ++ Lib.decDigits m).toArray⟩ : ByteArray) = U at *
      generalize (⟨(List.replicate k 48 ++ Lib.decDigits m).toArray⟩ : ByteArray) = V at *
      go_wp2
      obtain ⟨j, hj, hU⟩ := unhide HY
      exact ⟨⟨j, by rw [← hU, ← unhide HZ], by omega⟩, by
        have h1 := unhide HZ
        have h2 : ((⟨#[48]⟩ : ByteArray) ++ V).size = U.size := by rw [h1]
        simp only [strLen]
        first | omega | (simp only [ByteArray.size_append] at h2 ⊢; omega)⟩
    · have h6' : ¬ ((⟨(List.replicate k 48 ++ Lib.decDigits m).toArray⟩ : ByteArray).size : Int) < 6 := by omega
      have HF := hide (unhide HX k (by omega))
      clear HX HS
      generalize hV : (⟨(List.replicate k 48 ++ Lib.decDigits m).toArray⟩ : ByteArray) = V at *
      have HV := hide hV
      clear hV
      go_wp2
      go_ret
      exact ⟨by rw [unhide HF, unhide HV]; rfl, hb1⟩
set_option maxRecDepth 100000 in
set_option maxHeartbeats 1000000 in
theorem refSize_any (k v : Int) (w : World) (h1 : -1000000000000000000 ≤ v) (h2 : v ≤ 1000000000000000000) :
    Calls Tryz.prog 42 #[.agg #[.int .i64 k, .int .i64 v]] w fun e w' => e = .returned (.int .u64 (v.natAbs : Int)) ∧ Below w.heap.size w w' := by
  by_cases hv : v < 0
  · have e1 : (v.natAbs : Int) = -v := by omega
    rw [e1]
    have w1 : wrap64 (v + 1) = v + 1 := by unfold wrap64; omega
    have w2 : wrap64 (-(v + 1)) = -(v + 1) := by unfold wrap64; omega
    go_enter Tryz.func42, Tryz.ntmps42
    go_wp2
    go_ret
    exact ⟨ret_val (by simp <;> omega), (Below.refl _ _).alloc (Nat.le_refl _) _⟩
  · have e1 : (v.natAbs : Int) = v := by omega
    rw [e1]
    go_enter Tryz.func42, Tryz.ntmps42
    go_wp2
    go_ret
    exact ⟨rfl, (Below.refl _ _).alloc (Nat.le_refl _) _⟩
end Go.Proofs.YtmaefnmjfkbplaaGreatDoor
