/- The library's stable sort: two parts change places. -/
import Derived.Test.YtoeahagloobmoaaGreatDoorStabGo
namespace Go.Proofs.YtoeahagloobmoaaGreatDoor
open Go.RowKit
theorem sub_wrap (x i X : Nat) (h : X + i = x) (hb : x ≤ 1000000) : IntKind.i64.wrap ((x : Int) - (i : Int)) = (X : Int) ∧ wrap64 ((x : Int) - (i : Int)) = (X : Int) := by
  subst h
  have : wrap64 (((X + i : Nat) : Int) - (i : Int)) = (X : Int) := by
    rw [wrap_same _ (by omega) (by omega)]
    omega
  exact ⟨(i64_is _).trans this, this⟩
set_option maxRecDepth 100000 in
set_option maxHeartbeats 4000000 in
theorem rotate_any (q n a m b : Nat) (fv : Value) (r : Rw) (w : World) (hr : RowAt q n r w) (h1 : a < m) (h2 : m < b) (hbn : b ≤ n) (hn : n ≤ 1000000) (K : World → Prop) (hK : K w) (hKs : ∀ w i v, K w → i < n → K (w.setCell ⟨q, i, none⟩ v)) (hKd : ∀ w, K w → K w.drew) :
    Calls Tryz.prog 49 #[.slice (some ⟨q, 0, none⟩) n n, .int .i64 (a : Int), .int .i64 (m : Int), .int .i64 (b : Int), fv] w fun e w' => e = .returned (.tuple #[]) ∧ RowAt q n (rot r a m b) w' ∧ K w' := by
  have HS := hide (fun (x y k : Nat) (r : Rw) (w : World) (hr : RowAt q n r w) (hxy : x + k ≤ y) (hyn : y + k ≤ n) (hK : K w) => swapRange_any q n x y k fv r w hr hxy hyn hn K hK hKs hKd)
  obtain ⟨i0, hi0⟩ : ∃ i0, i0 + a = m := ⟨m - a, by omega⟩
  obtain ⟨j0, hj0⟩ : ∃ j0, j0 + m = b := ⟨b - m, by omega⟩
  have p1 : m ≤ 1000000 := by omega
  have p2 : b ≤ 1000000 := by omega
  have hrot : rot r (m - i0) m (m + j0) = rot r a m b := by
    rw [show m - i0 = a by omega, show m + j0 = b by omega]
  have q1 : 0 < i0 := by omega
  have q2 : 0 < j0 := by omega
  have q3 : i0 ≤ m := by omega
  have q4 : m + j0 ≤ n := by omega
  obtain ⟨e1, e1'⟩ := sub_wrap m a i0 hi0 p1
  obtain ⟨e2, e2'⟩ := sub_wrap b m j0 hj0 p2
  clear hi0 hj0 hKs hKd h1 h2 hbn
  go_enter Tryz.func49, Tryz.ntmps49
  go_wp2_with fail
  clear e1 e1' e2 e2'
  go_loopw [10, 11] (fun v u wr => ∃ (i j : Nat) (r' : Rw), v = .int .i64 (i : Int) ∧ u = .int .i64 (j : Int) ∧ 0 < i ∧ 0 < j ∧ i ≤ m ∧ m + j ≤ n ∧ Hid (rot r' (m - i) m (m + j) = rot r a m b) ∧ RowAt q n r' wr ∧ K wr) (fun v u _ => vNat v + vNat u)
  case atStart => exact ⟨i0, j0, r, rfl, rfl, q1, q2, q3, q4, hide hrot, hr, hK⟩
  case round =>
    clear hrot q1 q2 q3 q4 hr hK
    obtain ⟨i, j, r', rfl, rfl, q1, q2, q3, q4, hrot, hr, hK⟩ := hrel
    have c1 : (m - i) + i = m := by omega
    have g6 : j ≤ 1000000 ∧ i ≤ 1000000 ∧ m + j ≤ 1000000 := by omega
    by_cases hij : i = j
    · subst hij
      have HR := hide (show swr r' (m - i) m i = rot r a m b by rw [rot_even r' m i q3]; exact unhide hrot)
      have HC := hide (unhide HS (m - i) m i r' wr hr (by omega) q4 hK)
      rw [unhide HR] at HC
      obtain ⟨e1, e1'⟩ := sub_wrap m i (m - i) c1 p1
      clear hrot HR c1 g6
      generalize ((m - i : Nat) : Int) = MI at *
      go_wp2_with fail
      refine (unhide HC).mono ?_
      rintro e w2 ⟨rfl, hr2, hk2⟩
      go_wp2_with fail
      go_end0
      exact ⟨rfl, hr2, hk2⟩
    · by_cases hgt : j < i
      · have HR := hide (show Hid (rot (swr r' (m - i) m j) (m - (i - j)) m (m + j) = rot r a m b) from hide (by rw [rot_great r' m i j q3 hgt]; exact unhide hrot))
        have HC := hide (unhide HS (m - i) m j r' wr hr (by omega) (by omega) hK)
        have hne : ((i : Int) == (j : Int)) = false := by rw [beq_eq_false_iff_ne]; omega
        have hgt' := nat_lt hgt
        have c2 : (i - j) + j = i := by omega
        have z1 : 0 < i - j := by omega
        have z2 : i - j ≤ m := by omega
        have HE := hide (show (i : Int) - (j : Int) = ((i - j : Nat) : Int) by omega)
        have HM := hide (show ((i - j : Nat) : Int).toNat + ((j : Nat) : Int).toNat < ((i : Nat) : Int).toNat + ((j : Nat) : Int).toNat by rw [Int.toNat_natCast, Int.toNat_natCast, Int.toNat_natCast]; omega)
        obtain ⟨e1, e1'⟩ := sub_wrap m i (m - i) c1 p1
        clear hrot c1 c2 g6 hij
        generalize ((m - i : Nat) : Int) = MI at *
        go_wp2_with fail
        refine (unhide HC).mono ?_
        rintro e w2 ⟨rfl, hr2, hk2⟩
        go_wp2_with fail
        refine ⟨⟨i - j, j, _, by rw [unhide HE], rfl, z1, q2, z2, q4, unhide HR, hr2, hk2⟩, ?_⟩
        rw [unhide HE]
        exact unhide HM
      · have hlt : i < j := by omega
        have HR := hide (show Hid (rot (swr r' (m - i) (m + j - i) i) (m - i) m (m + (j - i)) = rot r a m b) from hide (by rw [rot_less r' m i j q3 hlt]; exact unhide hrot))
        have HC := hide (unhide HS (m - i) (m + j - i) i r' wr hr (by omega) (by omega) hK)
        have hne : ((i : Int) == (j : Int)) = false := by rw [beq_eq_false_iff_ne]; omega
        have hgt' := nat_nlt hgt
        have c2 : (j - i) + i = j := by omega
        have c3 : m + j - i + i = m + j := by omega
        have z1 : 0 < j - i := by omega
        have z2 : m + (j - i) ≤ n := by omega
        have HE := hide (show (j : Int) - (i : Int) = ((j - i : Nat) : Int) by omega)
        have HM := hide (show ((i : Nat) : Int).toNat + ((j - i : Nat) : Int).toNat < ((i : Nat) : Int).toNat + ((j : Nat) : Int).toNat by rw [Int.toNat_natCast, Int.toNat_natCast, Int.toNat_natCast]; omega)
        obtain ⟨e1, e1'⟩ := sub_wrap m i (m - i) c1 p1
        obtain ⟨e3, e3'⟩ := add_wrap m j (m + j) rfl g6.2.2
        obtain ⟨e4, e4'⟩ := sub_wrap (m + j) i (m + j - i) c3 g6.2.2
        clear hrot c1 c2 c3 g6 hij
        generalize ((m - i : Nat) : Int) = MI at *
        generalize ((m + j - i : Nat) : Int) = MJI at *
        generalize ((m + j : Nat) : Int) = MJ at *
        go_wp2_with fail
        refine (unhide HC).mono ?_
        rintro e w2 ⟨rfl, hr2, hk2⟩
        go_wp2_with fail
        refine ⟨⟨i, j - i, _, rfl, by rw [unhide HE], q1, z1, q3, z2, unhide HR, hr2, hk2⟩, ?_⟩
        rw [unhide HE]
        exact unhide HM
end Go.Proofs.YtoeahagloobmoaaGreatDoor
