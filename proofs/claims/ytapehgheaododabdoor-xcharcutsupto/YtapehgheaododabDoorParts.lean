/- XcharParts: cut in two, a text's parts are the text. -/
import Derived.Test.YtapehgheaododabDoorCuts0
namespace Go.Proofs.YtapehgheaododabDoor
open Go.RowKit
/-- A place among the characters: none below 0, none above the number of them. -/
def placeN (s : ByteArray) (n : Int) : Nat := min n.toNat (countN s)
theorem empty_extract (s : ByteArray) (p : Nat) (h : s.size ≤ p ∨ p = 0) : (⟨#[]⟩ : ByteArray) = if p = 0 then s.extract 0 0 else s.extract p s.size := by
  apply ByteArray.ext
  split
  · rw [ByteArray.data_extract]; simp
  · rw [ByteArray.data_extract]; simp; have : s.data.size = s.size := rfl; omega
theorem part_one (s : ByteArray) (n : Int) : cutS s 0 n = s.extract 0 (posAt s (placeN s n)) := by
  unfold cutS placeN
  by_cases h : n ≤ max 0 0
  · rw [if_pos h]
    have e : min n.toNat (countN s) = 0 := by omega
    rw [e]
    show _ = s.extract 0 0
    have := empty_extract s 0 (.inr rfl)
    rwa [if_pos rfl] at this
  · rw [if_neg h]
    show s.extract 0 (posAt s n.toNat) = _
    rcases Nat.le_total n.toNat (countN s) with h1 | h1
    · rw [Nat.min_eq_left h1]
    · rw [Nat.min_eq_right h1, countN_end, posAt_end' s (countN s) _ (by rw [countN_end]; omega) h1]
theorem part_two (s : ByteArray) (n : Int) : cutS s n (countN s) = s.extract (posAt s (placeN s n)) s.size := by
  unfold cutS placeN
  by_cases h : (countN s : Int) ≤ max n 0
  · rw [if_pos h]
    have e : min n.toNat (countN s) = countN s := by omega
    rw [e, countN_end]
    apply ByteArray.ext
    rw [ByteArray.data_extract]
    simp
  · rw [if_neg h]
    have e : min n.toNat (countN s) = (max n 0).toNat := by omega
    rw [e, show ((countN s : Nat) : Int).toNat = countN s from rfl, countN_end]
theorem parts_join (s : ByteArray) (n : Int) : cutS s 0 n ++ cutS s n (countN s) = s := by
  rw [part_one, part_two]
  have h := posAt_le s (placeN s n)
  generalize posAt s (placeN s n) = p at *
  apply ByteArray.ext
  rw [ByteArray.data_append, ByteArray.data_extract, ByteArray.data_extract]
  apply Array.ext'
  have : s.data.toList.length = s.size := rfl
  simp
  exact List.take_of_length_le (by omega)
theorem parts_count (s : ByteArray) (n : Int) : countN (cutS s 0 n) = placeN s n := by
  rw [part_one]
  exact countN_cut s _ (Nat.min_le_right _ _)
theorem cutS_le (s : ByteArray) (a b : Int) : (cutS s a b).size ≤ s.size := by
  unfold cutS
  split
  · exact Nat.zero_le _
  · rw [ByteArray.size_extract]; have := posAt_le s b.toNat; omega
set_option maxHeartbeats 1000000 in
theorem parts_walk (s : ByteArray) (n : Int) (w : World) (hE : Env w) (hs : s.size ≤ 9223372036854775807) :
    Calls Tryd.prog 4 #[.string s, .int .i64 n] w fun e w' => e = .returned (.bool true) ∧ Below w.heap.size w w' := by
  have HE := hide hE
  have HJ := hide (parts_join s n)
  have HC := hide (parts_count s n)
  have hcl := countN_le s
  clear hE
  go_enter Tryd.func4, Tryd.ntmps4
  go_wp2_with fail
  refine (cut_any s 0 n _ hs).mono ?_
  rintro e w1 ⟨rfl, hb1⟩
  go_wp2_with fail
  refine (count_any s _ hs).mono ?_
  rintro e w2 ⟨rfl, hb2⟩
  go_wp2_with fail
  refine (cut_any s n (countN s) _ hs).mono ?_
  rintro e w3 ⟨rfl, hb3⟩
  have hb03 := Below.then hb1 (Below.then hb2 hb3)
  clear hb1 hb2 hb3
  have hz := cutS_le s 0 n
  generalize cutS s 0 n = a at *
  generalize cutS s n (countN s) = b at *
  have hj := unhide HJ
  clear HJ
  subst hj
  have hc := unhide HC
  unfold placeN at hc
  clear HC
  generalize hN : countN (a ++ b) = N at *
  have HN := hide hN
  clear hN
  have hA : a.size ≤ 9223372036854775807 := by omega
  have hAB : a.size + b.size ≤ 9223372036854775807 := by rw [← ByteArray.size_append]; exact hs
  by_cases h0 : n < 0
  · have hc0 : countN a = 0 := by omega
    have HC0 := hide hc0
    clear hc hc0
    go_wp2_with fail
    refine (count_any (a ++ b) _ hs).mono ?_
    rintro e w4 ⟨rfl, hb4⟩
    rw [unhide HN]
    have hb04 := Below.then hb03 hb4
    clear hb03 hb4
    go_wp2_with fail
    refine (live_any _ ((unhide HE).below hb04)).mono ?_
    rintro e w5 ⟨rfl, hb5⟩
    go_wp2_with fail
    refine (count_any a _ hA).mono ?_
    rintro e w6 ⟨rfl, hb6⟩
    rw [unhide HC0]
    go_wp2
    go_ret
    exact ⟨rfl, Below.then hb04 (Below.then hb5 hb6)⟩
  · by_cases h1 : (N : Int) < n
    · have hc0 : countN a = N := by omega
      have HC0 := hide hc0
      clear hc hc0
      go_wp2_with fail
      refine (count_any (a ++ b) _ hs).mono ?_
      rintro e w4 ⟨rfl, hb4⟩
      rw [unhide HN]
      have hb04 := Below.then hb03 hb4
      clear hb03 hb4
      go_wp2_with fail
      refine (count_any (a ++ b) _ hs).mono ?_
      rintro e w4' ⟨rfl, hb4'⟩
      rw [unhide HN]
      go_wp2_with fail
      refine (live_any _ ((unhide HE).below (Below.then hb04 hb4'))).mono ?_
      rintro e w5 ⟨rfl, hb5⟩
      go_wp2_with fail
      refine (count_any a _ hA).mono ?_
      rintro e w6 ⟨rfl, hb6⟩
      rw [unhide HC0]
      go_wp2
      go_ret
      exact ⟨ret_bool (by simp), Below.then (Below.then hb04 hb4') (Below.then hb5 hb6)⟩
    · have hc0 : ((countN a : Nat) : Int) = n := by omega
      have HC0 := hide hc0
      clear hc hc0
      go_wp2_with fail
      refine (count_any (a ++ b) _ hs).mono ?_
      rintro e w4 ⟨rfl, hb4⟩
      rw [unhide HN]
      have hb04 := Below.then hb03 hb4
      clear hb03 hb4
      go_wp2_with fail
      refine (live_any _ ((unhide HE).below hb04)).mono ?_
      rintro e w5 ⟨rfl, hb5⟩
      go_wp2_with fail
      refine (count_any a _ hA).mono ?_
      rintro e w6 ⟨rfl, hb6⟩
      rw [unhide HC0]
      go_wp2
      go_ret
      exact ⟨ret_bool (by simp), Below.then hb04 (Below.then hb5 hb6)⟩
end Go.Proofs.YtapehgheaododabDoor
