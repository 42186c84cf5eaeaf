/- UTF-16 is read: xchar's unitOf, isPair, joinPair, firstWide and decodeWide. -/
import Derived.Test.YtfgifocgkiploaaGreatDoorEncWide
namespace Go.Proofs.YtfgifocgkiploaaGreatDoor
open Go.RowKit
/-- The unit of two bytes. -/
def unitN (s : ByteArray) (pos : Nat) (high : Bool) : Nat :=
  if high then (s.get! (pos + 1)).toNat * 256 + (s.get! pos).toNat else (s.get! pos).toNat * 256 + (s.get! (pos + 1)).toNat
def highV (high : Bool) : Value := .int .i64 (if high then 1 else 0)
theorem get_at2 (s : ByteArray) (i : Nat) (h : i < s.size) : s[i] = s.get! i := by
  show s.data[i] = s.data[i]!
  rw [getElem!_pos s.data i h]
set_option maxHeartbeats 1000000 in
theorem unitOf_any (s : ByteArray) (high : Bool) (w : World) (h2 : 2 ≤ s.size) :
    Calls Tryz.prog 83 #[.string s, highV high] w fun e w' => e = .returned (.int .i32 (unitN s 0 high : Nat)) ∧ Below w.heap.size w w' := by
  have g0 := get_at2 s 0 (by omega)
  have g1 := get_at2 s 1 (by omega)
  have b0 := (s.get! 0).toNat_lt
  have b1 := (s.get! 1).toNat_lt
  unfold unitN highV
  generalize (s.get! 0) = c0 at *
  generalize (s.get! 1) = c1 at *
  have hor : bits .or .i32 ((c0.toNat : Int) * 256) c1.toNat = (c0.toNat : Int) * 256 + c1.toNat := bits_join .i32 31 (by decide) wraps_i32 8 _ _ (by omega) (by omega) (by omega) (by omega) (by omega) (by omega)
  have hor' : bits .or .i32 ((c1.toNat : Int) * 256) c0.toNat = (c1.toNat : Int) * 256 + c0.toNat := bits_join .i32 31 (by decide) wraps_i32 8 _ _ (by omega) (by omega) (by omega) (by omega) (by omega) (by omega)
  cases high
  · go_enter Tryz.func83, Tryz.ntmps83
    go_wp2
    go_region
    go_wp2
    go_ret
    exact ⟨rfl, (Below.refl _ _).drew⟩
  · go_enter Tryz.func83, Tryz.ntmps83
    go_wp2
    go_region
    go_wp2
    go_ret
    exact ⟨rfl, (Below.refl _ _).drew⟩
theorem unitN_lt (s : ByteArray) (pos : Nat) (high : Bool) : unitN s pos high < 65536 := by
  have a := (s.get! pos).toNat_lt
  have b := (s.get! (pos + 1)).toNat_lt
  unfold unitN
  split <;> omega
def pairB (x y : Nat) : Bool := (decide (55296 ≤ x) && decide (x ≤ 56319)) && (decide (56320 ≤ y) && decide (y ≤ 57343))
theorem wB_nat (x lo hi fa fb : Nat) (h1 : floatOfInt .f64 (lo : Int) = fa) (h2 : floatOfInt .f64 (hi : Int) = fb) (hl : lo < 2 ^ 53) (hh : hi < 2 ^ 53) (hx : x < 2 ^ 53) :
    wB (x : Int) fa fb = (decide (lo ≤ x) && decide (x ≤ hi)) := by
  rw [wB_eq (x : Int) lo hi fa fb h1 h2 (by omega) (by omega) (by omega)]
  simp
theorem lead_eq (x : Nat) (h : x < 65536) : wB (x : Int) 4677832637954392064 4677973238003793920 = (decide (55296 ≤ x) && decide (x ≤ 56319)) :=
  wB_nat x 55296 56319 _ _ (by decide +kernel) (by decide +kernel) (by decide) (by decide) (by omega)
theorem trail_eq (x : Nat) (h : x < 65536) : wB (x : Int) 4677973375442747392 4678113975492149248 = (decide (56320 ≤ x) && decide (x ≤ 57343)) :=
  wB_nat x 56320 57343 _ _ (by decide +kernel) (by decide +kernel) (by decide) (by decide) (by omega)
theorem surr_eq (x : Nat) (h : x < 65536) : wB (x : Int) 4677832637954392064 4678113975492149248 = (decide (55296 ≤ x) && decide (x ≤ 57343)) :=
  wB_nat x 55296 57343 _ _ (by decide +kernel) (by decide +kernel) (by decide) (by decide) (by omega)
set_option maxHeartbeats 1000000 in
theorem isPair_any (x y : Nat) (w : World) (hx : x < 65536) (hy : y < 65536) :
    Calls Tryz.prog 85 #[.complex .f64 (floatOfInt .f64 (x : Int)) (floatOfInt .f64 (y : Int))] w fun e w' => e = .returned (.bool (pairB x y)) ∧ w' = w := by
  have hre := fun w => real_int (x : Int) (by omega) (by omega) w
  have him := fun w => real_int (y : Int) (by omega) (by omega) w
  have HL := hide (lead_eq x hx)
  have HT := hide (trail_eq y hy)
  go_enter Tryz.func85, Tryz.ntmps85
  go_wp2_with (go_at_call 84; refine (within_any _ _ _ _).mono ?_; rintro e w' ⟨rfl, rfl⟩)
  all_goals
    go_ret
    refine ⟨ret_bool ?_, rfl⟩
    unfold pairB
    rw [← unhide HL, ← unhide HT]
    simp [*]
theorem sub_const (x y : Nat) (h1 : 55296 ≤ x) (h2 : x < 65536) (h3 : 56320 ≤ y) (h4 : y < 65536) (w : World) :
    (binOp .sub 70 (.complex .f64 (floatOfInt .f64 (x : Int)) (floatOfInt .f64 (y : Int))) (.complex .f64 4677832637954392064 4677973375442747392)).run Tryz.prog w = .ok (.complex .f64 (floatOfInt .f64 ((x : Int) - 55296)) (floatOfInt .f64 ((y : Int) - 56320))) w := by
  refine run_complex_sum w .sub (.inr rfl) _ _ _ _ _ _ _ _ ?_
  have e1 : floatOfInt .f64 55296 = 4677832637954392064 := by decide +kernel
  have e2 : floatOfInt .f64 56320 = 4677973375442747392 := by decide +kernel
  unfold cSumBits
  rw [← e1, ← e2, FloatInt.sub_nearest x 55296 (by omega) (by decide) (by omega), FloatInt.sub_nearest y 56320 (by omega) (by decide) (by omega)]
  rfl
set_option maxHeartbeats 1000000 in
theorem joinPair_any (x y : Nat) (w : World) (h1 : 55296 ≤ x) (h2 : x ≤ 56319) (h3 : 56320 ≤ y) (h4 : y ≤ 57343) :
    Calls Tryz.prog 86 #[.complex .f64 (floatOfInt .f64 (x : Int)) (floatOfInt .f64 (y : Int))] w fun e w' => e = .returned (.int .i32 ((65536 + (x - 55296) * 1024 + (y - 56320) : Nat) : Int)) ∧ w' = w := by
  have e : ((65536 + (x - 55296) * 1024 + (y - 56320) : Nat) : Int) = 65536 + ((x : Int) - 55296) * 1024 + ((y : Int) - 56320) := by omega
  rw [e]
  clear e
  have hs := fun w => sub_const x y h1 (by omega) h3 (by omega) w
  have hre := fun w => real_int ((x : Int) - 55296) (by omega) (by omega) w
  have him := fun w => real_int ((y : Int) - 56320) (by omega) (by omega) w
  go_enter Tryz.func86, Tryz.ntmps86
  go_wp2
  go_ret
  exact ⟨ret_int (by omega), rfl⟩
/-- The first character of UTF-16 from a place on, and how many bytes it takes; 0, if none can be read. -/
def wideAt (s : ByteArray) (pos : Nat) (high : Bool) : Nat × Nat :=
  if s.size < pos + 2 then (0, 0)
  else if (decide (55296 ≤ unitN s pos high) && decide (unitN s pos high ≤ 57343)) = false then (unitN s pos high, 2)
  else if s.size < pos + 4 then (0, 0)
  else if pairB (unitN s pos high) (unitN s (pos + 2) high) = false then (0, 0)
  else (65536 + (unitN s pos high - 55296) * 1024 + (unitN s (pos + 2) high - 56320), 4)
theorem ret_wide {x : Nat × Nat} {a b : Nat} (h : x = (a, b)) : Ending.returned (.tuple #[.int .i32 (a : Int), .int .i64 (b : Int)]) = .returned (.tuple #[.int .i32 (x.1 : Int), .int .i64 (x.2 : Int)]) := by rw [h]
theorem get_list (s : ByteArray) (i : Nat) (h : i < s.size) : s.get! i = s.data.toList[i]'h := by
  show s.data[i]! = _
  rw [getElem!_pos s.data i h]; rfl
theorem get_tail (s : ByteArray) (p i : Nat) (hp : p ≤ s.size) : (s.extract p s.size).get! i = s.get! (p + i) := by
  have z : (s.extract p s.size).size = s.size - p := by rw [ByteArray.size_extract]; omega
  by_cases hi : i < s.size - p
  · rw [get_list _ i (by omega), get_list s (p + i) (by omega)]
    simp [ByteArray.data_extract]
  · have a : (s.extract p s.size).get! i = default := by
      show (s.extract p s.size).data[i]! = _
      exact getElem!_neg _ _ (by show ¬ i < (s.extract p s.size).size; omega)
    have b : s.get! (p + i) = default := by
      show s.data[p + i]! = _
      exact getElem!_neg _ _ (by show ¬ p + i < s.size; omega)
    rw [a, b]
theorem unitN_tail (s : ByteArray) (p k : Nat) (high : Bool) (hp : p ≤ s.size) : unitN (s.extract p s.size) k high = unitN s (p + k) high := by
  unfold unitN
  rw [get_tail s p k hp, get_tail s p (k + 1) hp, Nat.add_assoc]
theorem wideAt_tail (s : ByteArray) (p : Nat) (high : Bool) (hp : p ≤ s.size) : wideAt (s.extract p s.size) 0 high = wideAt s p high := by
  have z : (s.extract p s.size).size = s.size - p := by rw [ByteArray.size_extract]; omega
  unfold wideAt
  rw [z, unitN_tail s p 0 high hp, unitN_tail s p (0 + 2) high hp]
  simp only [Nat.add_zero, Nat.zero_add]
  have c1 : (s.size - p < 2) = (s.size < p + 2) := propext ⟨fun _ => by omega, fun _ => by omega⟩
  have c2 : (s.size - p < 4) = (s.size < p + 4) := propext ⟨fun _ => by omega, fun _ => by omega⟩
  simp only [c1, c2]
set_option maxHeartbeats 1000000 in
theorem firstWide_any (s : ByteArray) (high : Bool) (w : World) (hs : s.size ≤ 9223372036854775807) :
    Calls Tryz.prog 62 #[.string s, highV high] w fun e w' => e = .returned (.tuple #[.int .i32 ((wideAt s 0 high).1 : Int), .int .i64 ((wideAt s 0 high).2 : Int)]) ∧ Below w.heap.size w w' := by
  by_cases h2 : s.size < 2
  · have h2' : (s.size : Int) < 2 := by omega
    go_enter Tryz.func62, Tryz.ntmps62
    go_wp2
    go_ret2
    exact ⟨ret_wide (by unfold wideAt; rw [if_pos (by omega)]), Below.refl _ _⟩
  · have h2' : ¬ (s.size : Int) < 2 := by omega
    have hu := unitN_lt s 0 high
    have hu2 := unitN_lt s 2 high
    have HS := hide (surr_eq (unitN s 0 high) hu)
    have ht : unitN (s.extract 2 s.size) 0 high = unitN s 2 high := by rw [unitN_tail s 2 0 high (by omega)]
    have HT := hide ht
    have hz2 : (s.extract 2 s.size).size = s.size - 2 := by rw [ByteArray.size_extract]; omega
    have HZ := hide hz2
    clear ht hz2
    cases hsu : (decide (55296 ≤ unitN s 0 high) && decide (unitN s 0 high ≤ 57343))
    · have hwb : wB ((unitN s 0 high : Nat) : Int) 4677832637954392064 4678113975492149248 = false := by rw [unhide HS]; exact hsu
      have HSU := hide hsu
      clear hsu
      go_enter Tryz.func62, Tryz.ntmps62
      go_wp2_with fail
      refine (unitOf_any s high _ (by omega)).mono ?_
      rintro e w1 ⟨rfl, hb1⟩
      go_wp2_with (go_at_call 84; refine (within_any _ _ _ _).mono ?_; rintro e w' ⟨rfl, rfl⟩)
      go_ret2
      exact ⟨ret_wide (by unfold wideAt; rw [if_neg (by omega), if_pos (unhide HSU)]), hb1⟩
    · have hwb : wB ((unitN s 0 high : Nat) : Int) 4677832637954392064 4678113975492149248 = true := by rw [unhide HS]; exact hsu
      have HSU := hide (show ¬ (decide (55296 ≤ unitN s 0 high) && decide (unitN s 0 high ≤ 57343)) = false by rw [hsu]; decide)
      have hlo : 55296 ≤ unitN s 0 high := by simp at hsu; omega
      clear hsu
      by_cases h4 : s.size < 4
      · have h4' : (s.size : Int) < 4 := by omega
        go_enter Tryz.func62, Tryz.ntmps62
        go_wp2_with fail
        refine (unitOf_any s high _ (by omega)).mono ?_
        rintro e w1 ⟨rfl, hb1⟩
        go_wp2_with (go_at_call 84; refine (within_any _ _ _ _).mono ?_; rintro e w' ⟨rfl, rfl⟩)
        go_ret2
        exact ⟨ret_wide (by unfold wideAt; rw [if_neg (by omega), if_neg (unhide HSU), if_pos (by omega)]), hb1⟩
      · have h4' : ¬ (s.size : Int) < 4 := by omega
        have fin : ∀ (a b : Nat), (pairB (unitN s 0 high) (unitN s 2 high) = false → (a, b) = (0, 0)) → (¬ pairB (unitN s 0 high) (unitN s 2 high) = false → (a, b) = (65536 + (unitN s 0 high - 55296) * 1024 + (unitN s 2 high - 56320), 4)) → wideAt s 0 high = (a, b) := by
          intro a b p1 p2
          unfold wideAt
          rw [if_neg (by omega), if_neg (unhide HSU), if_neg (by omega)]
          by_cases h : pairB (unitN s 0 high) (unitN s (0 + 2) high) = false
          · rw [if_pos h]; exact (p1 h).symm
          · rw [if_neg h]; exact (p2 h).symm
        have FIN := hide fin
        clear fin
        cases hp : pairB (unitN s 0 high) (unitN s 2 high)
        · have HP := hide hp
          clear hp
          go_enter Tryz.func62, Tryz.ntmps62
          go_wp2_with fail
          refine (unitOf_any s high _ (by omega)).mono ?_
          rintro e w1 ⟨rfl, hb1⟩
          go_wp2_with (first
            | (go_at_call 84; refine (within_any _ _ _ _).mono ?_; rintro e w' ⟨rfl, rfl⟩)
            | (go_at_call 83; refine (unitOf_any (s.extract 2 s.size) high _ (by rw [unhide HZ]; omega)).mono ?_; rintro e w2 ⟨rfl, hb2⟩; rw [unhide HT])
            | (go_at_call 85; refine (isPair_any _ _ _ hu hu2).mono ?_; rintro e w3 ⟨rfl, rfl⟩; rw [unhide HP]))
          go_ret2
          exact ⟨ret_wide (unhide FIN 0 0 (fun _ => rfl) (fun h => absurd (unhide HP) h)), Below.then hb1 hb2⟩
        · have HP := hide hp
          have hb : unitN s 0 high ≤ 56319 ∧ 56320 ≤ unitN s 2 high ∧ unitN s 2 high ≤ 57343 := by
            simp [pairB] at hp; omega
          obtain ⟨hp1, hp2, hp3⟩ := hb
          clear hp
          go_enter Tryz.func62, Tryz.ntmps62
          go_wp2_with fail
          refine (unitOf_any s high _ (by omega)).mono ?_
          rintro e w1 ⟨rfl, hb1⟩
          go_wp2_with (first
            | (go_at_call 84; refine (within_any _ _ _ _).mono ?_; rintro e w' ⟨rfl, rfl⟩)
            | (go_at_call 83; refine (unitOf_any (s.extract 2 s.size) high _ (by rw [unhide HZ]; omega)).mono ?_; rintro e w2 ⟨rfl, hb2⟩; rw [unhide HT])
            | (go_at_call 85; refine (isPair_any _ _ _ hu hu2).mono ?_; rintro e w3 ⟨rfl, rfl⟩; rw [unhide HP])
            | (go_at_call 86; refine (joinPair_any _ _ _ hlo hp1 hp2 hp3).mono ?_; rintro e w3 ⟨rfl, rfl⟩))
          go_ret2
          exact ⟨ret_wide (unhide FIN _ 4 (fun h => by rw [unhide HP] at h; cases h) (fun _ => rfl)), Below.then hb1 hb2⟩
end Go.Proofs.YtfgifocgkiploaaGreatDoor
