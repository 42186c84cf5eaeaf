/- Several texts, laid as one. -/
import Derived.Test.YtiembljlhmgpjaaGreatDoorGad
import Derived.Lib.RuneBytes
import Derived.Lib.TrimUEq
/- UTF-16 is read: xchar's unitOf, isPair, joinPair, firstWide and decodeWide. -/
namespace Go.Proofs.YtiembljlhmgpjaaGreatDoor
open Go.RowKit
/-- The unit of two bytes. -/
def unitN (s : ByteArray) (pos : Nat) (high : Bool) : Nat :=
  if high then (s.get! (pos + 1)).toNat * 256 + (s.get! pos).toNat else (s.get! pos).toNat * 256 + (s.get! (pos + 1)).toNat
def highV (high : Bool) : Value := .int .i64 (if high then 1 else 0)
theorem get_at2 (s : ByteArray) (i : Nat) (h : i < s.size) : s[i] = s.get! i := by
  show s.data[i] = s.data[i]!
  rw [getElem!_pos s.data i h]
set_option maxHeartbeats 1000000 in
theorem unitOf_any (s : ByteArray) (high : Bool) (w : World) (h2 : 2 ≤ s.size) :
    Calls Tryz.prog 119 #[.string s, highV high] w fun e w' => e = .returned (.int .i32 (unitN s 0 high : Nat)) ∧ Below w.heap.size w w' := by
  have g0 := get_at2 s 0 (by omega)
  have g1 := get_at2 s 1 (by omega)
  have b0 := (s.get! 0).toNat_lt
  have b1 := (s.get! 1).toNat_lt
  unfold unitN highV
  generalize (s.get! 0) = c0 at *
  generalize (s.get! 1) = c1 at *
  have hor : bits .or .i32 ((c0.toNat : Int) * 256) c1.toNat = (c0.toNat : Int) * 256 + c1.toNat := bits_join .i32 31 (by decide) wraps_i32 8 _ _ (by omega) (by omega) (by omega) (by omega) (by omega) (by omega)
  have hor' : bits .or .i32 ((c1.toNat : Int) * 256) c0.toNat = (c1.toNat : Int) * 256 + c0.toNat := bits_join .i32 31 (by decide) wraps_i32 8 _ _ (by omega) (by omega) (by omega) (by omega) (by omega) (by omega)
  cases high
  · go_enter Tryz.func119, Tryz.ntmps119
    go_wp2
    go_region
    go_wp2
    go_ret
    exact ⟨rfl, (Below.refl _ _).drew⟩
  · go_enter Tryz.func119, Tryz.ntmps119
    go_wp2
    go_region
    go_wp2
    go_ret
    exact ⟨rfl, (Below.refl _ _).drew⟩
theorem unitN_lt (s : ByteArray) (pos : Nat) (high : Bool) : unitN s pos high < 65536 := by
  have a := (s.get! pos).toNat_lt
  have b := (s.get! (pos + 1)).toNat_lt
  unfold unitN
  split <;> omega
def pairB (x y : Nat) : Bool := (decide (55296 ≤ x) && decide (x ≤ 56319)) && (decide (56320 ≤ y) && decide (y ≤ 57343))
theorem wB_nat (x lo hi fa fb : Nat) (h1 : floatOfInt .f64 (lo : Int) = fa) (h2 : floatOfInt .f64 (hi : Int) = fb) (hl : lo < 2 ^ 53) (hh : hi < 2 ^ 53) (hx : x < 2 ^ 53) :
    wB (x : Int) fa fb = (decide (lo ≤ x) && decide (x ≤ hi)) := by
  rw [wB_eq (x : Int) lo hi fa fb h1 h2 (by omega) (by omega) (by omega)]
  simp
theorem lead_eq (x : Nat) (h : x < 65536) : wB (x : Int) 4677832637954392064 4677973238003793920 = (decide (55296 ≤ x) && decide (x ≤ 56319)) :=
  wB_nat x 55296 56319 _ _ (by decide +kernel) (by decide +kernel) (by decide) (by decide) (by omega)
theorem trail_eq (x : Nat) (h : x < 65536) : wB (x : Int) 4677973375442747392 4678113975492149248 = (decide (56320 ≤ x) && decide (x ≤ 57343)) :=
  wB_nat x 56320 57343 _ _ (by decide +kernel) (by decide +kernel) (by decide) (by decide) (by omega)
theorem surr_eq (x : Nat) (h : x < 65536) : wB (x : Int) 4677832637954392064 4678113975492149248 = (decide (55296 ≤ x) && decide (x ≤ 57343)) :=
  wB_nat x 55296 57343 _ _ (by decide +kernel) (by decide +kernel) (by decide) (by decide) (by omega)
set_option maxHeartbeats 1000000 in
theorem isPair_any (x y : Nat) (w : World) (hx : x < 65536) (hy : y < 65536) :
    Calls Tryz.prog 120 #[.complex .f64 (floatOfInt .f64 (x : Int)) (floatOfInt .f64 (y : Int))] w fun e w' => e = .returned (.bool (pairB x y)) ∧ w' = w := by
  have hre := fun w => real_int (x : Int) (by omega) (by omega) w
  have him := fun w => real_int (y : Int) (by omega) (by omega) w
  have HL := hide (lead_eq x hx)
  have HT := hide (trail_eq y hy)
  go_enter Tryz.func120, Tryz.ntmps120
  go_wp2_with (go_at_call 99; refine (within_any _ _ _ _).mono ?_; rintro e w' ⟨rfl, rfl⟩)
  all_goals
    go_ret
    refine ⟨ret_bool ?_, rfl⟩
    unfold pairB
    rw [← unhide HL, ← unhide HT]
    simp [*]
theorem sub_const (x y : Nat) (h1 : 55296 ≤ x) (h2 : x < 65536) (h3 : 56320 ≤ y) (h4 : y < 65536) (w : World) :
    (binOp .sub 101 (.complex .f64 (floatOfInt .f64 (x : Int)) (floatOfInt .f64 (y : Int))) (.complex .f64 4677832637954392064 4677973375442747392)).run Tryz.prog w = .ok (.complex .f64 (floatOfInt .f64 ((x : Int) - 55296)) (floatOfInt .f64 ((y : Int) - 56320))) w := by
  refine run_complex_sum w .sub (.inr rfl) _ _ _ _ _ _ _ _ ?_
  have e1 : floatOfInt .f64 55296 = 4677832637954392064 := by decide +kernel
  have e2 : floatOfInt .f64 56320 = 4677973375442747392 := by decide +kernel
  unfold cSumBits
  rw [← e1, ← e2, FloatInt.sub_nearest x 55296 (by omega) (by decide) (by omega), FloatInt.sub_nearest y 56320 (by omega) (by decide) (by omega)]
  rfl
set_option maxHeartbeats 1000000 in
theorem joinPair_any (x y : Nat) (w : World) (h1 : 55296 ≤ x) (h2 : x ≤ 56319) (h3 : 56320 ≤ y) (h4 : y ≤ 57343) :
    Calls Tryz.prog 121 #[.complex .f64 (floatOfInt .f64 (x : Int)) (floatOfInt .f64 (y : Int))] w fun e w' => e = .returned (.int .i32 ((65536 + (x - 55296) * 1024 + (y - 56320) : Nat) : Int)) ∧ w' = w := by
  have e : ((65536 + (x - 55296) * 1024 + (y - 56320) : Nat) : Int) = 65536 + ((x : Int) - 55296) * 1024 + ((y : Int) - 56320) := by omega
  rw [e]
  clear e
  have hs := fun w => sub_const x y h1 (by omega) h3 (by omega) w
  have hre := fun w => real_int ((x : Int) - 55296) (by omega) (by omega) w
  have him := fun w => real_int ((y : Int) - 56320) (by omega) (by omega) w
  go_enter Tryz.func121, Tryz.ntmps121
  go_wp2
  go_ret
  exact ⟨ret_int (by omega), rfl⟩
/-- The first character of UTF-16 from a place on, and how many bytes it takes; 0, if none can be read. -/
def wideAt (s : ByteArray) (pos : Nat) (high : Bool) : Nat × Nat :=
  if s.size < pos + 2 then (0, 0)
  else if (decide (55296 ≤ unitN s pos high) && decide (unitN s pos high ≤ 57343)) = false then (unitN s pos high, 2)
  else if s.size < pos + 4 then (0, 0)
  else if pairB (unitN s pos high) (unitN s (pos + 2) high) = false then (0, 0)
  else (65536 + (unitN s pos high - 55296) * 1024 + (unitN s (pos + 2) high - 56320), 4)
theorem ret_wide {x : Nat × Nat} {a b : Nat} (h : x = (a, b)) : Ending.returned (.tuple #[.int .i32 (a : Int), .int .i64 (b : Int)]) = .returned (.tuple #[.int .i32 (x.1 : Int), .int .i64 (x.2 : Int)]) := by rw [h]
theorem get_list (s : ByteArray) (i : Nat) (h : i < s.size) : s.get! i = s.data.toList[i]'h := by
  show s.data[i]! = _
  rw [getElem!_pos s.data i h]; rfl
theorem get_tail (s : ByteArray) (p i : Nat) (hp : p ≤ s.size) : (s.extract p s.size).get! i = s.get! (p + i) := by
  have z : (s.extract p s.size).size = s.size - p := by rw [ByteArray.size_extract]; omega
  by_cases hi : i < s.size - p
  · rw [get_list _ i (by omega), get_list s (p + i) (by omega)]
    simp [ByteArray.data_extract]
  · have a : (s.extract p s.size).get! i = default := by
      show (s.extract p s.size).data[i]! = _
      exact getElem!_neg _ _ (by show ¬ i < (s.extract p s.size).size; omega)
    have b : s.get! (p + i) = default := by
      show s.data[p + i]! = _
      exact getElem!_neg _ _ (by show ¬ p + i < s.size; omega)
    rw [a, b]
theorem unitN_tail (s : ByteArray) (p k : Nat) (high : Bool) (hp : p ≤ s.size) : unitN (s.extract p s.size) k high = unitN s (p + k) high := by
  unfold unitN
  rw [get_tail s p k hp, get_tail s p (k + 1) hp, Nat.add_assoc]
theorem wideAt_tail (s : ByteArray) (p : Nat) (high : Bool) (hp : p ≤ s.size) : wideAt (s.extract p s.size) 0 high = wideAt s p high := by
  have z : (s.extract p s.size).size = s.size - p := by rw [ByteArray.size_extract]; omega
  unfold wideAt
  rw [z, unitN_tail s p 0 high hp, unitN_tail s p (0 + 2) high hp]
  simp only [Nat.add_zero, Nat.zero_add]
  have c1 : (s.size - p < 2) = (s.size < p + 2) := propext ⟨fun _ => by omega, fun _ => by omega⟩
  have c2 : (s.size - p < 4) = (s.size < p + 4) := propext ⟨fun _ => by omega, fun _ => by omega⟩
  simp only [c1, c2]
set_option maxHeartbeats 1000000 in
theorem firstWide_any (s : ByteArray) (high : Bool) (w : World) (hs : s.size ≤ 9223372036854775807) :
    Calls Tryz.prog 90 #[.string s, highV high] w fun e w' => e = .returned (.tuple #[.int .i32 ((wideAt s 0 high).1 : Int), .int .i64 ((wideAt s 0 high).2 : Int)]) ∧ Below w.heap.size w w' := by
  by_cases h2 : s.size < 2
  · have h2' : (s.size : Int) < 2 := by omega
    go_enter Tryz.func90, Tryz.ntmps90
    go_wp2
    go_ret2
    exact ⟨ret_wide (by unfold wideAt; rw [if_pos (by omega)]), Below.refl _ _⟩
  · have h2' : ¬ (s.size : Int) < 2 := by omega
    have hu := unitN_lt s 0 high
    have hu2 := unitN_lt s 2 high
    have HS := hide (surr_eq (unitN s 0 high) hu)
    have ht : unitN (s.extract 2 s.size) 0 high = unitN s 2 high := by rw [unitN_tail s 2 0 high (by omega)]
    have HT := hide ht
    have hz2 : (s.extract 2 s.size).size = s.size - 2 := by rw [ByteArray.size_extract]; omega
    have HZ := hide hz2
    clear ht hz2
    cases hsu : (decide (55296 ≤ unitN s 0 high) && decide (unitN s 0 high ≤ 57343))
    · have hwb : wB ((unitN s 0 high : Nat) : Int) 4677832637954392064 4678113975492149248 = false := by rw [unhide HS]; exact hsu
      have HSU := hide hsu
      clear hsu
      go_enter Tryz.func90, Tryz.ntmps90
      go_wp2_with fail
      refine (unitOf_any s high _ (by omega)).mono ?_
      rintro e w1 ⟨rfl, hb1⟩
      go_wp2_with (go_at_call 99; refine (within_any _ _ _ _).mono ?_; rintro e w' ⟨rfl, rfl⟩)
      go_ret2
      exact ⟨ret_wide (by unfold wideAt; rw [if_neg (by omega), if_pos (unhide HSU)]), hb1⟩
    · have hwb : wB ((unitN s 0 high : Nat) : Int) 4677832637954392064 4678113975492149248 = true := by rw [unhide HS]; exact hsu
      have HSU := hide (show ¬ (decide (55296 ≤ unitN s 0 high) && decide (unitN s 0 high ≤ 57343)) = false by rw [hsu]; decide)
      have hlo : 55296 ≤ unitN s 0 high := by simp at hsu; omega
      clear hsu
      by_cases h4 : s.size < 4
      · have h4' : (s.size : Int) < 4 := by omega
        go_enter Tryz.func90, Tryz.ntmps90
        go_wp2_with fail
        refine (unitOf_any s high _ (by omega)).mono ?_
        rintro e w1 ⟨rfl, hb1⟩
        go_wp2_with (go_at_call 99; refine (within_any _ _ _ _).mono ?_; rintro e w' ⟨rfl, rfl⟩)
        go_ret2
        exact ⟨ret_wide (by unfold wideAt; rw [if_neg (by omega), if_neg (unhide HSU), if_pos (by omega)]), hb1⟩
      · have h4' : ¬ (s.size : Int) < 4 := by omega
        have fin : ∀ (a b : Nat), (pairB (unitN s 0 high) (unitN s 2 high) = false → (a, b) = (0, 0)) → (¬ pairB (unitN s 0 high) (unitN s 2 high) = false → (a, b) = (65536 + (unitN s 0 high - 55296) * 1024 + (unitN s 2 high - 56320), 4)) → wideAt s 0 high = (a, b) := by
          intro a b p1 p2
          unfold wideAt
          rw [if_neg (by omega), if_neg (unhide HSU), if_neg (by omega)]
          by_cases h : pairB (unitN s 0 high) (unitN s (0 + 2) high) = false
          · rw [if_pos h]; exact (p1 h).symm
          · rw [if_neg h]; exact (p2 h).symm
        have FIN := hide fin
        clear fin
        cases hp : pairB (unitN s 0 high) (unitN s 2 high)
        · have HP := hide hp
          clear hp
          go_enter Tryz.func90, Tryz.ntmps90
          go_wp2_with fail
          refine (unitOf_any s high _ (by omega)).mono ?_
          rintro e w1 ⟨rfl, hb1⟩
          go_wp2_with (first
            | (go_at_call 99; refine (within_any _ _ _ _).mono ?_; rintro e w' ⟨rfl, rfl⟩)
            | (go_at_call 119; refine (unitOf_any (s.extract 2 s.size) high _ (by rw [unhide HZ]; omega)).mono ?_; rintro e w2 ⟨rfl, hb2⟩; rw [unhide HT])
            | (go_at_call 120; refine (isPair_any _ _ _ hu hu2).mono ?_; rintro e w3 ⟨rfl, rfl⟩; rw [unhide HP]))
          go_ret2
          exact ⟨ret_wide (unhide FIN 0 0 (fun _ => rfl) (fun h => absurd (unhide HP) h)), Below.then hb1 hb2⟩
        · have HP := hide hp
          have hb : unitN s 0 high ≤ 56319 ∧ 56320 ≤ unitN s 2 high ∧ unitN s 2 high ≤ 57343 := by
            simp [pairB] at hp; omega
          obtain ⟨hp1, hp2, hp3⟩ := hb
          clear hp
          go_enter Tryz.func90, Tryz.ntmps90
          go_wp2_with fail
          refine (unitOf_any s high _ (by omega)).mono ?_
          rintro e w1 ⟨rfl, hb1⟩
          go_wp2_with (first
            | (go_at_call 99; refine (within_any _ _ _ _).mono ?_; rintro e w' ⟨rfl, rfl⟩)
            | (go_at_call 119; refine (unitOf_any (s.extract 2 s.size) high _ (by rw [unhide HZ]; omega)).mono ?_; rintro e w2 ⟨rfl, hb2⟩; rw [unhide HT])
            | (go_at_call 120; refine (isPair_any _ _ _ hu hu2).mono ?_; rintro e w3 ⟨rfl, rfl⟩; rw [unhide HP])
            | (go_at_call 121; refine (joinPair_any _ _ _ hlo hp1 hp2 hp3).mono ?_; rintro e w3 ⟨rfl, rfl⟩))
          go_ret2
          exact ⟨ret_wide (unhide FIN _ 4 (fun h => by rw [unhide HP] at h; cases h) (fun _ => rfl)), Below.then hb1 hb2⟩
end Go.Proofs.YtiembljlhmgpjaaGreatDoor
/- UTF-16 is read, character by character: xchar's decodeWide. -/
namespace Go.Proofs.YtiembljlhmgpjaaGreatDoor
open Go.RowKit
/-- A character's bytes in UTF-8. -/
def runeB (r : Nat) : List UInt8 := (Lib.encodeRuneZ (r : Int)).map fun z => UInt8.ofNat z.toNat
theorem runeZ_range (r : Nat) : ∀ z ∈ Lib.encodeRuneZ (r : Int), 0 ≤ z ∧ z < 256 := by
  intro z hz
  unfold Lib.encodeRuneZ at hz
  repeat' split at hz
  all_goals (simp at hz; omega)
theorem runeCells_eq (r : Nat) : Lib.runeCells (r : Int) = byteCells (runeB r) := by
  unfold Lib.runeCells byteCells runeB
  rw [List.map_map]
  apply List.map_congr_left
  intro z hz
  have h := runeZ_range r z hz
  show Value.int .u8 z = Value.int .u8 ((UInt8.ofNat z.toNat).toNat : Int)
  rw [UInt8.toNat_ofNat']
  congr 1
  omega
theorem runeB_len (r : Nat) : (runeB r).length ≤ 4 := by
  unfold runeB Lib.encodeRuneZ
  repeat' split
  all_goals simp
def decFrom (s : ByteArray) (high : Bool) : Nat → Nat → List UInt8 → List UInt8 × Int × Int
  | 0, _, acc => (acc, 0, 0)
  | f + 1, pos, acc => if pos < s.size then
      (if (wideAt s pos high).2 = 0 then ([], 3, (pos : Int))
       else if charB (wideAt s pos high).1 = false then ([], 4, (pos : Int))
       else decFrom s high f (pos + (wideAt s pos high).2) (acc ++ runeB (wideAt s pos high).1))
    else (acc, 0, 0)
theorem decFrom_step (s : ByteArray) (high : Bool) (f pos : Nat) (acc : List UInt8) (hp : pos < s.size) (hb : s.size < pos + f) : ∃ g, f = g + 1 ∧ decFrom s high f pos acc =
    (if (wideAt s pos high).2 = 0 then ([], 3, (pos : Int))
       else if charB (wideAt s pos high).1 = false then ([], 4, (pos : Int))
       else decFrom s high g (pos + (wideAt s pos high).2) (acc ++ runeB (wideAt s pos high).1)) := by
  cases f with
  | zero => omega
  | succ g => exact ⟨g, rfl, by rw [decFrom, if_pos hp]⟩
theorem decFrom_end (s : ByteArray) (high : Bool) (f pos : Nat) (acc : List UInt8) (hp : ¬ pos < s.size) : decFrom s high f pos acc = (acc, 0, 0) := by
  cases f with
  | zero => rfl
  | succ g => rw [decFrom, if_neg hp]
def decW (s : ByteArray) (high : Bool) : List UInt8 × Int × Int := decFrom s high (s.size + 1) 2 []
def decV (x : List UInt8 × Int × Int) : Value := .tuple #[.string ⟨x.1.toArray⟩, .int .i64 x.2.1, .int .i64 x.2.2]
theorem ret_dec {x : List UInt8 × Int × Int} {t : List UInt8} {a b : Int} (h : x = (t, a, b)) : Ending.returned (.tuple #[.string ⟨t.toArray⟩, .int .i64 a, .int .i64 b]) = .returned (decV x) := by rw [h]; rfl
theorem wideAt_le (s : ByteArray) (pos : Nat) (high : Bool) : (wideAt s pos high).1 ≤ 20000000 ∧ ((wideAt s pos high).2 = 0 ∨ (2 ≤ (wideAt s pos high).2 ∧ pos + (wideAt s pos high).2 ≤ s.size)) := by
  have h1 := unitN_lt s pos high
  have h2 := unitN_lt s (pos + 2) high
  unfold wideAt
  split
  · simp
  · split
    · simp only; omega
    · split
      · simp
      · split
        · simp
        · simp only; omega
set_option maxHeartbeats 1000000 in
theorem decodeWide_any (s : ByteArray) (high : Bool) (w : World) (hs : s.size ≤ 1048580) :
    Calls Tryz.prog 52 #[.string s, highV high] w fun e w' => e = .returned (decV (decW s high)) ∧ Below w.heap.size w w' := by
  obtain ⟨hv, hhv⟩ : ∃ v, highV high = v := ⟨_, rfl⟩
  rw [hhv]
  have HV := hide hhv
  clear hhv
  go_enter Tryz.func52, Tryz.ntmps52
  go_wp2_with fail
  go_loopw [7, 8] (fun v i wr => ∃ (pos f : Nat) (l : List UInt8), i = .int .i64 pos ∧ wr.ownsRow w.heap.size 5 1 v l.length (byteCells l) ∧ Below w.heap.size w wr ∧ decW s high = decFrom s high f pos l ∧ s.size < pos + f ∧ l.length ≤ 4 * pos) (fun _ i _ => s.size + 2 - (intOf i).toNat)
  case atStart => exact ⟨2, s.size + 1, [], rfl, World.ownsRow_nil _ _ _ _, Below.refl _ _, rfl, by omega, by simp⟩
  case round =>
    obtain ⟨pos, f, l, rfl, hown, hbr, he, hfu, hll⟩ := hrel
    by_cases hp : pos < s.size
    · obtain ⟨hr1, hr2⟩ := wideAt_le s pos high
      obtain ⟨g, rfl, hg⟩ := decFrom_step s high f pos l hp hfu
      have HF := hide (he.trans hg)
      clear he hg
      have hsz1 : (s.extract pos s.size).size ≤ 9223372036854775807 := by rw [ByteArray.size_extract]; omega
      have hfw := fun w => firstWide_any (s.extract pos s.size) high w hsz1
      rw [wideAt_tail s pos high (by omega), unhide HV] at hfw
      have HFW := hide hfw
      clear hfw
      go_wp2_with fail
      refine (unhide HFW _).mono ?_
      rintro e w1 ⟨rfl, hb1⟩
      have hown1 := owns_below hown hb1
      have hbb := Below.then hbr hb1
      have hsz := hbb.size
      have hge := owns_ge hown1
      have HG := hide hge
      clear hown hge
      generalize hd : wideAt s pos high = d at *
      clear hd HFW
      by_cases hz : d.2 = 0
      · have hz' : ((d.2 : Int) == 0) = true := by simp; omega
        go_wp2
        go_ret3
        exact ⟨ret_dec (by rw [unhide HF, if_pos hz]), hbb⟩
      · have hz' : ((d.2 : Int) == 0) = false := by simp; omega
        have hd2 : 2 ≤ d.2 ∧ pos + d.2 ≤ s.size := by omega
        cases hc : charB (d.1 : Nat)
        · have HC := hide hc
          clear hc
          go_wp2_with (go_at_call 91; refine (isChar_any _ _).mono ?_; rintro e w' ⟨rfl, rfl⟩; rw [unhide HC])
          go_ret3
          exact ⟨ret_dec (by rw [unhide HF, if_neg hz, if_pos (unhide HC)]), hbb⟩
        · have HC := hide hc
          clear hc
          go_wp2_with fail
          refine (isChar_any _ _).mono ?_
          rintro e w2 ⟨rfl, rfl⟩
          rw [unhide HC]
          go_wp2_with fail
          refine (Tryz.utf8_AppendRune_plain w.heap.size _ l.length (byteCells l) (d.1 : Nat) (by omega) (by omega) _ hown1 (by omega) hsz).mono ?_
          rintro e w3 ⟨v3, rfl, hown3, o3, hgrow3⟩
          have hown4 : w3.ownsRow w.heap.size 5 1 v3 (l ++ runeB d.1).length (byteCells (l ++ runeB d.1)) := by
            rw [runeCells_eq] at hown3
            rw [byteCells_append, List.length_append, show (runeB d.1).length = (byteCells (runeB d.1)).length by simp [byteCells]]
            exact hown3
          have hb3 := Below.grown (hbb.alloc hsz o3) hgrow3 (by simp; omega) (unhide HG)
          have hrb := runeB_len d.1
          clear hown3
          go_wp2
          refine ⟨⟨pos + d.2, g, l ++ runeB d.1, by go_num, hown4, hb3, ?_, by omega, ?_⟩, by simp [intOf]; omega⟩
          · rw [unhide HF, if_neg hz, if_neg (by rw [unhide HC]; decide)]
          · rw [List.length_append]; omega
    · have HF := hide (he.trans (decFrom_end s high f pos l hp))
      have hcv := conv_owned hown
      clear he hown
      go_wp2
      go_ret3
      exact ⟨ret_dec (unhide HF), hbr⟩
/-- .. with the line ends made one. -/
def decEnd (x : List UInt8 × Int × Int) : Value :=
  if x.2.1 = 0 then .tuple #[.string ⟨(endsL x.1).toArray⟩, .int .i64 0, .int .i64 0] else .tuple #[.string ⟨#[]⟩, .int .i64 x.2.1, .int .i64 x.2.2]
/-- What Decode tells of bytes, whatever they are. -/
def decodeAll (s : ByteArray) : Value :=
  if 32768 < s.size then .tuple #[.string ⟨#[]⟩, .int .i64 6, .int .i64 0]
  else if Lib.hasPrefix s.data.toList [254, 255] then decEnd (decW s false)
  else if Lib.hasPrefix s.data.toList [255, 254] then decEnd (decW s true)
  else decodedV (narrowL s.data.toList) s.size
set_option maxHeartbeats 1000000 in
theorem decodeAny_wide (s : ByteArray) (high : Bool) (w : World) (hs : s.size ≤ 1048580) (h : Lib.hasPrefix s.data.toList (if high then [255, 254] else [254, 255]) = true) :
    Calls Tryz.prog 23 #[.string s] w fun e w' => e = .returned (decV (decW s high)) ∧ Below w.heap.size w w' := by
  cases high
  · have H := hide h
    clear h
    have hd := fun w => decodeWide_any s false w hs
    have HD := hide hd
    clear hd
    go_enter Tryz.func23, Tryz.ntmps23
    go_wp2_with fail
    refine (Tryz.strings_HasPrefix s ⟨#[254, 255]⟩ _).mono ?_
    rintro e w' ⟨rfl, rfl⟩
    rw [show Lib.hasPrefix s.data.toList (#[254, 255] : Array UInt8).toList = true from unhide H]
    go_wp2_with fail
    refine (unhide HD _).mono ?_
    rintro e w1 ⟨rfl, hb⟩
    unfold decV
    go_wp2
    go_ret3
    exact ⟨rfl, hb⟩
  · have H := hide h
    have h0 : Lib.hasPrefix s.data.toList [254, 255] = false := by
      cases hc : Lib.hasPrefix s.data.toList [254, 255]
      · rfl
      · simp only [if_true] at h
        unfold Lib.hasPrefix at h hc
        cases hl : s.data.toList with
        | nil => rw [hl] at h; simp at h
        | cons a t =>
          rw [hl] at h hc
          simp [List.isPrefixOf] at h hc
          have e := h.1
          rw [← hc.1] at e
          exact absurd e (by decide)
    have H0 := hide h0
    clear h h0
    have hd := fun w => decodeWide_any s true w hs
    have HD := hide hd
    clear hd
    go_enter Tryz.func23, Tryz.ntmps23
    go_wp2_with fail
    refine (Tryz.strings_HasPrefix s ⟨#[254, 255]⟩ _).mono ?_
    rintro e w' ⟨rfl, rfl⟩
    rw [show Lib.hasPrefix s.data.toList (#[254, 255] : Array UInt8).toList = false from unhide H0]
    go_wp2_with fail
    refine (Tryz.strings_HasPrefix s ⟨#[255, 254]⟩ _).mono ?_
    rintro e w' ⟨rfl, rfl⟩
    rw [show Lib.hasPrefix s.data.toList (#[255, 254] : Array UInt8).toList = true from unhide H]
    go_wp2_with fail
    refine (unhide HD _).mono ?_
    rintro e w1 ⟨rfl, hb⟩
    unfold decV
    go_wp2
    go_ret3
    exact ⟨rfl, hb⟩
end Go.Proofs.YtiembljlhmgpjaaGreatDoor
/- What is encoded is decoded, and what is decoded is encoded: plain lemmas. -/
namespace Go.Proofs.YtiembljlhmgpjaaGreatDoor
open Go.RowKit
def okR (r : Nat) : Prop := r < 55296 ∨ (57344 ≤ r ∧ r ≤ 1114111)
theorem runeB_one {r : Nat} (h : r < 128) : runeB r = [UInt8.ofNat r] := by
  unfold runeB; rw [Lib.encodeRuneZ_one (by omega) (by omega)]; rfl
theorem runeB_two {r : Nat} (h : 128 ≤ r) (h' : r < 2048) : runeB r = [UInt8.ofNat (192 + r / 64), UInt8.ofNat (128 + r % 64)] := by
  unfold runeB; rw [Lib.encodeRuneZ_two (by omega) (by omega)]
  simp only [List.map_cons, List.map_nil]
  rw [show (192 + (r : Int) / 64).toNat = 192 + r / 64 by omega, show (128 + (r : Int) % 64).toNat = 128 + r % 64 by omega]
theorem runeB_three {r : Nat} (h : 2048 ≤ r) (h' : r < 65536) (ho : okR r) : runeB r = [UInt8.ofNat (224 + r / 4096), UInt8.ofNat (128 + r / 64 % 64), UInt8.ofNat (128 + r % 64)] := by
  unfold okR at ho
  unfold runeB; rw [Lib.encodeRuneZ_three (by omega)]
  simp only [List.map_cons, List.map_nil]
  rw [show (224 + (r : Int) / 4096).toNat = 224 + r / 4096 by omega, show (128 + (r : Int) / 64 % 64).toNat = 128 + r / 64 % 64 by omega, show (128 + (r : Int) % 64).toNat = 128 + r % 64 by omega]
theorem runeB_four {r : Nat} (h : 65536 ≤ r) (h' : r ≤ 1114111) : runeB r = [UInt8.ofNat (240 + r / 262144), UInt8.ofNat (128 + r / 4096 % 64), UInt8.ofNat (128 + r / 64 % 64), UInt8.ofNat (128 + r % 64)] := by
  unfold runeB; rw [Lib.encodeRuneZ_four (by omega) (by omega)]
  simp only [List.map_cons, List.map_nil]
  rw [show (240 + (r : Int) / 262144).toNat = 240 + r / 262144 by omega, show (128 + (r : Int) / 4096 % 64).toNat = 128 + r / 4096 % 64 by omega, show (128 + (r : Int) / 64 % 64).toNat = 128 + r / 64 % 64 by omega, show (128 + (r : Int) % 64).toNat = 128 + r % 64 by omega]
theorem u8_nat {n : Nat} (h : n < 256) : (UInt8.ofNat n).toNat = n := by rw [UInt8.toNat_ofNat']; omega
set_option maxHeartbeats 2000000 in
/-- What is encoded is decoded. -/
theorem dec_rune (r : Nat) (ho : okR r) (t : List UInt8) : Lib.decodeL (runeB r ++ t) = (r, (runeB r).length) := by
  rw [Lib.decodeL_N]
  have ho' := ho
  unfold okR at ho'
  by_cases h1 : r < 128
  · rw [runeB_one h1]
    simp only [List.cons_append, List.nil_append, List.getD_cons_zero, u8_nat (show r < 256 by omega), Lib.decodeN, if_pos h1, List.length_cons, List.length_nil]
  · by_cases h2 : r < 2048
    · rw [runeB_two (by omega) h2]
      simp only [List.cons_append, List.nil_append, List.getD_cons_zero, List.getD_cons_succ, List.length_cons, List.length_nil, u8_nat (show 192 + r / 64 < 256 by omega), u8_nat (show 128 + r % 64 < 256 by omega), Lib.decodeN]
      rw [if_neg (by omega), if_pos ⟨by omega, by omega, by omega⟩, if_pos (by omega)]
      apply Prod.ext <;> simp only <;> omega
    · by_cases h3 : r < 65536
      · rw [runeB_three (by omega) h3 ho]
        simp only [List.cons_append, List.nil_append, List.getD_cons_zero, List.getD_cons_succ, List.length_cons, List.length_nil, u8_nat (show 224 + r / 4096 < 256 by omega), u8_nat (show 128 + r / 64 % 64 < 256 by omega), u8_nat (show 128 + r % 64 < 256 by omega), Lib.decodeN]
        rw [if_neg (by omega), if_neg (by omega), if_pos ⟨by omega, ⟨by omega, by omega⟩, by omega, by omega⟩, if_pos (by omega)]
        apply Prod.ext <;> simp only <;> omega
      · rw [runeB_four (by omega) (by omega)]
        simp only [List.cons_append, List.nil_append, List.getD_cons_zero, List.getD_cons_succ, List.length_cons, List.length_nil, u8_nat (show 240 + r / 262144 < 256 by omega), u8_nat (show 128 + r / 4096 % 64 < 256 by omega), u8_nat (show 128 + r / 64 % 64 < 256 by omega), u8_nat (show 128 + r % 64 < 256 by omega), Lib.decodeN]
        rw [if_neg (by omega), if_neg (by omega), if_neg (by omega), if_pos ⟨by omega, ⟨by omega, by omega⟩, ⟨by omega, by omega⟩, by omega, by omega⟩, if_pos (by omega)]
        apply Prod.ext <;> simp only <;> omega
theorem u8_back {c : UInt8} {n : Nat} (h : c.toNat = n) : c = UInt8.ofNat n := by
  rw [← h]; simp
set_option maxHeartbeats 4000000 in
/-- What is decoded, and is no fault, is encoded as it was. -/
theorem rune_dec (l : List UInt8) (hl : l ≠ []) (hb : ¬ ((Lib.decodeL l).1 = 65533 ∧ (Lib.decodeL l).2 = 1)) : okR (Lib.decodeL l).1 ∧ l = runeB (Lib.decodeL l).1 ++ l.drop (Lib.decodeL l).2 := by
  rw [Lib.decodeL_N] at *
  match l, hl with
  | b0 :: t, _ =>
  have c0 := b0.toNat_lt
  simp only [List.getD_cons_zero] at *
  by_cases h0 : b0.toNat < 128
  · have e : Lib.decodeN (b0 :: t).length b0.toNat ((b0 :: t).getD 1 0).toNat ((b0 :: t).getD 2 0).toNat ((b0 :: t).getD 3 0).toNat = (b0.toNat, 1) := by rw [Lib.decodeN, if_pos h0]
    rw [e]
    refine ⟨.inl (by simp only; omega), ?_⟩
    simp only
    rw [runeB_one h0]
    simp
  · match t with
    | [] =>
      exfalso; apply hb
      simp only [List.length_cons, List.length_nil, Lib.decodeN]
      rw [if_neg h0, if_neg (by omega), if_neg (by omega), if_neg (by omega)]
      exact ⟨rfl, rfl⟩
    | b1 :: t =>
    have c1 := b1.toNat_lt
    simp only [List.getD_cons_zero, List.getD_cons_succ, List.length_cons] at *
    by_cases h1 : b0.toNat / 32 = 6 ∧ (1 < t.length + 1 + 1 ∧ b1.toNat / 64 = 2)
    · rw [Lib.decodeN, if_neg h0, if_pos h1] at *
      by_cases hv : b0.toNat % 32 * 64 + b1.toNat % 64 ≥ 128
      · rw [if_pos hv] at *
        refine ⟨.inl (by simp only; omega), ?_⟩
        simp only
        rw [runeB_two (by omega) (by omega), ← u8_back (show b0.toNat = _ by omega), ← u8_back (show b1.toNat = _ by omega)]
        rfl
      · rw [if_neg hv] at hb; exact absurd ⟨rfl, rfl⟩ hb
    · match t with
      | [] =>
        exfalso; apply hb
        simp only [List.length_nil, Lib.decodeN]
        rw [if_neg h0, if_neg (by simpa using h1), if_neg (by omega), if_neg (by omega)]
        exact ⟨rfl, rfl⟩
      | b2 :: t =>
      have c2 := b2.toNat_lt
      simp only [List.getD_cons_zero, List.getD_cons_succ, List.length_cons] at *
      by_cases h2 : b0.toNat / 16 = 14 ∧ (1 < t.length + 1 + 1 + 1 ∧ b1.toNat / 64 = 2) ∧ (2 < t.length + 1 + 1 + 1 ∧ b2.toNat / 64 = 2)
      · rw [Lib.decodeN, if_neg h0, if_neg h1, if_pos h2] at *
        split at hb
        · rename_i hv
          rw [if_pos hv]
          have ho : okR (b0.toNat % 16 * 4096 + b1.toNat % 64 * 64 + b2.toNat % 64) := by unfold okR; omega
          refine ⟨ho, ?_⟩
          simp only
          rw [runeB_three (by omega) (by omega) ho, ← u8_back (show b0.toNat = _ by omega), ← u8_back (show b1.toNat = _ by omega), ← u8_back (show b2.toNat = _ by omega)]
          rfl
        · exact absurd ⟨rfl, rfl⟩ hb
      · match t with
        | [] =>
          exfalso; apply hb
          simp only [List.length_nil, Lib.decodeN]
          rw [if_neg h0, if_neg (by simpa using h1), if_neg (by simpa using h2), if_neg (by omega)]
          exact ⟨rfl, rfl⟩
        | b3 :: t =>
        have c3 := b3.toNat_lt
        simp only [List.getD_cons_zero, List.length_cons] at *
        by_cases h3 : b0.toNat / 8 = 30 ∧ (1 < t.length + 1 + 1 + 1 + 1 ∧ b1.toNat / 64 = 2) ∧ (2 < t.length + 1 + 1 + 1 + 1 ∧ b2.toNat / 64 = 2) ∧ (3 < t.length + 1 + 1 + 1 + 1 ∧ b3.toNat / 64 = 2)
        · rw [Lib.decodeN, if_neg h0, if_neg h1, if_neg h2, if_pos h3] at *
          split at hb
          · rename_i hv
            rw [if_pos hv]
            have ho : okR (b0.toNat % 8 * 262144 + b1.toNat % 64 * 4096 + b2.toNat % 64 * 64 + b3.toNat % 64) := by unfold okR; omega
            refine ⟨ho, ?_⟩
            simp only
            rw [runeB_four (by omega) (by omega), ← u8_back (show b0.toNat = _ by omega), ← u8_back (show b1.toNat = _ by omega), ← u8_back (show b2.toNat = _ by omega), ← u8_back (show b3.toNat = _ by omega)]
            rfl
          · exact absurd ⟨rfl, rfl⟩ hb
        · exfalso; apply hb
          rw [Lib.decodeN, if_neg h0, if_neg h1, if_neg h2, if_neg h3]
          exact ⟨rfl, rfl⟩
theorem charR_ok {r : Nat} (h : charR (r : Int) = true) : okR r := by
  unfold charR at h
  unfold okR
  simp at h
  omega
theorem runeB_first {r : Nat} (ho : okR r) : ∃ c t, runeB r = c :: t ∧ c.toNat < 248 ∧ (c.toNat = 13 → r = 13) := by
  have ho' := ho
  unfold okR at ho'
  by_cases h1 : r < 128
  · exact ⟨_, _, runeB_one h1, by rw [u8_nat (by omega)]; omega, by rw [u8_nat (by omega)]; exact id⟩
  · by_cases h2 : r < 2048
    · exact ⟨_, _, runeB_two (by omega) h2, by rw [u8_nat (by omega)]; omega, by rw [u8_nat (by omega)]; omega⟩
    · by_cases h3 : r < 65536
      · exact ⟨_, _, runeB_three (by omega) h3 ho, by rw [u8_nat (by omega)]; omega, by rw [u8_nat (by omega)]; omega⟩
      · exact ⟨_, _, runeB_four (by omega) (by omega), by rw [u8_nat (by omega)]; omega, by rw [u8_nat (by omega)]; omega⟩
theorem runeB_no {r : Nat} (ho : okR r) (h : r ≠ 13) : ∀ c ∈ runeB r, c ≠ 13 := by
  have key : ∀ n : Nat, n < 256 → n ≠ 13 → UInt8.ofNat n ≠ 13 := by
    intro n hn h e
    have := congrArg UInt8.toNat e
    rw [u8_nat hn] at this
    exact h this
  have ho' := ho
  unfold okR at ho'
  by_cases h1 : r < 128
  · rw [runeB_one h1]; intro c hc; simp only [List.mem_cons, List.not_mem_nil, or_false] at hc; subst hc; exact key _ (by omega) h
  · by_cases h2 : r < 2048
    · rw [runeB_two (by omega) h2]; intro c hc; simp only [List.mem_cons, List.not_mem_nil, or_false] at hc
      rcases hc with rfl | rfl
      · exact key _ (by omega) (by omega)
      · exact key _ (by omega) (by omega)
    · by_cases h3 : r < 65536
      · rw [runeB_three (by omega) h3 ho]; intro c hc; simp only [List.mem_cons, List.not_mem_nil, or_false] at hc
        rcases hc with rfl | rfl | rfl
        · exact key _ (by omega) (by omega)
        · exact key _ (by omega) (by omega)
        · exact key _ (by omega) (by omega)
      · rw [runeB_four (by omega) (by omega)]; intro c hc; simp only [List.mem_cons, List.not_mem_nil, or_false] at hc
        rcases hc with rfl | rfl | rfl | rfl
        · exact key _ (by omega) (by omega)
        · exact key _ (by omega) (by omega)
        · exact key _ (by omega) (by omega)
        · exact key _ (by omega) (by omega)
/-- A text: characters that may be, one behind the other. -/
def Txt (l : List UInt8) : Prop := ∃ rs : List Nat, (∀ r ∈ rs, charR (r : Int) = true) ∧ l = rs.flatMap runeB
end Go.Proofs.YtiembljlhmgpjaaGreatDoor
