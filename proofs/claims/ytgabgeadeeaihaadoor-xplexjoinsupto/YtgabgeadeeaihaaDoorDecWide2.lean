/- UTF-16 is read, character by character: xchar's decodeWide. -/
import Derived.Test.YtgabgeadeeaihaaDoorDecWide
import Derived.Lib.RuneBytes
namespace Go.Proofs.YtgabgeadeeaihaaDoor
open Go.RowKit
/-- A character's bytes in UTF-8. -/
def runeB (r : Nat) : List UInt8 := (Lib.encodeRuneZ (r : Int)).map fun z => UInt8.ofNat z.toNat
theorem runeZ_range (r : Nat) : ∀ z ∈ Lib.encodeRuneZ (r : Int), 0 ≤ z ∧ z < 256 := by
  intro z hz
  unfold Lib.encodeRuneZ at hz
  repeat' split at hz
  all_goals (simp at hz; omega)
theorem runeCells_eq (r : Nat) : Lib.runeCells (r : Int) = byteCells (runeB r) := by
  unfold Lib.runeCells byteCells runeB
  rw [List.map_map]
  apply List.map_congr_left
  intro z hz
  have h := runeZ_range r z hz
  show Value.int .u8 z = Value.int .u8 ((UInt8.ofNat z.toNat).toNat : Int)
  rw [UInt8.toNat_ofNat']
  congr 1
  omega
theorem runeB_len (r : Nat) : (runeB r).length ≤ 4 := by
  unfold runeB Lib.encodeRuneZ
  repeat' split
  all_goals simp
def decFrom (s : ByteArray) (high : Bool) : Nat → Nat → List UInt8 → List UInt8 × Int × Int
  | 0, _, acc => (acc, 0, 0)
  | f + 1, pos, acc => if pos < s.size then
      (if (wideAt s pos high).2 = 0 then ([], 3, (pos : Int))
       else if charB (wideAt s pos high).1 = false then ([], 4, (pos : Int))
       else decFrom s high f (pos + (wideAt s pos high).2) (acc ++ runeB (wideAt s pos high).1))
    else (acc, 0, 0)
theorem decFrom_step (s : ByteArray) (high : Bool) (f pos : Nat) (acc : List UInt8) (hp : pos < s.size) (hb : s.size < pos + f) : ∃ g, f = g + 1 ∧ decFrom s high f pos acc =
    (if (wideAt s pos high).2 = 0 then ([], 3, (pos : Int))
       else if charB (wideAt s pos high).1 = false then ([], 4, (pos : Int))
       else decFrom s high g (pos + (wideAt s pos high).2) (acc ++ runeB (wideAt s pos high).1)) := by
  cases f with
  | zero => omega
  | succ g => exact ⟨g, rfl, by rw [decFrom, if_pos hp]⟩
theorem decFrom_end (s : ByteArray) (high : Bool) (f pos : Nat) (acc : List UInt8) (hp : ¬ pos < s.size) : decFrom s high f pos acc = (acc, 0, 0) := by
  cases f with
  | zero => rfl
  | succ g => rw [decFrom, if_neg hp]
def decW (s : ByteArray) (high : Bool) : List UInt8 × Int × Int := decFrom s high (s.size + 1) 2 []
def decV (x : List UInt8 × Int × Int) : Value := .tuple #[.string ⟨x.1.toArray⟩, .int .i64 x.2.1, .int .i64 x.2.2]
theorem ret_dec {x : List UInt8 × Int × Int} {t : List UInt8} {a b : Int} (h : x = (t, a, b)) : Ending.returned (.tuple #[.string ⟨t.toArray⟩, .int .i64 a, .int .i64 b]) = .returned (decV x) := by rw [h]; rfl
theorem wideAt_le (s : ByteArray) (pos : Nat) (high : Bool) : (wideAt s pos high).1 ≤ 20000000 ∧ ((wideAt s pos high).2 = 0 ∨ (2 ≤ (wideAt s pos high).2 ∧ pos + (wideAt s pos high).2 ≤ s.size)) := by
  have h1 := unitN_lt s pos high
  have h2 := unitN_lt s (pos + 2) high
  unfold wideAt
  split
  · simp
  · split
    · simp only; omega
    · split
      · simp
      · split
        · simp
        · simp only; omega
/-- .. with the line ends made one. -/
def decEnd (x : List UInt8 × Int × Int) : Value :=
  if x.2.1 = 0 then .tuple #[.string ⟨(endsL x.1).toArray⟩, .int .i64 0, .int .i64 0] else .tuple #[.string ⟨#[]⟩, .int .i64 x.2.1, .int .i64 x.2.2]
/-- What Decode tells of bytes, whatever they are. -/
def decodeAll (s : ByteArray) : Value :=
  if 32768 < s.size then .tuple #[.string ⟨#[]⟩, .int .i64 6, .int .i64 0]
  else if Lib.hasPrefix s.data.toList [254, 255] then decEnd (decW s false)
  else if Lib.hasPrefix s.data.toList [255, 254] then decEnd (decW s true)
  else decodedV (narrowL s.data.toList) s.size
end Go.Proofs.YtgabgeadeeaihaaDoor
