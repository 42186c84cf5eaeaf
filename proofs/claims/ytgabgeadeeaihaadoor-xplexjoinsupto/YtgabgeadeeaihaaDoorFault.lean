/- The first error of what should be UTF-8 of characters that may be: xchar's firstFault. -/
import Derived.Test.YtgabgeadeeaihaaDoorCharPlain
import Derived.Test.YtgabgeadeeaihaaDoorShelf
namespace Go.Proofs.YtgabgeadeeaihaaDoor
open Go.RowKit
theorem width_pos (s : ByteArray) (pos : Nat) (h : pos < s.size) : 1 ≤ (Utf8.decode s pos).2 := by
  by_cases ha : (s[pos]'h).toNat < 128
  · rw [decode_ascii s pos h ha]
    exact Nat.le_refl _
  · exact (decode_high s pos h (by omega)).2
/-- The bytes from a place on are those of the replacement character. -/
def markAt (s : ByteArray) (pos : Nat) : Bool := Lib.hasPrefix (s.data.toList.drop pos) [239, 191, 189]
/-- The first fault from a place on: its error's number and its place. -/
def faultFrom (s : ByteArray) : Nat → Nat → Int × Int
  | 0, _ => (0, 0)
  | f + 1, pos => if pos < s.size then
      (if ((Utf8.decode s pos).1 : Int) == 65533 && !markAt s pos then (3, (pos : Int))
       else if charB (Utf8.decode s pos).1 then faultFrom s f (pos + (Utf8.decode s pos).2) else (4, (pos : Int)))
    else (0, 0)
def fault (s : ByteArray) : Int × Int := faultFrom s (s.size + 1) 0
theorem faultFrom_step (s : ByteArray) (f pos : Nat) (hp : pos < s.size) (hb : s.size < pos + f) : ∃ g, f = g + 1 ∧ faultFrom s f pos =
    (if ((Utf8.decode s pos).1 : Int) == 65533 && !markAt s pos then (3, (pos : Int))
       else if charB (Utf8.decode s pos).1 then faultFrom s g (pos + (Utf8.decode s pos).2) else (4, (pos : Int))) := by
  cases f with
  | zero => omega
  | succ g => exact ⟨g, rfl, by rw [faultFrom, if_pos hp]⟩
theorem faultFrom_end (s : ByteArray) (f pos : Nat) (hp : ¬ pos < s.size) : faultFrom s f pos = (0, 0) := by
  cases f with
  | zero => rfl
  | succ g => rw [faultFrom, if_neg hp]
theorem hasMark_any (s : ByteArray) (pos : Nat) (w : World) :
    Calls Tryd.prog 36 #[.string (s.extract pos s.size), .string ⟨#[239, 191, 189]⟩] w fun e w' => e = .returned (.bool (markAt s pos)) ∧ w' = w := by
  refine (Tryd.strings_HasPrefix (s.extract pos s.size) ⟨#[239, 191, 189]⟩ w).mono ?_
  rintro e w' ⟨rfl, rfl⟩
  refine ⟨ret_bool ?_, rfl⟩
  unfold markAt
  congr 1
  rw [ByteArray.data_extract]
  simp [List.take_of_length_le]
theorem ret_fault {x : Int × Int} {a b : Int} (h : x = (a, b)) : Ending.returned (.tuple #[.int .i64 a, .int .i64 b]) = .returned (.tuple #[.int .i64 x.1, .int .i64 x.2]) := by rw [h]
end Go.Proofs.YtgabgeadeeaihaaDoor
