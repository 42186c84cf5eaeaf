/- Several texts, laid as one. -/
import Derived.Test.YtllhajjceecjdaaDoorGac
import Derived.Test.YtllhajjceecjdaaDoorShelf
import Derived.Lib.Replace
import Derived.Lib.IndexLaws
/- The first error of what should be UTF-8 of characters that may be: xchar's firstFault. -/
namespace Go.Proofs.YtllhajjceecjdaaDoor
open Go.RowKit
theorem width_pos (s : ByteArray) (pos : Nat) (h : pos < s.size) : 1 ≤ (Utf8.decode s pos).2 := by
  by_cases ha : (s[pos]'h).toNat < 128
  · rw [decode_ascii s pos h ha]
    exact Nat.le_refl _
  · exact (decode_high s pos h (by omega)).2
/-- The bytes from a place on are those of the replacement character. -/
def markAt (s : ByteArray) (pos : Nat) : Bool := Lib.hasPrefix (s.data.toList.drop pos) [239, 191, 189]
/-- The first fault from a place on: its error's number and its place. -/
def faultFrom (s : ByteArray) : Nat → Nat → Int × Int
  | 0, _ => (0, 0)
  | f + 1, pos => if pos < s.size then
      (if ((Utf8.decode s pos).1 : Int) == 65533 && !markAt s pos then (3, (pos : Int))
       else if charB (Utf8.decode s pos).1 then faultFrom s f (pos + (Utf8.decode s pos).2) else (4, (pos : Int)))
    else (0, 0)
def fault (s : ByteArray) : Int × Int := faultFrom s (s.size + 1) 0
theorem faultFrom_step (s : ByteArray) (f pos : Nat) (hp : pos < s.size) (hb : s.size < pos + f) : ∃ g, f = g + 1 ∧ faultFrom s f pos =
    (if ((Utf8.decode s pos).1 : Int) == 65533 && !markAt s pos then (3, (pos : Int))
       else if charB (Utf8.decode s pos).1 then faultFrom s g (pos + (Utf8.decode s pos).2) else (4, (pos : Int))) := by
  cases f with
  | zero => omega
  | succ g => exact ⟨g, rfl, by rw [faultFrom, if_pos hp]⟩
theorem faultFrom_end (s : ByteArray) (f pos : Nat) (hp : ¬ pos < s.size) : faultFrom s f pos = (0, 0) := by
  cases f with
  | zero => rfl
  | succ g => rw [faultFrom, if_neg hp]
theorem hasMark_any (s : ByteArray) (pos : Nat) (w : World) :
    Calls Tryd.prog 31 #[.string (s.extract pos s.size), .string ⟨#[239, 191, 189]⟩] w fun e w' => e = .returned (.bool (markAt s pos)) ∧ w' = w := by
  refine (Tryd.strings_HasPrefix (s.extract pos s.size) ⟨#[239, 191, 189]⟩ w).mono ?_
  rintro e w' ⟨rfl, rfl⟩
  refine ⟨ret_bool ?_, rfl⟩
  unfold markAt
  congr 1
  rw [ByteArray.data_extract]
  simp [List.take_of_length_le]
theorem ret_fault {x : Int × Int} {a b : Int} (h : x = (a, b)) : Ending.returned (.tuple #[.int .i64 a, .int .i64 b]) = .returned (.tuple #[.int .i64 x.1, .int .i64 x.2]) := by rw [h]
set_option maxHeartbeats 1000000 in
theorem firstFault_any (s : ByteArray) (w : World) :
    Calls Tryd.prog 21 #[.string s] w fun e w' => e = .returned (.tuple #[.int .i64 (fault s).1, .int .i64 (fault s).2]) ∧ Below w.heap.size w w' := by
  go_enter Tryd.func21, Tryd.ntmps21
  go_wp2_with fail
  go_loopw [] (fun w' => ∃ (pos f : Nat), w' = w.iter s pos ∧ fault s = faultFrom s f pos ∧ s.size < pos + f) (fun w' => s.size - w'.iterPos w.heap.size)
  case atStart => exact ⟨0, s.size + 1, rfl, rfl, by omega⟩
  case round =>
    obtain ⟨pos, f, rfl, hf, hb⟩ := hrel
    by_cases hp : pos < s.size
    · have hnx : ∀ ty, (Instr.next (.pointer (some ⟨w.heap.size, 0, none⟩)) true ty).run Tryd.prog (w.iter s pos) = _ := fun ty => run_next_any w s pos ty hp
      have hwd := width_pos s pos hp
      obtain ⟨g, rfl, hg⟩ := faultFrom_step s f pos hp hb
      have HF := hide (hf.trans hg)
      clear hf hg
      go_wp2_with (first | (go_at_call 31; refine (hasMark_any s pos _).mono ?_; rintro e w' ⟨rfl, rfl⟩) | (go_at_call 32; refine (isChar_any _ _).mono ?_; rintro e w' ⟨rfl, rfl⟩))
      all_goals first
        | (go_ret2
           refine ⟨ret_fault ?_, (Below.refl _ _).alloc (Nat.le_refl _) _⟩
           rw [unhide HF]
           simp_all)
        | (refine ⟨⟨_, g, rfl, ?_, by omega⟩, by simp; omega⟩
           rw [unhide HF]
           simp_all)
    · have hnx : ∀ ty, (Instr.next (.pointer (some ⟨w.heap.size, 0, none⟩)) true ty).run Tryd.prog (w.iter s pos) = _ := fun ty => run_next_end w s pos ty hp
      have HF := hide (hf.trans (faultFrom_end s f pos hp))
      clear hf
      go_wp2
      go_ret2
      exact ⟨ret_fault (unhide HF), (Below.refl _ _).alloc (Nat.le_refl _) _⟩
end Go.Proofs.YtllhajjceecjdaaDoor
/- Line ends, and the decoding of UTF-8: xchar's endLines and decodeAny. -/
namespace Go.Proofs.YtllhajjceecjdaaDoor
open Go.RowKit
/-- What the package variables of the library hold: MaxLen an int, utf8's tables as their text lays them. -/
structure Env (w : World) : Prop where
  tabs : Lib.Utf8Tabs 0 1 w
theorem Env.below {w w' : World} (h : Env w) (hb : Below w.heap.size w w') : Env w' := by
  exact ⟨Utf8Tabs_below h.tabs hb⟩
theorem Below.then {a b c : World} (h : Below a.heap.size a b) (k : Below b.heap.size b c) : Below a.heap.size a c := h.trans (k.mono h.size)
end Go.Proofs.YtllhajjceecjdaaDoor
