/- The first byte that is no part of a character that may be: the reference's Bad and IsText. -/
import Derived.Test.YtppkilblkobkhaaGreatDoorBytesPlain
import Derived.Lib.RuneCountTail
import Derived.Test.YtppkilblkobkhaaGreatDoorRefChar
namespace Go.Proofs.YtppkilblkobkhaaGreatDoor
open Go.RowKit
/-- The first byte that is no part of a character that may be, from a place on; is it no part of a character at all? -/
def badFrom (s : ByteArray) : Nat → Nat → Int × Bool
  | 0, _ => (-1, false)
  | f + 1, pos => if pos < s.size then
      (if ((Utf8.decode s pos).1 : Int) == 65533 && ((Utf8.decode s pos).2 : Int) == 1 then ((pos : Int), true)
       else if charR (Utf8.decode s pos).1 then badFrom s f (pos + (Utf8.decode s pos).2) else ((pos : Int), false))
    else (-1, false)
theorem decodeRune_at (s : ByteArray) (pos : Nat) (w : World) (hp : pos < s.size) (hE : Env w) :
    Calls Tryz.prog 51 #[.string (s.extract pos s.size)] w fun e w' => e = .returned (.tuple #[.int .i32 (Utf8.decode s pos).1, .int .i64 (Utf8.decode s pos).2]) ∧ Below w.heap.size w w' := by
  have e : Lib.decodeGo (s.extract pos s.size) = Utf8.decode s pos := by
    unfold Lib.decodeGo
    rw [if_neg (by rw [ByteArray.size_extract]; omega), Lib.tail_decode, Nat.add_zero]
  have := Tryz.utf8_DecodeRuneInString (s.extract pos s.size) w hE.tabs
  rw [e] at this
  exact this
theorem badFrom_step (s : ByteArray) (f pos : Nat) (hp : pos < s.size) (hb : s.size < pos + f) : ∃ g, f = g + 1 ∧ badFrom s f pos =
    (if ((Utf8.decode s pos).1 : Int) == 65533 && ((Utf8.decode s pos).2 : Int) == 1 then ((pos : Int), true)
       else if charR (Utf8.decode s pos).1 then badFrom s g (pos + (Utf8.decode s pos).2) else ((pos : Int), false)) := by
  cases f with
  | zero => omega
  | succ g => exact ⟨g, rfl, by rw [badFrom, if_pos hp]⟩
theorem badFrom_end (s : ByteArray) (f pos : Nat) (hp : ¬ pos < s.size) : badFrom s f pos = (-1, false) := by
  cases f with
  | zero => rfl
  | succ g => rw [badFrom, if_neg hp]
theorem ret_bad {x : Int × Bool} {a : Int} {b : Bool} (h : x = (a, b)) : Ending.returned (.tuple #[.int .i64 a, .bool b]) = .returned (.tuple #[.int .i64 x.1, .bool x.2]) := by rw [h]
set_option maxHeartbeats 1000000 in
theorem refBad_any (s : ByteArray) (w : World) (hs : s.size ≤ 4294967280) (hE : Env w) :
    Calls Tryz.prog 23 #[.string s] w fun e w' => e = .returned (.tuple #[.int .i64 (badFrom s (s.size + 1) 0).1, .bool (badFrom s (s.size + 1) 0).2]) ∧ Below w.heap.size w w' := by
  have HE := hide hE
  clear hE
  go_enter Tryz.func23, Tryz.ntmps23
  go_wp2_with fail
  go_loopw [4] (fun i wr => ∃ (pos f : Nat), i = .int .i64 pos ∧ pos ≤ s.size ∧ Below w.heap.size w wr ∧ badFrom s (s.size + 1) 0 = badFrom s f pos ∧ s.size < pos + f) (fun i wr => s.size - (intOf i).toNat)
  case atStart => exact ⟨0, s.size + 1, rfl, Nat.zero_le _, Below.refl _ _, rfl, by omega⟩
  case round =>
    obtain ⟨pos, f, rfl, hps, hbr, hf, hfu⟩ := hrel
    by_cases hp : pos < s.size
    · have hwd := width_pos s pos hp
      obtain ⟨_, _, hwe⟩ := decode_bytes s pos hp
      obtain ⟨g, rfl, hg⟩ := badFrom_step s f pos hp hfu
      have HF := hide (hf.trans hg)
      clear hf hg
      go_wp2_with fail
      refine (decodeRune_at s pos _ hp ((unhide HE).below hbr)).mono ?_
      rintro e w1 ⟨rfl, hb1⟩
      generalize hd : Utf8.decode s pos = d at *
      clear hd
      go_wp2_with (go_at_call 52; refine (refIsChar_any _ _).mono ?_; rintro e w' ⟨rfl, rfl⟩)
      all_goals first
        | (go_ret2
           refine ⟨ret_bad ?_, Below.then hbr hb1⟩
           rw [unhide HF]
           simp_all)
        | (refine ⟨⟨pos + d.2, g, by go_num, hwe, Below.then hbr hb1, ?_, by omega⟩, by simp [intOf]; omega⟩
           rw [unhide HF]
           simp_all)
    · have HF := hide (hf.trans (badFrom_end s f pos hp))
      clear hf
      go_wp2
      go_ret2
      exact ⟨ret_bad (unhide HF), hbr⟩
def textR (s : ByteArray) : Bool := decide ((badFrom s (s.size + 1) 0).1 < 0)
set_option maxHeartbeats 1000000 in
theorem refIsText_any (s : ByteArray) (w : World) (hs : s.size ≤ 4294967280) (hE : Env w) :
    Calls Tryz.prog 15 #[.string s] w fun e w' => e = .returned (.bool (textR s)) ∧ Below w.heap.size w w' := by
  have HE := hide hE
  clear hE
  go_enter Tryz.func15, Tryz.ntmps15
  go_wp2_with fail
  refine (refBad_any s _ hs (unhide HE)).mono ?_
  rintro e w1 ⟨rfl, hb1⟩
  go_wp2
  all_goals
    go_ret
    exact ⟨ret_bool (by simp [textR, *]), hb1⟩
end Go.Proofs.YtppkilblkobkhaaGreatDoor
