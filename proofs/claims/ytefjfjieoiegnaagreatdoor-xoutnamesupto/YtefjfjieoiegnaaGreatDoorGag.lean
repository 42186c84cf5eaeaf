/- Several texts, laid as one. -/
import Derived.Test.YtefjfjieoiegnaaGreatDoorGae
import Derived.Test.YtefjfjieoiegnaaGreatDoorLexSame
import Derived.Test.YtefjfjieoiegnaaGreatDoorGac
import Derived.Test.YtefjfjieoiegnaaGreatDoorGad
import Derived.Test.YtefjfjieoiegnaaGreatDoorGaa
/- The digits, the name that a text begins with: xplex's digitsAhead and nameAhead. -/
namespace Go.Proofs.YtefjfjieoiegnaaGreatDoor
open Go.RowKit
end Go.Proofs.YtefjfjieoiegnaaGreatDoor
/- A text's tokens: where they stand, and that they are read again as they were if they are parted by blanks: plain lemmas. -/
namespace Go.Proofs.YtefjfjieoiegnaaGreatDoor
end Go.Proofs.YtefjfjieoiegnaaGreatDoor
/- The number, the name, the string, the variable, the word that a text begins with: xplex's functions. -/
namespace Go.Proofs.YtefjfjieoiegnaaGreatDoor
open Go.RowKit
end Go.Proofs.YtefjfjieoiegnaaGreatDoor
/- A name has no colon, so a prefix and a local name are parted at the colon between them. -/
namespace Go.Proofs.YtefjfjieoiegnaaGreatDoor
open Go.RowKit
end Go.Proofs.YtefjfjieoiegnaaGreatDoor
/- Which characters may be, lie in one of some ranges, begin names and go on in them: the reference's IsChar, 'in', Begins and GoesOn. -/
namespace Go.Proofs.YtefjfjieoiegnaaGreatDoor
open Go.RowKit
end Go.Proofs.YtefjfjieoiegnaaGreatDoor
/- The reference's Bad, IsText, IsName and Split. -/
namespace Go.Proofs.YtefjfjieoiegnaaGreatDoor
open Go.RowKit
def textB (s : ByteArray) : Bool := (fault s).1 == 0
set_option maxHeartbeats 1000000 in
theorem isText_any (s : ByteArray) (w : World) :
    Calls Tryz.prog 52 #[.string s] w fun e w' => e = .returned (.bool (textB s)) ∧ Below w.heap.size w w' := by
  go_enter Tryz.func52, Tryz.ntmps52
  go_wp2_with fail
  refine (firstFault_any s _).mono ?_
  rintro e w1 ⟨rfl, hb1⟩
  go_wp2
  all_goals
    go_ret
    exact ⟨ret_bool (by simp [textB, *]), hb1⟩
end Go.Proofs.YtefjfjieoiegnaaGreatDoor
/- What the program takes for names and texts is what the reference takes for them: plain lemmas. -/
namespace Go.Proofs.YtefjfjieoiegnaaGreatDoor
open Go.RowKit
theorem textB_eq (s : ByteArray) : textB s = textR s := text_eq s (s.size + 1) 0
theorem validD_at (s : ByteArray) (pos : Nat) (hp : pos < s.size) : Lib.validD (s.data.toList.drop pos) =
    if (Utf8.decode s pos).1 = 65533 ∧ (Utf8.decode s pos).2 = 1 then false else Lib.validD (s.data.toList.drop (pos + (Utf8.decode s pos).2)) := by
  have hne : s.data.toList.drop pos ≠ [] := by
    intro h
    have := congrArg List.length h
    rw [List.length_drop] at this
    have hl : s.data.toList.length = s.size := rfl
    simp only [List.length_nil] at this
    omega
  have e : Lib.decodeL (s.data.toList.drop pos) = Utf8.decode s pos := Lib.decodeL_drop s pos
  rw [Lib.validD_step _ hne, e, List.drop_drop]
theorem valid_name (s : ByteArray) : ∀ f pos, s.size < pos + f → nameFrom s f pos = true → decide ((badFrom s f pos).1 < 0) = Lib.validD (s.data.toList.drop pos)
  | 0, pos, hb, _ => by
    rw [List.drop_eq_nil_of_le (by show s.data.toList.length ≤ pos; have : s.data.toList.length = s.size := rfl; omega)]; rfl
  | f + 1, pos, hb, h => by
    have hd := decode_le s pos
    unfold badFrom
    by_cases hp : pos < s.size
    · have hw := width_pos s pos hp
      rw [if_pos hp, validD_at s pos hp]
      rw [nameFrom, if_pos hp] at h
      by_cases hc : (((pos : Int) == 0 && !beginB (Utf8.decode s pos).1) || !goesB (Utf8.decode s pos).1) = true
      · rw [if_pos hc] at h; cases h
      · rw [if_neg hc] at h
        have hg : goesB (Utf8.decode s pos).1 = true := by
          cases hg : goesB (Utf8.decode s pos).1
          · exact absurd (by simp [hg]) hc
          · rfl
        have hch := char_of_goes _ (by omega) hg
        rw [charB_eq _ (by omega)] at hch
        have ih := valid_name s f _ (by omega) h
        by_cases h1 : (Utf8.decode s pos).1 = 65533 ∧ (Utf8.decode s pos).2 = 1
        · rw [if_pos h1]
          simp [h1.1, h1.2]
        · rw [if_neg h1, ← ih]
          have h1' : (((Utf8.decode s pos).1 : Int) == 65533 && ((Utf8.decode s pos).2 : Int) == 1) = false := by
            rw [Bool.and_eq_false_iff]
            simp only [beq_eq_false_iff_ne, ne_eq]
            omega
          rw [h1', hch]
          simp
    · rw [if_neg hp, List.drop_eq_nil_of_le (by show s.data.toList.length ≤ pos; have : s.data.toList.length = s.size := rfl; omega)]; rfl
/-- The reference's names are the program's. -/
theorem nameB_eq (s : ByteArray) : nameB s = (textR s && !s.data.toList.isEmpty && nameFrom s (s.size + 1) 0) := by
  unfold nameB textR
  cases h : nameFrom s (s.size + 1) 0
  · simp
  · have := valid_name s (s.size + 1) 0 (by omega) h
    rw [List.drop_zero] at this
    rw [this]
    cases s.data.toList.isEmpty <;> simp
end Go.Proofs.YtefjfjieoiegnaaGreatDoor
