/- Several texts, laid as one. -/
import Derived.Test.YtllhajjceecjdaaDoorLexRuns
import Derived.Test.YtllhajjceecjdaaDoorLexScan
import Derived.Test.YtllhajjceecjdaaDoorNames
import Derived.Test.YtllhajjceecjdaaDoorGaj
import Derived.Test.YtllhajjceecjdaaDoorGac
/- The number, the name, the string, the variable, the word that a text begins with: xplex's functions. -/
namespace Go.Proofs.YtllhajjceecjdaaDoor
open Go.RowKit
theorem ne_T {l : List Nat} (hl : okL l) (h : l ≠ []) : (T l).toList.isEmpty = false := by
  cases hx : (T l).toList with
  | nil => exact absurd ((T_empty hl).1 hx) h
  | cons _ _ => rfl
end Go.Proofs.YtllhajjceecjdaaDoor
/- A name has no colon, so a prefix and a local name are parted at the colon between them. -/
namespace Go.Proofs.YtllhajjceecjdaaDoor
open Go.RowKit
end Go.Proofs.YtllhajjceecjdaaDoor
/- Which characters may be, lie in one of some ranges, begin names and go on in them: the reference's IsChar, 'in', Begins and GoesOn. -/
namespace Go.Proofs.YtllhajjceecjdaaDoor
open Go.RowKit
end Go.Proofs.YtllhajjceecjdaaDoor
/- The reference's Bad, IsText, IsName and Split. -/
namespace Go.Proofs.YtllhajjceecjdaaDoor
open Go.RowKit
def textB (s : ByteArray) : Bool := (fault s).1 == 0
set_option maxHeartbeats 1000000 in
theorem isText_any (s : ByteArray) (w : World) :
    Calls Tryd.prog 9 #[.string s] w fun e w' => e = .returned (.bool (textB s)) ∧ Below w.heap.size w w' := by
  go_enter Tryd.func9, Tryd.ntmps9
  go_wp2_with fail
  refine (firstFault_any s _).mono ?_
  rintro e w1 ⟨rfl, hb1⟩
  go_wp2
  all_goals
    go_ret
    exact ⟨ret_bool (by simp [textB, *]), hb1⟩
end Go.Proofs.YtllhajjceecjdaaDoor
/- What the program takes for names and texts is what the reference takes for them: plain lemmas. -/
namespace Go.Proofs.YtllhajjceecjdaaDoor
open Go.RowKit
theorem validD_at (s : ByteArray) (pos : Nat) (hp : pos < s.size) : Lib.validD (s.data.toList.drop pos) =
    if (Utf8.decode s pos).1 = 65533 ∧ (Utf8.decode s pos).2 = 1 then false else Lib.validD (s.data.toList.drop (pos + (Utf8.decode s pos).2)) := by
  have hne : s.data.toList.drop pos ≠ [] := by
    intro h
    have := congrArg List.length h
    rw [List.length_drop] at this
    have hl : s.data.toList.length = s.size := rfl
    simp only [List.length_nil] at this
    omega
  have e : Lib.decodeL (s.data.toList.drop pos) = Utf8.decode s pos := Lib.decodeL_drop s pos
  rw [Lib.validD_step _ hne, e, List.drop_drop]
end Go.Proofs.YtllhajjceecjdaaDoor
