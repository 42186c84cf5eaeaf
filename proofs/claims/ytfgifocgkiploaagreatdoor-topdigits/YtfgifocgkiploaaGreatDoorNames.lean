/- Names and QNames: xchar's IsName and Split. -/
import Derived.Test.YtfgifocgkiploaaGreatDoorLines
import Derived.Lib.OthersKept
import Derived.Lib.ValidLaws
namespace Go.Proofs.YtfgifocgkiploaaGreatDoor
open Go.RowKit
theorem iterPos_of {w : World} {k : Nat} {s : ByteArray} {p : Nat} (h : w.heap[k]? = some (.stringIter s p)) : w.iterPos k = p := by
  simp [World.iterPos, h]
theorem block_below {w w' : World} {k : Nat} {o : Obj} (h : w.heap[k]? = some o) (hb : Below w.heap.size w w') : w'.heap[k]? = some o := by
  rw [hb.block k (Array.getElem?_eq_some_iff.1 h).1]; exact h
theorem iter_on {w' wr W : World} {s : ByteArray} {p p' : Nat} (hk : wr.heap[w'.heap.size]? = some (.stringIter s p)) (hbr : Below w'.heap.size w' wr)
    (hB : Below (wr.iterAt w'.heap.size s p').heap.size (wr.iterAt w'.heap.size s p') W) : W.heap[w'.heap.size]? = some (.stringIter s p') ∧ Below w'.heap.size w' W := by
  refine ⟨block_below (Lib.iterAt_heap wr w'.heap.size s p p' hk) hB, ?_⟩
  exact (Lib.below_iterAt hbr (Nat.le_refl _) s p').trans (hB.mono (by rw [Lib.iterAt_size]; exact hbr.size))
theorem toList_data (s : ByteArray) : s.toList = s.data.toList := ByteArray.toList_eq s
/-- Do the characters from a place on go on in a name, the first one begin it? -/
def nameFrom (s : ByteArray) : Nat → Nat → Bool
  | 0, _ => true
  | f + 1, pos => if pos < s.size then
      (if (((pos : Int) == 0 && !beginB (Utf8.decode s pos).1) || !goesB (Utf8.decode s pos).1) then false else nameFrom s f (pos + (Utf8.decode s pos).2))
    else true
theorem nameFrom_step (s : ByteArray) (f pos : Nat) (hp : pos < s.size) (hb : s.size < pos + f) : ∃ g, f = g + 1 ∧ nameFrom s f pos =
    (if (((pos : Int) == 0 && !beginB (Utf8.decode s pos).1) || !goesB (Utf8.decode s pos).1) then false else nameFrom s g (pos + (Utf8.decode s pos).2)) := by
  cases f with
  | zero => omega
  | succ g => exact ⟨g, rfl, by rw [nameFrom, if_pos hp]⟩
theorem nameFrom_end (s : ByteArray) (f pos : Nat) (hp : ¬ pos < s.size) : nameFrom s f pos = true := by
  cases f with
  | zero => rfl
  | succ g => rw [nameFrom, if_neg hp]
def nameB (s : ByteArray) : Bool := !s.data.toList.isEmpty && Lib.validD s.data.toList && nameFrom s (s.size + 1) 0
theorem validString_any (s : ByteArray) (w : World) (hs : s.size ≤ 9223372036854775807) (hE : Env w) :
    Calls Tryz.prog 17 #[.string s] w fun e w' => e = .returned (.bool (Lib.validD s.data.toList)) ∧ Below w.heap.size w w' :=
  Any.utf8_ValidString Tryz.laysValid s w hs hE.tabs
theorem cut_le (s sep : List UInt8) : (Lib.cut s sep).1.length ≤ s.length ∧ (Lib.cut s sep).2.1.length ≤ s.length := by
  unfold Lib.cut
  split
  · simp only [List.length_take, List.length_drop]; omega
  · simp
theorem below_drewN (w : World) : ∀ n, Below w.heap.size w (w.drewN n)
  | 0 => Below.refl _ _
  | n + 1 => (below_drewN w n).drew
/-- A QName's prefix and local name. -/
def splitP (l : List UInt8) : List UInt8 := if (Lib.cut l [58]).2.2 then (Lib.cut l [58]).1 else []
def splitN (l : List UInt8) : List UInt8 := if (Lib.cut l [58]).2.2 then (Lib.cut l [58]).2.1 else l
def splitB (l : List UInt8) : Bool := (!(Lib.cut l [58]).2.2 || nameB ⟨(splitP l).toArray⟩) && nameB ⟨(splitN l).toArray⟩
def splitV (l : List UInt8) : Value :=
  if splitB l then .tuple #[.string ⟨(splitP l).toArray⟩, .string ⟨(splitN l).toArray⟩, .bool true] else .tuple #[.string ⟨#[]⟩, .string ⟨#[]⟩, .bool false]
theorem splitV_of {l p n : List UInt8} (hp : splitP l = p) (hn : splitN l = n) (hb : splitB l = true) : Ending.returned (.tuple #[.string ⟨p.toArray⟩, .string ⟨n.toArray⟩, .bool true]) = .returned (splitV l) := by
  unfold splitV; rw [if_pos hb, hp, hn]
theorem splitV_no {l : List UInt8} (hb : splitB l = false) : Ending.returned (.tuple #[.string ⟨#[]⟩, .string ⟨#[]⟩, .bool false]) = .returned (splitV l) := by
  unfold splitV; rw [if_neg (by rw [hb]; decide)]
end Go.Proofs.YtfgifocgkiploaaGreatDoor
