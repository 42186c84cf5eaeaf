/- Several texts, laid as one. -/
import Derived.Test.YtllhajjceecjdaaDoorLexFacts
import Derived.Test.YtllhajjceecjdaaDoorGar
import Derived.Test.YtllhajjceecjdaaDoorGat
import Derived.Deep.RegionHeld3
/- The name, the string, the variable, the word that a text begins with, and which word is what: xplex's functions. -/
namespace Go.Proofs.YtllhajjceecjdaaDoor
open Go.RowKit
end Go.Proofs.YtllhajjceecjdaaDoor
/- The reference's IsName and Split give what the program's give. -/
namespace Go.Proofs.YtllhajjceecjdaaDoor
open Go.RowKit
end Go.Proofs.YtllhajjceecjdaaDoor
/- The string, the word that a text begins with, and which word is what: xplex's functions. -/
namespace Go.Proofs.YtllhajjceecjdaaDoor
open Go.RowKit
end Go.Proofs.YtllhajjceecjdaaDoor
/- A reader's small steps: what it sees, takes, passes by: xmlscan's rest, sees, take, takeTo, blanks, name. -/
namespace Go.Proofs.YtllhajjceecjdaaDoor
open Go.RowKit
abbrev AtS (w : World) (p : Nat) (s : RS) : Prop := AtR w p s.pre s.rest
/-- A reader of a text of characters that may be, that is not too long. -/
structure Fine (s : RS) : Prop where
  ok : okL (s.pre ++ s.rest)
  le : (T (s.pre ++ s.rest)).size ≤ 32768
theorem adv_whole (s : RS) (n : Nat) : (s.adv n).pre ++ (s.adv n).rest = s.pre ++ s.rest := by
  unfold RS.adv
  simp only
  rw [List.append_assoc, List.take_append_drop]
theorem Fine.adv {s : RS} (h : Fine s) (n : Nat) : Fine (s.adv n) := ⟨by rw [adv_whole]; exact h.ok, by rw [adv_whole]; exact h.le⟩
theorem Fine.okR {s : RS} (h : Fine s) : okL s.rest := okL_right h.ok
theorem Fine.sum {s : RS} (_ : Fine s) : s.place + (T s.rest).size = (T (s.pre ++ s.rest)).size := by
  unfold RS.place
  rw [T_size, T_size, tx_len_app]
theorem Fine.lt {s : RS} (h : Fine s) : s.place + (T s.rest).size ≤ 32768 := by rw [h.sum]; exact h.le
theorem AtR.to {w w' : World} {p : Nat} {s : RS} {n : Nat} (h : AtS w p s) (hm : Moves p (s.adv n).place w w') : AtS w' p (s.adv n) := h.moved hm (adv_whole s n)
end Go.Proofs.YtllhajjceecjdaaDoor
/- A reader's small steps, more: xmlscan's takeTo, blanks, nameAhead, name, qname. -/
namespace Go.Proofs.YtllhajjceecjdaaDoor
open Go.RowKit
end Go.Proofs.YtllhajjceecjdaaDoor
/- A reader's small steps, more: xmlscan's nameAhead, name, qname, quote, quoted, equals. -/
namespace Go.Proofs.YtllhajjceecjdaaDoor
open Go.RowKit
end Go.Proofs.YtllhajjceecjdaaDoor
