/- Several texts, laid as one. -/
import Derived.Test.YtefjfjieoiegnaaGreatDoorXmlDoc
import Derived.Test.YtefjfjieoiegnaaGreatDoorGbs
import Derived.Test.YtefjfjieoiegnaaGreatDoorGah
import Derived.Test.YtefjfjieoiegnaaGreatDoorGal
/- A CDATA section, in plain terms: what is scanned of it. -/
namespace Go.Proofs.YtefjfjieoiegnaaGreatDoor
/-- Signs that stand nowhere in a text. -/
def noSign (a l : List Nat) : Prop := ∀ x y, l ≠ x ++ a ++ y
theorem noSign.tail {a l : List Nat} {c : Nat} (h : noSign a (c :: l)) : noSign a l := fun x y e => h (c :: x) y (by rw [e]; rfl)
end Go.Proofs.YtefjfjieoiegnaaGreatDoor
/- An element with an attribute and a text, both escaped: what is scanned of it, in plain terms. -/
namespace Go.Proofs.YtefjfjieoiegnaaGreatDoor
end Go.Proofs.YtefjfjieoiegnaaGreatDoor
/- Signs below 128 at both ends of a text: what is within is a text. -/
namespace Go.Proofs.YtefjfjieoiegnaaGreatDoor
end Go.Proofs.YtefjfjieoiegnaaGreatDoor
/- Escaped texts: bytes and characters. -/
namespace Go.Proofs.YtefjfjieoiegnaaGreatDoor
end Go.Proofs.YtefjfjieoiegnaaGreatDoor
/- A text's tokens: xmlscan's Scan. -/
namespace Go.Proofs.YtefjfjieoiegnaaGreatDoor
open Go.RowKit
end Go.Proofs.YtefjfjieoiegnaaGreatDoor
