/- Tokens that are parted by blanks are read as they were: plain lemmas. -/
import Derived.Test.YtefjfjieoiegnaaGreatDoorGae
namespace Go.Proofs.YtefjfjieoiegnaaGreatDoor
/-- Nothing, or a blank first. -/
def parted (r : List Nat) : Prop := ∀ c, r.head? = some c → blankC c = true
/-- The same token, perhaps with other signs around a string. -/
def alike (t t' : Tok) : Prop := t'.kind = t.kind ∧ t'.text = t.text ∧ (t'.raw = t.raw ∨ t.kind = 2 ∧ ∃ q, (q = 34 ∨ q = 39) ∧ q ∉ t.text ∧ t'.raw = q :: t.text ++ [q])
end Go.Proofs.YtefjfjieoiegnaaGreatDoor
