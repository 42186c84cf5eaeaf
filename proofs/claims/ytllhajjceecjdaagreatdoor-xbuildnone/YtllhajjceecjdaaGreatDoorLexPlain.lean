/- Tokens of expressions, over lists of characters: what xplex's functions tell, in plain terms. -/
import Derived.Test.YtllhajjceecjdaaGreatDoorGad
namespace Go.Proofs.YtllhajjceecjdaaGreatDoor
def begC (c : Nat) : Bool := inL (c : Int) beginL
def goC (c : Nat) : Bool := inL (c : Int) beginL || inL (c : Int) onL
def blankC (c : Nat) : Bool := c == 9 || c == 10 || c == 13 || c == 32
/-- The name that characters begin with. -/
def nameA : List Nat → List Nat
  | [] => []
  | c :: t => if begC c then c :: t.takeWhile goC else []
def isNm (l : List Nat) : Bool := !l.isEmpty && nameA l == l
/-- Does a list begin with a character, and what stands behind it? -/
def heads (c : Nat) (l : List Nat) : Bool := l.head? == some c
def qnameA (l : List Nat) : List Nat :=
  if !(nameA l).isEmpty && (heads 58 (l.drop (nameA l).length) && !(nameA (l.drop (nameA l).length).tail).isEmpty) then nameA l ++ 58 :: nameA (l.drop (nameA l).length).tail else nameA l
end Go.Proofs.YtllhajjceecjdaaGreatDoor
