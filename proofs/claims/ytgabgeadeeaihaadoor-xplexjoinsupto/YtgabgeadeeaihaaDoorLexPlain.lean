/- Tokens of expressions, over lists of characters: what xplex's functions tell, in plain terms. -/
import Derived.Test.YtgabgeadeeaihaaDoorRanges
namespace Go.Proofs.YtgabgeadeeaihaaDoor
def begC (c : Nat) : Bool := inL (c : Int) beginL
def goC (c : Nat) : Bool := inL (c : Int) beginL || inL (c : Int) onL
def blankC (c : Nat) : Bool := c == 9 || c == 10 || c == 13 || c == 32
def digC (c : Nat) : Bool := decide (48 ≤ c) && decide (c ≤ 57)
/-- The name that characters begin with. -/
def nameA : List Nat → List Nat
  | [] => []
  | c :: t => if begC c then c :: t.takeWhile goC else []
def isNm (l : List Nat) : Bool := !l.isEmpty && nameA l == l
/-- Does a list begin with a character, and what stands behind it? -/
def heads (c : Nat) (l : List Nat) : Bool := l.head? == some c
def qnameA (l : List Nat) : List Nat :=
  if !(nameA l).isEmpty && (heads 58 (l.drop (nameA l).length) && !(nameA (l.drop (nameA l).length).tail).isEmpty) then nameA l ++ 58 :: nameA (l.drop (nameA l).length).tail else nameA l
def wordA (l : List Nat) : List Nat :=
  if heads 42 l then [42] else
  if isNm (qnameA l) && [58, 42].isPrefixOf (l.drop (qnameA l).length) then qnameA l ++ [58, 42] else qnameA l
def digsA (l : List Nat) : List Nat := l.takeWhile digC
def numA (l : List Nat) : List Nat :=
  if heads 46 (l.drop (digsA l).length) && !(digsA (l.drop (digsA l).length).tail).isEmpty then digsA l ++ 46 :: digsA (l.drop (digsA l).length).tail else digsA l
/-- What stands within the string that characters begin with, and its sign. -/
def strAt (q : Nat) (l : List Nat) : Option (List Nat) :=
  if heads q l && l.tail.contains q then some (l.tail.takeWhile (· != q)) else none
def varA (l : List Nat) : Option (List Nat) :=
  if heads 36 l && !(qnameA l.tail).isEmpty then some (qnameA l.tail) else none
/-- Is it a QName? -/
def isQ (w : List Nat) : Bool :=
  if w.contains 58 then isNm (w.takeWhile (· != 58)) && isNm (w.dropWhile (· != 58)).tail else isNm w
def opWord (w : List Nat) : Bool := w == [97, 110, 100] || w == [111, 114] || w == [109, 111, 100] || w == [100, 105, 118] || w == [42]
def typeWord (w : List Nat) : Bool := w == [99, 111, 109, 109, 101, 110, 116] || w == [116, 101, 120, 116] ||
  w == [112, 114, 111, 99, 101, 115, 115, 105, 110, 103, 45, 105, 110, 115, 116, 114, 117, 99, 116, 105, 111, 110] || w == [110, 111, 100, 101]
/-- What a word is: its kind; none: it can't stand there. pl: an operator is asked for there. -/
def wordK (w b : List Nat) (pl : Bool) : Option Nat :=
  if pl then (if opWord w then some 8 else none) else
  if heads 40 (b.dropWhile blankC) && typeWord w then some 5 else
  if heads 40 (b.dropWhile blankC) && isQ w then some 4 else
  if [58, 58].isPrefixOf (b.dropWhile blankC) && isNm w then some 6 else some 3
def signL : List (Nat × List Nat) := [(8, [47, 47]), (8, [33, 61]), (8, [60, 61]), (8, [62, 61]), (9, [58, 58]), (9, [46, 46]), (8, [47]), (8, [124]), (8, [43]), (8, [45]), (8, [61]), (8, [60]), (8, [62]),
  (9, [40]), (9, [41]), (9, [91]), (9, [93]), (9, [46]), (9, [64]), (9, [44])]
def signA (l : List Nat) : Option (Nat × List Nat) := signL.find? (fun x => x.2.isPrefixOf l)
/-- A token: its kind, its text, and the characters that it takes. -/
structure Tok where
  kind : Nat
  text : List Nat
  raw : List Nat
  deriving DecidableEq
def tokA (l : List Nat) (pl : Bool) : Option Tok :=
  if !(numA l).isEmpty then some ⟨1, numA l, numA l⟩ else
  match strAt 34 l with
  | some t => some ⟨2, t, 34 :: t ++ [34]⟩
  | none => match strAt 39 l with
    | some t => some ⟨2, t, 39 :: t ++ [39]⟩
    | none => match varA l with
      | some t => some ⟨7, t, 36 :: t⟩
      | none => if !(wordA l).isEmpty then (wordK (wordA l) (l.drop (wordA l).length) pl).map (fun k => ⟨k, wordA l, wordA l⟩)
        else (signA l).map (fun x => ⟨x.1, x.2, x.2⟩)
/-- Is an operator asked for behind a token? -/
def behindOp (t : Tok) : Bool := !(t.kind == 8 || (t.kind == 9 && (t.text == [64] || t.text == [58, 58] || t.text == [40] || t.text == [91] || t.text == [44])))
def plOf (acc : List (Tok × Nat)) : Bool := match acc.getLast? with | none => false | some t => behindOp t.1
/-- The tokens from a place on, behind blanks: all of them, or the place of what is none. n: how many bytes a list of characters has. -/
def scanA (n : List Nat → Nat) : Nat → List (Tok × Nat) → List Nat → List Nat → Except Nat (List (Tok × Nat))
  | 0, acc, _, _ => .ok acc
  | f + 1, acc, pre, l =>
    if (l.dropWhile blankC).isEmpty then .ok acc else
    match tokA (l.dropWhile blankC) (plOf acc) with
    | none => .error (n (pre ++ l.takeWhile blankC))
    | some t => scanA n f (acc ++ [(t, n (pre ++ l.takeWhile blankC))]) (pre ++ l.takeWhile blankC ++ t.raw) ((l.dropWhile blankC).drop t.raw.length)
end Go.Proofs.YtgabgeadeeaihaaDoor
