/- Tokens of XML, over lists of characters: what xmlscan's functions tell, in plain terms. -/
import Derived.Test.YtllhajjceecjdaaDoorLexTx
namespace Go.Proofs.YtllhajjceecjdaaDoor
/-- A token: its kind (2 an element, 4 a text, 5 a comment, 6 a processing instruction, 7 an end), name, attributes, text. -/
structure XTok where
  kind : Nat
  name : List Nat
  attrs : List (List Nat × List Nat)
  text : List Nat
  deriving DecidableEq
/-- Where a reader stands: what it has passed, what lies ahead, the entities, what they came to, the elements that are open, the tokens, the text behind the last one and where that begins. -/
structure RS where
  pre : List Nat
  rest : List Nat
  ents : List (List Nat × List Nat)
  spent : Nat
  opn : List (List Nat)
  toks : List XTok
  run : List Nat
  runAt : Nat
  deriving DecidableEq
def RS.place (s : RS) : Nat := (tx s.pre).length
def RS.adv (s : RS) (n : Nat) : RS := { s with pre := s.pre ++ s.rest.take n, rest := s.rest.drop n }
/-- An error's number, and its place. -/
abbrev Er := Nat × Nat
/-- What stands ahead of some signs, and behind them. -/
def cutL (sign : List Nat) : List Nat → Option (List Nat × List Nat)
  | [] => none
  | c :: t => if sign.isPrefixOf (c :: t) then some ([], (c :: t).drop sign.length) else (cutL sign t).map fun x => (c :: x.1, x.2)
def RS.sees (s : RS) (sign : List Nat) : Bool := sign.isPrefixOf s.rest
def RS.take (s : RS) (sign : List Nat) : RS := if sign.isPrefixOf s.rest then s.adv sign.length else s
def RS.blanks (s : RS) : RS := s.adv (s.rest.takeWhile blankC).length
def RS.blank (s : RS) : Bool := !(s.rest.takeWhile blankC).isEmpty
def RS.takeTo (s : RS) (sign : List Nat) : Option (List Nat × RS) := (cutL sign s.rest).map fun x => (x.1, s.adv (x.1.length + sign.length))
def RS.name (s : RS) : RS := s.adv (nameA s.rest).length
def RS.qname (s : RS) : RS := s.adv (qnameA s.rest).length
def RS.quote (s : RS) : Option (Nat × RS) := if heads 34 s.rest then some (34, s.adv 1) else if heads 39 s.rest then some (39, s.adv 1) else none
def RS.quoted (s : RS) : Option (List Nat × RS) := match s.quote with
  | none => none
  | some (q, s1) => s1.takeTo [q]
def RS.equals (s : RS) : Option RS := if heads 61 s.blanks.rest then some (s.blanks.adv 1).blanks else none
/-- A token more, behind the text that stands there. -/
def RS.flush (s : RS) : RS := if s.run = [] then s else { s with toks := s.toks ++ [⟨4, [], [], s.run⟩], run := [] }
def RS.tell (s : RS) (t : XTok) (at' : Nat) : Except Er RS :=
  if s.flush.toks.length = 4096 then .error (6, at') else .ok { s.flush with runAt := s.place, toks := s.flush.toks ++ [t] }
def RS.room (s : RS) : Except Er RS := if s.run ≠ [] ∧ s.toks.length = 4096 then .error (6, s.runAt) else .ok s
/-- Comments and processing instructions. -/
def RS.comment (s : RS) : Option (List Nat × RS) := match (s.take [60, 33, 45, 45]).takeTo [45, 45] with
  | none => none
  | some (t, s1) => if heads 62 s1.rest then some (t, s1.adv 1) else none
def lowC (c : Nat) : Nat := if 65 ≤ c ∧ c ≤ 90 then c + 32 else c
def isTarget (n : List Nat) : Bool := isNm n && !(n.map lowC == [120, 109, 108])
def RS.instruction (s : RS) : Option (List Nat × List Nat × RS) :=
  let s1 := s.take [60, 63]
  let n := nameA s1.rest
  let s2 := s1.name
  if !isTarget n then none else
  if s2.sees [63, 62] then some (n, [], s2.adv 2) else
  if !s2.blank then none else
  (s2.blanks.takeTo [63, 62]).map fun x => (n, x.1, x.2)
def RS.tellComment (s : RS) : Except Er RS := match s.comment with
  | none => .error (5, s.place)
  | some (t, s1) => s1.tell ⟨5, [], [], t⟩ s.place
def RS.tellInstruction (s : RS) : Except Er RS := match s.instruction with
  | none => .error (5, s.place)
  | some (n, t, s1) => s1.tell ⟨6, n, [], t⟩ s.place
/-- References: a character or one of the five, or a name; and how many characters they take. -/
def digitX (c : Nat) : Option Nat := if 48 ≤ c ∧ c ≤ 57 then some (c - 48) else if 97 ≤ c ∧ c ≤ 102 then some (c - 87) else if 65 ≤ c ∧ c ≤ 70 then some (c - 55) else none
def numX (base : Nat) : Nat → Nat → List Nat → Option (Nat × Nat)
  | _, _, [] => none
  | n, k, c :: t => if c = 59 ∧ charR (n : Int) = true then some (n, k + 1) else
    match digitX c with
    | none => none
    | some d => if base ≤ d then none else numX base (min (n * base + d) 1114112) (k + 1) t
def five (n : List Nat) : List Nat := if n = [108, 116] then [60] else if n = [103, 116] then [62] else if n = [97, 109, 112] then [38] else
  if n = [97, 112, 111, 115] then [39] else if n = [113, 117, 111, 116] then [34] else []
structure Ref where
  said : List Nat
  name : List Nat
  size : Nat
  deriving DecidableEq
def readNum (base ahead : Nat) (l : List Nat) : Option Ref := (numX base 0 0 l).map fun x => ⟨[x.1], [], ahead + x.2⟩
def readRef (l : List Nat) : Option Ref :=
  if [38, 35, 120].isPrefixOf l then readNum 16 3 (l.drop 3) else
  if [38, 35].isPrefixOf l then readNum 10 2 (l.drop 2) else
  let n := nameA (l.drop 1)
  if !n.isEmpty && heads 59 (l.drop (n.length + 1)) then some ⟨five n, n, n.length + 2⟩ else none
def spaceC (c : Nat) : Nat := if blankC c then 32 else c
def flatL (flat : Bool) (l : List Nat) : List Nat := if flat then l.map spaceC else l
def spendX (opn : List (List Nat)) (spent n : Nat) : Except Nat Nat := if opn = [] then .ok spent else if 32768 < spent + n then .error 6 else .ok (spent + n)
def entX (ents : List (List Nat × List Nat)) (n : List Nat) : Option (List Nat) := (ents.find? fun x => x.1 == n).map (·.2)
/-- What an entity's text comes to, with the way of adding a reference. -/
def textX (add : Nat → Ref → Except Nat (List Nat × Nat)) (flat : Bool) (opn : List (List Nat)) : Nat → Nat → List Nat → Except Nat (List Nat × Nat)
  | 0, spent, _ => .ok ([], spent)
  | f + 1, spent, l =>
    if l = [] then .ok ([], spent) else
    let p := l.takeWhile (· != 38)
    match spendX opn spent (tx p).length with
    | .error e => .error e
    | .ok s1 =>
      if l.drop p.length = [] then .ok (flatL flat p, s1) else
      match readRef (l.drop p.length) with
      | none => .error 5
      | some r => match add s1 r with
        | .error e => .error e
        | .ok (t, s2) => match textX add flat opn f s2 ((l.drop p.length).drop r.size) with
          | .error e => .error e
          | .ok (u, s3) => .ok (flatL flat p ++ t ++ u, s3)
/-- What a reference comes to, with the entities that are open around it. -/
def addX (ents : List (List Nat × List Nat)) (flat : Bool) : Nat → List (List Nat) → Nat → Ref → Except Nat (List Nat × Nat)
  | 0, _, _, _ => .error 6
  | d + 1, opn, spent, r =>
    if r.said ≠ [] then match spendX opn spent ((tx r.said).length + 1) with
      | .error e => .error e
      | .ok s1 => .ok (r.said, s1)
    else match entX ents r.name with
      | none => .error 5
      | some t =>
        if 8 < opn.length ∨ opn.contains r.name = true then .error 6 else
        match spendX opn spent 1 with
        | .error e => .error e
        | .ok s1 => textX (addX ents flat d (opn ++ [r.name])) flat (opn ++ [r.name]) (t.length + 1) s1 t
def RS.reference (s : RS) (flat : Bool) : Except Er (List Nat × RS) := match readRef s.rest with
  | none => .error (5, s.place)
  | some r => match addX s.ents flat 10 [] s.spent r with
    | .error e => .error (e, s.place)
    | .ok (t, n) => .ok (t, { s.adv r.size with spent := n })
/-- Tags. -/
def plainC (q c : Nat) : Bool := c != 60 && c != 38 && c != q
def RS.valueGo (q tag : Nat) : Nat → RS → List Nat → Except Er (List Nat × RS)
  | 0, _, _ => .error (5, tag)
  | f + 1, s, text =>
    let p := s.rest.takeWhile (plainC q)
    let s1 := s.adv p.length
    if heads q s1.rest then .ok (text ++ p.map spaceC, s1.adv 1) else
    if heads 38 s1.rest then match s1.reference true with
      | .error e => .error e
      | .ok (t, s2) => RS.valueGo q tag f s2 (text ++ p.map spaceC ++ t)
    else .error (5, tag)
def RS.value (s : RS) (tag : Nat) : Except Er (List Nat × RS) := match s.quote with
  | none => .error (5, tag)
  | some (q, s1) => RS.valueGo q tag (s1.rest.length + 1) s1 []
def RS.attrsGo (tag : Nat) : Nat → RS → List (List Nat × List Nat) → Except Er (List (List Nat × List Nat) × RS)
  | 0, _, _ => .error (5, tag)
  | f + 1, s, acc =>
    let s1 := s.blanks
    if !s.blank || (heads 47 s1.rest || heads 62 s1.rest) then .ok (acc, s1) else
    let n := qnameA s1.rest
    let s2 := s1.qname
    if n = [] ∨ (acc.map (·.1)).contains n = true then .error (5, tag) else
    match s2.equals with
    | none => .error (5, tag)
    | some s3 => match s3.value tag with
      | .error e => .error e
      | .ok (v, s4) => RS.attrsGo tag f s4 (acc ++ [(n, v)])
def RS.attributes (s : RS) (tag : Nat) : Except Er (List (List Nat × List Nat) × RS) := RS.attrsGo tag (s.rest.length + 1) s []
def RS.startTag (s : RS) : Except Er RS :=
  let s1 := s.take [60]
  let n := qnameA s1.rest
  let s2 := s1.qname
  if n = [] then .error (5, s.place) else
  match s2.attributes s.place with
  | .error e => .error e
  | .ok (a, s3) =>
    let s4 := s3.take [47]
    if !heads 62 s4.rest then .error (5, s.place) else
    let s5 := s4.adv 1
    if s5.opn.length = 32 ∨ 64 < a.length then .error (6, s.place) else
    match s5.tell ⟨2, n, a, []⟩ s.place with
    | .error e => .error e
    | .ok s6 => if heads 47 s3.rest then s6.tell ⟨7, n, [], []⟩ s.place else .ok { s6 with opn := s6.opn ++ [n] }
def RS.endTag (s : RS) : Except Er RS :=
  let s1 := s.take [60, 47]
  let n := qnameA s1.rest
  let s2 := s1.qname.blanks
  if s.opn.getLast? = some n ∧ heads 62 s2.rest = true then { s2.adv 1 with opn := s.opn.dropLast }.tell ⟨7, n, [], []⟩ s.place else .error (5, s.place)
/-- Content. -/
def ahead (sign l : List Nat) : List Nat := match cutL sign l with | none => l | some x => x.1
def plainA (l : List Nat) : List Nat := ahead [93, 93, 62] (ahead [38] (ahead [60] l))
def RS.plain (s : RS) : Except Er RS := { s.adv (plainA s.rest).length with run := s.run ++ plainA s.rest }.room
def RS.section' (s : RS) : Except Er RS := match (s.take [60, 33, 91, 67, 68, 65, 84, 65, 91]).takeTo [93, 93, 62] with
  | none => .error (5, s.place)
  | some (t, s1) => { s1 with run := s.run ++ t }.room
def RS.refRun (s : RS) : Except Er RS := match s.reference false with
  | .error e => .error e
  | .ok (t, s1) => { s1 with run := s.run ++ t }.room
def RS.contentOne (s : RS) : Except Er RS :=
  if s.sees [60, 47] then s.endTag else
  if s.sees [60, 33, 45, 45] then s.tellComment else
  if s.sees [60, 33, 91, 67, 68, 65, 84, 65, 91] then s.section' else
  if s.sees [60, 63] then s.tellInstruction else
  if s.sees [60] then s.startTag else
  if s.sees [38] then s.refRun else
  if s.rest ≠ [] ∧ s.sees [93, 93, 62] = false then s.plain else .error (5, s.place)
def RS.content : Nat → RS → Except Er RS
  | 0, s => .ok s
  | f + 1, s => if s.opn = [] then .ok s else match s.contentOne with
    | .error e => .error e
    | .ok s1 => RS.content f s1
end Go.Proofs.YtllhajjceecjdaaDoor
