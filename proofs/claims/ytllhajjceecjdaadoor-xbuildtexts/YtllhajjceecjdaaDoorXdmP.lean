/- Trees, over lists of characters: what xdm's functions tell of a document's tokens, in plain terms. -/
import Derived.Test.YtllhajjceecjdaaDoorXmlPlain
namespace Go.Proofs.YtllhajjceecjdaaDoor
/-- What prefixes stand for: by the prefixes' bytes, no prefix twice. -/
abbrev Sc := List (List Nat × List Nat)
def insS (x : List Nat × List Nat) : Sc → Sc
  | [] => [x]
  | y :: r => if bytesBefore (tx x.1) (tx y.1) then x :: y :: r else y :: insS x r
def delS (s : Sc) (p : List Nat) : Sc := s.filter fun y => !(y.1 == p)
def setS (s : Sc) (p u : List Nat) : Sc := insS (p, u) (delS s p)
def lookS (s : Sc) (p : List Nat) : Option (List Nat) := (s.find? fun y => y.1 == p).map (·.2)
def xmlL : List Nat := [120, 109, 108]
def xmlnsL : List Nat := [120, 109, 108, 110, 115]
def xmlUriL : List Nat := [104, 116, 116, 112, 58, 47, 47, 119, 119, 119, 46, 119, 51, 46, 111, 114, 103, 47, 88, 77, 76, 47, 49, 57, 57, 56, 47, 110, 97, 109, 101, 115, 112, 97, 99, 101]
/-- The prefix that an attribute of a name declares. -/
def declD (n : List Nat) : Option (List Nat) := if n = xmlnsL then some [] else if (xmlnsL ++ [58]).isPrefixOf n then some (n.drop 6) else none
def mayD (p u : List Nat) : Bool := if p = xmlnsL then false else if p = xmlL then u == xmlUriL else if p = [] then !(u == xmlUriL) else !(u == []) && !(u == xmlUriL)
def declareD (s : Sc) (p u : List Nat) : Sc := if p = xmlL then s else if u = [] then delS s p else setS s p u
def withD : Sc → List (List Nat × List Nat) → Option Sc
  | s, [] => some s
  | s, x :: l => match declD x.1 with
    | none => withD s l
    | some p => if mayD p x.2 then withD (declareD s p x.2) l else none
/-- A name, expanded: what its prefix stands for, the prefix, the local name. -/
structure Nm where
  uri : List Nat
  pre : List Nat
  loc : List Nat
  deriving DecidableEq
def splitQ (q : List Nat) : List Nat × List Nat := if q.contains 58 then (q.takeWhile (· != 58), (q.dropWhile (· != 58)).tail) else ([], q)
def expandD (s : Sc) (q : List Nat) : Option Nm :=
  if (splitQ q).1 = xmlL then some ⟨xmlUriL, (splitQ q).1, (splitQ q).2⟩ else match lookS s (splitQ q).1 with
  | some u => some ⟨u, (splitQ q).1, (splitQ q).2⟩
  | none => if (splitQ q).1 = [] then some ⟨[], [], (splitQ q).2⟩ else none
def expandA (s : Sc) (q : List Nat) : Option Nm := if isNm q then some ⟨[], [], q⟩ else expandD s q
structure XNode where
  kind : Nat
  name : Nm
  text : List Nat
  parent : Int
  fin : Nat
  deep : Nat
  scope : Sc
  deriving DecidableEq
def nm0 : Nm := ⟨[], [], []⟩
def attrN (n : Nm) (t : List Nat) : XNode := ⟨3, n, t, 0, 0, 0, []⟩
/-- The nodes of a tag's attributes, without declarations. -/
def attrsN (s : Sc) : List (List Nat × List Nat) → Option (List XNode)
  | [] => some []
  | x :: l => match declD x.1 with
    | some _ => attrsN s l
    | none => match expandA s x.1 with
      | none => none
      | some n => (attrsN s l).map fun r => attrN n x.2 :: r
def keyN (x : XNode) : List Nat × List Nat := (x.name.uri, x.name.loc)
def attributesD (s : Sc) (l : List (List Nat × List Nat)) : Except Nat (List XNode) := match attrsN s l with
  | none => .error 7
  | some r => if (r.map keyN).Nodup then .ok r else .error 8
/-- Nodes one behind the other, and the numbers of those that are open. -/
structure BS where
  nodes : List XNode
  opn : List Nat
def BS.begin (s : BS) (x : XNode) : BS := ⟨s.nodes ++ [x], s.opn ++ [s.nodes.length]⟩
def BS.inner (s : BS) : Nat := s.opn.getLastD 0
def BS.finish (s : BS) : BS := ⟨s.nodes.modify s.inner fun x => { x with fin := s.nodes.length }, s.opn.dropLast⟩
def BS.placed (s : BS) (x : XNode) : XNode := { x with deep := s.opn.length, parent := (s.inner : Nat) }
def BS.leaf (s : BS) (x : XNode) : BS := (s.begin (s.placed x)).finish
def BS.scope (s : BS) : Sc := match s.nodes[s.inner]? with | some x => x.scope | none => []
def BS.elementAt (s : BS) (sc : Sc) (t : XTok) : Except Nat BS := match withD sc t.attrs with
  | none => .error 7
  | some inner => match expandD inner t.name with
    | none => .error 7
    | some n => match attributesD inner t.attrs with
      | .error e => .error e
      | .ok ns => .ok (ns.foldl BS.leaf (s.begin (s.placed ⟨2, n, [], 0, 0, 0, inner⟩)))
def BS.element (s : BS) (t : XTok) : Except Nat BS := s.elementAt s.scope t
def BS.add (s : BS) (t : XTok) : Except Nat BS :=
  if t.kind = 2 then s.element t else if t.kind = 7 then .ok s.finish else
  if t.kind = 6 then .ok (s.leaf ⟨6, ⟨[], [], t.name⟩, t.text, 0, 0, 0, []⟩) else .ok (s.leaf ⟨t.kind, nm0, t.text, 0, 0, 0, []⟩)
end Go.Proofs.YtllhajjceecjdaaDoor
