/- Tokens in bytes: which are a document's, and what they are as a text. -/
import Derived.Test.YtkklapoceknbcaaGreatDoorXmlWrM
import Derived.Test.YtkklapoceknbcaaGreatDoorXmlEsc
namespace Go.Proofs.YtkklapoceknbcaaGreatDoor
def attrsB : List (List UInt8) → List (ByteArray × ByteArray) → Bool
  | _, [] => true
  | seen, x :: l => !seen.contains x.1.data.toList && (qB x.1 && (textB x.2 && attrsB (seen ++ [x.1.data.toList]) l))
/-- May it stand in some document? -/
def okB (t : BTok) : Bool :=
  if t.kind = 2 then t.text.toList.isEmpty && (qB t.name && attrsB [] t.attrs) else
  if t.kind = 7 then t.text.toList.isEmpty && (t.attrs.isEmpty && qB t.name) else
  if t.kind = 4 then t.name.toList.isEmpty && (t.attrs.isEmpty && (!t.text.toList.isEmpty && textB t.text)) else
  if t.kind = 5 then t.name.toList.isEmpty && (t.attrs.isEmpty && comB t.text) else
  if t.kind = 6 then t.attrs.isEmpty && (tarB t.name && insB t.text) else false
/-- What stands open behind a token, and whether there was an element; none: it may not stand there. -/
def docStp (o : List ByteArray) (r : Bool) (last : Int) (t : BTok) : Option (List ByteArray × Bool) :=
  if t.kind = 2 then (if o.isEmpty && r then none else some (o ++ [t.name], true)) else
  if t.kind = 7 then (match o.getLast? with
    | none => none
    | some x => if x.toList == t.name.toList then some (o.dropLast, r) else none) else
  if t.kind = 4 then (if o.isEmpty || last == 4 then none else some (o, r)) else some (o, r)
def docB : List ByteArray → Bool → Int → List BTok → Bool
  | o, r, _, [] => r && o.isEmpty
  | o, r, last, t :: ts => okB t && (match docStp o r last t with
    | none => false
    | some x => docB x.1 x.2 t.kind ts)
def deepGo : Int → Int → List BTok → Int
  | _, m, [] => m
  | d, m, t :: ts => if t.kind = 2 then deepGo (d + 1) (max m (d + 1)) ts else if t.kind = 7 then deepGo (d - 1) m ts else deepGo d m ts
def pastB (ts : List BTok) : Bool := decide (4096 < ts.length) || (decide (32 < deepGo 0 0 ts) || ts.any fun t => decide (64 < t.attrs.length))
def attrB (x : ByteArray × ByteArray) : List UInt8 := 32 :: (x.1.data.toList ++ 61 :: 34 :: (mapO quoO x.2.data.toList ++ [34]))
def tokB (t : BTok) : List UInt8 :=
  if t.kind = 2 then 60 :: (t.name.data.toList ++ (t.attrs.flatMap attrB ++ [62])) else
  if t.kind = 7 then 60 :: 47 :: (t.name.data.toList ++ [62]) else
  if t.kind = 4 then mapO escO t.text.data.toList else
  if t.kind = 5 then 60 :: 33 :: 45 :: 45 :: (t.text.data.toList ++ [45, 45, 62]) else
  if t.kind = 6 then 60 :: 63 :: (t.name.data.toList ++ ((if t.text.toList.isEmpty then [] else 32 :: t.text.data.toList) ++ [63, 62])) else []
def writeB (ts : List BTok) : List UInt8 := ts.flatMap tokB
/-- What Write tells: an error's number, or a text. -/
def writeR (ts : List BTok) : ByteArray × Nat :=
  if docB [] false 0 ts = false then (⟨#[]⟩, 5) else if pastB ts = true then (⟨#[]⟩, 6) else if 32768 < (writeB ts).length then (⟨#[]⟩, 6) else (⟨(writeB ts).toArray⟩, 0)
end Go.Proofs.YtkklapoceknbcaaGreatDoor
