/- Several texts, laid as one. -/
import Derived.Test.YtkklapoceknbcaaGreatDoorGr
import Derived.Deep.RegionHeld3
import Derived.Deep.RegionLawGrows
import Derived.Maps.OwnSet
import Derived.Deep.DeepCutAuto
/- Tokens of XML, over lists of characters: what xmlscan's functions tell, in plain terms. -/
namespace Go.Proofs.YtkklapoceknbcaaGreatDoor
/-- A token: its kind (2 an element, 4 a text, 5 a comment, 6 a processing instruction, 7 an end), name, attributes, text. -/
structure XTok where
  kind : Nat
  name : List Nat
  attrs : List (List Nat × List Nat)
  text : List Nat
  deriving DecidableEq
/-- Where a reader stands: what it has passed, what lies ahead, the entities, what they came to, the elements that are open, the tokens, the text behind the last one and where that begins. -/
structure RS where
  pre : List Nat
  rest : List Nat
  ents : List (List Nat × List Nat)
  spent : Nat
  opn : List (List Nat)
  toks : List XTok
  run : List Nat
  runAt : Nat
  deriving DecidableEq
def RS.place (s : RS) : Nat := (tx s.pre).length
def RS.adv (s : RS) (n : Nat) : RS := { s with pre := s.pre ++ s.rest.take n, rest := s.rest.drop n }
/-- An error's number, and its place. -/
abbrev Er := Nat × Nat
/-- What stands ahead of some signs, and behind them. -/
def cutL (sign : List Nat) : List Nat → Option (List Nat × List Nat)
  | [] => none
  | c :: t => if sign.isPrefixOf (c :: t) then some ([], (c :: t).drop sign.length) else (cutL sign t).map fun x => (c :: x.1, x.2)
def RS.sees (s : RS) (sign : List Nat) : Bool := sign.isPrefixOf s.rest
def RS.take (s : RS) (sign : List Nat) : RS := if sign.isPrefixOf s.rest then s.adv sign.length else s
def RS.blanks (s : RS) : RS := s.adv (s.rest.takeWhile blankC).length
def RS.blank (s : RS) : Bool := !(s.rest.takeWhile blankC).isEmpty
def RS.takeTo (s : RS) (sign : List Nat) : Option (List Nat × RS) := (cutL sign s.rest).map fun x => (x.1, s.adv (x.1.length + sign.length))
def RS.name (s : RS) : RS := s.adv (nameA s.rest).length
def RS.qname (s : RS) : RS := s.adv (qnameA s.rest).length
def RS.quote (s : RS) : Option (Nat × RS) := if heads 34 s.rest then some (34, s.adv 1) else if heads 39 s.rest then some (39, s.adv 1) else none
def RS.quoted (s : RS) : Option (List Nat × RS) := match s.quote with
  | none => none
  | some (q, s1) => s1.takeTo [q]
def RS.equals (s : RS) : Option RS := if heads 61 s.blanks.rest then some (s.blanks.adv 1).blanks else none
/-- A token more, behind the text that stands there. -/
def RS.flush (s : RS) : RS := if s.run = [] then s else { s with toks := s.toks ++ [⟨4, [], [], s.run⟩], run := [] }
def RS.tell (s : RS) (t : XTok) (at' : Nat) : Except Er RS :=
  if s.flush.toks.length = 4096 then .error (6, at') else .ok { s.flush with runAt := s.place, toks := s.flush.toks ++ [t] }
def RS.room (s : RS) : Except Er RS := if s.run ≠ [] ∧ s.toks.length = 4096 then .error (6, s.runAt) else .ok s
/-- Comments and processing instructions. -/
def RS.comment (s : RS) : Option (List Nat × RS) := match (s.take [60, 33, 45, 45]).takeTo [45, 45] with
  | none => none
  | some (t, s1) => if heads 62 s1.rest then some (t, s1.adv 1) else none
def lowC (c : Nat) : Nat := if 65 ≤ c ∧ c ≤ 90 then c + 32 else c
def isTarget (n : List Nat) : Bool := isNm n && !(n.map lowC == [120, 109, 108])
def RS.instruction (s : RS) : Option (List Nat × List Nat × RS) :=
  let s1 := s.take [60, 63]
  let n := nameA s1.rest
  let s2 := s1.name
  if !isTarget n then none else
  if s2.sees [63, 62] then some (n, [], s2.adv 2) else
  if !s2.blank then none else
  (s2.blanks.takeTo [63, 62]).map fun x => (n, x.1, x.2)
def RS.tellComment (s : RS) : Except Er RS := match s.comment with
  | none => .error (5, s.place)
  | some (t, s1) => s1.tell ⟨5, [], [], t⟩ s.place
def RS.tellInstruction (s : RS) : Except Er RS := match s.instruction with
  | none => .error (5, s.place)
  | some (n, t, s1) => s1.tell ⟨6, n, [], t⟩ s.place
/-- References: a character or one of the five, or a name; and how many characters they take. -/
def digitX (c : Nat) : Option Nat := if 48 ≤ c ∧ c ≤ 57 then some (c - 48) else if 97 ≤ c ∧ c ≤ 102 then some (c - 87) else if 65 ≤ c ∧ c ≤ 70 then some (c - 55) else none
def numX (base : Nat) : Nat → Nat → List Nat → Option (Nat × Nat)
  | _, _, [] => none
  | n, k, c :: t => if c = 59 ∧ charR (n : Int) = true then some (n, k + 1) else
    match digitX c with
    | none => none
    | some d => if base ≤ d then none else numX base (min (n * base + d) 1114112) (k + 1) t
def five (n : List Nat) : List Nat := if n = [108, 116] then [60] else if n = [103, 116] then [62] else if n = [97, 109, 112] then [38] else
  if n = [97, 112, 111, 115] then [39] else if n = [113, 117, 111, 116] then [34] else []
structure Ref where
  said : List Nat
  name : List Nat
  size : Nat
  deriving DecidableEq
def readNum (base ahead : Nat) (l : List Nat) : Option Ref := (numX base 0 0 l).map fun x => ⟨[x.1], [], ahead + x.2⟩
def readRef (l : List Nat) : Option Ref :=
  if [38, 35, 120].isPrefixOf l then readNum 16 3 (l.drop 3) else
  if [38, 35].isPrefixOf l then readNum 10 2 (l.drop 2) else
  let n := nameA (l.drop 1)
  if !n.isEmpty && heads 59 (l.drop (n.length + 1)) then some ⟨five n, n, n.length + 2⟩ else none
def spaceC (c : Nat) : Nat := if blankC c then 32 else c
def flatL (flat : Bool) (l : List Nat) : List Nat := if flat then l.map spaceC else l
def spendX (opn : List (List Nat)) (spent n : Nat) : Except Nat Nat := if opn = [] then .ok spent else if 32768 < spent + n then .error 6 else .ok (spent + n)
def entX (ents : List (List Nat × List Nat)) (n : List Nat) : Option (List Nat) := (ents.find? fun x => x.1 == n).map (·.2)
/-- What an entity's text comes to, with the way of adding a reference. -/
def textX (add : Nat → Ref → Except Nat (List Nat × Nat)) (flat : Bool) (opn : List (List Nat)) : Nat → Nat → List Nat → Except Nat (List Nat × Nat)
  | 0, spent, _ => .ok ([], spent)
  | f + 1, spent, l =>
    if l = [] then .ok ([], spent) else
    let p := l.takeWhile (· != 38)
    match spendX opn spent (tx p).length with
    | .error e => .error e
    | .ok s1 =>
      if l.drop p.length = [] then .ok (flatL flat p, s1) else
      match readRef (l.drop p.length) with
      | none => .error 5
      | some r => match add s1 r with
        | .error e => .error e
        | .ok (t, s2) => match textX add flat opn f s2 ((l.drop p.length).drop r.size) with
          | .error e => .error e
          | .ok (u, s3) => .ok (flatL flat p ++ t ++ u, s3)
/-- What a reference comes to, with the entities that are open around it. -/
def addX (ents : List (List Nat × List Nat)) (flat : Bool) : Nat → List (List Nat) → Nat → Ref → Except Nat (List Nat × Nat)
  | 0, _, _, _ => .error 6
  | d + 1, opn, spent, r =>
    if r.said ≠ [] then match spendX opn spent ((tx r.said).length + 1) with
      | .error e => .error e
      | .ok s1 => .ok (r.said, s1)
    else match entX ents r.name with
      | none => .error 5
      | some t =>
        if 8 < opn.length ∨ opn.contains r.name = true then .error 6 else
        match spendX opn spent 1 with
        | .error e => .error e
        | .ok s1 => textX (addX ents flat d (opn ++ [r.name])) flat (opn ++ [r.name]) (t.length + 1) s1 t
def RS.reference (s : RS) (flat : Bool) : Except Er (List Nat × RS) := match readRef s.rest with
  | none => .error (5, s.place)
  | some r => match addX s.ents flat 10 [] s.spent r with
    | .error e => .error (e, s.place)
    | .ok (t, n) => .ok (t, { s.adv r.size with spent := n })
/-- Tags. -/
def plainC (q c : Nat) : Bool := c != 60 && c != 38 && c != q
def RS.valueGo (q tag : Nat) : Nat → RS → List Nat → Except Er (List Nat × RS)
  | 0, _, _ => .error (5, tag)
  | f + 1, s, text =>
    let p := s.rest.takeWhile (plainC q)
    let s1 := s.adv p.length
    if heads q s1.rest then .ok (text ++ p.map spaceC, s1.adv 1) else
    if heads 38 s1.rest then match s1.reference true with
      | .error e => .error e
      | .ok (t, s2) => RS.valueGo q tag f s2 (text ++ p.map spaceC ++ t)
    else .error (5, tag)
def RS.value (s : RS) (tag : Nat) : Except Er (List Nat × RS) := match s.quote with
  | none => .error (5, tag)
  | some (q, s1) => RS.valueGo q tag (s1.rest.length + 1) s1 []
def RS.attrsGo (tag : Nat) : Nat → RS → List (List Nat × List Nat) → Except Er (List (List Nat × List Nat) × RS)
  | 0, _, _ => .error (5, tag)
  | f + 1, s, acc =>
    let s1 := s.blanks
    if !s.blank || (heads 47 s1.rest || heads 62 s1.rest) then .ok (acc, s1) else
    let n := qnameA s1.rest
    let s2 := s1.qname
    if n = [] ∨ (acc.map (·.1)).contains n = true then .error (5, tag) else
    match s2.equals with
    | none => .error (5, tag)
    | some s3 => match s3.value tag with
      | .error e => .error e
      | .ok (v, s4) => RS.attrsGo tag f s4 (acc ++ [(n, v)])
def RS.attributes (s : RS) (tag : Nat) : Except Er (List (List Nat × List Nat) × RS) := RS.attrsGo tag (s.rest.length + 1) s []
def RS.startTag (s : RS) : Except Er RS :=
  let s1 := s.take [60]
  let n := qnameA s1.rest
  let s2 := s1.qname
  if n = [] then .error (5, s.place) else
  match s2.attributes s.place with
  | .error e => .error e
  | .ok (a, s3) =>
    let s4 := s3.take [47]
    if !heads 62 s4.rest then .error (5, s.place) else
    let s5 := s4.adv 1
    if s5.opn.length = 32 ∨ 64 < a.length then .error (6, s.place) else
    match s5.tell ⟨2, n, a, []⟩ s.place with
    | .error e => .error e
    | .ok s6 => if heads 47 s3.rest then s6.tell ⟨7, n, [], []⟩ s.place else .ok { s6 with opn := s6.opn ++ [n] }
def RS.endTag (s : RS) : Except Er RS :=
  let s1 := s.take [60, 47]
  let n := qnameA s1.rest
  let s2 := s1.qname.blanks
  if s.opn.getLast? = some n ∧ heads 62 s2.rest = true then { s2.adv 1 with opn := s.opn.dropLast }.tell ⟨7, n, [], []⟩ s.place else .error (5, s.place)
/-- Content. -/
def ahead (sign l : List Nat) : List Nat := match cutL sign l with | none => l | some x => x.1
def plainA (l : List Nat) : List Nat := ahead [93, 93, 62] (ahead [38] (ahead [60] l))
def RS.plain (s : RS) : Except Er RS := { s.adv (plainA s.rest).length with run := s.run ++ plainA s.rest }.room
def RS.section' (s : RS) : Except Er RS := match (s.take [60, 33, 91, 67, 68, 65, 84, 65, 91]).takeTo [93, 93, 62] with
  | none => .error (5, s.place)
  | some (t, s1) => { s1 with run := s.run ++ t }.room
def RS.refRun (s : RS) : Except Er RS := match s.reference false with
  | .error e => .error e
  | .ok (t, s1) => { s1 with run := s.run ++ t }.room
def RS.contentOne (s : RS) : Except Er RS :=
  if s.sees [60, 47] then s.endTag else
  if s.sees [60, 33, 45, 45] then s.tellComment else
  if s.sees [60, 33, 91, 67, 68, 65, 84, 65, 91] then s.section' else
  if s.sees [60, 63] then s.tellInstruction else
  if s.sees [60] then s.startTag else
  if s.sees [38] then s.refRun else
  if s.rest ≠ [] ∧ s.sees [93, 93, 62] = false then s.plain else .error (5, s.place)
def RS.content : Nat → RS → Except Er RS
  | 0, s => .ok s
  | f + 1, s => if s.opn = [] then .ok s else match s.contentOne with
    | .error e => .error e
    | .ok s1 => RS.content f s1
/-- The declaration at the very beginning. -/
def isVersion (l : List Nat) : Bool := [49, 46].isPrefixOf l && (!(l.drop 2).isEmpty && (l.drop 2).all digC)
def letterC (c : Nat) : Bool := (decide (97 ≤ c) && decide (c ≤ 122)) || (decide (65 ≤ c) && decide (c ≤ 90))
def encC (c : Nat) : Bool := letterC c || (digC c || (c == 46 || (c == 95 || c == 45)))
def isEncoding (l : List Nat) : Bool := match l with | [] => false | c :: t => letterC c && t.all encC
def isChoice (l : List Nat) : Bool := l == [121, 101, 115] || l == [110, 111]
def RS.setting (s : RS) (n : List Nat) (right : List Nat → Bool) : Option RS :=
  if !s.sees n then none else match (s.adv n.length).equals with
  | none => none
  | some s1 => match s1.quoted with
    | none => none
    | some (v, s2) => if right v then some s2 else none
def RS.settingIf (s : RS) (spaced : Bool) (n : List Nat) (right : List Nat → Bool) : Option (Bool × RS) :=
  if spaced && s.sees n then (s.setting n right).map fun x => (x.blank, x.blanks) else some (spaced, s)
def RS.settings (s : RS) : Option RS :=
  let s0 := s.adv 5
  if !s0.blank then none else
  match s0.blanks.setting [118, 101, 114, 115, 105, 111, 110] isVersion with
  | none => none
  | some s1 => match s1.blanks.settingIf s1.blank [101, 110, 99, 111, 100, 105, 110, 103] isEncoding with
    | none => none
    | some (sp, s2) => match s2.settingIf sp [115, 116, 97, 110, 100, 97, 108, 111, 110, 101] isChoice with
      | none => none
      | some (_, s3) => if s3.sees [63, 62] then some (s3.adv 2) else none
/-- The document type, and its declarations. -/
def refsOk : List Nat → Bool
  | [] => true
  | c :: t => (c != 38 || (readRef (c :: t)).isSome) && refsOk t
def isEntText (l : List Nat) : Bool := (l.all fun c => c != 60 && c != 37) && refsOk l
def RS.entity (s : RS) : Option RS :=
  if !s.blank then none else
  let s1 := s.blanks
  let n := nameA s1.rest
  let s2 := s1.name
  if n.isEmpty || !s2.blank then none else
  match s2.blanks.quoted with
  | none => none
  | some (t, s3) =>
    if !isEntText t then none else
    let s4 := s3.blanks
    if !heads 62 s4.rest then none else
    some (if (entX s.ents n).isSome then s4.adv 1 else { s4.adv 1 with ents := s.ents ++ [(n, t)] })
def RS.declOne (s : RS) : Option RS :=
  if s.sees [60, 33, 45, 45] then s.comment.map (·.2) else
  if s.sees [60, 63] then s.instruction.map (·.2.2) else
  if s.sees [60, 33, 69, 78, 84, 73, 84, 89] then (s.adv 8).entity else none
def RS.declGo : Nat → RS → Except Er RS
  | 0, s => .error (5, s.place)
  | f + 1, s =>
    let s1 := s.blanks
    if heads 93 s1.rest then .ok (s1.adv 1) else
    match s1.declOne with
    | none => .error (5, s1.place)
    | some s2 => RS.declGo f s2
def RS.doctype (s : RS) : Except Er RS :=
  let s1 := s.take [60, 33, 68, 79, 67, 84, 89, 80, 69]
  if !s1.blank || (qnameA s1.blanks.rest).isEmpty then .error (5, s.place) else
  let s2 := s1.blanks.qname.blanks
  match (if heads 91 s2.rest then RS.declGo ((s2.adv 1).rest.length + 1) (s2.adv 1) else .ok s2) with
  | .error e => .error e
  | .ok s3 => if heads 62 s3.blanks.rest then .ok (s3.blanks.adv 1) else .error (5, s.place)
/-- The whole text. -/
def RS.docGo : Nat → Bool → Bool → RS → Except Er RS
  | 0, _, _, s => .error (5, s.place)
  | f + 1, typed, rooted, s0 =>
    let s := s0.blanks
    if s.sees [60, 33, 45, 45] then match s.tellComment with
      | .error e => .error e
      | .ok s1 => RS.docGo f typed rooted s1
    else if s.sees [60, 63] then match s.tellInstruction with
      | .error e => .error e
      | .ok s1 => RS.docGo f typed rooted s1
    else if s.sees [60, 33, 68, 79, 67, 84, 89, 80, 69] && (!typed && !rooted) then match s.doctype with
      | .error e => .error e
      | .ok s1 => RS.docGo f true rooted s1
    else if s.sees [60] && !rooted then match s.startTag with
      | .error e => .error e
      | .ok s1 => match RS.content (s1.rest.length + 1) s1 with
        | .error e => .error e
        | .ok s2 => RS.docGo f typed true s2
    else if s.rest ≠ [] ∨ rooted = false then .error (5, s.place) else .ok s
def RS.start (cs : List Nat) : RS := ⟨[], cs, [], 0, [], [], [], 0⟩
def RS.document (s : RS) : Except Er RS :=
  if [60, 63].isPrefixOf s.rest && nameA (s.rest.drop 2) == [120, 109, 108] then match s.settings with
    | none => .error (5, 0)
    | some s1 => RS.docGo (s1.rest.length + 1) false false s1
  else RS.docGo (s.rest.length + 1) false false s
/-- What a text's tokens are, or its error and the error's place. -/
def scanX (cs : List Nat) : Except Er (List XTok) := match (RS.start cs).document with
  | .error e => .error e
  | .ok s => .ok s.toks
end Go.Proofs.YtkklapoceknbcaaGreatDoor
/- Texts that are cut at some signs, told over lists of characters: plain lemmas. -/
namespace Go.Proofs.YtkklapoceknbcaaGreatDoor
open Go.RowKit
/-- Bytes above 127 begin no sign below 128. -/
theorem index_high (x : UInt8) (s : List UInt8) (hx : x.toNat < 128) : ∀ (m r : List UInt8), (∀ b ∈ m, 128 ≤ b.toNat) → Lib.index (m ++ r) (x :: s) = if Lib.index r (x :: s) = -1 then -1 else Lib.index r (x :: s) + (m.length : Nat)
  | [], r, _ => by
    rw [List.nil_append]
    split
    · assumption
    · simp
  | b :: m, r, h => by
    have ih := index_high x s hx m r (fun c hc => h c (List.mem_cons_of_mem _ hc))
    have hb := h b (by simp)
    have hne : (x == b) = false := by
      rw [beq_eq_false_iff_ne]
      rintro rfl
      omega
    have hp : (x :: s).isPrefixOf (b :: (m ++ r)) = false := by
      show (x == b && s.isPrefixOf (m ++ r)) = false
      rw [hne, Bool.false_and]
    rw [List.cons_append, Lib.index, hp, ih]
    by_cases h1 : Lib.index r (x :: s) = -1
    · simp [h1]
    · have hg := Lib.index_ge r (x :: s)
      have : ¬ (Lib.index r (x :: s) + (m.length : Nat)) = -1 := by omega
      simp [h1, this]
      omega
theorem asc_toNat {c : Nat} (h : c < 128) : (UInt8.ofNat c).toNat = c := u8_nat (by omega)
theorem index_tx (sign : List Nat) (hs : ∀ c ∈ sign, c < 128) (hne : sign ≠ []) : ∀ l : List Nat, okL l →
    (∀ a b, cutL sign l = some (a, b) → Lib.index (tx l) (sign.map UInt8.ofNat) = ((tx a).length : Nat) ∧ l = a ++ sign ++ b) ∧ (cutL sign l = none → Lib.index (tx l) (sign.map UInt8.ofNat) = -1)
  | [], _ => by
    refine ⟨fun a b h => (by rw [cutL] at h; cases h), fun _ => ?_⟩
    rw [tx_nil, Lib.index]
    cases sign with
    | nil => exact absurd rfl hne
    | cons _ _ => rfl
  | c :: t, hl => by
    have hp := pre_tx sign (c :: t) hs hl
    unfold Lib.hasPrefix at hp
    obtain ⟨x, m, hx, _⟩ := runeB_first (charR_ok (hl c (by simp)))
    have ht : tx (c :: t) = x :: (m ++ tx t) := by rw [tx_cons, hx]; rfl
    rw [ht] at hp
    have ih := index_tx sign hs hne t (okL_tail hl)
    by_cases hh : sign.isPrefixOf (c :: t) = true
    · rw [hh] at hp
      rw [cutL, if_pos hh, ht, Lib.index, if_pos hp]
      refine ⟨?_, fun h => by cases h⟩
      intro a b h
      cases h
      refine ⟨rfl, ?_⟩
      obtain ⟨u, hu⟩ := List.isPrefixOf_iff_prefix.1 hh
      rw [← hu, List.drop_left]
      rfl
    · have hf : sign.isPrefixOf (c :: t) = false := Bool.eq_false_iff.2 hh
      rw [hf] at hp
      have hm : Lib.index (m ++ tx t) (sign.map UInt8.ofNat) = if Lib.index (tx t) (sign.map UInt8.ofNat) = -1 then -1 else Lib.index (tx t) (sign.map UInt8.ofNat) + (m.length : Nat) := by
        cases sign with
        | nil => exact absurd rfl hne
        | cons y s =>
          have hy := hs y (by simp)
          rw [List.map_cons]
          refine index_high _ _ (by rw [asc_toNat hy]; exact hy) m _ ?_
          intro b hb
          by_cases h1 : c < 128
          · rw [runeB_one h1] at hx
            cases hx
            cases hb
          · exact runeB_high (charR_ok (hl c (by simp))) (by omega) b (by rw [hx]; simp [hb])
      have hlen : (runeB c).length = m.length + 1 := by rw [hx]; rfl
      rw [cutL, if_neg hh, ht, Lib.index, if_neg (by rw [hp]; decide), hm]
      refine ⟨?_, ?_⟩
      · intro a b h
        cases hc : cutL sign t with
        | none => rw [hc] at h; cases h
        | some ab =>
          obtain ⟨a', b'⟩ := ab
          rw [hc] at h
          cases h
          obtain ⟨e1, e2⟩ := ih.1 a' b' hc
          rw [e1]
          have n1 : ¬ (((tx a').length : Nat) : Int) = -1 := by omega
          have n2 : ¬ ((((tx a').length : Nat) : Int) + (m.length : Nat)) = -1 := by omega
          refine ⟨?_, by rw [e2]; rfl⟩
          rw [if_neg n1, if_neg (by simpa using n2)]
          show _ = (((tx (c :: a')).length : Nat) : Int)
          rw [tx_cons, List.length_append, hlen]
          omega
      · intro h
        cases hc : cutL sign t with
        | none => rw [ih.2 hc]; rfl
        | some ab => rw [hc] at h; cases h
theorem cutL_app {sign l a b : List Nat} (hs : ∀ c ∈ sign, c < 128) (hne : sign ≠ []) (hl : okL l) (h : cutL sign l = some (a, b)) : l = a ++ sign ++ b := ((index_tx sign hs hne l hl).1 a b h).2
theorem sign_len_tx {sign : List Nat} (hs : ∀ c ∈ sign, c < 128) : tx sign = sign.map UInt8.ofNat := by
  induction sign with
  | nil => rfl
  | cons c t ih => rw [tx_cons, runeB_one (hs c (by simp)), ih (fun x hx => hs x (by simp [hx]))]; rfl
/-- A text that is cut at signs below 128. -/
theorem cut_txs (sign : List Nat) (hs : ∀ c ∈ sign, c < 128) (hne : sign ≠ []) (l : List Nat) (hl : okL l) : Lib.cut (tx l) (sign.map UInt8.ofNat) =
    match cutL sign l with | some (a, b) => (tx a, tx b, true) | none => (tx l, [], false) := by
  have h := index_tx sign hs hne l hl
  unfold Lib.cut
  cases hc : cutL sign l with
  | none => rw [h.2 hc]; rfl
  | some ab =>
    obtain ⟨a, b⟩ := ab
    obtain ⟨e1, e2⟩ := h.1 a b hc
    rw [e1, if_pos (by omega)]
    have e3 : tx l = tx a ++ (sign.map UInt8.ofNat ++ tx b) := by
      conv => lhs; rw [e2, tx_append, tx_append, sign_len_tx hs]
      rw [List.append_assoc]
    simp only [Int.toNat_natCast]
    rw [e3, List.take_left, ← List.drop_drop, List.drop_left, List.drop_left]
theorem cutL_len {sign : List Nat} (hne : sign ≠ []) : ∀ {l a b : List Nat}, cutL sign l = some (a, b) → a.length + sign.length ≤ l.length
  | [], a, b, h => by rw [cutL] at h; cases h
  | c :: t, a, b, h => by
    rw [cutL] at h
    split at h
    · rename_i hp
      cases h
      have := (List.isPrefixOf_iff_prefix.1 hp).length_le
      simpa using this
    · cases hc : cutL sign t with
      | none => rw [hc] at h; cases h
      | some ab =>
        rw [hc] at h
        cases h
        have := cutL_len hne (a := ab.1) (b := ab.2) (l := t) (by rw [hc])
        simp only [List.length_cons]
        omega
end Go.Proofs.YtkklapoceknbcaaGreatDoor
/- Where a reader of XML stands, in memory: its text and its place. -/
namespace Go.Proofs.YtkklapoceknbcaaGreatDoor
open Go.RowKit
theorem keptC {w w' : World} {p : Addr} {v : Value} (hb : Below w.heap.size w w') (h : w.cell? p = some v) : w'.cell? p = some v := by
  rw [hb.cell (block_lt_of_cell h)]; exact h
theorem keptO {w w' : World} {p : Addr} {v : Value} (hb : Below w.heap.size w w') (h : w.cell? p = some v) (o : w.frozen? p = false) : w'.frozen? p = false := by
  rw [hb.frozen (block_lt_of_cell h)]; exact o
theorem blk_cell {w : World} {p : Nat} {c : Array Value} {t : TypeId} {z : Nat × Nat} (h : w.heap[p]? = some (.cells c t z)) (i : Nat) : w.cell? ⟨p, i, none⟩ = c[i]? := by simp [World.cell?, h]
theorem blk_open {w : World} {p : Nat} {c : Array Value} {t : TypeId} (h : w.heap[p]? = some (.cells c t (0, 0))) (i : Nat) : w.frozen? ⟨p, i, none⟩ = false := by simp [World.frozen?, h]
theorem blk_set {w : World} {p : Nat} {c : Array Value} {t : TypeId} {z : Nat × Nat} (h : w.heap[p]? = some (.cells c t z)) (i : Nat) (v : Value) :
    (w.setCell ⟨p, i, none⟩ v).heap[p]? = some (.cells (c.setIfInBounds i v) t z) := by simp [World.setCell, Array.getElem?_modify, h]
theorem blk_other {w : World} {p k : Nat} (h : k ≠ p) (i : Nat) (v : Value) : (w.setCell ⟨p, i, none⟩ v).heap[k]? = w.heap[k]? := by
  simp [World.setCell, Array.getElem?_modify, Ne.symm h]
theorem blk_size (w : World) (a : Addr) (v : Value) : (w.setCell a v).heap.size = w.heap.size := by simp [World.setCell]
theorem cell_blk {w : World} {p i : Nat} {v : Value} (h : w.cell? ⟨p, i, none⟩ = some v) : ∃ c t z, w.heap[p]? = some (.cells c t z) ∧ c[i]? = some v := by
  unfold World.cell? at h
  split at h
  · rename_i c t z hc
    exact ⟨c, t, z, hc, by simpa using h⟩
  · cases h
/-- A cell that is written with what it holds. -/
theorem set_same {w : World} {p i : Nat} {v : Value} (h : w.cell? ⟨p, i, none⟩ = some v) (k : Nat) : (w.setCell ⟨p, i, none⟩ v).heap[k]? = w.heap[k]? := by
  by_cases hk : k = p
  · subst hk
    obtain ⟨c, t, z, hc, hv⟩ := cell_blk h
    rw [blk_set hc, hc]
    congr 2
    apply Array.ext_getElem?
    intro j
    rw [Array.getElem?_setIfInBounds]
    split
    · rename_i hj; subst hj; rw [hv]; simp [(Array.getElem?_eq_some_iff.1 hv).1]
    · rfl
  · exact blk_other hk i v
theorem set_twice (w : World) (p i : Nat) (u v : Value) (k : Nat) : ((w.setCell ⟨p, i, none⟩ u).setCell ⟨p, i, none⟩ v).heap[k]? = (w.setCell ⟨p, i, none⟩ v).heap[k]? := by
  by_cases hk : k = p
  · subst hk
    cases h : w.heap[k]? with
    | none => simp [World.setCell, Array.getElem?_modify, h]
    | some o =>
      cases o <;> simp [World.setCell, Array.getElem?_modify, h]
  · rw [blk_other hk, blk_other hk, blk_other hk]
/-- The world is the old one, but for the place of the reader p, and new blocks. -/
def Moves (p n : Nat) (w w' : World) : Prop := Below w.heap.size (w.setCell ⟨p, 1, none⟩ (.int .i64 (n : Nat))) w'
/-- A reader's text, and its place in it. -/
structure AtR (w : World) (p : Nat) (pre rest : List Nat) : Prop where
  txt : w.cell? ⟨p, 0, none⟩ = some (.string (T (pre ++ rest)))
  pos : w.cell? ⟨p, 1, none⟩ = some (.int .i64 ((tx pre).length : Nat))
  thaw : w.frozen? ⟨p, 1, none⟩ = false
theorem Moves.below {p n : Nat} {w w' : World} (h : Moves p n w w') : Below (w.setCell ⟨p, 1, none⟩ (.int .i64 (n : Nat))).heap.size (w.setCell ⟨p, 1, none⟩ (.int .i64 (n : Nat))) w' := by
  rw [blk_size]; exact h
theorem Moves.size {p n : Nat} {w w' : World} (h : Moves p n w w') : w.heap.size ≤ w'.heap.size := by
  have := Below.size h
  rwa [blk_size] at this
theorem Moves.block {p n : Nat} {w w' : World} (h : Moves p n w w') {k : Nat} (hk : k < w.heap.size) (hp : k ≠ p) : w'.heap[k]? = w.heap[k]? := by
  rw [Below.block h k hk, blk_other hp]
theorem Moves.own {p n : Nat} {w w' : World} (h : Moves p n w w') {c : Array Value} {t : TypeId} {z : Nat × Nat} (hp : w.heap[p]? = some (.cells c t z)) : w'.heap[p]? = some (.cells (c.setIfInBounds 1 (.int .i64 (n : Nat))) t z) := by
  rw [Below.block h p (Array.getElem?_eq_some_iff.1 hp).1, blk_set hp]
theorem Moves.low {p n B : Nat} {w w' : World} (h : Moves p n w w') (hp : B ≤ p) (hB : B ≤ w.heap.size) : Below B w w' :=
  Below.trans ((Below.refl B w).setCell (p := ⟨p, 1, none⟩) hp _) (Below.mono h hB)
theorem AtR.stay {w w' : World} {p : Nat} {pre rest : List Nat} (h : AtR w p pre rest) (hb : Below w.heap.size w w') : Moves p (tx pre).length w w' :=
  ⟨hb.os, hb.tape, hb.output, by rw [blk_size]; exact hb.size, fun k hk => by rw [hb.block k hk, set_same h.pos]⟩
theorem Moves.then {p n k : Nat} {a b c : World} (h : Moves p n a b) (g : Moves p k b c) : Moves p k a c := by
  refine ⟨g.os.trans h.os, g.tape.trans h.tape, g.output.trans h.output, by rw [blk_size]; exact Nat.le_trans h.size g.size, fun j hj => ?_⟩
  rw [Below.block g j (Nat.lt_of_lt_of_le hj h.size)]
  by_cases hp : j = p
  · subst hp
    have e := Below.block h j hj
    rw [← set_twice a j 1 (.int .i64 (n : Nat)) (.int .i64 (k : Nat)) j]
    unfold World.setCell at e ⊢
    simp only [Array.getElem?_modify, if_true] at e ⊢
    rw [e]
  · rw [blk_other hp, blk_other hp, h.block hj hp]
theorem Moves.still {p n : Nat} {a b c : World} (h : Moves p n a b) (g : Below b.heap.size b c) : Moves p n a c :=
  Below.trans h (Below.mono g h.size)
theorem AtR.moved {w w' : World} {p : Nat} {pre rest pre' rest' : List Nat} (h : AtR w p pre rest) (hm : Moves p (tx pre').length w w') (e : pre' ++ rest' = pre ++ rest) : AtR w' p pre' rest' := by
  obtain ⟨c, t, z, hc, h1⟩ := cell_blk h.pos
  have h0 := h.txt
  have hf := h.thaw
  rw [blk_cell hc] at h0
  have hw := hm.own hc
  have hs : 1 < c.size := (Array.getElem?_eq_some_iff.1 h1).1
  refine ⟨?_, ?_, ?_⟩
  · rw [blk_cell hw, Array.getElem?_setIfInBounds_ne (by decide), h0, e]
  · rw [blk_cell hw, Array.getElem?_setIfInBounds_self_of_lt hs]
  · unfold World.frozen? at hf ⊢
    rw [hc] at hf
    rw [hw]
    exact hf
theorem AtR.keep {w w' : World} {p : Nat} {pre rest : List Nat} (h : AtR w p pre rest) (hb : Below w.heap.size w w') : AtR w' p pre rest := h.moved (h.stay hb) rfl
theorem AtR.lt {w : World} {p : Nat} {pre rest : List Nat} (h : AtR w p pre rest) : p < w.heap.size := block_lt_of_cell h.pos
/-- Behind a store into the place itself. -/
theorem AtR.put {w : World} {p : Nat} {pre rest pre' : List Nat} {n : Nat} (_ : AtR w p pre rest) (e : n = (tx pre').length) : Moves p (tx pre').length w (w.setCell ⟨p, 1, none⟩ (.int .i64 (n : Nat))) := by
  subst e
  exact Below.refl _ _
end Go.Proofs.YtkklapoceknbcaaGreatDoor
/- A reader's small steps: what it sees, takes, passes by: xmlscan's rest, sees, take, takeTo, blanks, name. -/
namespace Go.Proofs.YtkklapoceknbcaaGreatDoor
open Go.RowKit
abbrev AtS (w : World) (p : Nat) (s : RS) : Prop := AtR w p s.pre s.rest
/-- A reader of a text of characters that may be, that is not too long. -/
structure Fine (s : RS) : Prop where
  ok : okL (s.pre ++ s.rest)
  le : (T (s.pre ++ s.rest)).size ≤ 32768
theorem adv_whole (s : RS) (n : Nat) : (s.adv n).pre ++ (s.adv n).rest = s.pre ++ s.rest := by
  unfold RS.adv
  simp only
  rw [List.append_assoc, List.take_append_drop]
theorem Fine.adv {s : RS} (h : Fine s) (n : Nat) : Fine (s.adv n) := ⟨by rw [adv_whole]; exact h.ok, by rw [adv_whole]; exact h.le⟩
theorem Fine.okR {s : RS} (h : Fine s) : okL s.rest := okL_right h.ok
theorem Fine.sum {s : RS} (_ : Fine s) : s.place + (T s.rest).size = (T (s.pre ++ s.rest)).size := by
  unfold RS.place
  rw [T_size, T_size, tx_len_app]
theorem Fine.lt {s : RS} (h : Fine s) : s.place + (T s.rest).size ≤ 32768 := by rw [h.sum]; exact h.le
theorem place_adv (s : RS) (n : Nat) : (s.adv n).place = s.place + (T (s.rest.take n)).size := by
  unfold RS.place RS.adv
  simp only
  rw [tx_len_app, T_size]
theorem place_pre (s : RS) {a : List Nat} (h : a <+: s.rest) : (s.adv a.length).place = s.place + (T a).size := by
  rw [place_adv, (List.prefix_iff_eq_take.1 h).symm]
theorem AtR.to {w w' : World} {p : Nat} {s : RS} {n : Nat} (h : AtS w p s) (hm : Moves p (s.adv n).place w w') : AtS w' p (s.adv n) := h.moved hm (adv_whole s n)
theorem asc_size {a : List Nat} {u : ByteArray} (ha : ∀ c ∈ a, c < 128) (hu : u.data.toList = a.map UInt8.ofNat) : (T a).size = u.size := by
  rw [T_size, sign_len_tx ha, ← hu]; rfl
set_option maxHeartbeats 1000000 in
theorem rest_any (p : Nat) (s : RS) (w : World) (h : AtS w p s) :
    Calls Tryz.prog 68 #[.pointer (some ⟨p, 0, none⟩)] w fun e w' => e = .returned (.string (T s.rest)) ∧ Below w.heap.size w w' := by
  have h0 := h.txt
  have h1 := h.pos
  have hle : (tx s.pre).length ≤ (T (s.pre ++ s.rest)).size := by rw [T_size, tx_len_app]; omega
  have HS := hide (T_suf s.pre s.rest)
  clear h
  generalize (tx s.pre).length = n at *
  generalize T (s.pre ++ s.rest) = t at *
  go_enter Tryz.func68, Tryz.ntmps68
  go_wp2_with fail
  go_region
  all_goals go_wp2
  all_goals go_ret
  all_goals exact ⟨ret_str (unhide HS), below_drewN w 1⟩
set_option maxHeartbeats 1000000 in
theorem sees_any (a : List Nat) (u : ByteArray) (hu : u.data.toList = a.map UInt8.ofNat) (ha : ∀ c ∈ a, c < 128) (p : Nat) (s : RS) (w : World) (h : AtS w p s) (hf : Fine s) :
    Calls Tryz.prog 38 #[.pointer (some ⟨p, 0, none⟩), .string u] w fun e w' => e = .returned (.bool (a.isPrefixOf s.rest)) ∧ Below w.heap.size w w' := by
  go_enter Tryz.func38, Tryz.ntmps38
  go_wp2_with fail
  refine (rest_any p s _ h).mono ?_
  rintro e w1 ⟨rfl, hb1⟩
  go_wp2_with fail
  refine (hasPrefix_T a u hu ha s.rest hf.okR _).mono ?_
  rintro e w2 ⟨rfl, rfl⟩
  go_wp2
  go_ret
  exact ⟨rfl, hb1⟩
set_option maxHeartbeats 1000000 in
theorem take_yes (a : List Nat) (u : ByteArray) (hu : u.data.toList = a.map UInt8.ofNat) (ha : ∀ c ∈ a, c < 128) (p : Nat) (s : RS) (w : World) (h : AtS w p s) (hf : Fine s) (hp : a.isPrefixOf s.rest = true) :
    Calls Tryz.prog 75 #[.pointer (some ⟨p, 0, none⟩), .string u] w fun e w' => e = .returned (.bool true) ∧ Moves p (s.adv a.length).place w w' := by
  have HA := hide ha
  have HU := hide hu
  have HF := hide hf
  have hlt := hf.lt
  have hz : (T a).size ≤ (T s.rest).size := size_pre (List.isPrefixOf_iff_prefix.1 hp)
  have hus : u.size = (T a).size := (asc_size ha hu).symm
  have HPL := hide ((place_pre s (List.isPrefixOf_iff_prefix.1 hp)).trans (by rw [← hus]))
  rw [← hus] at hz
  clear ha hu hus
  go_enter Tryz.func75, Tryz.ntmps75
  go_wp2_with fail
  refine (sees_any a u (unhide HU) (unhide HA) p s _ h (unhide HF)).mono ?_
  rintro e w1 ⟨rfl, hb1⟩
  have h1 := h.keep hb1
  have hm := h.stay hb1
  have c1 : w1.cell? ⟨p, 1, none⟩ = some (.int .i64 (s.place : Nat)) := h1.pos
  have o1 := h1.thaw
  rw [hp]
  go_wp2
  go_ret
  refine ⟨rfl, hm.then ?_⟩
  rw [unhide HPL]
  exact Below.refl _ _
set_option maxHeartbeats 1000000 in
theorem take_no (a : List Nat) (u : ByteArray) (hu : u.data.toList = a.map UInt8.ofNat) (ha : ∀ c ∈ a, c < 128) (p : Nat) (s : RS) (w : World) (h : AtS w p s) (hf : Fine s) (hp : a.isPrefixOf s.rest = false) :
    Calls Tryz.prog 75 #[.pointer (some ⟨p, 0, none⟩), .string u] w fun e w' => e = .returned (.bool false) ∧ Below w.heap.size w w' := by
  go_enter Tryz.func75, Tryz.ntmps75
  go_wp2_with fail
  refine (sees_any a u hu ha p s _ h hf).mono ?_
  rintro e w1 ⟨rfl, hb1⟩
  rw [hp]
  go_wp2
  go_ret
  exact ⟨rfl, hb1⟩
end Go.Proofs.YtkklapoceknbcaaGreatDoor
/- A reader's small steps, more: xmlscan's takeTo, blanks, nameAhead, name, qname. -/
namespace Go.Proofs.YtkklapoceknbcaaGreatDoor
open Go.RowKit
/-- strings.Cut of a text at signs below 128. -/
theorem cut_T (a : List Nat) (u : ByteArray) (hu : u.data.toList = a.map UInt8.ofNat) (ha : ∀ c ∈ a, c < 128) (hne : a ≠ []) (l : List Nat) (hl : okL l) (hs : (T l).size ≤ 32768) (w : World) (hE : Env w) :
    Calls Tryz.prog 108 #[.string (T l), .string u] w fun e w' => e = .returned (match cutL a l with | some (x, y) => .tuple #[.string (T x), .string (T y), .bool true] | none => .tuple #[.string (T l), .string ⟨#[]⟩, .bool false]) ∧ Below w.heap.size w w' := by
  obtain ⟨m, hm⟩ := hE.len
  refine (Tryz.strings_Cut (T l) u m w (by omega) hm).mono ?_
  rintro e w' ⟨rfl, nd, rfl⟩
  refine ⟨?_, below_drewN w nd⟩
  rw [T_data, hu, cut_txs a ha hne l hl]
  cases cutL a l with
  | none => rfl
  | some xy => rfl
theorem cut_place {a : List Nat} (ha : ∀ c ∈ a, c < 128) (hne : a ≠ []) {s : RS} (hf : Fine s) {x y : List Nat} (hc : cutL a s.rest = some (x, y)) : (s.adv (x.length + a.length)).place = s.place + ((T x).size + (T a).size) ∧ (T x).size + (T a).size ≤ (T s.rest).size := by
  have e := cutL_app ha hne hf.okR hc
  have hp : x ++ a <+: s.rest := ⟨y, by rw [e]⟩
  have := place_pre s hp
  rw [List.length_append, sz_app] at this
  refine ⟨this, ?_⟩
  have hz := size_pre hp
  rwa [sz_app] at hz
set_option maxHeartbeats 1000000 in
theorem takeTo_yes (a : List Nat) (u : ByteArray) (hu : u.data.toList = a.map UInt8.ofNat) (ha : ∀ c ∈ a, c < 128) (hne : a ≠ []) (p : Nat) (s : RS) (x y : List Nat) (w : World) (h : AtS w p s) (hf : Fine s) (hE : Env w) (hc : cutL a s.rest = some (x, y)) :
    Calls Tryz.prog 101 #[.pointer (some ⟨p, 0, none⟩), .string u] w fun e w' => e = .returned (.tuple #[.string (T x), .bool true]) ∧ Moves p (s.adv (x.length + a.length)).place w w' := by
  have HC : Hid _ := hide (fun W hW => cut_T a u hu ha hne s.rest hf.okR (by have := hf.lt; omega) W hW)
  obtain ⟨hpl, hz⟩ := cut_place ha hne hf hc
  have hlt := hf.lt
  have hus : u.size = (T a).size := (asc_size ha hu).symm
  rw [← hus] at hpl hz
  have HPL := hide hpl
  clear hpl hus hu ha hne
  go_enter Tryz.func101, Tryz.ntmps101
  go_wp2_with fail
  refine (rest_any p s _ h).mono ?_
  rintro e w1 ⟨rfl, hb1⟩
  go_wp2_with fail
  refine (unhide HC _ (hE.below hb1)).mono ?_
  rintro e w2 ⟨rfl, hb2⟩
  rw [hc]
  have hbb := Below.then hb1 hb2
  have h1 := h.keep hbb
  have hm := h.stay hbb
  have c1 : w2.cell? ⟨p, 1, none⟩ = some (.int .i64 (s.place : Nat)) := h1.pos
  have o1 := h1.thaw
  go_wp2
  go_ret2
  refine ⟨rfl, hm.then ?_⟩
  rw [unhide HPL]
  exact Below.refl _ _
set_option maxHeartbeats 1000000 in
theorem takeTo_no (a : List Nat) (u : ByteArray) (hu : u.data.toList = a.map UInt8.ofNat) (ha : ∀ c ∈ a, c < 128) (hne : a ≠ []) (p : Nat) (s : RS) (w : World) (h : AtS w p s) (hf : Fine s) (hE : Env w) (hc : cutL a s.rest = none) :
    Calls Tryz.prog 101 #[.pointer (some ⟨p, 0, none⟩), .string u] w fun e w' => e = .returned (.tuple #[.string (T s.rest), .bool false]) ∧ Below w.heap.size w w' := by
  have HC : Hid _ := hide (fun W hW => cut_T a u hu ha hne s.rest hf.okR (by have := hf.lt; omega) W hW)
  go_enter Tryz.func101, Tryz.ntmps101
  go_wp2_with fail
  refine (rest_any p s _ h).mono ?_
  rintro e w1 ⟨rfl, hb1⟩
  go_wp2_with fail
  refine (unhide HC _ (hE.below hb1)).mono ?_
  rintro e w2 ⟨rfl, hb2⟩
  rw [hc]
  go_wp2
  go_ret2
  exact ⟨rfl, Below.then hb1 hb2⟩
theorem blank_place (s : RS) : s.blanks.place = s.place + (T (s.rest.takeWhile blankC)).size := place_pre s (List.takeWhile_prefix _)
theorem blank_split {s : RS} : (T s.rest).size = (T (s.rest.takeWhile blankC)).size + (T (s.rest.dropWhile blankC)).size := by
  rw [← sz_app, List.takeWhile_append_dropWhile]
theorem blanks_rest (s : RS) : s.blanks.rest = s.rest.dropWhile blankC := by
  show s.rest.drop (s.rest.takeWhile blankC).length = _
  have := List.drop_left (l₁ := s.rest.takeWhile blankC) (l₂ := s.rest.dropWhile blankC)
  rwa [List.takeWhile_append_dropWhile] at this
set_option maxHeartbeats 1000000 in
theorem blanks_any (p : Nat) (s : RS) (w : World) (h : AtS w p s) (hf : Fine s) :
    Calls Tryz.prog 37 #[.pointer (some ⟨p, 0, none⟩)] w fun e w' => e = .returned (.bool s.blank) ∧ Moves p s.blanks.place w w' := by
  have HF := hide hf
  have hlt := hf.lt
  have hok := hf.okR
  have HPL := hide (blank_place s)
  have hsp := blank_split (s := s)
  have HBR := hide (blanks_rest s)
  have HB : Hid (s.blank = decide ((T (s.rest.dropWhile blankC)).size < (T s.rest).size)) := by
    refine hide ?_
    unfold RS.blank
    cases hx : s.rest.takeWhile blankC with
    | nil =>
      rw [hx] at hsp
      have : (T []).size = 0 := rfl
      rw [decide_eq_false (by omega)]
      rfl
    | cons c t =>
      have h1 : 0 < (T (c :: t)).size := by
        rw [T_size]
        exact Nat.pos_of_ne_zero fun h0 => by
          have := tx_len_zero (l := c :: t) (okL_pre hok (by rw [← hx]; exact List.takeWhile_prefix _)) h0
          cases this
      rw [hx] at hsp
      rw [decide_eq_true (by omega)]
      rfl
  have hdz : (T (s.rest.dropWhile blankC)).size ≤ (T s.rest).size := by omega
  have e1 : IntKind.i64.wrap (((T s.rest).size : Int) - ((T (s.rest.dropWhile blankC)).size : Int)) = ((T (s.rest.takeWhile blankC)).size : Int) := by rw [IntKind.wrap_i64]; omega
  have e2 : IntKind.i64.wrap ((s.place : Int) + ((T (s.rest.takeWhile blankC)).size : Int)) = ((s.blanks.place : Nat) : Int) := by rw [IntKind.wrap_i64, unhide HPL]; omega
  have HSP := hide hsp
  clear hsp
  have HT : Hid (∀ W : World, Calls Tryz.prog 69 #[.string (T s.rest), .func (.func 70) #[] #[]] W fun e w' => e = .returned (.string (T (s.rest.dropWhile blankC))) ∧ Below W.heap.size W w') := by
    refine hide fun W => ?_
    have := Tryz.strings_TrimLeftFunc_runes 70 #[] isBlank_enters blankN (T s.rest) W (isBlank_runes _)
    rwa [trim_T hok] at this
  have HR : Hid (∀ W : World, Below w.heap.size w W → Calls Tryz.prog 68 #[.pointer (some ⟨p, 0, none⟩)] W fun e w' => e = .returned (.string (T s.rest)) ∧ Below W.heap.size W w') := hide fun W hW => rest_any p s W (h.keep hW)
  have H1 := hide h
  have hp1 : ∀ W : World, Below w.heap.size w W → W.cell? ⟨p, 1, none⟩ = some (.int .i64 (s.place : Nat)) := fun W hW => (h.keep hW).pos
  have hp2 : ∀ W : World, Below w.heap.size w W → W.frozen? ⟨p, 1, none⟩ = false := fun W hW => (h.keep hW).thaw
  have hpz := h.lt
  clear hf hok h
  go_enter Tryz.func37, Tryz.ntmps37
  go_wp2_with fail
  refine (unhide HR _ (Below.refl _ _)).mono ?_
  rintro e w1 ⟨rfl, hb1⟩
  go_wp2_with fail
  have c1 := hp1 _ hb1
  have o1 := hp2 _ hb1
  go_region_with
    (first
      | (go_at_call 68; refine (unhide HR _ hb1.drew).mono ?_; rintro e w2 ⟨rfl, hb2⟩; have hk2 : Below w.heap.size w w2 := Below.trans hb1.drew (hb2.mono hb1.drew.size); have c2 := hp1 _ hk2; have o2 := hp2 _ hk2)
      | (go_at_call 69; refine (unhide HT _).mono ?_; rintro e w3 ⟨rfl, hb3⟩; have hk3 : Below w.heap.size w w3 := Below.trans hk2 (hb3.mono hk2.size); have c3 := hp1 _ hk3; have o3 := hp2 _ hk3))
  all_goals have ha := (unhide H1).moved (pre' := s.blanks.pre) (rest' := s.blanks.rest) (((unhide H1).stay hk3).then (Below.refl _ _)) (adv_whole s _)
  all_goals have hm := ((unhide H1).stay hk3).then (Below.refl w3.heap.size (w3.setCell ⟨p, 1, none⟩ (.int .i64 (s.blanks.place : Nat))))
  all_goals go_wp2_with (go_at_call 68; refine (rest_any p s.blanks _ ha).mono ?_; rintro e w4 ⟨rfl, hb4⟩; rw [unhide HBR])
  all_goals go_ret
  all_goals exact ⟨by rw [unhide HB]; exact ret_bool (by simp), hm.still hb4⟩
end Go.Proofs.YtkklapoceknbcaaGreatDoor
/- A reader's small steps, more: xmlscan's nameAhead, name, qname, quote, quoted, equals. -/
namespace Go.Proofs.YtkklapoceknbcaaGreatDoor
open Go.RowKit
set_option maxHeartbeats 1000000 in
theorem xNameAhead_any (l : List Nat) (w : World) (hl : okL l) :
    Calls Tryz.prog 35 #[.string (T l)] w fun e w' => e = .returned (.string (T (nameA l))) ∧ Below w.heap.size w w' := by
  go_enter Tryz.func35, Tryz.ntmps35
  go_wp2_with fail
  go_loopw [] (fun wr => ∃ p t : List Nat, l = p ++ t ∧ nameA p = p ∧ wr.heap[w.heap.size]? = some (.stringIter (T l) (tx p).length) ∧ Below w.heap.size w wr) (fun wr => (T l).size - wr.iterPos w.heap.size)
  case atStart => exact ⟨[], l, rfl, rfl, World.iter_heap _ _ _, (Below.refl _ _).alloc (Nat.le_refl _) _⟩
  case round =>
    obtain ⟨p, t, hpt, hp, hk, hbr⟩ := hrel
    cases t with
    | nil =>
      have hnx := fun ty => Lib.run_next_end_at (P := Tryz.prog) wr w.heap.size (T l) (tx p).length ty hk (end_at hpt)
      have HPT := hide hpt
      have HP := hide hp
      clear hpt hp hk
      go_wp2
      go_ret
      refine ⟨ret_str ?_, hbr⟩
      rw [unhide HPT, List.append_nil, unhide HP]
    | cons c t =>
      obtain ⟨hd, hlt, hc, hpos⟩ := dec_at hpt hl
      have hnx := fun ty => Lib.run_next_any_at (P := Tryz.prog) wr w.heap.size (T l) (tx p).length ty hk hlt
      rw [hd] at hnx
      simp only at hnx
      have HS := hide (tx_snoc p c)
      have HX := hide (pre_at hpt)
      have HPT := hide hpt
      have HP := hide hp
      have HK := hide hk
      have hbc := begC_eq c hc
      have hgc := goC_eq c hc
      have HB := hide hbc
      have HG := hide hgc
      have H0 : Hid ((tx p).length = 0 ↔ p = []) := hide ⟨fun h => tx_len_zero (okL_left (hpt ▸ hl)) h, fun h => by rw [h]; rfl⟩
      clear hd hpt hp hk hbc hgc
      generalize (tx p).length = n at *
      by_cases hz : n = 0
      · subst hz
        have hp0 := (unhide H0).1 rfl
        cases hb : begC c
        · have HBF := hide hb
          clear hb
          go_wp2_with (go_at_call 65; refine (begins_any _ _).mono ?_; rintro e w1 ⟨rfl, hb1⟩; rw [unhide HB, unhide HBF])
          go_ret
          refine ⟨ret_str ?_, (iter_on (unhide HK) hbr hb1).2⟩
          rw [unhide HPT, hp0, List.nil_append, nameA_no (unhide HBF)]
          rfl
        · have HBT := hide hb
          have HGT := hide (goC_of_beg hb)
          clear hb
          go_wp2_with (first | (go_at_call 65; refine (begins_any _ _).mono ?_; rintro e w1 ⟨rfl, hb1⟩; rw [unhide HB, unhide HBT]) | (go_at_call 66; refine (goesOn_any _ _).mono ?_; rintro e w2 ⟨rfl, hb2⟩; rw [unhide HG, unhide HGT]))
          obtain ⟨q1, q2⟩ := iter_on (unhide HK) hbr (Below.then hb1 hb2)
          refine ⟨⟨p ++ [c], t, by rw [unhide HPT]; simp, by rw [hp0]; exact nameA_one (unhide HBT), by rw [unhide HS, Nat.zero_add]; exact q1, q2⟩, ?_⟩
          rw [iterPos_of q1, iterPos_of (unhide HK)]; omega
      · have hz' : ((n : Int) == 0) = false := by simpa using hz
        have hp0 : p ≠ [] := fun h => hz ((unhide H0).2 h)
        cases hg : goC c
        · have HGF := hide hg
          clear hg
          go_wp2_with (go_at_call 66; refine (goesOn_any _ _).mono ?_; rintro e w2 ⟨rfl, hb2⟩; rw [unhide HG, unhide HGF])
          go_ret
          refine ⟨ret_str ?_, (iter_on (unhide HK) hbr hb2).2⟩
          rw [unhide HX, unhide HPT, nameA_run p (c :: t) (fun x hx => by cases hx; exact unhide HGF) (unhide HP) hp0]
        · have HGT := hide hg
          clear hg
          go_wp2_with (go_at_call 66; refine (goesOn_any _ _).mono ?_; rintro e w2 ⟨rfl, hb2⟩; rw [unhide HG, unhide HGT])
          obtain ⟨q1, q2⟩ := iter_on (unhide HK) hbr hb2
          refine ⟨⟨p ++ [c], t, by rw [unhide HPT]; simp, nameA_snoc (unhide HP) hp0 (unhide HGT), by rw [unhide HS]; exact q1, q2⟩, ?_⟩
          rw [iterPos_of q1, iterPos_of (unhide HK)]; omega
set_option maxHeartbeats 1000000 in
theorem name_any (p : Nat) (s : RS) (w : World) (h : AtS w p s) (hf : Fine s) :
    Calls Tryz.prog 102 #[.pointer (some ⟨p, 0, none⟩)] w fun e w' => e = .returned (.string (T (nameA s.rest))) ∧ Moves p s.name.place w w' := by
  have hok := hf.okR
  have hlt := hf.lt
  have hz := size_pre (nameA_pre s.rest)
  have HPL := hide (show s.name.place = s.place + (T (nameA s.rest)).size from place_pre s (nameA_pre s.rest))
  clear hf
  go_enter Tryz.func102, Tryz.ntmps102
  go_wp2_with fail
  refine (rest_any p s _ h).mono ?_
  rintro e w1 ⟨rfl, hb1⟩
  go_wp2_with fail
  refine (xNameAhead_any s.rest _ hok).mono ?_
  rintro e w2 ⟨rfl, hb2⟩
  have hbb := Below.then hb1 hb2
  have h1 := h.keep hbb
  have hm := h.stay hbb
  have c1 : w2.cell? ⟨p, 1, none⟩ = some (.int .i64 (s.place : Nat)) := h1.pos
  have o1 := h1.thaw
  go_wp2
  go_ret
  refine ⟨rfl, hm.then ?_⟩
  rw [unhide HPL]
  exact Below.refl _ _
set_option maxHeartbeats 2000000 in
theorem qname_any (p : Nat) (s : RS) (w : World) (h : AtS w p s) (hf : Fine s) :
    Calls Tryz.prog 76 #[.pointer (some ⟨p, 0, none⟩)] w fun e w' => e = .returned (.string (T (qnameA s.rest))) ∧ Moves p s.qname.place w w' := by
  have hok := hf.okR
  have hlt := hf.lt
  have hp := nameA_pre s.rest
  have hz := size_pre hp
  have HS := hide (suf_drop hp)
  have hod := okL_drop hok (nameA s.rest).length
  have HQ := hide (qnameA_eq s.rest)
  have hon := okL_pre hok hp
  have hzq := size_pre (qnameA_pre s.rest)
  have HPL := hide (show s.qname.place = s.place + (T (qnameA s.rest)).size from place_pre s (qnameA_pre s.rest))
  have hoq := okL_pre hok (qnameA_pre s.rest)
  have HNA := hide (fun W => xNameAhead_any s.rest W hok)
  clear hf hp
  generalize nameA s.rest = x at *
  generalize s.rest.drop x.length = d at *
  generalize qnameA s.rest = q at *
  go_enter Tryz.func76, Tryz.ntmps76
  go_wp2_with fail
  refine (rest_any p s _ h).mono ?_
  rintro e w1 ⟨rfl, hb1⟩
  go_wp2_with fail
  refine (unhide HNA _).mono ?_
  rintro e w2 ⟨rfl, hb2⟩
  have hbb2 := Below.then hb1 hb2
  go_wp2_with fail
  refine (rest_any p s _ (h.keep hbb2)).mono ?_
  rintro e w3 ⟨rfl, hb3⟩
  have hbb3 := Below.then hbb2 hb3
  by_cases hn : x = []
  · have h1 := nil_T hn
    have hqx : q = x := by rw [unhide HQ, hn]; rfl
    subst hqx
    clear hn HQ
    have h3 := h.keep hbb3
    have hm := h.stay hbb3
    have c1 : w3.cell? ⟨p, 1, none⟩ = some (.int .i64 (s.place : Nat)) := h3.pos
    have o1 := h3.thaw
    go_wp2
    go_ret
    refine ⟨rfl, hm.then ?_⟩
    rw [unhide HPL]
    exact Below.refl _ _
  · have h1 := ne_T hon hn
    have HX := hide (empty_not hn)
    go_wp2_with fail
    rw [unhide HS]
    refine (hasPrefix_T [58] ⟨#[58]⟩ rfl (by decide) d hod _).mono ?_
    rintro e w4 ⟨rfl, rfl⟩
    rw [isPre_one]
    cases hh : heads 58 d
    · have hqx : q = x := by rw [unhide HQ, hh, Bool.false_and, Bool.and_false, if_neg (by decide)]
      subst hqx
      have h3 := h.keep hbb3
      have hm := h.stay hbb3
      have c1 : w4.cell? ⟨p, 1, none⟩ = some (.int .i64 (s.place : Nat)) := h3.pos
      have o1 := h3.thaw
      go_wp2
      go_ret
      refine ⟨rfl, hm.then ?_⟩
      rw [unhide HPL]
      exact Below.refl _ _
    · have hdt : (T d).size = 1 + (T d.tail).size := by
        conv => lhs; rw [heads_true hh]
        exact sz_cons (by decide) _
      have hst : (T d).extract 1 (T d).size = T d.tail := by
        have e := heads_true hh
        have := T_suf [58] d.tail
        rw [show [58] ++ d.tail = d from e.symm] at this
        exact this
      have hot := okL_tl hod
      have HST := hide hst
      have h1d : 1 ≤ (T d).size := by omega
      clear hdt hst
      go_wp2_with fail
      rw [unhide HST]
      refine (xNameAhead_any d.tail _ hot).mono ?_
      rintro e w5 ⟨rfl, hb5⟩
      have hbb5 := Below.then hbb3 hb5
      have h5 := h.keep hbb5
      have hm := h.stay hbb5
      have c1 : w5.cell? ⟨p, 1, none⟩ = some (.int .i64 (s.place : Nat)) := h5.pos
      have o1 := h5.thaw
      have hoy := okL_pre hot (nameA_pre d.tail)
      generalize nameA d.tail = y at *
      by_cases hyn : y = []
      · have h2 := nil_T hyn
        have hqx : q = x := by rw [unhide HQ, hyn]; simp
        subst hqx
        clear hyn HQ
        go_wp2
        go_ret
        refine ⟨rfl, hm.then ?_⟩
        rw [unhide HPL]
        exact Below.refl _ _
      · have h2 := ne_T hoy hyn
        have hqx : q = x ++ 58 :: y := by rw [unhide HQ, unhide HX, hh, empty_not hyn]; rfl
        have hTq : T x ++ (⟨#[58]⟩ ++ T y) = T q := by
          rw [hqx, ← T_app]
          congr 1
        have HTQ := hide hTq
        have hsq : (T q).size = (T x).size + (1 + (T y).size) := by rw [hqx, sz_app, sz_cons (by decide)]
        have HSQ := hide hsq
        have hlq : s.place + ((T x).size + (1 + (T y).size)) ≤ 32768 := by omega
        clear hqx hTq hsq
        go_wp2
        go_ret
        rw [unhide HTQ]
        refine ⟨rfl, hm.then ?_⟩
        rw [unhide HPL, unhide HSQ]
        exact Below.refl _ _
end Go.Proofs.YtkklapoceknbcaaGreatDoor
/- A reader's small steps, more: xmlscan's quote, quoted, equals, fail. -/
namespace Go.Proofs.YtkklapoceknbcaaGreatDoor
open Go.RowKit
/-- What the package variables of the library hold; they all lie below B. -/
structure XEnv (B : Nat) (w : World) : Prop where
  env : Env w
  x : w.cell? ⟨2, 120, none⟩ = some (.int .u16 88)
  m : w.cell? ⟨2, 109, none⟩ = some (.int .u16 77)
  l : w.cell? ⟨2, 108, none⟩ = some (.int .u16 76)
  X : w.cell? ⟨2, 88, none⟩ = some (.int .u16 120)
  M : w.cell? ⟨2, 77, none⟩ = some (.int .u16 109)
  L : w.cell? ⟨2, 76, none⟩ = some (.int .u16 108)
  g1 : 5 < B
  g2 : 0 < B
  g3 : 1 < B
  g4 : 2 < B
theorem XEnv.low {B : Nat} {w w' : World} (h : XEnv B w) (hb : Below B w w') : XEnv B w' := by
  obtain ⟨⟨⟨m, hm⟩, t1, t2⟩, hx, hmm, hl, hX, hM, hL, g1, g2, g3, g4⟩ := h
  refine ⟨⟨⟨m, ?_⟩, ?_, ?_⟩, ?_, ?_, ?_, ?_, ?_, ?_, g1, g2, g3, g4⟩
  · rw [hb.cell g1]; exact hm
  · intro c hc; rw [hb.cell g2]; exact t1 c hc
  · intro i hi
    rw [hb.cell g3, hb.cell g3]; exact t2 i hi
  · rw [hb.cell g4]; exact hx
  · rw [hb.cell g4]; exact hmm
  · rw [hb.cell g4]; exact hl
  · rw [hb.cell g4]; exact hX
  · rw [hb.cell g4]; exact hM
  · rw [hb.cell g4]; exact hL
theorem XEnv.moved {B : Nat} {w w' : World} {p n : Nat} (h : XEnv B w) (hm : Moves p n w w') (hB : B ≤ p) (hp : p < w.heap.size) : XEnv B w' := h.low (hm.low hB (by omega))
theorem XEnv.on {B : Nat} {w w' : World} (h : XEnv B w) (hB : B ≤ w.heap.size) (hb : Below w.heap.size w w') : XEnv B w' := h.low (hb.mono hB)
theorem adv_adv (s : RS) (n m : Nat) : (s.adv n).adv m = s.adv (n + m) := by
  unfold RS.adv
  simp only [List.drop_drop, List.append_assoc, RS.mk.injEq, and_true, List.append_cancel_left_eq]
  rw [List.take_add]
/-- One state is another one, some characters on. -/
def Adv (s s' : RS) : Prop := ∃ k, s' = s.adv k
theorem Adv.then {a b c : RS} (h : Adv a b) (g : Adv b c) : Adv a c := by
  obtain ⟨k, rfl⟩ := h
  obtain ⟨m, rfl⟩ := g
  exact ⟨k + m, adv_adv _ _ _⟩
theorem Adv.by (s : RS) (n : Nat) : Adv s (s.adv n) := ⟨n, rfl⟩
theorem Adv.fine {s s' : RS} (h : Adv s s') (hf : Fine s) : Fine s' := by
  obtain ⟨k, rfl⟩ := h
  exact hf.adv k
theorem Adv.at {s s' : RS} (h : Adv s s') {w w' : World} {p : Nat} (ha : AtS w p s) (hm : Moves p s'.place w w') : AtS w' p s' := by
  obtain ⟨k, rfl⟩ := h
  exact ha.to hm
theorem Adv.blanks (s : RS) : Adv s s.blanks := ⟨_, rfl⟩
theorem Adv.take (s : RS) (a : List Nat) : Adv s (s.take a) := by
  unfold RS.take
  split
  · exact ⟨_, rfl⟩
  · exact ⟨0, by unfold RS.adv; simp⟩
theorem Adv.name (s : RS) : Adv s s.name := ⟨_, rfl⟩
theorem Adv.qname (s : RS) : Adv s s.qname := ⟨_, rfl⟩
theorem Adv.takeTo {s s' : RS} {a x : List Nat} (h : s.takeTo a = some (x, s')) : Adv s s' ∧ ∃ y, cutL a s.rest = some (x, y) ∧ s' = s.adv (x.length + a.length) := by
  unfold RS.takeTo at h
  cases hc : cutL a s.rest with
  | none => rw [hc] at h; cases h
  | some xy => rw [hc] at h; cases h; exact ⟨⟨_, rfl⟩, xy.2, rfl, rfl⟩
theorem takeTo_none {s : RS} {a : List Nat} (h : s.takeTo a = none) : cutL a s.rest = none := by
  unfold RS.takeTo at h
  cases hc : cutL a s.rest with
  | none => rfl
  | some xy => rw [hc] at h; cases h
theorem quote_some {s s' : RS} {q : Nat} (h : s.quote = some (q, s')) : s' = s.adv 1 ∧ heads q s.rest = true ∧ (q = 34 ∨ q = 39 ∧ heads 34 s.rest = false) := by
  unfold RS.quote at h
  split at h
  · rename_i hh; cases h; exact ⟨rfl, hh, .inl rfl⟩
  · rename_i hh
    split at h
    · rename_i h2; cases h; exact ⟨rfl, h2, .inr ⟨rfl, by simpa using hh⟩⟩
    · cases h
theorem quote_none {s : RS} (h : s.quote = none) : heads 34 s.rest = false ∧ heads 39 s.rest = false := by
  unfold RS.quote at h
  split at h
  · cases h
  · rename_i hh
    split at h
    · cases h
    · rename_i h2; exact ⟨by simpa using hh, by simpa using h2⟩
theorem Adv.quote {s s' : RS} {q : Nat} (h : s.quote = some (q, s')) : Adv s s' := ⟨1, (quote_some h).1⟩
theorem Adv.quoted {s s' : RS} {x : List Nat} (h : s.quoted = some (x, s')) : Adv s s' := by
  unfold RS.quoted at h
  cases hq : s.quote with
  | none => rw [hq] at h; cases h
  | some qs =>
    obtain ⟨q, s1⟩ := qs
    rw [hq] at h
    exact (Adv.quote hq).then (Adv.takeTo h).1
theorem Adv.equals {s s' : RS} (h : s.equals = some s') : Adv s s' := by
  unfold RS.equals at h
  split at h
  · cases h; exact (Adv.blanks s).then ((Adv.by _ 1).then (Adv.blanks _))
  · cases h
/-- What quote tells, and where it leaves the reader. -/
def quoteP (o : Option (Nat × RS)) (p : Nat) (e : Ending) (w w' : World) : Prop := match o with
  | some (q, s1) => e = .returned (.tuple #[.string (T [q]), .bool true]) ∧ Moves p s1.place w w'
  | none => e = .returned (.tuple #[.string ⟨#[]⟩, .bool false]) ∧ Below w.heap.size w w'
set_option maxHeartbeats 1000000 in
theorem quote_any (p : Nat) (s : RS) (w : World) (h : AtS w p s) (hf : Fine s) :
    Calls Tryz.prog 118 #[.pointer (some ⟨p, 0, none⟩)] w fun e w' => quoteP s.quote p e w w' := by
  have i0 : ∀ w, (Instr.index 144 (.agg #[.string ⟨#[34]⟩, .string ⟨#[39]⟩]) (.int .i64 0)).run Tryz.prog w = .ok (.string ⟨#[34]⟩) w := fun _ => by kernel_rfl
  have i1 : ∀ w, (Instr.index 144 (.agg #[.string ⟨#[34]⟩, .string ⟨#[39]⟩]) (.int .i64 1)).run Tryz.prog w = .ok (.string ⟨#[39]⟩) w := fun _ => by kernel_rfl
  go_enter Tryz.func118, Tryz.ntmps118
  go_wp2_with fail
  refine wp_loop_rounds 3 ?_
  rw [rounds_succ]
  cases hh : heads 34 s.rest
  · have HH := hide hh
    clear hh
    go_wp2_with fail
    refine (take_no [34] ⟨#[34]⟩ rfl (by decide) p s _ h hf (by rw [isPre_one]; exact unhide HH)).mono ?_
    rintro e w1 ⟨rfl, hb1⟩
    go_wp2_with fail
    rw [rounds_succ]
    have h1 := h.keep hb1
    cases hh : heads 39 s.rest
    · have HH2 := hide hh
      clear hh
      go_wp2_with fail
      refine (take_no [39] ⟨#[39]⟩ rfl (by decide) p s _ h1 hf (by rw [isPre_one]; exact unhide HH2)).mono ?_
      rintro e w2 ⟨rfl, hb2⟩
      go_wp2_with fail
      rw [rounds_succ]
      go_wp2
      go_ret2
      have e : s.quote = none := by unfold RS.quote; rw [if_neg (by rw [unhide HH]; decide), if_neg (by rw [unhide HH2]; decide)]
      rw [e]
      exact ⟨rfl, Below.then hb1 hb2⟩
    · have HH2 := hide hh
      clear hh
      go_wp2_with fail
      refine (take_yes [39] ⟨#[39]⟩ rfl (by decide) p s _ h1 hf (by rw [isPre_one]; exact unhide HH2)).mono ?_
      rintro e w2 ⟨rfl, hm2⟩
      go_wp2
      go_ret2
      have e : s.quote = some (39, s.adv 1) := by unfold RS.quote; rw [if_neg (by rw [unhide HH]; decide), if_pos (unhide HH2)]
      rw [e]
      exact ⟨rfl, (h.stay hb1).then hm2⟩
  · have HH := hide hh
    clear hh
    go_wp2_with fail
    refine (take_yes [34] ⟨#[34]⟩ rfl (by decide) p s _ h hf (by rw [isPre_one]; exact unhide HH)).mono ?_
    rintro e w2 ⟨rfl, hm2⟩
    go_wp2
    go_ret2
    have e : s.quote = some (34, s.adv 1) := by unfold RS.quote; rw [if_pos (unhide HH)]
    rw [e]
    exact ⟨rfl, hm2⟩
/-- What quoted tells, and where it leaves the reader. -/
def quotedP (o : Option (List Nat × RS)) (p : Nat) (e : Ending) (w w' : World) : Prop := match o with
  | some (x, s1) => e = .returned (.tuple #[.string (T x), .bool true]) ∧ Moves p s1.place w w'
  | none => ∃ y k, e = .returned (.tuple #[.string y, .bool false]) ∧ Moves p k w w'
theorem quote_asc {q : Nat} (h : q = 34 ∨ q = 39) : (T [q]).data.toList = [q].map UInt8.ofNat ∧ ∀ c ∈ [q], c < 128 := by
  rcases h with rfl | rfl
  · exact ⟨rfl, by decide⟩
  · exact ⟨rfl, by decide⟩
set_option maxHeartbeats 1000000 in
theorem quoted_any (B p : Nat) (s : RS) (w : World) (h : AtS w p s) (hf : Fine s) (hE : XEnv B w) (hB : B ≤ p) :
    Calls Tryz.prog 114 #[.pointer (some ⟨p, 0, none⟩)] w fun e w' => quotedP s.quoted p e w w' := by
  have HQ := hide (quote_any p s w h hf)
  have hd : s.quoted = match s.quote with | none => none | some (q, s1) => s1.takeTo [q] := rfl
  have HD := hide hd
  clear hd
  go_enter Tryz.func114, Tryz.ntmps114
  go_wp2_with fail
  refine (unhide HQ).mono ?_
  intro e w1 hq1
  cases hq : s.quote with
  | none =>
    rw [hq] at hq1
    obtain ⟨rfl, hb1⟩ := hq1
    have e : s.quoted = none := by rw [unhide HD, hq]
    have HEQ := hide e
    clear e hq
    go_wp2
    go_ret2
    rw [unhide HEQ]
    exact ⟨_, _, rfl, h.stay hb1⟩
  | some qs =>
    obtain ⟨q, s1⟩ := qs
    rw [hq] at hq1
    obtain ⟨rfl, hm1⟩ := hq1
    obtain ⟨hs1, _, hqq⟩ := quote_some hq
    have hqq' : q = 34 ∨ q = 39 := hqq.imp id (·.1)
    obtain ⟨ha1, ha2⟩ := quote_asc hqq'
    have hA := Adv.quote hq
    have e : s.quoted = s1.takeTo [q] := by rw [unhide HD, hq]
    have HEQ := hide e
    have h1 := hA.at h hm1
    have hf1 := hA.fine hf
    have HA1 := hide ha1
    have HA2 := hide ha2
    have hE1 : Env w1 := (hE.moved hm1 hB h.lt).env
    clear e hq hs1 hqq hqq' ha1 ha2
    cases ht : s1.takeTo [q] with
    | none =>
      have HC := hide (takeTo_none ht)
      have HEQ2 := hide ((unhide HEQ).trans ht)
      clear ht
      go_wp2_with fail
      refine (takeTo_no [q] (T [q]) (unhide HA1) (unhide HA2) (by simp) p s1 _ h1 hf1 hE1 (unhide HC)).mono ?_
      rintro e w2 ⟨rfl, hb2⟩
      go_wp2
      go_ret2
      rw [unhide HEQ2]
      exact ⟨_, _, rfl, hm1.then (h1.stay hb2)⟩
    | some xs =>
      obtain ⟨x, s2⟩ := xs
      obtain ⟨_, y, hc, rfl⟩ := Adv.takeTo ht
      have HC := hide hc
      have HEQ2 := hide ((unhide HEQ).trans ht)
      clear ht hc
      go_wp2_with fail
      refine (takeTo_yes [q] (T [q]) (unhide HA1) (unhide HA2) (by simp) p s1 x y _ h1 hf1 hE1 (unhide HC)).mono ?_
      rintro e w2 ⟨rfl, hm2⟩
      go_wp2
      go_ret2
      rw [unhide HEQ2]
      exact ⟨rfl, hm1.then hm2⟩
/-- What a step that may fail tells. -/
def stepP (o : Option RS) (p : Nat) (e : Ending) (w w' : World) : Prop := match o with
  | some s1 => e = .returned (.bool true) ∧ Moves p s1.place w w'
  | none => ∃ k, e = .returned (.bool false) ∧ Moves p k w w'
set_option maxHeartbeats 1000000 in
theorem equals_any (p : Nat) (s : RS) (w : World) (h : AtS w p s) (hf : Fine s) :
    Calls Tryz.prog 104 #[.pointer (some ⟨p, 0, none⟩)] w fun e w' => stepP s.equals p e w w' := by
  have hA := Adv.blanks s
  have hf1 := hA.fine hf
  go_enter Tryz.func104, Tryz.ntmps104
  go_wp2_with fail
  refine (blanks_any p s _ h hf).mono ?_
  rintro e w1 ⟨rfl, hm1⟩
  have h1 := hA.at h hm1
  cases hh : heads 61 s.blanks.rest
  · have HEQ : Hid (s.equals = none) := by refine hide ?_; unfold RS.equals; rw [if_neg (by rw [hh]; decide)]
    have HH := hide hh
    clear hh
    go_wp2_with fail
    refine (take_no [61] ⟨#[61]⟩ rfl (by decide) p s.blanks _ h1 hf1 (by rw [isPre_one]; exact unhide HH)).mono ?_
    rintro e w2 ⟨rfl, hb2⟩
    go_wp2
    go_ret
    rw [unhide HEQ]
    exact ⟨_, rfl, hm1.then (h1.stay hb2)⟩
  · have HEQ : Hid (s.equals = some (s.blanks.adv 1).blanks) := by refine hide ?_; unfold RS.equals; rw [if_pos hh]
    have HH := hide hh
    clear hh
    go_wp2_with fail
    refine (take_yes [61] ⟨#[61]⟩ rfl (by decide) p s.blanks _ h1 hf1 (by rw [isPre_one]; exact unhide HH)).mono ?_
    rintro e w2 ⟨rfl, hm2⟩
    have h2 := (Adv.by s.blanks 1).at h1 hm2
    go_wp2_with fail
    refine (blanks_any p (s.blanks.adv 1) _ h2 (hf1.adv 1)).mono ?_
    rintro e w3 ⟨rfl, hm3⟩
    go_wp2
    go_ret
    rw [unhide HEQ]
    exact ⟨rfl, (hm1.then hm2).then hm3⟩
/-- fail: what is wrong, and where, is kept. -/
theorem fail_any (p : Nat) (c pl : Nat) (w : World) (c8 : ∃ v, w.cell? ⟨p, 8, none⟩ = some v) (c9 : ∃ v, w.cell? ⟨p, 9, none⟩ = some v) (o8 : w.frozen? ⟨p, 8, none⟩ = false) (o9 : w.frozen? ⟨p, 9, none⟩ = false) :
    Calls Tryz.prog 44 #[.pointer (some ⟨p, 0, none⟩), .int .i64 (c : Nat), .int .i64 (pl : Nat)] w fun e w' => e = .returned (.bool false) ∧ w' = (w.setCell ⟨p, 8, none⟩ (.int .i64 (c : Nat))).setCell ⟨p, 9, none⟩ (.int .i64 (pl : Nat)) := by
  obtain ⟨v8, c8⟩ := c8
  obtain ⟨v9, c9⟩ := c9
  go_enter Tryz.func44, Tryz.ntmps44
  go_wp2
  go_ret
  exact ⟨rfl, rfl⟩
end Go.Proofs.YtkklapoceknbcaaGreatDoor
/- A reader of XML in memory: its tokens, what is open, the text behind the last token. -/
namespace Go.Proofs.YtkklapoceknbcaaGreatDoor
open Go.RowKit
/-- append onto a row of the call's own, as one step of a region that draws its order. -/
theorem step_append_own {P : Program} {ops : Array Oper} {o : Oper} {a : Act} {w : World} {K : Act → World → Prop} {Q : Exit → Act → World → Prop} {E : Prop}
    (hg : o.guard = none) (s x : Operand) (t : TypeId) (hop : o.op = Op.call { callee := Callee.builtin Builtin.append, args := #[s, x], argTypes := #[t, t] })
    (base : Nat) (e : TypeId) (i : TypeInfo) (z : Value) (size bytes : Nat) (h1 : P.underlying t = some (.slice e)) (h2 : P.info? e = some i) (h3 : i.zero = some z) (h4 : i.size = size) (h5 : i.bytes = bytes) (h6 : z.cells.size = size) (h7 : 0 < size)
    (v : Value) (n : Nat) (xs : List Value) (hs : a.eval s = v) (hown : w.ownsRow base e size v n xs)
    (ad : Addr) (m c : Nat) (news : List Value) (hx : a.eval x = .slice (some ad) m c) (hn : news.length = m * size) (hc : ∀ j u, news[j]? = some u → w.cell? (ad.add j) = some u) (h1c : ∀ u ∈ news, u.oneCell' = true)
    (b1 : n + m ≤ maxLen) (b2 : (n + m) * bytes ≤ 140737488355328) (hb : base ≤ w.heap.size)
    (hK : ∀ v' w', w'.ownsRow base e size v' (n + m) (xs ++ news) → w.grownBy w' v.ownBlock → K (a.put o.dst v') w') :
    if Region.wanted o (yielded ops a.tmps) = true then Oper.wp P o a w K Q else E := by
  have hw : Region.wanted o (yielded ops a.tmps) = true := by simp [Region.wanted, hg]
  rw [if_pos hw]
  obtain ⟨v', w', hrun, r1, r2, _⟩ := run_append_own (P := P) w base t o.type e i z size bytes h1 h2 h3 h4 h5 h6 h7 v n xs hown ad m c news hn hc h1c b1 b2 hb
  unfold Oper.wp
  simp [execOp, hop, resolve, invoke, builtin, hs, hx, hrun, Result.andThen]
  exact hK v' w' r1 r2
/-- Every block but some stands; blocks may be new. -/
structure Kp (S : Nat → Prop) (w w' : World) : Prop where
  os : w'.os = w.os
  tape : w'.tape = w.tape
  output : w'.output = w.output
  size : w.heap.size ≤ w'.heap.size
  block : ∀ k, k < w.heap.size → ¬ S k → w'.heap[k]? = w.heap[k]?
theorem Kp.low {S : Nat → Prop} {w w' : World} {B : Nat} (h : Kp S w w') (hB : B ≤ w.heap.size) (hS : ∀ k, S k → B ≤ k) : Below B w w' :=
  ⟨h.os, h.tape, h.output, h.size, fun k hk => h.block k (by omega) fun hs => by have := hS k hs; omega⟩
theorem owns_kept {S : Nat → Prop} {w w' : World} {base : Nat} {e : TypeId} {size : Nat} {v : Value} {n : Nat} {xs : List Value} (h : w.ownsRow base e size v n xs) (hk : ∀ k o, w.heap[k]? = some o → ¬ S k → w'.heap[k]? = some o) (hS : ∀ k, v.ownBlock = some k → ¬ S k) : w'.ownsRow base e size v n xs := by
  refine ⟨h.1, ?_⟩
  rcases h.2 with h | ⟨g, cap, cur, h1, h2, h3, h4⟩
  · exact .inl h
  · exact .inr ⟨g, cap, cur, h1, h2, hk g _ h3 (hS g (by rw [h1]; rfl)), h4⟩
/-- The block of a row that is owned is one of its elements' type. -/
theorem owns_type {w : World} {base : Nat} {e : TypeId} {size : Nat} {v : Value} {n : Nat} {xs : List Value} (h : w.ownsRow base e size v n xs) {k : Nat} (hk : v.ownBlock = some k) : ∃ c, w.heap[k]? = some (.cells c e (0, 0)) := by
  rcases h.2 with ⟨rfl, _⟩ | ⟨g, cap, cur, rfl, _, h3, _⟩
  · cases hk
  · cases hk; exact ⟨cur, h3⟩
theorem owns_apart {w : World} {base base' : Nat} {e e' : TypeId} {size size' : Nat} {v v' : Value} {n n' : Nat} {xs xs' : List Value} (h : w.ownsRow base e size v n xs) (h' : w.ownsRow base' e' size' v' n' xs') (he : e ≠ e') : ∀ k, v.ownBlock = some k → v'.ownBlock ≠ some k := by
  intro k hk hk'
  obtain ⟨c, hc⟩ := owns_type h hk
  obtain ⟨c', hc'⟩ := owns_type h' hk'
  rw [hc] at hc'
  cases hc'
  exact he rfl
theorem owns_not {w : World} {base : Nat} {e : TypeId} {size : Nat} {v : Value} {n : Nat} {xs : List Value} (h : w.ownsRow base e size v n xs) {p : Nat} {c : Array Value} {t : TypeId} {z : Nat × Nat} (hp : w.heap[p]? = some (.cells c t z)) (he : e ≠ t) : v.ownBlock ≠ some p := by
  intro hk
  obtain ⟨c', hc⟩ := owns_type h hk
  rw [hp] at hc
  cases hc
  exact he rfl
theorem owns_pre {w : World} {base : Nat} {e : TypeId} {size : Nat} {a : Option Addr} {n cap k : Nat} {xs : List Value} (h : w.ownsRow base e size (.slice a n cap) n xs) (hk : k ≤ n) : w.ownsRow base e size (.slice a k cap) k (xs.take (k * size)) := by
  refine ⟨by rw [List.length_take, h.1]; exact Nat.min_eq_left (Nat.mul_le_mul_right _ hk), ?_⟩
  rcases h.2 with ⟨h1, h2⟩ | ⟨g, cap', cur, h1, h2, h3, h4, h5, h6, h7⟩
  · cases h1
    obtain rfl : k = 0 := by omega
    exact .inl ⟨rfl, rfl⟩
  · cases h1
    refine .inr ⟨g, cap, cur, rfl, h2, h3, by omega, h5, h6, ?_⟩
    rw [← h7, List.take_take, Nat.min_eq_left (Nat.mul_le_mul_right _ hk)]
def pairRow (l : List (List Nat × List Nat)) : List Value := l.flatMap fun x => [.string (T x.1), .string (T x.2)]
def tokCells (t : XTok) (v : Value) : List Value := [.int .i64 (t.kind : Nat), .string (T t.name), v, .string (T t.text)]
def tokRow : List XTok → List Value → List Value
  | t :: ts, v :: vs => tokCells t v ++ tokRow ts vs
  | _, _ => []
abbrev AttrsAt (w : World) (B : Nat) (v : Value) (l : List (List Nat × List Nat)) : Prop := w.ownsRow B 40 2 v l.length (pairRow l)
def Toks (w : World) (B : Nat) (vt : Value) (ts : List XTok) : Prop := ∃ vs : List Value, vs.length = ts.length ∧ w.ownsRow B 37 4 vt ts.length (tokRow ts vs) ∧
  ∀ (i : Nat) (t : XTok) (v : Value), ts[i]? = some t → vs[i]? = some v → AttrsAt w B v t.attrs
theorem tokRow_snoc : ∀ (ts : List XTok) (vs : List Value) (t : XTok) (v : Value), vs.length = ts.length → tokRow (ts ++ [t]) (vs ++ [v]) = tokRow ts vs ++ tokCells t v
  | [], [], t, v, _ => by simp [tokRow]
  | x :: ts, y :: vs, t, v, h => by
    have ih := tokRow_snoc ts vs t v (by simpa using h)
    show tokCells x y ++ tokRow (ts ++ [t]) (vs ++ [v]) = _
    rw [ih, ← List.append_assoc]; rfl
  | [], _ :: _, _, _, h => by simp at h
  | _ :: _, [], _, _, h => by simp at h
def opnRow (l : List (List Nat)) : List Value := l.map fun x => .string (T x)
/-- How an entity's value reads. -/
def entCells : List Value → Option (DataW Unit × List MemPlace)
  | [.string s] => some (.agg [.lit (.string s.data.toList)], [])
  | _ => none
def entElem : Value → Option (DataW Unit × List MemPlace)
  | .agg a => entCells a.toList
  | _ => none
theorem entElem_inv {v : Value} {x : List UInt8} {ps : List MemPlace} (h : entElem v = some (.agg [.lit (.string x)], ps)) : v = .agg #[.string ⟨x.toArray⟩] := by
  unfold entElem at h
  split at h
  · rename_i a
    unfold entCells at h
    split at h
    · rename_i s hs
      cases h
      have : a = #[.string s] := Array.toList_inj.1 hs
      rw [this]
    · cases h
  · cases h
/-- What names stand for, as a map that is read. -/
def entsD (ents : List (List Nat × List Nat)) : DataW Unit := ents.foldl (fun D x => D.put (.string (tx x.1)) (.agg [.lit (.string (tx x.2))])) (.map [])
/-- What a map's block holds: names that stand for texts. -/
def EntsAt (w : World) (B m : Nat) (ents : List (List Nat × List Nat)) : Prop := B ≤ m ∧ (∀ x ∈ ents, okL x.1 ∧ okL x.2) ∧ w.ownsMap Tryz.prog 9 entElem m ents.length (entsD ents)
theorem EntsAt.kept {w w' : World} {B m : Nat} {ents : List (List Nat × List Nat)} (h : EntsAt w B m ents) (hk : w'.heap[m]? = w.heap[m]?) : EntsAt w' B m ents := by
  obtain ⟨h1, h2, es, clock, h3, h4⟩ := h
  exact ⟨h1, h2, es, clock, by rw [hk]; exact h3, h4⟩
theorem EntsAt.map {w : World} {B m : Nat} {ents : List (List Nat × List Nat)} (h : EntsAt w B m ents) : ∃ es clock, w.heap[m]? = some (.map es clock) := by
  obtain ⟨_, _, es, clock, h3, _⟩ := h
  exact ⟨es, clock, h3⟩
theorem EntsAt.ne {w : World} {B m p : Nat} {ents : List (List Nat × List Nat)} (h : EntsAt w B m ents) {c : Array Value} {t : TypeId} {z : Nat × Nat} (hp : w.heap[p]? = some (.cells c t z)) : m ≠ p := by
  rintro rfl
  obtain ⟨es, clock, h3⟩ := h.map
  rw [hp] at h3
  cases h3
/-- A reader's block. -/
def rdArr (s : RS) (m : Nat) (vo vt vr : Value) : Array Value := #[.string (T (s.pre ++ s.rest)), .int .i64 (s.place : Nat), .map (some m), .int .i64 (s.spent : Nat), vo, vt, vr, .int .i64 (s.runAt : Nat), .int .i64 0, .int .i64 0]
structure Rd (w : World) (B p m : Nat) (vo vt vr : Value) (s : RS) : Prop where
  blk : w.heap[p]? = some (.cells (rdArr s m vo vt vr) 56 (0, 0))
  low : B ≤ p
  ents : EntsAt w B m s.ents
  opn : w.ownsRow B 9 1 vo s.opn.length (opnRow s.opn)
  toks : Toks w B vt s.toks
  run : w.ownsRow B 5 1 vr (tx s.run).length (byteCells (tx s.run))
theorem Toks.kept {w w' : World} {B : Nat} {vt : Value} {ts : List XTok} (h : Toks w B vt ts) (S : Nat → Prop) (hk : ∀ k o, w.heap[k]? = some o → ¬ S k → w'.heap[k]? = some o)
    (hS : ∀ k c, S k → w.heap[k]? ≠ some (.cells c 37 (0, 0)) ∧ w.heap[k]? ≠ some (.cells c 40 (0, 0))) : Toks w' B vt ts := by
  obtain ⟨vs, h1, h2, h3⟩ := h
  refine ⟨vs, h1, owns_kept h2 hk fun k hb hs => ?_, fun i t v ht hv => owns_kept (h3 i t v ht hv) hk fun k hb hs => ?_⟩
  · obtain ⟨c, hc⟩ := owns_type h2 hb
    exact (hS k c hs).1 hc
  · obtain ⟨c, hc⟩ := owns_type (h3 i t v ht hv) hb
    exact (hS k c hs).2 hc
theorem Rd.at {w : World} {B p m : Nat} {vo vt vr : Value} {s : RS} (h : Rd w B p m vo vt vr s) : AtS w p s := by
  refine ⟨?_, ?_, blk_open h.blk 1⟩
  · rw [blk_cell h.blk]; rfl
  · rw [blk_cell h.blk]; rfl
theorem Rd.lt {w : World} {B p m : Nat} {vo vt vr : Value} {s : RS} (h : Rd w B p m vo vt vr s) : p < w.heap.size := (Array.getElem?_eq_some_iff.1 h.blk).1
/-- All of a reader but its own block, under what changes other blocks alone. -/
theorem Rd.keep {w w' : World} {B p m : Nat} {vo vt vr : Value} {s : RS} (h : Rd w B p m vo vt vr s) (S : Nat → Prop) (hk : ∀ k o, w.heap[k]? = some o → ¬ S k → w'.heap[k]? = some o)
    (hS : ∀ k, S k → ∃ c t, w.heap[k]? = some (.cells c t (0, 0)) ∧ t ≠ 37 ∧ t ≠ 40 ∧ t ≠ 9 ∧ t ≠ 5)
    {s' : RS} (hp : w'.heap[p]? = some (.cells (rdArr s' m vo vt vr) 56 (0, 0))) (e1 : s'.ents = s.ents) (e2 : s'.opn = s.opn) (e3 : s'.toks = s.toks) (e4 : s'.run = s.run) : Rd w' B p m vo vt vr s' := by
  have hrow : ∀ {base : Nat} {e : TypeId} {size : Nat} {v : Value} {n : Nat} {xs : List Value}, w.ownsRow base e size v n xs → (e = 9 ∨ e = 5) → w'.ownsRow base e size v n xs := fun ho he => owns_kept ho hk fun k hb hs => by
    obtain ⟨c, hc⟩ := owns_type ho hb
    obtain ⟨c', t, ht, _, _, h3, h4⟩ := hS k hs
    rw [hc] at ht
    cases ht
    rcases he with rfl | rfl
    · exact h3 rfl
    · exact h4 rfl
  refine ⟨hp, h.low, ?_, ?_, ?_, ?_⟩
  · rw [e1]
    refine h.ents.kept ?_
    obtain ⟨es, clock, hm⟩ := h.ents.map
    rw [hm]
    refine hk m _ hm fun hs => ?_
    obtain ⟨c, t, ht, _⟩ := hS m hs
    rw [hm] at ht
    cases ht
  · rw [e2]; exact hrow h.opn (.inl rfl)
  · rw [e3]
    refine h.toks.kept S hk fun k c hs => ?_
    obtain ⟨c', t, ht, h1, h2, _⟩ := hS k hs
    rw [ht]
    exact ⟨fun e => by cases e; exact h1 rfl, fun e => by cases e; exact h2 rfl⟩
  · rw [e4]; exact hrow h.run (.inr rfl)
theorem Rd.moved {w w' : World} {B p m : Nat} {vo vt vr : Value} {s s' : RS} (h : Rd w B p m vo vt vr s) (hm : Moves p s'.place w w') (ha : Adv s s') : Rd w' B p m vo vt vr s' := by
  refine h.keep (· = p) (fun k o hk hs => ?_) (fun k hs => ?_) ?_ ?_ ?_ ?_ ?_
  · rw [hm.block (Array.getElem?_eq_some_iff.1 hk).1 hs]; exact hk
  · subst hs
    exact ⟨_, _, h.blk, by decide, by decide, by decide, by decide⟩
  · rw [hm.own h.blk]
    obtain ⟨k, rfl⟩ := ha
    unfold rdArr
    rw [adv_whole]
    rfl
  all_goals (obtain ⟨k, rfl⟩ := ha; rfl)
theorem Rd.on {w w' : World} {B p m : Nat} {vo vt vr : Value} {s : RS} (h : Rd w B p m vo vt vr s) (hb : Below w.heap.size w w') : Rd w' B p m vo vt vr s :=
  h.keep (fun _ => False) (fun _ _ hk _ => block_below hk hb) (fun _ hs => hs.elim) (block_below h.blk hb) rfl rfl rfl rfl
/-- What is wrong has been told. -/
def Wrong (w : World) (p c pl : Nat) : Prop := w.cell? ⟨p, 8, none⟩ = some (.int .i64 (c : Nat)) ∧ w.cell? ⟨p, 9, none⟩ = some (.int .i64 (pl : Nat))
/-- What a call on a reader tells: it goes on as it should, or what is wrong is told. -/
def outP (o : Except Er RS) (B p m : Nat) (e : Ending) (w w' : World) : Prop := Below B w w' ∧ match o with
  | .ok s' => e = .returned (.bool true) ∧ ∃ vo vt vr, Rd w' B p m vo vt vr s'
  | .error (c, pl) => e = .returned (.bool false) ∧ Wrong w' p c pl
theorem fail_rd {c : Array Value} {t : TypeId} (B p code pl : Nat) (w : World) (hp : w.heap[p]? = some (.cells c t (0, 0))) (hs : c.size = 10) (hB : B ≤ p) :
    Calls Tryz.prog 44 #[.pointer (some ⟨p, 0, none⟩), .int .i64 (code : Nat), .int .i64 (pl : Nat)] w fun e w' => e = .returned (.bool false) ∧ Wrong w' p code pl ∧ Below B w w' := by
  refine (fail_any p code pl w ⟨c[8], by rw [blk_cell hp]; exact Array.getElem?_eq_getElem _⟩ ⟨c[9], by rw [blk_cell hp]; exact Array.getElem?_eq_getElem _⟩ (blk_open hp 8) (blk_open hp 9)).mono ?_
  rintro e w' ⟨rfl, rfl⟩
  refine ⟨rfl, ⟨?_, ?_⟩, ((Below.refl B w).setCell hB _).setCell hB _⟩
  · rw [blk_cell (blk_set (blk_set hp 8 _) 9 _)]
    simp [hs]
  · rw [blk_cell (blk_set (blk_set hp 8 _) 9 _)]
    simp [hs]
end Go.Proofs.YtkklapoceknbcaaGreatDoor
/- A token more: xmlscan's tell and roomForRun. -/
namespace Go.Proofs.YtkklapoceknbcaaGreatDoor
open Go.RowKit
theorem infoTok : (Tryz.prog.info? 37).map (fun i => (i.zero, i.size, i.bytes)) = some (some (.agg #[.int .i64 0, .string ⟨#[]⟩, .slice none 0 0, .string ⟨#[]⟩]), 4, 64) := by kernel_rfl
theorem tok_news (w : World) (cs : List Value) (t : TypeId) : ∀ j u, cs[j]? = some u → (w.alloc (.cells cs.toArray t)).cell? ((⟨w.heap.size, 0, none⟩ : Addr).add j) = some u := by
  intro j u h
  rw [Addr.add_mid, Nat.zero_add, World.cell?_alloc_new]
  simpa using h
theorem news4 {W : World} {g : Nat} {a b c d : Value} (h0 : W.cell? ⟨g, 0, none⟩ = some a) (h1 : W.cell? ⟨g, 1, none⟩ = some b) (h2 : W.cell? ⟨g, 2, none⟩ = some c) (h3 : W.cell? ⟨g, 3, none⟩ = some d) :
    ∀ j u, [a, b, c, d][j]? = some u → W.cell? ((⟨g, 0, none⟩ : Addr).add j) = some u := by
  intro j u h
  rw [Addr.add_mid, Nat.zero_add]
  match j, h with
  | 0, h => cases h; exact h0
  | 1, h => cases h; exact h1
  | 2, h => cases h; exact h2
  | 3, h => cases h; exact h3
theorem slice_one {a : Option Addr} {n c : Nat} : (Value.slice a n c).oneCell' = true := rfl
/-- Behind an append onto the tokens. -/
theorem toks_snoc {w w' : World} {B : Nat} {vt v' va : Value} {ts : List XTok} {t : XTok} {vs : List Value} (h1 : vs.length = ts.length) (h2 : w.ownsRow B 37 4 vt ts.length (tokRow ts vs))
    (h3 : ∀ (i : Nat) (t : XTok) (v : Value), ts[i]? = some t → vs[i]? = some v → AttrsAt w B v t.attrs) (ha : AttrsAt w B va t.attrs) (hg : w.grownBy w' vt.ownBlock)
    (hown : w'.ownsRow B 37 4 v' (ts.length + 1) (tokRow ts vs ++ tokCells t va)) : Toks w' B v' (ts ++ [t]) := by
  have hrow : ∀ {v : Value} {l : List (List Nat × List Nat)}, AttrsAt w B v l → AttrsAt w' B v l := fun {v l} hv => by
    refine ⟨hv.1, ?_⟩
    rcases hv.2 with e | ⟨g, cap, cur, e1, e2, e3, e4⟩
    · exact .inl e
    · refine .inr ⟨g, cap, cur, e1, e2, ?_, e4⟩
      rw [hg.block g (Array.getElem?_eq_some_iff.1 e3).1 (fun e => owns_apart hv h2 (by decide) g (by rw [e1]; rfl) e.symm)]
      exact e3
  refine ⟨vs ++ [va], by simp [h1], ?_, ?_⟩
  · rw [tokRow_snoc ts vs t va h1, List.length_append]
    exact hown
  · intro i x v hx hv
    by_cases hi : i < ts.length
    · rw [List.getElem?_append_left hi] at hx
      rw [List.getElem?_append_left (by omega)] at hv
      exact hrow (h3 i x v hx hv)
    · rw [List.getElem?_append_right (by omega)] at hx
      rw [List.getElem?_append_right (by omega), h1] at hv
      have : i - ts.length = 0 := by
        have := (List.getElem?_eq_some_iff.1 hx).1
        simp at this
        omega
      rw [this] at hx hv
      cases hx
      cases hv
      exact hrow ha
/-- Where the tokens' row was written, and all else stands. -/
theorem Rd.told {X W w' : World} {B p m : Nat} {vo vt vr v' va : Value} {s : RS} {t : XTok} {vs : List Value} (R : Rd X B p m vo vt vr s) (hb : Below X.heap.size X W) (h1 : vs.length = s.toks.length) (h2 : X.ownsRow B 37 4 vt s.toks.length (tokRow s.toks vs))
    (h3 : ∀ (i : Nat) (t : XTok) (v : Value), s.toks[i]? = some t → vs[i]? = some v → AttrsAt X B v t.attrs) (ha : AttrsAt X B va t.attrs) (hg : W.grownBy w' vt.ownBlock)
    (hown : w'.ownsRow B 37 4 v' (s.toks.length + 1) (tokRow s.toks vs ++ tokCells t va)) :
    Rd (w'.setCell ⟨p, 5, none⟩ v') B p m vo v' vr { s with toks := s.toks ++ [t] } ∧ w'.heap[p]? = some (.cells (rdArr s m vo vt vr) 56 (0, 0)) ∧
      (∀ v l, AttrsAt X B v l → AttrsAt (w'.setCell ⟨p, 5, none⟩ v') B v l) ∧ (∀ k o, W.heap[k]? = some o → vt.ownBlock ≠ some k → k ≠ p → (w'.setCell ⟨p, 5, none⟩ v').heap[k]? = some o) := by
  have RW := R.on hb
  have hvt : vt.ownBlock ≠ some p := owns_not h2 R.blk (by decide)
  have hp : w'.heap[p]? = some (.cells (rdArr s m vo vt vr) 56 (0, 0)) := by
    rw [hg.block p RW.lt (fun e => hvt e.symm)]; exact RW.blk
  have hk : ∀ k o, W.heap[k]? = some o → vt.ownBlock ≠ some k → k ≠ p → (w'.setCell ⟨p, 5, none⟩ v').heap[k]? = some o := fun k o ho h1 h2 => by
    rw [blk_other h2, hg.block k (Array.getElem?_eq_some_iff.1 ho).1 (fun e => h1 e.symm)]; exact ho
  have hrow : ∀ {base : Nat} {e : TypeId} {size : Nat} {v : Value} {n : Nat} {xs : List Value}, W.ownsRow base e size v n xs → e ≠ 37 → e ≠ 56 → (w'.setCell ⟨p, 5, none⟩ v').ownsRow base e size v n xs := fun ho e1 e2 =>
    owns_kept (S := fun k => vt.ownBlock = some k ∨ k = p) ho (fun k o hk' hs => hk k o hk' (fun e => hs (.inl e)) (fun e => hs (.inr e))) fun k hk' hs => by
      rcases hs with hs | rfl
      · exact owns_apart ho (owns_below h2 hb) e1 k hk' hs
      · exact owns_not ho RW.blk e2 hk'
  refine ⟨⟨?_, R.low, ?_, hrow RW.opn (by decide) (by decide), ?_, hrow RW.run (by decide) (by decide)⟩, hp, fun v l hv => hrow (owns_below hv hb) (by decide) (by decide), hk⟩
  · rw [blk_set hp]; rfl
  · refine RW.ents.kept ?_
    obtain ⟨es, clock, hm⟩ := RW.ents.map
    rw [hm]
    refine hk m _ hm (fun e => ?_) (RW.ents.ne RW.blk)
    obtain ⟨c, hc⟩ := owns_type (owns_below h2 hb) e
    rw [hm] at hc
    cases hc
  · have ht := toks_snoc h1 (owns_below h2 hb) (fun i t v a b => owns_below (h3 i t v a b) hb) (owns_below ha hb) hg hown
    refine ht.kept (· = p) (fun k o ho hs => by rw [blk_other hs]; exact ho) fun k c hs => ?_
    subst hs
    rw [hp]
    exact ⟨fun e => (by cases e), fun e => (by cases e)⟩
theorem Rd.from {w : World} {B p m : Nat} {vo vt vr : Value} {s : RS} (R : Rd w B p m vo vt vr s) (n : Nat) : Rd (w.setCell ⟨p, 7, none⟩ (.int .i64 (n : Nat))) B p m vo vt vr { s with runAt := n } := by
  refine R.keep (· = p) (fun k o hk hs => by rw [blk_other hs]; exact hk) (fun k hs => ?_) ?_ rfl rfl rfl rfl
  · subst hs
    exact ⟨_, _, R.blk, by decide, by decide, by decide, by decide⟩
  · rw [blk_set R.blk]; rfl
theorem attrs_set {w : World} {B p m i : Nat} {vo vt vr v va : Value} {s : RS} {l : List (List Nat × List Nat)} (R : Rd w B p m vo vt vr s) (ha : AttrsAt w B va l) : AttrsAt (w.setCell ⟨p, i, none⟩ v) B va l :=
  owns_kept (S := (· = p)) ha (fun k o hk hs => by rw [blk_other hs]; exact hk) fun k hk hs => by
    subst hs
    exact owns_not ha R.blk (by decide) hk
theorem Rd.cleared {w : World} {B p m n cr : Nat} {ar : Option Addr} {vo vt : Value} {s : RS} (R : Rd w B p m vo vt (.slice ar n cr) s) : Rd (w.setCell ⟨p, 6, none⟩ (.slice ar 0 cr)) B p m vo vt (.slice ar 0 cr) { s with run := [] } := by
  have hk : ∀ k o, w.heap[k]? = some o → ¬ k = p → (w.setCell ⟨p, 6, none⟩ (.slice ar 0 cr)).heap[k]? = some o := fun k o hk hs => by rw [blk_other hs]; exact hk
  have R' : Rd (w.setCell ⟨p, 6, none⟩ (.slice ar n cr)) B p m vo vt (.slice ar n cr) s := by
    refine R.keep (· = p) (fun k o hk hs => by rw [blk_other hs]; exact hk) (fun k hs => ?_) ?_ rfl rfl rfl rfl
    · subst hs
      exact ⟨_, _, R.blk, by decide, by decide, by decide, by decide⟩
    · rw [blk_set R.blk]; rfl
  have hrow : ∀ {base : Nat} {e : TypeId} {size : Nat} {v : Value} {n : Nat} {xs : List Value}, w.ownsRow base e size v n xs → e ≠ 56 → (w.setCell ⟨p, 6, none⟩ (.slice ar 0 cr)).ownsRow base e size v n xs := fun ho he => owns_kept ho hk fun k hb hs => by
    subst hs
    exact owns_not ho R.blk he hb
  refine ⟨by rw [blk_set R.blk]; rfl, R.low, R.ents.kept (by rw [blk_other (R.ents.ne R.blk)]), hrow R.opn (by decide), ?_, ?_⟩
  · refine R.toks.kept (· = p) hk fun k c hs => ?_
    subst hs
    rw [R.blk]
    exact ⟨fun e => (by cases e), fun e => (by cases e)⟩
  · have hf := R.run
    obtain ⟨a, c, e⟩ := owns_slice hf
    cases e
    exact hrow (owns_pre hf (Nat.zero_le _)) (by decide)
/-- A token in a block of its own. -/
def BoxAt (w : World) (b : Nat) (t : XTok) (va : Value) : Prop := w.cell? ⟨b, 0, none⟩ = some (.int .i64 (t.kind : Nat)) ∧ w.cell? ⟨b, 1, none⟩ = some (.string (T t.name)) ∧ w.cell? ⟨b, 2, none⟩ = some va ∧ w.cell? ⟨b, 3, none⟩ = some (.string (T t.text))
theorem BoxAt.kept {w w' : World} {b : Nat} {t : XTok} {va : Value} (h : BoxAt w b t va) (hk : w'.heap[b]? = w.heap[b]?) : BoxAt w' b t va := by
  unfold BoxAt World.cell? at *
  rw [hk]; exact h
theorem flush_eq (s : RS) : (s.run = [] → s.flush = s) ∧ (s.run ≠ [] → s.flush = { s with toks := s.toks ++ [⟨4, [], [], s.run⟩], run := [] }) := by
  unfold RS.flush
  exact ⟨fun h => by rw [if_pos h], fun h => by rw [if_neg h]⟩
/-- What is told behind the text. -/
theorem tell_eq (s : RS) (t : XTok) (pl : Nat) : s.tell t pl = if s.flush.toks.length = 4096 then .error (6, pl) else .ok { s.flush with runAt := s.place, toks := s.flush.toks ++ [t] } := rfl
theorem flush_place (s : RS) : s.flush.place = s.place := by
  unfold RS.flush
  split <;> rfl
set_option maxRecDepth 100000 in
set_option maxHeartbeats 4000000 in
theorem tell_any (B p m : Nat) (vo vt vr va : Value) (s : RS) (t : XTok) (pl : Nat) (w : World) (R : Rd w B p m vo vt vr s) (ha : AttrsAt w B va t.attrs) (hn : s.flush.toks.length ≤ 4096) (hrp : s.run ≠ [] → 0 < (tx s.run).length) (hB : B ≤ w.heap.size) :
    Calls Tryz.prog 73 #[.pointer (some ⟨p, 0, none⟩), .agg #[.int .i64 (t.kind : Nat), .string (T t.name), va, .string (T t.text)], .int .i64 (pl : Nat)] w fun e w' => outP (s.tell t pl) B p m e w w' := by
  have hlow := R.low
  have hlt := R.lt
  obtain ⟨aa, ca, rfl⟩ := owns_slice ha
  have HTE := hide (tell_eq s t pl)
  have hw1 : Below w.heap.size w (w.alloc (.cells #[.int .i64 (t.kind : Nat), .string (T t.name), .slice aa t.attrs.length ca, .string (T t.text)] 37)) := (Below.refl _ _).alloc (Nat.le_refl _) _
  have R1 := R.on hw1
  have ha1 := owns_below ha hw1
  have HB1 := hide (hw1.mono hB)
  have hbox : BoxAt (w.alloc (.cells #[.int .i64 (t.kind : Nat), .string (T t.name), .slice aa t.attrs.length ca, .string (T t.text)] 37)) w.heap.size t (.slice aa t.attrs.length ca) := ⟨by simp [go_sem], by simp [go_sem], by simp [go_sem], by simp [go_sem]⟩
  have HR1 := hide R1
  have hself := Below.refl (w.alloc (.cells #[.int .i64 (t.kind : Nat), .string (T t.name), .slice aa t.attrs.length ca, .string (T t.text)] 37)).heap.size (w.alloc (.cells #[.int .i64 (t.kind : Nat), .string (T t.name), .slice aa t.attrs.length ca, .string (T t.text)] 37))
  have HA1 := hide ha1
  have HBX := hide hbox
  obtain ⟨vs0, _, hrow0, _⟩ := R.toks
  have HVB : Hid (∀ k, vt.ownBlock = some k → k < w.heap.size) := hide fun k hk => (hrow0.lt k hk).2
  clear hrow0
  obtain ⟨vs, hvs, hrow, hat⟩ := R1.toks
  have HVS := hide hvs
  have HROW := hide hrow
  have HAT := hide hat
  have hfrm := hrow
  obtain ⟨at', ct, rfl⟩ := owns_slice hfrm
  obtain ⟨ar, cr, rfl⟩ := owns_slice R.run
  have c0 := fun i => blk_cell R.blk i
  have o0 := fun i => blk_open R.blk i
  have c5 : _ = some (Value.slice at' s.toks.length ct) := c0 5
  have c6 : _ = some (Value.slice ar (tx s.run).length cr) := c0 6
  have o5 := o0 5
  have o6 := o0 6
  have hcv := conv_owned (Rd.run R1)
  have hcv' : (convert 43 9 (.slice ar (tx s.run).length cr)).run Tryz.prog (w.alloc (.cells #[.int .i64 (t.kind : Nat), .string (T t.name), .slice aa t.attrs.length ca, .string (T t.text)] 37)).drew = .ok (.string (T s.run)) (w.alloc (.cells #[.int .i64 (t.kind : Nat), .string (T t.name), .slice aa t.attrs.length ca, .string (T t.text)] 37)).drew := conv_owned (owns_below (Rd.run R1) (Below.drew (Below.refl _ _)))
  have hfl := flush_eq s
  have HFL := hide hfl
  have HFP := hide (flush_place s)
  obtain ⟨i0, hi, hz0, hz1, hz2⟩ := info_parts infoTok
  clear c0 o0 hfrm hrow R R1 ha ha1 hat hvs hw1 hbox hcv hfl
  go_enter Tryz.func73, Tryz.ntmps73
  go_upto_if 12 with fail
  go_cut [] (fun wx => ∃ vt1 vr1, Rd wx B p m vo vt1 vr1 s.flush ∧ AttrsAt wx B (.slice aa t.attrs.length ca) t.attrs ∧ BoxAt wx w.heap.size t (.slice aa t.attrs.length ca) ∧ Below B w wx ∧ w.heap.size < wx.heap.size)
  case first =>
    by_cases hr : s.run = []
    · have hz : (tx s.run).length = 0 := by rw [hr]; rfl
      rw [hz] at c6 hcv' ⊢
      have HRE := hide hr
      clear hr hz
      go_wp2_with fail
      go_meet
      rw [(unhide HFL).1 (unhide HRE)]
      exact ⟨_, _, unhide HR1, unhide HA1, unhide HBX, unhide HB1, by simp⟩
    · have hz : 0 < (tx s.run).length := hrp hr
      have hn2 : s.toks.length + 1 ≤ 4096 := by
        have := hn
        rw [(unhide HFL).2 hr] at this
        simpa using this
      have HRE := hide hr
      clear hr
      go_wp2_with fail
      go_region_law (refine step_append_own rfl (.tmp 17) (.tmp 24) 22 rfl B 37 i0 _ 4 64 Tryz.underlying22 hi hz0 hz1 hz2 rfl (by decide) (.slice at' s.toks.length ct) s.toks.length (tokRow s.toks vs) rfl (owns_below (unhide HROW) (by (repeat first | with_reducible exact hself | refine Below.drew ?_ | refine Below.alloc ?_ (by simp) _))) _ 1 1 [.int .i64 4, .string ⟨#[]⟩, .slice none 0 0, .string (T s.run)] rfl rfl (news4 (by simp [go_sem]) (by simp [go_sem]) (by simp [go_sem]) (by simp [go_sem])) (fun u hu => by simp at hu; rcases hu with rfl | rfl | rfl | rfl <;> rfl) (by unfold maxLen; omega) (by omega) (by simp; omega) ?_; intro v' w' hown hgrow; obtain ⟨a5, b5, rfl⟩ := owns_slice hown; have hR := (unhide HR1).told (t := ⟨4, [], [], s.run⟩) (va := .slice none 0 0) (by (repeat first | with_reducible exact hself | refine Below.drew ?_ | refine Below.alloc ?_ (by simp) _)) (unhide HVS) (unhide HROW) (unhide HAT) (World.ownsRow_nil _ _ _ _) hgrow hown; have c5' : w'.cell? ⟨p, 5, none⟩ = some (.slice at' s.toks.length ct) := blk_cell hR.2.1 5; have o5' := blk_open hR.2.1 5; have c6' : w'.cell? ⟨p, 6, none⟩ = some (.slice ar (tx s.run).length cr) := blk_cell hR.2.1 6; have o6' := blk_open hR.2.1 6; have hB' := Below.grown (B := B) (((unhide HB1).alloc (by simp; omega) _).drew) hgrow (by simp; omega) (owns_ge (unhide HROW)))
      all_goals have HRC := hide (Rd.cleared hR.1)
      all_goals have HAC := hide (attrs_set (i := 6) (v := .slice ar 0 cr) hR.1 (hR.2.2.1 _ _ (unhide HA1)))
      all_goals have HBC := hide (BoxAt.kept (w' := (w'.setCell ⟨p, 5, none⟩ (.slice a5 (s.toks.length + 1) b5)).setCell ⟨p, 6, none⟩ (.slice ar 0 cr)) (unhide HBX) (by obtain ⟨c, tt, z, hc, _⟩ := cell_blk (unhide HBX).1; rw [hc, blk_other (by omega)]; exact hR.2.2.2 _ _ (block_below hc (by (repeat first | with_reducible exact hself | refine Below.drew ?_ | refine Below.alloc ?_ (by simp) _))) (fun e => by have := unhide HVB _ e; omega) (by omega)))
      all_goals have hsz : w.heap.size < w'.heap.size := (by have := hgrow.size; simp at this; omega)
      all_goals clear hR
      all_goals go_wp2_with fail
      all_goals go_meet
      all_goals rw [(unhide HFL).2 (unhide HRE)]
      all_goals exact ⟨_, _, unhide HRC, unhide HAC, unhide HBC, (hB'.setCell hlow _).setCell hlow _, by simp; exact hsz⟩
  case rest =>
    obtain ⟨vt1, vr1, R2, ha2, hbx, hb2, hsz⟩ := hcut
    have R7 := R2.from s.place
    have HA7 := hide (attrs_set (i := 7) (v := .int .i64 (s.place : Nat)) R2 ha2)
    have HR7 := hide R7
    clear HR1 HA1 HBX HVS HROW HAT hcv' c5 c6 o5 o6 hself HB1 HVB
    obtain ⟨vs2, hvs, hrow, hat⟩ := R7.toks
    have HVS := hide hvs
    have HROW := hide hrow
    have HAT := hide hat
    have hfrm := hrow
    obtain ⟨at2, ct2, rfl⟩ := owns_slice hfrm
    have hlt2 := R2.lt
    have c0 := fun i => blk_cell R2.blk i
    have o0 := fun i => blk_open R2.blk i
    have c1 : wc.cell? ⟨p, 1, none⟩ = some (Value.int .i64 (s.place : Nat)) := by
      have := c0 1
      rw [← unhide HFP]; exact this
    have c5 : _ = some (Value.slice at2 s.flush.toks.length ct2) := c0 5
    have c7 : _ = some (Value.int .i64 (s.flush.runAt : Nat)) := c0 7
    have o5 := o0 5
    have o7 := o0 7
    have b1 := hbx.1
    have b2 := hbx.2.1
    have b3 := hbx.2.2.1
    have b4 := hbx.2.2.2
    have hne : w.heap.size ≠ p := by omega
    have HB7 : Hid (Below B w (wc.setCell ⟨p, 7, none⟩ (.int .i64 (s.place : Nat)))) := hide (hb2.setCell hlow _)
    have hBc : B ≤ wc.heap.size := by omega
    clear c0 o0 hfrm hrow R2 R7 ha2 hat hvs hbx hb2
    by_cases hf : s.flush.toks.length = 4096
    · have HF := hide hf
      have hf' : ((s.flush.toks.length : Int) == 4096) = true := by rw [hf]; rfl
      clear hf
      go_wp2_with (go_at_call 44; refine (fail_rd B p 6 pl _ (unhide HR7).blk rfl hlow).mono ?_; rintro e w2 ⟨rfl, hw2, hb2⟩)
      go_ret
      rw [unhide HTE, if_pos (unhide HF)]
      exact ⟨(unhide HB7).trans hb2, rfl, hw2⟩
    · have HF := hide hf
      have hf' : ((s.flush.toks.length : Int) == 4096) = false := by simpa using (by omega : ¬ (s.flush.toks.length : Int) = 4096)
      have hn' : s.flush.toks.length + 1 ≤ 4096 := by omega
      clear hf
      have hself := Below.refl (wc.setCell ⟨p, 7, none⟩ (.int .i64 (s.place : Nat))).heap.size (wc.setCell ⟨p, 7, none⟩ (.int .i64 (s.place : Nat)))
      go_wp2_with fail
      go_region_law (refine step_append_own rfl (.tmp 56) (.tmp 58) 22 rfl B 37 i0 _ 4 64 Tryz.underlying22 hi hz0 hz1 hz2 rfl (by decide) (.slice at2 s.flush.toks.length ct2) s.flush.toks.length (tokRow s.flush.toks vs2) rfl (owns_below (unhide HROW) (by (repeat first | with_reducible exact hself | refine Below.drew ?_ | refine Below.alloc ?_ (by simp) _))) _ 1 1 (tokCells t (.slice aa t.attrs.length ca)) rfl rfl (news4 (by simp [go_sem]) (by simp [go_sem]) (by simp [go_sem]) (by simp [go_sem])) (fun u hu => by simp [tokCells] at hu; rcases hu with rfl | rfl | rfl | rfl <;> rfl) (by unfold maxLen; omega) (by omega) (by simp; omega) ?_; intro v' w' hown hgrow; obtain ⟨a5, b5, rfl⟩ := owns_slice hown; have hR := (unhide HR7).told (by (repeat first | with_reducible exact hself | refine Below.drew ?_ | refine Below.alloc ?_ (by simp) _)) (unhide HVS) (unhide HROW) (unhide HAT) (unhide HA7) hgrow hown; have c5' : w'.cell? ⟨p, 5, none⟩ = some (.slice at2 s.flush.toks.length ct2) := blk_cell hR.2.1 5; have o5' := blk_open hR.2.1 5; have hB' := Below.grown (B := B) (((unhide HB7).alloc (by simp; omega) _).drew) hgrow (by simp; omega) (owns_ge (unhide HROW)))
      all_goals have HRR := hide hR.1
      all_goals clear hR
      all_goals go_wp2
      all_goals go_ret
      all_goals rw [unhide HTE, if_neg (unhide HF)]
      all_goals exact ⟨hB'.setCell hlow _, rfl, _, _, _, unhide HRR⟩
end Go.Proofs.YtkklapoceknbcaaGreatDoor
