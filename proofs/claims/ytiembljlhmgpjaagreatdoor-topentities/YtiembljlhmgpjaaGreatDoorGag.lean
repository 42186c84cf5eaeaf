/- Several texts, laid as one. -/
import Derived.Test.YtiembljlhmgpjaaGreatDoorGaf
/- Tokens of XML, over lists of characters: what xmlscan's functions tell, in plain terms. -/
namespace Go.Proofs.YtiembljlhmgpjaaGreatDoor
/-- A token: its kind (2 an element, 4 a text, 5 a comment, 6 a processing instruction, 7 an end), name, attributes, text. -/
structure XTok where
  kind : Nat
  name : List Nat
  attrs : List (List Nat × List Nat)
  text : List Nat
  deriving DecidableEq
/-- Where a reader stands: what it has passed, what lies ahead, the entities, what they came to, the elements that are open, the tokens, the text behind the last one and where that begins. -/
structure RS where
  pre : List Nat
  rest : List Nat
  ents : List (List Nat × List Nat)
  spent : Nat
  opn : List (List Nat)
  toks : List XTok
  run : List Nat
  runAt : Nat
  deriving DecidableEq
def RS.place (s : RS) : Nat := (tx s.pre).length
def RS.adv (s : RS) (n : Nat) : RS := { s with pre := s.pre ++ s.rest.take n, rest := s.rest.drop n }
/-- An error's number, and its place. -/
abbrev Er := Nat × Nat
/-- What stands ahead of some signs, and behind them. -/
def cutL (sign : List Nat) : List Nat → Option (List Nat × List Nat)
  | [] => none
  | c :: t => if sign.isPrefixOf (c :: t) then some ([], (c :: t).drop sign.length) else (cutL sign t).map fun x => (c :: x.1, x.2)
def RS.sees (s : RS) (sign : List Nat) : Bool := sign.isPrefixOf s.rest
def RS.take (s : RS) (sign : List Nat) : RS := if sign.isPrefixOf s.rest then s.adv sign.length else s
def RS.blanks (s : RS) : RS := s.adv (s.rest.takeWhile blankC).length
def RS.blank (s : RS) : Bool := !(s.rest.takeWhile blankC).isEmpty
def RS.takeTo (s : RS) (sign : List Nat) : Option (List Nat × RS) := (cutL sign s.rest).map fun x => (x.1, s.adv (x.1.length + sign.length))
def RS.name (s : RS) : RS := s.adv (nameA s.rest).length
def RS.qname (s : RS) : RS := s.adv (qnameA s.rest).length
def RS.quote (s : RS) : Option (Nat × RS) := if heads 34 s.rest then some (34, s.adv 1) else if heads 39 s.rest then some (39, s.adv 1) else none
def RS.quoted (s : RS) : Option (List Nat × RS) := match s.quote with
  | none => none
  | some (q, s1) => s1.takeTo [q]
def RS.equals (s : RS) : Option RS := if heads 61 s.blanks.rest then some (s.blanks.adv 1).blanks else none
/-- A token more, behind the text that stands there. -/
def RS.flush (s : RS) : RS := if s.run = [] then s else { s with toks := s.toks ++ [⟨4, [], [], s.run⟩], run := [] }
def RS.tell (s : RS) (t : XTok) (at' : Nat) : Except Er RS :=
  if s.flush.toks.length = 4096 then .error (6, at') else .ok { s.flush with runAt := s.place, toks := s.flush.toks ++ [t] }
def RS.room (s : RS) : Except Er RS := if s.run ≠ [] ∧ s.toks.length = 4096 then .error (6, s.runAt) else .ok s
/-- Comments and processing instructions. -/
def RS.comment (s : RS) : Option (List Nat × RS) := match (s.take [60, 33, 45, 45]).takeTo [45, 45] with
  | none => none
  | some (t, s1) => if heads 62 s1.rest then some (t, s1.adv 1) else none
def lowC (c : Nat) : Nat := if 65 ≤ c ∧ c ≤ 90 then c + 32 else c
def isTarget (n : List Nat) : Bool := isNm n && !(n.map lowC == [120, 109, 108])
def RS.instruction (s : RS) : Option (List Nat × List Nat × RS) :=
  let s1 := s.take [60, 63]
  let n := nameA s1.rest
  let s2 := s1.name
  if !isTarget n then none else
  if s2.sees [63, 62] then some (n, [], s2.adv 2) else
  if !s2.blank then none else
  (s2.blanks.takeTo [63, 62]).map fun x => (n, x.1, x.2)
def RS.tellComment (s : RS) : Except Er RS := match s.comment with
  | none => .error (5, s.place)
  | some (t, s1) => s1.tell ⟨5, [], [], t⟩ s.place
def RS.tellInstruction (s : RS) : Except Er RS := match s.instruction with
  | none => .error (5, s.place)
  | some (n, t, s1) => s1.tell ⟨6, n, [], t⟩ s.place
/-- References: a character or one of the five, or a name; and how many characters they take. -/
def digitX (c : Nat) : Option Nat := if 48 ≤ c ∧ c ≤ 57 then some (c - 48) else if 97 ≤ c ∧ c ≤ 102 then some (c - 87) else if 65 ≤ c ∧ c ≤ 70 then some (c - 55) else none
def numX (base : Nat) : Nat → Nat → List Nat → Option (Nat × Nat)
  | _, _, [] => none
  | n, k, c :: t => if c = 59 ∧ charR (n : Int) = true then some (n, k + 1) else
    match digitX c with
    | none => none
    | some d => if base ≤ d then none else numX base (min (n * base + d) 1114112) (k + 1) t
def five (n : List Nat) : List Nat := if n = [108, 116] then [60] else if n = [103, 116] then [62] else if n = [97, 109, 112] then [38] else
  if n = [97, 112, 111, 115] then [39] else if n = [113, 117, 111, 116] then [34] else []
structure Ref where
  said : List Nat
  name : List Nat
  size : Nat
  deriving DecidableEq
def readNum (base ahead : Nat) (l : List Nat) : Option Ref := (numX base 0 0 l).map fun x => ⟨[x.1], [], ahead + x.2⟩
def readRef (l : List Nat) : Option Ref :=
  if [38, 35, 120].isPrefixOf l then readNum 16 3 (l.drop 3) else
  if [38, 35].isPrefixOf l then readNum 10 2 (l.drop 2) else
  let n := nameA (l.drop 1)
  if !n.isEmpty && heads 59 (l.drop (n.length + 1)) then some ⟨five n, n, n.length + 2⟩ else none
def spaceC (c : Nat) : Nat := if blankC c then 32 else c
def flatL (flat : Bool) (l : List Nat) : List Nat := if flat then l.map spaceC else l
def spendX (opn : List (List Nat)) (spent n : Nat) : Except Nat Nat := if opn = [] then .ok spent else if 32768 < spent + n then .error 6 else .ok (spent + n)
def entX (ents : List (List Nat × List Nat)) (n : List Nat) : Option (List Nat) := (ents.find? fun x => x.1 == n).map (·.2)
/-- What an entity's text comes to, with the way of adding a reference. -/
def textX (add : Nat → Ref → Except Nat (List Nat × Nat)) (flat : Bool) (opn : List (List Nat)) : Nat → Nat → List Nat → Except Nat (List Nat × Nat)
  | 0, spent, _ => .ok ([], spent)
  | f + 1, spent, l =>
    if l = [] then .ok ([], spent) else
    let p := l.takeWhile (· != 38)
    match spendX opn spent (tx p).length with
    | .error e => .error e
    | .ok s1 =>
      if l.drop p.length = [] then .ok (flatL flat p, s1) else
      match readRef (l.drop p.length) with
      | none => .error 5
      | some r => match add s1 r with
        | .error e => .error e
        | .ok (t, s2) => match textX add flat opn f s2 ((l.drop p.length).drop r.size) with
          | .error e => .error e
          | .ok (u, s3) => .ok (flatL flat p ++ t ++ u, s3)
/-- What a reference comes to, with the entities that are open around it. -/
def addX (ents : List (List Nat × List Nat)) (flat : Bool) : Nat → List (List Nat) → Nat → Ref → Except Nat (List Nat × Nat)
  | 0, _, _, _ => .error 6
  | d + 1, opn, spent, r =>
    if r.said ≠ [] then match spendX opn spent ((tx r.said).length + 1) with
      | .error e => .error e
      | .ok s1 => .ok (r.said, s1)
    else match entX ents r.name with
      | none => .error 5
      | some t =>
        if 8 < opn.length ∨ opn.contains r.name = true then .error 6 else
        match spendX opn spent 1 with
        | .error e => .error e
        | .ok s1 => textX (addX ents flat d (opn ++ [r.name])) flat (opn ++ [r.name]) (t.length + 1) s1 t
def RS.reference (s : RS) (flat : Bool) : Except Er (List Nat × RS) := match readRef s.rest with
  | none => .error (5, s.place)
  | some r => match addX s.ents flat 10 [] s.spent r with
    | .error e => .error (e, s.place)
    | .ok (t, n) => .ok (t, { s.adv r.size with spent := n })
/-- Tags. -/
def plainC (q c : Nat) : Bool := c != 60 && c != 38 && c != q
def RS.valueGo (q tag : Nat) : Nat → RS → List Nat → Except Er (List Nat × RS)
  | 0, _, _ => .error (5, tag)
  | f + 1, s, text =>
    let p := s.rest.takeWhile (plainC q)
    let s1 := s.adv p.length
    if heads q s1.rest then .ok (text ++ p.map spaceC, s1.adv 1) else
    if heads 38 s1.rest then match s1.reference true with
      | .error e => .error e
      | .ok (t, s2) => RS.valueGo q tag f s2 (text ++ p.map spaceC ++ t)
    else .error (5, tag)
def RS.value (s : RS) (tag : Nat) : Except Er (List Nat × RS) := match s.quote with
  | none => .error (5, tag)
  | some (q, s1) => RS.valueGo q tag (s1.rest.length + 1) s1 []
def RS.attrsGo (tag : Nat) : Nat → RS → List (List Nat × List Nat) → Except Er (List (List Nat × List Nat) × RS)
  | 0, _, _ => .error (5, tag)
  | f + 1, s, acc =>
    let s1 := s.blanks
    if !s.blank || (heads 47 s1.rest || heads 62 s1.rest) then .ok (acc, s1) else
    let n := qnameA s1.rest
    let s2 := s1.qname
    if n = [] ∨ (acc.map (·.1)).contains n = true then .error (5, tag) else
    match s2.equals with
    | none => .error (5, tag)
    | some s3 => match s3.value tag with
      | .error e => .error e
      | .ok (v, s4) => RS.attrsGo tag f s4 (acc ++ [(n, v)])
def RS.attributes (s : RS) (tag : Nat) : Except Er (List (List Nat × List Nat) × RS) := RS.attrsGo tag (s.rest.length + 1) s []
def RS.startTag (s : RS) : Except Er RS :=
  let s1 := s.take [60]
  let n := qnameA s1.rest
  let s2 := s1.qname
  if n = [] then .error (5, s.place) else
  match s2.attributes s.place with
  | .error e => .error e
  | .ok (a, s3) =>
    let s4 := s3.take [47]
    if !heads 62 s4.rest then .error (5, s.place) else
    let s5 := s4.adv 1
    if s5.opn.length = 32 ∨ 64 < a.length then .error (6, s.place) else
    match s5.tell ⟨2, n, a, []⟩ s.place with
    | .error e => .error e
    | .ok s6 => if heads 47 s3.rest then s6.tell ⟨7, n, [], []⟩ s.place else .ok { s6 with opn := s6.opn ++ [n] }
def RS.endTag (s : RS) : Except Er RS :=
  let s1 := s.take [60, 47]
  let n := qnameA s1.rest
  let s2 := s1.qname.blanks
  if s.opn.getLast? = some n ∧ heads 62 s2.rest = true then { s2.adv 1 with opn := s.opn.dropLast }.tell ⟨7, n, [], []⟩ s.place else .error (5, s.place)
/-- Content. -/
def ahead (sign l : List Nat) : List Nat := match cutL sign l with | none => l | some x => x.1
def plainA (l : List Nat) : List Nat := ahead [93, 93, 62] (ahead [38] (ahead [60] l))
def RS.plain (s : RS) : Except Er RS := { s.adv (plainA s.rest).length with run := s.run ++ plainA s.rest }.room
def RS.section' (s : RS) : Except Er RS := match (s.take [60, 33, 91, 67, 68, 65, 84, 65, 91]).takeTo [93, 93, 62] with
  | none => .error (5, s.place)
  | some (t, s1) => { s1 with run := s.run ++ t }.room
def RS.refRun (s : RS) : Except Er RS := match s.reference false with
  | .error e => .error e
  | .ok (t, s1) => { s1 with run := s.run ++ t }.room
def RS.contentOne (s : RS) : Except Er RS :=
  if s.sees [60, 47] then s.endTag else
  if s.sees [60, 33, 45, 45] then s.tellComment else
  if s.sees [60, 33, 91, 67, 68, 65, 84, 65, 91] then s.section' else
  if s.sees [60, 63] then s.tellInstruction else
  if s.sees [60] then s.startTag else
  if s.sees [38] then s.refRun else
  if s.rest ≠ [] ∧ s.sees [93, 93, 62] = false then s.plain else .error (5, s.place)
def RS.content : Nat → RS → Except Er RS
  | 0, s => .ok s
  | f + 1, s => if s.opn = [] then .ok s else match s.contentOne with
    | .error e => .error e
    | .ok s1 => RS.content f s1
/-- The declaration at the very beginning. -/
def isVersion (l : List Nat) : Bool := [49, 46].isPrefixOf l && (!(l.drop 2).isEmpty && (l.drop 2).all digC)
def letterC (c : Nat) : Bool := (decide (97 ≤ c) && decide (c ≤ 122)) || (decide (65 ≤ c) && decide (c ≤ 90))
def encC (c : Nat) : Bool := letterC c || (digC c || (c == 46 || (c == 95 || c == 45)))
def isEncoding (l : List Nat) : Bool := match l with | [] => false | c :: t => letterC c && t.all encC
def isChoice (l : List Nat) : Bool := l == [121, 101, 115] || l == [110, 111]
def RS.setting (s : RS) (n : List Nat) (right : List Nat → Bool) : Option RS :=
  if !s.sees n then none else match (s.adv n.length).equals with
  | none => none
  | some s1 => match s1.quoted with
    | none => none
    | some (v, s2) => if right v then some s2 else none
def RS.settingIf (s : RS) (spaced : Bool) (n : List Nat) (right : List Nat → Bool) : Option (Bool × RS) :=
  if spaced && s.sees n then (s.setting n right).map fun x => (x.blank, x.blanks) else some (spaced, s)
def RS.settings (s : RS) : Option RS :=
  let s0 := s.adv 5
  if !s0.blank then none else
  match s0.blanks.setting [118, 101, 114, 115, 105, 111, 110] isVersion with
  | none => none
  | some s1 => match s1.blanks.settingIf s1.blank [101, 110, 99, 111, 100, 105, 110, 103] isEncoding with
    | none => none
    | some (sp, s2) => match s2.settingIf sp [115, 116, 97, 110, 100, 97, 108, 111, 110, 101] isChoice with
      | none => none
      | some (_, s3) => if s3.sees [63, 62] then some (s3.adv 2) else none
/-- The document type, and its declarations. -/
def refsOk : List Nat → Bool
  | [] => true
  | c :: t => (c != 38 || (readRef (c :: t)).isSome) && refsOk t
def isEntText (l : List Nat) : Bool := (l.all fun c => c != 60 && c != 37) && refsOk l
def RS.entity (s : RS) : Option RS :=
  if !s.blank then none else
  let s1 := s.blanks
  let n := nameA s1.rest
  let s2 := s1.name
  if n.isEmpty || !s2.blank then none else
  match s2.blanks.quoted with
  | none => none
  | some (t, s3) =>
    if !isEntText t then none else
    let s4 := s3.blanks
    if !heads 62 s4.rest then none else
    some (if (entX s.ents n).isSome then s4.adv 1 else { s4.adv 1 with ents := s.ents ++ [(n, t)] })
def RS.declOne (s : RS) : Option RS :=
  if s.sees [60, 33, 45, 45] then s.comment.map (·.2) else
  if s.sees [60, 63] then s.instruction.map (·.2.2) else
  if s.sees [60, 33, 69, 78, 84, 73, 84, 89] then (s.adv 8).entity else none
def RS.declGo : Nat → RS → Except Er RS
  | 0, s => .error (5, s.place)
  | f + 1, s =>
    let s1 := s.blanks
    if heads 93 s1.rest then .ok (s1.adv 1) else
    match s1.declOne with
    | none => .error (5, s1.place)
    | some s2 => RS.declGo f s2
def RS.doctype (s : RS) : Except Er RS :=
  let s1 := s.take [60, 33, 68, 79, 67, 84, 89, 80, 69]
  if !s1.blank || (qnameA s1.blanks.rest).isEmpty then .error (5, s.place) else
  let s2 := s1.blanks.qname.blanks
  match (if heads 91 s2.rest then RS.declGo ((s2.adv 1).rest.length + 1) (s2.adv 1) else .ok s2) with
  | .error e => .error e
  | .ok s3 => if heads 62 s3.blanks.rest then .ok (s3.blanks.adv 1) else .error (5, s.place)
/-- The whole text. -/
def RS.docGo : Nat → Bool → Bool → RS → Except Er RS
  | 0, _, _, s => .error (5, s.place)
  | f + 1, typed, rooted, s0 =>
    let s := s0.blanks
    if s.sees [60, 33, 45, 45] then match s.tellComment with
      | .error e => .error e
      | .ok s1 => RS.docGo f typed rooted s1
    else if s.sees [60, 63] then match s.tellInstruction with
      | .error e => .error e
      | .ok s1 => RS.docGo f typed rooted s1
    else if s.sees [60, 33, 68, 79, 67, 84, 89, 80, 69] && (!typed && !rooted) then match s.doctype with
      | .error e => .error e
      | .ok s1 => RS.docGo f true rooted s1
    else if s.sees [60] && !rooted then match s.startTag with
      | .error e => .error e
      | .ok s1 => match RS.content (s1.rest.length + 1) s1 with
        | .error e => .error e
        | .ok s2 => RS.docGo f typed true s2
    else if s.rest ≠ [] ∨ rooted = false then .error (5, s.place) else .ok s
def RS.start (cs : List Nat) : RS := ⟨[], cs, [], 0, [], [], [], 0⟩
def RS.document (s : RS) : Except Er RS :=
  if [60, 63].isPrefixOf s.rest && nameA (s.rest.drop 2) == [120, 109, 108] then match s.settings with
    | none => .error (5, 0)
    | some s1 => RS.docGo (s1.rest.length + 1) false false s1
  else RS.docGo (s.rest.length + 1) false false s
/-- What a text's tokens are, or its error and the error's place. -/
def scanX (cs : List Nat) : Except Er (List XTok) := match (RS.start cs).document with
  | .error e => .error e
  | .ok s => .ok s.toks
end Go.Proofs.YtiembljlhmgpjaaGreatDoor
/- Tokens that are parted by blanks are read as they were: plain lemmas. -/
namespace Go.Proofs.YtiembljlhmgpjaaGreatDoor
/-- Nothing, or a blank first. -/
def parted (r : List Nat) : Prop := ∀ c, r.head? = some c → blankC c = true
theorem begC_ge {c : Nat} (h : begC c = true) : 65 ≤ c := by simp [begC, inL, beginL] at h; omega
theorem goC_of_beg {c : Nat} (h : begC c = true) : goC c = true := by simp only [begC] at h; simp [goC, h]
/-- A run ends where the test fails. -/
theorem takeWhile_run (p : Nat → Bool) (a r : List Nat) (ha : ∀ c ∈ a, p c = true) (hr : ∀ c, r.head? = some c → p c = false) : (a ++ r).takeWhile p = a := by
  rw [List.takeWhile_append_of_pos ha]
  cases r with
  | nil => simp
  | cons c t => rw [List.takeWhile_cons_of_neg (by rw [hr c rfl]; decide)]; simp
theorem all_takeWhile (p : Nat → Bool) (l : List Nat) : ∀ c ∈ l.takeWhile p, p c = true := fun c hc => by
  have := List.all_takeWhile (p := p) (l := l)
  rw [List.all_eq_true] at this
  exact this c hc
theorem heads_cons (c d : Nat) (t : List Nat) : heads c (d :: t) = (d == c) := by
  unfold heads; simp only [List.head?_cons]; rw [Bool.eq_iff_iff]; simp
theorem heads_true {c : Nat} {l : List Nat} (h : heads c l = true) : l = c :: l.tail := by
  cases l with
  | nil => cases h
  | cons d t => rw [heads_cons] at h; simp at h; subst h; rfl
theorem empty_not {l : List Nat} (h : l ≠ []) : (!l.isEmpty) = true := by cases l with | nil => exact absurd rfl h | cons _ _ => rfl
theorem nameA_all (l : List Nat) : ∀ c ∈ nameA l, goC c = true := by
  cases l with
  | nil => intro c h; cases h
  | cons a t =>
    rw [nameA]
    by_cases hb : begC a = true
    · rw [if_pos hb]
      intro c hc
      rcases List.mem_cons.1 hc with rfl | hc
      · exact goC_of_beg hb
      · exact all_takeWhile goC t c hc
    · rw [if_neg hb]; intro c h; cases h
theorem nameA_run (l r : List Nat) (hr : ∀ c, r.head? = some c → goC c = false) (h : nameA l = l) (hn : l ≠ []) : nameA (l ++ r) = l := by
  cases l with
  | nil => exact absurd rfl hn
  | cons a t =>
    rw [nameA] at h
    by_cases hb : begC a = true
    · rw [if_pos hb] at h
      have ht : t.takeWhile goC = t := (List.cons.inj h).2
      show nameA (a :: (t ++ r)) = _
      rw [nameA, if_pos hb, takeWhile_run goC t r (fun c hc => all_takeWhile goC t c (by rw [ht]; exact hc)) hr]
    · rw [if_neg hb] at h; cases h
theorem takeWhile_twice (p : Nat → Bool) (l : List Nat) : (l.takeWhile p).takeWhile p = l.takeWhile p := by
  have := takeWhile_run p (l.takeWhile p) [] (all_takeWhile p l) (fun _ h => by cases h)
  simpa using this
theorem nameA_twice (l : List Nat) : nameA (nameA l) = nameA l := by
  cases l with
  | nil => rfl
  | cons a t =>
    by_cases hb : begC a = true
    · rw [nameA, if_pos hb, nameA, if_pos hb, takeWhile_twice]
    · rw [nameA, if_neg hb]; rfl
theorem nameA_pre (l : List Nat) : nameA l <+: l := by
  cases l with
  | nil => exact List.prefix_refl _
  | cons a t =>
    rw [nameA]
    by_cases hb : begC a = true
    · rw [if_pos hb]; exact List.cons_prefix_cons.2 ⟨rfl, List.takeWhile_prefix _⟩
    · rw [if_neg hb]; exact List.nil_prefix
theorem pre_drop {a l : List Nat} (h : a <+: l) : a ++ l.drop a.length = l := by
  obtain ⟨t, rfl⟩ := h
  rw [List.drop_left]
theorem go58 : goC 58 = false := by decide
theorem qnameA_eq (l : List Nat) : qnameA l = if !(nameA l).isEmpty && (heads 58 (l.drop (nameA l).length) && !(nameA (l.drop (nameA l).length).tail).isEmpty) then nameA l ++ 58 :: nameA (l.drop (nameA l).length).tail else nameA l := rfl
theorem nameA_no {c : Nat} (h : begC c = false) (t : List Nat) : nameA (c :: t) = [] := by rw [nameA, if_neg (by rw [h]; decide)]
theorem nameA_beg {l : List Nat} (h : nameA l ≠ []) : ∃ c t, l = c :: t ∧ begC c = true := by
  cases l with
  | nil => exact absurd rfl h
  | cons c t =>
    refine ⟨c, t, rfl, ?_⟩
    cases hb : begC c
    · exact absurd (nameA_no hb t) h
    · rfl
theorem qnameA_name {l : List Nat} (h : qnameA l ≠ []) : nameA l ≠ [] := fun e => h (by unfold qnameA; rw [e]; rfl)
theorem qnameA_pre (l : List Nat) : qnameA l <+: l := by
  unfold qnameA
  by_cases h : (!(nameA l).isEmpty && (heads 58 (l.drop (nameA l).length) && !(nameA (l.drop (nameA l).length).tail).isEmpty)) = true
  · rw [if_pos h]
    simp only [Bool.and_eq_true] at h
    have e := pre_drop (nameA_pre l)
    have e2 := heads_true h.2.1
    obtain ⟨t, ht⟩ := nameA_pre (l.drop (nameA l).length).tail
    refine ⟨t, ?_⟩
    rw [List.append_assoc, List.cons_append, ht, ← e2]
    exact e
  · rw [if_neg h]; exact nameA_pre l
theorem isNm_name {l : List Nat} (h : isNm l = true) : l ≠ [] ∧ nameA l = l := by
  unfold isNm at h
  simp at h
  exact h
/-- The same token, perhaps with other signs around a string. -/
def alike (t t' : Tok) : Prop := t'.kind = t.kind ∧ t'.text = t.text ∧ (t'.raw = t.raw ∨ t.kind = 2 ∧ ∃ q, (q = 34 ∨ q = 39) ∧ q ∉ t.text ∧ t'.raw = q :: t.text ++ [q])
end Go.Proofs.YtiembljlhmgpjaaGreatDoor
