/- Several texts, laid as one. -/
import Derived.Test.YthkkfldmoflfaaaGreatDoorRows
import Derived.WalkKit
import Derived.WalkSpells
import Derived.Handy
import Derived.WalkLawsBesides
/- Small lemmas that every walk of this seat uses. -/
namespace Go.Proofs.YthkkfldmoflfaaaGreatDoor
open Go.RowKit
theorem ret_bool {a b : Bool} (h : a = b) : Ending.returned (.bool a) = .returned (.bool b) := by rw [h]
theorem ret_int {k : IntKind} {a b : Int} (h : a = b) : Ending.returned (.int k a) = .returned (.int k b) := by rw [h]
theorem ret_str {a b : ByteArray} (h : a = b) : Ending.returned (.string a) = .returned (.string b) := by rw [h]
theorem hide {p : Prop} (h : p) : Hid p := h
theorem unhide {p : Prop} (h : Hid p) : p := h
end Go.Proofs.YthkkfldmoflfaaaGreatDoor
/- Ranges of characters, as lists of their ends: plain lemmas. -/
namespace Go.Proofs.YthkkfldmoflfaaaGreatDoor
open Go.RowKit
def inL (r : Int) : List Int → Bool
  | lo :: hi :: t => (decide (lo ≤ r) && decide (r ≤ hi)) || inL r t
  | _ => false
theorem inL_drop (r : Int) (zs : List Int) (k : Nat) (h : k + 1 < zs.length) :
    inL r (zs.drop k) = ((decide (zs.getD k 0 ≤ r) && decide (r ≤ zs.getD (k + 1) 0)) || inL r (zs.drop (k + 2))) := by
  have e1 : zs.drop k = zs.getD k 0 :: zs.getD (k + 1) 0 :: zs.drop (k + 2) := by
    rw [List.drop_eq_getElem_cons (by omega), List.drop_eq_getElem_cons (by omega)]
    simp [List.getD_eq_getElem?_getD, List.getElem?_eq_getElem (show k < zs.length by omega), List.getElem?_eq_getElem h]
  rw [e1, inL]
theorem inL_end (r : Int) (zs : List Int) (k : Nat) (h : zs.length ≤ k + 1) : inL r (zs.drop k) = false := by
  have : (zs.drop k).length ≤ 1 := by rw [List.length_drop]; omega
  generalize zs.drop k = l at *
  match l, this with
  | [], _ => rfl
  | [_], _ => rfl
def beginL : List Int := [65, 90, 97, 122, 95, 95, 192, 214, 216, 246, 248, 767, 880, 893, 895, 8191, 8204, 8205, 8304, 8591, 11264, 12271, 12289, 55295, 63744, 64975, 65008, 65533, 65536, 983039]
def onL : List Int := [45, 45, 46, 46, 48, 57, 183, 183, 768, 879, 8255, 8256]
end Go.Proofs.YthkkfldmoflfaaaGreatDoor
/- Tokens of expressions, over lists of characters: what xplex's functions tell, in plain terms. -/
namespace Go.Proofs.YthkkfldmoflfaaaGreatDoor
def begC (c : Nat) : Bool := inL (c : Int) beginL
def goC (c : Nat) : Bool := inL (c : Int) beginL || inL (c : Int) onL
def blankC (c : Nat) : Bool := c == 9 || c == 10 || c == 13 || c == 32
def digC (c : Nat) : Bool := decide (48 ≤ c) && decide (c ≤ 57)
/-- The name that characters begin with. -/
def nameA : List Nat → List Nat
  | [] => []
  | c :: t => if begC c then c :: t.takeWhile goC else []
def isNm (l : List Nat) : Bool := !l.isEmpty && nameA l == l
/-- Does a list begin with a character, and what stands behind it? -/
def heads (c : Nat) (l : List Nat) : Bool := l.head? == some c
def qnameA (l : List Nat) : List Nat :=
  if !(nameA l).isEmpty && (heads 58 (l.drop (nameA l).length) && !(nameA (l.drop (nameA l).length).tail).isEmpty) then nameA l ++ 58 :: nameA (l.drop (nameA l).length).tail else nameA l
def wordA (l : List Nat) : List Nat :=
  if heads 42 l then [42] else
  if isNm (qnameA l) && [58, 42].isPrefixOf (l.drop (qnameA l).length) then qnameA l ++ [58, 42] else qnameA l
def digsA (l : List Nat) : List Nat := l.takeWhile digC
def numA (l : List Nat) : List Nat :=
  if heads 46 (l.drop (digsA l).length) && !(digsA (l.drop (digsA l).length).tail).isEmpty then digsA l ++ 46 :: digsA (l.drop (digsA l).length).tail else digsA l
/-- What stands within the string that characters begin with, and its sign. -/
def strAt (q : Nat) (l : List Nat) : Option (List Nat) :=
  if heads q l && l.tail.contains q then some (l.tail.takeWhile (· != q)) else none
def varA (l : List Nat) : Option (List Nat) :=
  if heads 36 l && !(qnameA l.tail).isEmpty then some (qnameA l.tail) else none
/-- Is it a QName? -/
def isQ (w : List Nat) : Bool :=
  if w.contains 58 then isNm (w.takeWhile (· != 58)) && isNm (w.dropWhile (· != 58)).tail else isNm w
def opWord (w : List Nat) : Bool := w == [97, 110, 100] || w == [111, 114] || w == [109, 111, 100] || w == [100, 105, 118] || w == [42]
def typeWord (w : List Nat) : Bool := w == [99, 111, 109, 109, 101, 110, 116] || w == [116, 101, 120, 116] ||
  w == [112, 114, 111, 99, 101, 115, 115, 105, 110, 103, 45, 105, 110, 115, 116, 114, 117, 99, 116, 105, 111, 110] || w == [110, 111, 100, 101]
/-- What a word is: its kind; none: it can't stand there. pl: an operator is asked for there. -/
def wordK (w b : List Nat) (pl : Bool) : Option Nat :=
  if pl then (if opWord w then some 8 else none) else
  if heads 40 (b.dropWhile blankC) && typeWord w then some 5 else
  if heads 40 (b.dropWhile blankC) && isQ w then some 4 else
  if [58, 58].isPrefixOf (b.dropWhile blankC) && isNm w then some 6 else some 3
def signL : List (Nat × List Nat) := [(8, [47, 47]), (8, [33, 61]), (8, [60, 61]), (8, [62, 61]), (9, [58, 58]), (9, [46, 46]), (8, [47]), (8, [124]), (8, [43]), (8, [45]), (8, [61]), (8, [60]), (8, [62]),
  (9, [40]), (9, [41]), (9, [91]), (9, [93]), (9, [46]), (9, [64]), (9, [44])]
def signA (l : List Nat) : Option (Nat × List Nat) := signL.find? (fun x => x.2.isPrefixOf l)
/-- A token: its kind, its text, and the characters that it takes. -/
structure Tok where
  kind : Nat
  text : List Nat
  raw : List Nat
  deriving DecidableEq
def tokA (l : List Nat) (pl : Bool) : Option Tok :=
  if !(numA l).isEmpty then some ⟨1, numA l, numA l⟩ else
  match strAt 34 l with
  | some t => some ⟨2, t, 34 :: t ++ [34]⟩
  | none => match strAt 39 l with
    | some t => some ⟨2, t, 39 :: t ++ [39]⟩
    | none => match varA l with
      | some t => some ⟨7, t, 36 :: t⟩
      | none => if !(wordA l).isEmpty then (wordK (wordA l) (l.drop (wordA l).length) pl).map (fun k => ⟨k, wordA l, wordA l⟩)
        else (signA l).map (fun x => ⟨x.1, x.2, x.2⟩)
/-- Is an operator asked for behind a token? -/
def behindOp (t : Tok) : Bool := !(t.kind == 8 || (t.kind == 9 && (t.text == [64] || t.text == [58, 58] || t.text == [40] || t.text == [91] || t.text == [44])))
def plOf (acc : List (Tok × Nat)) : Bool := match acc.getLast? with | none => false | some t => behindOp t.1
/-- The tokens from a place on, behind blanks: all of them, or the place of what is none. n: how many bytes a list of characters has. -/
def scanA (n : List Nat → Nat) : Nat → List (Tok × Nat) → List Nat → List Nat → Except Nat (List (Tok × Nat))
  | 0, acc, _, _ => .ok acc
  | f + 1, acc, pre, l =>
    if (l.dropWhile blankC).isEmpty then .ok acc else
    match tokA (l.dropWhile blankC) (plOf acc) with
    | none => .error (n (pre ++ l.takeWhile blankC))
    | some t => scanA n f (acc ++ [(t, n (pre ++ l.takeWhile blankC))]) (pre ++ l.takeWhile blankC ++ t.raw) ((l.dropWhile blankC).drop t.raw.length)
end Go.Proofs.YthkkfldmoflfaaaGreatDoor
/- Expressions: what xparse's parser tells of tokens, in plain terms. -/
namespace Go.Proofs.YthkkfldmoflfaaaGreatDoor
inductive Ex where
  | mk (op : Nat) (text : List Nat) (num : Int) (axis test : Nat) (kids : List Ex)
namespace Ex
def op : Ex → Nat | mk o _ _ _ _ _ => o
def text : Ex → List Nat | mk _ t _ _ _ _ => t
def num : Ex → Int | mk _ _ n _ _ _ => n
def axis : Ex → Nat | mk _ _ _ a _ _ => a
def test : Ex → Nat | mk _ _ _ _ t _ => t
def kids : Ex → List Ex | mk _ _ _ _ _ k => k
end Ex
/-- Where a parser stands: the tokens that are left (kind, text), how many ( ) are open, and were at most. -/
structure PS where
  left : List (Nat × List Nat)
  opn : Nat
  dp : Nat
inductive PR (α : Type) where
  | out | fail | ok (a : α) (s : PS)
def PR.bind {α β : Type} (r : PR α) (f : α → PS → PR β) : PR β := match r with | .out => .out | .fail => .fail | .ok a s => f a s
@[simp] theorem PR.bind_ok {α β : Type} (a : α) (s : PS) (f : α → PS → PR β) : (PR.ok a s).bind f = f a s := rfl
@[simp] theorem PR.bind_fail {α β : Type} (f : α → PS → PR β) : (PR.fail : PR α).bind f = .fail := rfl
@[simp] theorem PR.bind_out {α β : Type} (f : α → PS → PR β) : (PR.out : PR α).bind f = .out := rfl
def headIs (k : Nat) (t : List Nat) (s : PS) : Bool := match s.left with | [] => false | x :: _ => x.1 == k && x.2 == t
def seesK (k : Nat) (s : PS) : Bool := match s.left with | [] => false | x :: _ => x.1 == k
def headT (s : PS) : List Nat := match s.left with | [] => [] | x :: _ => x.2
def PS.pop (s : PS) : PS := ⟨s.left.tail, s.opn, s.dp⟩
/-- The operators with two Kids: sign, Op, grammar. -/
def opTab : List (List Nat × Nat × Nat) := [([111, 114], 1, 0), ([97, 110, 100], 2, 1), ([61], 3, 2), ([33, 61], 4, 2), ([60], 5, 3), ([60, 61], 6, 3), ([62], 7, 3), ([62, 61], 8, 3), ([43], 9, 4), ([45], 10, 4), ([42], 11, 5), ([100, 105, 118], 12, 5), ([109, 111, 100], 13, 5), ([124], 15, 7)]
def operOf (g : Nat) (s : PS) : Option Nat := (opTab.find? fun o => o.2.2 == g && headIs 8 o.1 s).map (·.2.1)
def axisL : List (List Nat) := [[99, 104, 105, 108, 100], [100, 101, 115, 99, 101, 110, 100, 97, 110, 116], [112, 97, 114, 101, 110, 116], [97, 110, 99, 101, 115, 116, 111, 114],
  [102, 111, 108, 108, 111, 119, 105, 110, 103, 45, 115, 105, 98, 108, 105, 110, 103], [112, 114, 101, 99, 101, 100, 105, 110, 103, 45, 115, 105, 98, 108, 105, 110, 103], [102, 111, 108, 108, 111, 119, 105, 110, 103], [112, 114, 101, 99, 101, 100, 105, 110, 103], [97, 116, 116, 114, 105, 98, 117, 116, 101], [115, 101, 108, 102],
  [100, 101, 115, 99, 101, 110, 100, 97, 110, 116, 45, 111, 114, 45, 115, 101, 108, 102], [97, 110, 99, 101, 115, 116, 111, 114, 45, 111, 114, 45, 115, 101, 108, 102]]
def typeL : List (List Nat) := [[110, 111, 100, 101], [116, 101, 120, 116], [99, 111, 109, 109, 101, 110, 116], [112, 114, 111, 99, 101, 115, 115, 105, 110, 103, 45, 105, 110, 115, 116, 114, 117, 99, 116, 105, 111, 110]]
def axisNo (t : List Nat) : Option Nat := axisL.findIdx? (· == t)
def typeNo (t : List Nat) : Option Nat := typeL.findIdx? (· == t)
def begStep (s : PS) : Bool := headIs 9 [46] s || headIs 9 [46, 46] s || headIs 9 [64] s || seesK 3 s || seesK 5 s || seesK 6 s
def topX : Ex := .mk 22 [] 0 0 0 []
def noX : Ex := .mk 0 [] 0 0 0 []
def belowX : Ex := .mk 23 [] 0 10 3 []
def pathX (ks : List Ex) : Ex := .mk 21 [] 0 0 0 ks
def axisP (s : PS) : Option (Nat × PS) :=
  if headIs 9 [64] s then some (8, s.pop) else
  if seesK 6 s then (if headIs 9 [58, 58] s.pop then (axisNo (headT s)).map (fun a => (a, s.pop.pop)) else none) else some (0, s)
def allSuf (t : List Nat) : Bool := [58, 42].isSuffixOf t
def typeP (s : PS) : Option (Nat × List Nat × PS) :=
  if seesK 5 s then
    match typeNo (headT s) with
    | none => none
    | some k =>
      if headIs 9 [40] s.pop then
        if k == 3 && seesK 2 s.pop.pop then (if headIs 9 [41] s.pop.pop.pop then some (6, headT s.pop.pop, s.pop.pop.pop.pop) else none)
        else (if headIs 9 [41] s.pop.pop then some (3 + k, [], s.pop.pop.pop) else none)
      else none
  else none
def testP (s : PS) : Option (Nat × List Nat × PS) :=
  if seesK 3 s then
    (if headT s == [42] then some (0, [], s.pop) else if allSuf (headT s) then some (1, (headT s).dropLast.dropLast, s.pop) else some (2, headT s, s.pop))
  else typeP s
mutual
def exprP (num : List Nat → Option Int) : Nat → Nat → PS → PR Ex
  | 0, _, _ => .out
  | n + 1, g, s => if g = 6 then negP num n s else if g = 8 then pathP num n s else (exprP num n (g + 1) s).bind fun e s => opsP num n g e s
def opsP (num : List Nat → Option Int) : Nat → Nat → Ex → PS → PR Ex
  | 0, _, _, _ => .out
  | n + 1, g, e, s =>
    match operOf g s with
    | none => .ok e s
    | some op => (exprP num n (g + 1) s.pop).bind fun e2 s2 => opsP num n g (.mk op [] 0 0 0 [e, e2]) s2
def negP (num : List Nat → Option Int) : Nat → PS → PR Ex
  | 0, _ => .out
  | n + 1, s => if headIs 8 [45] s then (negP num n s.pop).bind fun e s => .ok (.mk 14 [] 0 0 0 [e]) s else exprP num n 7 s
def pathP (num : List Nat → Option Int) : Nat → PS → PR Ex
  | 0, _ => .out
  | n + 1, s =>
    if headIs 8 [47] s then
      (if begStep s.pop then (stepP num n s.pop).bind fun e s => (moreP num n [topX, e] s).bind fun ks s => .ok (pathX ks) s else .ok (pathX [topX]) s.pop)
    else if headIs 8 [47, 47] s then (stepP num n s.pop).bind fun e s => (moreP num n [topX, belowX, e] s).bind fun ks s => .ok (pathX ks) s
    else if begStep s then (stepP num n s).bind fun e s => (moreP num n [noX, e] s).bind fun ks s => .ok (pathX ks) s
    else (filtP num n s).bind fun e s => (moreP num n [e] s).bind fun ks s => .ok (if ks.length = 1 then ks.headD noX else pathX ks) s
def moreP (num : List Nat → Option Int) : Nat → List Ex → PS → PR (List Ex)
  | 0, _, _ => .out
  | n + 1, ks, s =>
    if headIs 8 [47] s then (stepP num n s.pop).bind fun e s => moreP num n (ks ++ [e]) s
    else if headIs 8 [47, 47] s then (stepP num n s.pop).bind fun e s => moreP num n (ks ++ [belowX] ++ [e]) s
    else .ok ks s
def stepP (num : List Nat → Option Int) : Nat → PS → PR Ex
  | 0, _ => .out
  | n + 1, s =>
    if headIs 9 [46] s then .ok (.mk 23 [] 0 9 3 []) s.pop
    else if headIs 9 [46, 46] s then .ok (.mk 23 [] 0 2 3 []) s.pop
    else match axisP s with
      | none => .fail
      | some (a, s1) => match testP s1 with
        | none => .fail
        | some (t, tt, s2) => (predsP num n [] s2).bind fun ks s => .ok (.mk 23 tt 0 a t ks) s
def predsP (num : List Nat → Option Int) : Nat → List Ex → PS → PR (List Ex)
  | 0, _, _ => .out
  | n + 1, ks, s =>
    if headIs 9 [91] s then (exprP num n 0 s.pop).bind fun e s => if headIs 9 [93] s then predsP num n (ks ++ [e]) s.pop else .fail
    else .ok ks s
def filtP (num : List Nat → Option Int) : Nat → PS → PR Ex
  | 0, _ => .out
  | n + 1, s => (primP num n s).bind fun e s =>
    if e.op = 20 then (predsP num n e.kids s).bind fun ks s => .ok (.mk 20 e.text e.num e.axis e.test ks) s
    else (predsP num n [e] s).bind fun ks s => .ok (if ks.length = 1 then e else .mk 20 [] 0 0 0 ks) s
def primP (num : List Nat → Option Int) : Nat → PS → PR Ex
  | 0, _ => .out
  | n + 1, s =>
    if headIs 9 [40] s then brP num n s.pop
    else if seesK 1 s then (match num (headT s) with | none => .fail | some v => .ok (.mk 16 [] v 0 0 []) s.pop)
    else if seesK 2 s then .ok (.mk 17 (headT s) 0 0 0 []) s.pop
    else if seesK 7 s then .ok (.mk 18 (headT s) 0 0 0 []) s.pop
    else if seesK 4 s then (argsP num n s.pop).bind fun ks s' => .ok (.mk 19 (headT s) 0 0 0 ks) s'
    else .fail
def brP (num : List Nat → Option Int) : Nat → PS → PR Ex
  | 0, _ => .out
  | n + 1, s => (exprP num n 0 ⟨s.left, s.opn + 1, max s.dp (s.opn + 1)⟩).bind fun e s => if headIs 9 [41] s then .ok e ⟨s.left.tail, s.opn - 1, s.dp⟩ else .fail
def argsP (num : List Nat → Option Int) : Nat → PS → PR (List Ex)
  | 0, _ => .out
  | n + 1, s => if headIs 9 [40] s then (if headIs 9 [41] s.pop then .ok [] s.pop.pop else argsGoP num n [] s.pop) else .fail
def argsGoP (num : List Nat → Option Int) : Nat → List Ex → PS → PR (List Ex)
  | 0, _, _ => .out
  | n + 1, ks, s => (exprP num n 0 s).bind fun e s => if headIs 9 [44] s then argsGoP num n (ks ++ [e]) s.pop else if headIs 9 [41] s then .ok (ks ++ [e]) s.pop else .fail
end
end Go.Proofs.YthkkfldmoflfaaaGreatDoor
/- What the parser keeps: how many ( ) are open; tokens do not grow. -/
namespace Go.Proofs.YthkkfldmoflfaaaGreatDoor
/-- Of a result: as many ( ) are open as before, and no more tokens are left. -/
def Pres {α : Type} (r : PR α) (s : PS) : Prop := ∀ a s', r = .ok a s' → s'.opn = s.opn ∧ s'.left.length ≤ s.left.length
theorem Pres.out {α : Type} {s : PS} : Pres (.out : PR α) s := fun _ _ h => by cases h
theorem Pres.fail {α : Type} {s : PS} : Pres (.fail : PR α) s := fun _ _ h => by cases h
theorem Pres.ok {α : Type} {a : α} {s s' : PS} (h : s'.opn = s.opn) (hl : s'.left.length ≤ s.left.length) : Pres (.ok a s') s := fun _ _ e => by cases e; exact ⟨h, hl⟩
theorem Pres.bind {α β : Type} {r : PR α} {f : α → PS → PR β} {s : PS} (h : Pres r s) (hf : ∀ a s', s'.opn = s.opn → s'.left.length ≤ s.left.length → Pres (f a s') s) : Pres (r.bind f) s := by
  cases r with
  | out => exact Pres.out
  | fail => exact Pres.fail
  | ok a s' => exact hf a s' (h a s' rfl).1 (h a s' rfl).2
theorem Pres.via {α : Type} {r : PR α} {s s0 : PS} (h : Pres r s) (ho : s.opn = s0.opn) (hl : s.left.length ≤ s0.left.length) : Pres r s0 := fun a s' e => ⟨(h a s' e).1.trans ho, Nat.le_trans (h a s' e).2 hl⟩
theorem pop_len (s : PS) : s.pop.left.length ≤ s.left.length := by unfold PS.pop; simp
theorem axisP_pres {s s' : PS} {a : Nat} (h : axisP s = some (a, s')) : s'.opn = s.opn ∧ s'.left.length ≤ s.left.length := by
  unfold axisP at h
  have h1 := pop_len s
  have h2 := pop_len s.pop
  split at h
  · cases h; exact ⟨rfl, h1⟩
  · split at h
    · split at h
      · cases hx : axisNo (headT s) with
        | none => rw [hx] at h; cases h
        | some k => rw [hx] at h; cases h; exact ⟨rfl, by omega⟩
      · cases h
    · cases h; exact ⟨rfl, Nat.le_refl _⟩
theorem typeP_pres {s s' : PS} {a : Nat} {t : List Nat} (h : typeP s = some (a, t, s')) : s'.opn = s.opn ∧ s'.left.length ≤ s.left.length := by
  unfold typeP at h
  have h1 := pop_len s
  have h2 := pop_len s.pop
  have h3 := pop_len s.pop.pop
  have h4 := pop_len s.pop.pop.pop
  split at h
  · split at h
    · cases h
    · split at h
      · split at h
        · split at h
          · cases h; exact ⟨rfl, by omega⟩
          · cases h
        · split at h
          · cases h; exact ⟨rfl, by omega⟩
          · cases h
      · cases h
  · cases h
theorem testP_pres {s s' : PS} {a : Nat} {t : List Nat} (h : testP s = some (a, t, s')) : s'.opn = s.opn ∧ s'.left.length ≤ s.left.length := by
  unfold testP at h
  have h1 := pop_len s
  split at h
  · split at h
    · cases h; exact ⟨rfl, h1⟩
    · split at h
      · cases h; exact ⟨rfl, h1⟩
      · cases h; exact ⟨rfl, h1⟩
  · exact typeP_pres h
theorem pres_all (num : List Nat → Option Int) : ∀ n, (∀ g s, Pres (exprP num n g s) s) ∧ (∀ g e s, Pres (opsP num n g e s) s) ∧ (∀ s, Pres (negP num n s) s) ∧ (∀ s, Pres (pathP num n s) s) ∧ (∀ ks s, Pres (moreP num n ks s) s) ∧ (∀ s, Pres (stepP num n s) s) ∧ (∀ ks s, Pres (predsP num n ks s) s) ∧ (∀ s, Pres (filtP num n s) s) ∧ (∀ s, Pres (primP num n s) s) ∧ (∀ s, Pres (brP num n s) s) ∧ (∀ s, Pres (argsP num n s) s) ∧ (∀ ks s, Pres (argsGoP num n ks s) s)
  | 0 => by
    refine ⟨?_, ?_, ?_, ?_, ?_, ?_, ?_, ?_, ?_, ?_, ?_, ?_⟩ <;> intros <;> simp only [exprP, opsP, negP, pathP, moreP, stepP, predsP, filtP, primP, brP, argsP, argsGoP] <;> exact Pres.out
  | n + 1 => by
    obtain ⟨hE, hO, hN, hP, hM, hS, hQ, hF, hR, hB, hA, hG⟩ := pres_all num n
    have pp : ∀ s : PS, s.pop.opn = s.opn ∧ s.pop.left.length ≤ s.left.length := fun s => ⟨rfl, pop_len s⟩
    refine ⟨?_, ?_, ?_, ?_, ?_, ?_, ?_, ?_, ?_, ?_, ?_, ?_⟩
    · intro g s
      rw [exprP]
      split
      · exact hN s
      · split
        · exact hP s
        · exact (hE _ s).bind fun a s' h1 h2 => (hO _ _ s').via h1 h2
    · intro g e s
      rw [opsP]
      split
      · exact Pres.ok rfl (Nat.le_refl _)
      · exact ((hE _ s.pop).via (pp s).1 (pp s).2).bind fun a s' h1 h2 => (hO _ _ s').via h1 h2
    · intro s
      rw [negP]
      split
      · exact ((hN s.pop).via (pp s).1 (pp s).2).bind fun a s' h1 h2 => Pres.ok h1 h2
      · exact hE _ s
    · intro s
      rw [pathP]
      split
      · split
        · exact ((hS s.pop).via (pp s).1 (pp s).2).bind fun a s' h1 h2 => ((hM _ s').via h1 h2).bind fun b s2 h3 h4 => Pres.ok h3 h4
        · exact Pres.ok (pp s).1 (pp s).2
      · split
        · exact ((hS s.pop).via (pp s).1 (pp s).2).bind fun a s' h1 h2 => ((hM _ s').via h1 h2).bind fun b s2 h3 h4 => Pres.ok h3 h4
        · split
          · exact (hS s).bind fun a s' h1 h2 => ((hM _ s').via h1 h2).bind fun b s2 h3 h4 => Pres.ok h3 h4
          · exact (hF s).bind fun a s' h1 h2 => ((hM _ s').via h1 h2).bind fun b s2 h3 h4 => Pres.ok h3 h4
    · intro ks s
      rw [moreP]
      split
      · exact ((hS s.pop).via (pp s).1 (pp s).2).bind fun a s' h1 h2 => (hM _ s').via h1 h2
      · split
        · exact ((hS s.pop).via (pp s).1 (pp s).2).bind fun a s' h1 h2 => (hM _ s').via h1 h2
        · exact Pres.ok rfl (Nat.le_refl _)
    · intro s
      rw [stepP]
      split
      · exact Pres.ok (pp s).1 (pp s).2
      · split
        · exact Pres.ok (pp s).1 (pp s).2
        · split
          · exact Pres.fail
          · rename_i a s1 h1
            split
            · exact Pres.fail
            · rename_i t tt s2 h2
              obtain ⟨a1, a2⟩ := axisP_pres h1
              obtain ⟨b1, b2⟩ := testP_pres h2
              exact ((hQ _ s2).via (b1.trans a1) (by omega)).bind fun b s3 h3 h4 => Pres.ok h3 h4
    · intro ks s
      rw [predsP]
      split
      · refine ((hE _ s.pop).via (pp s).1 (pp s).2).bind fun a s' h1 h2 => ?_
        split
        · exact (hQ _ s'.pop).via ((pp s').1.trans h1) (by have := (pp s').2; omega)
        · exact Pres.fail
      · exact Pres.ok rfl (Nat.le_refl _)
    · intro s
      rw [filtP]
      refine (hR s).bind fun a s' h1 h2 => ?_
      split
      · exact ((hQ _ s').via h1 h2).bind fun b s3 h3 h4 => Pres.ok h3 h4
      · exact ((hQ _ s').via h1 h2).bind fun b s3 h3 h4 => Pres.ok h3 h4
    · intro s
      rw [primP]
      split
      · exact (hB s.pop).via (pp s).1 (pp s).2
      · split
        · split
          · exact Pres.fail
          · exact Pres.ok (pp s).1 (pp s).2
        · split
          · exact Pres.ok (pp s).1 (pp s).2
          · split
            · exact Pres.ok (pp s).1 (pp s).2
            · split
              · exact ((hA s.pop).via (pp s).1 (pp s).2).bind fun b s3 h3 h4 => Pres.ok h3 h4
              · exact Pres.fail
    · intro s a s' e
      rw [brP] at e
      have h := hE 0 ⟨s.left, s.opn + 1, max s.dp (s.opn + 1)⟩
      cases hr : exprP num n 0 ⟨s.left, s.opn + 1, max s.dp (s.opn + 1)⟩ with
      | out => rw [hr] at e; cases e
      | fail => rw [hr] at e; cases e
      | ok b s2 =>
        rw [hr, PR.bind_ok] at e
        obtain ⟨h1, h2⟩ := h b s2 hr
        split at e
        · cases e
          simp only at h1 h2 ⊢
          refine ⟨by omega, ?_⟩
          rw [List.length_tail]
          omega
        · cases e
    · intro s
      rw [argsP]
      split
      · split
        · exact Pres.ok rfl (by have := (pp s).2; have := (pp s.pop).2; omega)
        · exact (hG _ s.pop).via (pp s).1 (pp s).2
      · exact Pres.fail
    · intro ks s
      rw [argsGoP]
      refine (hE _ s).bind fun a s' h1 h2 => ?_
      split
      · exact (hG _ s'.pop).via ((pp s').1.trans h1) (by have := (pp s').2; omega)
      · split
        · exact Pres.ok h1 (by have := (pp s').2; omega)
        · exact Pres.fail
end Go.Proofs.YthkkfldmoflfaaaGreatDoor
/- Whether an expression is right: xparse's judge, in plain terms. The counter is how many expressions were seen. -/
namespace Go.Proofs.YthkkfldmoflfaaaGreatDoor
/-- What the judge tells: 'none' where the fuel is out. -/
abbrev JR := Option (Bool × Nat)
/-- The next look, if the first was well. -/
def JR.thenJ (a : JR) (f : Nat → JR) : JR := match a with
  | none => none
  | some (false, c) => some (false, c)
  | some (true, c) => f c
theorem JR.then_true (c : Nat) (f : Nat → JR) : JR.thenJ (some (true, c)) f = f c := rfl
theorem JR.then_false (c : Nat) (f : Nat → JR) : JR.thenJ (some (false, c)) f = some (false, c) := rfl
theorem JR.then_none (f : Nat → JR) : JR.thenJ none f = none := rfl
/-- By itself: between Or and Path. -/
def selfX (e : Ex) : Bool := 1 ≤ e.op && e.op ≤ 21
/-- What the number of Kids must be, but for a Path's. -/
def kidsN (e : Ex) : Bool :=
  if e.op = 0 ∨ e.op = 22 ∨ e.op = 16 ∨ e.op = 17 ∨ e.op = 18 then e.kids.length == 0
  else if e.op = 19 ∨ e.op = 23 then true
  else if e.op = 14 then e.kids.length == 1
  else if e.op = 20 then 2 ≤ e.kids.length && (e.kids.headD noX).op != 20
  else e.kids.length == 2
mutual
def jPart (fl : Ex → Bool) : Nat → Nat → Nat → Ex → JR
  | 0, _, _, _ => none
  | n + 1, d, c, e => if d ≤ 32 ∧ c + 1 ≤ 512 ∧ fl e = true then jKids fl n (d + 1) (c + 1) e else some (false, c + 1)
def jKids (fl : Ex → Bool) : Nat → Nat → Nat → Ex → JR
  | 0, _, _, _ => none
  | n + 1, d, c, e => if e.op = 21 then jPath fl n d c e.kids else if kidsN e then jAll fl n d c e.kids else some (false, c)
def jRight (fl : Ex → Bool) : Nat → Nat → Nat → Ex → JR
  | 0, _, _, _ => none
  | n + 1, d, c, e => if selfX e then jPart fl n d c e else some (false, c)
def jAll (fl : Ex → Bool) : Nat → Nat → Nat → List Ex → JR
  | 0, _, _, _ => none
  | _ + 1, _, c, [] => some (true, c)
  | n + 1, d, c, k :: ks => JR.thenJ (jRight fl n d c k) fun c => jAll fl n d c ks
def jSteps (fl : Ex → Bool) : Nat → Nat → Nat → List Ex → JR
  | 0, _, _, _ => none
  | _ + 1, _, c, [] => some (true, c)
  | n + 1, d, c, k :: ks => if k.op = 23 then JR.thenJ (jPart fl n d c k) fun c => jSteps fl n d c ks else some (false, c)
def jPath (fl : Ex → Bool) : Nat → Nat → Nat → List Ex → JR
  | 0, _, _, _ => none
  | _ + 1, _, c, [] => some (false, c)
  | n + 1, d, c, k :: ks => if ks = [] ∧ k.op ≠ 22 then some (false, c) else
    JR.thenJ (if k.op = 0 ∨ k.op = 22 then jPart fl n d c k else jRight fl n d c k) fun c => jSteps fl n d c ks
end
mutual
/-- Texts and numbers of an expression are small. -/
def smallX : Ex → Bool
  | .mk _ t _ a ts ks => (decide (t.length ≤ 1000) && decide (a ≤ 1000) && decide (ts ≤ 1000)) && smallKs ks
def smallKs : List Ex → Bool
  | [] => true
  | k :: ks => smallX k && smallKs ks
end
theorem smallX.kids {x : Ex} (h : smallX x = true) : smallKs x.kids = true := by
  cases x
  rw [smallX, Bool.and_eq_true] at h
  exact h.2
theorem smallX.parts {x : Ex} (h : smallX x = true) : x.text.length ≤ 1000 ∧ x.axis ≤ 1000 ∧ x.test ≤ 1000 := by
  cases x
  rw [smallX, Bool.and_eq_true, Bool.and_eq_true, Bool.and_eq_true] at h
  exact ⟨of_decide_eq_true h.1.1.1, of_decide_eq_true h.1.1.2, of_decide_eq_true h.1.2⟩
theorem smallKs.head {k : Ex} {ks : List Ex} (h : smallKs (k :: ks) = true) : smallX k = true ∧ smallKs ks = true := by
  rw [smallKs, Bool.and_eq_true] at h
  exact h
/-- What the judge counts. -/
theorem JR.then_some {a : JR} {f : Nat → JR} {c' : Nat} (h : a.thenJ f = some (true, c')) : ∃ c, a = some (true, c) ∧ f c = some (true, c') := by
  match a, h with
  | some (true, c), h => exact ⟨c, rfl, h⟩
theorem j_counts (fl : Ex → Bool) : ∀ n, (∀ d c e c', jPart fl n d c e = some (true, c') → c + 1 ≤ c' ∧ c' ≤ 512) ∧ (∀ d c e c', c ≤ 512 → jKids fl n d c e = some (true, c') → c ≤ c' ∧ c' ≤ 512) ∧ (∀ d c e c', jRight fl n d c e = some (true, c') → c + 1 ≤ c' ∧ c' ≤ 512) ∧ (∀ d c ks c', c ≤ 512 → jAll fl n d c ks = some (true, c') → c ≤ c' ∧ c' ≤ 512) ∧ (∀ d c ks c', c ≤ 512 → jSteps fl n d c ks = some (true, c') → c ≤ c' ∧ c' ≤ 512) ∧ (∀ d c ks c', c ≤ 512 → jPath fl n d c ks = some (true, c') → c ≤ c' ∧ c' ≤ 512)
  | 0 => by
    refine ⟨?_, ?_, ?_, ?_, ?_, ?_⟩ <;> (intros; rename_i h; simp [jPart, jKids, jRight, jAll, jSteps, jPath] at h)
  | n + 1 => by
    obtain ⟨i1, i2, i3, i4, i5, i6⟩ := j_counts fl n
    refine ⟨?_, ?_, ?_, ?_, ?_, ?_⟩
    · intro d c e c' h
      rw [jPart] at h
      split at h
      · rename_i hc
        have := i2 _ _ _ _ hc.2.1 h
        omega
      · cases h
    · intro d c e c' hc h
      rw [jKids] at h
      split at h
      · exact i6 _ _ _ _ hc h
      · split at h
        · exact i4 _ _ _ _ hc h
        · cases h
    · intro d c e c' h
      rw [jRight] at h
      split at h
      · exact i1 _ _ _ _ h
      · cases h
    · intro d c ks c' hc h
      cases ks with
      | nil => rw [jAll] at h; cases h; omega
      | cons k ks =>
        rw [jAll] at h
        obtain ⟨c1, h1, h2⟩ := JR.then_some h
        have := i3 _ _ _ _ h1
        have := i4 _ _ _ _ this.2 h2
        omega
    · intro d c ks c' hc h
      cases ks with
      | nil => rw [jSteps] at h; cases h; omega
      | cons k ks =>
        rw [jSteps] at h
        split at h
        · obtain ⟨c1, h1, h2⟩ := JR.then_some h
          have := i1 _ _ _ _ h1
          have := i5 _ _ _ _ this.2 h2
          omega
        · cases h
    · intro d c ks c' hc h
      cases ks with
      | nil => rw [jPath] at h; cases h
      | cons k ks =>
        rw [jPath] at h
        split at h
        · cases h
        · obtain ⟨c1, h1, h2⟩ := JR.then_some h
          split at h1
          · have := i1 _ _ _ _ h1
            have := i5 _ _ _ _ this.2 h2
            omega
          · have := i3 _ _ _ _ h1
            have := i5 _ _ _ _ this.2 h2
            omega
end Go.Proofs.YthkkfldmoflfaaaGreatDoor
/- Fuel that suffices the parser and the judge; what the parser finds is small. -/
namespace Go.Proofs.YthkkfldmoflfaaaGreatDoor
def Lv {α : Type} (r : PR α) : Prop := r ≠ .out
theorem Lv.ok {α : Type} {a : α} {s : PS} : Lv (.ok a s) := fun h => by cases h
theorem Lv.fail {α : Type} : Lv (.fail : PR α) := fun h => by cases h
theorem Lv.bind {α β : Type} {r : PR α} {f : α → PS → PR β} (h : Lv r) (hf : ∀ a s', r = .ok a s' → Lv (f a s')) : Lv (r.bind f) := by
  cases r with
  | out => exact absurd rfl h
  | fail => exact Lv.fail
  | ok a s' => exact hf a s' rfl
theorem head_pop {k : Nat} {t : List Nat} {s : PS} (h : headIs k t s = true) : s.pop.left.length + 1 = s.left.length := by
  unfold headIs at h
  unfold PS.pop
  cases hl : s.left with
  | nil => rw [hl] at h; cases h
  | cons x r => simp
theorem sees_pop {k : Nat} {s : PS} (h : seesK k s = true) : s.pop.left.length + 1 = s.left.length := by
  unfold seesK at h
  unfold PS.pop
  cases hl : s.left with
  | nil => rw [hl] at h; cases h
  | cons x r => simp
theorem oper_pop {g op : Nat} {s : PS} (h : operOf g s = some op) : s.pop.left.length + 1 = s.left.length := by
  cases hl : s.left with
  | nil =>
    have h0 : ∀ t, headIs 8 t s = false := fun t => by unfold headIs; rw [hl]
    have h1 : opTab.find? (fun o => o.2.2 == g && headIs 8 o.1 s) = none := List.find?_eq_none.2 fun o _ => by simp [h0]
    unfold operOf at h
    rw [h1] at h
    cases h
  | cons x r =>
    unfold PS.pop
    simp [hl]
/-- With so much fuel the parser ends. -/
theorem live_all (num : List Nat → Option Int) : ∀ n, (∀ g s, g ≤ 8 → 30 * s.left.length + 26 ≤ n + 2 * g → Lv (exprP num n g s)) ∧ (∀ g e s, g ≤ 7 → 30 * s.left.length + 1 ≤ n → Lv (opsP num n g e s)) ∧ (∀ s, 30 * s.left.length + 13 ≤ n → Lv (negP num n s)) ∧ (∀ s, 30 * s.left.length + 8 ≤ n → Lv (pathP num n s)) ∧ (∀ ks s, 30 * s.left.length + 1 ≤ n → Lv (moreP num n ks s)) ∧ (∀ s, 30 * s.left.length + 3 ≤ n → Lv (stepP num n s)) ∧ (∀ ks s, 30 * s.left.length + 1 ≤ n → Lv (predsP num n ks s)) ∧ (∀ s, 30 * s.left.length + 4 ≤ n → Lv (filtP num n s)) ∧ (∀ s, 30 * s.left.length + 2 ≤ n → Lv (primP num n s)) ∧ (∀ s, 30 * s.left.length + 28 ≤ n → Lv (brP num n s)) ∧ (∀ s, 30 * s.left.length + 1 ≤ n → Lv (argsP num n s)) ∧ (∀ ks s, 30 * s.left.length + 28 ≤ n → Lv (argsGoP num n ks s))
  | 0 => by
    refine ⟨?_, ?_, ?_, ?_, ?_, ?_, ?_, ?_, ?_, ?_, ?_, ?_⟩ <;> intros <;> exact absurd (by assumption : _ ≤ _) (by omega)
  | n + 1 => by
    obtain ⟨hE, hO, hN, hP, hM, hS, hQ, hF, hR, hB, hA, hG⟩ := live_all num n
    obtain ⟨pE, _, pN, pP, pM, pS, pQ, pF, pR, pB, pA, pG⟩ := pres_all num n
    refine ⟨?_, ?_, ?_, ?_, ?_, ?_, ?_, ?_, ?_, ?_, ?_, ?_⟩
    · intro g s hg h
      rw [exprP]
      split
      · subst g; exact hN s (by omega)
      · split
        · subst g; exact hP s (by omega)
        · exact (hE _ s (by omega) (by omega)).bind fun a s' e => hO g a s' (by omega) (by have := (pE _ _ a s' e).2; omega)
    · intro g e s hg h
      rw [opsP]
      split
      · exact Lv.ok
      · rename_i op ho
        have := oper_pop ho
        exact (hE _ s.pop (by omega) (by omega)).bind fun a s' e => hO g _ s' hg (by have := (pE _ _ a s' e).2; omega)
    · intro s h
      rw [negP]
      split
      · rename_i h0
        have := head_pop h0
        exact (hN s.pop (by omega)).bind fun a s' e => Lv.ok
      · exact hE 7 s (by omega) (by omega)
    · intro s h
      rw [pathP]
      split
      · rename_i h0
        have := head_pop h0
        split
        · exact (hS s.pop (by omega)).bind fun a s' e => (hM _ s' (by have := (pS _ a s' e).2; omega)).bind fun ks s2 e2 => Lv.ok
        · exact Lv.ok
      · split
        · rename_i h0
          have := head_pop h0
          exact (hS s.pop (by omega)).bind fun a s' e => (hM _ s' (by have := (pS _ a s' e).2; omega)).bind fun ks s2 e2 => Lv.ok
        · split
          · exact (hS s (by omega)).bind fun a s' e => (hM _ s' (by have := (pS _ a s' e).2; omega)).bind fun ks s2 e2 => Lv.ok
          · exact (hF s (by omega)).bind fun a s' e => (hM _ s' (by have := (pF _ a s' e).2; omega)).bind fun ks s2 e2 => Lv.ok
    · intro ks s h
      rw [moreP]
      split
      · rename_i h0
        have := head_pop h0
        exact (hS s.pop (by omega)).bind fun a s' e => hM _ s' (by have := (pS _ a s' e).2; omega)
      · split
        · rename_i h0
          have := head_pop h0
          exact (hS s.pop (by omega)).bind fun a s' e => hM _ s' (by have := (pS _ a s' e).2; omega)
        · exact Lv.ok
    · intro s h
      rw [stepP]
      split
      · exact Lv.ok
      · split
        · exact Lv.ok
        · split
          · exact Lv.fail
          · rename_i a s1 h1
            split
            · exact Lv.fail
            · rename_i t tt s2 h2
              have a2 := (axisP_pres h1).2
              have b2 := (testP_pres h2).2
              exact (hQ _ s2 (by omega)).bind fun b s3 e => Lv.ok
    · intro ks s h
      rw [predsP]
      split
      · rename_i h0
        have := head_pop h0
        refine (hE _ s.pop (by omega) (by omega)).bind fun a s' e => ?_
        have h2 := (pE _ _ a s' e).2
        split
        · rename_i h1
          have := head_pop h1
          exact hQ _ s'.pop (by omega)
        · exact Lv.fail
      · exact Lv.ok
    · intro s h
      rw [filtP]
      refine (hR s (by omega)).bind fun a s' e => ?_
      have h2 := (pR _ a s' e).2
      split
      · exact (hQ _ s' (by omega)).bind fun b s3 _ => Lv.ok
      · exact (hQ _ s' (by omega)).bind fun b s3 _ => Lv.ok
    · intro s h
      rw [primP]
      split
      · rename_i h0
        have := head_pop h0
        exact hB s.pop (by omega)
      · split
        · split
          · exact Lv.fail
          · exact Lv.ok
        · split
          · exact Lv.ok
          · split
            · exact Lv.ok
            · split
              · rename_i h0
                have := sees_pop h0
                exact (hA s.pop (by omega)).bind fun b s3 _ => Lv.ok
              · exact Lv.fail
    · intro s h
      rw [brP]
      refine (hE 0 ⟨s.left, s.opn + 1, max s.dp (s.opn + 1)⟩ (by omega) (by show 30 * s.left.length + 26 ≤ _; omega)).bind fun a s' e => ?_
      split
      · exact Lv.ok
      · exact Lv.fail
    · intro s h
      rw [argsP]
      split
      · rename_i h0
        have := head_pop h0
        split
        · exact Lv.ok
        · exact hG _ s.pop (by omega)
      · exact Lv.fail
    · intro ks s h
      rw [argsGoP]
      refine (hE _ s (by omega) (by omega)).bind fun a s' e => ?_
      have h2 := (pE _ _ a s' e).2
      split
      · rename_i h0
        have := head_pop h0
        exact hG _ s'.pop (by omega)
      · split
        · exact Lv.ok
        · exact Lv.fail
mutual
/-- Fuel for the judge. -/
def wt : Ex → Nat
  | .mk _ _ _ _ _ ks => 6 + wtKs ks
def wtKs : List Ex → Nat
  | [] => 1
  | k :: ks => wt k + wtKs ks + 1
end
theorem wt_kids (x : Ex) : wt x = 6 + wtKs x.kids := by
  cases x
  rw [wt]
  rfl
theorem JR.live {a : JR} {f : Nat → JR} (h : a ≠ none) (hf : ∀ c, f c ≠ none) : JR.thenJ a f ≠ none := by
  match a, h with
  | some (true, c), _ => exact hf c
  | some (false, c), _ => exact fun h => by cases h
theorem j_live (fl : Ex → Bool) : ∀ n, (∀ d c e, wtKs e.kids + 2 ≤ n → jPart fl n d c e ≠ none) ∧ (∀ d c e, wtKs e.kids + 1 ≤ n → jKids fl n d c e ≠ none) ∧ (∀ d c e, wtKs e.kids + 3 ≤ n → jRight fl n d c e ≠ none) ∧ (∀ d c ks, wtKs ks ≤ n → jAll fl n d c ks ≠ none) ∧ (∀ d c ks, wtKs ks ≤ n → jSteps fl n d c ks ≠ none) ∧ (∀ d c ks, wtKs ks ≤ n → jPath fl n d c ks ≠ none)
  | 0 => by
    have h0 : ∀ ks, 1 ≤ wtKs ks := fun ks => by cases ks <;> rw [wtKs] <;> omega
    refine ⟨?_, ?_, ?_, ?_, ?_, ?_⟩
    · intro d c e h; omega
    · intro d c e h; omega
    · intro d c e h; omega
    · intro d c ks h; have := h0 ks; omega
    · intro d c ks h; have := h0 ks; omega
    · intro d c ks h; have := h0 ks; omega
  | n + 1 => by
    obtain ⟨i1, i2, i3, i4, i5, i6⟩ := j_live fl n
    have hs : ∀ (b : Bool) (c : Nat), (some (b, c) : JR) ≠ none := fun _ _ h => by cases h
    refine ⟨?_, ?_, ?_, ?_, ?_, ?_⟩
    · intro d c e h
      rw [jPart]
      split
      · exact i2 _ _ e (by omega)
      · exact hs _ _
    · intro d c e h
      rw [jKids]
      split
      · exact i6 _ _ _ (by omega)
      · split
        · exact i4 _ _ _ (by omega)
        · exact hs _ _
    · intro d c e h
      rw [jRight]
      split
      · exact i1 _ _ e (by omega)
      · exact hs _ _
    · intro d c ks h
      cases ks with
      | nil => rw [jAll]; exact hs _ _
      | cons k ks =>
        rw [wtKs, wt_kids] at h
        rw [jAll]
        exact JR.live (i3 _ _ k (by omega)) fun c => i4 _ _ ks (by omega)
    · intro d c ks h
      cases ks with
      | nil => rw [jSteps]; exact hs _ _
      | cons k ks =>
        rw [wtKs, wt_kids] at h
        rw [jSteps]
        split
        · exact JR.live (i1 _ _ k (by omega)) fun c => i5 _ _ ks (by omega)
        · exact hs _ _
    · intro d c ks h
      cases ks with
      | nil => rw [jPath]; exact hs _ _
      | cons k ks =>
        rw [wtKs, wt_kids] at h
        rw [jPath]
        split
        · exact hs _ _
        · refine JR.live ?_ fun c => i5 _ _ ks (by omega)
          split
          · exact i1 _ _ k (by omega)
          · exact i3 _ _ k (by omega)
/-- The judge of an expression ends. -/
theorem jright_ends (fl : Ex → Bool) (x : Ex) : ∃ b c, jRight fl (wt x) 0 0 x = some (b, c) := by
  have h := (j_live fl (wt x)).2.2.1 0 0 x (by rw [wt_kids]; omega)
  cases hj : jRight fl (wt x) 0 0 x with
  | none => exact absurd hj h
  | some a => exact ⟨a.1, a.2, rfl⟩
end Go.Proofs.YthkkfldmoflfaaaGreatDoor
