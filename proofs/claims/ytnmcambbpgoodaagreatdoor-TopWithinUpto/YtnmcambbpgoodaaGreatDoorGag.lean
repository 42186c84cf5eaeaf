/- Several texts, laid as one. -/
import Derived.Test.YtnmcambbpgoodaaGreatDoorGaf
import Derived.Maps.AppendAt
/- Expressions: what xparse's parser tells of tokens, in plain terms. -/
namespace Go.Proofs.YtnmcambbpgoodaaGreatDoor
inductive Ex where
  | mk (op : Nat) (text : List Nat) (num : Int) (axis test : Nat) (kids : List Ex)
namespace Ex
def op : Ex → Nat | mk o _ _ _ _ _ => o
def text : Ex → List Nat | mk _ t _ _ _ _ => t
def num : Ex → Int | mk _ _ n _ _ _ => n
def axis : Ex → Nat | mk _ _ _ a _ _ => a
def test : Ex → Nat | mk _ _ _ _ t _ => t
def kids : Ex → List Ex | mk _ _ _ _ _ k => k
end Ex
/-- Where a parser stands: the tokens that are left (kind, text), how many ( ) are open, and were at most. -/
structure PS where
  left : List (Nat × List Nat)
  opn : Nat
  dp : Nat
inductive PR (α : Type) where
  | out | fail | ok (a : α) (s : PS)
def PR.bind {α β : Type} (r : PR α) (f : α → PS → PR β) : PR β := match r with | .out => .out | .fail => .fail | .ok a s => f a s
@[simp] theorem PR.bind_ok {α β : Type} (a : α) (s : PS) (f : α → PS → PR β) : (PR.ok a s).bind f = f a s := rfl
@[simp] theorem PR.bind_fail {α β : Type} (f : α → PS → PR β) : (PR.fail : PR α).bind f = .fail := rfl
@[simp] theorem PR.bind_out {α β : Type} (f : α → PS → PR β) : (PR.out : PR α).bind f = .out := rfl
def headIs (k : Nat) (t : List Nat) (s : PS) : Bool := match s.left with | [] => false | x :: _ => x.1 == k && x.2 == t
def seesK (k : Nat) (s : PS) : Bool := match s.left with | [] => false | x :: _ => x.1 == k
def headT (s : PS) : List Nat := match s.left with | [] => [] | x :: _ => x.2
def PS.pop (s : PS) : PS := ⟨s.left.tail, s.opn, s.dp⟩
/-- The operators with two Kids: sign, Op, grammar. -/
def opTab : List (List Nat × Nat × Nat) := [([111, 114], 1, 0), ([97, 110, 100], 2, 1), ([61], 3, 2), ([33, 61], 4, 2), ([60], 5, 3), ([60, 61], 6, 3), ([62], 7, 3), ([62, 61], 8, 3), ([43], 9, 4), ([45], 10, 4), ([42], 11, 5), ([100, 105, 118], 12, 5), ([109, 111, 100], 13, 5), ([124], 15, 7)]
def operOf (g : Nat) (s : PS) : Option Nat := (opTab.find? fun o => o.2.2 == g && headIs 8 o.1 s).map (·.2.1)
def axisL : List (List Nat) := [[99, 104, 105, 108, 100], [100, 101, 115, 99, 101, 110, 100, 97, 110, 116], [112, 97, 114, 101, 110, 116], [97, 110, 99, 101, 115, 116, 111, 114],
  [102, 111, 108, 108, 111, 119, 105, 110, 103, 45, 115, 105, 98, 108, 105, 110, 103], [112, 114, 101, 99, 101, 100, 105, 110, 103, 45, 115, 105, 98, 108, 105, 110, 103], [102, 111, 108, 108, 111, 119, 105, 110, 103], [112, 114, 101, 99, 101, 100, 105, 110, 103], [97, 116, 116, 114, 105, 98, 117, 116, 101], [115, 101, 108, 102],
  [100, 101, 115, 99, 101, 110, 100, 97, 110, 116, 45, 111, 114, 45, 115, 101, 108, 102], [97, 110, 99, 101, 115, 116, 111, 114, 45, 111, 114, 45, 115, 101, 108, 102]]
def typeL : List (List Nat) := [[110, 111, 100, 101], [116, 101, 120, 116], [99, 111, 109, 109, 101, 110, 116], [112, 114, 111, 99, 101, 115, 115, 105, 110, 103, 45, 105, 110, 115, 116, 114, 117, 99, 116, 105, 111, 110]]
def axisNo (t : List Nat) : Option Nat := axisL.findIdx? (· == t)
def typeNo (t : List Nat) : Option Nat := typeL.findIdx? (· == t)
def begStep (s : PS) : Bool := headIs 9 [46] s || headIs 9 [46, 46] s || headIs 9 [64] s || seesK 3 s || seesK 5 s || seesK 6 s
def topX : Ex := .mk 22 [] 0 0 0 []
def noX : Ex := .mk 0 [] 0 0 0 []
def belowX : Ex := .mk 23 [] 0 10 3 []
def pathX (ks : List Ex) : Ex := .mk 21 [] 0 0 0 ks
def axisP (s : PS) : Option (Nat × PS) :=
  if headIs 9 [64] s then some (8, s.pop) else
  if seesK 6 s then (if headIs 9 [58, 58] s.pop then (axisNo (headT s)).map (fun a => (a, s.pop.pop)) else none) else some (0, s)
def allSuf (t : List Nat) : Bool := [58, 42].isSuffixOf t
def typeP (s : PS) : Option (Nat × List Nat × PS) :=
  if seesK 5 s then
    match typeNo (headT s) with
    | none => none
    | some k =>
      if headIs 9 [40] s.pop then
        if k == 3 && seesK 2 s.pop.pop then (if headIs 9 [41] s.pop.pop.pop then some (6, headT s.pop.pop, s.pop.pop.pop.pop) else none)
        else (if headIs 9 [41] s.pop.pop then some (3 + k, [], s.pop.pop.pop) else none)
      else none
  else none
def testP (s : PS) : Option (Nat × List Nat × PS) :=
  if seesK 3 s then
    (if headT s == [42] then some (0, [], s.pop) else if allSuf (headT s) then some (1, (headT s).dropLast.dropLast, s.pop) else some (2, headT s, s.pop))
  else typeP s
mutual
def exprP (num : List Nat → Option Int) : Nat → Nat → PS → PR Ex
  | 0, _, _ => .out
  | n + 1, g, s => if g = 6 then negP num n s else if g = 8 then pathP num n s else (exprP num n (g + 1) s).bind fun e s => opsP num n g e s
def opsP (num : List Nat → Option Int) : Nat → Nat → Ex → PS → PR Ex
  | 0, _, _, _ => .out
  | n + 1, g, e, s =>
    match operOf g s with
    | none => .ok e s
    | some op => (exprP num n (g + 1) s.pop).bind fun e2 s2 => opsP num n g (.mk op [] 0 0 0 [e, e2]) s2
def negP (num : List Nat → Option Int) : Nat → PS → PR Ex
  | 0, _ => .out
  | n + 1, s => if headIs 8 [45] s then (negP num n s.pop).bind fun e s => .ok (.mk 14 [] 0 0 0 [e]) s else exprP num n 7 s
def pathP (num : List Nat → Option Int) : Nat → PS → PR Ex
  | 0, _ => .out
  | n + 1, s =>
    if headIs 8 [47] s then
      (if begStep s.pop then (stepP num n s.pop).bind fun e s => (moreP num n [topX, e] s).bind fun ks s => .ok (pathX ks) s else .ok (pathX [topX]) s.pop)
    else if headIs 8 [47, 47] s then (stepP num n s.pop).bind fun e s => (moreP num n [topX, belowX, e] s).bind fun ks s => .ok (pathX ks) s
    else if begStep s then (stepP num n s).bind fun e s => (moreP num n [noX, e] s).bind fun ks s => .ok (pathX ks) s
    else (filtP num n s).bind fun e s => (moreP num n [e] s).bind fun ks s => .ok (if ks.length = 1 then ks.headD noX else pathX ks) s
def moreP (num : List Nat → Option Int) : Nat → List Ex → PS → PR (List Ex)
  | 0, _, _ => .out
  | n + 1, ks, s =>
    if headIs 8 [47] s then (stepP num n s.pop).bind fun e s => moreP num n (ks ++ [e]) s
    else if headIs 8 [47, 47] s then (stepP num n s.pop).bind fun e s => moreP num n (ks ++ [belowX] ++ [e]) s
    else .ok ks s
def stepP (num : List Nat → Option Int) : Nat → PS → PR Ex
  | 0, _ => .out
  | n + 1, s =>
    if headIs 9 [46] s then .ok (.mk 23 [] 0 9 3 []) s.pop
    else if headIs 9 [46, 46] s then .ok (.mk 23 [] 0 2 3 []) s.pop
    else match axisP s with
      | none => .fail
      | some (a, s1) => match testP s1 with
        | none => .fail
        | some (t, tt, s2) => (predsP num n [] s2).bind fun ks s => .ok (.mk 23 tt 0 a t ks) s
def predsP (num : List Nat → Option Int) : Nat → List Ex → PS → PR (List Ex)
  | 0, _, _ => .out
  | n + 1, ks, s =>
    if headIs 9 [91] s then (exprP num n 0 s.pop).bind fun e s => if headIs 9 [93] s then predsP num n (ks ++ [e]) s.pop else .fail
    else .ok ks s
def filtP (num : List Nat → Option Int) : Nat → PS → PR Ex
  | 0, _ => .out
  | n + 1, s => (primP num n s).bind fun e s =>
    if e.op = 20 then (predsP num n e.kids s).bind fun ks s => .ok (.mk 20 e.text e.num e.axis e.test ks) s
    else (predsP num n [e] s).bind fun ks s => .ok (if ks.length = 1 then e else .mk 20 [] 0 0 0 ks) s
def primP (num : List Nat → Option Int) : Nat → PS → PR Ex
  | 0, _ => .out
  | n + 1, s =>
    if headIs 9 [40] s then brP num n s.pop
    else if seesK 1 s then (match num (headT s) with | none => .fail | some v => .ok (.mk 16 [] v 0 0 []) s.pop)
    else if seesK 2 s then .ok (.mk 17 (headT s) 0 0 0 []) s.pop
    else if seesK 7 s then .ok (.mk 18 (headT s) 0 0 0 []) s.pop
    else if seesK 4 s then (argsP num n s.pop).bind fun ks s' => .ok (.mk 19 (headT s) 0 0 0 ks) s'
    else .fail
def brP (num : List Nat → Option Int) : Nat → PS → PR Ex
  | 0, _ => .out
  | n + 1, s => (exprP num n 0 ⟨s.left, s.opn + 1, max s.dp (s.opn + 1)⟩).bind fun e s => if headIs 9 [41] s then .ok e ⟨s.left.tail, s.opn - 1, s.dp⟩ else .fail
def argsP (num : List Nat → Option Int) : Nat → PS → PR (List Ex)
  | 0, _ => .out
  | n + 1, s => if headIs 9 [40] s then (if headIs 9 [41] s.pop then .ok [] s.pop.pop else argsGoP num n [] s.pop) else .fail
def argsGoP (num : List Nat → Option Int) : Nat → List Ex → PS → PR (List Ex)
  | 0, _, _ => .out
  | n + 1, ks, s => (exprP num n 0 s).bind fun e s => if headIs 9 [44] s then argsGoP num n (ks ++ [e]) s.pop else if headIs 9 [41] s then .ok (ks ++ [e]) s.pop else .fail
end
end Go.Proofs.YtnmcambbpgoodaaGreatDoor
/- xparse's parser in memory: expressions, the tokens that are left. -/
namespace Go.Proofs.YtnmcambbpgoodaaGreatDoor
open Go.RowKit
/-- Every block but some stands; blocks may be new. -/
structure Kq (S : Nat → Prop) (w w' : World) : Prop where
  os : w'.os = w.os
  tape : w'.tape = w.tape
  output : w'.output = w.output
  size : w.heap.size ≤ w'.heap.size
  block : ∀ k, k < w.heap.size → ¬ S k → w'.heap[k]? = w.heap[k]?
theorem Kq.of {S : Nat → Prop} {w w' : World} (h : Below w.heap.size w w') : Kq S w w' := ⟨h.os, h.tape, h.output, h.size, fun k hk _ => h.block k hk⟩
theorem Kq.refl (S : Nat → Prop) (w : World) : Kq S w w := ⟨rfl, rfl, rfl, Nat.le_refl _, fun _ _ _ => rfl⟩
theorem Kq.andThen {S S' : Nat → Prop} {a b c : World} (h : Kq S a b) (g : Kq S' b c) (hS : ∀ k, k < a.heap.size → S' k → S k) : Kq S a c :=
  ⟨g.os.trans h.os, g.tape.trans h.tape, g.output.trans h.output, Nat.le_trans h.size g.size, fun k hk hs => by rw [g.block k (Nat.lt_of_lt_of_le hk h.size) fun hs' => hs (hS k hk hs'), h.block k hk hs]⟩
theorem Kq.grown {S : Nat → Prop} {w a b : World} {row : Option Nat} (h : Kq S w a) (g : a.grownBy b row) (hr : ∀ j, row = some j → j < w.heap.size → S j) : Kq S w b :=
  ⟨g.os.trans h.os, g.tape.trans h.tape, g.output.trans h.output, Nat.le_trans h.size g.size, fun k hk hs => by rw [g.block k (Nat.lt_of_lt_of_le hk h.size) (fun e => hs (hr k e.symm hk)), h.block k hk hs]⟩
theorem Kq.more {S S' : Nat → Prop} {w w' : World} (h : Kq S w w') (hS : ∀ k, k < w.heap.size → S k → S' k) : Kq S' w w' := ⟨h.os, h.tape, h.output, h.size, fun k hk hn => h.block k hk fun hs => hn (hS k hk hs)⟩
theorem Kq.fresh {S : Nat → Prop} {w w' : World} (h : Kq S w w') (hS : ∀ k, S k → w.heap.size ≤ k) : Below w.heap.size w w' :=
  ⟨h.os, h.tape, h.output, h.size, fun k hk => h.block k hk fun hs => by have := hS k hs; omega⟩
theorem Kq.drew {S : Nat → Prop} {w w' : World} (h : Kq S w w') : Kq S w w'.drew := ⟨h.os, h.tape, h.output, h.size, h.block⟩
theorem Kq.set (w : World) (p i : Nat) (v : Value) : Kq (fun j => j = p) w (w.setCell ⟨p, i, none⟩ v) :=
  ⟨rfl, rfl, rfl, by simp [World.setCell], fun j _ hS => by simp [World.setCell, Array.getElem?_modify, Ne.symm hS]⟩
theorem keptK {S : Nat → Prop} {w w' : World} (hk : Kq S w w') {a : Addr} {v : Value} (h : w.cell? a = some v) (hS : ¬ S a.block) : w'.cell? a = some v := by
  have hlt := block_lt_of_cell h
  unfold World.cell? at h ⊢
  rw [hk.block _ hlt hS]
  exact h
theorem blockK {S : Nat → Prop} {w w' : World} (hk : Kq S w w') {q : Nat} {o : Obj} (h : w.heap[q]? = some o) (hS : ¬ S q) : w'.heap[q]? = some o :=
  (hk.block q (Array.getElem?_eq_some_iff.1 h).1 hS).trans h
theorem ownsK {S : Nat → Prop} {w w' : World} {B : Nat} {e : TypeId} {size n : Nat} {v : Value} {xs : List Value} (h : w.ownsRow B e size v n xs) (hk : Kq S w w') (hne : ∀ k, v.ownBlock = some k → ¬ S k) : w'.ownsRow B e size v n xs := by
  refine ⟨h.1, ?_⟩
  rcases h.2 with h0 | ⟨g, cap, cur, rfl, h2, h3, h4⟩
  · exact .inl h0
  · exact .inr ⟨g, cap, cur, rfl, h2, blockK hk h3 (hne g rfl), h4⟩
/-- Cells that a slice reads, its block among some. -/
def slAt (w : World) (S : Nat → Prop) (v : Value) (n : Nat) (xs : List Value) : Prop :=
  (∃ a c, v = .slice a n c ∧ n ≤ c) ∧ (0 < n → ∃ g o c, v = .slice (some ⟨g, o, none⟩) n c ∧ S g ∧ g < w.heap.size ∧ ∀ i u, xs[i]? = some u → w.cell? ⟨g, o + i, none⟩ = some u)
mutual
/-- An expression in memory: its seven cells; its blocks are among some. -/
def exIn (w : World) (S : Nat → Prop) : Ex → List Value → Prop
  | .mk o t n a ts ks, xs => okL t ∧ ∃ v, xs = [.int .i64 (o : Nat), .string (T t), .int .i64 0, .int .i64 n, .int .i64 (a : Nat), .int .i64 (ts : Nat), v] ∧ ∃ ys, slAt w S v ks.length ys ∧ kidsIn w S ks ys
/-- Expressions in memory, one behind the other. -/
def kidsIn (w : World) (S : Nat → Prop) : List Ex → List Value → Prop
  | [], ys => ys = []
  | k :: ks, ys => ∃ a b, ys = a ++ b ∧ exIn w S k a ∧ kidsIn w S ks b
end
theorem slAt.mono {w w' : World} {S S' : Nat → Prop} {v : Value} {n : Nat} {xs : List Value} (h : slAt w S v n xs) (hS : ∀ k, S k → S' k) (hk : ∀ k o, S k → w.heap[k]? = some o → w'.heap[k]? = some o) : slAt w' S' v n xs := by
  refine ⟨h.1, fun hn => ?_⟩
  obtain ⟨g, o, c, e, hg, hlg, hc⟩ := h.2 hn
  refine ⟨g, o, c, e, hS g hg, (Array.getElem?_eq_some_iff.1 (hk g _ hg (Array.getElem?_eq_getElem hlg))).1, fun i u hu => ?_⟩
  have hx := hc i u hu
  have hlt := block_lt_of_cell hx
  unfold World.cell? at hx ⊢
  simp only at hx ⊢ hlt
  cases ho : w.heap[g]? with
  | none => rw [ho] at hx; cases hx
  | some ob => rw [hk g ob hg ho]; rw [ho] at hx; exact hx
mutual
theorem exIn.mono {w w' : World} {S S' : Nat → Prop} (hS : ∀ k, S k → S' k) (hk : ∀ k o, S k → w.heap[k]? = some o → w'.heap[k]? = some o) : ∀ (e : Ex) (xs : List Value), exIn w S e xs → exIn w' S' e xs
  | .mk o t n a ts ks, xs, h => by
    rw [exIn] at h ⊢
    obtain ⟨h0, v, e, ys, h1, h2⟩ := h
    exact ⟨h0, v, e, ys, h1.mono hS hk, kidsIn.mono hS hk ks ys h2⟩
theorem kidsIn.mono {w w' : World} {S S' : Nat → Prop} (hS : ∀ k, S k → S' k) (hk : ∀ k o, S k → w.heap[k]? = some o → w'.heap[k]? = some o) : ∀ (ks : List Ex) (ys : List Value), kidsIn w S ks ys → kidsIn w' S' ks ys
  | [], ys, h => by rw [kidsIn] at h ⊢; exact h
  | k :: ks, ys, h => by
    rw [kidsIn] at h ⊢
    obtain ⟨a, b, e, h1, h2⟩ := h
    exact ⟨a, b, e, exIn.mono hS hk k a h1, kidsIn.mono hS hk ks b h2⟩
end
mutual
theorem exIn.bound {w : World} {S : Nat → Prop} : ∀ (e : Ex) (xs : List Value), exIn w S e xs → exIn w (fun k => S k ∧ k < w.heap.size) e xs
  | .mk o t n a ts ks, xs, h => by
    rw [exIn] at h ⊢
    obtain ⟨h0, v, e, ys, h1, h2⟩ := h
    exact ⟨h0, v, e, ys, ⟨h1.1, fun hn => by obtain ⟨g, o, c, e, hg, hlg, hc⟩ := h1.2 hn; exact ⟨g, o, c, e, ⟨hg, hlg⟩, hlg, hc⟩⟩, kidsIn.bound ks ys h2⟩
theorem kidsIn.bound {w : World} {S : Nat → Prop} : ∀ (ks : List Ex) (ys : List Value), kidsIn w S ks ys → kidsIn w (fun k => S k ∧ k < w.heap.size) ks ys
  | [], ys, h => by rw [kidsIn] at h ⊢; exact h
  | k :: ks, ys, h => by
    rw [kidsIn] at h ⊢
    obtain ⟨a, b, e, h1, h2⟩ := h
    exact ⟨a, b, e, exIn.bound k a h1, kidsIn.bound ks b h2⟩
end
theorem exIn.len {w : World} {S : Nat → Prop} {e : Ex} {xs : List Value} (h : exIn w S e xs) : xs.length = 7 := by
  cases e
  rw [exIn] at h
  obtain ⟨_, v, rfl, _⟩ := h
  rfl
theorem exIn.one {w : World} {S : Nat → Prop} {e : Ex} {xs : List Value} (h : exIn w S e xs) : ∀ u ∈ xs, u.oneCell' = true := by
  cases e
  rw [exIn] at h
  obtain ⟨_, v, rfl, ys, ⟨⟨a, c, rfl, _⟩, _⟩, _⟩ := h
  intro u hu
  simp only [List.mem_cons, List.not_mem_nil, or_false] at hu
  rcases hu with rfl | rfl | rfl | rfl | rfl | rfl | rfl <;> rfl
theorem kidsIn.len {w : World} {S : Nat → Prop} : ∀ {ks : List Ex} {ys : List Value}, kidsIn w S ks ys → ys.length = ks.length * 7
  | [], ys, h => by rw [kidsIn] at h; subst h; rfl
  | k :: ks, ys, h => by
    rw [kidsIn] at h
    obtain ⟨a, b, rfl, h1, h2⟩ := h
    rw [List.length_append, h1.len, kidsIn.len h2, List.length_cons]
    omega
theorem kidsIn.app {w : World} {S : Nat → Prop} : ∀ {ks ls : List Ex} {ys zs : List Value}, kidsIn w S ks ys → kidsIn w S ls zs → kidsIn w S (ks ++ ls) (ys ++ zs)
  | [], ls, ys, zs, h, g => by rw [kidsIn] at h; subst h; exact g
  | k :: ks, ls, ys, zs, h, g => by
    rw [kidsIn] at h
    obtain ⟨a, b, rfl, h1, h2⟩ := h
    rw [List.cons_append, kidsIn]
    exact ⟨a, b ++ zs, by rw [List.append_assoc], h1, kidsIn.app h2 g⟩
theorem kidsIn.single {w : World} {S : Nat → Prop} {e : Ex} {xs : List Value} (h : exIn w S e xs) : kidsIn w S [e] xs := by
  rw [kidsIn]
  exact ⟨xs, [], (List.append_nil _).symm, h, by rw [kidsIn]⟩
theorem kidsIn.at {w : World} {S : Nat → Prop} : ∀ {ks : List Ex} {ys : List Value}, kidsIn w S ks ys → ∀ (i : Nat) (e : Ex), ks[i]? = some e → ∃ xs, exIn w S e xs ∧ ∀ j, j < 7 → ys[i * 7 + j]? = xs[j]?
  | [], ys, h, i, e, he => by cases he
  | k :: ks, ys, h, i, e, he => by
    rw [kidsIn] at h
    obtain ⟨a, b, rfl, h1, h2⟩ := h
    have hl := h1.len
    cases i with
    | zero =>
      cases he
      exact ⟨a, h1, fun j hj => by rw [Nat.zero_mul, Nat.zero_add, List.getElem?_append_left (by omega)]⟩
    | succ i =>
      obtain ⟨xs, h3, h4⟩ := kidsIn.at h2 i e he
      refine ⟨xs, h3, fun j hj => ?_⟩
      rw [List.getElem?_append_right (by omega), hl, show (i + 1) * 7 + j - 7 = i * 7 + j by omega]
      exact h4 j hj
/-- The tokens that a slice holds. -/
def LeftAt (w : World) (p : Nat) (v : Value) (ts : List (Nat × List Nat)) : Prop :=
  (∀ x ∈ ts, okL x.2 ∧ (T x.2).size ≤ 512) ∧ ((ts = [] ∧ v = .slice none 0 0) ∨ ∃ g o c, v = .slice (some ⟨g, o, none⟩) ts.length c ∧ ts.length ≤ c ∧ c ≤ 9223372036854775807 ∧ g < p ∧ g < w.heap.size ∧
    ∀ i x, ts[i]? = some x → w.cell? ⟨g, o + i * 3, none⟩ = some (.int .i64 (x.1 : Nat)) ∧ w.cell? ⟨g, o + (i * 3 + 1), none⟩ = some (.string (T x.2)) ∧ ∃ a : Int, w.cell? ⟨g, o + (i * 3 + 2), none⟩ = some (.int .i64 a))
/-- A parser's block. -/
def PV (w : World) (p : Nat) (s : PS) : Prop :=
  s.opn + s.left.length ≤ 100000 ∧ s.dp ≤ 100000 ∧ ∃ v, w.heap[p]? = some (.cells #[v, .int .i64 (s.opn : Nat), .int .i64 (s.dp : Nat)] 56 (0, 0)) ∧ LeftAt w p v s.left
theorem PV.kept {w w' : World} {p : Nat} {s : PS} (h : PV w p s) {S : Nat → Prop} (hk : Kq S w w') (hS : ∀ k, S k → p < k) : PV w' p s := by
  obtain ⟨h0, h1, v, h2, h3, ⟨e1, e2⟩ | ⟨g, o, c, e, h4, h5, h6, h7, h8⟩⟩ := h
  · exact ⟨h0, h1, v, blockK hk h2 (fun hs => by have := hS _ hs; omega), h3, .inl ⟨e1, e2⟩⟩
  refine ⟨h0, h1, v, blockK hk h2 (fun hs => by have := hS _ hs; omega), h3, .inr ⟨g, o, c, e, h4, h5, h6, Nat.lt_of_lt_of_le h7 hk.size, fun i x hx => ?_⟩⟩
  have hg : ¬ S g := fun hs => by have := hS _ hs; omega
  obtain ⟨c0, c1, a, c2⟩ := h8 i x hx
  exact ⟨keptK hk c0 hg, keptK hk c1 hg, a, keptK hk c2 hg⟩
theorem PV.below {w w' : World} {p : Nat} {s : PS} (h : PV w p s) (hb : Below w.heap.size w w') : PV w' p s := h.kept (S := fun _ => False) (Kq.of hb) (fun _ h => h.elim)
theorem PV.lt {w : World} {p : Nat} {s : PS} (h : PV w p s) : p < w.heap.size := by
  obtain ⟨_, _, v, h2, _⟩ := h
  exact (Array.getElem?_eq_some_iff.1 h2).1
/-- Kids in the making: a row of one's own, whose kids lie in other blocks. -/
def KRow (w : World) (B : Nat) (v : Value) (ks : List Ex) (xs : List Value) : Prop :=
  w.ownsRow B 34 7 v ks.length xs ∧ kidsIn w (fun j => (B ≤ j ∧ v.ownBlock ≠ some j) ∧ j < w.heap.size) ks xs
theorem KRow.nil (w : World) (B : Nat) : KRow w B (.slice none 0 0) [] [] := ⟨World.ownsRow_nil _ _ _ _, by rw [kidsIn]⟩
theorem KRow.ne {w : World} {B p : Nat} {v : Value} {ks : List Ex} {xs : List Value} {c : Array Value} {z : Nat × Nat} {t : TypeId} (h : KRow w B v ks xs) (hp : w.heap[p]? = some (.cells c t z)) (ht : 34 ≠ t) : v.ownBlock ≠ some p := by
  intro e
  rcases h.1.2 with ⟨rfl, _⟩ | ⟨g, cap, cur, rfl, h2, h3, h4⟩
  · cases e
  · cases e
    rw [hp] at h3
    injection h3 with h3
    injection h3 with _ h5 _
    exact ht h5.symm
theorem KRow.lt {w : World} {B : Nat} {v : Value} {ks : List Ex} {xs : List Value} (h : KRow w B v ks xs) : ∀ k, v.ownBlock = some k → B ≤ k ∧ k < w.heap.size := fun k hk => h.1.lt k hk
theorem KRow.kept {w w' : World} {B : Nat} {v : Value} {ks : List Ex} {xs : List Value} (h : KRow w B v ks xs) {S : Nat → Prop} (hk : Kq S w w') (hS : ∀ j, j < w.heap.size → B ≤ j → ¬ S j) : KRow w' B v ks xs :=
  ⟨ownsK h.1 hk (fun k hb => hS k (h.lt k hb).2 (h.lt k hb).1), kidsIn.mono (fun _ hj => ⟨hj.1, Nat.lt_of_lt_of_le hj.2 hk.size⟩) (fun j _ hj ho => blockK hk ho (hS j hj.2 hj.1.1)) ks xs h.2⟩
theorem KRow.below {w w' : World} {B : Nat} {v : Value} {ks : List Ex} {xs : List Value} (h : KRow w B v ks xs) (hb : Below w.heap.size w w') : KRow w' B v ks xs := h.kept (S := fun _ => False) (Kq.of hb) (fun _ _ _ h => h)
/-- A row that was appended to. -/
theorem KRow.add {w w' : World} {B : Nat} {v v' : Value} {ks ls : List Ex} {xs ys : List Value} (h : KRow w B v ks xs) (hl : kidsIn w (fun j => (B ≤ j ∧ v.ownBlock ≠ some j) ∧ j < w.heap.size) ls ys)
    (ho : w'.ownsRow B 34 7 v' (ks.length + ls.length) (xs ++ ys)) (hg : w.grownBy w' v.ownBlock) (ha : v'.ownBlock = v.ownBlock ∨ v'.ownBlock = some w.heap.size) : KRow w' B v' (ks ++ ls) (xs ++ ys) := by
  refine ⟨by rw [List.length_append]; exact ho, kidsIn.mono (fun j hj => ⟨⟨hj.1.1, fun e => ?_⟩, Nat.lt_of_lt_of_le hj.2 hg.size⟩) (fun j o hj hob => (hg.block j hj.2 (fun e => hj.1.2 e.symm)).trans hob) _ _ (kidsIn.app h.2 hl)⟩
  rcases ha with e2 | e2
  · rw [e2] at e; exact hj.1.2 e
  · rw [e2] at e
    have := Option.some.inj e
    omega
end Go.Proofs.YtnmcambbpgoodaaGreatDoor
