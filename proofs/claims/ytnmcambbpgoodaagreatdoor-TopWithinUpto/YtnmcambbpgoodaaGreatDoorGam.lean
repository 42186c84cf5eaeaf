/- Several texts, laid as one. -/
import Derived.Test.YtnmcambbpgoodaaGreatDoorGal
import Derived.Test.YtnmcambbpgoodaaGreatDoorGak
/- What calls on a parser leave: the contracts of xparse's parser, and its small functions. -/
namespace Go.Proofs.YtnmcambbpgoodaaGreatDoor
open Go.RowKit
/-- An expression's Kids in memory. -/
def exV (w : World) (S : Nat → Prop) (x : Ex) (v : Value) : Prop := okL x.text ∧ ∃ ys, slAt w S v x.kids.length ys ∧ kidsIn w S x.kids ys
/-- An expression's value. -/
abbrev exAgg (x : Ex) (v : Value) : Value := .agg #[.int .i64 (x.op : Nat), .string (T x.text), .int .i64 0, .int .i64 x.num, .int .i64 (x.axis : Nat), .int .i64 (x.test : Nat), v]
def exCells (x : Ex) (v : Value) : List Value := [.int .i64 (x.op : Nat), .string (T x.text), .int .i64 0, .int .i64 x.num, .int .i64 (x.axis : Nat), .int .i64 (x.test : Nat), v]
theorem exV.inn {w : World} {S : Nat → Prop} {x : Ex} {v : Value} (h : exV w S x v) : exIn w S x (exCells x v) := by
  cases x
  rw [exIn]
  exact ⟨h.1, v, rfl, h.2⟩
theorem exV.mono {w w' : World} {S S' : Nat → Prop} {x : Ex} {v : Value} (h : exV w S x v) (hS : ∀ k, S k → S' k) (hk : ∀ k o, S k → w.heap[k]? = some o → w'.heap[k]? = some o) : exV w' S' x v := by
  obtain ⟨h0, ys, h1, h2⟩ := h
  exact ⟨h0, ys, h1.mono hS hk, kidsIn.mono hS hk _ _ h2⟩
/-- A parser, where what was there at the beginning stands. -/
structure PQ (W0 w : World) (p : Nat) (s : PS) : Prop where
  pv : PV w p s
  lo : W0.heap.size ≤ p
  bel : Below W0.heap.size W0 w
theorem PQ.go {W0 w w' : World} {p : Nat} {s s' : PS} (h : PQ W0 w p s) (hk : Kq (fun j => j = p) w w') (hv : PV w' p s') : PQ W0 w' p s' :=
  ⟨hv, h.lo, ⟨hk.os.trans h.bel.os, hk.tape.trans h.bel.tape, hk.output.trans h.bel.output, Nat.le_trans h.bel.size hk.size, fun k hk' => by
    rw [hk.block k (Nat.lt_of_lt_of_le hk' h.bel.size) (by have := h.lo; omega)]
    exact h.bel.block k hk'⟩⟩
theorem PQ.below {W0 w w' : World} {p : Nat} {s : PS} (h : PQ W0 w p s) (hb : Below w.heap.size w w') : PQ W0 w' p s := h.go (Kq.of hb) (h.pv.below hb)
/-- Of a filter the Kids are a row of one's own. -/
def exF (w : World) (B : Nat) (v : Value) (x : Ex) : Prop := x.op = 20 → ∃ xs, KRow w B v x.kids xs
theorem exV.kept {w w' : World} {S : Nat → Prop} {x : Ex} {v : Value} (h : exV w S x v) {Q : Nat → Prop} (hk : Kq Q w w') (hS : ∀ j, S j → j < w.heap.size → ¬ Q j) : exV w' S x v := by
  obtain ⟨h0, ys, h1, h2⟩ := h
  exact ⟨h0, ys, h1.mono (fun _ h => h) (fun k o hs ho => blockK hk ho (hS k hs (Array.getElem?_eq_some_iff.1 ho).1)), kidsIn.mono (fun _ h => h) (fun k o hs ho => blockK hk ho (hS k hs (Array.getElem?_eq_some_iff.1 ho).1)) _ _ h2⟩
theorem exF.kept {w w' : World} {B : Nat} {x : Ex} {v : Value} (h : exF w B v x) {Q : Nat → Prop} (hk : Kq Q w w') (hS : ∀ j, j < w.heap.size → B ≤ j → ¬ Q j) : exF w' B v x := fun e => by
  obtain ⟨xs, h1⟩ := h e
  exact ⟨xs, h1.kept hk hS⟩
/-- What a call that reads an expression leaves, if there is one. -/
structure XOk (w w' : World) (p : Nat) (x : Ex) (v : Value) (s : PS) : Prop where
  ex : exV w' (fun j => w.heap.size ≤ j) x v
  fl : exF w' w.heap.size v x
  pv : PV w' p s
  kq : Kq (fun j => j = p) w w'
/-- What a call that reads an expression leaves, where it is one (what ends in a panic is told by none of these). -/
def outX (p : Nat) (w : World) (x : Ex) (s : PS) (e : Ending) (w' : World) : Prop := ∃ al c, e = .returned (exAgg x (.slice al x.kids.length c)) ∧ XOk w w' p x (.slice al x.kids.length c) s
/-- What a call leaves that reads on a row of Kids, if it ends well: the old Kids, and new ones in new blocks. -/
structure KOk (w w' : World) (B p : Nat) (v0 : Value) (ks0 : List Ex) (xs0 : List Value) (v : Value) (ks : List Ex) (s : PS) : Prop where
  row : ∃ ks1 xs1, ks = ks0 ++ ks1 ∧ KRow w' B v ks (xs0 ++ xs1) ∧ kidsIn w' (fun j => (w.heap.size ≤ j ∧ v.ownBlock ≠ some j) ∧ j < w'.heap.size) ks1 xs1
  at0 : ∀ k, v.ownBlock = some k → v0.ownBlock = some k ∨ w.heap.size ≤ k
  pv : PV w' p s
  kq : Kq (fun j => j = p ∨ v0.ownBlock = some j) w w'
/-- What a call leaves that reads on a row of Kids. -/
def outKs (p : Nat) (w : World) (B : Nat) (v0 : Value) (ks0 : List Ex) (xs0 : List Value) (ks : List Ex) (s : PS) (e : Ending) (w' : World) : Prop := ∃ al c, e = .returned (.slice al ks.length c) ∧ KOk w w' B p v0 ks0 xs0 (.slice al ks.length c) ks s
section
variable (num : List Nat → Option Int) (W0 : World) (n : Nat)
/-- The contracts, at so much fuel. -/
def ExprC : Prop := ∀ (p g : Nat) (gi : Int) (s : PS) (w : World) (x : Ex) (s' : PS), gi = (g : Nat) → g ≤ 8 → PQ W0 w p s → exprP num n g s = .ok x s' → Calls Tryz.prog 30 #[.pointer (some ⟨p, 0, none⟩), .int .i64 gi] w (outX p w x s')
def NegC : Prop := ∀ (p : Nat) (s : PS) (w : World) (x : Ex) (s' : PS), PQ W0 w p s → negP num n s = .ok x s' → Calls Tryz.prog 49 #[.pointer (some ⟨p, 0, none⟩)] w (outX p w x s')
def PathC : Prop := ∀ (p : Nat) (s : PS) (w : World) (x : Ex) (s' : PS), PQ W0 w p s → pathP num n s = .ok x s' → Calls Tryz.prog 50 #[.pointer (some ⟨p, 0, none⟩)] w (outX p w x s')
def StepC : Prop := ∀ (p : Nat) (s : PS) (w : World) (x : Ex) (s' : PS), PQ W0 w p s → stepP num n s = .ok x s' → Calls Tryz.prog 66 #[.pointer (some ⟨p, 0, none⟩)] w (outX p w x s')
def FiltC : Prop := ∀ (p : Nat) (s : PS) (w : World) (x : Ex) (s' : PS), PQ W0 w p s → filtP num n s = .ok x s' → Calls Tryz.prog 68 #[.pointer (some ⟨p, 0, none⟩)] w (outX p w x s')
def PrimC : Prop := ∀ (p : Nat) (s : PS) (w : World) (x : Ex) (s' : PS), PQ W0 w p s → primP num n s = .ok x s' → Calls Tryz.prog 88 #[.pointer (some ⟨p, 0, none⟩)] w (outX p w x s')
def BrC : Prop := ∀ (p : Nat) (s : PS) (w : World) (x : Ex) (s' : PS), PQ W0 w p s → s.opn + s.left.length < 100000 → brP num n s = .ok x s' → Calls Tryz.prog 100 #[.pointer (some ⟨p, 0, none⟩)] w (outX p w x s')
def ArgsC : Prop := ∀ (p : Nat) (s : PS) (w : World) (ks : List Ex) (s' : PS), PQ W0 w p s → argsP num n s = .ok ks s' → Calls Tryz.prog 102 #[.pointer (some ⟨p, 0, none⟩)] w (outKs p w w.heap.size (.slice none 0 0) [] [] ks s')
def MoreC : Prop := ∀ (p B : Nat) (al : Option Addr) (c : Nat) (ks : List Ex) (xs : List Value) (s : PS) (w : World) (ks' : List Ex) (s' : PS), PQ W0 w p s → p < B → B ≤ w.heap.size → KRow w B (.slice al ks.length c) ks xs → ks.length + 2 * n ≤ 2000000 → moreP num n ks s = .ok ks' s' → Calls Tryz.prog 69 #[.pointer (some ⟨p, 0, none⟩), .slice al ks.length c] w (outKs p w B (.slice al ks.length c) ks xs ks' s')
def PredsC : Prop := ∀ (p B : Nat) (al : Option Addr) (c : Nat) (ks : List Ex) (xs : List Value) (s : PS) (w : World) (ks' : List Ex) (s' : PS), PQ W0 w p s → p < B → B ≤ w.heap.size → KRow w B (.slice al ks.length c) ks xs → ks.length + 2 * n ≤ 2000000 → predsP num n ks s = .ok ks' s' → Calls Tryz.prog 87 #[.pointer (some ⟨p, 0, none⟩), .slice al ks.length c] w (outKs p w B (.slice al ks.length c) ks xs ks' s')
end
end Go.Proofs.YtnmcambbpgoodaaGreatDoor
/- The name, the string, the variable, the word that a text begins with, and which word is what: xplex's functions. -/
namespace Go.Proofs.YtnmcambbpgoodaaGreatDoor
open Go.RowKit
theorem okL_tl {l : List Nat} (h : okL l) : okL l.tail := fun c hc => h c (List.mem_of_mem_tail hc)
set_option maxHeartbeats 1000000 in
theorem qnameAhead_any (l : List Nat) (w : World) (hl : okL l) (hs : (T l).size ≤ 512) :
    Calls Tryz.prog 44 #[.string (T l)] w fun e w' => e = .returned (.string (T (qnameA l))) ∧ Below w.heap.size w w' := by
  have hp := nameA_pre l
  have hz := size_pre hp
  have HS := hide (suf_drop hp)
  have hod := okL_drop hl (nameA l).length
  have hon := okL_pre hl hp
  have HN := hide (qnameA_eq l)
  have hszd : (T (l.drop (nameA l).length)).size ≤ 512 := by
    have := sz_app (nameA l) (l.drop (nameA l).length)
    rw [pre_drop hp] at this
    omega
  clear hp
  generalize l.drop (nameA l).length = d at *
  go_enter Tryz.func44, Tryz.ntmps44
  go_wp2_with fail
  refine (nameAhead_any l _ hl).mono ?_
  rintro e w1 ⟨rfl, hb1⟩
  generalize nameA l = n at *
  go_wp2_with fail
  rw [unhide HS]
  refine (cutPrefix_one 58 58 rfl (by decide) d hod _).mono ?_
  rintro e w2 ⟨rfl, rfl⟩
  cases hh : heads 58 d
  · have HH := hide hh
    clear hh
    rw [if_neg (by decide)]
    go_wp2_with fail
    refine (nameAhead_any d _ hod).mono ?_
    rintro e w3 ⟨rfl, hb3⟩
    go_wp2
    all_goals
      go_ret
      refine ⟨ret_str ?_, Below.then hb1 hb3⟩
      rw [unhide HN, unhide HH, Bool.false_and, Bool.and_false, if_neg (by decide)]
  · have HH := hide hh
    clear hh
    rw [if_pos rfl]
    have hot := okL_tl hod
    have hst : (T d.tail).size ≤ 512 := by
      have h1 : (T d).size = 1 + (T d.tail).size := by
        conv => lhs; rw [heads_true (unhide HH)]
        exact sz_cons (by decide) _
      omega
    go_wp2_with fail
    refine (nameAhead_any d.tail _ hot).mono ?_
    rintro e w3 ⟨rfl, hb3⟩
    have hoy : okL (nameA d.tail) := okL_pre hot (nameA_pre _)
    have hsy : (T (nameA d.tail)).size ≤ 512 := by have := size_pre (nameA_pre d.tail); omega
    generalize nameA d.tail = y at *
    by_cases hn : n = []
    · have h1 := nil_T hn
      have HY := hide hn
      clear hn
      go_wp2
      go_ret
      refine ⟨ret_str ?_, Below.then hb1 hb3⟩
      rw [unhide HN, unhide HY, List.isEmpty_nil, Bool.not_true, Bool.false_and, if_neg (by decide)]
    · have h1 := ne_T hon hn
      by_cases hy : y = []
      · have h2 := nil_T hy
        have HY := hide hy
        clear hy
        go_wp2
        go_ret
        refine ⟨ret_str ?_, Below.then hb1 hb3⟩
        rw [unhide HN, unhide HY, List.isEmpty_nil, Bool.not_true, Bool.and_false, Bool.and_false, if_neg (by decide)]
      · have h2 := ne_T hoy hy
        have e := unhide HN
        rw [unhide HH, empty_not hn, empty_not hy, Bool.and_self, Bool.and_self, if_pos rfl] at e
        have E := hide e
        clear e
        go_wp2
        go_ret
        refine ⟨ret_str ?_, Below.then hb1 hb3⟩
        rw [unhide E, ← T_app, show T (58 :: y) = T [58] ++ T y from (T_app [58] y).symm, ← ByteArray.append_assoc]
        rfl
set_option maxHeartbeats 1000000 in
theorem variableAhead_any (l : List Nat) (w : World) (hl : okL l) (hs : (T l).size ≤ 512) :
    Calls Tryz.prog 26 #[.string (T l)] w fun e w' => (∃ x b, e = .returned (.tuple #[.string x, .bool b]) ∧ ((∃ t, varA l = some t ∧ x = T t ∧ b = true) ∨ (varA l = none ∧ b = false))) ∧ Below w.heap.size w w' := by
  have hV : varA l = if heads 36 l && !(qnameA l.tail).isEmpty then some (qnameA l.tail) else none := rfl
  have HV := hide hV
  clear hV
  go_enter Tryz.func26, Tryz.ntmps26
  go_wp2_with fail
  refine (cutPrefix_one 36 36 rfl (by decide) l hl _).mono ?_
  rintro e w2 ⟨rfl, rfl⟩
  cases hh : heads 36 l
  · have HH := hide hh
    clear hh
    rw [if_neg (by decide)]
    go_wp2_with fail
    refine (qnameAhead_any l _ hl hs).mono ?_
    rintro e w3 ⟨rfl, hb3⟩
    go_wp2
    go_ret2
    exact ⟨⟨_, _, rfl, .inr ⟨by rw [unhide HV, unhide HH, Bool.false_and, if_neg (by decide)], rfl⟩⟩, hb3⟩
  · have HH := hide hh
    clear hh
    rw [if_pos rfl]
    have hot := okL_tl hl
    have hst : (T l.tail).size ≤ 512 := by
      have h1 : (T l).size = 1 + (T l.tail).size := by
        conv => lhs; rw [heads_true (unhide HH)]
        exact sz_cons (by decide) _
      omega
    have hoy : okL (qnameA l.tail) := okL_pre hot (qnameA_pre _)
    go_wp2_with fail
    refine (qnameAhead_any l.tail _ hot hst).mono ?_
    rintro e w3 ⟨rfl, hb3⟩
    generalize qnameA l.tail = y at *
    by_cases hy : y = []
    · have h2 := nil_T hy
      have HY := hide hy
      clear hy
      go_wp2
      go_ret2
      exact ⟨⟨_, _, rfl, .inr ⟨by rw [unhide HV, unhide HY, List.isEmpty_nil, Bool.not_true, Bool.and_false, if_neg (by decide)], rfl⟩⟩, hb3⟩
    · have h2 := ne_T hoy hy
      have h3 : (T y).toList ≠ [] := fun h => hy ((T_empty hoy).1 h)
      go_wp2
      go_ret2
      exact ⟨⟨_, _, rfl, .inl ⟨y, by rw [unhide HV, unhide HH, empty_not hy, Bool.and_self, if_pos rfl], rfl, rfl⟩⟩, hb3⟩
end Go.Proofs.YtnmcambbpgoodaaGreatDoor
/- The reference's IsName and Split give what the program's give. -/
namespace Go.Proofs.YtnmcambbpgoodaaGreatDoor
open Go.RowKit
theorem splitV_cases (l : List UInt8) : ∃ p n : ByteArray, splitV l = .tuple #[.string p, .string n, .bool (splitB l)] := by
  unfold splitV
  cases h : splitB l
  · exact ⟨_, _, rfl⟩
  · exact ⟨_, _, rfl⟩
end Go.Proofs.YtnmcambbpgoodaaGreatDoor
