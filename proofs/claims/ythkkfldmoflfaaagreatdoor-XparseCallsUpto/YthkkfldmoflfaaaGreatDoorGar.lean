/- Several texts, laid as one. -/
import Derived.Test.YthkkfldmoflfaaaGreatDoorGaq
import Derived.Test.YthkkfldmoflfaaaGreatDoorGal
import Derived.Deep.MidRow
/- The tokens that are left, two: xparse's takeAny, sign, operator, need, giveUp, beginsStep. -/
namespace Go.Proofs.YthkkfldmoflfaaaGreatDoor
open Go.RowKit
theorem okL_p {l : List Nat} (h : l.all (fun c => decide (32 ≤ c) && decide (c < 128)) = true) : okL l := fun c hc => by
  have := List.all_eq_true.1 h c hc
  simp only [Bool.and_eq_true, decide_eq_true_eq] at this
  unfold charR
  simp
  omega
def popIf (b : Bool) (s : PS) : PS := if b then s.pop else s
def txtIf (b : Bool) (s : PS) : List Nat := if b then headT s else []
set_option maxRecDepth 100000 in
set_option maxHeartbeats 4000000 in
theorem ptakeAny_any (p k : Nat) (s : PS) (w : World) (h : PV w p s) :
    Calls Tryz.prog 125 #[.pointer (some ⟨p, 0, none⟩), .int .i64 (k : Nat)] w fun e w' => e = .returned (.tuple #[.string (T (txtIf (seesK k s) s)), .bool (seesK k s)]) ∧ PV w' p (popIf (seesK k s) s) ∧ Kq (fun j => j = p) w w' := by
  have HS := hide (psees_any p k s w h)
  cases hs : s.left with
  | nil =>
    have e1 : seesK k s = false := by unfold seesK; rw [hs]
    rw [e1] at HS ⊢
    have HH := hide h
    clear h
    go_enter Tryz.func125, Tryz.ntmps125
    go_wp2_with fail
    refine (unhide HS).mono ?_
    rintro e w1 ⟨rfl, hw⟩
    have hw2 := hw.symm
    subst hw2
    go_wp2_with fail
    go_returns
    exact ⟨rfl, unhide HH, Kq.refl _ _⟩
  | cons x r =>
    have e1 : seesK k s = (x.1 == k) := by unfold seesK; rw [hs]
    have e2 : headT s = x.2 := by unfold headT; rw [hs]
    obtain ⟨g, o, c, a, hb, hx, hgp, hc, hc2, t0, t1, t2⟩ := h.open1 hs
    have HP := hide (fun o' ho => h.next (o' := o') (by rw [hs]; simp) hb ho)
    have HH := hide h
    have e3 : ∀ b, txtIf b s = if b then x.2 else [] := fun b => by unfold txtIf; rw [e2]
    rw [e1, e3]
    rw [e1] at HS
    have c0 : w.cell? ⟨p, 0, none⟩ = some (.slice (some ⟨g, o, none⟩) (r.length + 1) c) := pcell hb 0
    have f0 := popen hb 0
    have n1 : (0 : Int) < ((r.length + 1 : Nat) : Int) := by omega
    have hc1 : c = 1 ∨ 1 < c := by omega
    clear hb h e1 e2 e3 hx hs
    generalize (x.1 == k) = bk at *
    go_enter Tryz.func125, Tryz.ntmps125
    go_wp2_with fail
    refine (unhide HS).mono ?_
    rintro e w1 ⟨rfl, hw⟩
    have hw2 := hw.symm
    subst hw2
    clear hw
    cases bk
    · go_wp2_with fail
      go_returns
      exact ⟨rfl, unhide HH, Kq.refl _ _⟩
    · rcases hc1 with rfl | hc1
      · obtain rfl : r = [] := List.length_eq_zero_iff.1 (by omega)
        have HQ := hide (unhide HP o (.inl rfl))
        clear HP hc hc2 n1
        go_wp2_with fail
        go_returns
        exact ⟨rfl, unhide HQ, Kq.set _ _ _ _⟩
      · have HQ := hide (unhide HP (o + 3) (.inr rfl))
        clear HP
        go_wp2_with fail
        go_returns
        exact ⟨rfl, unhide HQ, Kq.set _ _ _ _⟩
set_option maxRecDepth 100000 in
set_option maxHeartbeats 4000000 in
theorem psign_any (p : Nat) (t : List Nat) (s : PS) (w : World) (h : PV w p s) (ht : okL t) :
    Calls Tryz.prog 109 #[.pointer (some ⟨p, 0, none⟩), .string (T t)] w fun e w' => e = .returned (.bool (headIs 9 t s)) ∧ PV w' p (popIf (headIs 9 t s) s) ∧ Kq (fun j => j = p) w w' := by
  have HS := hide (ptake_any p 9 t s w h ht)
  clear h ht
  go_enter Tryz.func109, Tryz.ntmps109
  go_wp2_with fail
  refine (unhide HS).mono ?_
  rintro e w1 ⟨rfl, h1, h2⟩
  have HR := hide (And.intro h1 h2)
  clear h1 h2 HS
  go_wp2_with fail
  go_returns
  exact ⟨rfl, unhide HR⟩
set_option maxRecDepth 100000 in
set_option maxHeartbeats 4000000 in
theorem poperator_any (p : Nat) (t : List Nat) (s : PS) (w : World) (h : PV w p s) (ht : okL t) :
    Calls Tryz.prog 78 #[.pointer (some ⟨p, 0, none⟩), .string (T t)] w fun e w' => e = .returned (.bool (headIs 8 t s)) ∧ PV w' p (popIf (headIs 8 t s) s) ∧ Kq (fun j => j = p) w w' := by
  have HS := hide (ptake_any p 8 t s w h ht)
  clear h ht
  go_enter Tryz.func78, Tryz.ntmps78
  go_wp2_with fail
  refine (unhide HS).mono ?_
  rintro e w1 ⟨rfl, h1, h2⟩
  have HR := hide (And.intro h1 h2)
  clear h1 h2 HS
  go_wp2_with fail
  go_returns
  exact ⟨rfl, unhide HR⟩
/-- What tokens that are no expression end with. -/
abbrev gaveUp : Ending := .panicked [{ v := .iface 69 (.agg #[]), recovered := false }]
set_option maxRecDepth 100000 in
set_option maxHeartbeats 4000000 in
theorem giveUp_any (w : World) :
    Calls Tryz.prog 27 #[] w fun e w' => e = gaveUp ∧ w' = w := by
  go_enter Tryz.func27, Tryz.ntmps27
  go_wp2_with fail
  exact ⟨rfl, rfl, rfl⟩
set_option maxRecDepth 100000 in
set_option maxHeartbeats 4000000 in
theorem pneed_yes (p : Nat) (t : List Nat) (s : PS) (w : World) (h : PV w p s) (ht : okL t) (hy : headIs 9 t s = true) :
    Calls Tryz.prog 126 #[.pointer (some ⟨p, 0, none⟩), .string (T t)] w fun e w' => e = .returned (.tuple #[]) ∧ PV w' p s.pop ∧ Kq (fun j => j = p) w w' := by
  have HS := hide (psign_any p t s w h ht)
  rw [hy] at HS
  clear h ht hy
  go_enter Tryz.func126, Tryz.ntmps126
  go_wp2_with fail
  refine (unhide HS).mono ?_
  rintro e w1 ⟨rfl, h1, h2⟩
  have HR := hide (And.intro h1 h2)
  clear h1 h2 HS
  go_wp2_with fail
  go_returns
  exact ⟨rfl, unhide HR⟩
set_option maxRecDepth 100000 in
set_option maxHeartbeats 4000000 in
theorem pneed_no (p : Nat) (t : List Nat) (s : PS) (w : World) (h : PV w p s) (ht : okL t) (hy : headIs 9 t s = false) :
    Calls Tryz.prog 126 #[.pointer (some ⟨p, 0, none⟩), .string (T t)] w fun e w' => e = gaveUp ∧ Kq (fun j => j = p) w w' := by
  have HS := hide (psign_any p t s w h ht)
  rw [hy] at HS
  clear h ht hy
  go_enter Tryz.func126, Tryz.ntmps126
  go_wp2_with fail
  refine (unhide HS).mono ?_
  rintro e w1 ⟨rfl, h1, h2⟩
  have HR := hide h2
  clear h1 h2 HS
  go_wp2_with fail
  refine (giveUp_any _).mono ?_
  rintro e w2 ⟨rfl, hw⟩
  have hw2 := hw.symm
  subst hw2
  clear hw
  go_wp2_with fail
  exact ⟨rfl, rfl, unhide HR⟩
set_option maxRecDepth 100000 in
set_option maxHeartbeats 4000000 in
theorem pbegins_any (p : Nat) (s : PS) (w : World) (h : PV w p s) :
    Calls Tryz.prog 79 #[.pointer (some ⟨p, 0, none⟩)] w fun e w' => e = .returned (.bool (begStep s)) ∧ w' = w := by
  have HS9 := hide (psees_any p 9 s w h)
  have HS3 := hide (psees_any p 3 s w h)
  have HS5 := hide (psees_any p 5 s w h)
  have HS6 := hide (psees_any p 6 s w h)
  cases hs : s.left with
  | nil =>
    have e0 : begStep s = false := by unfold begStep headIs seesK; rw [hs]; rfl
    have e1 : ∀ k, seesK k s = false := fun k => by unfold seesK; rw [hs]
    rw [e0]
    rw [e1] at HS9 HS3 HS5 HS6
    clear h e0 e1
    go_enter Tryz.func79, Tryz.ntmps79
    go_wp2_with (first
      | (go_at_call_of 108 (Value.int IntKind.i64 9); refine (unhide HS9).mono ?_; rintro e w1 ⟨rfl, hw⟩; have hw2 := hw.symm; clear hw; subst hw2)
      | (go_at_call_of 108 (Value.int IntKind.i64 3); refine (unhide HS3).mono ?_; rintro e w1 ⟨rfl, hw⟩; have hw2 := hw.symm; clear hw; subst hw2)
      | (go_at_call_of 108 (Value.int IntKind.i64 5); refine (unhide HS5).mono ?_; rintro e w1 ⟨rfl, hw⟩; have hw2 := hw.symm; clear hw; subst hw2)
      | (go_at_call_of 108 (Value.int IntKind.i64 6); refine (unhide HS6).mono ?_; rintro e w1 ⟨rfl, hw⟩; have hw2 := hw.symm; clear hw; subst hw2))
    go_returns
    exact ⟨rfl, rfl⟩
  | cons x r =>
    obtain ⟨g, o, c, a, hb, hx, hgp, hc, hc2, t0, t1, t2⟩ := h.open1 hs
    have c0 : w.cell? ⟨p, 0, none⟩ = some (.slice (some ⟨g, o, none⟩) (r.length + 1) c) := pcell hb 0
    have n1 : (0 : Int) < ((r.length + 1 : Nat) : Int) := by omega
    have e0 : begStep s = ((x.1 == 9 && (x.2 == [46] || x.2 == [46, 46] || x.2 == [64])) || (x.1 == 3 || x.1 == 5 || x.1 == 6)) := by
      unfold begStep headIs seesK
      rw [hs]
      simp only []
      cases (x.1 == 9) <;> cases (x.1 == 3) <;> cases (x.1 == 5) <;> cases (x.1 == 6) <;> cases (x.2 == [46]) <;> cases (x.2 == [46, 46]) <;> cases (x.2 == [64]) <;> rfl
    have e1 : ∀ k, seesK k s = (x.1 == k) := fun k => by unfold seesK; rw [hs]
    have HT1 := hide (show ((T x.2).toList == [46]) = (x.2 == [46]) from eq_T (b := [46]) hx (okL_p rfl))
    have HT2 := hide (show ((T x.2).toList == [46, 46]) = (x.2 == [46, 46]) from eq_T (b := [46, 46]) hx (okL_p rfl))
    have HT3 := hide (show ((T x.2).toList == [64]) = (x.2 == [64]) from eq_T (b := [64]) hx (okL_p rfl))
    rw [e0]
    rw [e1] at HS9 HS3 HS5 HS6
    clear h e0 e1 hb hx hs hc hc2
    generalize (x.1 == 9) = b9 at *
    generalize (x.1 == 3) = b3 at *
    generalize (x.1 == 5) = b5 at *
    generalize (x.1 == 6) = b6 at *
    generalize (x.2 == [46]) = d1 at *
    generalize (x.2 == [46, 46]) = d2 at *
    generalize (x.2 == [64]) = d3 at *
    have q1 := unhide HT1
    have q2 := unhide HT2
    have q3 := unhide HT3
    clear HT1 HT2 HT3
    go_enter Tryz.func79, Tryz.ntmps79
    go_wp2_with fail
    refine (unhide HS9).mono ?_
    rintro e w1 ⟨rfl, hw⟩
    have hw2 := hw.symm
    clear hw
    subst hw2
    cases b9 <;> cases d1 <;> cases d2 <;> cases d3 <;>
    (go_wp2_with (first
      | (go_at_call_of 108 (Value.int IntKind.i64 3); refine (unhide HS3).mono ?_; rintro e w1 ⟨rfl, hw⟩; have hw2 := hw.symm; clear hw; subst hw2)
      | (go_at_call_of 108 (Value.int IntKind.i64 5); refine (unhide HS5).mono ?_; rintro e w1 ⟨rfl, hw⟩; have hw2 := hw.symm; clear hw; subst hw2)
      | (go_at_call_of 108 (Value.int IntKind.i64 6); refine (unhide HS6).mono ?_; rintro e w1 ⟨rfl, hw⟩; have hw2 := hw.symm; clear hw; subst hw2))) <;>
    (go_returns; exact ⟨by simp_all, rfl⟩)
end Go.Proofs.YthkkfldmoflfaaaGreatDoor
/- What calls on a parser leave: the contracts of xparse's parser, and its small functions. -/
namespace Go.Proofs.YthkkfldmoflfaaaGreatDoor
open Go.RowKit
/-- An expression's Kids in memory. -/
def exV (w : World) (S : Nat → Prop) (x : Ex) (v : Value) : Prop := okL x.text ∧ ∃ ys, slAt w S v x.kids.length ys ∧ kidsIn w S x.kids ys
/-- An expression's value. -/
abbrev exAgg (x : Ex) (v : Value) : Value := .agg #[.int .i64 (x.op : Nat), .string (T x.text), .int .i64 0, .int .i64 x.num, .int .i64 (x.axis : Nat), .int .i64 (x.test : Nat), v]
def exCells (x : Ex) (v : Value) : List Value := [.int .i64 (x.op : Nat), .string (T x.text), .int .i64 0, .int .i64 x.num, .int .i64 (x.axis : Nat), .int .i64 (x.test : Nat), v]
theorem exV.inn {w : World} {S : Nat → Prop} {x : Ex} {v : Value} (h : exV w S x v) : exIn w S x (exCells x v) := by
  cases x
  rw [exIn]
  exact ⟨h.1, v, rfl, h.2⟩
theorem exV.mono {w w' : World} {S S' : Nat → Prop} {x : Ex} {v : Value} (h : exV w S x v) (hS : ∀ k, S k → S' k) (hk : ∀ k o, S k → w.heap[k]? = some o → w'.heap[k]? = some o) : exV w' S' x v := by
  obtain ⟨h0, ys, h1, h2⟩ := h
  exact ⟨h0, ys, h1.mono hS hk, kidsIn.mono hS hk _ _ h2⟩
/-- A parser, where what was there at the beginning stands. -/
structure PQ (W0 w : World) (p : Nat) (s : PS) : Prop where
  pv : PV w p s
  lo : W0.heap.size ≤ p
  bel : Below W0.heap.size W0 w
theorem PQ.go {W0 w w' : World} {p : Nat} {s s' : PS} (h : PQ W0 w p s) (hk : Kq (fun j => j = p) w w') (hv : PV w' p s') : PQ W0 w' p s' :=
  ⟨hv, h.lo, ⟨hk.os.trans h.bel.os, hk.tape.trans h.bel.tape, hk.output.trans h.bel.output, Nat.le_trans h.bel.size hk.size, fun k hk' => by
    rw [hk.block k (Nat.lt_of_lt_of_le hk' h.bel.size) (by have := h.lo; omega)]
    exact h.bel.block k hk'⟩⟩
theorem PQ.below {W0 w w' : World} {p : Nat} {s : PS} (h : PQ W0 w p s) (hb : Below w.heap.size w w') : PQ W0 w' p s := h.go (Kq.of hb) (h.pv.below hb)
/-- Of a filter the Kids are a row of one's own. -/
def exF (w : World) (B : Nat) (v : Value) (x : Ex) : Prop := x.op = 20 → ∃ xs, KRow w B v x.kids xs
theorem exV.kept {w w' : World} {S : Nat → Prop} {x : Ex} {v : Value} (h : exV w S x v) {Q : Nat → Prop} (hk : Kq Q w w') (hS : ∀ j, S j → j < w.heap.size → ¬ Q j) : exV w' S x v := by
  obtain ⟨h0, ys, h1, h2⟩ := h
  exact ⟨h0, ys, h1.mono (fun _ h => h) (fun k o hs ho => blockK hk ho (hS k hs (Array.getElem?_eq_some_iff.1 ho).1)), kidsIn.mono (fun _ h => h) (fun k o hs ho => blockK hk ho (hS k hs (Array.getElem?_eq_some_iff.1 ho).1)) _ _ h2⟩
theorem exF.kept {w w' : World} {B : Nat} {x : Ex} {v : Value} (h : exF w B v x) {Q : Nat → Prop} (hk : Kq Q w w') (hS : ∀ j, j < w.heap.size → B ≤ j → ¬ Q j) : exF w' B v x := fun e => by
  obtain ⟨xs, h1⟩ := h e
  exact ⟨xs, h1.kept hk hS⟩
/-- What a call that reads an expression leaves, if there is one. -/
structure XOk (w w' : World) (p : Nat) (x : Ex) (v : Value) (s : PS) : Prop where
  ex : exV w' (fun j => w.heap.size ≤ j) x v
  fl : exF w' w.heap.size v x
  pv : PV w' p s
  kq : Kq (fun j => j = p) w w'
/-- What a call that reads an expression leaves, where it is one (what ends in a panic is told by none of these). -/
def outX (p : Nat) (w : World) (x : Ex) (s : PS) (e : Ending) (w' : World) : Prop := ∃ al c, e = .returned (exAgg x (.slice al x.kids.length c)) ∧ XOk w w' p x (.slice al x.kids.length c) s
/-- What a call leaves that reads on a row of Kids, if it ends well: the old Kids, and new ones in new blocks. -/
structure KOk (w w' : World) (B p : Nat) (v0 : Value) (ks0 : List Ex) (xs0 : List Value) (v : Value) (ks : List Ex) (s : PS) : Prop where
  row : ∃ ks1 xs1, ks = ks0 ++ ks1 ∧ KRow w' B v ks (xs0 ++ xs1) ∧ kidsIn w' (fun j => (w.heap.size ≤ j ∧ v.ownBlock ≠ some j) ∧ j < w'.heap.size) ks1 xs1
  at0 : ∀ k, v.ownBlock = some k → v0.ownBlock = some k ∨ w.heap.size ≤ k
  pv : PV w' p s
  kq : Kq (fun j => j = p ∨ v0.ownBlock = some j) w w'
/-- What a call leaves that reads on a row of Kids. -/
def outKs (p : Nat) (w : World) (B : Nat) (v0 : Value) (ks0 : List Ex) (xs0 : List Value) (ks : List Ex) (s : PS) (e : Ending) (w' : World) : Prop := ∃ al c, e = .returned (.slice al ks.length c) ∧ KOk w w' B p v0 ks0 xs0 (.slice al ks.length c) ks s
section
variable (num : List Nat → Option Int) (W0 : World) (n : Nat)
/-- The contracts, at so much fuel. -/
def ExprC : Prop := ∀ (p g : Nat) (gi : Int) (s : PS) (w : World) (x : Ex) (s' : PS), gi = (g : Nat) → g ≤ 8 → PQ W0 w p s → exprP num n g s = .ok x s' → Calls Tryz.prog 26 #[.pointer (some ⟨p, 0, none⟩), .int .i64 gi] w (outX p w x s')
def NegC : Prop := ∀ (p : Nat) (s : PS) (w : World) (x : Ex) (s' : PS), PQ W0 w p s → negP num n s = .ok x s' → Calls Tryz.prog 46 #[.pointer (some ⟨p, 0, none⟩)] w (outX p w x s')
def PathC : Prop := ∀ (p : Nat) (s : PS) (w : World) (x : Ex) (s' : PS), PQ W0 w p s → pathP num n s = .ok x s' → Calls Tryz.prog 47 #[.pointer (some ⟨p, 0, none⟩)] w (outX p w x s')
def StepC : Prop := ∀ (p : Nat) (s : PS) (w : World) (x : Ex) (s' : PS), PQ W0 w p s → stepP num n s = .ok x s' → Calls Tryz.prog 80 #[.pointer (some ⟨p, 0, none⟩)] w (outX p w x s')
def FiltC : Prop := ∀ (p : Nat) (s : PS) (w : World) (x : Ex) (s' : PS), PQ W0 w p s → filtP num n s = .ok x s' → Calls Tryz.prog 82 #[.pointer (some ⟨p, 0, none⟩)] w (outX p w x s')
def PrimC : Prop := ∀ (p : Nat) (s : PS) (w : World) (x : Ex) (s' : PS), PQ W0 w p s → primP num n s = .ok x s' → Calls Tryz.prog 113 #[.pointer (some ⟨p, 0, none⟩)] w (outX p w x s')
def BrC : Prop := ∀ (p : Nat) (s : PS) (w : World) (x : Ex) (s' : PS), PQ W0 w p s → s.opn + s.left.length < 100000 → brP num n s = .ok x s' → Calls Tryz.prog 130 #[.pointer (some ⟨p, 0, none⟩)] w (outX p w x s')
def ArgsC : Prop := ∀ (p : Nat) (s : PS) (w : World) (ks : List Ex) (s' : PS), PQ W0 w p s → argsP num n s = .ok ks s' → Calls Tryz.prog 132 #[.pointer (some ⟨p, 0, none⟩)] w (outKs p w w.heap.size (.slice none 0 0) [] [] ks s')
def MoreC : Prop := ∀ (p B : Nat) (al : Option Addr) (c : Nat) (ks : List Ex) (xs : List Value) (s : PS) (w : World) (ks' : List Ex) (s' : PS), PQ W0 w p s → p < B → B ≤ w.heap.size → KRow w B (.slice al ks.length c) ks xs → ks.length + 2 * n ≤ 2000000 → moreP num n ks s = .ok ks' s' → Calls Tryz.prog 83 #[.pointer (some ⟨p, 0, none⟩), .slice al ks.length c] w (outKs p w B (.slice al ks.length c) ks xs ks' s')
def PredsC : Prop := ∀ (p B : Nat) (al : Option Addr) (c : Nat) (ks : List Ex) (xs : List Value) (s : PS) (w : World) (ks' : List Ex) (s' : PS), PQ W0 w p s → p < B → B ≤ w.heap.size → KRow w B (.slice al ks.length c) ks xs → ks.length + 2 * n ≤ 2000000 → predsP num n ks s = .ok ks' s' → Calls Tryz.prog 112 #[.pointer (some ⟨p, 0, none⟩), .slice al ks.length c] w (outKs p w B (.slice al ks.length c) ks xs ks' s')
end
end Go.Proofs.YthkkfldmoflfaaaGreatDoor
/- Tables of xparse: its operators, axes, types of nodes. -/
namespace Go.Proofs.YthkkfldmoflfaaaGreatDoor
open Go.RowKit
theorem palloc_new (w : World) (o : Obj) : (w.alloc o).heap[w.heap.size]? = some o := by
  unfold World.alloc
  exact Array.getElem?_push_size
def opCells : List Value := opTab.flatMap fun x => [.string (T x.1), .int .i64 (x.2.1 : Nat), .int .i64 (x.2.2 : Nat)]
def axCells : List Value := axisL.map fun x => .string (T x)
def tyCells : List Value := typeL.map fun x => .string (T x)
/-- What always holds: the tables. -/
structure EnvG (w : World) : Prop where
  lex : Env5 w
  ops : w.rangeAt 3 0 opCells
  axes : w.rangeAt 4 0 axCells
  types : w.rangeAt 5 0 tyCells
theorem EnvG.below {w w' : World} (h : EnvG w) (hb : Below w.heap.size w w') : EnvG w' :=
  ⟨h.lex.below hb, fun j v hv => pkept hb (h.ops j v hv), fun j v hv => pkept hb (h.axes j v hv), fun j v hv => pkept hb (h.types j v hv)⟩
def opAt (i : Nat) : List Nat × Nat × Nat := opTab.getD i ([], 0, 0)
def axAt (i : Nat) : List Nat := axisL.getD i []
def tyAt (i : Nat) : List Nat := typeL.getD i []
theorem op_index (i : Nat) (h : i < 14) (w : World) : (Instr.index 122 (.agg opCells.toArray) (.int .i64 (i : Nat))).run Tryz.prog w = .ok (.agg #[.string (T (opAt i).1), .int .i64 ((opAt i).2.1 : Nat), .int .i64 ((opAt i).2.2 : Nat)]) w := by
  rcases (show i = 0 ∨ i = 1 ∨ i = 2 ∨ i = 3 ∨ i = 4 ∨ i = 5 ∨ i = 6 ∨ i = 7 ∨ i = 8 ∨ i = 9 ∨ i = 10 ∨ i = 11 ∨ i = 12 ∨ i = 13 by omega) with rfl | rfl | rfl | rfl | rfl | rfl | rfl | rfl | rfl | rfl | rfl | rfl | rfl | rfl
  all_goals kernel_rfl
theorem ax_index (i : Nat) (h : i < 12) (w : World) : (Instr.index 148 (.agg axCells.toArray) (.int .i64 (i : Nat))).run Tryz.prog w = .ok (.string (T (axAt i))) w := by
  rcases (show i = 0 ∨ i = 1 ∨ i = 2 ∨ i = 3 ∨ i = 4 ∨ i = 5 ∨ i = 6 ∨ i = 7 ∨ i = 8 ∨ i = 9 ∨ i = 10 ∨ i = 11 by omega) with rfl | rfl | rfl | rfl | rfl | rfl | rfl | rfl | rfl | rfl | rfl | rfl
  all_goals kernel_rfl
theorem ty_index (i : Nat) (h : i < 4) (w : World) : (Instr.index 149 (.agg tyCells.toArray) (.int .i64 (i : Nat))).run Tryz.prog w = .ok (.string (T (tyAt i))) w := by
  rcases (show i = 0 ∨ i = 1 ∨ i = 2 ∨ i = 3 by omega) with rfl | rfl | rfl | rfl
  all_goals kernel_rfl
theorem tab_asc : (∀ i, i < 14 → okL (opAt i).1) ∧ (∀ i, i < 12 → okL (axAt i)) ∧ (∀ i, i < 4 → okL (tyAt i)) := by
  refine ⟨fun i h => okL_p ?_, fun i h => okL_p ?_, fun i h => okL_p ?_⟩
  · revert i; decide
  · revert i; decide
  · revert i; decide
theorem findIdx_at {α : Type} {l : List α} {p : α → Bool} {k : Nat} {a : α} (h : l[k]? = some a) (hp : p a = true) (hno : ∀ j b, j < k → l[j]? = some b → p b = false) : l.findIdx? p = some k := by
  obtain ⟨hk, e⟩ := List.getElem?_eq_some_iff.1 h
  rw [List.findIdx?_eq_some_iff_getElem]
  refine ⟨hk, by rw [e]; exact hp, fun j hj => ?_⟩
  have := hno j _ hj (List.getElem?_eq_getElem (by omega))
  simp [this]
theorem findIdx_no {α : Type} {l : List α} {p : α → Bool} (hno : ∀ (j : Nat) (b : α), l[j]? = some b → p b = false) : l.findIdx? p = none := by
  rw [List.findIdx?_eq_none_iff]
  intro x hx
  obtain ⟨j, hj⟩ := List.getElem?_of_mem hx
  exact hno j x hj
theorem axis_yes {t : List Nat} {k : Nat} (hk : k < 12) (hno : ∀ j, j < k → (axAt j == t) = false) (h : (axAt k == t) = true) : axisNo t = some k := by
  have hl : axisL.length = 12 := rfl
  exact findIdx_at (a := axAt k) (by unfold axAt; rw [List.getD_eq_getElem?_getD, List.getElem?_eq_getElem (by omega)]; rfl) h (fun j b hj hb => by
    have := hno j hj
    unfold axAt at this
    rwa [List.getD_eq_getElem?_getD, hb] at this)
theorem axis_no {t : List Nat} (hno : ∀ j, j < 12 → (axAt j == t) = false) : axisNo t = none := findIdx_no fun j b hb => by
  have hl : axisL.length = 12 := rfl
  have := hno j (by have := (List.getElem?_eq_some_iff.1 hb).1; omega)
  unfold axAt at this
  rwa [List.getD_eq_getElem?_getD, hb] at this
theorem type_yes {t : List Nat} {k : Nat} (hk : k < 4) (hno : ∀ j, j < k → (tyAt j == t) = false) (h : (tyAt k == t) = true) : typeNo t = some k := by
  have hl : typeL.length = 4 := rfl
  exact findIdx_at (a := tyAt k) (by unfold tyAt; rw [List.getD_eq_getElem?_getD, List.getElem?_eq_getElem (by omega)]; rfl) h (fun j b hj hb => by
    have := hno j hj
    unfold tyAt at this
    rwa [List.getD_eq_getElem?_getD, hb] at this)
theorem type_no {t : List Nat} (hno : ∀ j, j < 4 → (tyAt j == t) = false) : typeNo t = none := findIdx_no fun j b hb => by
  have hl : typeL.length = 4 := rfl
  have := hno j (by have := (List.getElem?_eq_some_iff.1 hb).1; omega)
  unfold tyAt at this
  rwa [List.getD_eq_getElem?_getD, hb] at this
theorem oper_yes {g : Nat} {s : PS} {k : Nat} (hk : k < 14) (hno : ∀ j, j < k → ((opAt j).2.2 == g && headIs 8 (opAt j).1 s) = false) (h : ((opAt k).2.2 == g && headIs 8 (opAt k).1 s) = true) : operOf g s = some (opAt k).2.1 := by
  have hl : opTab.length = 14 := rfl
  unfold operOf
  have : opTab.find? (fun o => o.2.2 == g && headIs 8 o.1 s) = some (opAt k) := by
    rw [List.find?_eq_some_iff_getElem]
    refine ⟨h, k, by omega, by unfold opAt; rw [List.getD_eq_getElem?_getD, List.getElem?_eq_getElem (by omega)]; rfl, fun j hj => ?_⟩
    have := hno j hj
    unfold opAt at this
    rw [List.getD_eq_getElem?_getD, List.getElem?_eq_getElem (by omega)] at this
    simp only [Option.getD_some] at this
    rw [this]
    rfl
  rw [this]
  rfl
theorem oper_no {g : Nat} {s : PS} (hno : ∀ j, j < 14 → ((opAt j).2.2 == g && headIs 8 (opAt j).1 s) = false) : operOf g s = none := by
  have hl : opTab.length = 14 := rfl
  unfold operOf
  rw [List.find?_eq_none.2 (fun x hx => by
    obtain ⟨j, hj⟩ := List.getElem?_of_mem hx
    have := hno j (by have := (List.getElem?_eq_some_iff.1 hj).1; omega)
    unfold opAt at this
    rw [List.getD_eq_getElem?_getD, hj] at this
    simp only [Option.getD_some] at this
    rw [this]
    decide)]
  rfl
/-- What a look-up in a table tells. -/
def noV (b : Int) (o : Option Nat) : Value := match o with
  | some k => .tuple #[.int .i64 (b + (k : Nat)), .bool true]
  | none => .tuple #[.int .i64 0, .bool false]
set_option maxRecDepth 100000 in
set_option maxHeartbeats 4000000 in
theorem paxisOf_any (t : List Nat) (w : World) (ht : okL t) (hE : EnvG w) :
    Calls Tryz.prog 127 #[.string (T t)] w fun e w' => e = .returned (noV 0 (axisNo t)) ∧ w' = w := by
  have HSG := hide hE.axes
  have HT := hide ht
  clear hE ht
  go_enter Tryz.func127, Tryz.ntmps127
  go_wp2_with (refine wpList_load_mid rfl 148 _ rfl 4 0 rfl axCells _ (unhide HSG) Tryz.underlying148 rfl (by kernel_rfl) ?_)
  have hix := ax_index
  generalize axCells.toArray = sv at *
  go_loopw [7] (fun v wr => ∃ k : Nat, v = .int .i64 (k : Nat) ∧ k ≤ 12 ∧ Hid (∀ j, j < k → (axAt j == t) = false) ∧ wr = w) (fun v _ => 12 - (intOf v).toNat)
  case atStart => exact ⟨0, rfl, by omega, hide (fun j hj => absurd hj (by omega)), rfl⟩
  case round =>
    obtain ⟨k, rfl, hk, HNO, rfl⟩ := hrel
    by_cases hkn : k < 12
    · have hi := hix k hkn
      have HEQ := hide (T_eq2 (tab_asc.2.1 k hkn) (unhide HT))
      have HY := hide (fun h => axis_yes hkn (unhide HNO) h)
      have HN2 : Hid ((axAt k == t) = false → ∀ j, j < k + 1 → (axAt j == t) = false) := hide fun h j hj => by
        by_cases hjk : j = k
        · rw [hjk]; exact h
        · exact unhide HNO j (by omega)
      clear hix
      have n1 : (k : Int) < 12 := by omega
      generalize axAt k = ak at *
      cases hb : (ak == t) with
      | true =>
        rw [hb] at HEQ
        have q := unhide HEQ
        have HY2 := hide (unhide HY hb)
        clear HY HN2 hb
        go_wp2_with fail
        go_returns
        exact ⟨by rw [unhide HY2]; exact congrArg (fun n => Ending.returned (.tuple #[.int .i64 n, .bool true])) (by simp), rfl⟩
      | false =>
        rw [hb] at HEQ
        have q := unhide HEQ
        have HY2 := hide (unhide HN2 hb)
        clear HY HN2 hb HNO
        go_wp2_with fail
        exact ⟨⟨k + 1, rfl, by omega, HY2, trivial⟩, by show 12 - ((k : Int) + 1).toNat < 12 - (k : Int).toNat; omega⟩
    · obtain rfl : k = 12 := by omega
      clear hix
      have HZ := hide (axis_no (unhide HNO))
      clear HNO
      go_wp2_with fail
      go_returns
      exact ⟨by rw [unhide HZ]; rfl, rfl⟩
set_option maxRecDepth 100000 in
set_option maxHeartbeats 4000000 in
theorem ptypeOf_any (t : List Nat) (w : World) (ht : okL t) (hE : EnvG w) :
    Calls Tryz.prog 136 #[.string (T t)] w fun e w' => e = .returned (noV 3 (typeNo t)) ∧ w' = w := by
  have HSG := hide hE.types
  have HT := hide ht
  clear hE ht
  go_enter Tryz.func136, Tryz.ntmps136
  go_wp2_with (refine wpList_load_mid rfl 149 _ rfl 5 0 rfl tyCells _ (unhide HSG) Tryz.underlying149 rfl (by kernel_rfl) ?_)
  have hix := ty_index
  generalize tyCells.toArray = sv at *
  go_loopw [7] (fun v wr => ∃ k : Nat, v = .int .i64 (k : Nat) ∧ k ≤ 4 ∧ Hid (∀ j, j < k → (tyAt j == t) = false) ∧ wr = w) (fun v _ => 4 - (intOf v).toNat)
  case atStart => exact ⟨0, rfl, by omega, hide (fun j hj => absurd hj (by omega)), rfl⟩
  case round =>
    obtain ⟨k, rfl, hk, HNO, rfl⟩ := hrel
    by_cases hkn : k < 4
    · have hi := hix k hkn
      have HEQ := hide (T_eq2 (tab_asc.2.2 k hkn) (unhide HT))
      have HY := hide (fun h => type_yes hkn (unhide HNO) h)
      have HN2 : Hid ((tyAt k == t) = false → ∀ j, j < k + 1 → (tyAt j == t) = false) := hide fun h j hj => by
        by_cases hjk : j = k
        · rw [hjk]; exact h
        · exact unhide HNO j (by omega)
      clear hix
      have n1 : (k : Int) < 4 := by omega
      generalize tyAt k = ak at *
      cases hb : (ak == t) with
      | true =>
        rw [hb] at HEQ
        have q := unhide HEQ
        have HY2 := hide (unhide HY hb)
        clear HY HN2 hb
        go_wp2_with fail
        go_returns
        exact ⟨by rw [unhide HY2]; exact congrArg (fun n => Ending.returned (.tuple #[.int .i64 n, .bool true])) (by simp), rfl⟩
      | false =>
        rw [hb] at HEQ
        have q := unhide HEQ
        have HY2 := hide (unhide HN2 hb)
        clear HY HN2 hb HNO
        go_wp2_with fail
        exact ⟨⟨k + 1, rfl, by omega, HY2, trivial⟩, by show 4 - ((k : Int) + 1).toNat < 4 - (k : Int).toNat; omega⟩
    · obtain rfl : k = 4 := by omega
      clear hix
      have HZ := hide (type_no (unhide HNO))
      clear HNO
      go_wp2_with fail
      go_returns
      exact ⟨by rw [unhide HZ]; rfl, rfl⟩
set_option maxRecDepth 100000 in
set_option maxHeartbeats 4000000 in
theorem poperOf_any (p g : Nat) (s : PS) (w : World) (h : PV w p s) (hE : EnvG w) :
    Calls Tryz.prog 48 #[.pointer (some ⟨p, 0, none⟩), .int .i64 (g : Nat)] w fun e w' => e = .returned (noV 0 (operOf g s)) ∧ PV w' p (popIf (operOf g s).isSome s) ∧ Kq (fun j => j = p) w w' := by
  have HSG := hide hE.ops
  have HV := hide h
  clear hE h
  go_enter Tryz.func48, Tryz.ntmps48
  go_wp2_with (refine wpList_load_mid rfl 122 _ rfl 3 0 rfl opCells _ (unhide HSG) Tryz.underlying122 rfl (by kernel_rfl) ?_)
  have hix := op_index
  generalize opCells.toArray = sv at *
  go_loopw [9] (fun v wr => ∃ k : Nat, v = .int .i64 (k : Nat) ∧ k ≤ 14 ∧ Hid (∀ j, j < k → ((opAt j).2.2 == g && headIs 8 (opAt j).1 s) = false) ∧ Hid (PV wr p s) ∧ Hid (Kq (fun j => j = p) w wr)) (fun v _ => 14 - (intOf v).toNat)
  case atStart => exact ⟨0, rfl, by omega, hide (fun j hj => absurd hj (by omega)), HV, hide (Kq.refl _ _)⟩
  case round =>
    obtain ⟨k, rfl, hk, HNO, HPV, HKQ⟩ := hrel
    clear HV
    by_cases hkn : k < 14
    · have hi := hix k hkn
      have HY := hide (fun h => oper_yes hkn (unhide HNO) h)
      have HN2 : Hid (((opAt k).2.2 == g && headIs 8 (opAt k).1 s) = false → ∀ j, j < k + 1 → ((opAt j).2.2 == g && headIs 8 (opAt j).1 s) = false) := hide fun h j hj => by
        by_cases hjk : j = k
        · rw [hjk]; exact h
        · exact unhide HNO j (by omega)
      have HOP := hide (poperator_any p (opAt k).1 s wr (unhide HPV) (tab_asc.1 k hkn))
      clear hix
      have n1 : (k : Int) < 14 := by omega
      have HBC := hide (beq_cast (opAt k).2.2 g)
      have HAS := hide (tab_asc.1 k hkn)
      generalize opAt k = ak at *
      obtain ⟨a1, a2, a3⟩ := ak
      simp only at hi HY HN2 HOP HBC HAS
      have hba : Below wr.heap.size wr (wr.alloc (.cells #[.string (T a1), .int .i64 (a2 : Nat), .int .i64 (a3 : Nat)] 121)) := (Below.refl _ _).alloc (Nat.le_refl _) _
      have hca : (wr.alloc (.cells #[.string (T a1), .int .i64 (a2 : Nat), .int .i64 (a3 : Nat)] 121)).heap[wr.heap.size]? = some (.cells #[.string (T a1), .int .i64 (a2 : Nat), .int .i64 (a3 : Nat)] 121 (0, 0)) := palloc_new _ _
      have hop := fun w' (hb : Below wr.heap.size wr w') => poperator_any p a1 s w' ((unhide HPV).below hb) (unhide HAS)
      clear HOP
      obtain ⟨W, eW⟩ : ∃ W, (wr.alloc (.cells #[.string (T a1), .int .i64 (a2 : Nat), .int .i64 (a3 : Nat)] 121)) = W := ⟨_, rfl⟩
      rw [eW] at hba hca
      have HBA := hide hba
      have HPVA := hide ((unhide HPV).below hba)
      have c0 : W.cell? ⟨wr.heap.size, 0, none⟩ = some (.string (T a1)) := pcell hca 0
      have c1 : W.cell? ⟨wr.heap.size, 1, none⟩ = some (.int .i64 (a2 : Nat)) := pcell hca 1
      have c2 : W.cell? ⟨wr.heap.size, 2, none⟩ = some (.int .i64 (a3 : Nat)) := pcell hca 2
      have hlt := (Array.getElem?_eq_some_iff.1 hca).1
      cases hb : (a3 == g) with
      | false =>
        rw [hb] at HBC HN2
        have q := unhide HBC
        have HN3 := hide (unhide HN2 rfl)
        have HX : Hid (ClsP W W.drew) := hide ⟨(Below.refl _ _).drew⟩
        have HCE := hide (fun w' (hC : ClsP W w') => And.intro (pkept hC.bel c0) (And.intro (pkept hC.bel c1) (pkept hC.bel c2)))
        clear HN2 HY HNO hb hop
        go_wp2_with fail
        refine wp_region_cls (ClsP W) (by kernel_rfl) (by kernel_rfl) (unhide HX) ?_
        repeat
          (first
            | go_big_quiet_skip
            | (go_big_quiet_want
               go_big_quiet_op
               first
                 | go_big_quiet_on
                 | (apply Exists.intro
                    refine ⟨fun w' hC => ?_, ?_⟩
                    · (obtain ⟨k0, k1, k2⟩ := unhide HCE _ hC; go_simp; first | done | rfl)
                    go_big_quiet_on)))
        refine wpQuiet_nil ?_
        intro w2 hC2
        have HB2 := hide (Below.then (unhide HBA) hC2.bel)
        clear hC2 HX HCE c0 c1 c2
        go_wp2_with fail
        exact ⟨⟨k + 1, rfl, by omega, HN3, hide ((unhide HPV).below (unhide HB2)), hide ((unhide HKQ).andThen (Kq.of (S := fun j => j = p) (unhide HB2)) (fun _ _ h => h))⟩, by show 14 - ((k : Int) + 1).toNat < 14 - (k : Int).toNat; omega⟩
      | true =>
        rw [hb] at HBC HN2 HY
        have q := unhide HBC
        have hp1 : p < wr.heap.size := (unhide HPV).lt
        have HP1 := hide (show wr.heap.size ≠ p from by omega)
        have HOP := hide hop
        have HC1 := hide c1
        clear HNO hb hop hp1
        go_wp2_with fail
        cases hh : headIs 8 a1 s with
        | true =>
          rw [hh] at HOP
          have HY2 := hide (unhide HY hh)
          clear HY HN2 hh
          go_region_law (first
            | (go_simp; go_at_call 78; refine (unhide HOP _ (by repeat (first | exact unhide HBA | refine Below.drew ?_))).mono ?_; rintro e w2 ⟨rfl, r1, r2⟩; (have HPV2 := hide r1); (have HK2 := hide r2); (have c1' : w2.cell? ⟨wr.heap.size, 1, none⟩ = some (.int .i64 (a2 : Nat)) := keptK r2 (by exact unhide HC1) (unhide HP1)); clear r1 r2))
          all_goals
            go_wp2_with fail
            go_returns
            have hz := unhide HY2
            exact ⟨by rw [hz]; exact congrArg (fun n => Ending.returned (.tuple #[.int .i64 n, .bool true])) (by simp), by rw [hz]; exact unhide HPV2, (((unhide HKQ).andThen (Kq.of (S := fun j => j = p) (unhide HBA)) (fun _ _ h => h)).drew).andThen (unhide HK2) (fun _ _ h => h)⟩
        | false =>
          rw [hh] at HOP
          have HN3 := hide (unhide HN2 hh)
          clear HY HN2 hh
          go_region_law (first
            | (go_simp; go_at_call 78; refine (unhide HOP _ (by repeat (first | exact unhide HBA | refine Below.drew ?_))).mono ?_; rintro e w2 ⟨rfl, r1, r2⟩; (have HPV2 := hide r1); (have HK2 := hide r2); clear r1 r2))
          all_goals
            go_wp2_with fail
            exact ⟨⟨k + 1, rfl, by omega, HN3, HPV2, hide ((((unhide HKQ).andThen (Kq.of (S := fun j => j = p) (unhide HBA)) (fun _ _ h => h)).drew).andThen (unhide HK2) (fun _ _ h => h))⟩, by show 14 - ((k : Int) + 1).toNat < 14 - (k : Int).toNat; omega⟩
    · obtain rfl : k = 14 := by omega
      clear hix
      have HZ := hide (oper_no (unhide HNO))
      clear HNO
      go_wp2_with fail
      go_returns
      have hz := unhide HZ
      exact ⟨by rw [hz]; rfl, by rw [hz]; exact unhide HPV, unhide HKQ⟩
end Go.Proofs.YthkkfldmoflfaaaGreatDoor
