/- Several texts, laid as one. -/
import Derived.Test.YthkkfldmoflfaaaGreatDoorParFf
import Derived.Test.YthkkfldmoflfaaaGreatDoorGbd
import Derived.Defers
import Derived.Recover
/- All of the parser's functions, at so much fuel, where they give up. -/
namespace Go.Proofs.YthkkfldmoflfaaaGreatDoor
open Go.RowKit Go.Maps
theorem pexpr_fail (W0 : World) (n : Nat) (hG : EnvG W0) (hN : NegF W0 n) (hP : PathF W0 n) (hE : ∀ m, m ≤ n → ExprC numP W0 m) (hEF : ∀ m, m ≤ n → ExprF W0 m) : ExprF W0 (n + 1) := by
  intro p g gi s w hgi hg8 hQ hr
  subst hgi
  rw [exprP] at hr
  by_cases h6 : g = 6
  · rw [if_pos h6] at hr
    exact pexpr_pass_fail W0 p g s w hQ (.inl ⟨h6, fun w' h => hN p s w' h hr⟩)
  · rw [if_neg h6] at hr
    by_cases h8 : g = 8
    · rw [if_pos h8] at hr
      exact pexpr_pass_fail W0 p g s w hQ (.inr ⟨h8, fun w' h => hP p s w' h hr⟩)
    · rw [if_neg h8] at hr
      exact pexpr_loop_fail W0 n p g s w hQ hG h6 (by omega) hE hEF hr
structure PAllF (W0 : World) (n : Nat) : Prop where
  expr : ExprF W0 n
  neg : NegF W0 n
  path : PathF W0 n
  step : StepF W0 n
  filt : FiltF W0 n
  prim : PrimF W0 n
  br : BrF W0 n
  args : ArgsF W0 n
  more : MoreF W0 n
  preds : PredsF W0 n
theorem PAllF.zero (W0 : World) : PAllF W0 0 where
  expr := fun p g gi s w _ _ _ h => by rw [exprP] at h; cases h
  neg := fun p s w _ h => by rw [negP] at h; cases h
  path := fun p s w _ h => by rw [pathP] at h; cases h
  step := fun p s w _ h => by rw [stepP] at h; cases h
  filt := fun p s w _ h => by rw [filtP] at h; cases h
  prim := fun p s w _ h => by rw [primP] at h; cases h
  br := fun p s w _ _ h => by rw [brP] at h; cases h
  args := fun p s w _ h => by rw [argsP] at h; cases h
  more := fun p B al c ks xs s w _ _ _ _ _ h => by rw [moreP] at h; cases h
  preds := fun p B al c ks xs s w _ _ _ _ _ h => by rw [predsP] at h; cases h
theorem PAllF.succ (W0 : World) (hG : EnvG W0) (n : Nat) (hn : n ≤ 90000) (h : ∀ m, m ≤ n → PAllF W0 m) : PAllF W0 (n + 1) :=
  have g := h n (Nat.le_refl n)
  have c := pall W0 hG n (by omega)
  { expr := pexpr_fail W0 n hG g.neg g.path (fun m hm => (c m hm).expr) (fun m hm => (h m hm).expr)
    neg := pneg_fail W0 n g.neg g.expr
    path := ppath_fail W0 n hn (c n (Nat.le_refl n)).step g.step g.more (c n (Nat.le_refl n)).filt g.filt
    step := pstep_fail W0 n hG g.preds hn
    filt := pfilt_fail W0 n hn (c n (Nat.le_refl n)).prim g.prim g.preds
    prim := pprim_fail W0 n hG g.br g.args
    br := pbr_fail W0 n (c n (Nat.le_refl n)).expr g.expr
    args := pargs_fail W0 n hn (fun m hm => (c m hm).expr) (fun m hm => (h m hm).expr)
    more := pmore_fail W0 n (fun m hm => (c m hm).step) (fun m hm => (h m hm).step)
    preds := ppreds_fail W0 n (fun m hm => (c m hm).expr) (fun m hm => (h m hm).expr) }
theorem pallF (W0 : World) (hG : EnvG W0) : ∀ n, n ≤ 90001 → ∀ m, m ≤ n → PAllF W0 m
  | 0, _, m, hm => by
    obtain rfl : m = 0 := by omega
    exact PAllF.zero W0
  | n + 1, hn, m, hm => by
    by_cases e : m = n + 1
    · subst e
      exact PAllF.succ W0 hG n (by omega) (pallF W0 hG n (by omega))
    · exact pallF W0 hG n (by omega) m (by omega)
/-- Where the plain parser finds no expression, expression gives up. -/
theorem pexpr_allF (W0 : World) (hG : EnvG W0) (n : Nat) (hn : n ≤ 90001) : ExprF W0 n := (pallF W0 hG n hn n (Nat.le_refl n)).expr
end Go.Proofs.YthkkfldmoflfaaaGreatDoor
/- All tokens are one expression: xparse's whole, where they are. -/
namespace Go.Proofs.YthkkfldmoflfaaaGreatDoor
open Go.RowKit Go.Maps
set_option maxRecDepth 100000 in
set_option maxHeartbeats 4000000 in
theorem pcatch_idle (a b : Addr) (w : World) :
    CallsD Tryz.prog 25 #[.pointer (some a), .pointer (some b)] .returning w fun e u' w' => e = .returned (.tuple #[]) ∧ u' = .returning ∧ w' = w := by
  refine callsD_of_wpS Tryz.func25 rfl fun c₀ cs hu => ?_
  apply wpS_seq
  apply wpS_region
  simp [wpOpsS, go_sem, recoverD, hu, Tryz.ntmps25, Exit.thenS]
  refine wpS_of_wp ?_
  simp only [Array.replicate]
  go_wp2_with fail
  cases c₀
  simp_all [bodyPostS, results, Tryz.results25]
theorem XOk.put3 {w w1 w' w9 : World} {p : Nat} {x : Ex} {v : Value} {s : PS} (h : XOk w1 w' p x v s) (hk : Kq (fun j => j = p) w w1) (k9 : Kq (fun j => w.heap.size ≤ j ∧ j < w1.heap.size) w' w9) (hpq : p < w.heap.size) : XOk w w9 p x v s := by
  have hs := hk.size
  exact ⟨(h.ex.kept k9 (fun j hj _ e => by omega)).mono (fun j hj => by omega) (fun _ _ _ h => h), fun e => by
    obtain ⟨xs, h2⟩ := h.fl e
    exact ⟨xs, (h2.kept k9 (fun j _ hj e => by omega)).base (by omega)⟩, h.pv.kept k9 (fun j e => by omega), (hk.andThen h.kq (fun _ _ h => h)).andThen k9 (fun j hj e => by omega)⟩
set_option maxRecDepth 100000 in
set_option maxHeartbeats 4000000 in
theorem pwhole_ok (W0 : World) (hG : EnvG W0) (n : Nat) (hn : n ≤ 90001) (p : Nat) (s : PS) (w : World) (x : Ex) (s' : PS) (hQ : PQ W0 w p s) (hr : exprP numP n 0 s = .ok x s') (hl : s'.left = []) :
    Calls Tryz.prog 12 #[.pointer (some ⟨p, 0, none⟩)] w fun e w' => ∃ al c, e = .returned (.tuple #[exAgg x (.slice al x.kids.length c), .bool true]) ∧ XOk w w' p x (.slice al x.kids.length c) s' := by
  have hmf : ∀ (fn : Fn) (first cap : Array Value) (w : World), (Instr.makeFunc fn first cap).run Tryz.prog w = .ok (.func fn first cap) w := fun _ _ _ _ => rfl
  have HPL := hide hQ.pv.lt
  have HQ := hide ((hQ.alloc expr0).alloc (.cells #[.bool false] 4))
  have HB := hide (((Below.refl w.heap.size w).alloc (Nat.le_refl _) expr0).alloc (by simp) (.cells #[.bool false] 4))
  have HR0 : Hid (((w.alloc expr0).alloc (.cells #[.bool false] 4)).heap[w.heap.size]? = some expr0) := hide (by
    have h1 := palloc_new w expr0
    exact blockK (Kq.of (S := fun _ => False) ((Below.refl (w.alloc expr0).heap.size (w.alloc expr0)).alloc (Nat.le_refl _) (.cells #[.bool false] 4))) h1 (fun h => h))
  have HR1 : Hid (((w.alloc expr0).alloc (.cells #[.bool false] 4)).heap[w.heap.size + 1]? = some (.cells #[.bool false] 4)) := hide (by
    have h1 := palloc_new (w.alloc expr0) (.cells #[.bool false] 4)
    rw [show (w.alloc expr0).heap.size = w.heap.size + 1 from by simp] at h1
    exact h1)
  have HSZ : Hid (((w.alloc expr0).alloc (.cells #[.bool false] 4)).heap.size = w.heap.size + 2) := hide (by simp)
  have HC := hide ((pexpr_all W0 hG n hn) p 0 0 s _ x s' rfl (by decide) (unhide HQ) hr)
  clear hQ hr
  go_enter_defers Tryz.func12, Tryz.ntmps12
  go_wp2_with fail
  generalize (w.alloc expr0).alloc (.cells #[.bool false] 4) = wa at *
  refine (unhide HC).mono ?_
  rintro e w1 ⟨al, c, rfl, r2⟩
  have hq1 := blockK r2.kq (unhide HR0) (by have := unhide HPL; omega)
  have hb1 := blockK r2.kq (unhide HR1) (by have := unhide HPL; omega)
  obtain ⟨al', c', hb⟩ := r2.pv.open0 hl
  have c0 : w1.cell? ⟨p, 0, none⟩ = some (.slice al' 0 c') := pcell hb 0
  have HX := hide r2
  have hqp : w.heap.size ≠ p := by have := unhide HPL; omega
  have hpq : p ≠ w.heap.size := by have := unhide HPL; omega
  obtain ⟨a0, a1, a2, a3, a4, a5, a6⟩ := var_cells hq1
  obtain ⟨o0, o1, o2, o3, o4, o5, o6⟩ := var_opens hq1
  have b0 : w1.cell? ⟨w.heap.size + 1, 0, none⟩ = some (.bool false) := pcell hb1 0
  have b1 : w1.frozen? ⟨w.heap.size + 1, 0, none⟩ = false := by first | exact popen hb1 0 | exact pfrozen hb1 0
  have HQ1 := hide hq1
  have HB1 := hide hb1
  generalize hq : w.heap.size = q at HQ1 HB1 hqp hpq a0 a1 a2 a3 a4 a5 a6 o0 o1 o2 o3 o4 o5 o6 b0 b1 ⊢
  have HQW := hide hq
  clear r2 HC hq1 hb1 hb hq hl
  go_wp2_with fail
  have k1 := put7_kq w1 q x (.slice al x.kids.length c)
  have k2 := put7_kq (put7 w1 q x (.slice al x.kids.length c)) q x (.slice al x.kids.length c)
  have k3 := Kq.set (put7 (put7 w1 q x (.slice al x.kids.length c)) q x (.slice al x.kids.length c)) (q + 1) 0 (.bool true)
  have v1 := put7_var (unhide HQ1) x (.slice al x.kids.length c)
  have v2 := put7_var v1 x (.slice al x.kids.length c)
  have v3 := blockK k3 v2 (by omega)
  have f2 := blockK (k1.andThen k2 (fun _ _ h => h)) (unhide HB1) (by omega)
  have f3 := pset f2 0 (.bool true)
  have k9 : Kq (fun j => j = q ∨ j = q + 1) w1 ((put7 (put7 w1 q x (.slice al x.kids.length c)) q x (.slice al x.kids.length c)).setCell ⟨q + 1, 0, none⟩ (.bool true)) := ((k1.andThen k2 (fun _ _ h => h)).more (fun j _ e => .inl e)).andThen k3 (fun j _ e => .inr e)
  have hqw := unhide HQW
  have hsz := unhide HSZ
  have hx := (unhide HX).put3 (Kq.of (S := fun j => j = p) (unhide HB)) (k9.more (fun j _ e => by omega)) (unhide HPL)
  change bodyPostD _ _ _ _ _ ((put7 (put7 w1 q x (.slice al x.kids.length c)) q x (.slice al x.kids.length c)).setCell ⟨q + 1, 0, none⟩ (.bool true))
  generalize (put7 (put7 w1 q x (.slice al x.kids.length c)) q x (.slice al x.kids.length c)).setCell ⟨q + 1, 0, none⟩ (.bool true) = W9 at *
  obtain ⟨d0, d1, d2, d3, d4, d5, d6⟩ := var_cells v3
  have e0 : W9.cell? ⟨q + 1, 0, none⟩ = some (.bool true) := by
    have := pcell f3 0
    simpa using this
  refine leaves_cons (f := 25) (args := #[.pointer (some ⟨q, 0, none⟩), .pointer (some ⟨q + 1, 0, none⟩)]) (by simp) (by simp [go_sem]) ?_
  refine (pcatch_idle ⟨q, 0, none⟩ ⟨q + 1, 0, none⟩ _).mono ?_
  rintro e u' w'' ⟨rfl, rfl, rfl⟩
  simp [Leaves, settle, results, Tryz.results12, go_sem, d0, d1, d2, d3, d4, d5, d6, e0]
  exact ⟨al, c, ⟨rfl, rfl⟩, hx⟩
end Go.Proofs.YthkkfldmoflfaaaGreatDoor
/- xparse's whole, where the tokens are no expression. -/
namespace Go.Proofs.YthkkfldmoflfaaaGreatDoor
open Go.RowKit Go.Maps
abbrev gvV : Value := .iface 69 (.agg #[])
set_option maxRecDepth 100000 in
set_option maxHeartbeats 4000000 in
theorem pcatch_gave (q : Nat) (w : World) (c0 c1 c2 c3 c4 c5 c6 d : Value) (hq : w.heap[q]? = some (.cells #[c0, c1, c2, c3, c4, c5, c6] 32 (0, 0))) (hb : w.heap[q + 1]? = some (.cells #[d] 4 (0, 0))) :
    CallsD Tryz.prog 25 #[.pointer (some ⟨q, 0, none⟩), .pointer (some ⟨q + 1, 0, none⟩)] (.panicking [{ v := gvV, recovered := false }]) w fun e u' w' => e = .returned (.tuple #[]) ∧ u' = .panicking [{ v := gvV, recovered := true }] ∧ w' = (put7 (w.alloc (.cells #[] 69)) q noX (.slice none 0 0)).setCell ⟨q + 1, 0, none⟩ (.bool false) := by
  have hk1 : Kq (fun _ => False) w (w.alloc (.cells #[] 69)) := Kq.of (S := fun _ => False) ((Below.refl w.heap.size w).alloc (Nat.le_refl _) _)
  have hq1 := blockK hk1 hq (fun h => h)
  have hb1 := blockK hk1 hb (fun h => h)
  obtain ⟨o0, o1, o2, o3, o4, o5, o6⟩ := var_opens hq1
  obtain ⟨a0, a1, a2, a3, a4, a5, a6⟩ := var_cells hq1
  have b0 : (w.alloc (.cells #[] 69)).cell? ⟨q + 1, 0, none⟩ = some d := pcell hb1 0
  have b1 : (w.alloc (.cells #[] 69)).frozen? ⟨q + 1, 0, none⟩ = false := by first | exact popen hb1 0 | exact pfrozen hb1 0
  refine callsD_of_wpS Tryz.func25 rfl fun c₀ cs hu => ?_
  apply wpS_seq
  apply wpS_region
  simp [wpOpsS, go_sem, recoverD, hu, Tryz.ntmps25, Exit.thenS]
  refine wpS_of_wp ?_
  simp only [Array.replicate]
  have hta : ∀ (t : TypeId) (w : World), (Instr.typeAssert gvV t 69 true).run Tryz.prog w = .ok (.tuple #[.agg #[], .bool true]) w := fun _ _ => rfl
  clear hq hb hk1 hq1 hb1
  go_wp2_with fail
  change bodyPostS _ _ _ _ _ _ _ _ ((put7 (w.alloc (.cells #[] 69)) q noX (.slice none 0 0)).setCell ⟨q + 1, 0, none⟩ (.bool false))
  generalize (put7 (w.alloc (.cells #[] 69)) q noX (.slice none 0 0)).setCell ⟨q + 1, 0, none⟩ (.bool false) = W9
  simp [bodyPostS, results, Tryz.results25]
/-- The world behind the closure. -/
theorem gave_world {q : Nat} {w : World} {c0 c1 c2 c3 c4 c5 c6 d : Value} {tt : TypeId} (hq : w.heap[q]? = some (.cells #[c0, c1, c2, c3, c4, c5, c6] 32 (0, 0))) (hb : w.heap[q + 1]? = some (.cells #[d] 4 (0, 0))) :
    Kq (fun j => j = q ∨ j = q + 1) w ((put7 (w.alloc (.cells #[] tt)) q noX (.slice none 0 0)).setCell ⟨q + 1, 0, none⟩ (.bool false)) ∧ VarX ((put7 (w.alloc (.cells #[] tt)) q noX (.slice none 0 0)).setCell ⟨q + 1, 0, none⟩ (.bool false)) q noX (.slice none 0 0) ∧ ((put7 (w.alloc (.cells #[] tt)) q noX (.slice none 0 0)).setCell ⟨q + 1, 0, none⟩ (.bool false)).cell? ⟨q + 1, 0, none⟩ = some (.bool false) := by
  have k0 : Kq (fun _ => False) w (w.alloc (.cells #[] tt)) := Kq.of (S := fun _ => False) ((Below.refl w.heap.size w).alloc (Nat.le_refl _) _)
  have v0 := blockK k0 hq (fun h => h)
  have f0 := blockK k0 hb (fun h => h)
  have k1 := put7_kq (w.alloc (.cells #[] tt)) q noX (.slice none 0 0)
  have v1 := put7_var v0 noX (.slice none 0 0)
  have f1 := blockK k1 f0 (by omega)
  have k2 := Kq.set (put7 (w.alloc (.cells #[] tt)) q noX (.slice none 0 0)) (q + 1) 0 (.bool false)
  have v2 := blockK k2 v1 (by omega)
  have f2 := pset f1 0 (.bool false)
  refine ⟨((k0.more (fun j _ e => e.elim)).andThen k1 (fun j _ e => .inl e)).andThen k2 (fun j _ e => .inr e), v2, ?_⟩
  have := pcell f2 0
  simpa using this
/-- What whole tells where the tokens are no expression. -/
def outWN (p : Nat) (w : World) (e : Ending) (w' : World) : Prop := e = .returned (.tuple #[exAgg noX (.slice none 0 0), .bool false]) ∧ Kq (fun j => j = p) w w'
set_option maxRecDepth 100000 in
set_option maxHeartbeats 4000000 in
theorem pwhole_fail (W0 : World) (hG : EnvG W0) (n : Nat) (hn : n ≤ 90001) (p : Nat) (s : PS) (w : World) (hQ : PQ W0 w p s) (hr : exprP numP n 0 s = .fail) :
    Calls Tryz.prog 12 #[.pointer (some ⟨p, 0, none⟩)] w (outWN p w) := by
  have hmf : ∀ (fn : Fn) (first cap : Array Value) (w : World), (Instr.makeFunc fn first cap).run Tryz.prog w = .ok (.func fn first cap) w := fun _ _ _ _ => rfl
  have HPL := hide hQ.pv.lt
  have HQ := hide ((hQ.alloc expr0).alloc (.cells #[.bool false] 4))
  have HB := hide (((Below.refl w.heap.size w).alloc (Nat.le_refl _) expr0).alloc (by simp) (.cells #[.bool false] 4))
  have HR0 : Hid (((w.alloc expr0).alloc (.cells #[.bool false] 4)).heap[w.heap.size]? = some expr0) := hide (by
    have h1 := palloc_new w expr0
    exact blockK (Kq.of (S := fun _ => False) ((Below.refl (w.alloc expr0).heap.size (w.alloc expr0)).alloc (Nat.le_refl _) (.cells #[.bool false] 4))) h1 (fun h => h))
  have HR1 : Hid (((w.alloc expr0).alloc (.cells #[.bool false] 4)).heap[w.heap.size + 1]? = some (.cells #[.bool false] 4)) := hide (by
    have h1 := palloc_new (w.alloc expr0) (.cells #[.bool false] 4)
    rw [show (w.alloc expr0).heap.size = w.heap.size + 1 from by simp] at h1
    exact h1)
  have HC := hide ((pexpr_allF W0 hG n hn) p 0 0 s _ rfl (by decide) (unhide HQ) hr)
  clear hQ hr
  go_enter_defers Tryz.func12, Tryz.ntmps12
  go_wp2_with fail
  generalize (w.alloc expr0).alloc (.cells #[.bool false] 4) = wa at *
  refine (unhide HC).mono ?_
  rintro e w1 ⟨rfl, r2⟩
  have hq1 := blockK r2 (unhide HR0) (by have := unhide HPL; omega)
  have hb1 := blockK r2 (unhide HR1) (by have := unhide HPL; omega)
  have hk0 : Kq (fun j => j = p) w w1 := (Kq.of (S := fun j => j = p) (unhide HB)).andThen r2 (fun _ _ h => h)
  have HQ1 := hide hq1
  have HB1 := hide hb1
  have HK0 := hide hk0
  have HL := hide (show w1.heap.size > w.heap.size from (Array.getElem?_eq_some_iff.1 hq1).1)
  clear r2 HC hq1 hb1 hk0
  go_wp2_with fail
  refine leaves_cons (f := 25) (args := #[.pointer (some ⟨w.heap.size, 0, none⟩), .pointer (some ⟨w.heap.size + 1, 0, none⟩)]) (by simp) (by simp [go_sem]) ?_
  refine (pcatch_gave w.heap.size w1 _ _ _ _ _ _ _ _ (unhide HQ1) (unhide HB1)).mono ?_
  rintro e u' w'' ⟨rfl, rfl, rfl⟩
  obtain ⟨k9, v9, e0⟩ := gave_world (tt := 69) (unhide HQ1) (unhide HB1)
  have hk : Kq (fun j => j = p) w _ := (unhide HK0).andThen k9 (fun j hj e => by have := unhide HL; omega)
  generalize (put7 (w1.alloc (.cells #[] 69)) w.heap.size noX (.slice none 0 0)).setCell ⟨w.heap.size + 1, 0, none⟩ (.bool false) = W9 at *
  obtain ⟨d0, d1, d2, d3, d4, d5, d6⟩ := var_cells v9
  simp [Leaves, settle, results, Tryz.results12, go_sem, d0, d1, d2, d3, d4, d5, d6, e0]
  exact ⟨rfl, hk⟩
end Go.Proofs.YthkkfldmoflfaaaGreatDoor
/- xparse's whole, where tokens are left. -/
namespace Go.Proofs.YthkkfldmoflfaaaGreatDoor
open Go.RowKit Go.Maps
set_option maxRecDepth 100000 in
set_option maxHeartbeats 600000 in
theorem pwhole_left (W0 : World) (hG : EnvG W0) (n : Nat) (hn : n ≤ 90001) (p : Nat) (s : PS) (w : World) (hQ : PQ W0 w p s) (x : Ex) (s' : PS) (hr : exprP numP n 0 s = .ok x s') (hl : s'.left ≠ []) :
    Calls Tryz.prog 12 #[.pointer (some ⟨p, 0, none⟩)] w (outWN p w) := by
  have hmf : ∀ (fn : Fn) (first cap : Array Value) (w : World), (Instr.makeFunc fn first cap).run Tryz.prog w = .ok (.func fn first cap) w := fun _ _ _ _ => rfl
  have HPL := hide hQ.pv.lt
  have HQ := hide ((hQ.alloc expr0).alloc (.cells #[.bool false] 4))
  have HB := hide (((Below.refl w.heap.size w).alloc (Nat.le_refl _) expr0).alloc (by simp) (.cells #[.bool false] 4))
  have HR0 : Hid (((w.alloc expr0).alloc (.cells #[.bool false] 4)).heap[w.heap.size]? = some expr0) := hide (by
    have h1 := palloc_new w expr0
    exact blockK (Kq.of (S := fun _ => False) ((Below.refl (w.alloc expr0).heap.size (w.alloc expr0)).alloc (Nat.le_refl _) (.cells #[.bool false] 4))) h1 (fun h => h))
  have HR1 : Hid (((w.alloc expr0).alloc (.cells #[.bool false] 4)).heap[w.heap.size + 1]? = some (.cells #[.bool false] 4)) := hide (by
    have h1 := palloc_new (w.alloc expr0) (.cells #[.bool false] 4)
    rw [show (w.alloc expr0).heap.size = w.heap.size + 1 from by simp] at h1
    exact h1)
  have HC := hide ((pexpr_all W0 hG n hn) p 0 0 s _ x s' rfl (by decide) (unhide HQ) hr)
  have hln : (0 : Int) < (s'.left.length : Nat) := by
    have := List.length_pos_iff.2 hl
    omega
  clear hQ hr hl
  go_enter_defers Tryz.func12, Tryz.ntmps12
  go_wp2_with fail
  generalize (w.alloc expr0).alloc (.cells #[.bool false] 4) = wa at *
  refine (unhide HC).mono ?_
  rintro e w1 ⟨al, c, rfl, r2⟩
  have hq1 := blockK r2.kq (unhide HR0) (by have := unhide HPL; omega)
  have hb1 := blockK r2.kq (unhide HR1) (by have := unhide HPL; omega)
  obtain ⟨_, _, vl, hpb, _, ⟨e1, _⟩ | ⟨g, o, c', hvl, _⟩⟩ := r2.pv
  · rw [e1] at hln; exact absurd hln (by decide)
  subst hvl
  have c0 : w1.cell? ⟨p, 0, none⟩ = some (.slice (some ⟨g, o, none⟩) s'.left.length c') := pcell hpb 0
  have hk0 : Kq (fun j => j = p) w w1 := (Kq.of (S := fun j => j = p) (unhide HB)).andThen r2.kq (fun _ _ h => h)
  have hqp : w.heap.size ≠ p := by have := unhide HPL; omega
  have hpq : p ≠ w.heap.size := by have := unhide HPL; omega
  obtain ⟨a0, a1, a2, a3, a4, a5, a6⟩ := var_cells hq1
  obtain ⟨o0, o1, o2, o3, o4, o5, o6⟩ := var_opens hq1
  generalize hq : w.heap.size = q at hq1 hb1 hqp hpq a0 a1 a2 a3 a4 a5 a6 o0 o1 o2 o3 o4 o5 o6 ⊢
  have HQW := hide hq
  clear hq
  have k1 := put7_kq w1 q x (.slice al x.kids.length c)
  have v1 := put7_var hq1 x (.slice al x.kids.length c)
  have f1 := blockK k1 hb1 (by omega)
  have HL : Hid (q < (put7 w1 q x (.slice al x.kids.length c)).heap.size) := hide (Nat.lt_of_lt_of_le (Array.getElem?_eq_some_iff.1 hq1).1 k1.size)
  have HK0 := hide (hk0.andThen (k1.more (S' := fun j => j = p ∨ j = q) (fun j _ e => .inr e)) (fun j hj h => h.elim id (fun e => by have := unhide HQW; omega)))
  have HQ1 := hide v1
  have HB1 := hide f1
  clear r2 HC hq1 hb1 hk0 hpb k1 v1 f1
  have n1 : decide ((0 : Int) < ((s'.left.length : Nat) : Int)) = true := decide_eq_true hln
  obtain ⟨m, hm⟩ : ∃ m : Nat, s'.left.length = m := ⟨_, rfl⟩
  rw [hm] at c0 n1
  clear hln hm
  have n2 : (0 : Int) < (m : Nat) := of_decide_eq_true n1
  have n3 : 0 < m := by omega
  go_wp2_with (go_at_call 27; refine (giveUp_any _).mono ?_; rintro e w9 ⟨rfl, rfl⟩)
  change bodyPostD _ _ _ _ _ (put7 w1 q x (.slice al x.kids.length c))
  generalize put7 w1 q x (.slice al x.kids.length c) = W2 at *
  refine leaves_cons (f := 25) (args := #[.pointer (some ⟨q, 0, none⟩), .pointer (some ⟨q + 1, 0, none⟩)]) (by simp) (by simp [go_sem]) ?_
  refine (pcatch_gave q W2 _ _ _ _ _ _ _ _ (unhide HQ1) (unhide HB1)).mono ?_
  rintro e u' w'' ⟨rfl, rfl, rfl⟩
  obtain ⟨k9, v9, e0⟩ := gave_world (tt := 69) (unhide HQ1) (unhide HB1)
  have hk : Kq (fun j => j = p) w _ := (unhide HK0).andThen k9 (fun j hj e => by have := unhide HQW; omega)
  generalize (put7 (W2.alloc (.cells #[] 69)) q noX (.slice none 0 0)).setCell ⟨q + 1, 0, none⟩ (.bool false) = W9 at *
  obtain ⟨d0, d1, d2, d3, d4, d5, d6⟩ := var_cells v9
  simp [Leaves, settle, results, Tryz.results12, go_sem, d0, d1, d2, d3, d4, d5, d6, e0]
  exact ⟨rfl, hk⟩
end Go.Proofs.YthkkfldmoflfaaaGreatDoor
