/- Several texts, laid as one. -/
import Derived.Test.YthkkfldmoflfaaaGreatDoorParL
import Derived.Defers
import Derived.Recover
import Derived.Test.YthkkfldmoflfaaaGreatDoorGbb
import Derived.Deep.QuietTactic
import Derived.BigQuiet
/- All of the parser's functions, at so much fuel. -/
namespace Go.Proofs.YthkkfldmoflfaaaGreatDoor
open Go.RowKit Go.Maps
structure PAll (W0 : World) (n : Nat) : Prop where
  expr : ExprC numP W0 n
  neg : NegC numP W0 n
  path : PathC numP W0 n
  step : StepC numP W0 n
  filt : FiltC numP W0 n
  prim : PrimC numP W0 n
  br : BrC numP W0 n
  args : ArgsC numP W0 n
  more : MoreC numP W0 n
  preds : PredsC numP W0 n
theorem PAll.zero (W0 : World) : PAll W0 0 where
  expr := fun p g gi s w x s' _ _ _ h => by rw [exprP] at h; cases h
  neg := fun p s w x s' _ h => by rw [negP] at h; cases h
  path := fun p s w x s' _ h => by rw [pathP] at h; cases h
  step := fun p s w x s' _ h => by rw [stepP] at h; cases h
  filt := fun p s w x s' _ h => by rw [filtP] at h; cases h
  prim := fun p s w x s' _ h => by rw [primP] at h; cases h
  br := fun p s w x s' _ _ h => by rw [brP] at h; cases h
  args := fun p s w x s' _ h => by rw [argsP] at h; cases h
  more := fun p B al c ks xs s w ks' s' _ _ _ _ _ h => by rw [moreP] at h; cases h
  preds := fun p B al c ks xs s w ks' s' _ _ _ _ _ h => by rw [predsP] at h; cases h
theorem PAll.succ (W0 : World) (hG : EnvG W0) (n : Nat) (hn : n ≤ 90000) (h : ∀ m, m ≤ n → PAll W0 m) : PAll W0 (n + 1) :=
  have g := h n (Nat.le_refl n)
  { expr := pexpr_step numP W0 n hG g.neg g.path (fun m hm => (h m hm).expr)
    neg := pneg_step numP W0 n g.neg g.expr
    path := ppath_step W0 n hn g.step g.more g.filt
    step := pstep_step numP W0 n hG g.preds hn
    filt := pfilt_step W0 n hn g.prim g.preds
    prim := pprim_step W0 n hG g.br g.args
    br := pbr_step numP W0 n g.expr
    args := pargs_step numP W0 n hn (fun m hm => (h m hm).expr)
    more := pmore_step numP W0 n (fun m hm => (h m hm).step)
    preds := ppreds_step numP W0 n (fun m hm => (h m hm).expr) }
theorem pall (W0 : World) (hG : EnvG W0) : ∀ n, n ≤ 90001 → ∀ m, m ≤ n → PAll W0 m
  | 0, _, m, hm => by
    obtain rfl : m = 0 := by omega
    exact PAll.zero W0
  | n + 1, hn, m, hm => by
    by_cases e : m = n + 1
    · subst e
      exact PAll.succ W0 hG n (by omega) (pall W0 hG n (by omega))
    · exact pall W0 hG n (by omega) m (by omega)
/-- An expression is read as the plain parser reads it, where that finds one. -/
theorem pexpr_all (W0 : World) (hG : EnvG W0) (n : Nat) (hn : n ≤ 90001) : ExprC numP W0 n := (pall W0 hG n hn n (Nat.le_refl n)).expr
end Go.Proofs.YthkkfldmoflfaaaGreatDoor
/- All tokens are one expression: xparse's whole, where they are. -/
namespace Go.Proofs.YthkkfldmoflfaaaGreatDoor
open Go.RowKit Go.Maps
set_option maxRecDepth 100000 in
set_option maxHeartbeats 4000000 in
theorem pcatch_idle (a b : Addr) (w : World) :
    CallsD Tryz.prog 25 #[.pointer (some a), .pointer (some b)] .returning w fun e u' w' => e = .returned (.tuple #[]) ∧ u' = .returning ∧ w' = w := by
  refine callsD_of_wpS Tryz.func25 rfl fun c₀ cs hu => ?_
  apply wpS_seq
  apply wpS_region
  simp [wpOpsS, go_sem, recoverD, hu, Tryz.ntmps25, Exit.thenS]
  refine wpS_of_wp ?_
  simp only [Array.replicate]
  go_wp2_with fail
  cases c₀
  simp_all [bodyPostS, results, Tryz.results25]
theorem XOk.put3 {w w1 w' w9 : World} {p : Nat} {x : Ex} {v : Value} {s : PS} (h : XOk w1 w' p x v s) (hk : Kq (fun j => j = p) w w1) (k9 : Kq (fun j => w.heap.size ≤ j ∧ j < w1.heap.size) w' w9) (hpq : p < w.heap.size) : XOk w w9 p x v s := by
  have hs := hk.size
  exact ⟨(h.ex.kept k9 (fun j hj _ e => by omega)).mono (fun j hj => by omega) (fun _ _ _ h => h), fun e => by
    obtain ⟨xs, h2⟩ := h.fl e
    exact ⟨xs, (h2.kept k9 (fun j _ hj e => by omega)).base (by omega)⟩, h.pv.kept k9 (fun j e => by omega), (hk.andThen h.kq (fun _ _ h => h)).andThen k9 (fun j hj e => by omega)⟩
set_option maxRecDepth 100000 in
set_option maxHeartbeats 4000000 in
theorem pwhole_ok (W0 : World) (hG : EnvG W0) (n : Nat) (hn : n ≤ 90001) (p : Nat) (s : PS) (w : World) (x : Ex) (s' : PS) (hQ : PQ W0 w p s) (hr : exprP numP n 0 s = .ok x s') (hl : s'.left = []) :
    Calls Tryz.prog 12 #[.pointer (some ⟨p, 0, none⟩)] w fun e w' => ∃ al c, e = .returned (.tuple #[exAgg x (.slice al x.kids.length c), .bool true]) ∧ XOk w w' p x (.slice al x.kids.length c) s' := by
  have hmf : ∀ (fn : Fn) (first cap : Array Value) (w : World), (Instr.makeFunc fn first cap).run Tryz.prog w = .ok (.func fn first cap) w := fun _ _ _ _ => rfl
  have HPL := hide hQ.pv.lt
  have HQ := hide ((hQ.alloc expr0).alloc (.cells #[.bool false] 4))
  have HB := hide (((Below.refl w.heap.size w).alloc (Nat.le_refl _) expr0).alloc (by simp) (.cells #[.bool false] 4))
  have HR0 : Hid (((w.alloc expr0).alloc (.cells #[.bool false] 4)).heap[w.heap.size]? = some expr0) := hide (by
    have h1 := palloc_new w expr0
    exact blockK (Kq.of (S := fun _ => False) ((Below.refl (w.alloc expr0).heap.size (w.alloc expr0)).alloc (Nat.le_refl _) (.cells #[.bool false] 4))) h1 (fun h => h))
  have HR1 : Hid (((w.alloc expr0).alloc (.cells #[.bool false] 4)).heap[w.heap.size + 1]? = some (.cells #[.bool false] 4)) := hide (by
    have h1 := palloc_new (w.alloc expr0) (.cells #[.bool false] 4)
    rw [show (w.alloc expr0).heap.size = w.heap.size + 1 from by simp] at h1
    exact h1)
  have HSZ : Hid (((w.alloc expr0).alloc (.cells #[.bool false] 4)).heap.size = w.heap.size + 2) := hide (by simp)
  have HC := hide ((pexpr_all W0 hG n hn) p 0 0 s _ x s' rfl (by decide) (unhide HQ) hr)
  clear hQ hr
  go_enter_defers Tryz.func12, Tryz.ntmps12
  go_wp2_with fail
  generalize (w.alloc expr0).alloc (.cells #[.bool false] 4) = wa at *
  refine (unhide HC).mono ?_
  rintro e w1 ⟨al, c, rfl, r2⟩
  have hq1 := blockK r2.kq (unhide HR0) (by have := unhide HPL; omega)
  have hb1 := blockK r2.kq (unhide HR1) (by have := unhide HPL; omega)
  obtain ⟨g, o, c', hb⟩ := r2.pv.open0 hl
  have c0 : w1.cell? ⟨p, 0, none⟩ = some (.slice (some ⟨g, o, none⟩) 0 c') := pcell hb 0
  have HX := hide r2
  have hqp : w.heap.size ≠ p := by have := unhide HPL; omega
  have hpq : p ≠ w.heap.size := by have := unhide HPL; omega
  obtain ⟨a0, a1, a2, a3, a4, a5, a6⟩ := var_cells hq1
  obtain ⟨o0, o1, o2, o3, o4, o5, o6⟩ := var_opens hq1
  have b0 : w1.cell? ⟨w.heap.size + 1, 0, none⟩ = some (.bool false) := pcell hb1 0
  have b1 : w1.frozen? ⟨w.heap.size + 1, 0, none⟩ = false := by first | exact popen hb1 0 | exact pfrozen hb1 0
  have HQ1 := hide hq1
  have HB1 := hide hb1
  generalize hq : w.heap.size = q at HQ1 HB1 hqp hpq a0 a1 a2 a3 a4 a5 a6 o0 o1 o2 o3 o4 o5 o6 b0 b1 ⊢
  have HQW := hide hq
  clear r2 HC hq1 hb1 hb hq hl
  go_wp2_with fail
  have k1 := put7_kq w1 q x (.slice al x.kids.length c)
  have k2 := put7_kq (put7 w1 q x (.slice al x.kids.length c)) q x (.slice al x.kids.length c)
  have k3 := Kq.set (put7 (put7 w1 q x (.slice al x.kids.length c)) q x (.slice al x.kids.length c)) (q + 1) 0 (.bool true)
  have v1 := put7_var (unhide HQ1) x (.slice al x.kids.length c)
  have v2 := put7_var v1 x (.slice al x.kids.length c)
  have v3 := blockK k3 v2 (by omega)
  have f2 := blockK (k1.andThen k2 (fun _ _ h => h)) (unhide HB1) (by omega)
  have f3 := pset f2 0 (.bool true)
  have k9 : Kq (fun j => j = q ∨ j = q + 1) w1 ((put7 (put7 w1 q x (.slice al x.kids.length c)) q x (.slice al x.kids.length c)).setCell ⟨q + 1, 0, none⟩ (.bool true)) := ((k1.andThen k2 (fun _ _ h => h)).more (fun j _ e => .inl e)).andThen k3 (fun j _ e => .inr e)
  have hqw := unhide HQW
  have hsz := unhide HSZ
  have hx := (unhide HX).put3 (Kq.of (S := fun j => j = p) (unhide HB)) (k9.more (fun j _ e => by omega)) (unhide HPL)
  change bodyPostD _ _ _ _ _ ((put7 (put7 w1 q x (.slice al x.kids.length c)) q x (.slice al x.kids.length c)).setCell ⟨q + 1, 0, none⟩ (.bool true))
  generalize (put7 (put7 w1 q x (.slice al x.kids.length c)) q x (.slice al x.kids.length c)).setCell ⟨q + 1, 0, none⟩ (.bool true) = W9 at *
  obtain ⟨d0, d1, d2, d3, d4, d5, d6⟩ := var_cells v3
  have e0 : W9.cell? ⟨q + 1, 0, none⟩ = some (.bool true) := by
    have := pcell f3 0
    simpa using this
  refine leaves_cons (f := 25) (args := #[.pointer (some ⟨q, 0, none⟩), .pointer (some ⟨q + 1, 0, none⟩)]) (by simp) (by simp [go_sem]) ?_
  refine (pcatch_idle ⟨q, 0, none⟩ ⟨q + 1, 0, none⟩ _).mono ?_
  rintro e u' w'' ⟨rfl, rfl, rfl⟩
  simp [Leaves, settle, results, Tryz.results12, go_sem, d0, d1, d2, d3, d4, d5, d6, e0]
  exact ⟨al, c, ⟨rfl, rfl⟩, hx⟩
end Go.Proofs.YthkkfldmoflfaaaGreatDoor
/- XplexPlaces: places rise, and each token stands at its own. -/
namespace Go.Proofs.YthkkfldmoflfaaaGreatDoor
open Go.RowKit
def offOf (t : Tok) : Nat := if t.kind == 2 || t.kind == 7 then 1 else 0
theorem scan_laid_all {cs : List Nat} {ts : List (Tok × Nat)} (h : scanOf cs = .ok ts) : Laid (fun l => (tx l).length) [] cs ts :=
  scan_laid _ (cs.length + 1) [] [] cs ts (by rw [List.nil_append]; exact h) (by omega)
theorem off_raw {t : Tok} (h : formed t) : ∃ a b, t.raw = a ++ t.text ++ b ∧ (tx a).length = offOf t := by
  rcases h with ⟨hk, q, hq, _, e⟩ | ⟨hk, e, _⟩ | ⟨h2, h7, e, _⟩
  · refine ⟨[q], [q], by rw [e]; rfl, ?_⟩
    unfold offOf
    rw [hk]
    rcases hq with rfl | rfl <;> rfl
  · refine ⟨[36], [], by rw [e, List.append_nil]; rfl, ?_⟩
    unfold offOf
    rw [hk]
    rfl
  · refine ⟨[], [], by rw [e]; simp, ?_⟩
    unfold offOf
    rw [show (t.kind == 2) = false by simpa using h2, show (t.kind == 7) = false by simpa using h7]
    rfl
theorem place_at {cs : List Nat} {ts : List (Tok × Nat)} (h : scanOf cs = .ok ts) {k : Nat} {x : Tok × Nat} (hx : ts[k]? = some x) :
    x.2 + offOf x.1 + (T x.1.text).size ≤ (T cs).size ∧ (T cs).extract (x.2 + offOf x.1) (x.2 + offOf x.1 + (T x.1.text).size) = T x.1.text := by
  obtain ⟨hf, p, b, r, e, h2, _⟩ := laid_at _ ts [] cs (scan_laid_all h) k x hx
  obtain ⟨a, c, e2, e3⟩ := off_raw hf
  rw [List.nil_append] at e
  have e4 : cs = (p ++ a) ++ x.1.text ++ (c ++ b ++ r) := by rw [e, e2]; simp
  have e5 : x.2 + offOf x.1 = (tx (p ++ a)).length := by rw [tx_len_app, e3, h2]
  rw [e5]
  refine ⟨?_, ?_⟩
  · rw [T_size, T_size]
    have h1 := tx_len_app (p ++ a) x.1.text
    have h2 := tx_len_app (p ++ a ++ x.1.text) (c ++ b ++ r)
    rw [← e4] at h2
    omega
  · conv => lhs; rw [e4]
    exact T_mid _ _ _
end Go.Proofs.YthkkfldmoflfaaaGreatDoor
