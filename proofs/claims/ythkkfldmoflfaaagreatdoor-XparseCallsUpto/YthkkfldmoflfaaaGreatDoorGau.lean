/- Several texts, laid as one. -/
import Derived.Test.YthkkfldmoflfaaaGreatDoorGat
import Derived.Deep.LoopGhost
/- An expression of a grammar, two: the loop over its operators. -/
namespace Go.Proofs.YthkkfldmoflfaaaGreatDoor
open Go.RowKit
theorem exV.bound {w : World} {S : Nat → Prop} {x : Ex} {v : Value} (h : exV w S x v) : exV w (fun k => S k ∧ k < w.heap.size) x v := by
  obtain ⟨h0, ys, h1, h2⟩ := h
  exact ⟨h0, ys, ⟨h1.1, fun hn => by obtain ⟨g, o, c, e, hg, hlg, hc⟩ := h1.2 hn; exact ⟨g, o, c, e, ⟨hg, hlg⟩, hlg, hc⟩⟩, kidsIn.bound _ _ h2⟩
/-- Where the loop stands: the expression so far lies in its variable. -/
structure LoopX (wa wr : World) (p q q2 : Nat) (x : Ex) (v : Value) (s : PS) : Prop where
  var : VarX wr q2 x v
  res : wr.heap[q]? = some expr0
  ex : exV wr (fun j => wa.heap.size ≤ j ∧ j ≠ q2) x v
  fl : exF wr wa.heap.size v x
  pv : PV wr p s
  kq : Kq (fun j => j = p) wa wr
theorem LoopX.go {wa wr w' : World} {p q q2 : Nat} {x : Ex} {v : Value} {s s' : PS} (h : LoopX wa wr p q q2 x v s) (hk : Kq (fun j => j = p) wr w') (hv : PV w' p s') (h1 : p < q) (h2 : q < wa.heap.size) (h3 : wa.heap.size ≤ q2) : LoopX wa w' p q q2 x v s' :=
  ⟨blockK hk h.var (by omega), blockK hk h.res (by omega), h.ex.kept hk (fun j hj _ e => by omega), h.fl.kept hk (fun j _ hj e => by omega), hv, h.kq.andThen hk (fun _ _ h => h)⟩
theorem LoopX.put {w wa wr : World} {p q q2 : Nat} {x : Ex} {v : Value} {s : PS} (h : LoopX wa wr p q q2 x v s) (h1 : q < wa.heap.size ∧ wa.heap.size ≤ q2 ∧ p < q) (hb : Below q w wa ∧ w.heap.size = q) : XOk w (put7 wr q x v) p x v s := by
  obtain ⟨hb, e⟩ := hb
  subst e
  have hk := put7_kq wr w.heap.size x v
  exact ⟨(h.ex.kept hk (fun j hj _ e => by omega)).mono (fun j hj => by omega) (fun _ _ _ h => h), fun e => by
    obtain ⟨xs, h2⟩ := h.fl e
    exact ⟨xs, (h2.kept hk (fun j _ hj e => by omega)).base (by omega)⟩, h.pv.kept hk (fun j e => by omega), ((Kq.of hb).andThen h.kq (fun _ _ h => h)).andThen hk (fun j hj e => by omega)⟩
theorem oper_low {g k : Nat} {s : PS} (h : operOf g s = some k) : k ≤ 15 := by
  unfold operOf at h
  obtain ⟨o, ho, rfl⟩ := Option.map_eq_some_iff.1 h
  have := List.mem_of_find?_eq_some ho
  revert this
  have : ∀ o ∈ opTab, o.2.1 ≤ 15 := by decide
  exact this o
/-- Two expressions in a new block. -/
abbrev twoB (x : Ex) (v : Value) (x2 : Ex) (v2 : Value) : Obj := .cells #[.int .i64 (x.op : Nat), .string (T x.text), .int .i64 0, .int .i64 x.num, .int .i64 (x.axis : Nat), .int .i64 (x.test : Nat), v, .int .i64 (x2.op : Nat), .string (T x2.text), .int .i64 0, .int .i64 x2.num, .int .i64 (x2.axis : Nat), .int .i64 (x2.test : Nat), v2] 32
theorem exV.two {w : World} {S : Nat → Prop} {g k c : Nat} {x x2 : Ex} {v v2 : Value} (h : exV w S x v) (h2 : exV w S x2 v2) (hg : w.heap[g]? = some (twoB x v x2 v2)) (hS : S g) (hc : 2 ≤ c) : exV w S (.mk k [] 0 0 0 [x, x2]) (.slice (some ⟨g, 0, none⟩) 2 c) := by
  refine ⟨(fun c hc => by cases hc), exCells x v ++ exCells x2 v2, ⟨⟨_, _, rfl, hc⟩, fun _ => ⟨g, 0, c, rfl, hS, (Array.getElem?_eq_some_iff.1 hg).1, fun i u hu => ?_⟩⟩, (kidsIn.single h.inn).app (kidsIn.single h2.inn)⟩
  rw [Nat.zero_add, pcell hg i]
  simpa [exCells] using hu
theorem LoopX.op {wa w2 w3 wd : World} {p q q2 k : Nat} {x x2 : Ex} {v v2 : Value} {s s2 : PS} (h : LoopX wa w2 p q q2 x v s) (hb : Below w2.heap.size w2 wd) (hX : XOk wd w3 p x2 v2 s2) (h1 : q < wa.heap.size ∧ wa.heap.size ≤ q2 ∧ p < q) (hk : k ≤ 15) :
    LoopX wa ((put7 w3 q2 (.mk k [] 0 0 0 [x, x2]) (.slice (some ⟨w3.heap.size, 0, none⟩) 2 2)).alloc (twoB x v x2 v2)) p q q2 (.mk k [] 0 0 0 [x, x2]) (.slice (some ⟨w3.heap.size, 0, none⟩) 2 2) s2 := by
  have hq2 : q2 < w2.heap.size := (Array.getElem?_eq_some_iff.1 h.var).1
  have hs1 := hb.size
  have hs2 := hX.kq.size
  have k1 : Kq (fun j => j = p) w2 w3 := (Kq.of hb).andThen hX.kq (fun _ _ h => h)
  have k2 := put7_kq w3 q2 (.mk k [] 0 0 0 [x, x2]) (.slice (some ⟨w3.heap.size, 0, none⟩) 2 2)
  have hv3 := blockK k1 h.var (by omega)
  have hV := put7_var hv3 (.mk k [] 0 0 0 [x, x2]) (.slice (some ⟨w3.heap.size, 0, none⟩) 2 2)
  have hsz : (put7 w3 q2 (.mk k [] 0 0 0 [x, x2]) (.slice (some ⟨w3.heap.size, 0, none⟩) 2 2)).heap.size = w3.heap.size := by unfold put7; simp [World.setCell]
  have hn := palloc_new (put7 w3 q2 (.mk k [] 0 0 0 [x, x2]) (.slice (some ⟨w3.heap.size, 0, none⟩) 2 2)) (twoB x v x2 v2)
  have k3 : Below w3.heap.size (put7 w3 q2 (.mk k [] 0 0 0 [x, x2]) (.slice (some ⟨w3.heap.size, 0, none⟩) 2 2)) ((put7 w3 q2 (.mk k [] 0 0 0 [x, x2]) (.slice (some ⟨w3.heap.size, 0, none⟩) 2 2)).alloc (twoB x v x2 v2)) := (Below.refl _ _).alloc (by omega) _
  generalize put7 w3 q2 (.mk k [] 0 0 0 [x, x2]) (.slice (some ⟨w3.heap.size, 0, none⟩) 2 2) = W4 at *
  have k4 : Kq (fun j => j = q2) w3 (W4.alloc (twoB x v x2 v2)) := k2.andThen (Kq.of (by rw [hsz]; exact k3)) (fun _ _ h => h)
  rw [hsz] at hn
  refine ⟨blockK (Kq.of (S := fun _ => False) (by rw [hsz]; exact k3)) hV (fun h => h), blockK k4 (blockK k1 h.res (by omega)) (by omega), ?_, fun e => ?_, hX.pv.kept k4 (fun j e => by omega), (h.kq.andThen k1 (fun _ _ h => h)).andThen k4 (fun j hj e => by omega)⟩
  · refine exV.two ((h.ex.kept k1 (fun j hj _ e => by omega)).kept k4 (fun j hj _ e => hj.2 e)) ((hX.ex.kept k4 (fun j hj _ e => by omega)).mono (fun j hj => ⟨by omega, by omega⟩) (fun _ _ _ h => h)) hn ⟨by omega, by omega⟩ (Nat.le_refl 2)
  · exact absurd e (by show ¬ k = 20; omega)
set_option maxRecDepth 100000 in
set_option maxHeartbeats 4000000 in
theorem pexpr_loop (num : List Nat → Option Int) (W0 : World) (n p g : Nat) (s : PS) (w : World) (xr : Ex) (sr : PS) (hQ : PQ W0 w p s) (hG : EnvG W0) (hg6 : g ≠ 6) (hg8 : g < 8) (hE : ∀ m, m ≤ n → ExprC num W0 m) (hr : (exprP num n (g + 1) s).bind (fun e s => opsP num n g e s) = .ok xr sr) :
    Calls Tryz.prog 26 #[.pointer (some ⟨p, 0, none⟩), .int .i64 (g : Nat)] w (outX p w xr sr) := by
  have HB := hide ((Below.refl w.heap.size w).alloc (Nat.le_refl _) expr0)
  have HPL := hide hQ.pv.lt
  have HQ := hide (hQ.alloc expr0)
  have HE := hide hE
  have HG := hide hG
  have n6 : ((g : Int) == 6) = false := beq_false_of_ne (by omega)
  have n8 : ((g : Int) == 8) = false := beq_false_of_ne (by omega)
  have n9 : (g : Int) < 8 := by omega
  have n10 : (0 : Int) ≤ (g : Int) := by omega
  have n11 : IntKind.i64.wrap ((g : Int) + 1) = (g : Int) + 1 := by rw [IntKind.wrap_i64]; omega
  have HN := hide (show ((g : Int) + 1) = ((g + 1 : Nat) : Int) by omega)
  have HG8 := hide (show g + 1 ≤ 8 by omega)
  clear hQ hE hG hg6 hg8
  cases h1 : exprP num n (g + 1) s with
  | out => rw [h1, PR.bind_out] at hr; cases hr
  | fail => rw [h1, PR.bind_fail] at hr; cases hr
  | ok x s1 =>
    have hc := (unhide HE) n (Nat.le_refl _) p (g + 1) ((g : Int) + 1) s _ x s1 (unhide HN) (unhide HG8) (unhide HQ) h1
    rw [h1, PR.bind_ok] at hr
    have HC := hide hc
    have HR := hide hr
    clear hc hr h1
    go_enter Tryz.func26, Tryz.ntmps26
    go_wp2_with fail
    refine (unhide HC).mono ?_
    rintro e w1 ⟨al, c, rfl, r2⟩
    have hq1 := blockK r2.kq (palloc_new w expr0) (by have := unhide HPL; omega)
    have hsa : (w.alloc expr0).heap.size = w.heap.size + 1 := by simp
    have hsz := r2.kq.size
    have HW1 := hide r2
    -- the variable
    have hq2 : (w1.alloc expr0).heap[w1.heap.size]? = some expr0 := palloc_new w1 expr0
    have hlp : LoopX (w.alloc expr0) (put7 (w1.alloc expr0) w1.heap.size x (.slice al x.kids.length c)) p w.heap.size w1.heap.size x (.slice al x.kids.length c) s1 := by
      have hk := (Kq.of (S := fun j => j = w1.heap.size) ((Below.refl w1.heap.size w1).alloc (Nat.le_refl _) expr0)).andThen (put7_kq (w1.alloc expr0) w1.heap.size x (.slice al x.kids.length c)) (fun _ _ h => h)
      refine ⟨put7_var hq2 _ _, blockK hk hq1 (by omega), ?_, r2.fl.kept hk (fun j hj _ e => by omega), r2.pv.kept hk (fun j e => by have := unhide HPL; omega), r2.kq.andThen hk (fun j hj e => by omega)⟩
      exact (r2.ex.bound.mono (S' := fun j => (w.alloc expr0).heap.size ≤ j ∧ j ≠ w1.heap.size) (fun j hj => ⟨hj.1, by omega⟩) (fun _ _ _ h => h)).kept hk (fun j hj _ e => hj.2 e)
    have HL := hide hlp
    obtain ⟨a0, a1, a2, a3, a4, a5, a6⟩ := var_cells hq2
    obtain ⟨o0, o1, o2, o3, o4, o5, o6⟩ := var_opens hq2
    have HSA := hide (show w.heap.size < (w.alloc expr0).heap.size ∧ (w.alloc expr0).heap.size ≤ w1.heap.size ∧ p < w.heap.size from ⟨by omega, by omega, unhide HPL⟩)
    clear r2 hq1 hq2 hlp hsa hsz HC
    generalize hwa : w.alloc expr0 = wa at *
    clear hwa
    generalize hw1 : w1.alloc expr0 = wb at *
    generalize hq : w.heap.size = q at HL HSA HB ⊢
    have HB2 : Hid (Below q w wa ∧ w.heap.size = q) := hide ⟨unhide HB, hq⟩
    clear hq
    generalize hq2 : w1.heap.size = q2 at *
    go_wp2_with fail
    obtain ⟨W3, e3⟩ : ∃ W3, put7 wb q2 x (.slice al x.kids.length c) = W3 := ⟨_, rfl⟩
    have e4 := e3
    unfold put7 at e4
    rw [e4]
    rw [e3] at HL
    clear e3 e4 a0 a1 a2 a3 a4 a5 a6 o0 o1 o2 o3 o4 o5 o6 hw1
    go_loopg [6] n (fun gk u6 wr => gk ≤ n ∧ ∃ (x : Ex) (al : Option Addr) (c : Nat) (s : PS), Hid (opsP num gk g x s = .ok xr sr) ∧ Hid (LoopX wa wr p q q2 x (.slice al x.kids.length c) s))
    case atStart => exact ⟨Nat.le_refl _, x, al, c, s1, HR, HL⟩
    case round =>
      obtain ⟨hgn, x, al, c, s1, HR1, HL1⟩ := hrel
      clear HL HR HW1
      have HGN := hide hgn
      clear hgn
      cases gk with
      | zero =>
        have := unhide HR1
        rw [opsP] at this
        cases this
      | succ m =>
        obtain ⟨s3, s4, s5⟩ := unhide HSA
        have hpq : PQ W0 wr p s1 := (unhide HQ).go (unhide HL1).kq (unhide HL1).pv
        have hop := poperOf_any p g s1 wr hpq.pv ((unhide HG).below hpq.bel)
        have HPQ := hide hpq
        have HPG := hide (fun w' (hk : Kq (fun j => j = p) wr w') (hv : PV w' p (popIf (operOf g s1).isSome s1)) => (unhide HL1).go hk hv s5 s3 s4)
        have hr1 := unhide HR1
        rw [opsP] at hr1
        clear hpq s3 s4 s5
        cases hop1 : operOf g s1 with
        | none =>
          rw [hop1] at hop hr1
          obtain ⟨hx1, hx2⟩ : x = xr ∧ s1 = sr := by cases hr1; exact ⟨rfl, rfl⟩
          subst hx1 hx2
          rw [hop1] at HPG
          simp only [noV] at hop
          have HOP := hide hop
          clear hop hr1 hop1 HR1
          go_wp2_with fail
          refine (unhide HOP).mono ?_
          rintro e w2 ⟨rfl, r1, r2⟩
          have hL2 := unhide HPG w2 r2 r1
          clear r1 r2 HPG HOP
          obtain ⟨a0, a1, a2, a3, a4, a5, a6⟩ := var_cells hL2.var
          obtain ⟨b0, b1, b2, b3, b4, b5, b6⟩ := var_cells hL2.res
          obtain ⟨o0, o1, o2, o3, o4, o5, o6⟩ := var_opens hL2.res
          have HL2 := hide hL2
          clear hL2
          go_wp2_with fail
          have hL2 := unhide HL2
          have hV := put7_var hL2.res x (.slice al x.kids.length c)
          have hX := hL2.put (unhide HSA) (unhide HB2)
          obtain ⟨W4, e3⟩ : ∃ W4, put7 w2 q x (.slice al x.kids.length c) = W4 := ⟨_, rfl⟩
          have e4 := e3
          unfold put7 at e4
          rw [e4]
          rw [e3] at hV hX
          clear a0 a1 a2 a3 a4 a5 a6 b0 b1 b2 b3 b4 b5 b6 o0 o1 o2 o3 o4 o5 o6 e3 e4 hL2
          obtain ⟨b0, b1, b2, b3, b4, b5, b6⟩ := var_cells hV
          have HX := hide hX
          clear hX hV
          refine bodyPost_ret (v := exAgg x (.slice al x.kids.length c)) (by simp [results, Tryz.results26, go_sem, b0, b1, b2, b3, b4, b5, b6]) rfl ?_
          exact ⟨al, c, rfl, unhide HX⟩
        | some k =>
          rw [hop1] at hop hr1
          rw [hop1] at HPG
          simp only [noV, Int.zero_add] at hop
          have hk15 := oper_low hop1
          have HOP := hide hop
          clear hop hop1 HR1
          go_wp2_with fail
          refine (unhide HOP).mono ?_
          rintro e w2 ⟨rfl, r1, r2⟩
          have hL2 := unhide HPG w2 r2 r1
          have HHR := hide hr1
          clear r1 r2 HPG HOP hr1
          have HL2 := hide hL2
          have HQ2 := hide ((unhide HQ).go hL2.kq hL2.pv)
          have hlt2 : q2 < w2.heap.size := (Array.getElem?_eq_some_iff.1 hL2.var).1
          obtain ⟨a0, a1, a2, a3, a4, a5, a6⟩ := var_cells hL2.var
          have HK15 := hide hk15
          have HLT2 := hide hlt2
          clear hL2 hk15 hlt2
          cases h2 : exprP num m (g + 1) s1.pop with
          | out => have := unhide HHR; rw [h2, PR.bind_out] at this; cases this
          | fail => have := unhide HHR; rw [h2, PR.bind_fail] at this; cases this
          | ok x2 s2 =>
            have HC2 := hide (fun w' (hb : Below w2.heap.size w2 w') => (unhide HE) m (by have := unhide HGN; omega) p (g + 1) ((g : Int) + 1) s1.pop w' x2 s2 (unhide HN) (unhide HG8) ((unhide HQ2).below hb) h2)
            have HHR2 := hide (show opsP num m g (.mk k [] 0 0 0 [x, x2]) s2 = .ok xr sr from by have := unhide HHR; rw [h2, PR.bind_ok] at this; exact this)
            clear HHR h2
            go_wp2_with fail
            go_region_law (first
              | (go_simp; go_at_call 26; refine (unhide HC2 _ (by repeat (first | exact Below.refl _ _ | refine Below.drew ?_))).mono ?_; rintro e w3 ⟨al3, c3, rfl, r2⟩; (have HDB := hide ((Below.refl w2.heap.size w2).drew)); (have hv3 := blockK r2.kq (unhide HL2).var (by have := unhide HSA; omega)); (obtain ⟨d0, d1, d2, d3, d4, d5, d6⟩ := var_cells hv3); (obtain ⟨o0, o1, o2, o3, o4, o5, o6⟩ := var_opens hv3); (have hlt3 : q2 < w3.heap.size := (Array.getElem?_eq_some_iff.1 hv3).1); (have HV3 := hide hv3); (have HK3 := hide r2); clear r2 hv3))
            all_goals
              have hL5 := (unhide HL2).op (unhide HDB) (unhide HK3) (unhide HSA) (unhide HK15)
              have HL5 := hide hL5
              clear hL5
              go_wp2_with fail
              go_roundg m
              case measure => omega
              case rel => exact ⟨by have := unhide HGN; omega, .mk k [] 0 0 0 [x, x2], _, _, s2, HHR2, HL5⟩
end Go.Proofs.YthkkfldmoflfaaaGreatDoor
/- An expression of a grammar, three: the step from fuel to fuel; xparse's negative. -/
namespace Go.Proofs.YthkkfldmoflfaaaGreatDoor
open Go.RowKit
theorem pexpr_step (num : List Nat → Option Int) (W0 : World) (n : Nat) (hG : EnvG W0) (hN : NegC num W0 n) (hP : PathC num W0 n) (hE : ∀ m, m ≤ n → ExprC num W0 m) : ExprC num W0 (n + 1) := by
  intro p g gi s w x s' hgi hg8 hQ hr
  subst hgi
  rw [exprP] at hr
  by_cases h6 : g = 6
  · rw [if_pos h6] at hr
    exact pexpr_pass W0 p g s s' x w hQ (.inl ⟨h6, fun w' h => hN p s w' x s' h hr⟩)
  · rw [if_neg h6] at hr
    by_cases h8 : g = 8
    · rw [if_pos h8] at hr
      exact pexpr_pass W0 p g s s' x w hQ (.inr ⟨h8, fun w' h => hP p s w' x s' h hr⟩)
    · rw [if_neg h8] at hr
      exact pexpr_loop num W0 n p g s w x s' hQ hG h6 (by omega) hE hr
theorem alloc_lt9 (w : World) (o : Obj) : w.heap.size < (w.alloc o).heap.size := by simp
theorem exV.one {w : World} {S : Nat → Prop} {g k c : Nat} {x : Ex} {v : Value} (h : exV w S x v) (hg : w.heap[g]? = some (.cells #[.int .i64 (x.op : Nat), .string (T x.text), .int .i64 0, .int .i64 x.num, .int .i64 (x.axis : Nat), .int .i64 (x.test : Nat), v] 32 (0, 0))) (hS : S g) (hc : 1 ≤ c := by decide) : exV w S (.mk k [] 0 0 0 [x]) (.slice (some ⟨g, 0, none⟩) 1 c) := by
  refine ⟨(fun c hc => by cases hc), exCells x v, ⟨⟨_, _, rfl, hc⟩, fun _ => ⟨g, 0, c, rfl, hS, (Array.getElem?_eq_some_iff.1 hg).1, fun i u hu => ?_⟩⟩, kidsIn.single h.inn⟩
  rw [Nat.zero_add, pcell hg i]
  simpa [exCells] using hu
/-- What a call leaves that has stored an expression into its result's variable. -/
theorem XOk.ret {w W : World} {p q B : Nat} {x : Ex} {v : Value} {s : PS} (hex : exV W (fun j => w.heap.size ≤ j ∧ j ≠ q) x v) (hfl : exF W B v x) (hpv : PV W p s) (hk : Kq (fun j => j = p) w W) (hq : w.heap.size ≤ q) (hB : q < B) (hp : p < w.heap.size) : XOk w (put7 W q x v) p x v s := by
  have k9 := put7_kq W q x v
  exact ⟨(hex.kept k9 (fun j hj _ e => hj.2 e)).mono (fun j hj => hj.1) (fun _ _ _ h => h), fun e => by
    obtain ⟨xs, h2⟩ := hfl e
    exact ⟨xs, (h2.kept k9 (fun j _ hj e => by omega)).base (by omega)⟩, hpv.kept k9 (fun j e => by omega), hk.andThen k9 (fun j hj e => by omega)⟩
theorem XOk.put2 {w w1 w' : World} {p q : Nat} {x : Ex} {v : Value} {s : PS} (h : XOk w1 w' p x v s) (hk : Kq (fun j => j = p) w w1) (hq : w.heap.size ≤ q) (hq1 : q < w1.heap.size) (hpq : p < w.heap.size) : XOk w (put7 w' q x v) p x v s := by
  have k9 := put7_kq w' q x v
  have hs := hk.size
  exact ⟨(h.ex.kept k9 (fun j hj _ e => by omega)).mono (fun j hj => by omega) (fun _ _ _ h => h), fun e => by
    obtain ⟨xs, h2⟩ := h.fl e
    exact ⟨xs, (h2.kept k9 (fun j _ hj e => by omega)).base (by omega)⟩, h.pv.kept k9 (fun j e => by omega), (hk.andThen h.kq (fun _ _ h => h)).andThen k9 (fun j hj e => by omega)⟩
/-- An expression in a new block. -/
abbrev oneB (x : Ex) (v : Value) : Obj := .cells #[.int .i64 (x.op : Nat), .string (T x.text), .int .i64 0, .int .i64 x.num, .int .i64 (x.axis : Nat), .int .i64 (x.test : Nat), v] 32
set_option maxRecDepth 100000 in
set_option maxHeartbeats 4000000 in
theorem pneg_step (num : List Nat → Option Int) (W0 : World) (n : Nat) (hN : NegC num W0 n) (hE : ExprC num W0 n) : NegC num W0 (n + 1) := by
  intro p s w x s' hQ hr
  rw [negP] at hr
  have HB := hide ((Below.refl w.heap.size w).alloc (Nat.le_refl _) expr0)
  have HPL := hide hQ.pv.lt
  have HQ := hide (hQ.alloc expr0)
  have HE := hide hE
  have HN := hide hN
  clear hQ hE hN
  cases h1 : headIs 8 [45] s with
  | true =>
    rw [h1, if_pos rfl] at hr
    cases h2 : negP num n s.pop with
    | out => rw [h2, PR.bind_out] at hr; cases hr
    | fail => rw [h2, PR.bind_fail] at hr; cases hr
    | ok x1 s1 =>
      rw [h2, PR.bind_ok] at hr
      cases hr
      go_enter Tryz.func46, Tryz.ntmps46
      go_wp2_with fail
      refine (poperator_at (unhide HQ).pv (t := [45]) (okL_p rfl) rfl h1).mono ?_
      rintro e w1 ⟨rfl, r1, r2⟩
      have HQ1 : Hid (PQ W0 w1 p s.pop) := hide ((unhide HQ).go r2 r1)
      have HK1 := hide r2
      clear r1 r2
      have HC := hide ((unhide HN) p s.pop w1 x1 s' (unhide HQ1) h2)
      go_wp2_with fail
      refine (unhide HC).mono ?_
      rintro e w2 ⟨al, c, rfl, r2⟩
      have HX := hide r2
      have hq0 := blockK r2.kq (blockK (unhide HK1) (palloc_new w expr0) (by have := unhide HPL; omega)) (by have := unhide HPL; omega)
      have hb3 : Below w2.heap.size w2 (w2.alloc (oneB x1 (.slice al x1.kids.length c))) := (Below.refl _ _).alloc (Nat.le_refl _) _
      have hn3 := palloc_new w2 (oneB x1 (.slice al x1.kids.length c))
      have hq1 := blockK (Kq.of (S := fun _ => False) hb3) hq0 (fun h => h)
      generalize hg2 : w2.heap.size = g2 at hn3
      obtain ⟨W3, e3⟩ : ∃ W3, w2.alloc (oneB x1 (.slice al x1.kids.length c)) = W3 := ⟨_, rfl⟩
      rw [e3] at hb3 hn3 hq1
      generalize hq : w.heap.size = q at hq1 hq0 ⊢
      have HQQ := hide hq
      have HG2 := hide hg2
      have HQ1 := hide hq1
      have HN3 := hide hn3
      have HB3 := hide hb3
      obtain ⟨a0, a1, a2, a3, a4, a5, a6⟩ := var_cells hq1
      obtain ⟨o0, o1, o2, o3, o4, o5, o6⟩ := var_opens hq1
      clear r2 hq1 hq0 hq HC hn3 hb3
      go_wp2_with fail
      have hx2 := unhide HX
      have hs2 := hx2.kq.size
      have hs1 := (unhide HK1).size
      have hs0 := (unhide HB).size
      have hg2 := unhide HG2
      have hqq := unhide HQQ
      have hpl := unhide HPL
      have hsa : (w.alloc expr0).heap.size = w.heap.size + 1 := by simp
      have hV := put7_var (unhide HQ1) (.mk 14 [] 0 0 0 [x1]) (.slice (some ⟨g2, 0, none⟩) 1 1)
      have hX := XOk.ret (w := w) (q := q) (B := w.heap.size + 1) (exV.one (k := 14) (c := 1) ((hx2.ex.kept (Kq.of (S := fun _ => False) (unhide HB3)) (fun _ _ _ h => h)).mono (S' := fun j => w.heap.size ≤ j ∧ j ≠ q) (fun j hj => ⟨by omega, by omega⟩) (fun _ _ _ h => h)) (unhide HN3) ⟨by omega, by omega⟩) (fun e => by cases e) (hx2.pv.below (unhide HB3)) ((((Kq.of (unhide HB)).andThen (unhide HK1) (fun _ _ h => h)).andThen hx2.kq (fun _ _ h => h)).andThen (Kq.of (S := fun j => j = p) (unhide HB3)) (fun _ _ h => h)) (by omega) (by omega) (by omega)
      change bodyPost _ _ _ _ _ (put7 W3 q (.mk 14 [] 0 0 0 [x1]) (.slice (some ⟨g2, 0, none⟩) 1 1))
      obtain ⟨W9, e9⟩ : ∃ W9, put7 W3 q (.mk 14 [] 0 0 0 [x1]) (.slice (some ⟨g2, 0, none⟩) 1 1) = W9 := ⟨_, rfl⟩
      rw [e9]
      rw [e9] at hV hX
      obtain ⟨b0, b1, b2, b3, b4, b5, b6⟩ := var_cells hV
      have HX9 := hide hX
      clear hX hV e9
      refine bodyPost_ret (v := exAgg (.mk 14 [] 0 0 0 [x1]) (.slice (some ⟨g2, 0, none⟩) 1 1)) (by simp [results, Tryz.results46, go_sem, b0, b1, b2, b3, b4, b5, b6]) rfl ?_
      exact ⟨_, _, rfl, unhide HX9⟩
  | false =>
    rw [h1, if_neg (by decide)] at hr
    go_enter Tryz.func46, Tryz.ntmps46
    go_wp2_with fail
    refine (poperator_at (unhide HQ).pv (t := [45]) (okL_p rfl) rfl h1).mono ?_
    rintro e w1 ⟨rfl, r1, r2⟩
    have HQ1 : Hid (PQ W0 w1 p s) := hide ((unhide HQ).go r2 r1)
    have HK1 := hide r2
    clear r1 r2
    have HC := hide ((unhide HE) p 7 7 s w1 x s' rfl (by decide) (unhide HQ1) hr)
    go_wp2_with fail
    refine (unhide HC).mono ?_
    rintro e w2 ⟨al, c, rfl, r2⟩
    have HKW := hide ((Kq.of (S := fun j => j = p) (unhide HB)).andThen (unhide HK1) (fun _ _ h => h))
    have hq1 := blockK r2.kq (blockK (unhide HK1) (palloc_new w expr0) (by have := unhide HPL; omega)) (by have := unhide HPL; omega)
    have hX := XOk.put2 r2 (q := w.heap.size) (unhide HKW) (Nat.le_refl _) (Nat.lt_of_lt_of_le (alloc_lt9 w expr0) (unhide HK1).size) (unhide HPL)
    generalize hq : w.heap.size = q at hq1 hX ⊢
    have HQ1 := hide hq1
    have HXX := hide hX
    obtain ⟨a0, a1, a2, a3, a4, a5, a6⟩ := var_cells hq1
    obtain ⟨o0, o1, o2, o3, o4, o5, o6⟩ := var_opens hq1
    clear r2 hq1 hX hq
    go_wp2_with fail
    have hV := put7_var (unhide HQ1) (x) (.slice al x.kids.length c)
    have hX := unhide HXX
    change bodyPost _ _ _ _ _ (put7 w2 q (x) (.slice al x.kids.length c))
    obtain ⟨W9, e9⟩ : ∃ W9, put7 w2 q (x) (.slice al x.kids.length c) = W9 := ⟨_, rfl⟩
    rw [e9]
    rw [e9] at hV hX
    obtain ⟨b0, b1, b2, b3, b4, b5, b6⟩ := var_cells hV
    have HX9 := hide hX
    clear hX hV e9
    refine bodyPost_ret (v := exAgg (x) (.slice al x.kids.length c)) (by simp [results, Tryz.results46, go_sem, b0, b1, b2, b3, b4, b5, b6]) rfl ?_
    exact ⟨_, _, rfl, unhide HX9⟩
end Go.Proofs.YthkkfldmoflfaaaGreatDoor
