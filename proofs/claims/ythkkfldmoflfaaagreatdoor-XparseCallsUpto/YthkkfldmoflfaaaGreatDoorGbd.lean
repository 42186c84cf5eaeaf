/- Several texts, laid as one. -/
import Derived.Test.YthkkfldmoflfaaaGreatDoorParL
import Derived.Test.YthkkfldmoflfaaaGreatDoorGaz
/- All of the parser's functions, at so much fuel. -/
namespace Go.Proofs.YthkkfldmoflfaaaGreatDoor
open Go.RowKit Go.Maps
structure PAll (W0 : World) (n : Nat) : Prop where
  expr : ExprC numP W0 n
  neg : NegC numP W0 n
  path : PathC numP W0 n
  step : StepC numP W0 n
  filt : FiltC numP W0 n
  prim : PrimC numP W0 n
  br : BrC numP W0 n
  args : ArgsC numP W0 n
  more : MoreC numP W0 n
  preds : PredsC numP W0 n
theorem PAll.zero (W0 : World) : PAll W0 0 where
  expr := fun p g gi s w x s' _ _ _ h => by rw [exprP] at h; cases h
  neg := fun p s w x s' _ h => by rw [negP] at h; cases h
  path := fun p s w x s' _ h => by rw [pathP] at h; cases h
  step := fun p s w x s' _ h => by rw [stepP] at h; cases h
  filt := fun p s w x s' _ h => by rw [filtP] at h; cases h
  prim := fun p s w x s' _ h => by rw [primP] at h; cases h
  br := fun p s w x s' _ _ h => by rw [brP] at h; cases h
  args := fun p s w x s' _ h => by rw [argsP] at h; cases h
  more := fun p B al c ks xs s w ks' s' _ _ _ _ _ h => by rw [moreP] at h; cases h
  preds := fun p B al c ks xs s w ks' s' _ _ _ _ _ h => by rw [predsP] at h; cases h
theorem PAll.succ (W0 : World) (hG : EnvG W0) (n : Nat) (hn : n ≤ 90000) (h : ∀ m, m ≤ n → PAll W0 m) : PAll W0 (n + 1) :=
  have g := h n (Nat.le_refl n)
  { expr := pexpr_step numP W0 n hG g.neg g.path (fun m hm => (h m hm).expr)
    neg := pneg_step numP W0 n g.neg g.expr
    path := ppath_step W0 n hn g.step g.more g.filt
    step := pstep_step numP W0 n hG g.preds hn
    filt := pfilt_step W0 n hn g.prim g.preds
    prim := pprim_step W0 n hG g.br g.args
    br := pbr_step numP W0 n g.expr
    args := pargs_step numP W0 n hn (fun m hm => (h m hm).expr)
    more := pmore_step numP W0 n (fun m hm => (h m hm).step)
    preds := ppreds_step numP W0 n (fun m hm => (h m hm).expr) }
theorem pall (W0 : World) (hG : EnvG W0) : ∀ n, n ≤ 90001 → ∀ m, m ≤ n → PAll W0 m
  | 0, _, m, hm => by
    obtain rfl : m = 0 := by omega
    exact PAll.zero W0
  | n + 1, hn, m, hm => by
    by_cases e : m = n + 1
    · subst e
      exact PAll.succ W0 hG n (by omega) (pall W0 hG n (by omega))
    · exact pall W0 hG n (by omega) m (by omega)
/-- An expression is read as the plain parser reads it, where that finds one. -/
theorem pexpr_all (W0 : World) (hG : EnvG W0) (n : Nat) (hn : n ≤ 90001) : ExprC numP W0 n := (pall W0 hG n hn n (Nat.le_refl n)).expr
end Go.Proofs.YthkkfldmoflfaaaGreatDoor
/- Where xparse's parser gives up: the contracts; negative, inBrackets, step, primary. -/
namespace Go.Proofs.YthkkfldmoflfaaaGreatDoor
open Go.RowKit Go.Maps
/-- What a call leaves that gives up. -/
def outF (p : Nat) (w : World) (e : Ending) (w' : World) : Prop := e = gaveUp ∧ Kq (fun j => j = p) w w'
def outFK (p : Nat) (w : World) (v : Value) (e : Ending) (w' : World) : Prop := e = gaveUp ∧ Kq (fun j => j = p ∨ v.ownBlock = some j) w w'
section
variable (W0 : World) (n : Nat)
def ExprF : Prop := ∀ (p g : Nat) (gi : Int) (s : PS) (w : World), gi = (g : Nat) → g ≤ 8 → PQ W0 w p s → exprP numP n g s = .fail → Calls Tryz.prog 26 #[.pointer (some ⟨p, 0, none⟩), .int .i64 gi] w (outF p w)
def NegF : Prop := ∀ (p : Nat) (s : PS) (w : World), PQ W0 w p s → negP numP n s = .fail → Calls Tryz.prog 46 #[.pointer (some ⟨p, 0, none⟩)] w (outF p w)
def PathF : Prop := ∀ (p : Nat) (s : PS) (w : World), PQ W0 w p s → pathP numP n s = .fail → Calls Tryz.prog 47 #[.pointer (some ⟨p, 0, none⟩)] w (outF p w)
def StepF : Prop := ∀ (p : Nat) (s : PS) (w : World), PQ W0 w p s → stepP numP n s = .fail → Calls Tryz.prog 80 #[.pointer (some ⟨p, 0, none⟩)] w (outF p w)
def FiltF : Prop := ∀ (p : Nat) (s : PS) (w : World), PQ W0 w p s → filtP numP n s = .fail → Calls Tryz.prog 82 #[.pointer (some ⟨p, 0, none⟩)] w (outF p w)
def PrimF : Prop := ∀ (p : Nat) (s : PS) (w : World), PQ W0 w p s → primP numP n s = .fail → Calls Tryz.prog 113 #[.pointer (some ⟨p, 0, none⟩)] w (outF p w)
def BrF : Prop := ∀ (p : Nat) (s : PS) (w : World), PQ W0 w p s → s.opn + s.left.length < 100000 → brP numP n s = .fail → Calls Tryz.prog 130 #[.pointer (some ⟨p, 0, none⟩)] w (outF p w)
def ArgsF : Prop := ∀ (p : Nat) (s : PS) (w : World), PQ W0 w p s → argsP numP n s = .fail → Calls Tryz.prog 132 #[.pointer (some ⟨p, 0, none⟩)] w (outF p w)
def MoreF : Prop := ∀ (p B : Nat) (al : Option Addr) (c : Nat) (ks : List Ex) (xs : List Value) (s : PS) (w : World), PQ W0 w p s → p < B → B ≤ w.heap.size → KRow w B (.slice al ks.length c) ks xs → ks.length + 2 * n ≤ 2000000 → moreP numP n ks s = .fail → Calls Tryz.prog 83 #[.pointer (some ⟨p, 0, none⟩), .slice al ks.length c] w (outFK p w (.slice al ks.length c))
def PredsF : Prop := ∀ (p B : Nat) (al : Option Addr) (c : Nat) (ks : List Ex) (xs : List Value) (s : PS) (w : World), PQ W0 w p s → p < B → B ≤ w.heap.size → KRow w B (.slice al ks.length c) ks xs → ks.length + 2 * n ≤ 2000000 → predsP numP n ks s = .fail → Calls Tryz.prog 112 #[.pointer (some ⟨p, 0, none⟩), .slice al ks.length c] w (outFK p w (.slice al ks.length c))
end
set_option maxRecDepth 100000 in
set_option maxHeartbeats 1000000 in
theorem pneg_fail (W0 : World) (n : Nat) (hN : NegF W0 n) (hE : ExprF W0 n) : NegF W0 (n + 1) := by
  intro p s w hQ hr
  have HN := hide hN
  have HE := hide hE
  clear hN hE
  have HV0 := hide (hQ.alloc expr0).pv
  have HQ := hide (hQ.alloc expr0)
  have HPL := hide hQ.pv.lt
  have HR0 := hide (palloc_new w expr0)
  have HB := hide ((Below.refl w.heap.size w).alloc (Nat.le_refl _) expr0)
  have HK0 := hide (Kq.refl (fun j => j = p) (w.alloc expr0))
  rw [negP] at hr
  clear hQ
  cases h1 : headIs 8 [45] s with
  | true =>
    rw [h1, if_pos rfl] at hr
    cases h2 : negP numP n s.pop with
    | out => rw [h2, PR.bind_out] at hr; cases hr
    | ok x1 s1 => rw [h2, PR.bind_ok] at hr; cases hr
    | fail =>
      go_enter Tryz.func46, Tryz.ntmps46
      go_wp2_with fail
      refine (poperator_at (unhide HV0) (t := [45]) (okL_p rfl) rfl h1).mono ?_
      rintro e w1 ⟨rfl, r1, r2⟩
      have HV1 : Hid (PV w1 p s.pop) := hide r1
      have HK1 := hide ((unhide HK0).andThen r2 (fun _ _ h => h))
      clear r1 r2
      have HC := hide ((unhide HN) p s.pop w1 ((unhide HQ).go (unhide HK1) (unhide HV1)) h2)
      go_wp2_with fail
      refine (unhide HC).mono ?_
      rintro e w9 ⟨rfl, r2⟩
      have HK9 := hide (((Kq.of (S := fun j => j = p) (unhide HB)).andThen (unhide HK1) (fun _ _ h => h)).andThen r2 (fun _ _ h => h))
      clear r2 HC
      go_wp2_with fail
      exact ⟨rfl, rfl, unhide HK9⟩
  | false =>
    rw [h1, if_neg (by decide)] at hr
    go_enter Tryz.func46, Tryz.ntmps46
    go_wp2_with fail
    refine (poperator_at (unhide HV0) (t := [45]) (okL_p rfl) rfl h1).mono ?_
    rintro e w1 ⟨rfl, r1, r2⟩
    have HV1 : Hid (PV w1 p s) := hide r1
    have HK1 := hide ((unhide HK0).andThen r2 (fun _ _ h => h))
    clear r1 r2
    have HC := hide ((unhide HE) p 7 7 s w1 rfl (by decide) ((unhide HQ).go (unhide HK1) (unhide HV1)) hr)
    go_wp2_with fail
    refine (unhide HC).mono ?_
    rintro e w9 ⟨rfl, r2⟩
    have HK9 := hide (((Kq.of (S := fun j => j = p) (unhide HB)).andThen (unhide HK1) (fun _ _ h => h)).andThen r2 (fun _ _ h => h))
    clear r2 HC
    go_wp2_with fail
    exact ⟨rfl, rfl, unhide HK9⟩
set_option maxRecDepth 100000 in
set_option maxHeartbeats 1000000 in
theorem pstep_fail (W0 : World) (n : Nat) (hG : EnvG W0) (hP : PredsF W0 n) (hn : n ≤ 90000) : StepF W0 (n + 1) := by
  intro p s w hQ hr
  have HG := hide hG
  have HP := hide hP
  clear hG hP
  have HV0 := hide (hQ.alloc expr0).pv
  have HQ := hide (hQ.alloc expr0)
  have HPL := hide hQ.pv.lt
  have HR0 := hide (palloc_new w expr0)
  have HB := hide ((Below.refl w.heap.size w).alloc (Nat.le_refl _) expr0)
  have HK0 := hide (Kq.refl (fun j => j = p) (w.alloc expr0))
  rw [stepP] at hr
  clear hQ
  cases h1 : headIs 9 [46] s with
  | true => rw [h1, if_pos rfl] at hr; cases hr
  | false =>
    rw [h1, if_neg (by decide)] at hr
    cases h2 : headIs 9 [46, 46] s with
    | true => rw [h2, if_pos rfl] at hr; cases hr
    | false =>
      rw [h2, if_neg (by decide)] at hr
      cases h3 : axisP s with
      | none =>
        go_enter Tryz.func80, Tryz.ntmps80
        go_wp2_with fail
        refine (psign_at (unhide HV0) (t := [46]) (okL_p rfl) rfl h1).mono ?_
        rintro e w1 ⟨rfl, r1, r2⟩
        have HV1 : Hid (PV w1 p s) := hide r1
        have HK1 := hide ((unhide HK0).andThen r2 (fun _ _ h => h))
        clear r1 r2
        go_wp2_with fail
        refine (psign_at (unhide HV1) (t := [46, 46]) (okL_p rfl) rfl h2).mono ?_
        rintro e w2 ⟨rfl, r1, r2⟩
        have HV2 : Hid (PV w2 p s) := hide r1
        have HK2 := hide ((unhide HK1).andThen r2 (fun _ _ h => h))
        clear r1 r2
        have hax := paxis_any p s w2 (unhide HV2) (fun w' hk => (unhide HG).below ((unhide HQ).belK ((unhide HK2).andThen hk (fun _ _ h => h))))
        rw [h3] at hax
        have HC := hide hax
        clear hax
        go_wp2_with fail
        refine (unhide HC).mono ?_
        rintro e w9 ⟨rfl, r2⟩
        have HK9 := hide (((Kq.of (S := fun j => j = p) (unhide HB)).andThen (unhide HK2) (fun _ _ h => h)).andThen r2 (fun _ _ h => h))
        clear r2 HC
        go_wp2_with fail
        exact ⟨rfl, rfl, unhide HK9⟩
      | some ax =>
        obtain ⟨a, s1⟩ := ax
        rw [h3] at hr
        simp only at hr
        cases h4 : testP s1 with
        | none =>
          go_enter Tryz.func80, Tryz.ntmps80
          go_wp2_with fail
          refine (psign_at (unhide HV0) (t := [46]) (okL_p rfl) rfl h1).mono ?_
          rintro e w1 ⟨rfl, r1, r2⟩
          have HV1 : Hid (PV w1 p s) := hide r1
          have HK1 := hide ((unhide HK0).andThen r2 (fun _ _ h => h))
          clear r1 r2
          go_wp2_with fail
          refine (psign_at (unhide HV1) (t := [46, 46]) (okL_p rfl) rfl h2).mono ?_
          rintro e w2 ⟨rfl, r1, r2⟩
          have HV2 : Hid (PV w2 p s) := hide r1
          have HK2 := hide ((unhide HK1).andThen r2 (fun _ _ h => h))
          clear r1 r2
          have hax := paxis_any p s w2 (unhide HV2) (fun w' hk => (unhide HG).below ((unhide HQ).belK ((unhide HK2).andThen hk (fun _ _ h => h))))
          rw [h3] at hax
          have HAX := hide hax
          clear hax
          go_wp2_with fail
          refine (unhide HAX).mono ?_
          rintro e w3 ⟨rfl, r1, r2⟩
          have HV3 : Hid (PV w3 p s1) := hide r1
          have HK3 := hide ((unhide HK2).andThen r2 (fun _ _ h => h))
          clear r1 r2
          have hte := ptest_any p s1 w3 (unhide HV3) (fun w' hk => (unhide HG).below ((unhide HQ).belK ((unhide HK3).andThen hk (fun _ _ h => h))))
          rw [h4] at hte
          have HC := hide hte
          clear hte
          go_wp2_with fail
          refine (unhide HC).mono ?_
          rintro e w9 ⟨rfl, r2⟩
          have HK9 := hide (((Kq.of (S := fun j => j = p) (unhide HB)).andThen (unhide HK3) (fun _ _ h => h)).andThen r2 (fun _ _ h => h))
          clear r2 HC
          go_wp2_with fail
          exact ⟨rfl, rfl, unhide HK9⟩
        | some te =>
          obtain ⟨t, tt, s2⟩ := te
          rw [h4] at hr
          simp only at hr
          cases h5 : predsP numP n [] s2 with
          | out => rw [h5, PR.bind_out] at hr; cases hr
          | ok ks s3 => rw [h5, PR.bind_ok] at hr; cases hr
          | fail =>
            go_enter Tryz.func80, Tryz.ntmps80
            go_wp2_with fail
            refine (psign_at (unhide HV0) (t := [46]) (okL_p rfl) rfl h1).mono ?_
            rintro e w1 ⟨rfl, r1, r2⟩
            have HV1 : Hid (PV w1 p s) := hide r1
            have HK1 := hide ((unhide HK0).andThen r2 (fun _ _ h => h))
            clear r1 r2
            go_wp2_with fail
            refine (psign_at (unhide HV1) (t := [46, 46]) (okL_p rfl) rfl h2).mono ?_
            rintro e w2 ⟨rfl, r1, r2⟩
            have HV2 : Hid (PV w2 p s) := hide r1
            have HK2 := hide ((unhide HK1).andThen r2 (fun _ _ h => h))
            clear r1 r2
            have hax := paxis_any p s w2 (unhide HV2) (fun w' hk => (unhide HG).below ((unhide HQ).belK ((unhide HK2).andThen hk (fun _ _ h => h))))
            rw [h3] at hax
            have HAX := hide hax
            clear hax
            go_wp2_with fail
            refine (unhide HAX).mono ?_
            rintro e w3 ⟨rfl, r1, r2⟩
            have HV3 : Hid (PV w3 p s1) := hide r1
            have HK3 := hide ((unhide HK2).andThen r2 (fun _ _ h => h))
            clear r1 r2
            have hte := ptest_any p s1 w3 (unhide HV3) (fun w' hk => (unhide HG).below ((unhide HQ).belK ((unhide HK3).andThen hk (fun _ _ h => h))))
            rw [h4] at hte
            have HTE := hide hte
            clear hte
            go_wp2_with fail
            refine (unhide HTE).mono ?_
            rintro e w4 ⟨_, rfl, r1, r2⟩
            have HV4 : Hid (PV w4 p s2) := hide r1
            have HK4 := hide ((unhide HK3).andThen r2 (fun _ _ h => h))
            clear r1 r2
            have HC := hide ((unhide HP) p w4.heap.size none 0 [] [] s2 w4 ((unhide HQ).go (unhide HK4) (unhide HV4)) (unhide HV4).lt (Nat.le_refl _) (KRow.nil _ _) (by simp; omega) h5)
            go_wp2_with fail
            refine (unhide HC).mono ?_
            rintro e w9 ⟨rfl, r2⟩
            have HK9 := hide (((Kq.of (S := fun j => j = p) (unhide HB)).andThen (unhide HK4) (fun _ _ h => h)).andThen r2 (fun j _ h => h.elim id (fun e => by cases e)))
            clear r2 HC
            go_wp2_with fail
            exact ⟨rfl, rfl, unhide HK9⟩
end Go.Proofs.YthkkfldmoflfaaaGreatDoor
