/- Several texts, laid as one. -/
import Derived.Test.YtnmcambbpgoodaaGreatDoorGag
import Derived.Test.YtnmcambbpgoodaaGreatDoorGah
import Derived.Test.YtnmcambbpgoodaaGreatDoorGak
/- The tokens that are left: xparse's tokens. -/
namespace Go.Proofs.YtnmcambbpgoodaaGreatDoor
open Go.RowKit
/-- Worlds behind one. -/
structure ClsP (W0 : World) (u : World) : Prop where
  bel : Below W0.heap.size W0 u
theorem pcell {w : World} {p : Nat} {c : Array Value} {t : TypeId} {z : Nat × Nat} (h : w.heap[p]? = some (.cells c t z)) (i : Nat) : w.cell? ⟨p, i, none⟩ = c[i]? := by simp [World.cell?, h]
theorem popen {w : World} {p : Nat} {c : Array Value} {t : TypeId} (h : w.heap[p]? = some (.cells c t (0, 0))) (i : Nat) : w.frozen? ⟨p, i, none⟩ = false := by simp [World.frozen?, h]
theorem pset {w : World} {p : Nat} {c : Array Value} {t : TypeId} {z : Nat × Nat} (h : w.heap[p]? = some (.cells c t z)) (i : Nat) (v : Value) :
    (w.setCell ⟨p, i, none⟩ v).heap[p]? = some (.cells (c.setIfInBounds i v) t z) := by simp [World.setCell, Array.getElem?_modify, h]
theorem pkept {w w' : World} {p : Addr} {v : Value} (hb : Below w.heap.size w w') (h : w.cell? p = some v) : w'.cell? p = some v := by
  rw [hb.cell (block_lt_of_cell h)]; exact h
theorem T_eq2 {a b : List Nat} (ha : okL a) (hb : okL b) : ((T a).toList == (T b).toList) = (a == b) := by
  rw [T_toList, T_toList, Bool.eq_iff_iff, beq_iff_eq, beq_iff_eq]
  exact ⟨fun h => tx_inj ha hb h, fun h => by rw [h]⟩
/-- A parser's block, opened: no token is left. -/
theorem PV.open0 {w : World} {p : Nat} {s : PS} (h : PV w p s) (hs : s.left = []) : ∃ al c, w.heap[p]? = some (.cells #[.slice al 0 c, .int .i64 (s.opn : Nat), .int .i64 (s.dp : Nat)] 56 (0, 0)) := by
  obtain ⟨_, _, v, hb, hk, ⟨_, rfl⟩ | ⟨g, o, c, rfl, _⟩⟩ := h
  · exact ⟨_, _, hb⟩
  rw [hs] at hb
  exact ⟨_, c, hb⟩
/-- A parser's block, opened: the first token that is left. -/
theorem PV.open1 {w : World} {p : Nat} {s : PS} {x : Nat × List Nat} {r : List (Nat × List Nat)} (h : PV w p s) (hs : s.left = x :: r) : ∃ g o c a, w.heap[p]? = some (.cells #[.slice (some ⟨g, o, none⟩) (r.length + 1) c, .int .i64 (s.opn : Nat), .int .i64 (s.dp : Nat)] 56 (0, 0)) ∧ okL x.2 ∧ g ≠ p ∧ r.length + 1 ≤ c ∧ c ≤ 9223372036854775807 ∧
    w.cell? ⟨g, o, none⟩ = some (.int .i64 (x.1 : Nat)) ∧ w.cell? ⟨g, o + 1, none⟩ = some (.string (T x.2)) ∧ w.cell? ⟨g, o + 2, none⟩ = some (.int .i64 a) := by
  obtain ⟨_, _, v, hb, hk, ⟨e1, _⟩ | ⟨g, o, c, rfl, h4, h5, h6, h7, h8⟩⟩ := h
  · rw [hs] at e1; cases e1
  rw [hs] at hb h4 h8 hk
  obtain ⟨c0, c1, a, c2⟩ := h8 0 x rfl
  exact ⟨g, o, c, a, hb, (hk x (by simp)).1, (by omega), h4, h5, by simpa using c0, by simpa using c1, by simpa using c2⟩
/-- The block behind a token that was taken. -/
theorem PV.next {w : World} {p : Nat} {s : PS} (h : PV w p s) (hs : s.left ≠ []) {g o o' n c : Nat} (hb : w.heap[p]? = some (.cells #[.slice (some ⟨g, o, none⟩) (n + 1) c, .int .i64 (s.opn : Nat), .int .i64 (s.dp : Nat)] 56 (0, 0))) (ho : c = 1 ∨ o' = o + 3) :
    PV (w.setCell ⟨p, 0, none⟩ (.slice (some ⟨g, o', none⟩) n (c - 1))) p s.pop := by
  obtain ⟨h0, h1, v, hb', hk, ⟨e1, _⟩ | ⟨g', o₂, c', rfl, h4, h5, h6, h7, h8⟩⟩ := h
  · exact absurd e1 hs
  rw [hb] at hb'
  injection hb' with hb'
  injection hb' with e _ _
  have e2 := congrArg (fun a => a[0]?) e
  simp only [List.getElem?_toArray, List.getElem?_cons_zero, Option.some.injEq, Value.slice.injEq, Addr.mk.injEq, and_true] at e2
  obtain ⟨⟨rfl, rfl⟩, e3, rfl⟩ := e2
  cases hl : s.left with
  | nil => exact absurd hl hs
  | cons x r =>
    rw [hl] at hk h4 h8 e3
    have hn : n = r.length := by simpa using e3
    subst hn
    have hp : s.pop.left = r := by unfold PS.pop; rw [hl]; rfl
    refine ⟨by rw [hp]; rw [hl] at h0; exact Nat.le_trans (by unfold PS.pop; simp) h0, h1, _, pset hb 0 _, fun y hy => hk y (by rw [hp] at hy; exact List.mem_cons_of_mem _ hy), .inr ⟨g, o', c - 1, by rw [hp], ?_, by omega, h6, by simpa using h7, fun i y hy => ?_⟩⟩
    · rw [hp]
      simp only [List.length_cons] at h4
      omega
    · rw [hp] at hy
      have hi : i < r.length := (List.getElem?_eq_some_iff.1 hy).1
      simp only [List.length_cons] at h4
      have ho' : o' = o + 3 := by omega
      subst ho'
      obtain ⟨c0, c1, a, c2⟩ := h8 (i + 1) y hy
      have hne : ∀ j v, w.cell? ⟨g, j, none⟩ = some v → (w.setCell ⟨p, 0, none⟩ (.slice (some ⟨g, o + 3, none⟩) r.length (c - 1))).cell? ⟨g, j, none⟩ = some v := fun j v hv => keptK (Kq.set w p 0 _) hv (by simp only; omega)
      exact ⟨by have := hne _ _ c0; rwa [show o + (i + 1) * 3 = o + 3 + i * 3 by omega] at this, by have := hne _ _ c1; rwa [show o + ((i + 1) * 3 + 1) = o + 3 + (i * 3 + 1) by omega] at this, a, by have := hne _ _ c2; rwa [show o + ((i + 1) * 3 + 2) = o + 3 + (i * 3 + 2) by omega] at this⟩
theorem beq_cast (a b : Nat) : ((a : Int) == (b : Int)) = (a == b) := by
  rw [Bool.eq_iff_iff, beq_iff_eq, beq_iff_eq]
  omega
set_option maxRecDepth 100000 in
set_option maxHeartbeats 4000000 in
theorem psees_any (p k : Nat) (s : PS) (w : World) (h : PV w p s) :
    Calls Tryz.prog 83 #[.pointer (some ⟨p, 0, none⟩), .int .i64 (k : Nat)] w fun e w' => e = .returned (.bool (seesK k s)) ∧ w' = w := by
  cases hs : s.left with
  | nil =>
    obtain ⟨al, c, hb⟩ := h.open0 hs
    have c0 : w.cell? ⟨p, 0, none⟩ = some (.slice al 0 c) := pcell hb 0
    have e0 : seesK k s = false := by unfold seesK; rw [hs]
    rw [e0]
    clear hb h
    go_enter Tryz.func83, Tryz.ntmps83
    go_wp2_with fail
    go_returns
    exact ⟨rfl, rfl⟩
  | cons x r =>
    obtain ⟨g, o, c, a, hb, hx, hgp, hc, hc2, t0, t1, t2⟩ := h.open1 hs
    have c0 : w.cell? ⟨p, 0, none⟩ = some (.slice (some ⟨g, o, none⟩) (r.length + 1) c) := pcell hb 0
    have e0 : seesK k s = (x.1 == k) := by unfold seesK; rw [hs]
    rw [e0]
    clear hb h hc hc2
    have n1 : (0 : Int) < ((r.length + 1 : Nat) : Int) := by omega
    go_enter Tryz.func83, Tryz.ntmps83
    go_wp2_with fail
    go_returns
    exact ⟨congrArg (fun b => Ending.returned (.bool b)) (beq_cast x.1 k), rfl⟩
set_option maxRecDepth 100000 in
set_option maxHeartbeats 4000000 in
theorem ptake_any (p k : Nat) (t : List Nat) (s : PS) (w : World) (h : PV w p s) (ht : okL t) :
    Calls Tryz.prog 82 #[.pointer (some ⟨p, 0, none⟩), .int .i64 (k : Nat), .string (T t)] w fun e w' => e = .returned (.bool (headIs k t s)) ∧ PV w' p (if headIs k t s then s.pop else s) ∧ Kq (fun j => j = p) w w' := by
  have HS := hide (psees_any p k s w h)
  cases hs : s.left with
  | nil =>
    have e0 : headIs k t s = false := by unfold headIs; rw [hs]
    have e1 : seesK k s = false := by unfold seesK; rw [hs]
    rw [e0]
    rw [e1] at HS
    have HH := hide h
    clear h
    go_enter Tryz.func82, Tryz.ntmps82
    go_wp2_with fail
    refine (unhide HS).mono ?_
    rintro e w1 ⟨rfl, hw⟩
    have hw2 := hw.symm
    subst hw2
    go_wp2_with fail
    go_returns
    exact ⟨rfl, unhide HH, Kq.refl _ _⟩
  | cons x r =>
    have e0 : headIs k t s = (x.1 == k && x.2 == t) := by unfold headIs; rw [hs]
    have e1 : seesK k s = (x.1 == k) := by unfold seesK; rw [hs]
    obtain ⟨g, o, c, a, hb, hx, hgp, hc, hc2, t0, t1, t2⟩ := h.open1 hs
    have HP := hide (fun o' ho => h.next (o' := o') (by rw [hs]; simp) hb ho)
    have HH := hide h
    rw [e0]
    rw [e1] at HS
    have HT := hide (T_eq2 hx ht)
    have c0 : w.cell? ⟨p, 0, none⟩ = some (.slice (some ⟨g, o, none⟩) (r.length + 1) c) := pcell hb 0
    have f0 := popen hb 0
    have n1 : (0 : Int) < ((r.length + 1 : Nat) : Int) := by omega
    have hc1 : c = 1 ∨ 1 < c := by omega
    clear hb h e0 e1 hx hs
    generalize (x.1 == k) = bk at *
    generalize (x.2 == t) = bt at *
    go_enter Tryz.func82, Tryz.ntmps82
    go_wp2_with fail
    refine (unhide HS).mono ?_
    rintro e w1 ⟨rfl, hw⟩
    have hw2 := hw.symm
    subst hw2
    clear hw
    cases bk
    · go_wp2_with fail
      go_returns
      exact ⟨rfl, unhide HH, Kq.refl _ _⟩
    · have HT2 := unhide HT
      cases bt
      · go_wp2_with fail
        go_returns
        exact ⟨rfl, unhide HH, Kq.refl _ _⟩
      · rcases hc1 with rfl | hc1
        · obtain rfl : r = [] := List.length_eq_zero_iff.1 (by omega)
          have HQ := hide (unhide HP o (.inl rfl))
          clear HP hc hc2 n1 HT
          go_wp2_with fail
          go_returns
          exact ⟨rfl, unhide HQ, Kq.set _ _ _ _⟩
        · have HQ := hide (unhide HP (o + 3) (.inr rfl))
          clear HP HT
          go_wp2_with fail
          go_returns
          exact ⟨rfl, unhide HQ, Kq.set _ _ _ _⟩
end Go.Proofs.YtnmcambbpgoodaaGreatDoor
/- The tokens that are left, two: xparse's takeAny, sign, operator, need, giveUp, beginsStep. -/
namespace Go.Proofs.YtnmcambbpgoodaaGreatDoor
open Go.RowKit
theorem okL_p {l : List Nat} (h : l.all (fun c => decide (32 ≤ c) && decide (c < 128)) = true) : okL l := fun c hc => by
  have := List.all_eq_true.1 h c hc
  simp only [Bool.and_eq_true, decide_eq_true_eq] at this
  unfold charR
  simp
  omega
def popIf (b : Bool) (s : PS) : PS := if b then s.pop else s
def txtIf (b : Bool) (s : PS) : List Nat := if b then headT s else []
set_option maxRecDepth 100000 in
set_option maxHeartbeats 4000000 in
theorem ptakeAny_any (p k : Nat) (s : PS) (w : World) (h : PV w p s) :
    Calls Tryz.prog 95 #[.pointer (some ⟨p, 0, none⟩), .int .i64 (k : Nat)] w fun e w' => e = .returned (.tuple #[.string (T (txtIf (seesK k s) s)), .bool (seesK k s)]) ∧ PV w' p (popIf (seesK k s) s) ∧ Kq (fun j => j = p) w w' := by
  have HS := hide (psees_any p k s w h)
  cases hs : s.left with
  | nil =>
    have e1 : seesK k s = false := by unfold seesK; rw [hs]
    rw [e1] at HS ⊢
    have HH := hide h
    clear h
    go_enter Tryz.func95, Tryz.ntmps95
    go_wp2_with fail
    refine (unhide HS).mono ?_
    rintro e w1 ⟨rfl, hw⟩
    have hw2 := hw.symm
    subst hw2
    go_wp2_with fail
    go_returns
    exact ⟨rfl, unhide HH, Kq.refl _ _⟩
  | cons x r =>
    have e1 : seesK k s = (x.1 == k) := by unfold seesK; rw [hs]
    have e2 : headT s = x.2 := by unfold headT; rw [hs]
    obtain ⟨g, o, c, a, hb, hx, hgp, hc, hc2, t0, t1, t2⟩ := h.open1 hs
    have HP := hide (fun o' ho => h.next (o' := o') (by rw [hs]; simp) hb ho)
    have HH := hide h
    have e3 : ∀ b, txtIf b s = if b then x.2 else [] := fun b => by unfold txtIf; rw [e2]
    rw [e1, e3]
    rw [e1] at HS
    have c0 : w.cell? ⟨p, 0, none⟩ = some (.slice (some ⟨g, o, none⟩) (r.length + 1) c) := pcell hb 0
    have f0 := popen hb 0
    have n1 : (0 : Int) < ((r.length + 1 : Nat) : Int) := by omega
    have hc1 : c = 1 ∨ 1 < c := by omega
    clear hb h e1 e2 e3 hx hs
    generalize (x.1 == k) = bk at *
    go_enter Tryz.func95, Tryz.ntmps95
    go_wp2_with fail
    refine (unhide HS).mono ?_
    rintro e w1 ⟨rfl, hw⟩
    have hw2 := hw.symm
    subst hw2
    clear hw
    cases bk
    · go_wp2_with fail
      go_returns
      exact ⟨rfl, unhide HH, Kq.refl _ _⟩
    · rcases hc1 with rfl | hc1
      · obtain rfl : r = [] := List.length_eq_zero_iff.1 (by omega)
        have HQ := hide (unhide HP o (.inl rfl))
        clear HP hc hc2 n1
        go_wp2_with fail
        go_returns
        exact ⟨rfl, unhide HQ, Kq.set _ _ _ _⟩
      · have HQ := hide (unhide HP (o + 3) (.inr rfl))
        clear HP
        go_wp2_with fail
        go_returns
        exact ⟨rfl, unhide HQ, Kq.set _ _ _ _⟩
set_option maxRecDepth 100000 in
set_option maxHeartbeats 4000000 in
theorem psign_any (p : Nat) (t : List Nat) (s : PS) (w : World) (h : PV w p s) (ht : okL t) :
    Calls Tryz.prog 84 #[.pointer (some ⟨p, 0, none⟩), .string (T t)] w fun e w' => e = .returned (.bool (headIs 9 t s)) ∧ PV w' p (popIf (headIs 9 t s) s) ∧ Kq (fun j => j = p) w w' := by
  have HS := hide (ptake_any p 9 t s w h ht)
  clear h ht
  go_enter Tryz.func84, Tryz.ntmps84
  go_wp2_with fail
  refine (unhide HS).mono ?_
  rintro e w1 ⟨rfl, h1, h2⟩
  have HR := hide (And.intro h1 h2)
  clear h1 h2 HS
  go_wp2_with fail
  go_returns
  exact ⟨rfl, unhide HR⟩
set_option maxRecDepth 100000 in
set_option maxHeartbeats 4000000 in
theorem poperator_any (p : Nat) (t : List Nat) (s : PS) (w : World) (h : PV w p s) (ht : okL t) :
    Calls Tryz.prog 64 #[.pointer (some ⟨p, 0, none⟩), .string (T t)] w fun e w' => e = .returned (.bool (headIs 8 t s)) ∧ PV w' p (popIf (headIs 8 t s) s) ∧ Kq (fun j => j = p) w w' := by
  have HS := hide (ptake_any p 8 t s w h ht)
  clear h ht
  go_enter Tryz.func64, Tryz.ntmps64
  go_wp2_with fail
  refine (unhide HS).mono ?_
  rintro e w1 ⟨rfl, h1, h2⟩
  have HR := hide (And.intro h1 h2)
  clear h1 h2 HS
  go_wp2_with fail
  go_returns
  exact ⟨rfl, unhide HR⟩
/-- What tokens that are no expression end with. -/
abbrev gaveUp : Ending := .panicked [{ v := .iface 74 (.agg #[]), recovered := false }]
set_option maxRecDepth 100000 in
set_option maxHeartbeats 4000000 in
theorem giveUp_any (w : World) :
    Calls Tryz.prog 31 #[] w fun e w' => e = gaveUp ∧ w' = w := by
  go_enter Tryz.func31, Tryz.ntmps31
  go_wp2_with fail
  exact ⟨rfl, rfl, rfl⟩
set_option maxRecDepth 100000 in
set_option maxHeartbeats 4000000 in
theorem pneed_yes (p : Nat) (t : List Nat) (s : PS) (w : World) (h : PV w p s) (ht : okL t) (hy : headIs 9 t s = true) :
    Calls Tryz.prog 96 #[.pointer (some ⟨p, 0, none⟩), .string (T t)] w fun e w' => e = .returned (.tuple #[]) ∧ PV w' p s.pop ∧ Kq (fun j => j = p) w w' := by
  have HS := hide (psign_any p t s w h ht)
  rw [hy] at HS
  clear h ht hy
  go_enter Tryz.func96, Tryz.ntmps96
  go_wp2_with fail
  refine (unhide HS).mono ?_
  rintro e w1 ⟨rfl, h1, h2⟩
  have HR := hide (And.intro h1 h2)
  clear h1 h2 HS
  go_wp2_with fail
  go_returns
  exact ⟨rfl, unhide HR⟩
set_option maxRecDepth 100000 in
set_option maxHeartbeats 4000000 in
theorem pneed_no (p : Nat) (t : List Nat) (s : PS) (w : World) (h : PV w p s) (ht : okL t) (hy : headIs 9 t s = false) :
    Calls Tryz.prog 96 #[.pointer (some ⟨p, 0, none⟩), .string (T t)] w fun e w' => e = gaveUp ∧ Kq (fun j => j = p) w w' := by
  have HS := hide (psign_any p t s w h ht)
  rw [hy] at HS
  clear h ht hy
  go_enter Tryz.func96, Tryz.ntmps96
  go_wp2_with fail
  refine (unhide HS).mono ?_
  rintro e w1 ⟨rfl, h1, h2⟩
  have HR := hide h2
  clear h1 h2 HS
  go_wp2_with fail
  refine (giveUp_any _).mono ?_
  rintro e w2 ⟨rfl, hw⟩
  have hw2 := hw.symm
  subst hw2
  clear hw
  go_wp2_with fail
  exact ⟨rfl, rfl, unhide HR⟩
set_option maxRecDepth 100000 in
set_option maxHeartbeats 4000000 in
theorem pbegins_any (p : Nat) (s : PS) (w : World) (h : PV w p s) :
    Calls Tryz.prog 65 #[.pointer (some ⟨p, 0, none⟩)] w fun e w' => e = .returned (.bool (begStep s)) ∧ w' = w := by
  have HS9 := hide (psees_any p 9 s w h)
  have HS3 := hide (psees_any p 3 s w h)
  have HS5 := hide (psees_any p 5 s w h)
  have HS6 := hide (psees_any p 6 s w h)
  cases hs : s.left with
  | nil =>
    have e0 : begStep s = false := by unfold begStep headIs seesK; rw [hs]; rfl
    have e1 : ∀ k, seesK k s = false := fun k => by unfold seesK; rw [hs]
    rw [e0]
    rw [e1] at HS9 HS3 HS5 HS6
    clear h e0 e1
    go_enter Tryz.func65, Tryz.ntmps65
    go_wp2_with (first
      | (go_at_call_of 83 (Value.int IntKind.i64 9); refine (unhide HS9).mono ?_; rintro e w1 ⟨rfl, hw⟩; have hw2 := hw.symm; clear hw; subst hw2)
      | (go_at_call_of 83 (Value.int IntKind.i64 3); refine (unhide HS3).mono ?_; rintro e w1 ⟨rfl, hw⟩; have hw2 := hw.symm; clear hw; subst hw2)
      | (go_at_call_of 83 (Value.int IntKind.i64 5); refine (unhide HS5).mono ?_; rintro e w1 ⟨rfl, hw⟩; have hw2 := hw.symm; clear hw; subst hw2)
      | (go_at_call_of 83 (Value.int IntKind.i64 6); refine (unhide HS6).mono ?_; rintro e w1 ⟨rfl, hw⟩; have hw2 := hw.symm; clear hw; subst hw2))
    go_returns
    exact ⟨rfl, rfl⟩
  | cons x r =>
    obtain ⟨g, o, c, a, hb, hx, hgp, hc, hc2, t0, t1, t2⟩ := h.open1 hs
    have c0 : w.cell? ⟨p, 0, none⟩ = some (.slice (some ⟨g, o, none⟩) (r.length + 1) c) := pcell hb 0
    have n1 : (0 : Int) < ((r.length + 1 : Nat) : Int) := by omega
    have e0 : begStep s = ((x.1 == 9 && (x.2 == [46] || x.2 == [46, 46] || x.2 == [64])) || (x.1 == 3 || x.1 == 5 || x.1 == 6)) := by
      unfold begStep headIs seesK
      rw [hs]
      simp only []
      cases (x.1 == 9) <;> cases (x.1 == 3) <;> cases (x.1 == 5) <;> cases (x.1 == 6) <;> cases (x.2 == [46]) <;> cases (x.2 == [46, 46]) <;> cases (x.2 == [64]) <;> rfl
    have e1 : ∀ k, seesK k s = (x.1 == k) := fun k => by unfold seesK; rw [hs]
    have HT1 := hide (show ((T x.2).toList == [46]) = (x.2 == [46]) from eq_T (b := [46]) hx (okL_p rfl))
    have HT2 := hide (show ((T x.2).toList == [46, 46]) = (x.2 == [46, 46]) from eq_T (b := [46, 46]) hx (okL_p rfl))
    have HT3 := hide (show ((T x.2).toList == [64]) = (x.2 == [64]) from eq_T (b := [64]) hx (okL_p rfl))
    rw [e0]
    rw [e1] at HS9 HS3 HS5 HS6
    clear h e0 e1 hb hx hs hc hc2
    generalize (x.1 == 9) = b9 at *
    generalize (x.1 == 3) = b3 at *
    generalize (x.1 == 5) = b5 at *
    generalize (x.1 == 6) = b6 at *
    generalize (x.2 == [46]) = d1 at *
    generalize (x.2 == [46, 46]) = d2 at *
    generalize (x.2 == [64]) = d3 at *
    have q1 := unhide HT1
    have q2 := unhide HT2
    have q3 := unhide HT3
    clear HT1 HT2 HT3
    go_enter Tryz.func65, Tryz.ntmps65
    go_wp2_with fail
    refine (unhide HS9).mono ?_
    rintro e w1 ⟨rfl, hw⟩
    have hw2 := hw.symm
    clear hw
    subst hw2
    cases b9 <;> cases d1 <;> cases d2 <;> cases d3 <;>
    (go_wp2_with (first
      | (go_at_call_of 83 (Value.int IntKind.i64 3); refine (unhide HS3).mono ?_; rintro e w1 ⟨rfl, hw⟩; have hw2 := hw.symm; clear hw; subst hw2)
      | (go_at_call_of 83 (Value.int IntKind.i64 5); refine (unhide HS5).mono ?_; rintro e w1 ⟨rfl, hw⟩; have hw2 := hw.symm; clear hw; subst hw2)
      | (go_at_call_of 83 (Value.int IntKind.i64 6); refine (unhide HS6).mono ?_; rintro e w1 ⟨rfl, hw⟩; have hw2 := hw.symm; clear hw; subst hw2))) <;>
    (go_returns; exact ⟨by simp_all, rfl⟩)
end Go.Proofs.YtnmcambbpgoodaaGreatDoor
