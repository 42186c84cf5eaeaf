/- Several texts, laid as one. -/
import Derived.Test.YthkkfldmoflfaaaGreatDoorGap
import Derived.StillTail
import Derived.Test.YthkkfldmoflfaaaGreatDoorGaj
/- A statement that leaves its order open, whose steps read and call, and whose last steps (its stores) come behind all others, in one order. -/
namespace Go.Proofs.YthkkfldmoflfaaaGreatDoor
open Go.RowKit
section
variable {P : Program} {Q : Exit → Act → World → Prop}
end
end Go.Proofs.YthkkfldmoflfaaaGreatDoor
/- The tokens that are left: xparse's tokens. -/
namespace Go.Proofs.YthkkfldmoflfaaaGreatDoor
open Go.RowKit
/-- Worlds behind one. -/
structure ClsP (W0 : World) (u : World) : Prop where
  bel : Below W0.heap.size W0 u
theorem pcell {w : World} {p : Nat} {c : Array Value} {t : TypeId} {z : Nat × Nat} (h : w.heap[p]? = some (.cells c t z)) (i : Nat) : w.cell? ⟨p, i, none⟩ = c[i]? := by simp [World.cell?, h]
theorem popen {w : World} {p : Nat} {c : Array Value} {t : TypeId} (h : w.heap[p]? = some (.cells c t (0, 0))) (i : Nat) : w.frozen? ⟨p, i, none⟩ = false := by simp [World.frozen?, h]
theorem pset {w : World} {p : Nat} {c : Array Value} {t : TypeId} {z : Nat × Nat} (h : w.heap[p]? = some (.cells c t z)) (i : Nat) (v : Value) :
    (w.setCell ⟨p, i, none⟩ v).heap[p]? = some (.cells (c.setIfInBounds i v) t z) := by simp [World.setCell, Array.getElem?_modify, h]
theorem pkept {w w' : World} {p : Addr} {v : Value} (hb : Below w.heap.size w w') (h : w.cell? p = some v) : w'.cell? p = some v := by
  rw [hb.cell (block_lt_of_cell h)]; exact h
theorem T_eq2 {a b : List Nat} (ha : okL a) (hb : okL b) : ((T a).toList == (T b).toList) = (a == b) := by
  rw [T_toList, T_toList, Bool.eq_iff_iff, beq_iff_eq, beq_iff_eq]
  exact ⟨fun h => tx_inj ha hb h, fun h => by rw [h]⟩
/-- A parser's block, opened: no token is left. -/
theorem PV.open0 {w : World} {p : Nat} {s : PS} (h : PV w p s) (hs : s.left = []) : ∃ al c, w.heap[p]? = some (.cells #[.slice al 0 c, .int .i64 (s.opn : Nat), .int .i64 (s.dp : Nat)] 48 (0, 0)) := by
  obtain ⟨_, _, v, hb, hk, ⟨_, rfl⟩ | ⟨g, o, c, rfl, _⟩⟩ := h
  · exact ⟨_, _, hb⟩
  rw [hs] at hb
  exact ⟨_, c, hb⟩
/-- A parser's block, opened: the first token that is left. -/
theorem PV.open1 {w : World} {p : Nat} {s : PS} {x : Nat × List Nat} {r : List (Nat × List Nat)} (h : PV w p s) (hs : s.left = x :: r) : ∃ g o c a, w.heap[p]? = some (.cells #[.slice (some ⟨g, o, none⟩) (r.length + 1) c, .int .i64 (s.opn : Nat), .int .i64 (s.dp : Nat)] 48 (0, 0)) ∧ okL x.2 ∧ g ≠ p ∧ r.length + 1 ≤ c ∧ c ≤ 9223372036854775807 ∧
    w.cell? ⟨g, o, none⟩ = some (.int .i64 (x.1 : Nat)) ∧ w.cell? ⟨g, o + 1, none⟩ = some (.string (T x.2)) ∧ w.cell? ⟨g, o + 2, none⟩ = some (.int .i64 a) := by
  obtain ⟨_, _, v, hb, hk, ⟨e1, _⟩ | ⟨g, o, c, rfl, h4, h5, h6, h7, h8⟩⟩ := h
  · rw [hs] at e1; cases e1
  rw [hs] at hb h4 h8 hk
  obtain ⟨c0, c1, a, c2⟩ := h8 0 x rfl
  exact ⟨g, o, c, a, hb, (hk x (by simp)).1, (by omega), h4, h5, by simpa using c0, by simpa using c1, by simpa using c2⟩
/-- The block behind a token that was taken. -/
theorem PV.next {w : World} {p : Nat} {s : PS} (h : PV w p s) (hs : s.left ≠ []) {g o o' n c : Nat} (hb : w.heap[p]? = some (.cells #[.slice (some ⟨g, o, none⟩) (n + 1) c, .int .i64 (s.opn : Nat), .int .i64 (s.dp : Nat)] 48 (0, 0))) (ho : c = 1 ∨ o' = o + 3) :
    PV (w.setCell ⟨p, 0, none⟩ (.slice (some ⟨g, o', none⟩) n (c - 1))) p s.pop := by
  obtain ⟨h0, h1, v, hb', hk, ⟨e1, _⟩ | ⟨g', o₂, c', rfl, h4, h5, h6, h7, h8⟩⟩ := h
  · exact absurd e1 hs
  rw [hb] at hb'
  injection hb' with hb'
  injection hb' with e _ _
  have e2 := congrArg (fun a => a[0]?) e
  simp only [List.getElem?_toArray, List.getElem?_cons_zero, Option.some.injEq, Value.slice.injEq, Addr.mk.injEq, and_true] at e2
  obtain ⟨⟨rfl, rfl⟩, e3, rfl⟩ := e2
  cases hl : s.left with
  | nil => exact absurd hl hs
  | cons x r =>
    rw [hl] at hk h4 h8 e3
    have hn : n = r.length := by simpa using e3
    subst hn
    have hp : s.pop.left = r := by unfold PS.pop; rw [hl]; rfl
    refine ⟨by rw [hp]; rw [hl] at h0; exact Nat.le_trans (by unfold PS.pop; simp) h0, h1, _, pset hb 0 _, fun y hy => hk y (by rw [hp] at hy; exact List.mem_cons_of_mem _ hy), .inr ⟨g, o', c - 1, by rw [hp], ?_, by omega, h6, by simpa using h7, fun i y hy => ?_⟩⟩
    · rw [hp]
      simp only [List.length_cons] at h4
      omega
    · rw [hp] at hy
      have hi : i < r.length := (List.getElem?_eq_some_iff.1 hy).1
      simp only [List.length_cons] at h4
      have ho' : o' = o + 3 := by omega
      subst ho'
      obtain ⟨c0, c1, a, c2⟩ := h8 (i + 1) y hy
      have hne : ∀ j v, w.cell? ⟨g, j, none⟩ = some v → (w.setCell ⟨p, 0, none⟩ (.slice (some ⟨g, o + 3, none⟩) r.length (c - 1))).cell? ⟨g, j, none⟩ = some v := fun j v hv => keptK (Kq.set w p 0 _) hv (by simp only; omega)
      exact ⟨by have := hne _ _ c0; rwa [show o + (i + 1) * 3 = o + 3 + i * 3 by omega] at this, by have := hne _ _ c1; rwa [show o + ((i + 1) * 3 + 1) = o + 3 + (i * 3 + 1) by omega] at this, a, by have := hne _ _ c2; rwa [show o + ((i + 1) * 3 + 2) = o + 3 + (i * 3 + 2) by omega] at this⟩
theorem beq_cast (a b : Nat) : ((a : Int) == (b : Int)) = (a == b) := by
  rw [Bool.eq_iff_iff, beq_iff_eq, beq_iff_eq]
  omega
set_option maxRecDepth 100000 in
set_option maxHeartbeats 4000000 in
theorem psees_any (p k : Nat) (s : PS) (w : World) (h : PV w p s) :
    Calls Tryz.prog 108 #[.pointer (some ⟨p, 0, none⟩), .int .i64 (k : Nat)] w fun e w' => e = .returned (.bool (seesK k s)) ∧ w' = w := by
  cases hs : s.left with
  | nil =>
    obtain ⟨al, c, hb⟩ := h.open0 hs
    have c0 : w.cell? ⟨p, 0, none⟩ = some (.slice al 0 c) := pcell hb 0
    have e0 : seesK k s = false := by unfold seesK; rw [hs]
    rw [e0]
    clear hb h
    go_enter Tryz.func108, Tryz.ntmps108
    go_wp2_with fail
    go_returns
    exact ⟨rfl, rfl⟩
  | cons x r =>
    obtain ⟨g, o, c, a, hb, hx, hgp, hc, hc2, t0, t1, t2⟩ := h.open1 hs
    have c0 : w.cell? ⟨p, 0, none⟩ = some (.slice (some ⟨g, o, none⟩) (r.length + 1) c) := pcell hb 0
    have e0 : seesK k s = (x.1 == k) := by unfold seesK; rw [hs]
    rw [e0]
    clear hb h hc hc2
    have n1 : (0 : Int) < ((r.length + 1 : Nat) : Int) := by omega
    go_enter Tryz.func108, Tryz.ntmps108
    go_wp2_with fail
    go_returns
    exact ⟨congrArg (fun b => Ending.returned (.bool b)) (beq_cast x.1 k), rfl⟩
set_option maxRecDepth 100000 in
set_option maxHeartbeats 4000000 in
theorem ptake_any (p k : Nat) (t : List Nat) (s : PS) (w : World) (h : PV w p s) (ht : okL t) :
    Calls Tryz.prog 107 #[.pointer (some ⟨p, 0, none⟩), .int .i64 (k : Nat), .string (T t)] w fun e w' => e = .returned (.bool (headIs k t s)) ∧ PV w' p (if headIs k t s then s.pop else s) ∧ Kq (fun j => j = p) w w' := by
  have HS := hide (psees_any p k s w h)
  cases hs : s.left with
  | nil =>
    have e0 : headIs k t s = false := by unfold headIs; rw [hs]
    have e1 : seesK k s = false := by unfold seesK; rw [hs]
    rw [e0]
    rw [e1] at HS
    have HH := hide h
    clear h
    go_enter Tryz.func107, Tryz.ntmps107
    go_wp2_with fail
    refine (unhide HS).mono ?_
    rintro e w1 ⟨rfl, hw⟩
    have hw2 := hw.symm
    subst hw2
    go_wp2_with fail
    go_returns
    exact ⟨rfl, unhide HH, Kq.refl _ _⟩
  | cons x r =>
    have e0 : headIs k t s = (x.1 == k && x.2 == t) := by unfold headIs; rw [hs]
    have e1 : seesK k s = (x.1 == k) := by unfold seesK; rw [hs]
    obtain ⟨g, o, c, a, hb, hx, hgp, hc, hc2, t0, t1, t2⟩ := h.open1 hs
    have HP := hide (fun o' ho => h.next (o' := o') (by rw [hs]; simp) hb ho)
    have HH := hide h
    rw [e0]
    rw [e1] at HS
    have HT := hide (T_eq2 hx ht)
    have c0 : w.cell? ⟨p, 0, none⟩ = some (.slice (some ⟨g, o, none⟩) (r.length + 1) c) := pcell hb 0
    have f0 := popen hb 0
    have n1 : (0 : Int) < ((r.length + 1 : Nat) : Int) := by omega
    have hc1 : c = 1 ∨ 1 < c := by omega
    clear hb h e0 e1 hx hs
    generalize (x.1 == k) = bk at *
    generalize (x.2 == t) = bt at *
    go_enter Tryz.func107, Tryz.ntmps107
    go_wp2_with fail
    refine (unhide HS).mono ?_
    rintro e w1 ⟨rfl, hw⟩
    have hw2 := hw.symm
    subst hw2
    clear hw
    cases bk
    · go_wp2_with fail
      go_returns
      exact ⟨rfl, unhide HH, Kq.refl _ _⟩
    · have HT2 := unhide HT
      cases bt
      · go_wp2_with fail
        go_returns
        exact ⟨rfl, unhide HH, Kq.refl _ _⟩
      · rcases hc1 with rfl | hc1
        · obtain rfl : r = [] := List.length_eq_zero_iff.1 (by omega)
          have HQ := hide (unhide HP o (.inl rfl))
          clear HP hc hc2 n1 HT
          go_wp2_with fail
          go_returns
          exact ⟨rfl, unhide HQ, Kq.set _ _ _ _⟩
        · have HQ := hide (unhide HP (o + 3) (.inr rfl))
          clear HP HT
          go_wp2_with fail
          go_returns
          exact ⟨rfl, unhide HQ, Kq.set _ _ _ _⟩
end Go.Proofs.YthkkfldmoflfaaaGreatDoor
