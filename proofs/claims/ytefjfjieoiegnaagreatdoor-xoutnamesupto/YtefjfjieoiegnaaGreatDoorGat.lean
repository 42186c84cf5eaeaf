/- Several texts, laid as one. -/
import Derived.RangeFuncNested
import Derived.RangeFuncBox
import Derived.RangeFuncLeaves
import Derived.OwnWalkIn
import Derived.TacticsInMore
import Derived.LoopNIn
import Derived.LoopIn
import Derived.Maps.AppendAt
import Derived.Sort.QuietTacIn
import Derived.Test.YtefjfjieoiegnaaGreatDoorGas
import Derived.Test.YtefjfjieoiegnaaGreatDoorGar
import Derived.Test.YtefjfjieoiegnaaGreatDoorGal
/- A token among those next to it: xout's spots. -/
namespace Go.Proofs.YtefjfjieoiegnaaGreatDoor
open Go.RowKit Go.Maps Go.Sort Go.Shelf
attribute [local go_sem] Oper.semAt_some
theorem grown_belowO {w w' : World} (h : Below w.heap.size w w') : w.grownBy w' none := ⟨h.os, h.tape, h.output, h.size, fun k hk _ => h.block k hk⟩
def zB : BTok := ⟨0, ⟨#[]⟩, [], ⟨#[]⟩⟩
abbrev Pl := Option Addr × Nat
/-- A token among those next to it, as a value; of each the place of its pairs. -/
def spotCs (t : BTok) (u : Pl) (a : BTok) (ua : Pl) (b : BTok) (ub : Pl) : Value :=
  .agg #[.int .i64 t.kind, .string t.name, .slice u.1 t.attrs.length u.2, .string t.text, .int .i64 a.kind, .string a.name, .slice ua.1 a.attrs.length ua.2, .string a.text, .int .i64 b.kind, .string b.name, .slice ub.1 b.attrs.length ub.2, .string b.text]
def tkAt (ts : List BTok) (i : Nat) : BTok := (ts[i]?).getD zB
def plAt (us : List Pl) (i : Nat) : Pl := (us[i]?).getD (none, 0)
def ahT (ts : List BTok) (i : Nat) : BTok := if i = 0 then zB else tkAt ts (i - 1)
def ahU (us : List Pl) (i : Nat) : Pl := if i = 0 then (none, 0) else plAt us (i - 1)
def spotV (ts : List BTok) (us : List Pl) (i : Nat) : Value := spotCs (tkAt ts i) (plAt us i) (ahT ts i) (ahU us i) (tkAt ts (i + 1)) (plAt us (i + 1))
/-- Tokens as they lie, each with its pairs' place. -/
structure SpRd (Bl : Nat) (a : Option Addr) (cap : Nat) (ts : List BTok) (us : List Pl) (W : World) : Prop where
  box : W.cell? ⟨Bl, 0, none⟩ = some (.slice a ts.length cap)
  len : us.length = ts.length
  toks : ts ≠ [] → ∃ g o, a = some ⟨g, o, none⟩ ∧ ∀ (i : Nat) (t : BTok) (u : Pl), ts[i]? = some t → us[i]? = some u →
    W.cell? ⟨g, o + i * 4, none⟩ = some (.int .i64 t.kind) ∧ W.cell? ⟨g, o + i * 4 + 1, none⟩ = some (.string t.name) ∧ W.cell? ⟨g, o + i * 4 + 2, none⟩ = some (.slice u.1 t.attrs.length u.2) ∧ W.cell? ⟨g, o + i * 4 + 3, none⟩ = some (.string t.text)
theorem SpRd.below {Bl : Nat} {a : Option Addr} {cap : Nat} {ts : List BTok} {us : List Pl} {w W : World} (h : SpRd Bl a cap ts us w) (hb : Below w.heap.size w W) : SpRd Bl a cap ts us W := by
  refine ⟨keptC hb h.box, h.len, fun hne => ?_⟩
  obtain ⟨g, o, e, hc⟩ := h.toks hne
  exact ⟨g, o, e, fun i t u h1 h2 => ⟨keptC hb (hc i t u h1 h2).1, keptC hb (hc i t u h1 h2).2.1, keptC hb (hc i t u h1 h2).2.2.1, keptC hb (hc i t u h1 h2).2.2.2⟩⟩
theorem cell_ltO {w : World} {g o : Nat} {v : Value} (h : w.cell? ⟨g, o, none⟩ = some v) : g < w.heap.size := by
  apply Decidable.byContradiction
  intro hc
  have hn : w.heap[g]? = none := Array.getElem?_eq_none (by omega)
  rw [World.cell?] at h
  simp [hn] at h
theorem tk_at {ts : List BTok} {i : Nat} {t : BTok} (h : ts[i]? = some t) : tkAt ts i = t := by rw [tkAt, h]; rfl
theorem pl_at {us : List Pl} {i : Nat} {u : Pl} (h : us[i]? = some u) : plAt us i = u := by rw [plAt, h]; rfl
theorem tk_no {ts : List BTok} {i : Nat} (h : ts.length ≤ i) : tkAt ts i = zB := by rw [tkAt, List.getElem?_eq_none h]; rfl
theorem pl_no {us : List Pl} {i : Nat} (h : us.length ≤ i) : plAt us i = (none, 0) := by rw [plAt, List.getElem?_eq_none h]; rfl
theorem ahT_at {ts : List BTok} {i j : Nat} {t : BTok} (e : i = j + 1) (h : ts[j]? = some t) : ahT ts i = t := by rw [e, ahT, if_neg (by omega), Nat.add_sub_cancel, tk_at h]
theorem ahU_at {us : List Pl} {i j : Nat} {u : Pl} (e : i = j + 1) (h : us[j]? = some u) : ahU us i = u := by rw [e, ahU, if_neg (by omega), Nat.add_sub_cancel, pl_at h]
theorem ahT_no {ts : List BTok} {i : Nat} (e : i = 0) : ahT ts i = zB := by rw [ahT, if_pos e]
theorem ahU_no {us : List Pl} {i : Nat} (e : i = 0) : ahU us i = (none, 0) := by rw [ahU, if_pos e]
theorem range_pre {k n : Nat} (h : k < n) : List.range k ++ [k] <+: List.range n := by
  rw [← List.range_succ]
  refine ⟨(List.range n).drop (k + 1), ?_⟩
  rw [show List.range (k + 1) = (List.range n).take (k + 1) by rw [List.take_range]; congr 1; omega]
  exact List.take_append_drop _ _
/-- Where spots' loop stands. -/
structure SpAt (Bl : Nat) (a : Option Addr) (cap : Nat) (ts : List BTok) (us : List Pl) (J : List Nat → World → Prop) (k : Nat) (W : World) : Prop where
  le : k ≤ ts.length
  rd : SpRd Bl a cap ts us W
  j : J (List.range k) W
set_option maxRecDepth 100000 in
set_option maxHeartbeats 2000000 in
theorem spots1_in (n : Nat) (hn : 1 ≤ n) (l Bl : Nat) (a : Option Addr) (cap : Nat) (ts : List BTok) (us : List Pl) (hlen : ts.length ≤ 1048576) (W : World) (hR : SpRd Bl a cap ts us W) (J Jx : List Nat → World → Prop) (hJ : AbidesFrom W.heap.size J)
    (hY : ∀ pre x W1, J pre W1 → pre.length < ts.length + 1 → YieldAt Fence.wide (n - 1) Tryz.prog l #[spotV ts us x] W1 fun e W' =>
      (e = .returned (.bool true) ∧ J (pre ++ [x]) W' ∧ (SpRd Bl a cap ts us W1 → SpRd Bl a cap ts us W')) ∨ (e = .returned (.bool false) ∧ Jx (pre ++ [x]) W')) (h0 : J [] W) :
    CallsIn Fence.wide n Tryz.prog 75 #[.func (.yield l) #[] #[], .pointer (some ⟨Bl, 0, none⟩)] W fun e W' => (∃ v, e = .returned v) ∧
      ((∃ ys, ys = List.range ts.length ∧ J ys W') ∨ (∃ pre, pre <+: List.range ts.length ∧ Jx pre W')) := by
  have hbox := hR.box
  have HI0 : Hid (SpAt Bl a cap ts us J 0 W) := hide ⟨Nat.zero_le _, hR, h0⟩
  have HY := hide hY
  have HJ := hide hJ
  obtain ⟨N, hN⟩ : ∃ N, N = ts.length := ⟨_, rfl⟩
  have HN := hide hN
  rw [← hN] at hbox
  refine callsIn_of_wp Tryz.func75 rfl trivial ?_ rfl
  simp only [Tryz.ntmps75, List.size_toArray, List.length_cons, List.length_nil, Nat.reduceAdd, Nat.reduceSub, Array.replicate_succ, Array.replicate_zero, List.push_toArray, List.append_toArray, List.nil_append, List.cons_append]
  clear hR hY hJ h0 hN
  gi_wp2
  gi_loopw [3, 4, 5, 8, 9, 10, 11, 12, 13, 14, 15, 16, 17, 18, 19, 20, 21, 22, 23, 24, 25, 26, 27, 28, 29, 30, 31, 32, 33, 34, 35, 36, 37, 38] (fun u3 u4 u5 i u9 u10 u11 u12 u13 u14 u15 u16 u17 u18 u19 u20 u21 u22 u23 u24 u25 u26 u27 u28 u29 u30 u31 u32 u33 u34 u35 u36 u37 u38 wr => ∃ k : Nat, i = .int .i64 (k : Nat) ∧ Hid (SpAt Bl a cap ts us J k wr)) (fun u3 u4 u5 i u9 u10 u11 u12 u13 u14 u15 u16 u17 u18 u19 u20 u21 u22 u23 u24 u25 u26 u27 u28 u29 u30 u31 u32 u33 u34 u35 u36 u37 u38 _ => N - (intOf i).toNat)
  case atStart => exact ⟨0, rfl, HI0⟩
  case round =>
    clear HI0 hbox
    obtain ⟨k, rfl, hI⟩ := hrel
    have hbox := (unhide hI).rd.box
    rw [← unhide HN] at hbox
    by_cases hlt : k < N
    · obtain ⟨t, ht⟩ : ∃ t, ts[k]? = some t := ⟨ts[k]'(by rw [← unhide HN]; exact hlt), List.getElem?_eq_getElem _⟩
      obtain ⟨u, hu⟩ : ∃ u, us[k]? = some u := ⟨us[k]'(by rw [(unhide hI).rd.len, ← unhide HN]; exact hlt), List.getElem?_eq_getElem _⟩
      have hne : ts ≠ [] := fun e => by rw [e] at ht; cases ht
      obtain ⟨g, o, rfl, hc⟩ := (unhide hI).rd.toks hne
      obtain ⟨c0, c1, c2, c3⟩ := hc k t u ht hu
      obtain ⟨au, cu⟩ := u
      simp only at c2
      have hNb : (N : Int) ≤ 1048576 := by have := unhide HN; omega
      have n1 : (0 : Int) ≤ (k : Int) := by omega
      have n2 : (k : Int) < (N : Int) := by omega
      have b0 : Bl < wr.heap.size := cell_ltO hbox
      have b1 : ¬ Bl = wr.heap.size := by omega
      have b2 : ¬ Bl = wr.heap.size + 1 := by omega
      have g0 : g < wr.heap.size := cell_ltO c0
      have g1 : ¬ g = wr.heap.size := by omega
      have g2 : ¬ g = wr.heap.size + 1 := by omega
      have HC := hide hc
      have HT := hide ht
      have HU := hide hu
      clear hc ht hu hne
      by_cases hk0 : k = 0
      · by_cases hkb : k + 1 < N
        · have p0 : ¬ (0 : Int) < (k : Int) := by omega
          obtain ⟨tb, htb⟩ : ∃ tb, ts[k + 1]? = some tb := ⟨ts[k + 1]'(by have := unhide HN; omega), List.getElem?_eq_getElem _⟩
          obtain ⟨⟨ab, cb⟩, hub⟩ : ∃ ub, us[k + 1]? = some ub := ⟨us[k + 1]'(by have := unhide HN; have := (unhide hI).rd.len; omega), List.getElem?_eq_getElem _⟩
          obtain ⟨e0, e1, e2, e3⟩ := unhide HC (k + 1) tb _ htb hub
          simp only at e2
          have q0 : (k : Int) + 1 < (N : Int) := by omega
          have HSV : Hid (spotV ts us k = spotCs t (au, cu) zB (none, 0) tb (ab, cb)) := hide (by
            unfold spotV
            rw [tk_at (unhide HT), pl_at (unhide HU), ahT_no hk0, ahU_no hk0, tk_at htb, pl_at hub])
          obtain ⟨W2, hW2⟩ : ∃ W2, W2 = (wr.alloc (.cells #[.int .i64 t.kind, .string t.name, .slice au t.attrs.length cu, .string t.text] 37)).alloc (.cells #[.int .i64 t.kind, .string t.name, .slice au t.attrs.length cu, .string t.text, .int .i64 0, .string ⟨#[]⟩, .slice none 0 0, .string ⟨#[]⟩, .int .i64 tb.kind, .string tb.name, .slice ab tb.attrs.length cb, .string tb.text] 71) := ⟨_, rfl⟩
          have hb2 : Below wr.heap.size wr W2 := by rw [hW2]; exact ((Below.refl _ _).alloc (Nat.le_refl _) _).alloc (by simp) _
          have HYC := unhide HY (List.range k) k W2 (unhide HJ _ _ _ none (unhide hI).j (grown_belowO hb2) (fun r e => by cases e)) (by rw [List.length_range]; have := unhide HN; omega)
          have HR2 := hide ((unhide hI).rd.below hb2)
          rw [unhide HSV, hW2] at HYC
          rw [hW2] at HR2
          simp only [spotCs, zB, List.length_nil] at HYC
          clear hW2 hb2 HSV HT HU HC W2 hk0 hkb htb hub
          obtain ⟨fn, tmps, assign, body, hy', hRR⟩ := HYC
          gi_wp2
          refine hRR.mono ?_
          rintro e W3 (⟨rfl, hJ3, hk3⟩ | ⟨rfl, hJx3⟩)
          · gi_wp2
            refine ⟨⟨k + 1, rfl, hide ⟨by have := unhide HN; omega, hk3 (unhide HR2), by rw [List.range_succ]; exact hJ3⟩⟩, by simp [intOf]; omega⟩
          · gi_wp2
            refine bodyPost_ret (results_none rfl _ _ _) rfl ?_
            exact ⟨⟨_, rfl⟩, .inr ⟨_, range_pre (by have := unhide HN; omega), hJx3⟩⟩
        · have p0 : ¬ (0 : Int) < (k : Int) := by omega
          have q0 : ¬ (k : Int) + 1 < (N : Int) := by omega
          have HSV : Hid (spotV ts us k = spotCs t (au, cu) zB (none, 0) zB (none, 0)) := hide (by
            unfold spotV
            rw [tk_at (unhide HT), pl_at (unhide HU), ahT_no hk0, ahU_no hk0, tk_no (by have := unhide HN; omega), pl_no (by have := unhide HN; have := (unhide hI).rd.len; omega)])
          obtain ⟨W2, hW2⟩ : ∃ W2, W2 = (wr.alloc (.cells #[.int .i64 t.kind, .string t.name, .slice au t.attrs.length cu, .string t.text] 37)).alloc (.cells #[.int .i64 t.kind, .string t.name, .slice au t.attrs.length cu, .string t.text, .int .i64 0, .string ⟨#[]⟩, .slice none 0 0, .string ⟨#[]⟩, .int .i64 0, .string ⟨#[]⟩, .slice none 0 0, .string ⟨#[]⟩] 71) := ⟨_, rfl⟩
          have hb2 : Below wr.heap.size wr W2 := by rw [hW2]; exact ((Below.refl _ _).alloc (Nat.le_refl _) _).alloc (by simp) _
          have HYC := unhide HY (List.range k) k W2 (unhide HJ _ _ _ none (unhide hI).j (grown_belowO hb2) (fun r e => by cases e)) (by rw [List.length_range]; have := unhide HN; omega)
          have HR2 := hide ((unhide hI).rd.below hb2)
          rw [unhide HSV, hW2] at HYC
          rw [hW2] at HR2
          simp only [spotCs, zB, List.length_nil] at HYC
          clear hW2 hb2 HSV HT HU HC W2 hk0 hkb
          obtain ⟨fn, tmps, assign, body, hy', hRR⟩ := HYC
          gi_wp2
          refine hRR.mono ?_
          rintro e W3 (⟨rfl, hJ3, hk3⟩ | ⟨rfl, hJx3⟩)
          · gi_wp2
            refine ⟨⟨k + 1, rfl, hide ⟨by have := unhide HN; omega, hk3 (unhide HR2), by rw [List.range_succ]; exact hJ3⟩⟩, by simp [intOf]; omega⟩
          · gi_wp2
            refine bodyPost_ret (results_none rfl _ _ _) rfl ?_
            exact ⟨⟨_, rfl⟩, .inr ⟨_, range_pre (by have := unhide HN; omega), hJx3⟩⟩
      · by_cases hkb : k + 1 < N
        · obtain ⟨j, hj⟩ : ∃ j, k = j + 1 := ⟨k - 1, by omega⟩
          obtain ⟨ta, hta⟩ : ∃ ta, ts[j]? = some ta := ⟨ts[j]'(by have := unhide HN; omega), List.getElem?_eq_getElem _⟩
          obtain ⟨⟨aa, ca⟩, hua⟩ : ∃ ua, us[j]? = some ua := ⟨us[j]'(by have := unhide HN; have := (unhide hI).rd.len; omega), List.getElem?_eq_getElem _⟩
          obtain ⟨d0, d1, d2, d3⟩ := unhide HC j ta _ hta hua
          simp only at d2
          have p0 : (0 : Int) < (k : Int) := by omega
          have hj0 : (0 : Int) ≤ (k : Int) - 1 := by omega
          have hjN : (k : Int) - 1 < (N : Int) := by omega
          have hjt : j = k - 1 := by omega
          rw [hjt] at d0 d1 d2 d3
          obtain ⟨tb, htb⟩ : ∃ tb, ts[k + 1]? = some tb := ⟨ts[k + 1]'(by have := unhide HN; omega), List.getElem?_eq_getElem _⟩
          obtain ⟨⟨ab, cb⟩, hub⟩ : ∃ ub, us[k + 1]? = some ub := ⟨us[k + 1]'(by have := unhide HN; have := (unhide hI).rd.len; omega), List.getElem?_eq_getElem _⟩
          obtain ⟨e0, e1, e2, e3⟩ := unhide HC (k + 1) tb _ htb hub
          simp only at e2
          have q0 : (k : Int) + 1 < (N : Int) := by omega
          have HSV : Hid (spotV ts us k = spotCs t (au, cu) ta (aa, ca) tb (ab, cb)) := hide (by
            unfold spotV
            rw [tk_at (unhide HT), pl_at (unhide HU), ahT_at hj hta, ahU_at hj hua, tk_at htb, pl_at hub])
          obtain ⟨W2, hW2⟩ : ∃ W2, W2 = (wr.alloc (.cells #[.int .i64 t.kind, .string t.name, .slice au t.attrs.length cu, .string t.text] 37)).alloc (.cells #[.int .i64 t.kind, .string t.name, .slice au t.attrs.length cu, .string t.text, .int .i64 ta.kind, .string ta.name, .slice aa ta.attrs.length ca, .string ta.text, .int .i64 tb.kind, .string tb.name, .slice ab tb.attrs.length cb, .string tb.text] 71) := ⟨_, rfl⟩
          have hb2 : Below wr.heap.size wr W2 := by rw [hW2]; exact ((Below.refl _ _).alloc (Nat.le_refl _) _).alloc (by simp) _
          have HYC := unhide HY (List.range k) k W2 (unhide HJ _ _ _ none (unhide hI).j (grown_belowO hb2) (fun r e => by cases e)) (by rw [List.length_range]; have := unhide HN; omega)
          have HR2 := hide ((unhide hI).rd.below hb2)
          rw [unhide HSV, hW2] at HYC
          rw [hW2] at HR2
          simp only [spotCs] at HYC
          clear hW2 hb2 HSV HT HU HC W2 hk0 hkb hta hua hj hjt htb hub
          obtain ⟨fn, tmps, assign, body, hy', hRR⟩ := HYC
          gi_wp2
          refine hRR.mono ?_
          rintro e W3 (⟨rfl, hJ3, hk3⟩ | ⟨rfl, hJx3⟩)
          · gi_wp2
            refine ⟨⟨k + 1, rfl, hide ⟨by have := unhide HN; omega, hk3 (unhide HR2), by rw [List.range_succ]; exact hJ3⟩⟩, by simp [intOf]; omega⟩
          · gi_wp2
            refine bodyPost_ret (results_none rfl _ _ _) rfl ?_
            exact ⟨⟨_, rfl⟩, .inr ⟨_, range_pre (by have := unhide HN; omega), hJx3⟩⟩
        · obtain ⟨j, hj⟩ : ∃ j, k = j + 1 := ⟨k - 1, by omega⟩
          obtain ⟨ta, hta⟩ : ∃ ta, ts[j]? = some ta := ⟨ts[j]'(by have := unhide HN; omega), List.getElem?_eq_getElem _⟩
          obtain ⟨⟨aa, ca⟩, hua⟩ : ∃ ua, us[j]? = some ua := ⟨us[j]'(by have := unhide HN; have := (unhide hI).rd.len; omega), List.getElem?_eq_getElem _⟩
          obtain ⟨d0, d1, d2, d3⟩ := unhide HC j ta _ hta hua
          simp only at d2
          have p0 : (0 : Int) < (k : Int) := by omega
          have hj0 : (0 : Int) ≤ (k : Int) - 1 := by omega
          have hjN : (k : Int) - 1 < (N : Int) := by omega
          have hjt : j = k - 1 := by omega
          rw [hjt] at d0 d1 d2 d3
          have q0 : ¬ (k : Int) + 1 < (N : Int) := by omega
          have HSV : Hid (spotV ts us k = spotCs t (au, cu) ta (aa, ca) zB (none, 0)) := hide (by
            unfold spotV
            rw [tk_at (unhide HT), pl_at (unhide HU), ahT_at hj hta, ahU_at hj hua, tk_no (by have := unhide HN; omega), pl_no (by have := unhide HN; have := (unhide hI).rd.len; omega)])
          obtain ⟨W2, hW2⟩ : ∃ W2, W2 = (wr.alloc (.cells #[.int .i64 t.kind, .string t.name, .slice au t.attrs.length cu, .string t.text] 37)).alloc (.cells #[.int .i64 t.kind, .string t.name, .slice au t.attrs.length cu, .string t.text, .int .i64 ta.kind, .string ta.name, .slice aa ta.attrs.length ca, .string ta.text, .int .i64 0, .string ⟨#[]⟩, .slice none 0 0, .string ⟨#[]⟩] 71) := ⟨_, rfl⟩
          have hb2 : Below wr.heap.size wr W2 := by rw [hW2]; exact ((Below.refl _ _).alloc (Nat.le_refl _) _).alloc (by simp) _
          have HYC := unhide HY (List.range k) k W2 (unhide HJ _ _ _ none (unhide hI).j (grown_belowO hb2) (fun r e => by cases e)) (by rw [List.length_range]; have := unhide HN; omega)
          have HR2 := hide ((unhide hI).rd.below hb2)
          rw [unhide HSV, hW2] at HYC
          rw [hW2] at HR2
          simp only [spotCs, zB, List.length_nil] at HYC
          clear hW2 hb2 HSV HT HU HC W2 hk0 hkb hta hua hj hjt
          obtain ⟨fn, tmps, assign, body, hy', hRR⟩ := HYC
          gi_wp2
          refine hRR.mono ?_
          rintro e W3 (⟨rfl, hJ3, hk3⟩ | ⟨rfl, hJx3⟩)
          · gi_wp2
            refine ⟨⟨k + 1, rfl, hide ⟨by have := unhide HN; omega, hk3 (unhide HR2), by rw [List.range_succ]; exact hJ3⟩⟩, by simp [intOf]; omega⟩
          · gi_wp2
            refine bodyPost_ret (results_none rfl _ _ _) rfl ?_
            exact ⟨⟨_, rfl⟩, .inr ⟨_, range_pre (by have := unhide HN; omega), hJx3⟩⟩
    · have n2 : ¬ (k : Int) < (N : Int) := by omega
      have HJE : Hid (J (List.range ts.length) wr) := hide (by
        have h := (unhide hI).j
        rw [show k = ts.length by have := (unhide hI).le; have := unhide HN; omega] at h
        exact h)
      clear hI
      gi_wp2
      go_end0
      exact ⟨⟨_, rfl⟩, .inl (unhide HJE)⟩
end Go.Proofs.YtefjfjieoiegnaaGreatDoor
/- What xout's spots hands back, and that it gives each token among those next to it. -/
namespace Go.Proofs.YtefjfjieoiegnaaGreatDoor
open Go.RowKit Go.Maps Go.Sort Go.Shelf
theorem toks_pl {w : World} {g : Nat} : ∀ (p : List BTok) (o : Nat), (∀ (i : Nat) (t : BTok), p[i]? = some t → TokArg w g (o + i * 4) t) → ∃ us : List Pl, us.length = p.length ∧ ∀ (i : Nat) (t : BTok) (u : Pl), p[i]? = some t → us[i]? = some u →
    (w.cell? ⟨g, o + i * 4, none⟩ = some (.int .i64 t.kind) ∧ w.cell? ⟨g, o + i * 4 + 1, none⟩ = some (.string t.name) ∧ w.cell? ⟨g, o + i * 4 + 2, none⟩ = some (.slice u.1 t.attrs.length u.2) ∧ w.cell? ⟨g, o + i * 4 + 3, none⟩ = some (.string t.text)) ∧ PairsArg w (.slice u.1 t.attrs.length u.2) t.attrs
  | [], o, _ => ⟨[], rfl, fun i t u h => by cases h⟩
  | t :: p, o, h => by
    obtain ⟨us, h1, h2⟩ := toks_pl p (o + 4) (fun i t' ht => by
      have := h (i + 1) t' ht
      rw [show o + (i + 1) * 4 = o + 4 + i * 4 by omega] at this
      exact this)
    obtain ⟨hk, hn, ⟨v, hv, hpv⟩, hx⟩ := h 0 t rfl
    have hpv' := hpv
    obtain ⟨a, c, rfl, _⟩ := hpv
    refine ⟨(a, c) :: us, by simp [h1], fun i t' u ht hu => ?_⟩
    cases i with
    | zero => cases ht; cases hu; exact ⟨⟨hk, hn, hv, hx⟩, hpv'⟩
    | succ i =>
      have := h2 i t' u ht hu
      rw [show o + 4 + i * 4 = o + (i + 1) * 4 by omega] at this
      exact this
/-- The places of tokens' pairs, where the tokens lie. -/
def PlOk (w : World) (ts : List BTok) (us : List Pl) : Prop := ∀ (i : Nat) (t : BTok) (u : Pl), ts[i]? = some t → us[i]? = some u → PairsArg w (.slice u.1 t.attrs.length u.2) t.attrs
theorem sp_read {w : World} {a : Option Addr} {ts : List BTok} (cap : Nat) (h : ToksArg w a ts) (T : TypeId) : ∃ us, SpRd w.heap.size a cap ts us (w.alloc (.cells #[.slice a ts.length cap] T)) ∧ PlOk w ts us := by
  have hb : Below w.heap.size w (w.alloc (.cells #[.slice a ts.length cap] T)) := (Below.refl _ _).alloc (Nat.le_refl _) _
  have hbox : (w.alloc (.cells #[.slice a ts.length cap] T)).cell? ⟨w.heap.size, 0, none⟩ = some (.slice a ts.length cap) := by rw [Lib.cell_of_heap (alloc_newO w _)]; rfl
  by_cases hne : ts = []
  · subst hne
    exact ⟨[], ⟨hbox, rfl, fun e => absurd rfl e⟩, fun i t u e => by cases e⟩
  · obtain ⟨g, o, rfl, ht⟩ := h hne
    obtain ⟨us, h1, h2⟩ := toks_pl ts o ht
    refine ⟨us, ⟨hbox, h1, fun _ => ⟨g, o, rfl, fun i t u e1 e2 => ?_⟩⟩, fun i t u e1 e2 => (h2 i t u e1 e2).2⟩
    obtain ⟨⟨a0, a1, a2, a3⟩, _⟩ := h2 i t u e1 e2
    exact ⟨keptC hb a0, keptC hb a1, keptC hb a2, keptC hb a3⟩
set_option maxRecDepth 100000 in
theorem spots_seq (ts : List BTok) (a : Option Addr) (cap : Nat) (w : World) (hv : ToksArg w a ts) :
    Calls Tryz.prog 40 #[.slice a ts.length cap] w fun e W => ∃ us, e = .returned (.func (.func 75) #[] #[.pointer (some ⟨w.heap.size, 0, none⟩)]) ∧ SpRd w.heap.size a cap ts us W ∧ PlOk w ts us ∧ W.heap.size = w.heap.size + 1 ∧ Below w.heap.size w W := by
  have HS := hide (sp_read cap hv 24)
  obtain ⟨N, hN⟩ : ∃ N, N = ts.length := ⟨_, rfl⟩
  rw [← hN] at HS ⊢
  clear hv hN
  go_enter Tryz.func40, Tryz.ntmps40
  go_wp2_with fail
  go_returns
  obtain ⟨us, h1, h2⟩ := unhide HS
  exact ⟨us, rfl, h1, h2, by simp, (Below.refl _ _).alloc (Nat.le_refl _) _⟩
/-- What html has no sign for stands nowhere among the tokens. -/
theorem spots_stops (n : Nat) (hn : 1 ≤ n) (Bl : Nat) (a : Option Addr) (cap : Nat) (ts : List BTok) (us : List Pl) (hlen : ts.length ≤ 1048576) (w : World) (hR : SpRd Bl a cap ts us w) :
    SeqStopsK Fence.wide n Tryz.prog 75 #[.pointer (some ⟨Bl, 0, none⟩)] (fun x : Nat => #[spotV ts us x]) (fun A B => SpRd Bl a cap ts us A → SpRd Bl a cap ts us B) (fun ys => ys = List.range ts.length) (fun pre => pre <+: List.range ts.length) (ts.length + 1) w :=
  fun l J Jx W hW hJ _ hY h0 => spots1_in n hn l Bl a cap ts us hlen W (hR.below hW) J Jx hJ hY h0
end Go.Proofs.YtefjfjieoiegnaaGreatDoor
/- Characters looked for among signs below 128: strings.IndexRune. -/
namespace Go.Proofs.YtefjfjieoiegnaaGreatDoor
open Go.RowKit
end Go.Proofs.YtefjfjieoiegnaaGreatDoor
/- A character above 127 among signs below 128: strings.IndexRune. -/
namespace Go.Proofs.YtefjfjieoiegnaaGreatDoor
open Go.RowKit
end Go.Proofs.YtefjfjieoiegnaaGreatDoor
