/- Numbers multiplied digit by digit: stencilref02's Mul. -/
import Derived.Test.YtnpdjddebeipiaaGreatDoorRecMulP
import Derived.Test.YtnpdjddebeipiaaGreatDoorRecSmall
import Derived.Test.YtnpdjddebeipiaaGreatDoorNumCls
import Derived.Deep.OwnRows
import Derived.BigQuiet
import Derived.BigGuard
import Derived.BigCall
import Derived.Deep.QuietTactic
namespace Go.Proofs.YtnpdjddebeipiaaGreatDoor
open Go.RowKit
/-- Worlds behind one. -/
structure ClsW (W0 : World) (u : World) : Prop where
  bel : Below W0.heap.size W0 u
/-- The sign of a number. -/
def sgnN (k v : Int) : Int := if k = 3 ∨ (k = 0 ∧ v < 0) then -1 else if k = 0 ∧ v = 0 then 0 else 1
theorem sgn_cases (v : Int) : sgnN 0 v = -1 ∨ sgnN 0 v = 0 ∨ sgnN 0 v = 1 := by
  unfold sgnN
  split
  · exact .inl rfl
  · split
    · exact .inr (.inl rfl)
    · exact .inr (.inr rfl)
theorem sgn_wrap (v u : Int) : wrap64 (sgnN 0 v * sgnN 0 u) = sgnN 0 v * sgnN 0 u := by
  rcases sgn_cases v with h | h | h <;> rcases sgn_cases u with h' | h' | h' <;> rw [h, h'] <;> unfold wrap64 <;> decide
set_option maxHeartbeats 1000000 in
theorem refSign_fin (v : Int) (w : World) :
    Calls Tryz.prog 34 #[.agg #[.int .i64 0, .int .i64 v]] w fun e w' => e = .returned (.int .i64 (sgnN 0 v)) ∧ Below w.heap.size w w' := by
  unfold sgnN
  by_cases h1 : v < 0
  · rw [if_pos (.inr ⟨rfl, h1⟩)]
    go_enter Tryz.func34, Tryz.ntmps34
    go_wp2
    go_ret
    exact ⟨rfl, by go_grown⟩
  · rw [if_neg (by rintro (h | ⟨_, h⟩); cases h; exact h1 h)]
    by_cases h2 : v = 0
    · subst h2
      go_enter Tryz.func34, Tryz.ntmps34
      go_wp2
      go_ret
      exact ⟨rfl, by go_grown⟩
    · rw [if_neg (fun h => h2 h.2)]
      have e2 : (v == 0) = false := by simpa using h2
      clear h2
      go_enter Tryz.func34, Tryz.ntmps34
      go_wp2
      go_ret
      exact ⟨rfl, by go_grown⟩
/-- Two rows of digits. -/
def RowsXY (lx ly : List Nat) (vx vy : Value) (w : World) : Prop := ∃ ax cx ay cy, vx = .slice ax lx.length cx ∧ vy = .slice ay ly.length cy ∧ CellsD w ax lx ∧ CellsD w ay ly
theorem own_cells {w : World} {B : Nat} {v : Value} {l : List Nat} (h : w.ownsRow B 3 1 v l.length (intsD l)) : ∃ a c, v = .slice a l.length c ∧ CellsD w a l := by
  rcases h.2 with ⟨rfl, h0⟩ | ⟨g, cap, cur, rfl, _⟩
  · refine ⟨none, 0, by rw [h0], fun hne => absurd (List.eq_nil_of_length_eq_zero h0) hne⟩
  · refine ⟨_, _, rfl, fun _ => ⟨g, 0, rfl, fun i x hi => ?_⟩⟩
    have h2 := h.cellAt i (by obtain ⟨hi, _⟩ := List.getElem?_eq_some_iff.1 hi; omega)
    rw [Nat.zero_add, h2]
    unfold intsD
    rw [List.getElem?_map, hi]
    rfl
theorem rowsXY_of {w : World} {B B' : Nat} {vx vy : Value} {lx ly : List Nat} (h : w.ownsRow B 3 1 vx lx.length (intsD lx)) (h' : w.ownsRow B' 3 1 vy ly.length (intsD ly)) : RowsXY lx ly vx vy w := by
  obtain ⟨a, c, rfl, h1⟩ := own_cells h
  obtain ⟨a', c', rfl, h2⟩ := own_cells h'
  exact ⟨a, c, a', c', rfl, rfl, h1, h2⟩
theorem wrapN (n : Int) (m : Nat) (h : n = (m : Int)) (h2 : m < 4611686018427387904) : wrap64 n = (m : Int) := by
  rw [h]
  unfold wrap64
  omega
theorem i64_is' (n : Int) : IntKind.i64.wrap n = wrap64 n := by
  rw [IntKind.wrap_i64]
  unfold wrap64
  omega
theorem valD_lt (l : List Nat) (h : ∀ d ∈ l, d < 10) : valD l < 10 ^ l.length := by
  induction l with
  | nil => show 0 < 1; decide
  | cons a l ih =>
    have h1 := ih (fun d hd => h d (List.mem_cons_of_mem _ hd))
    have h2 := h a (List.mem_cons_self ..)
    rw [valD, List.length_cons, Nat.pow_succ]
    omega
/-- A row of places of one's own. -/
def ZRow (w : World) (B g N : Nat) (Z : Nat → Nat) : Prop := w.ownsRow B 3 1 (.slice (some ⟨g, 0, none⟩) N N) N (intsD ((List.range N).map Z))
theorem ZRow.cell {w : World} {B g N : Nat} {Z : Nat → Nat} (h : ZRow w B g N Z) (j : Nat) (hj : j < N) : w.cell? ⟨g, j, none⟩ = some (.int .i64 ((Z j : Nat) : Int)) := by
  have := World.ownsRow.cellAt h j (by omega)
  rw [this]
  unfold intsD
  rw [List.getElem?_map, List.getElem?_map, List.getElem?_range hj]
  rfl
theorem ZRow.frozen {w : World} {B g N : Nat} {Z : Nat → Nat} (h : ZRow w B g N Z) (j : Nat) : w.frozen? ⟨g, j, none⟩ = false := World.ownsRow.frozenAt h j
theorem ZRow.put {w : World} {B g N : Nat} {Z : Nat → Nat} (h : ZRow w B g N Z) (j v : Nat) : ZRow (w.setCell ⟨g, j, none⟩ (.int .i64 (v : Int))) B g N (fun x => if x = j then v else Z x) := by
  have := (World.ownsRow.stored h j (.int .i64 (v : Int))).1
  have e : (intsD ((List.range N).map Z)).set j (.int .i64 (v : Int)) = intsD ((List.range N).map (fun x => if x = j then v else Z x)) := by
    unfold intsD
    apply List.ext_getElem
    · simp
    · intro i h1 h2
      rw [List.getElem_set]
      by_cases c : j = i
      · subst c
        simp
      · rw [if_neg c]
        simp [show ¬ i = j from fun e => c e.symm]
  unfold ZRow
  rw [← e]
  exact this
theorem ZRow.new (w : World) (B N : Nat) (hB : B ≤ w.heap.size) (hN : N ≤ maxLen) : ZRow (w.alloc (.cells (madeCells #[.int .i64 0] N) 3)) B w.heap.size N (fun _ => 0) := by
  have := World.ownsRow_lit (base := B) (e := 3) (size := 1) w (madeCells #[.int .i64 0] N) N hB hN (by rw [size_madeCells]; omega)
  rw [toList_madeCells_one] at this
  have e : intsD ((List.range N).map fun _ => 0) = List.replicate N (.int .i64 0) := by
    unfold intsD
    rw [List.map_map]
    apply List.ext_getElem
    · simp
    · intro i h1 h2
      simp
  unfold ZRow
  rw [e]
  exact this
set_option maxRecDepth 100000 in
set_option maxHeartbeats 1000000 in
theorem refMade_great (n : Nat) (b : Bool) (w : World) :
    Calls Tryz.prog 33 #[.int .u64 (n : Int), .bool b, .bool true] w fun e w' => e = .returned (.agg #[.int .i64 (infK b), .int .i64 0]) ∧ Below w.heap.size w w' := by
  have HI := hide (fun w => refInf_any b w)
  generalize infK b = K at *
  go_enter Tryz.func33, Tryz.ntmps33
  go_wp2_with fail
  refine (unhide HI _).mono ?_
  rintro e w7 ⟨rfl, hb7⟩
  have hNz := NumAt.below (b := w.heap.size) (k := 0) (v := 0) ⟨by simp [go_sem], by simp [go_sem], by simp [go_sem], by simp [go_sem]⟩ hb7
  have hfin : Below w.heap.size w w7 := Below.then (by (repeat first | exact Below.refl _ _ | assumption | refine Below.drew ?_ | refine Below.alloc ?_ (by simp <;> omega) _ | refine Below.setCell ?_ (by simp <;> omega) _)) hb7
  have hP := hNz.put K 0
  have hB := putN_below hfin (Nat.le_refl w.heap.size) K 0
  obtain ⟨q0, q1, q2, q3⟩ := hNz
  clear hb7 hfin
  go_wp2
  show bodyPost _ _ _ _ _ (putN w7 w.heap.size K 0)
  generalize putN w7 w.heap.size K 0 = X at hP hB ⊢
  obtain ⟨x0, x1, _, _⟩ := hP
  refine bodyPost_ret (v := .agg #[.int .i64 K, .int .i64 0]) ?_ rfl ⟨rfl, hB⟩
  simp [results, Tryz.results33, go_sem, x0, x1]
set_option maxRecDepth 100000 in
set_option maxHeartbeats 4000000 in
theorem refMul_fin (v u : Int) (w : World) (h1 : -1000000000000000000 ≤ v) (h2 : v ≤ 1000000000000000000) (h3 : -1000000000000000000 ≤ u) (h4 : u ≤ 1000000000000000000) :
    Calls Tryz.prog 13 #[.agg #[.int .i64 0, .int .i64 v], .agg #[.int .i64 0, .int .i64 u]] w fun e w' => e = .returned (.agg #[.int .i64 (signK (decide (sgnN 0 v * sgnN 0 u < 0)) (v.natAbs * u.natAbs / 1000000)), .int .i64 (signN (decide (sgnN 0 v * sgnN 0 u < 0)) (v.natAbs * u.natAbs / 1000000))]) ∧ Below w.heap.size w w' := by
  have HZV := hide (fun w => refSize_any 0 v w h1 h2)
  have HZU := hide (fun w => refSize_any 0 u w h3 h4)
  go_enter Tryz.func13, Tryz.ntmps13
  go_wp2_with fail
  have hW0 : Below w.heap.size w (((w.alloc (.cells #[.int .i64 0, .int .i64 v] 24)).alloc (.cells #[.int .i64 0, .int .i64 u] 24)).alloc (.cells #[.int .i64 0, .int .i64 0] 24)) := by
    (repeat first | exact Below.refl _ _ | refine Below.alloc ?_ (by simp <;> omega) _)
  have g0 : (((w.alloc (.cells #[.int .i64 0, .int .i64 v] 24)).alloc (.cells #[.int .i64 0, .int .i64 u] 24)).alloc (.cells #[.int .i64 0, .int .i64 0] 24)).cell? ⟨w.heap.size, 0, none⟩ = some (.int .i64 0) := by simp [go_sem]
  have g1 : (((w.alloc (.cells #[.int .i64 0, .int .i64 v] 24)).alloc (.cells #[.int .i64 0, .int .i64 u] 24)).alloc (.cells #[.int .i64 0, .int .i64 0] 24)).cell? ⟨w.heap.size, 1, none⟩ = some (.int .i64 v) := by simp [go_sem]
  have g2 : (((w.alloc (.cells #[.int .i64 0, .int .i64 v] 24)).alloc (.cells #[.int .i64 0, .int .i64 u] 24)).alloc (.cells #[.int .i64 0, .int .i64 0] 24)).cell? ⟨w.heap.size + 1, 0, none⟩ = some (.int .i64 0) := by simp [go_sem]
  have g3 : (((w.alloc (.cells #[.int .i64 0, .int .i64 v] 24)).alloc (.cells #[.int .i64 0, .int .i64 u] 24)).alloc (.cells #[.int .i64 0, .int .i64 0] 24)).cell? ⟨w.heap.size + 1, 1, none⟩ = some (.int .i64 u) := by simp [go_sem]
  have hNR : NumAt (((w.alloc (.cells #[.int .i64 0, .int .i64 v] 24)).alloc (.cells #[.int .i64 0, .int .i64 u] 24)).alloc (.cells #[.int .i64 0, .int .i64 0] 24)) (w.heap.size + 1 + 1) 0 0 := ⟨by simp [go_sem], by simp [go_sem], by simp [go_sem], by simp [go_sem]⟩
  generalize (((w.alloc (.cells #[.int .i64 0, .int .i64 v] 24)).alloc (.cells #[.int .i64 0, .int .i64 u] 24)).alloc (.cells #[.int .i64 0, .int .i64 0] 24)) = W at *
  have HNR := hide hNR
  clear hNR
  have HG := hide (fun u0 (hu : ClsW W u0) => And.intro (kept_cell hu.bel g0) (And.intro (kept_cell hu.bel g1) (And.intro (kept_cell hu.bel g2) (kept_cell hu.bel g3))))
  have HX := hide (show ClsW W W.drew from ⟨(Below.refl _ _).drew⟩)
  have HCB := hide (fun (a b : World) (h : ClsW W a) (hb : Below a.heap.size a b) => (⟨Below.then h.bel hb⟩ : ClsW W b))
  have HW0 := hide hW0
  clear g0 g1 g2 g3 hW0
  refine wp_region_cls (ClsW W) (by kernel_rfl) (by kernel_rfl) (unhide HX) ?_
  repeat
    (first
      | go_big_quiet_skip
      | (go_big_quiet_want
         go_big_quiet_op
         first
           | go_big_quiet_on
           | (apply Exists.intro
              refine ⟨fun w' hC => ?_, ?_⟩
              · (first
                  | (go_at_call 34; refine (refSign_fin _ _).mono ?_; rintro e w3 ⟨rfl, hb3⟩; exact ⟨rfl, unhide HCB _ _ hC hb3⟩)
                  | (obtain ⟨k0, k1, k2, k3⟩ := unhide HG _ hC; go_simp; first | done | rfl))
              go_big_quiet_on)))
  refine wpQuiet_nil ?_
  intro w2 hC2
  obtain ⟨k0, k1, k2, k3⟩ := unhide HG _ hC2
  have HB2 := hide (Below.then (unhide HW0) hC2.bel)
  have HNR2 := hide ((unhide HNR).below hC2.bel)
  clear hC2 HG HX HCB
  have hv64 : v.natAbs < 18446744073709551616 := by omega
  have hu64 : u.natAbs < 18446744073709551616 := by omega
  have HDV := hide (fun w => refDigits_own v.natAbs w hv64)
  have HDU := hide (fun w => refDigits_own u.natAbs w hu64)
  have HSG := hide (sgn_wrap v u)
  go_wp2_with fail
  rw [unhide HSG]
  obtain ⟨below, hbel⟩ : ∃ b, b = decide (sgnN 0 v * sgnN 0 u < 0) := ⟨_, rfl⟩
  rw [← hbel]
  have HBE := hide hbel
  clear hbel
  have HLX := hide (digs_len v.natAbs 20 (by omega))
  have HLY := hide (digs_len u.natAbs 20 (by omega))
  clear HSG hv64 hu64 h1 h2 h3 h4
  generalize hnv : v.natAbs = nv at *
  generalize hnu : u.natAbs = nu at *
  go_cut [6, 7] (fun sx sy wx => RowsXY (digsL nv) (digsL nu) sx sy wx ∧ Below w2.heap.size w2 wx)
  case first =>
    go_region_with (first
      | (go_at_call_of 37 (Value.agg #[Value.int IntKind.i64 0, Value.int IntKind.i64 v]); refine (unhide HZV _).mono ?_; rintro e w3 ⟨rfl, hb3⟩; (try have k2 := kept_cell hb3 k2); (try have k3 := kept_cell hb3 k3); have HB3 := hide hb3; clear hb3)
      | (go_at_call_of 36 (Value.int IntKind.u64 (nv : Int)); refine (unhide HDV _).mono ?_; rintro e w4 ⟨⟨vx, rfl, hx⟩, hb4⟩; (try have k2 := kept_cell hb4 k2); (try have k3 := kept_cell hb4 k3); have HB4 := hide hb4; have HX4 := hide hx; clear hb4 hx)
      | (go_at_call_of 37 (Value.agg #[Value.int IntKind.i64 0, Value.int IntKind.i64 u]); refine (unhide HZU _).mono ?_; rintro e w5 ⟨rfl, hb5⟩; have HB5 := hide hb5; clear hb5)
      | (go_at_call_of 36 (Value.int IntKind.u64 (nu : Int)); refine (unhide HDU _).mono ?_; rintro e w6 ⟨⟨vy, rfl, hy⟩, hb6⟩; have HB6 := hide hb6; have HY6 := hide hy; clear hb6 hy))
    all_goals (try go_wp2_with fail)
    all_goals go_meet
    all_goals
      refine ⟨rowsXY_of (own_on (own_on (unhide HX4) (unhide HB5)) (unhide HB6)) (unhide HY6), ?_⟩
      exact Below.then (Below.then (Below.then (Below.then ((Below.refl _ w2).drew) (unhide HB3)) (unhide HB4)) (unhide HB5)) (unhide HB6)
  case rest =>
    obtain ⟨hxy, hbx⟩ := hcut
    have HXY := hide hxy
    obtain ⟨ax, cx, ay, cy, rfl, rfl, hcx, hcy⟩ := hxy
    have HVX := hide (valD_digs nv)
    have HVY := hide (valD_digs nu)
    have HLOX := hide (digs_low nv)
    have HLOY := hide (digs_low nu)
    have HBC := hide (Below.then (unhide HB2) hbx)
    have HNR3 := hide ((unhide HNR2).below hbx)
    have hlx := unhide HLX
    have hly := unhide HLY
    have HCX := hide hcx
    have HCY := hide hcy
    clear HZV HZU HDV HDU k0 k1 k2 k3 HXY HB2 hbx hcx hcy
    generalize digsL nv = lx at *
    generalize digsL nu = ly at *
    obtain ⟨M, hM⟩ : ∃ M : Nat, M = lx.length + ly.length := ⟨_, rfl⟩
    obtain ⟨N, hN⟩ : ∃ N : Nat, N = M + 1 := ⟨_, rfl⟩
    have f1 : (lx.length : Int) + (ly.length : Int) = (M : Int) ∧ M < 4611686018427387904 := by omega
    have f2 : (M : Int) + 1 = (N : Int) ∧ N < 4611686018427387904 := by omega
    have hmk := run_make_row' (P := Tryz.prog) 45 3 (.int .i64 0) 8 Tryz.underlying45 infoIntD rfl .i64 .i64 N (by omega) (by omega)
    have HN := hide (show N = lx.length + ly.length + 1 by omega)
    have HL := hide (And.intro hlx hly)
    have HZ0 := hide (ZRow.new wc wc.heap.size N (Nat.le_refl _) (by unfold maxLen; omega))
    have HB0 := hide ((Below.refl wc.heap.size wc).alloc (Nat.le_refl _) (.cells (madeCells #[.int .i64 0] N) 3))
    have e1 : wrap64 ((lx.length : Int) + (ly.length : Int)) = (M : Int) := wrapN _ _ f1.1 f1.2
    have e2 : wrap64 ((M : Int) + 1) = (N : Int) := wrapN _ _ f2.1 f2.2
    clear hN hM hlx hly f1 f2
    go_wp2_with fail
    clear hmk e1 e2
    generalize (wc.alloc (.cells (madeCells #[.int .i64 0] N) 3)) = W1 at *
    go_loopw [9] (fun vi wr => ∃ (i : Nat) (Z : Nat → Nat), vi = .int .i64 (i : Int) ∧ i ≤ lx.length ∧ Hid (valF Z N = valD (lx.take i) * valD ly ∧ (∀ j, Z j ≤ 81 * (i * 20)) ∧ ZRow wr wc.heap.size wc.heap.size N Z) ∧ Below wc.heap.size wc wr) (fun vi _ => lx.length - valU vi)
    case atStart =>
      refine ⟨0, fun _ => 0, rfl, Nat.zero_le _, hide ⟨?_, fun j => Nat.zero_le _, unhide HZ0⟩, unhide HB0⟩
      rw [List.take_zero, valD, Nat.zero_mul]
      exact valF_zero N
    case round =>
      obtain ⟨i, Z, rfl, hi, hZ, hbr⟩ := hrel
      by_cases hlt : i < lx.length
      · have hlt' : (i : Int) < (lx.length : Int) := by omega
        obtain ⟨a, ha⟩ : ∃ a, lx[i]? = some a := ⟨_, List.getElem?_eq_getElem hlt⟩
        have HA := hide ha
        have HBR := hide hbr
        have HI := hide hlt
        clear ha hbr hi hlt
        go_wp2_with fail
        go_loopw [10] (fun vk wq => ∃ (k : Nat) (Y : Nat → Nat), vk = .int .i64 (k : Int) ∧ k ≤ ly.length ∧ Hid (valF Y N = valD (lx.take i) * valD ly + a * 10 ^ i * valD (ly.take k) ∧ (∀ j, Y j ≤ 81 * (i * 20 + k)) ∧ ZRow wq wc.heap.size wc.heap.size N Y) ∧ Below wc.heap.size wc wq) (fun vk _ => ly.length - valU vk)
        case atStart =>
          refine ⟨0, Z, rfl, Nat.zero_le _, hide ⟨?_, fun j => (unhide hZ).2.1 j, (unhide hZ).2.2⟩, unhide HBR⟩
          rw [List.take_zero, valD, Nat.mul_zero, Nat.add_zero]
          exact (unhide hZ).1
        case round =>
          obtain ⟨k, Y, rfl, hk, hY, hbq⟩ := hrel
          by_cases hltk : k < ly.length
          · have hltk' : (k : Int) < (ly.length : Int) := by omega
            obtain ⟨d, hd⟩ : ∃ d, ly[k]? = some d := ⟨_, List.getElem?_eq_getElem hltk⟩
            have hi := unhide HI
            obtain ⟨gx, ox, rfl, hcellx⟩ := unhide HCX (by intro h; rw [h] at hi; simp at hi)
            obtain ⟨gy, oy, rfl, hcelly⟩ := unhide HCY (by intro h; rw [h] at hltk; simp at hltk)
            have c0 := kept_cell hbq (hcellx i a (unhide HA))
            have c1 := kept_cell hbq (hcelly k d hd)
            have hal := unhide HLOX a (List.mem_of_getElem? (unhide HA))
            have hdl := unhide HLOY d (List.mem_of_getElem? hd)
            have hNN := unhide HN
            have hLL := unhide HL
            obtain ⟨q, hq⟩ : ∃ q, q = i + k := ⟨_, rfl⟩
            have hqN : q < N := by omega
            have c2 := (unhide hY).2.2.cell q hqN
            have c3 := (unhide hY).2.2.frozen q
            have hyb := (unhide hY).2.1 q
            obtain ⟨y, hy⟩ : ∃ y, y = Y q := ⟨_, rfl⟩
            rw [← hy] at c2 hyb
            obtain ⟨pr, hpr⟩ : ∃ pr, pr = a * d := ⟨_, rfl⟩
            have hpr81 : pr ≤ 81 := by rw [hpr]; exact Nat.mul_le_mul (show a ≤ 9 by omega) (show d ≤ 9 by omega)
            obtain ⟨sm, hsm⟩ : ∃ sm, sm = y + pr := ⟨_, rfl⟩
            obtain ⟨k1, hk1⟩ : ∃ k1, k1 = k + 1 := ⟨_, rfl⟩
            have f1 : (i : Int) + (k : Int) = (q : Int) ∧ q < 4611686018427387904 := by omega
            have f2 : pr < 4611686018427387904 := by omega
            have f3 : (y : Int) + (pr : Int) = (sm : Int) ∧ sm < 4611686018427387904 := by omega
            have f4 : (k : Int) + 1 = (k1 : Int) ∧ k1 < 4611686018427387904 := by omega
            have b0 : (q : Int) < (N : Int) := by omega
            have hlt' : (i : Int) < (lx.length : Int) := by omega
            have HEND := hide (show k1 ≤ ly.length ∧ Hid (valF (addAt Y q pr) N = valD (lx.take i) * valD ly + a * 10 ^ i * valD (ly.take k1) ∧ (∀ j, addAt Y q pr j ≤ 81 * (i * 20 + k1)) ∧ ZRow (wr.setCell ⟨wc.heap.size, q, none⟩ (.int .i64 (sm : Int))) wc.heap.size wc.heap.size N (addAt Y q pr)) ∧ Below wc.heap.size wc (wr.setCell ⟨wc.heap.size, q, none⟩ (.int .i64 (sm : Int))) from by
              refine ⟨by omega, hide ⟨?_, ?_, ?_⟩, ?_⟩
              · rw [hk1, valD_take ly k d hd, hpr, hq]
                exact mul_step Y N i k a d _ _ (by omega) (unhide hY).1
              · intro j
                have := (unhide hY).2.1 j
                unfold addAt
                split <;> omega
              · have := (unhide hY).2.2.put q sm
                have e : (fun x => if x = q then sm else Y x) = addAt Y q pr := by
                  funext x
                  unfold addAt
                  by_cases c : x = q
                  · rw [if_pos c, if_pos c, hsm, hy, c]
                  · rw [if_neg c, if_neg c]
                rw [e] at this
                exact this
              · exact Below.setCell hbq (Nat.le_refl _) _)
            have HMS := hide (show ly.length - ((k1 : Int)).toNat < ly.length - ((k : Int)).toNat by rw [Int.toNat_natCast, Int.toNat_natCast]; omega)
            have e2 : wrap64 ((a : Int) * (d : Int)) = (pr : Int) := wrapN _ _ (by rw [hpr]; exact (Int.natCast_mul a d).symm) f2
            have e1 : wrap64 ((i : Int) + (k : Int)) = (q : Int) := wrapN _ _ f1.1 f1.2
            have e3 : wrap64 ((y : Int) + (pr : Int)) = (sm : Int) := wrapN _ _ f3.1 f3.2
            have e4 : wrap64 ((k : Int) + 1) = (k1 : Int) := wrapN _ _ f4.1 f4.2
            clear hcellx hcelly hd hNN hLL hq hqN hyb hy hpr hpr81 hsm hk1 hal hdl hbq hY hk hltk hi f1 f2 f3 f4
            have i1' : IntKind.i64.wrap ((i : Int) + (k : Int)) = (q : Int) := (i64_is' _).trans e1
            have i2' : IntKind.i64.wrap ((a : Int) * (d : Int)) = (pr : Int) := (i64_is' _).trans e2
            have i3' : IntKind.i64.wrap ((y : Int) + (pr : Int)) = (sm : Int) := (i64_is' _).trans e3
            have d0 : wr.drew.cell? ⟨gx, ox + i, none⟩ = _ := c0
            have d1 : wr.drew.cell? ⟨gy, oy + k, none⟩ = _ := c1
            have d2 : wr.drew.cell? ⟨wc.heap.size, q, none⟩ = _ := c2
            have d3 : wr.drew.frozen? ⟨wc.heap.size, q, none⟩ = _ := c3
            go_wp2_with fail
            go_region
            all_goals (try go_wp2_with fail)
            rw [e4]
            exact ⟨⟨k1, addAt Y q pr, rfl, (unhide HEND).1, hide (unhide (unhide HEND).2.1), (unhide HEND).2.2.drew⟩, unhide HMS⟩
          · have hltk' : ¬ (k : Int) < (ly.length : Int) := by omega
            have hkl : k = ly.length := by omega
            have hi := unhide HI
            have hLL := unhide HL
            obtain ⟨i1, hi1⟩ : ∃ i1, i1 = i + 1 := ⟨_, rfl⟩
            have f1 : (i : Int) + 1 = (i1 : Int) ∧ i1 < 4611686018427387904 := by omega
            have HEND := hide (show i1 ≤ lx.length ∧ Hid (valF Y N = valD (lx.take i1) * valD ly ∧ (∀ j, Y j ≤ 81 * (i1 * 20)) ∧ ZRow wr wc.heap.size wc.heap.size N Y) ∧ Below wc.heap.size wc wr from by
              refine ⟨by omega, hide ⟨?_, ?_, (unhide hY).2.2⟩, hbq⟩
              · rw [hi1, valD_take lx i a (unhide HA), (unhide hY).1, hkl, List.take_length, Nat.add_mul]
              · intro j
                have := (unhide hY).2.1 j
                omega)
            have HMS := hide (show lx.length - ((i1 : Int)).toNat < lx.length - ((i : Int)).toNat by rw [Int.toNat_natCast, Int.toNat_natCast]; omega)
            have e1 : wrap64 ((i : Int) + 1) = (i1 : Int) := wrapN _ _ f1.1 f1.2
            clear hkl hi hLL hi1 f1 hbq hY hk hltk
            go_wp2_with fail
            rw [e1]
            exact ⟨⟨i1, Y, rfl, (unhide HEND).1, (unhide HEND).2.1, (unhide HEND).2.2⟩, unhide HMS⟩
      · have hlt' : ¬ (i : Int) < (lx.length : Int) := by omega
        have hil : i = lx.length := by omega
        have hNN := unhide HN
        have hLL := unhide HL
        have HZ2 := hide (show valF Z N = nv * nu ∧ (∀ j, Z j ≤ 32400) ∧ ZRow wr wc.heap.size wc.heap.size N Z from by
          refine ⟨?_, ?_, (unhide hZ).2.2⟩
          · rw [(unhide hZ).1, hil, List.take_length, unhide HVX, unhide HVY]
          · intro j
            have := (unhide hZ).2.1 j
            omega)
        have HBR := hide hbr
        clear hZ hbr hil hi hlt hNN hLL
        go_wp2_with fail
        go_loopw [11] (fun vi wq => ∃ (i : Nat) (Z : Nat → Nat), vi = .int .i64 (i : Int) ∧ i + 1 ≤ N ∧ Hid (valF Z N = nv * nu ∧ (∀ j, j < i → Z j < 10) ∧ Z i ≤ 36000 ∧ (∀ j, i < j → Z j ≤ 32400) ∧ ZRow wq wc.heap.size wc.heap.size N Z) ∧ Below wc.heap.size wc wq) (fun vi _ => N - valU vi)
        case atStart =>
          refine ⟨0, Z, rfl, ?_, hide ⟨(unhide HZ2).1, fun j hj => absurd hj (Nat.not_lt_zero j), ?_, fun j _ => (unhide HZ2).2.1 j, (unhide HZ2).2.2⟩, unhide HBR⟩
          · rw [unhide HN]
            omega
          · have := (unhide HZ2).2.1 0
            omega
        case round =>
          obtain ⟨m, Y, rfl, hm, hY, hbq⟩ := hrel
          obtain ⟨m1, hm1⟩ : ∃ m1, m1 = m + 1 := ⟨_, rfl⟩
          have hNN := unhide HN
          have hLL := unhide HL
          have f1 : (m : Int) + 1 = (m1 : Int) ∧ m1 < 4611686018427387904 := by omega
          by_cases hltm : m1 < N
          · have hltm' : (m1 : Int) < (N : Int) := by omega
            have hmN : (m : Int) < (N : Int) := by omega
            have c0 := (unhide hY).2.2.2.2.cell m (by omega)
            have c1 := (unhide hY).2.2.2.2.cell m1 hltm
            have c2 := (unhide hY).2.2.2.2.frozen m1
            have hb0 := (unhide hY).2.2.1
            have hb1 := (unhide hY).2.2.2.1 m1 (by omega)
            obtain ⟨y0, hy0⟩ : ∃ y, y = Y m := ⟨_, rfl⟩
            obtain ⟨y1, hy1⟩ : ∃ y, y = Y m1 := ⟨_, rfl⟩
            rw [← hy0] at c0 hb0
            rw [← hy1] at c1 hb1
            obtain ⟨t, ht⟩ : ∃ t, t = y0 / 10 := ⟨_, rfl⟩
            obtain ⟨r, hr⟩ : ∃ r, r = y0 % 10 := ⟨_, rfl⟩
            obtain ⟨sm, hsm⟩ : ∃ sm, sm = y1 + t := ⟨_, rfl⟩
            have HP1 := hide ((unhide hY).2.2.2.2.put m1 sm)
            have c3 := (unhide HP1).cell m (by omega)
            rw [if_neg (show ¬ m = m1 by omega), ← hy0] at c3
            have c4 := (unhide HP1).frozen m
            have f2 : (y1 : Int) + (t : Int) = (sm : Int) ∧ sm < 4611686018427387904 := by omega
            have e1 : ((y0 : Int)).tdiv 10 = (t : Int) := by rw [Int.tdiv_eq_ediv_of_nonneg (by omega)]; omega
            have e2 : (y0 : Int) / 10 = (t : Int) := by omega
            have e3 : ((y0 : Int)).tmod 10 = (r : Int) := by rw [Int.tmod_eq_emod_of_nonneg (by omega)]; omega
            have e4 : (y0 : Int) % 10 = (r : Int) := by omega
            have f5 : t < 4611686018427387904 ∧ r < 4611686018427387904 := by omega
            have HEND := hide (show m1 + 1 ≤ N ∧ Hid (valF (carry Y m) N = nv * nu ∧ (∀ j, j < m1 → carry Y m j < 10) ∧ carry Y m m1 ≤ 36000 ∧ (∀ j, m1 < j → carry Y m j ≤ 32400) ∧ ZRow ((wr.setCell ⟨wc.heap.size, m1, none⟩ (.int .i64 (sm : Int))).setCell ⟨wc.heap.size, m, none⟩ (.int .i64 (r : Int))) wc.heap.size wc.heap.size N (carry Y m)) ∧ Below wc.heap.size wc ((wr.setCell ⟨wc.heap.size, m1, none⟩ (.int .i64 (sm : Int))).setCell ⟨wc.heap.size, m, none⟩ (.int .i64 (r : Int))) from by
              refine ⟨by omega, hide ⟨?_, ?_, ?_, ?_, ?_⟩, ?_⟩
              · rw [valF_carry Y m N (by omega)]
                exact (unhide hY).1
              · intro j hj
                unfold carry
                split
                · omega
                · rw [if_neg (by omega)]
                  exact (unhide hY).2.1 j (by omega)
              · unfold carry
                rw [if_neg (by omega), if_pos hm1, ← hm1, ← hy1, ← hy0]
                omega
              · intro j hj
                unfold carry
                rw [if_neg (by omega), if_neg (by omega)]
                exact (unhide hY).2.2.2.1 j (by omega)
              · have := (unhide HP1).put m r
                have e : (fun x => if x = m then r else if x = m1 then sm else Y x) = carry Y m := by
                  funext x
                  unfold carry
                  rw [← hm1, ← hy1, ← hy0, ← ht, ← hr, ← hsm]
                rw [e] at this
                exact this
              · exact Below.setCell (Below.setCell hbq (Nat.le_refl _) _) (Nat.le_refl _) _)
            have HMS := hide (show N - ((m1 : Int)).toNat < N - ((m : Int)).toNat by rw [Int.toNat_natCast, Int.toNat_natCast]; omega)
            have w1 : wrap64 ((m : Int) + 1) = (m1 : Int) := wrapN _ _ f1.1 f1.2
            have w2' : wrap64 ((y1 : Int) + (t : Int)) = (sm : Int) := wrapN _ _ f2.1 f2.2
            have w3 : wrap64 (t : Int) = (t : Int) := wrapN _ _ rfl f5.1
            have w4 : wrap64 (r : Int) = (r : Int) := wrapN _ _ rfl f5.2
            have x1 : IntKind.i64.wrap ((m : Int) + 1) = (m1 : Int) := (i64_is' _).trans w1
            have x2 : IntKind.i64.wrap ((y1 : Int) + (t : Int)) = (sm : Int) := (i64_is' _).trans w2'
            have x3 : IntKind.i64.wrap (t : Int) = (t : Int) := (i64_is' _).trans w3
            have x4 : IntKind.i64.wrap (r : Int) = (r : Int) := (i64_is' _).trans w4
            clear hNN hLL hm1 hy0 hy1 ht hr hsm hb0 hb1 f1 f2 f5 hm hY hbq HP1 hltm
            have d0 : wr.drew.cell? ⟨wc.heap.size, m, none⟩ = _ := c0
            have d1 : wr.drew.cell? ⟨wc.heap.size, m1, none⟩ = _ := c1
            have d2 : wr.drew.frozen? ⟨wc.heap.size, m1, none⟩ = _ := c2
            have d3 : (wr.setCell ⟨wc.heap.size, m1, none⟩ (.int .i64 (sm : Int))).drew.cell? ⟨wc.heap.size, m, none⟩ = _ := c3
            have d4 : (wr.setCell ⟨wc.heap.size, m1, none⟩ (.int .i64 (sm : Int))).drew.frozen? ⟨wc.heap.size, m, none⟩ = _ := c4
            go_wp2_with fail
            go_region
            all_goals (try go_wp2_with fail)
            exact ⟨⟨m1, carry Y m, rfl, (unhide HEND).1, hide (unhide (unhide HEND).2.1), (unhide HEND).2.2.drew⟩, unhide HMS⟩
          · have hltm' : ¬ (m1 : Int) < (N : Int) := by omega
            have HCALL := hide (show ∀ w', Below wr.heap.size wr w' → Calls Tryz.prog 38 #[.slice (some ⟨wc.heap.size, 0, none⟩) N N, .int .i64 6] w' fun e w'' => WholeOut (nv * nu / 1000000) e ∧ Below w'.heap.size w' w'' from by
              intro w' hw'
              have hlen : ((List.range N).map Y).length = N := by simp
              have hlow : ∀ j, j < N → Y j ≤ 36000 := by
                intro j hj
                by_cases c : j < m
                · have := (unhide hY).2.1 j c
                  omega
                · have : j = m := by omega
                  rw [this]
                  exact (unhide hY).2.2.1
              have htop : Y m = 0 := by
                have h1 := (unhide hY).1
                obtain rfl : N = m + 1 := by omega
                have h2 : nv * nu < 10 ^ m := by
                  have h3 := valD_lt lx (unhide HLOX)
                  have h4 := valD_lt ly (unhide HLOY)
                  rw [unhide HVX] at h3
                  rw [unhide HVY] at h4
                  rw [show m = lx.length + ly.length by omega, Nat.pow_add]
                  exact Nat.mul_lt_mul'' h3 h4
                rw [valF] at h1
                rcases Nat.eq_zero_or_pos (Y m) with h | h
                · exact h
                · have := Nat.mul_le_mul_right (10 ^ m) h
                  omega
              have hten : ∀ j, j < N → Y j < 10 := by
                intro j hj
                by_cases c : j < m
                · exact (unhide hY).2.1 j c
                · have : j = m := by omega
                  rw [this, htop]
                  omega
              have hdrop := drop_six Y N (fun j hj _ => hten j hj) (fun h6 => Nat.lt_of_lt_of_le (valF_low Y N hten) (Nat.pow_le_pow_right (n := 10) (by omega) h6))
              have := refWhole_any ((List.range N).map Y) (some ⟨wc.heap.size, 0, none⟩) N 6 w' (by
                intro d hd
                obtain ⟨j, hj, rfl⟩ := List.mem_map.1 hd
                have := hten j (List.mem_range.1 hj)
                omega) (by
                intro _
                refine ⟨wc.heap.size, 0, rfl, fun j x hj => ?_⟩
                rw [List.getElem?_map] at hj
                obtain ⟨q, hq, rfl⟩ := Option.map_eq_some_iff.1 hj
                obtain ⟨hjl, rfl⟩ := List.getElem?_eq_some_iff.1 hq
                rw [List.length_range] at hjl
                rw [Nat.zero_add, List.getElem_range]
                exact kept_cell hw' ((unhide hY).2.2.2.2.cell j hjl)) (by omega) (by omega)
              rw [hlen, hdrop, (unhide hY).1] at this
              exact this)
            have HBQ := hide (Below.then (unhide HBC) hbq)
            have HNR4 := hide ((unhide HNR3).below hbq)
            have w1 : wrap64 ((m : Int) + 1) = (m1 : Int) := wrapN _ _ f1.1 f1.2
            clear hNN hLL hm1 f1 hm hY hbq hltm
            go_wp2_with fail
            refine (unhide HCALL _ (Below.refl _ _)).mono ?_
            rintro e w7 ⟨⟨n, g, rfl, hn64, hle, hgt⟩, hb7⟩
            have HB7 := hide (Below.then (unhide HBQ) hb7)
            have HNR5 := hide ((unhide HNR4).below hb7)
            have HMD := hide (show ∀ w', Calls Tryz.prog 33 #[.int .u64 (n : Int), .bool below, .bool g] w' fun e w'' => e = .returned (.agg #[.int .i64 (signK below (nv * nu / 1000000)), .int .i64 (signN below (nv * nu / 1000000))]) ∧ Below w'.heap.size w' w'' from by
              intro w'
              generalize nv * nu / 1000000 = V at *
              by_cases c : V ≤ 1000000000000000000
              · obtain ⟨rfl, rfl⟩ := hle c
                exact refMade_any n below w' hn64
              · obtain rfl := hgt (by omega)
                unfold signK signN
                rw [if_pos (by omega), if_pos (by omega)]
                exact refMade_great n below w')
            clear hn64 hle hgt hb7 HCALL
            go_wp2_with fail
            refine (unhide HMD _).mono ?_
            rintro e w8 ⟨rfl, hb8⟩
            have HB8 := hide (Below.then (unhide HB7) hb8)
            have hNz := (unhide HNR5).below hb8
            have hQ : decide (sgnN 0 v * sgnN 0 u < 0) = below := (unhide HBE).symm
            clear hb8 HMD
            have hK : signK (decide (sgnN 0 v * sgnN 0 u < 0)) (v.natAbs * u.natAbs / 1000000) = signK below (nv * nu / 1000000) := by rw [hQ, hnv, hnu]
            have hV : signN (decide (sgnN 0 v * sgnN 0 u < 0)) (v.natAbs * u.natAbs / 1000000) = signN below (nv * nu / 1000000) := by rw [hQ, hnv, hnu]
            generalize signK below (nv * nu / 1000000) = KK at *
            generalize signN below (nv * nu / 1000000) = VV at *
            have HKV := hide (And.intro hK hV)
            have HP := hide (hNz.put KK VV)
            have HB9 := hide (putN_below (unhide HB8) (show w.heap.size ≤ w.heap.size + 1 + 1 by omega) KK VV)
            obtain ⟨q0, q1, q2, q3⟩ := hNz
            clear hK hV hQ
            go_wp2_with fail
            change bodyPost Tryz.prog Tryz.f13 (fun e w' => e = .returned (.agg #[.int .i64 (signK (decide (sgnN 0 v * sgnN 0 u < 0)) (v.natAbs * u.natAbs / 1000000)), .int .i64 (signN (decide (sgnN 0 v * sgnN 0 u < 0)) (v.natAbs * u.natAbs / 1000000))]) ∧ Below w.heap.size w w') Exit.ret _ (putN w8 (w.heap.size + 1 + 1) KK VV)
            rw [(unhide HKV).1, (unhide HKV).2]
            have hP := unhide HP
            have hB := unhide HB9
            clear HP HB9
            generalize putN w8 (w.heap.size + 1 + 1) KK VV = X at hP hB ⊢
            obtain ⟨x0, x1, _, _⟩ := hP
            refine bodyPost_ret (v := .agg #[.int .i64 KK, .int .i64 VV]) ?_ rfl ⟨rfl, hB⟩
            simp [results, Tryz.results13, go_sem, x0, x1]
end Go.Proofs.YtnpdjddebeipiaaGreatDoor
