/- A quotient digit by digit: stencilref02's quotient. -/
import Derived.Test.YtnpdjddebeipiaaGreatDoorRecWhole
namespace Go.Proofs.YtnpdjddebeipiaaGreatDoor
open Go.RowKit
/-- What stands behind j digits that are left. -/
def ahead (V j : Nat) : Nat := V / 10 ^ j
theorem ahead_next (V j : Nat) : ahead V j = 10 * ahead V (j + 1) + ahead V j % 10 := by
  unfold ahead
  rw [Nat.pow_succ, ← Nat.div_div_eq_div_mul]
  omega
theorem ahead_le (V j : Nat) : ahead V j ≤ V := Nat.div_le_self _ _
theorem ahead_zero (V : Nat) : ahead V 0 = V := by
  unfold ahead
  rw [Nat.pow_zero, Nat.div_one]
theorem ahead_all (V j : Nat) (h : V < 10 ^ j) : ahead V j = 0 := Nat.div_eq_of_lt h
/-- A digit of a number with six noughts behind. -/
theorem digit_at (a i d : Nat) (h : (digsL a)[i]? = some d) : ahead (a * 1000000) (i + 6) % 10 = d := by
  have e : ∀ (l : List Nat) (i d : Nat), (∀ x ∈ l, x < 10) → l[i]? = some d → valD l / 10 ^ i % 10 = d := by
    intro l
    induction l with
    | nil => intro i d _ h; simp at h
    | cons x l ih =>
      intro i d hl h
      have hx := hl x (List.mem_cons_self ..)
      cases i with
      | zero =>
        simp only [List.getElem?_cons_zero, Option.some.injEq] at h
        subst h
        show (x + 10 * valD l) / 10 ^ 0 % 10 = x
        rw [Nat.pow_zero, Nat.div_one]
        omega
      | succ i =>
        rw [List.getElem?_cons_succ] at h
        have := ih i d (fun y hy => hl y (List.mem_cons_of_mem _ hy)) h
        show (x + 10 * valD l) / 10 ^ (i + 1) % 10 = d
        rw [Nat.pow_succ, Nat.mul_comm (10 ^ i), ← Nat.div_div_eq_div_mul, show (x + 10 * valD l) / 10 = valD l by omega]
        exact this
  have h1 := e (digsL a) i d (digs_low a) h
  rw [valD_digs] at h1
  unfold ahead
  rw [Nat.pow_add, Nat.mul_comm (10 ^ i), ← Nat.div_div_eq_div_mul, show (10 : Nat) ^ 6 = 1000000 by decide, Nat.mul_div_cancel _ (by decide)]
  exact h1
theorem digit_low (a j : Nat) (h : j < 6) : ahead (a * 1000000) j % 10 = 0 := by
  unfold ahead
  have e : (1000000 : Nat) = 10 ^ j * (10 * 10 ^ (5 - j)) := by
    rw [← Nat.mul_assoc, ← Nat.pow_succ, ← Nat.pow_add, show j + 1 + (5 - j) = 6 by omega]
  rw [e, ← Nat.mul_assoc, Nat.mul_comm a, Nat.mul_assoc, Nat.mul_div_cancel_left _ (Nat.pow_pos (by decide)), ← Nat.mul_assoc, Nat.mul_comm a 10, Nat.mul_assoc, Nat.mul_mod_right]
theorem digs_fit (n : Nat) : n < 10 ^ (digsL n).length := by
  have e : ∀ l : List Nat, (∀ d ∈ l, d < 10) → valD l < 10 ^ l.length := by
    intro l
    induction l with
    | nil => intro _; show 0 < 1; decide
    | cons x l ih =>
      intro h
      have hx := h x (List.mem_cons_self ..)
      have := ih fun y hy => h y (List.mem_cons_of_mem _ hy)
      show x + 10 * valD l < 10 ^ (l.length + 1)
      rw [Nat.pow_succ]
      omega
  have := e (digsL n) (digs_low n)
  rwa [valD_digs] at this
/-- One digit more of a quotient. -/
theorem quot_step (A d b n r : Nat) (hb : 0 < b) (hn : n = A / b) (hr : r = A % b) : n * 10 + (r * 10 + d) / b = (10 * A + d) / b ∧ (r * 10 + d) % b = (10 * A + d) % b := by
  have e : 10 * A + d = (r * 10 + d) + b * (n * 10) := by
    have := Nat.div_add_mod A b
    rw [← hn, ← hr] at this
    have e2 : b * (n * 10) = 10 * (b * n) := by rw [← Nat.mul_assoc, Nat.mul_comm _ 10]
    omega
  rw [e, Nat.add_mul_div_left _ _ hb, Nat.add_mul_mod_self_left, Nat.add_comm]
  exact ⟨rfl, rfl⟩
theorem quot_less (r d b : Nat) (hr : r < b) (hd : d < 10) : (r * 10 + d) / b < 10 := by
  refine Nat.div_lt_of_lt_mul ?_
  omega
/-- Where the quotient's loop stands, so many digits ahead. -/
structure QSt (a b j n r : Nat) : Prop where
  n : n = ahead (a * 1000000) j / b
  r : r = ahead (a * 1000000) j % b
theorem QSt.low {a b j n r : Nat} (h : QSt a b j n r) (hb : 0 < b) : r < b := by
  rw [h.r]
  exact Nat.mod_lt _ hb
theorem QSt.great {a b j n r : Nat} (h : QSt a b j n r) : n ≤ a * 1000000 / b := by
  rw [h.n]
  exact Nat.div_le_div_right (ahead_le _ _)
theorem QSt.step {a b j n r d : Nat} (h : QSt a b (j + 1) n r) (hb : 0 < b) (hd : ahead (a * 1000000) j % 10 = d) : QSt a b j (n * 10 + (r * 10 + d) / b) ((r * 10 + d) % b) := by
  obtain ⟨h1, h2⟩ := quot_step _ d b n r hb h.n h.r
  have e := ahead_next (a * 1000000) j
  rw [hd] at e
  exact ⟨by rw [h1, ← e], by rw [h2, ← e]⟩
theorem QSt.begin (a b : Nat) : QSt a b ((digsL a).length + 6) 0 0 := by
  have e : ahead (a * 1000000) ((digsL a).length + 6) = 0 := by
    refine ahead_all _ _ ?_
    rw [Nat.pow_add]
    exact Nat.mul_lt_mul_of_pos_right (digs_fit a) (by decide)
  refine ⟨?_, ?_⟩
  · rw [e, Nat.zero_div]
  · rw [e, Nat.zero_mod]
theorem QSt.fin {a b n r : Nat} (h : QSt a b 0 n r) : n = a * 1000000 / b := by
  rw [h.n, ahead_zero]
theorem ahead_down (V i : Nat) : ∀ j, i ≤ j → ahead V j ≤ ahead V i := by
  intro j hj
  induction j with
  | zero =>
    obtain rfl : i = 0 := by omega
    exact Nat.le_refl _
  | succ j ih =>
    by_cases c : i = j + 1
    · rw [c]
      exact Nat.le_refl _
    · have h1 := ih (by omega)
      have h2 := ahead_next V j
      omega
/-- What the reference's quotient tells. -/
def quoN (a b : Nat) : Nat := if 1000000000000000000 < ahead (a * 1000000) 1 / b then 0 else a * 1000000 / b
def quoG (a b : Nat) : Bool := decide (1000000000000000000 < a * 1000000 / b)
theorem QSt.early {a b j n r : Nat} (h : QSt a b (j + 1) n r) (hn : 1000000000000000000 < n) : quoN a b = 0 ∧ quoG a b = true := by
  have h1 : n ≤ ahead (a * 1000000) 1 / b := by
    rw [h.n]
    exact Nat.div_le_div_right (ahead_down _ _ _ (by omega))
  have h2 := h.great
  unfold quoN quoG
  exact ⟨if_pos (by omega), decide_eq_true (by omega)⟩
theorem quo_late {a b n : Nat} (h : n = a * 1000000 / b) (hs : ahead (a * 1000000) 1 / b ≤ 1000000000000000000) : quoN a b = n ∧ quoG a b = decide (1000000000000000000 < n) := by
  unfold quoN quoG
  rw [if_neg (by omega), h]
  exact ⟨rfl, rfl⟩
theorem quoN_lt (a b : Nat) (hb : 0 < b) : quoN a b < 18446744073709551616 := by
  unfold quoN
  split
  · decide
  · rename_i h
    generalize a * 1000000 = V at *
    have h1 : ahead V 0 = 10 * ahead V 1 + ahead V 0 % 10 := ahead_next V 0
    rw [ahead_zero] at h1
    have h2 : V % 10 < 10 := Nat.mod_lt _ (by decide)
    have h3 : V / b ≤ (10 * ahead V 1 + 9) / b := Nat.div_le_div_right (by omega)
    have h4 : (10 * ahead V 1 + 9) / b < 10 * (ahead V 1 / b) + 10 := by
      refine Nat.div_lt_of_lt_mul ?_
      have h5 := Nat.lt_mul_div_succ (ahead V 1) hb
      have h6 : b * (10 * (ahead V 1 / b) + 10) = 10 * (b * (ahead V 1 / b + 1)) := by
        rw [show 10 * (ahead V 1 / b) + 10 = 10 * (ahead V 1 / b + 1) by omega, ← Nat.mul_assoc, Nat.mul_comm b 10, Nat.mul_assoc]
      omega
    omega
def decQ : Value → Nat
  | .int _ q => (q + 7).toNat
  | _ => 0
set_option maxRecDepth 100000 in
set_option maxHeartbeats 4000000 in
theorem refQuotient_any (a b : Nat) (w : World) (ha : a ≤ 1000000000000000000) (hb0 : 0 < b) (hb1 : b ≤ 1000000000000000000) :
    Calls Tryz.prog 40 #[.int .u64 (a : Int), .int .u64 (b : Int), .int .i64 6] w fun e w' => e = .returned (.tuple #[.int .u64 (quoN a b : Int), .bool (quoG a b)]) ∧ Below w.heap.size w w' := by
  have HA := hide ha
  have HB0 := hide hb0
  have HB1 := hide hb1
  have HD := hide (fun w => refDigits_own a w (by omega))
  clear ha
  have hbz : ¬ (b = 0) := by omega
  clear hb0 hb1
  go_enter Tryz.func40, Tryz.ntmps40
  go_wp2_with fail
  refine (unhide HD _).mono ?_
  rintro e w1 ⟨⟨vl, rfl, hO⟩, hbl⟩
  have hdl : (digsL a).length ≤ 19 := digs_len a 19 (by have := unhide HA; omega)
  have HL := hide (digs_low a)
  have HG := hide (digit_at a)
  obtain ⟨al, cl, rfl⟩ := own_form hO
  have hcell : CellsD w1 al (digsL a) := by
    intro hne
    rcases hO.2 with ⟨h1, h0⟩ | ⟨g, cap, cur, h1, _⟩
    · exact absurd (List.eq_nil_of_length_eq_zero h0) hne
    · injection h1 with h1 h2 h3
      subst h1
      refine ⟨g, 0, rfl, fun i x hi => ?_⟩
      have h2 := hO.cellAt i (by obtain ⟨hi, _⟩ := List.getElem?_eq_some_iff.1 hi; omega)
      rw [Nat.zero_add, h2]
      unfold intsD
      rw [List.getElem?_map, hi]
      rfl
  have HC := hide hcell
  have HBG := hide (QSt.begin a b)
  clear hO hcell
  have HBL := hide hbl
  clear hbl
  generalize digsL a = l at *
  go_wp2_with fail
  go_loopw [9, 10, 11, 12] (fun vr vn vi vd wr => ∃ (j n r : Nat), vi = .int .i64 ((j : Int) - 7) ∧ vn = .int .u64 (n : Int) ∧ vr = .int .u64 (r : Int) ∧ Hid (j ≤ l.length + 6) ∧ Hid (n < 18446744073709551616) ∧ Hid (QSt a b j n r) ∧ Hid (j ≤ l.length + 5 → ahead (a * 1000000) (j + 1) / b ≤ 1000000000000000000) ∧ Hid (Below w.heap.size w wr ∧ Below w1.heap.size w1 wr)) (fun _ _ vi _ _ => decQ vi)
  case atStart =>
    refine ⟨l.length + 6, 0, 0, ?_, rfl, rfl, hide (Nat.le_refl _), hide (by omega), HBG, hide (fun h => by omega), hide ⟨?_, ?_⟩⟩
    · rw [show ((l.length + 6 : Nat) : Int) - 7 = (l.length : Int) - 1 by omega]
    · exact unhide HBL
    · exact Below.refl _ _
  case round =>
    obtain ⟨j, n, r, rfl, rfl, rfl, hj, hn64, hS, hLS, hbr⟩ := hrel
    by_cases hlt : 0 < j
    · have hlt' : (-6 : Int) ≤ (j : Int) - 7 := by omega
      obtain ⟨j1, hj1⟩ : ∃ j1, j1 + 1 = j := ⟨j - 1, by omega⟩
      subst hj1
      have e1 : ((j1 + 1 : Nat) : Int) - 7 = (j1 : Int) - 6 := by omega
      rw [e1] at hlt' ⊢
      clear e1 hlt
      have hrb := (unhide hS).low (unhide HB0)
      have hB1 := unhide HB1
      have HJ1 := hide (show j1 ≤ l.length + 6 by have := unhide hj; omega)
      have HM := hide (show ((j1 : Int) - 7 + 7).toNat < ((j1 : Int) - 6 + 7).toNat by omega)
      by_cases h6 : 6 ≤ j1
      · obtain ⟨i, hi⟩ : ∃ i, i + 6 = j1 := ⟨j1 - 6, by omega⟩
        subst hi
        have e2 : ((i + 6 : Nat) : Int) - 6 = (i : Int) := by omega
        rw [e2] at hlt' ⊢
        clear e2
        have hil : i < l.length := by have := unhide hj; omega
        obtain ⟨d, hd⟩ : ∃ d, l[i]? = some d := ⟨_, List.getElem?_eq_getElem hil⟩
        obtain ⟨g, o, rfl, hcell⟩ := unhide HC (by intro h; rw [h] at hil; simp at hil)
        have c0 := kept_cell (unhide hbr).2 (hcell i d hd)
        have hd10 := unhide HL d (List.mem_of_getElem? hd)
        have HS2 := hide ((unhide hS).step (unhide HB0) (unhide HG i d hd))
        have HQL := hide (quot_less r d b hrb hd10)
        have hi1 : (0 : Int) ≤ (i : Int) := by omega
        have hi2 : (i : Int) < (l.length : Int) := by omega
        have HM := hide (show ((i : Int) - 1 + 7).toNat < ((i : Int) + 7).toNat by omega)
        clear hd hcell hil
        obtain ⟨y, hy⟩ : ∃ y, r * 10 = y := ⟨_, rfl⟩
        obtain ⟨x, hx⟩ : ∃ x, y + d = x := ⟨_, rfl⟩
        obtain ⟨q, hq⟩ : ∃ q, x / b = q := ⟨_, rfl⟩
        obtain ⟨m, hm⟩ : ∃ m, x % b = m := ⟨_, rfl⟩
        rw [hy, hx, hq, hm] at HS2
        rw [hy, hx, hq] at HQL
        have hql := unhide HQL
        have hmb : m < b := by rw [← hm]; exact Nat.mod_lt _ (unhide HB0)
        have e1 : ((x : Int)).tmod (b : Int) = (m : Int) := by rw [Int.tmod_eq_emod_of_nonneg (by omega), ← hm]; rfl
        have e2 : ((x : Int)).tdiv (b : Int) = (q : Int) := by rw [Int.tdiv_eq_ediv_of_nonneg (by omega), ← hq]; rfl
        have e3 : (x : Int) % (b : Int) = (m : Int) := by rw [← hm]; rfl
        have e4 : (x : Int) / (b : Int) = (q : Int) := by rw [← hq]; rfl
        have wd : IntKind.u64.wrap ((d : Nat) : Int) = ((d : Nat) : Int) := by rw [IntKind.wrap_u64]; omega
        have w1 : IntKind.u64.wrap ((r : Int) * 10) = (y : Int) := by rw [IntKind.wrap_u64]; omega
        have w3 : IntKind.u64.wrap ((y : Int) + (d : Int)) = (x : Int) := by rw [IntKind.wrap_u64]; omega
        have wm : IntKind.u64.wrap (m : Int) = (m : Int) := by rw [IntKind.wrap_u64]; omega
        have wq : IntKind.u64.wrap (q : Int) = (q : Int) := by rw [IntKind.wrap_u64]; omega
        by_cases hg : 1000000000000000000 < n
        · have hg' : (1000000000000000000 : Int) < (n : Int) := by omega
          have HGR := hide ((unhide hS).early hg)
          clear hx hy hq hm e1 e2 e3 e4 wm wq hrb hd10 hg hB1 hql hmb HQL HS2 HM hS
          go_wp2_with fail
          change bodyPost Tryz.prog Tryz.f40 (fun e w' => e = .returned (.tuple #[.int .u64 (quoN a b : Int), .bool (quoG a b)]) ∧ Below w.heap.size w w') Exit.ret _ _
          go_ret2
          refine ⟨?_, (unhide hbr).1⟩
          rw [(unhide HGR).1, (unhide HGR).2]
          first | rfl | trivial
        · have hg' : ¬ (1000000000000000000 : Int) < (n : Int) := by omega
          obtain ⟨z, hz⟩ : ∃ z, n * 10 = z := ⟨_, rfl⟩
          obtain ⟨n2, hn2⟩ : ∃ n2, z + q = n2 := ⟨_, rfl⟩
          rw [hz, hn2] at HS2
          have w4 : IntKind.u64.wrap ((n : Int) * 10) = (z : Int) := by rw [IntKind.wrap_u64]; omega
          have w5 : IntKind.u64.wrap ((z : Int) + (q : Int)) = (n2 : Int) := by rw [IntKind.wrap_u64]; omega
          have HLS2 := hide (show ahead (a * 1000000) (i + 6 + 1) / b ≤ 1000000000000000000 by rw [← (unhide hS).n]; omega)
          have HB64 := hide (show n2 < 18446744073709551616 by omega)
          clear hx hy hq hm hrb hd10 hg hB1 hql hmb HQL hS hz hn2
          go_wp2_with fail
          refine ⟨⟨i + 6, n2, m, ?_, ?_, ?_, HJ1, HB64, HS2, hide (fun _ => unhide HLS2), hbr⟩, unhide HM⟩
          · first | rfl | (congr 1; omega)
          · first | rfl | (rw [w5])
          · first | rfl | (rw [wm])
      · have HD0 := hide (digit_low a j1 (by omega))
        have HS2 := hide ((unhide hS).step (unhide HB0) (unhide HD0))
        obtain ⟨I, hI⟩ : ∃ I : Int, I = (j1 : Int) - 6 := ⟨_, rfl⟩
        have HI := hide hI
        have hI1 : -6 ≤ I := by omega
        have hI2 : I < 0 := by omega
        have hI3 : ¬ 0 ≤ I := by omega
        have HM2 := hide (show (I - 1 + 7).toNat < (I + 7).toNat by omega)
        rw [← hI] at hlt' ⊢
        clear hI h6 HM hlt'
        obtain ⟨d, hd⟩ : ∃ d : Nat, d = 0 := ⟨0, rfl⟩
        have hd10 : d < 10 := by omega
        rw [← hd] at HS2
        have HQL := hide (quot_less r d b hrb hd10)
        obtain ⟨y, hy⟩ : ∃ y, r * 10 = y := ⟨_, rfl⟩
        obtain ⟨x, hx⟩ : ∃ x, y + d = x := ⟨_, rfl⟩
        obtain ⟨q, hq⟩ : ∃ q, x / b = q := ⟨_, rfl⟩
        obtain ⟨m, hm⟩ : ∃ m, x % b = m := ⟨_, rfl⟩
        rw [hy, hx, hq, hm] at HS2
        rw [hy, hx, hq] at HQL
        have hql := unhide HQL
        have hmb : m < b := by rw [← hm]; exact Nat.mod_lt _ (unhide HB0)
        have e1 : ((x : Int)).tmod (b : Int) = (m : Int) := by rw [Int.tmod_eq_emod_of_nonneg (by omega), ← hm]; rfl
        have e2 : ((x : Int)).tdiv (b : Int) = (q : Int) := by rw [Int.tdiv_eq_ediv_of_nonneg (by omega), ← hq]; rfl
        have e3 : (x : Int) % (b : Int) = (m : Int) := by rw [← hm]; rfl
        have e4 : (x : Int) / (b : Int) = (q : Int) := by rw [← hq]; rfl
        have wd : IntKind.u64.wrap ((d : Nat) : Int) = ((d : Nat) : Int) := by rw [IntKind.wrap_u64]; omega
        have w1 : IntKind.u64.wrap ((r : Int) * 10) = (y : Int) := by rw [IntKind.wrap_u64]; omega
        have w3 : IntKind.u64.wrap ((y : Int) + (d : Int)) = (x : Int) := by rw [IntKind.wrap_u64]; omega
        have w6 : IntKind.u64.wrap (y : Int) = (x : Int) := by rw [IntKind.wrap_u64]; omega
        have wm : IntKind.u64.wrap (m : Int) = (m : Int) := by rw [IntKind.wrap_u64]; omega
        have wq : IntKind.u64.wrap (q : Int) = (q : Int) := by rw [IntKind.wrap_u64]; omega
        by_cases hg : 1000000000000000000 < n
        · have hg' : (1000000000000000000 : Int) < (n : Int) := by omega
          subst hd
          have HGR := hide ((unhide hS).early hg)
          clear hx hy hq hm e1 e2 e3 e4 wm wq hrb hg hB1 hql hmb HQL HS2 hS
          go_wp2_with fail
          change bodyPost Tryz.prog Tryz.f40 (fun e w' => e = .returned (.tuple #[.int .u64 (quoN a b : Int), .bool (quoG a b)]) ∧ Below w.heap.size w w') Exit.ret _ _
          go_ret2
          refine ⟨?_, (unhide hbr).1⟩
          rw [(unhide HGR).1, (unhide HGR).2]
          first | rfl | trivial
        · have hg' : ¬ (1000000000000000000 : Int) < (n : Int) := by omega
          have hd10' := hd
          obtain ⟨z, hz⟩ : ∃ z, n * 10 = z := ⟨_, rfl⟩
          obtain ⟨n2, hn2⟩ : ∃ n2, z + q = n2 := ⟨_, rfl⟩
          rw [hz, hn2] at HS2
          have w4 : IntKind.u64.wrap ((n : Int) * 10) = (z : Int) := by rw [IntKind.wrap_u64]; omega
          have w5 : IntKind.u64.wrap ((z : Int) + (q : Int)) = (n2 : Int) := by rw [IntKind.wrap_u64]; omega
          have HLS2 := hide (show ahead (a * 1000000) (j1 + 1) / b ≤ 1000000000000000000 by rw [← (unhide hS).n]; omega)
          have HB64 := hide (show n2 < 18446744073709551616 by omega)
          clear hx hy hq hm hrb hg hB1 hql hmb HQL hS hz hn2
          go_wp2_with fail
          refine ⟨⟨j1, n2, m, ?_, ?_, ?_, HJ1, HB64, HS2, hide (fun _ => unhide HLS2), hbr⟩, unhide HM2⟩
          · first | rfl | (have := unhide HI; congr 1; omega)
          · first | rfl | (rw [w5])
          · first | rfl | (rw [wm])
    · have h0 : j = 0 := by omega
      subst h0
      have hlt' : ¬ (-6 : Int) ≤ ((0 : Nat) : Int) - 7 := by omega
      have HN := hide (quo_late (unhide hS).fin (unhide hLS (by omega)))
      have hn64' := hn64
      clear hS hlt
      by_cases hg : 1000000000000000000 < n
      · have hg' : (1000000000000000000 : Int) < (n : Int) := by omega
        have HG2 := hide hg
        clear hg
        go_wp2_with fail
        change bodyPost Tryz.prog Tryz.f40 (fun e w' => e = .returned (.tuple #[.int .u64 (quoN a b : Int), .bool (quoG a b)]) ∧ Below w.heap.size w w') Exit.ret _ _
        go_ret2
        rw [(unhide HN).1, (unhide HN).2]
        have := unhide HG2
        refine ⟨?_, (unhide hbr).1⟩
        first | (rw [decide_eq_true this]; done) | (rw [decide_eq_false this]; done) | (rw [decide_eq_true this]; rfl) | (rw [decide_eq_false this]; rfl)
      · have hg' : ¬ (1000000000000000000 : Int) < (n : Int) := by omega
        have HG2 := hide hg
        clear hg
        go_wp2_with fail
        change bodyPost Tryz.prog Tryz.f40 (fun e w' => e = .returned (.tuple #[.int .u64 (quoN a b : Int), .bool (quoG a b)]) ∧ Below w.heap.size w w') Exit.ret _ _
        go_ret2
        rw [(unhide HN).1, (unhide HN).2]
        have := unhide HG2
        refine ⟨?_, (unhide hbr).1⟩
        first | (rw [decide_eq_true this]; done) | (rw [decide_eq_false this]; done) | (rw [decide_eq_true this]; rfl) | (rw [decide_eq_false this]; rfl)
end Go.Proofs.YtnpdjddebeipiaaGreatDoor
