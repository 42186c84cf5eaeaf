/- XsortDown: the greater ones first. -/
import Derived.Test.YtoeahagloobmoaaDoorSortRows
import Derived.Test.YtoeahagloobmoaaDoorPermPlain
import Derived.Test.YtoeahagloobmoaaDoorSortLive
namespace Go.Proofs.YtoeahagloobmoaaDoor
open Go.RowKit
/-- Texts that were handed in. -/
def StrsAt (w : World) (ad : Option Addr) (n : Nat) (t : Nat → ByteArray) : Prop := 0 < n → ∃ g o, ad = some ⟨g, o, none⟩ ∧ ∀ i, i < n → w.cell? ⟨g, o + i, none⟩ = some (.string (t i))
theorem StrsAt.below {w w' : World} {ad : Option Addr} {n : Nat} {t : Nat → ByteArray} (h : StrsAt w ad n t) (hb : Below w.heap.size w w') : StrsAt w' ad n t := fun h0 => by
  obtain ⟨g, o, e, h1⟩ := h h0
  exact ⟨g, o, e, fun i hi => kept_cell hb (h1 i hi)⟩
/-- A row of one text. -/
def textRow (down : Bool) (t : Nat → ByteArray) (j : Nat) : List KeyD := [⟨false, down, t j, 0, 0⟩]
theorem textRow_at (w : World) (down : Bool) (t : Nat → ByteArray) (j : Nat) (ty : Nat) : RowKey (w.alloc (.cells #[.bool false, .bool down, .string (t j), .int .i64 0, .int .i64 0] ty)) (.slice (some ⟨w.heap.size, 0, none⟩) 1 1) (textRow down t j) := by
  refine .inr ⟨w.heap.size, 1, rfl, fun i x hx => ?_⟩
  unfold textRow at hx
  cases i with
  | zero =>
    simp at hx
    subst hx
    exact keyAt_new w ⟨false, down, t j, 0, 0⟩ ty
  | succ i => simp at hx
theorem textRow_right (down : Bool) (t : Nat → ByteArray) (j : Nat) : rightL (textRow down t j) := by
  intro x hx
  unfold textRow at hx
  simp at hx
  subst hx
  exact KeyD.right_zero
theorem cmp_textRow (down : Bool) (t : Nat → ByteArray) (x y : Nat) : cmpRow (textRow down t 0) (textRow down t x) (textRow down t y) = if down then Lib.compareBytes (t y).data.toList (t x).data.toList else Lib.compareBytes (t x).data.toList (t y).data.toList := by
  show thenC (cmpKey _ _ _) 0 = _
  unfold thenC
  have e : cmpKey (keyG (textRow down t 0) 0) (keyG (textRow down t x) 0) (keyG (textRow down t y) 0) = if down then Lib.compareBytes (t y).data.toList (t x).data.toList else Lib.compareBytes (t x).data.toList (t y).data.toList := by
    cases down <;> rfl
  rw [e]
  generalize (if down then Lib.compareBytes (t y).data.toList (t x).data.toList else Lib.compareBytes (t x).data.toList (t y).data.toList) = c
  by_cases hc : c = 0
  · rw [if_pos hc, hc]
  · rw [if_neg hc]
/-- A slice of one row, as append takes it. -/
theorem row_news (w : World) (p : Obj) (y : Value) (ty : Nat) : ∀ j u, ([y] : List Value)[j]? = some u → ((w.alloc p).alloc (.cells #[y] ty)).cell? ((⟨w.heap.size + 1, 0, none⟩ : Addr).add j) = some u := by
  intro j u hj
  rw [Addr.add_mid, Nat.zero_add]
  match j, hj with
  | 0, hj => simp at hj; subst hj; simp [go_sem]
theorem row_ones (a : Option Addr) (m c : Nat) : ∀ u ∈ ([.slice a m c] : List Value), u.oneCell' = true := by
  intro u hu
  simp at hu
  subst hu
  rfl
theorem less_is : ∀ (a b : List UInt8), Op.bytesLess a b = decide (Lib.compareBytes a b < 0)
  | [], [] => by simp [Op.bytesLess, Lib.compareBytes]
  | [], _ :: _ => by simp [Op.bytesLess, Lib.compareBytes]
  | _ :: _, [] => by simp [Op.bytesLess, Lib.compareBytes]
  | x :: a, y :: b => by
    have ih := less_is a b
    simp only [Op.bytesLess, Lib.compareBytes]
    by_cases h1 : x < y
    · simp [h1]
    · by_cases h2 : y < x
      · have hne : (x == y) = false := by
          refine beq_eq_false_iff_ne.2 fun e => ?_
          subst e
          exact h1 h2
        simp [h1, h2, hne]
      · have he : x = y := by
          apply UInt8.toNat_inj.1
          rw [UInt8.lt_iff_toNat_lt] at h1 h2
          omega
        subst he
        simp [h1, ih]
theorem below_drewN (w : World) : ∀ n, Below w.heap.size w (w.drewN n)
  | 0 => Below.refl _ _
  | n + 1 => (below_drewN w n).drew
/-- A row of one text, as it stands. -/
theorem textRow_open {w : World} {v : Value} {down : Bool} {t : Nat → ByteArray} {j : Nat} (h : RowKey w v (textRow down t j)) : ∃ b cap, v = .slice (some ⟨b, 0, none⟩) 1 cap ∧ w.cell? ⟨b, 2, none⟩ = some (.string (t j)) := by
  rcases h with ⟨h, _⟩ | ⟨b, cap, e, h⟩
  · cases h
  · have := (h 0 ⟨false, down, t j, 0, 0⟩ rfl).c2
    rw [Nat.zero_mul, Nat.zero_add] at this
    exact ⟨b, cap, e, this⟩
set_option maxRecDepth 100000 in
set_option maxHeartbeats 2000000 in
theorem down_walk (ad : Option Addr) (n cap : Nat) (t : Nat → ByteArray) (w : World) (h : StrsAt w ad n t) (hE : SEnv w) :
    Calls Tryd.prog 5 #[.slice ad n cap] w fun e w' => e = .returned (.bool true) ∧ Below w.heap.size w w' := by
  have HE := hide hE
  have HT := hide h
  clear hE h
  obtain ⟨i0, hi, hz0, hz1, hz2⟩ := info_parts infoRow
  have HI := hide (And.intro hi (And.intro hz0 (And.intro hz1 hz2)))
  clear hi hz0 hz1 hz2
  go_enter Tryd.func5, Tryd.ntmps5
  go_upto_block 0 with fail
  go_cut [3] (fun va wx => ∃ (m : Nat) (X : Nat → Value), Hid (m ≤ 30 ∧ m ≤ n) ∧ RowsV wx w.heap.size va m X (textRow true t) ∧ Below w.heap.size w wx)
  case first =>
    go_wp2_with fail
    go_loopw [3, 4] (fun va vi wr => ∃ (i : Nat) (X : Nat → Value), vi = .int .i64 (i : Int) ∧ i ≤ 30 ∧ i ≤ n ∧ RowsV wr w.heap.size va i X (textRow true t) ∧ Below w.heap.size w wr) (fun _ vi _ => 30 - vNat vi)
    case atStart => exact ⟨0, _, rfl, by omega, Nat.zero_le _, RowsV.start _ _ _, Below.refl _ _⟩
    case round =>
      obtain ⟨i, X, rfl, hi1, hi2, hR, hbr⟩ := hrel
      have HX : Hid (∃ (m : Nat) (X : Nat → Value), Hid (m ≤ 30 ∧ m ≤ n) ∧ RowsV wr w.heap.size _ m X (textRow true t) ∧ Below w.heap.size w wr) := hide ⟨i, X, hide ⟨hi1, hi2⟩, hR, hbr⟩
      by_cases hlt : i < n
      · have hlt1 := nat_lt hlt
        by_cases hlt0 : i < 30
        · have hlt2 : (i : Int) < 30 := by omega
          obtain ⟨g, o, rfl, hc⟩ := (unhide HT).below hbr (by omega)
          have c1 := hc i hlt
          have HR := hide hR
          have HB := hide hbr
          have HL := hide (And.intro hlt hlt0)
          obtain ⟨z1, z2, z3, z4⟩ := unhide HI
          have hsz := hbr.size
          clear hR hc HX
          go_wp2_with (at_builtin; refine wpList_append_own _ rfl _ _ 22 rfl w.heap.size 30 i0 _ 1 24 Tryd.underlying22 z1 z2 z3 z4 rfl (by decide) _ _ _ rfl (((unhide HR).own.alloc _).alloc _) ⟨wr.heap.size + 1, 0, none⟩ 1 1 [.slice (some ⟨wr.heap.size, 0, none⟩) 1 1] rfl rfl (row_news wr _ _ _) (row_ones _ _ _) (by unfold maxLen; omega) (by omega) (by simp; omega) ?_)
          intro v' w5 hown' hgrow _
          have hb2 : Below wr.heap.size wr ((wr.alloc (.cells #[.bool false, .bool true, .string (t i), .int .i64 0, .int .i64 0] 37)).alloc (.cells #[.slice (some ⟨wr.heap.size, 0, none⟩) 1 1] 30)) := ((Below.refl _ wr).alloc (Nat.le_refl _) _).alloc (by simp) _
          have HR5 := hide (RowsV.more ((unhide HR).below hb2) ⟨_, _, _, rfl⟩ ((textRow_at wr true t i 37).below ((Below.refl _ _).alloc (Nat.le_refl _) _)) hown' hgrow)
          have HB5 := hide (Below.grown (Below.then hbr hb2) hgrow (by simp; omega) (unhide HR).ge)
          have HM := hide (show 30 - (((i + 1 : Nat) : Int)).toNat < 30 - ((i : Nat) : Int).toNat by rw [Int.toNat_natCast, Int.toNat_natCast]; omega)
          have HE1 := hide (show (i : Int) + 1 = ((i + 1 : Nat) : Int) by omega)
          clear hown' hgrow hb2
          go_wp2_with fail
          refine ⟨⟨i + 1, _, ?_, hlt0, hlt, unhide HR5, unhide HB5⟩, ?_⟩
          · first | (rw [unhide HE1]) | rfl
          · first | (rw [unhide HE1]; exact unhide HM) | exact unhide HM
        · have hlt2 : ¬ (i : Int) < 30 := by omega
          clear hR hbr
          go_wp2_with fail
          go_meet
          exact unhide HX
      · have hlt1 := nat_nlt hlt
        clear hR hbr
        go_wp2_with fail
        go_meet
        exact unhide HX
  case rest =>
    obtain ⟨m, X, hm, hR, hb⟩ := hcut
    have HO := hide (order_rows hR (fun i _ => textRow_right true t i) (by show 1 ≤ 1000; decide) (by have := (unhide hm).1; omega))
    obtain ⟨ad2, cap2, rfl, hop⟩ := hR.open
    have HR := hide hR
    have HOP := hide hop
    clear hR hop
    go_wp2_with fail
    refine (unhide HO).mono ?_
    rintro e w1 ⟨q, r, rfl, hq, hr, hb1, hF, hS⟩
    have HF := hide (sorted_places hF)
    have HS := hide hS
    have HR1 := hide hr
    clear hF hS hr HO
    go_wp2_with fail
    go_loopw [6] (fun v wr => ∃ i : Nat, v = .int .i64 (i : Int) ∧ 1 ≤ i ∧ Below w1.heap.size w1 wr) (fun v _ => m - vNat v)
    case atStart => exact ⟨1, rfl, Nat.le_refl _, Below.refl _ _⟩
    case round =>
      obtain ⟨i, rfl, h1, hbr⟩ := hrel
      by_cases hlt : i < m
      · have hlt' := nat_lt hlt
        obtain ⟨j, hj⟩ : ∃ j, j + 1 = i := ⟨i - 1, by omega⟩
        have hjm : j < m := by omega
        have hjm' := nat_lt hjm
        have hrj := (unhide HF).1 j hjm
        have hri := (unhide HF).1 i hlt
        have hrj' := nat_lt hrj
        have hri' := nat_lt hri
        obtain ⟨e1, e1'⟩ := sub_wrap i 1 j hj (by have := (unhide hm).1; omega)
        rw [show ((1 : Nat) : Int) = 1 from rfl] at e1 e1'
        have o0 := kept_cell hbr (unhide HR1 j hjm).1
        have o1 := kept_cell hbr (unhide HR1 i hlt).1
        obtain ⟨g, rfl, hc⟩ := unhide HOP (by omega)
        have hbw := Below.then hb1 hbr
        have a0 := kept_cell hbw (hc _ hrj)
        have a1 := kept_cell hbw (hc _ hri)
        obtain ⟨b0, k0, ex0, x0⟩ := textRow_open (((unhide HR).keys _ hrj).below hbw)
        obtain ⟨b1, k1, ex1, x1⟩ := textRow_open (((unhide HR).keys _ hri).below hbw)
        rw [ex0] at a0
        rw [ex1] at a1
        have hL : cmpRow (textRow true t 0) (textRow true t (r j)) (textRow true t (r i)) < 0 ∨ (¬ cmpRow (textRow true t 0) (textRow true t (r i)) (textRow true t (r j)) < 0 ∧ r j < r i) := unhide HS j i (Nat.zero_le _) (by omega) hlt
        rw [cmp_textRow, cmp_textRow] at hL
        generalize r j = P at *
        generalize r i = S at *
        have hL1 : Op.bytesLess (t P).toList (t S).toList = false := by
          rw [less_is, ByteArray.toList_eq, ByteArray.toList_eq]
          have g := good_bytes.anti (t P).data.toList (t S).data.toList
          rcases hL with hL | ⟨hL, _⟩
          · have hL' : Lib.compareBytes (t S).data.toList (t P).data.toList < 0 := hL
            refine decide_eq_false fun hh => ?_
            have := g.1 hh
            omega
          · exact decide_eq_false hL
        have hL2 : ((t P).toList == (t S).toList) = true → decide ((S : Int) < (P : Int)) = false := by
          intro he
          have he' : (t P).data.toList = (t S).data.toList := by
            rw [ByteArray.toList_eq, ByteArray.toList_eq] at he
            simpa using he
          rcases hL with hL | ⟨_, hL⟩
          · exfalso
            have hL' : Lib.compareBytes (t S).data.toList (t P).data.toList < 0 := hL
            rw [he', bytes_self] at hL'
            omega
          · exact decide_eq_false (by omega)
        have HM := hide (show m - (((i + 1 : Nat) : Int)).toNat < m - ((i : Nat) : Int).toNat by rw [Int.toNat_natCast, Int.toNat_natCast]; omega)
        have HE1 := hide (show wrap64 ((i : Int) + 1) = ((i + 1 : Nat) : Int) by
          have := (unhide hm).1
          rw [wrap_same _ (by omega) (by omega)]
          omega)
        have HBR := hide hbr
        have HI1 := hide (show 1 ≤ i + 1 by omega)
        clear hL hc hbw hbr ex0 ex1 hrj hri hjm hlt hj h1
        go_wp2_with fail
        go_quiet (fail)
        cases he : ((t P).toList == (t S).toList) with
        | true =>
          have d2 := of_decide_eq_false (hL2 he)
          clear hL2
          go_wp2_with fail
          go_quiet (fail)
          go_wp2_with fail
          refine ⟨⟨i + 1, ?_, unhide HI1, Below.then (unhide HBR) (below_drewN _ _)⟩, ?_⟩
          · rw [unhide HE1]
          · rw [unhide HE1]
            exact unhide HM
        | false =>
          clear hL2
          go_wp2_with fail
          go_quiet (fail)
          go_wp2_with fail
          refine ⟨⟨i + 1, ?_, unhide HI1, Below.then (unhide HBR) (below_drewN _ _)⟩, ?_⟩
          · rw [unhide HE1]
          · rw [unhide HE1]
            exact unhide HM
      · have hlt' := nat_nlt hlt
        have hbb := Below.then hb (Below.then hb1 hbr)
        have HLV := hide (live_any wr ((unhide HE).below hbb))
        clear hbr
        go_wp2_with fail
        refine (unhide HLV).mono ?_
        rintro e w4 ⟨rfl, hb4⟩
        go_wp2_with fail
        go_ret
        exact ⟨rfl, Below.then hbb hb4⟩
end Go.Proofs.YtoeahagloobmoaaDoor
