/- Rows, ordered: xsort's Order. -/
import Derived.Test.YtoeahagloobmoaaGreatDoorKeyRows
import Derived.Test.YtoeahagloobmoaaGreatDoorStabGo8
import Derived.Deep.OwnRows
namespace Go.Proofs.YtoeahagloobmoaaGreatDoor
open Go.RowKit
theorem Good.weak {c : Nat → Nat → Int} (h : Good c) : Weak (fun x y => c x y < 0) := by
  refine ⟨?_, ?_, ?_⟩
  · intro x hx
    have := (h.anti x x).1 hx
    have hx' : c x x < 0 := hx
    omega
  · intro x y z h1 h2
    have h2' : c y z < 0 := h2
    exact h.strict1 h1 (by omega)
  · intro x y z h1 h2 h3
    have a1 : c y x ≤ 0 := by
      have := h.anti x y
      have h1' : ¬ c x y < 0 := h1
      by_cases q : 0 < c y x
      · exact absurd (this.2 q) h1'
      · omega
    have a2 : c z y ≤ 0 := by
      have := h.anti y z
      have h2' : ¬ c y z < 0 := h2
      by_cases q : 0 < c z y
      · exact absurd (this.2 q) h2'
      · omega
    have a3 := h.tr z y x a2 a1
    have a4 := (h.anti x z).1 h3
    omega
/-- Rows of keys behind a variable. -/
structure RowsAt (w : World) (g R o n cap : Nat) (X : Nat → Value) (rows : Nat → List KeyD) : Prop where
  var : w.cell? ⟨g, 0, none⟩ = some (.slice (some ⟨R, o, none⟩) n cap)
  cells : ∀ i, i < n → w.cell? ⟨R, o + i, none⟩ = some (X i)
  keys : ∀ i, i < n → RowKey w (X i) (rows i)
theorem RowsAt.below {w w' : World} {g R o n cap : Nat} {X : Nat → Value} {rows : Nat → List KeyD} (h : RowsAt w g R o n cap X rows) (hb : Below w.heap.size w w') : RowsAt w' g R o n cap X rows :=
  ⟨kept_cell hb h.var, fun i hi => kept_cell hb (h.cells i hi), fun i hi => (h.keys i hi).below hb⟩
/-- Worlds in which rows stand behind a variable. -/
structure ClsO (W : World) (g R o n cap : Nat) (X : Nat → Value) (rows : Nat → List KeyD) (u : World) : Prop where
  bel : Below W.heap.size W u
  rws : RowsAt u g R o n cap X rows
theorem ClsO.below {W u u' : World} {g R o n cap : Nat} {X : Nat → Value} {rows : Nat → List KeyD} (c : ClsO W g R o n cap X rows u) (hb : Below u.heap.size u u') : ClsO W g R o n cap X rows u' := ⟨Below.then c.bel hb, c.rws.below hb⟩
set_option maxRecDepth 100000 in
set_option maxHeartbeats 2000000 in
theorem closure_any (g R o n cap : Nat) (X : Nat → Value) (rows : Nat → List KeyD) (w : World) (x y : Nat) (h : RowsAt w g R o n cap X rows) (hx : x < n) (hy : y < n) (hr : ∀ i, i < n → rightL (rows i)) (hn : (rows 0).length ≤ 1000) :
    Calls Tryz.prog 12 #[.int .i64 (x : Int), .int .i64 (y : Int), .pointer (some ⟨g, 0, none⟩)] w fun e w' => e = .returned (.int .i64 (cmpRow (rows 0) (rows x) (rows y))) ∧ Below w.heap.size w w' := by
  have h0 : 0 < n := by omega
  have HC := hide (fun (u : World) (hu : RowsAt u g R o n cap X rows) => compareRows_any (X 0) (X x) (X y) (rows 0) (rows x) (rows y) u (hu.keys 0 h0) (hu.keys x hx) (hu.keys y hy) (hr x hx) (hr y hy) hn)
  have HX := hide (show ClsO w g R o n cap X rows w.drew from ⟨(Below.refl _ _).drew, h.below (Below.refl _ _).drew⟩)
  have HV := hide (fun (u : World) (c : ClsO w g R o n cap X rows u) => (⟨c.rws.var, c.rws.cells 0 h0, c.rws.cells x hx, c.rws.cells y hy⟩ : u.cell? ⟨g, 0, none⟩ = some (.slice (some ⟨R, o, none⟩) n cap) ∧ u.cell? ⟨R, o + 0, none⟩ = some (X 0) ∧ u.cell? ⟨R, o + x, none⟩ = some (X x) ∧ u.cell? ⟨R, o + y, none⟩ = some (X y)))
  rw [Nat.add_zero] at HV
  have h0' := nat_lt h0
  have hx' := nat_lt hx
  have hy' := nat_lt hy
  generalize cmpRow (rows 0) (rows x) (rows y) = v at *
  clear h hr hn
  go_enter Tryz.func12, Tryz.ntmps12
  go_wp2_with fail
  refine wp_region_cls (ClsO w g R o n cap X rows) (by kernel_rfl) (by kernel_rfl) (unhide HX) ?_
  repeat
    (first
      | go_big_quiet_skip
      | (go_big_quiet_want
         go_big_quiet_op
         first
           | go_big_quiet_on
           | (apply Exists.intro
              refine ⟨fun w' hC => ?_, ?_⟩
              · (first
                  | (go_at_call 13; refine (unhide HC _ hC.rws).mono ?_; rintro e w3 ⟨rfl, hb3⟩; exact ⟨rfl, hC.below hb3⟩)
                  | (obtain ⟨k0, k1, k2, k3⟩ := unhide HV _ hC; go_simp; first | done | rfl))
              go_big_quiet_on)))
  refine wpQuiet_nil ?_
  intro w4 hC4
  have hb4 := hC4.bel
  clear hC4 HX HV HC
  go_wp2_with fail
  go_ret
  exact ⟨rfl, hb4⟩
/-- The first places of a row of noughts. -/
def firstP (i j : Nat) : Value := .int .i64 (if j < i then ((j : Nat) : Int) else 0)
theorem firstP_step {w : World} {q n i : Nat} {t : TypeId} (h : w.rowIs q t n (firstP i)) : (w.setCell ⟨q, i, none⟩ (.int .i64 (i : Int))).rowIs q t n (firstP (i + 1)) := by
  refine (h.set i (.int .i64 (i : Int))).congr fun j _ => ?_
  unfold firstP
  by_cases e : j = i
  · subst e
    rw [if_pos rfl, if_pos (by omega)]
  · rw [if_neg e]
    by_cases c : j < i
    · rw [if_pos c, if_pos (by omega)]
    · rw [if_neg c, if_neg (by omega)]
theorem firstP_all {w : World} {q n : Nat} {t : TypeId} (h : w.rowIs q t n (firstP n)) : RowAt q n id w := by
  intro i hi
  refine ⟨?_, h.frozen i⟩
  rw [h.cell hi]
  unfold firstP
  rw [if_pos hi]
  rfl
set_option maxRecDepth 100000 in
set_option maxHeartbeats 2000000 in
theorem order_any (ad : Option Addr) (n cap : Nat) (X : Nat → Value) (rows : Nat → List KeyD) (w : World) (h : 0 < n → ∃ R o, ad = some ⟨R, o, none⟩ ∧ (∀ i, i < n → w.cell? ⟨R, o + i, none⟩ = some (X i)) ∧ (∀ i, i < n → RowKey w (X i) (rows i))) (hr : ∀ i, i < n → rightL (rows i)) (hl : (rows 0).length ≤ 1000) (hn : n ≤ 41) :
    Calls Tryz.prog 7 #[.slice ad n cap] w fun e w' => ∃ q r, e = .returned (.slice (some ⟨q, 0, none⟩) n n) ∧ w.heap.size ≤ q ∧ RowAt q n r w' ∧ Below w.heap.size w w' ∧ Fine (LexL fun x y => cmpRow (rows 0) (rows x) (rows y) < 0) 0 n id r ∧ Srt (LexL fun x y => cmpRow (rows 0) (rows x) (rows y) < 0) 0 n r := by
  have HS : ∀ W, Below w.heap.size w W → W.cell? ⟨w.heap.size, 0, none⟩ = some (.slice ad n cap) → ∀ u, Below W.heap.size W u → ∀ x y, x < n → y < n → Calls Tryz.prog 12 #[.int .i64 (x : Int), .int .i64 (y : Int), .pointer (some ⟨w.heap.size, 0, none⟩)] u fun e w' => e = .returned (.int .i64 (cmpRow (rows 0) (rows x) (rows y))) ∧ Below u.heap.size u w' := by
    intro W hW hg u hu x y hx hy
    obtain ⟨R, o, rfl, h1, h2⟩ := h (by omega)
    have hR : RowsAt W w.heap.size R o n cap X rows := ⟨hg, fun i hi => kept_cell hW (h1 i hi), fun i hi => (h2 i hi).below hW⟩
    exact closure_any w.heap.size R o n cap X rows u x y (hR.below hu) hx hy hr hl
  have HS' := hide HS
  have hmk := fun w => run_make_row' (P := Tryz.prog) 28 3 (.int .i64 0) 8 Tryz.underlying28 (by kernel_rfl) rfl .i64 .i64 n (by omega) (by omega) w
  have HN := hide hn
  clear HS h hr hl
  go_enter Tryz.func7, Tryz.ntmps7
  go_wp2_with fail
  go_loopw [10] (fun v wr => ∃ i : Nat, v = .int .i64 (i : Int) ∧ i ≤ n ∧ wr.rowIs (w.heap.size + 1) 3 n (firstP i) ∧ Below (w.heap.size + 1) (w.alloc (.cells #[.slice ad n cap] 22)) wr) (fun v _ => n - vNat v)
  case atStart =>
    refine ⟨0, rfl, Nat.zero_le _, ?_, ?_⟩
    · have := World.rowIs_made (w.alloc (.cells #[.slice ad n cap] 22)) (.int .i64 0) n 3
      rw [show (w.alloc (.cells #[.slice ad n cap] 22)).heap.size = w.heap.size + 1 by simp] at this
      refine this.congr fun j _ => ?_
      unfold firstP
      rw [if_neg (Nat.not_lt_zero j)]
    · exact (Below.refl _ _).alloc (by simp) _
  case round =>
    obtain ⟨i, rfl, hi, hrow, hbr⟩ := hrel
    by_cases hlt : i < n
    · have hlt' := nat_lt hlt
      have c1 := hrow.cell hlt
      have c2 := hrow.frozen i
      have HN2 := hide (firstP_step hrow)
      have HB2 := hide (hbr.setCell (p := ⟨w.heap.size + 1, i, none⟩) (Nat.le_refl _) (.int .i64 (i : Int)))
      have HM := hide (show n - (((i + 1 : Nat) : Int)).toNat < n - ((i : Nat) : Int).toNat by rw [Int.toNat_natCast, Int.toNat_natCast]; exact Nat.sub_lt_sub_left hlt (Nat.lt_succ_self i))
      have HE1 := hide (show (i : Int) + 1 = ((i + 1 : Nat) : Int) by omega)
      have HLT := hide hlt
      clear hrow hbr
      go_wp2_with fail
      refine ⟨⟨i + 1, ?_, unhide HLT, unhide HN2, unhide HB2⟩, ?_⟩
      · first | (rw [unhide HE1]) | rfl
      · first | (rw [unhide HE1]; exact unhide HM) | exact unhide HM
    · have hlt' := nat_nlt hlt
      obtain rfl : i = n := by omega
      have hr0 := firstP_all hrow
      have HBR := hide hbr
      have HR0 := hide hr0
      have hsz : (w.alloc (.cells #[.slice ad i cap] 22)).heap.size = w.heap.size + 1 := by simp
      have HKK := hide (show Kind (Below (w.heap.size + 1) (w.alloc (.cells #[.slice ad i cap] 22))) (w.heap.size + 1) i from
        ⟨fun u j v hK _ => hK.setCell (Nat.le_refl _) v, fun u hK => hK.drew, fun u u' hK hb => hK.trans (hb.mono (by have := hK.size; omega))⟩)
      have HCM := hide (show CmpK (Below (w.heap.size + 1) (w.alloc (.cells #[.slice ad i cap] 22))) (fun x y => cmpRow (rows 0) (rows x) (rows y)) i w.heap.size from
        fun u x y hK hx hy => unhide HS' (w.alloc (.cells #[.slice ad i cap] 22)) ((Below.refl _ _).alloc (Nat.le_refl _) _) (by simp [go_sem]) u (by rw [hsz]; exact hK) x y hx hy)
      have HSS := hide (sortStable_all (w.heap.size + 1) i i w.heap.size (LexL fun x y => cmpRow (rows 0) (rows x) (rows y) < 0) (fun x y => cmpRow (rows 0) (rows x) (rows y) < 0) (lex_tot ((good_row (rows 0)).of rows).weak) (lex_sub _) (fun x y => cmpRow (rows 0) (rows x) (rows y)) (fun _ _ => Iff.rfl) _ (unhide HKK) (unhide HCM) id wr hr0 (id_rws _ i i (Nat.le_refl _)) hbr (unhide HN))
      unfold cloV at HSS
      clear hrow hr0 hbr hsz HKK HCM
      go_wp2_with fail
      refine (unhide HSS).mono ?_
      rintro e w1 ⟨rfl, r, hr1, hK1, hF, hSr⟩
      have HA := hide (And.intro hr1 (And.intro hK1 (And.intro hF hSr)))
      clear hr1 hK1 hF hSr
      go_wp2_with fail
      go_ret
      obtain ⟨hr1, hK1, hF, hSr⟩ := unhide HA
      exact ⟨w.heap.size + 1, r, rfl, Nat.le_succ _, hr1, ((Below.refl _ w).alloc (Nat.le_refl _) _).trans (hK1.mono (Nat.le_succ _)), hF, hSr⟩
end Go.Proofs.YtoeahagloobmoaaGreatDoor
