/- Keys, compared: xsort's Key.compare and keyAt. -/
import Derived.Test.YtoeahagloobmoaaGreatDoorShelf
import Derived.Test.YtoeahagloobmoaaGreatDoorKeyPlain
import Derived.Test.YtoeahagloobmoaaGreatDoorNumLess
namespace Go.Proofs.YtoeahagloobmoaaGreatDoor
open Go.RowKit
/-- A key as a value. -/
def keyV (num down : Bool) (t : ByteArray) (k v : Int) : Value := .agg #[.bool num, .bool down, .string t, .int .i64 k, .int .i64 v]
set_option maxRecDepth 100000 in
set_option maxHeartbeats 2000000 in
theorem compare_up (th ta tb : ByteArray) (hk hv ak av bk bv : Int) (na nb da db : Bool) (w : World) :
    Calls Tryz.prog 17 #[keyV false false th hk hv, keyV na da ta ak av, keyV nb db tb bk bv] w fun e w' => e = .returned (.int .i64 (Lib.compareBytes ta.data.toList tb.data.toList)) ∧ Below w.heap.size w w' := by
  have HC := hide (fun w => Tryz.strings_Compare ta tb w)
  unfold keyV
  generalize Lib.compareBytes ta.data.toList tb.data.toList = c at *
  go_enter Tryz.func17, Tryz.ntmps17
  go_wp2_with fail
  refine (unhide HC _).mono ?_
  rintro e w1 ⟨rfl, rfl⟩
  go_wp2_with fail
  go_ret
  exact ⟨rfl, by go_grown⟩
set_option maxRecDepth 100000 in
set_option maxHeartbeats 2000000 in
theorem compare_down (th ta tb : ByteArray) (hk hv ak av bk bv : Int) (na nb da db : Bool) (w : World) :
    Calls Tryz.prog 17 #[keyV false true th hk hv, keyV na da ta ak av, keyV nb db tb bk bv] w fun e w' => e = .returned (.int .i64 (Lib.compareBytes tb.data.toList ta.data.toList)) ∧ Below w.heap.size w w' := by
  have HC := hide (fun w => Tryz.strings_Compare tb ta w)
  unfold keyV
  generalize Lib.compareBytes tb.data.toList ta.data.toList = c at *
  go_enter Tryz.func17, Tryz.ntmps17
  go_wp2_with fail
  refine (unhide HC _).mono ?_
  rintro e w1 ⟨rfl, rfl⟩
  go_wp2_with fail
  go_ret
  exact ⟨rfl, by go_grown⟩
set_option maxRecDepth 100000 in
set_option maxHeartbeats 2000000 in
theorem compare_num_up (th ta tb : ByteArray) (hk hv ak av bk bv : Int) (na nb da db : Bool) (w : World) (ra : rightB ak av = true) (rb : rightB bk bv = true) :
    Calls Tryz.prog 17 #[keyV true false th hk hv, keyV na da ta ak av, keyV nb db tb bk bv] w fun e w' => e = .returned (.int .i64 (cmpN (keyN ak av) (keyN bk bv))) ∧ Below w.heap.size w w' := by
  have H1 := hide (fun w => lessN_any ak av bk bv w)
  have H2 := hide (fun w => lessN_any bk bv ak av w)
  rw [less_key ra rb] at H1
  rw [less_key rb ra] at H2
  unfold keyV cmpN
  clear ra rb
  generalize keyN ak av = x at *
  generalize keyN bk bv = y at *
  by_cases c1 : x < y
  · rw [if_pos c1]
    rw [decide_eq_true c1] at H1
    clear c1 H2
    go_enter Tryz.func17, Tryz.ntmps17
    go_wp2_with fail
    refine (unhide H1 _).mono ?_
    rintro e w1 ⟨rfl, hb1⟩
    go_wp2_with fail
    go_ret
    exact ⟨rfl, Below.then (by go_grown) hb1⟩
  · rw [if_neg c1]
    rw [decide_eq_false c1] at H1
    clear c1
    by_cases c2 : y < x
    · rw [if_pos c2]
      rw [decide_eq_true c2] at H2
      clear c2
      go_enter Tryz.func17, Tryz.ntmps17
      go_wp2_with fail
      refine (unhide H1 _).mono ?_
      rintro e w1 ⟨rfl, hb1⟩
      have k1 : w1.cell? ⟨w.heap.size + 1, 3, none⟩ = some (.int .i64 ak) := kept_cell hb1 (by simp [go_sem])
      have k2 : w1.cell? ⟨w.heap.size + 1, 4, none⟩ = some (.int .i64 av) := kept_cell hb1 (by simp [go_sem])
      have k3 : w1.cell? ⟨w.heap.size + 1 + 1, 3, none⟩ = some (.int .i64 bk) := kept_cell hb1 (by simp [go_sem])
      have k4 : w1.cell? ⟨w.heap.size + 1 + 1, 4, none⟩ = some (.int .i64 bv) := kept_cell hb1 (by simp [go_sem])
      go_wp2_with fail
      refine (unhide H2 _).mono ?_
      rintro e w2 ⟨rfl, hb2⟩
      go_wp2_with fail
      go_ret
      exact ⟨rfl, Below.then (Below.then (by go_grown) hb1) hb2⟩
    · rw [if_neg c2]
      rw [decide_eq_false c2] at H2
      clear c2
      go_enter Tryz.func17, Tryz.ntmps17
      go_wp2_with fail
      refine (unhide H1 _).mono ?_
      rintro e w1 ⟨rfl, hb1⟩
      have k1 : w1.cell? ⟨w.heap.size + 1, 3, none⟩ = some (.int .i64 ak) := kept_cell hb1 (by simp [go_sem])
      have k2 : w1.cell? ⟨w.heap.size + 1, 4, none⟩ = some (.int .i64 av) := kept_cell hb1 (by simp [go_sem])
      have k3 : w1.cell? ⟨w.heap.size + 1 + 1, 3, none⟩ = some (.int .i64 bk) := kept_cell hb1 (by simp [go_sem])
      have k4 : w1.cell? ⟨w.heap.size + 1 + 1, 4, none⟩ = some (.int .i64 bv) := kept_cell hb1 (by simp [go_sem])
      go_wp2_with fail
      refine (unhide H2 _).mono ?_
      rintro e w2 ⟨rfl, hb2⟩
      go_wp2_with fail
      go_ret
      exact ⟨rfl, Below.then (Below.then (by go_grown) hb1) hb2⟩
set_option maxRecDepth 100000 in
set_option maxHeartbeats 2000000 in
theorem compare_num_down (th ta tb : ByteArray) (hk hv ak av bk bv : Int) (na nb da db : Bool) (w : World) (ra : rightB ak av = true) (rb : rightB bk bv = true) :
    Calls Tryz.prog 17 #[keyV true true th hk hv, keyV na da ta ak av, keyV nb db tb bk bv] w fun e w' => e = .returned (.int .i64 (cmpN (keyN bk bv) (keyN ak av))) ∧ Below w.heap.size w w' := by
  have H1 := hide (fun w => lessN_any bk bv ak av w)
  have H2 := hide (fun w => lessN_any ak av bk bv w)
  rw [less_key rb ra] at H1
  rw [less_key ra rb] at H2
  unfold keyV cmpN
  clear ra rb
  generalize keyN bk bv = x at *
  generalize keyN ak av = y at *
  by_cases c1 : x < y
  · rw [if_pos c1]
    rw [decide_eq_true c1] at H1
    clear c1 H2
    go_enter Tryz.func17, Tryz.ntmps17
    go_wp2_with fail
    refine (unhide H1 _).mono ?_
    rintro e w1 ⟨rfl, hb1⟩
    go_wp2_with fail
    go_ret
    exact ⟨rfl, Below.then (by go_grown) hb1⟩
  · rw [if_neg c1]
    rw [decide_eq_false c1] at H1
    clear c1
    by_cases c2 : y < x
    · rw [if_pos c2]
      rw [decide_eq_true c2] at H2
      clear c2
      go_enter Tryz.func17, Tryz.ntmps17
      go_wp2_with fail
      refine (unhide H1 _).mono ?_
      rintro e w1 ⟨rfl, hb1⟩
      have k1 : w1.cell? ⟨w.heap.size + 1, 3, none⟩ = some (.int .i64 bk) := kept_cell hb1 (by simp [go_sem])
      have k2 : w1.cell? ⟨w.heap.size + 1, 4, none⟩ = some (.int .i64 bv) := kept_cell hb1 (by simp [go_sem])
      have k3 : w1.cell? ⟨w.heap.size + 1 + 1, 3, none⟩ = some (.int .i64 ak) := kept_cell hb1 (by simp [go_sem])
      have k4 : w1.cell? ⟨w.heap.size + 1 + 1, 4, none⟩ = some (.int .i64 av) := kept_cell hb1 (by simp [go_sem])
      go_wp2_with fail
      refine (unhide H2 _).mono ?_
      rintro e w2 ⟨rfl, hb2⟩
      go_wp2_with fail
      go_ret
      exact ⟨rfl, Below.then (Below.then (by go_grown) hb1) hb2⟩
    · rw [if_neg c2]
      rw [decide_eq_false c2] at H2
      clear c2
      go_enter Tryz.func17, Tryz.ntmps17
      go_wp2_with fail
      refine (unhide H1 _).mono ?_
      rintro e w1 ⟨rfl, hb1⟩
      have k1 : w1.cell? ⟨w.heap.size + 1, 3, none⟩ = some (.int .i64 bk) := kept_cell hb1 (by simp [go_sem])
      have k2 : w1.cell? ⟨w.heap.size + 1, 4, none⟩ = some (.int .i64 bv) := kept_cell hb1 (by simp [go_sem])
      have k3 : w1.cell? ⟨w.heap.size + 1 + 1, 3, none⟩ = some (.int .i64 ak) := kept_cell hb1 (by simp [go_sem])
      have k4 : w1.cell? ⟨w.heap.size + 1 + 1, 4, none⟩ = some (.int .i64 av) := kept_cell hb1 (by simp [go_sem])
      go_wp2_with fail
      refine (unhide H2 _).mono ?_
      rintro e w2 ⟨rfl, hb2⟩
      go_wp2_with fail
      go_ret
      exact ⟨rfl, Below.then (Below.then (by go_grown) hb1) hb2⟩
/-- A key's value. -/
def KeyD.val (x : KeyD) : Value := keyV x.num x.down x.t x.k x.v
def KeyD.right (x : KeyD) : Prop := rightB x.k x.v = true
theorem compare_key (h a b : KeyD) (w : World) (ra : a.right) (rb : b.right) :
    Calls Tryz.prog 17 #[h.val, a.val, b.val] w fun e w' => e = .returned (.int .i64 (cmpKey h a b)) ∧ Below w.heap.size w w' := by
  obtain ⟨n, d, t, k, v⟩ := h
  cases n <;> cases d
  · exact compare_up t a.t b.t k v a.k a.v b.k b.v a.num b.num a.down b.down w
  · exact compare_down t a.t b.t k v a.k a.v b.k b.v a.num b.num a.down b.down w
  · exact compare_num_up t a.t b.t k v a.k a.v b.k b.v a.num b.num a.down b.down w ra rb
  · exact compare_num_down t a.t b.t k v a.k a.v b.k b.v a.num b.num a.down b.down w ra rb
/-- A key in a block, from a place on. -/
structure KeyAt (w : World) (b o : Nat) (x : KeyD) : Prop where
  c0 : w.cell? ⟨b, o, none⟩ = some (.bool x.num)
  c1 : w.cell? ⟨b, o + 1, none⟩ = some (.bool x.down)
  c2 : w.cell? ⟨b, o + 2, none⟩ = some (.string x.t)
  c3 : w.cell? ⟨b, o + 3, none⟩ = some (.int .i64 x.k)
  c4 : w.cell? ⟨b, o + 4, none⟩ = some (.int .i64 x.v)
theorem KeyAt.below {w w' : World} {b o : Nat} {x : KeyD} (h : KeyAt w b o x) (hb : Below w.heap.size w w') : KeyAt w' b o x :=
  ⟨kept_cell hb h.c0, kept_cell hb h.c1, kept_cell hb h.c2, kept_cell hb h.c3, kept_cell hb h.c4⟩
/-- A row of keys, as a slice. -/
def RowKey (w : World) (v : Value) (l : List KeyD) : Prop := (l = [] ∧ ∃ a c, v = .slice a 0 c) ∨ ∃ b cap, v = .slice (some ⟨b, 0, none⟩) l.length cap ∧ ∀ i x, l[i]? = some x → KeyAt w b (i * 5) x
theorem RowKey.below {w w' : World} {v : Value} {l : List KeyD} (h : RowKey w v l) (hb : Below w.heap.size w w') : RowKey w' v l := by
  rcases h with h | ⟨b, cap, e, h⟩
  · exact .inl h
  · exact .inr ⟨b, cap, e, fun i x hx => (h i x hx).below hb⟩
set_option maxRecDepth 100000 in
set_option maxHeartbeats 2000000 in
theorem keyAt_in (b cap n i : Nat) (x : KeyD) (w : World) (h : KeyAt w b (i * 5) x) (hi : i < n) :
    Calls Tryz.prog 18 #[.slice (some ⟨b, 0, none⟩) n cap, .int .i64 (i : Int)] w fun e w' => e = .returned x.val ∧ Below w.heap.size w w' := by
  have hA : ∀ o, KeyAt (w.alloc o) b (i * 5) x := fun o => h.below ((Below.refl _ w).alloc (Nat.le_refl _) o)
  have d0 := fun o => (hA o).c0
  have d1 := fun o => (hA o).c1
  have d2 := fun o => (hA o).c2
  have d3 := fun o => (hA o).c3
  have d4 := fun o => (hA o).c4
  have hi' : (i : Int) < (n : Int) := by omega
  clear hA h
  unfold KeyD.val keyV
  go_enter Tryz.func18, Tryz.ntmps18
  go_wp2_with fail
  go_returns
  exact ⟨rfl, (Below.refl _ w).alloc (Nat.le_refl _) _⟩
set_option maxRecDepth 100000 in
set_option maxHeartbeats 2000000 in
theorem keyAt_out (a : Option Addr) (cap n i : Nat) (w : World) (hi : ¬ i < n) :
    Calls Tryz.prog 18 #[.slice a n cap, .int .i64 (i : Int)] w fun e w' => e = .returned keyZ.val ∧ Below w.heap.size w w' := by
  have hi' : ¬ (i : Int) < (n : Int) := by omega
  unfold KeyD.val keyV keyZ
  go_enter Tryz.func18, Tryz.ntmps18
  go_wp2_with fail
  go_returns
  exact ⟨rfl, by go_grown⟩
theorem keyAt_any (v : Value) (l : List KeyD) (i : Nat) (w : World) (h : RowKey w v l) :
    Calls Tryz.prog 18 #[v, .int .i64 (i : Int)] w fun e w' => e = .returned (keyG l i).val ∧ Below w.heap.size w w' := by
  rcases h with ⟨rfl, a, c, rfl⟩ | ⟨b, cap, rfl, h⟩
  · exact keyAt_out a c 0 i w (by omega)
  · by_cases hi : i < l.length
    · have e : l[i]? = some (keyG l i) := by
        unfold keyG
        rw [List.getD_eq_getElem?_getD, List.getElem?_eq_getElem hi]
        rfl
      exact keyAt_in b cap l.length i (keyG l i) w (h i _ e) hi
    · have e : keyG l i = keyZ := by
        unfold keyG
        rw [List.getD_eq_getElem?_getD, List.getElem?_eq_none (by omega)]
        rfl
      rw [e]
      exact keyAt_out _ cap l.length i w hi
theorem KeyD.right_zero : keyZ.right := by
  show rightB 0 0 = true
  decide
def rightL (l : List KeyD) : Prop := ∀ x ∈ l, x.right
theorem rightL.at {l : List KeyD} (h : rightL l) (i : Nat) : (keyG l i).right := by
  unfold keyG
  rw [List.getD_eq_getElem?_getD]
  cases hx : l[i]? with
  | none => exact KeyD.right_zero
  | some x => exact h x (List.mem_of_getElem? hx)
theorem keyAt_new (w : World) (x : KeyD) (ty : Nat) : KeyAt (w.alloc (.cells #[.bool x.num, .bool x.down, .string x.t, .int .i64 x.k, .int .i64 x.v] ty)) w.heap.size 0 x := by
  constructor <;> simp [go_sem]
end Go.Proofs.YtoeahagloobmoaaGreatDoor
