/- Values that are texts or numbers: xvalue.String, Number, the arguments of a function. -/
import Derived.Test.YtppkilblkobkhaaGreatDoorVaFns
import Derived.Test.YtppkilblkobkhaaGreatDoorNumCls
namespace Go.Proofs.YtppkilblkobkhaaGreatDoor
open Go.RowKit
/-- Worlds behind one. -/
structure ClsV (W0 : World) (u : World) : Prop where
  bel : Below W0.heap.size W0 u
/-- A value, cell by cell. -/
structure PV where
  kind : Int
  numk : Int
  numv : Int
  text : ByteArray
  truth : Bool
def PV.cells (x : PV) : List Value := [.int .i64 x.kind, .slice none 0 0, .int .i64 x.numk, .int .i64 x.numv, .string x.text, .bool x.truth]
def txtP (s : ByteArray) : PV := ⟨2, 0, 0, s, false⟩
def numP (v : Int) : PV := ⟨1, 0, v, ⟨#[]⟩, false⟩
/-- Values in memory, one behind the other. -/
def ValsAt (w : World) (g o : Nat) (l : List PV) : Prop := ∀ (i : Nat) (x : PV), l[i]? = some x → ∀ (j : Nat) (v : Value), x.cells[j]? = some v → w.cell? ⟨g, o + i * 6 + j, none⟩ = some v
theorem ValsAt.on {w w' : World} {g o : Nat} {l : List PV} (h : ValsAt w g o l) (hb : Below w.heap.size w w') : ValsAt w' g o l :=
  fun i x hx j v hv => kept_cell hb (h i x hx j v hv)
theorem new_cell (w : World) (c : Array Value) (t : TypeId) (i : Nat) : (w.alloc (.cells c t)).cell? ⟨w.heap.size, i, none⟩ = c[i]? := by simp [go_sem]
set_option maxRecDepth 100000 in
theorem ofText_any (s : ByteArray) (w : World) : Calls Tryz.prog 14 #[.string s] w fun e w' => e = .returned (.agg #[.int .i64 2, .slice none 0 0, .int .i64 0, .int .i64 0, .string s, .bool false]) ∧ Below w.heap.size w w' := by
  go_enter Tryz.func14, Tryz.ntmps14
  go_wp2
  refine bodyPost_ret (v := .agg #[.int .i64 2, .slice none 0 0, .int .i64 0, .int .i64 0, .string s, .bool false]) (by simp [results, Tryz.results14, go_sem]) rfl ?_
  exact ⟨rfl, by (repeat first | exact Below.refl _ _ | assumption | refine Below.drew ?_ | refine Below.alloc ?_ (by simp <;> omega) _ | refine Below.setCell ?_ (by simp <;> omega) _)⟩
set_option maxRecDepth 100000 in
theorem string_txt (s : ByteArray) (w : World) : Calls Tryz.prog 108 #[.pointer none, .agg #[.int .i64 2, .slice none 0 0, .int .i64 0, .int .i64 0, .string s, .bool false]] w fun e w' => e = .returned (.string s) ∧ Below w.heap.size w w' := by
  go_enter Tryz.func108, Tryz.ntmps108
  go_wp2
  go_returns
  exact ⟨rfl, by (repeat first | exact Below.refl _ _ | assumption | refine Below.drew ?_ | refine Below.alloc ?_ (by simp <;> omega) _ | refine Below.setCell ?_ (by simp <;> omega) _)⟩
set_option maxRecDepth 100000 in
set_option maxHeartbeats 2000000 in
theorem text_at (w : World) (g o n cap i : Nat) (s : ByteArray) (l : List PV) (h : ValsAt w g o l) (hi : l[i]? = some (txtP s)) (hn : l.length = n) :
    Calls Tryz.prog 75 #[.agg #[.pointer none, .slice (some ⟨g, o, none⟩) n cap], .int .i64 (i : Nat)] w fun e w' => e = .returned (.string s) ∧ Below w.heap.size w w' := by
  have hlt : i < n := by rw [← hn]; exact (List.getElem?_eq_some_iff.1 hi).1
  have n1 : (0 : Int) ≤ (i : Int) := by omega
  have n2 : (i : Int) < (n : Int) := by omega
  have HS := hide (string_txt s)
  obtain ⟨W0, hW0⟩ : ∃ W0, w.alloc (.cells #[.pointer none, .slice (some ⟨g, o, none⟩) n cap] 64) = W0 := ⟨_, rfl⟩
  have hb0 : Below w.heap.size w W0 := by rw [← hW0]; exact (Below.refl _ _).alloc (Nat.le_refl _) _
  have p0 : W0.cell? ⟨w.heap.size, 0, none⟩ = some (.pointer none) := by rw [← hW0]; exact new_cell ..
  have p1 : W0.cell? ⟨w.heap.size, 1, none⟩ = some (.slice (some ⟨g, o, none⟩) n cap) := by rw [← hW0]; exact new_cell ..
  have HV := hide (ValsAt.on h hb0)
  have HX : Hid (ClsV W0 W0.drew) := hide ⟨(Below.refl _ _).drew⟩
  have HCE : Hid (∀ w', ClsV W0 w' → w'.cell? ⟨w.heap.size, 0, none⟩ = some (.pointer none) ∧ w'.cell? ⟨w.heap.size, 1, none⟩ = some (.slice (some ⟨g, o, none⟩) n cap) ∧
      w'.cell? ⟨g, o + i * 6, none⟩ = some (.int .i64 2) ∧ w'.cell? ⟨g, o + i * 6 + 1, none⟩ = some (.slice none 0 0) ∧ w'.cell? ⟨g, o + i * 6 + 2, none⟩ = some (.int .i64 0) ∧ w'.cell? ⟨g, o + i * 6 + 3, none⟩ = some (.int .i64 0) ∧ w'.cell? ⟨g, o + i * 6 + 4, none⟩ = some (.string s) ∧ w'.cell? ⟨g, o + i * 6 + 5, none⟩ = some (.bool false)) := hide fun w' hC => by
    have hv := (unhide HV).on hC.bel i _ hi
    exact ⟨kept_cell hC.bel p0, kept_cell hC.bel p1, hv 0 _ rfl, hv 1 _ rfl, hv 2 _ rfl, hv 3 _ rfl, hv 4 _ rfl, hv 5 _ rfl⟩
  have HB := hide hb0
  clear h hi hn hlt HV p0 p1 hb0
  go_enter Tryz.func75, Tryz.ntmps75
  go_wp2_with fail
  clear hW0
  refine wp_region_cls (ClsV W0) (by kernel_rfl) (by kernel_rfl) (unhide HX) ?_
  repeat
    (first
      | go_big_quiet_skip
      | (go_big_quiet_want
         go_big_quiet_op
         first
           | go_big_quiet_on
           | (apply Exists.intro
              refine ⟨fun w' hC => ?_, ?_⟩
              · (first
                  | (go_at_call 108; refine (unhide HS _).mono ?_; rintro e w3 ⟨rfl, hb3⟩; exact ⟨rfl, ⟨Below.then hC.bel hb3⟩⟩)
                  | (obtain ⟨k0, k1, k2, k3, k4, k5, k6, k7⟩ := unhide HCE _ hC; go_simp; first | done | rfl))
              go_big_quiet_on)))
  refine wpQuiet_nil ?_
  intro w4 hC4
  have hb4 := Below.then (unhide HB) hC4.bel
  clear HCE hC4 HX
  go_wp2
  go_returns
  exact ⟨rfl, hb4⟩
end Go.Proofs.YtppkilblkobkhaaGreatDoor
