/- Rows of keys that a call makes, of any type of rows. -/
import Derived.Test.YtoeahagloobmoaaGreatDoorSortRows
namespace Go.Proofs.YtoeahagloobmoaaGreatDoor
open Go.RowKit
/-- Rows of keys that are one's own, of any type of rows. -/
structure RowsT (ty : TypeId) (w : World) (B : Nat) (v : Value) (n : Nat) (X : Nat → Value) (rows : Nat → List KeyD) : Prop where
  own : w.ownsRow B ty 1 v n ((List.range n).map X)
  nil : n = 0 → v = .slice none 0 0
  isS : ∀ j, j < n → ∃ a m c, X j = .slice a m c
  keys : ∀ j, j < n → RowKey w (X j) (rows j)
theorem RowsT.below {ty : TypeId} {w w' : World} {B : Nat} {v : Value} {n : Nat} {X : Nat → Value} {rows : Nat → List KeyD} (h : RowsT ty w B v n X rows) (hb : Below w.heap.size w w') : RowsT ty w' B v n X rows :=
  ⟨own_below h.own hb, h.nil, h.isS, fun j hj => (h.keys j hj).below hb⟩
theorem RowsT.start (ty : TypeId) (w : World) (B : Nat) (rows : Nat → List KeyD) : RowsT ty w B (.slice none 0 0) 0 (fun _ => .slice none 0 0) rows :=
  ⟨World.ownsRow_nil _ _ _ _, fun _ => rfl, fun j h => absurd h (Nat.not_lt_zero j), fun j h => absurd h (Nat.not_lt_zero j)⟩
/-- What a row of rows is, as a slice. -/
theorem RowsT.open {ty : TypeId} {w : World} {B : Nat} {v : Value} {n : Nat} {X : Nat → Value} {rows : Nat → List KeyD} (h : RowsT ty w B v n X rows) : ∃ ad cap, v = .slice ad n cap ∧ (0 < n → ∃ g, ad = some ⟨g, 0, none⟩ ∧ ∀ i, i < n → w.cell? ⟨g, i, none⟩ = some (X i)) := by
  rcases h.own.2 with ⟨rfl, rfl⟩ | ⟨g, cap, cur, rfl, _⟩
  · exact ⟨none, 0, rfl, fun h0 => absurd h0 (Nat.not_lt_zero 0)⟩
  · refine ⟨some ⟨g, 0, none⟩, cap, rfl, fun _ => ⟨g, rfl, fun i hi => ?_⟩⟩
    rw [h.own.cellAt i (by omega)]
    simp [hi]
/-- A row of keys stays where a row of rows grows. -/
theorem RowsT.keeps {ty : TypeId} {w w' : World} {B : Nat} {v : Value} {n : Nat} {X : Nat → Value} {rows : Nat → List KeyD} (h : RowsT ty w B v n X rows) (hg : w.grownBy w' v.ownBlock) {y : Value} {l : List KeyD} (hk : RowKey w y l) : RowKey w' y l := by
  rcases hk with hk | ⟨b, cap, e, hk⟩
  · exact .inl hk
  · refine .inr ⟨b, cap, e, fun i x hx => ?_⟩
    have hne : some b ≠ v.ownBlock := by
      intro hb
      have hl : 0 < l.length := by
        have := (List.getElem?_eq_some_iff.1 hx).1
        omega
      have hc := (hk 0 l[0] (List.getElem?_eq_getElem hl)).c0
      by_cases h0 : n = 0
      · rw [h.nil h0] at hb
        simp [Value.ownBlock] at hb
      · obtain ⟨ad, cap', rfl, hop⟩ := h.open
        obtain ⟨g, rfl, hcell⟩ := hop (by omega)
        simp [Value.ownBlock] at hb
        subst hb
        have hc2 := hcell 0 (by omega)
        rw [Nat.zero_mul] at hc
        obtain ⟨a, m, c, hX⟩ := h.isS 0 (by omega)
        rw [hX] at hc2
        rw [hc2] at hc
        cases hc
    have hkk := hk i x hx
    exact ⟨hg.cell hkk.c0 hne, hg.cell hkk.c1 hne, hg.cell hkk.c2 hne, hg.cell hkk.c3 hne, hg.cell hkk.c4 hne⟩
theorem RowsT.more {ty : TypeId} {w w' : World} {B : Nat} {v v' : Value} {n : Nat} {X : Nat → Value} {rows : Nat → List KeyD} (h : RowsT ty w B v n X rows) {y : Value} (hy : ∃ a m c, y = .slice a m c) (hk : RowKey w y (rows n)) (hown : w'.ownsRow B ty 1 v' (n + 1) ((List.range n).map X ++ [y])) (hg : w.grownBy w' v.ownBlock) :
    RowsT ty w' B v' (n + 1) (fun j => if j < n then X j else y) rows := by
  refine ⟨?_, fun h0 => absurd h0 (Nat.succ_ne_zero n), fun j hj => ?_, fun j hj => ?_⟩
  · have e : (List.range (n + 1)).map (fun j => if j < n then X j else y) = (List.range n).map X ++ [y] := by
      rw [List.range_succ, List.map_append]
      congr 1
      · refine List.map_congr_left fun j hj => ?_
        rw [if_pos (List.mem_range.1 hj)]
      · simp
    rw [e]
    exact hown
  · by_cases c : j < n
    · obtain ⟨a, m, q, e⟩ := h.isS j c
      exact ⟨a, m, q, by rw [if_pos c]; exact e⟩
    · obtain ⟨a, m, q, e⟩ := hy
      exact ⟨a, m, q, by rw [if_neg c]; exact e⟩
  · by_cases c : j < n
    · rw [if_pos c]
      exact h.keeps hg (h.keys j c)
    · rw [if_neg c]
      obtain rfl : j = n := by omega
      exact h.keeps hg hk
theorem RowsT.ge {ty : TypeId} {w : World} {B : Nat} {v : Value} {n : Nat} {X : Nat → Value} {rows : Nat → List KeyD} (h : RowsT ty w B v n X rows) : ∀ k, v.ownBlock = some k → B ≤ k := own_ge h.own
/-- A row of one type stays where one of another type grows. -/
theorem own_other {w w' : World} {B B' : Nat} {e e' : TypeId} {size size' : Nat} {v v' : Value} {n n' : Nat} {xs xs' : List Value} (h : w.ownsRow B e size v n xs) (h' : w.ownsRow B' e' size' v' n' xs') (he : e ≠ e') (hg : w.grownBy w' v'.ownBlock) : w'.ownsRow B e size v n xs := by
  refine ⟨h.1, ?_⟩
  rcases h.2 with h0 | ⟨g, cap, cur, h1, h2, h3, h4⟩
  · exact .inl h0
  · refine .inr ⟨g, cap, cur, h1, h2, ?_, h4⟩
    have hne : some g ≠ v'.ownBlock := by
      intro hgb
      rcases h'.2 with ⟨k0, _⟩ | ⟨g', cap', cur', k1, k2, k3, k4⟩
      · rw [k0] at hgb
        simp [Value.ownBlock] at hgb
      · rw [k1] at hgb
        simp [Value.ownBlock] at hgb
        subst hgb
        rw [h3] at k3
        cases k3
        exact he rfl
    rw [hg.block g (Array.getElem?_eq_some_iff.1 h3).1 hne]
    exact h3
theorem RowsT.other {ty ty' : TypeId} {w w' : World} {B : Nat} {va vb : Value} {n m : Nat} {X Y : Nat → Value} {rows rows' : Nat → List KeyD} (ha : RowsT ty w B va n X rows) (hb : RowsT ty' w B vb m Y rows') (ht : ty' ≠ ty) (hg : w.grownBy w' va.ownBlock) : RowsT ty' w' B vb m Y rows' :=
  ⟨own_other hb.own ha.own ht hg, hb.nil, hb.isS, fun j hj => ha.keeps hg (hb.keys j hj)⟩
theorem RowsT.toV {w : World} {B : Nat} {v : Value} {n : Nat} {X : Nat → Value} {rows : Nat → List KeyD} (h : RowsT 32 w B v n X rows) : RowsV w B v n X rows := ⟨h.own, h.nil, h.isS, h.keys⟩
/-- A key's cells. -/
def keyCells (x : KeyD) : List Value := [.bool x.num, .bool x.down, .string x.t, .int .i64 x.k, .int .i64 x.v]
def keyRow (l : List KeyD) : List Value := l.flatMap keyCells
theorem keyRow_snoc (l : List KeyD) (x : KeyD) : keyRow (l ++ [x]) = keyRow l ++ keyCells x := by
  unfold keyRow
  rw [List.flatMap_append]
  simp
theorem keyRow_at : ∀ (l : List KeyD) (i : Nat) (x : KeyD), l[i]? = some x → ∀ j, j < 5 → (keyRow l)[i * 5 + j]? = (keyCells x)[j]?
  | [], i, x, h, _, _ => by simp at h
  | y :: l, 0, x, h, j, hj => by
    simp at h
    subst h
    unfold keyRow
    rw [List.flatMap_cons, Nat.zero_mul, Nat.zero_add, List.getElem?_append_left (by simpa [keyCells] using hj)]
  | y :: l, i + 1, x, h, j, hj => by
    have := keyRow_at l i x (by simpa using h) j hj
    unfold keyRow at this ⊢
    rw [List.flatMap_cons, List.getElem?_append_right (by simp [keyCells]; omega)]
    rw [← this]
    congr 1
    simp [keyCells]
    omega
/-- A row of keys of one's own, as rows are read. -/
theorem own_rowKey {w : World} {B : Nat} {e : TypeId} {v : Value} {l : List KeyD} (h : w.ownsRow B e 5 v l.length (keyRow l)) : RowKey w v l := by
  rcases h.2 with ⟨rfl, h0⟩ | ⟨g, cap, cur, rfl, h2, h3, h4⟩
  · exact .inl ⟨List.length_eq_zero_iff.1 h0, none, 0, rfl⟩
  · refine .inr ⟨g, cap, rfl, fun i x hx => ?_⟩
    have hi := (List.getElem?_eq_some_iff.1 hx).1
    have hc : ∀ j, j < 5 → w.cell? ⟨g, i * 5 + j, none⟩ = (keyCells x)[j]? := fun j hj => by
      rw [h.cellAt (i * 5 + j) (by omega)]
      exact keyRow_at l i x hx j hj
    exact ⟨hc 0 (by omega), hc 1 (by omega), hc 2 (by omega), hc 3 (by omega), hc 4 (by omega)⟩
theorem key_ones (x : KeyD) : ∀ u ∈ keyCells x, u.oneCell' = true := by
  intro u hu
  unfold keyCells at hu
  simp at hu
  rcases hu with rfl | rfl | rfl | rfl | rfl <;> rfl
theorem infoKeyX : (Tryz.prog.info? 39).map (fun i => (i.zero, i.size, i.bytes)) = some (some (.agg #[.bool false, .bool false, .string ⟨#[]⟩, .int .i64 0, .int .i64 0]), 5, 40) := by kernel_rfl
theorem infoKeyY : (Tryz.prog.info? 40).map (fun i => (i.zero, i.size, i.bytes)) = some (some (.agg #[.bool false, .bool false, .string ⟨#[]⟩, .int .i64 0, .int .i64 0]), 5, 40) := by kernel_rfl
theorem infoRowY : (Tryz.prog.info? 33).map (fun i => (i.zero, i.size, i.bytes)) = some (some (.slice none 0 0), 1, 24) := by kernel_rfl
end Go.Proofs.YtoeahagloobmoaaGreatDoor
