/- Rows of keys that a call makes, one behind the other. -/
import Derived.Test.YtoeahagloobmoaaGreatDoorOrderGo
import Derived.OwnWalk
namespace Go.Proofs.YtoeahagloobmoaaGreatDoor
open Go.RowKit
theorem block_keep {w w' : World} {k : Nat} {o : Obj} (h : w.heap[k]? = some o) (hb : Below w.heap.size w w') : w'.heap[k]? = some o := by
  rw [hb.block k (Array.getElem?_eq_some_iff.1 h).1]; exact h
theorem own_below {w w' : World} {base : Nat} {e : TypeId} {size : Nat} {v : Value} {n : Nat} {xs : List Value} (h : w.ownsRow base e size v n xs) (hb : Below w.heap.size w w') : w'.ownsRow base e size v n xs := by
  refine ⟨h.1, ?_⟩
  rcases h.2 with h | ⟨g, cap, cur, h1, h2, h3, h4⟩
  · exact .inl h
  · exact .inr ⟨g, cap, cur, h1, h2, block_keep h3 hb, h4⟩
theorem own_ge {w : World} {base : Nat} {e : TypeId} {size : Nat} {v : Value} {n : Nat} {xs : List Value} (h : w.ownsRow base e size v n xs) : ∀ k, v.ownBlock = some k → base ≤ k := by
  intro k hk
  rcases h.2 with ⟨rfl, _⟩ | ⟨g, cap, cur, rfl, h2, _⟩
  · simp [Value.ownBlock] at hk
  · simp [Value.ownBlock] at hk; omega
/-- Rows of keys that are one's own. -/
structure RowsV (w : World) (B : Nat) (v : Value) (n : Nat) (X : Nat → Value) (rows : Nat → List KeyD) : Prop where
  own : w.ownsRow B 32 1 v n ((List.range n).map X)
  nil : n = 0 → v = .slice none 0 0
  isS : ∀ j, j < n → ∃ a m c, X j = .slice a m c
  keys : ∀ j, j < n → RowKey w (X j) (rows j)
theorem RowsV.below {w w' : World} {B : Nat} {v : Value} {n : Nat} {X : Nat → Value} {rows : Nat → List KeyD} (h : RowsV w B v n X rows) (hb : Below w.heap.size w w') : RowsV w' B v n X rows :=
  ⟨own_below h.own hb, h.nil, h.isS, fun j hj => (h.keys j hj).below hb⟩
theorem RowsV.start (w : World) (B : Nat) (rows : Nat → List KeyD) : RowsV w B (.slice none 0 0) 0 (fun _ => .slice none 0 0) rows :=
  ⟨World.ownsRow_nil _ _ _ _, fun _ => rfl, fun j h => absurd h (Nat.not_lt_zero j), fun j h => absurd h (Nat.not_lt_zero j)⟩
/-- What a row of rows is, as a slice. -/
theorem RowsV.open {w : World} {B : Nat} {v : Value} {n : Nat} {X : Nat → Value} {rows : Nat → List KeyD} (h : RowsV w B v n X rows) : ∃ ad cap, v = .slice ad n cap ∧ (0 < n → ∃ g, ad = some ⟨g, 0, none⟩ ∧ ∀ i, i < n → w.cell? ⟨g, i, none⟩ = some (X i)) := by
  rcases h.own.2 with ⟨rfl, rfl⟩ | ⟨g, cap, cur, rfl, _⟩
  · exact ⟨none, 0, rfl, fun h0 => absurd h0 (Nat.not_lt_zero 0)⟩
  · refine ⟨some ⟨g, 0, none⟩, cap, rfl, fun _ => ⟨g, rfl, fun i hi => ?_⟩⟩
    rw [h.own.cellAt i (by omega)]
    simp [hi]
/-- A row of keys stays where a row of rows grows. -/
theorem RowsV.keeps {w w' : World} {B : Nat} {v : Value} {n : Nat} {X : Nat → Value} {rows : Nat → List KeyD} (h : RowsV w B v n X rows) (hg : w.grownBy w' v.ownBlock) {y : Value} {l : List KeyD} (hk : RowKey w y l) : RowKey w' y l := by
  rcases hk with hk | ⟨b, cap, e, hk⟩
  · exact .inl hk
  · refine .inr ⟨b, cap, e, fun i x hx => ?_⟩
    have hne : some b ≠ v.ownBlock := by
      intro hb
      have hl : 0 < l.length := by
        have := (List.getElem?_eq_some_iff.1 hx).1
        omega
      have hc := (hk 0 l[0] (List.getElem?_eq_getElem hl)).c0
      by_cases h0 : n = 0
      · rw [h.nil h0] at hb
        simp [Value.ownBlock] at hb
      · obtain ⟨ad, cap', rfl, hop⟩ := h.open
        obtain ⟨g, rfl, hcell⟩ := hop (by omega)
        simp [Value.ownBlock] at hb
        subst hb
        have hc2 := hcell 0 (by omega)
        rw [Nat.zero_mul] at hc
        obtain ⟨a, m, c, hX⟩ := h.isS 0 (by omega)
        rw [hX] at hc2
        rw [hc2] at hc
        cases hc
    have hkk := hk i x hx
    exact ⟨hg.cell hkk.c0 hne, hg.cell hkk.c1 hne, hg.cell hkk.c2 hne, hg.cell hkk.c3 hne, hg.cell hkk.c4 hne⟩
theorem RowsV.more {w w' : World} {B : Nat} {v v' : Value} {n : Nat} {X : Nat → Value} {rows : Nat → List KeyD} (h : RowsV w B v n X rows) {y : Value} (hy : ∃ a m c, y = .slice a m c) (hk : RowKey w y (rows n)) (hown : w'.ownsRow B 32 1 v' (n + 1) ((List.range n).map X ++ [y])) (hg : w.grownBy w' v.ownBlock) :
    RowsV w' B v' (n + 1) (fun j => if j < n then X j else y) rows := by
  refine ⟨?_, fun h0 => absurd h0 (Nat.succ_ne_zero n), fun j hj => ?_, fun j hj => ?_⟩
  · have e : (List.range (n + 1)).map (fun j => if j < n then X j else y) = (List.range n).map X ++ [y] := by
      rw [List.range_succ, List.map_append]
      congr 1
      · refine List.map_congr_left fun j hj => ?_
        rw [if_pos (List.mem_range.1 hj)]
      · simp
    rw [e]
    exact hown
  · by_cases c : j < n
    · obtain ⟨a, m, q, e⟩ := h.isS j c
      exact ⟨a, m, q, by rw [if_pos c]; exact e⟩
    · obtain ⟨a, m, q, e⟩ := hy
      exact ⟨a, m, q, by rw [if_neg c]; exact e⟩
  · by_cases c : j < n
    · rw [if_pos c]
      exact h.keeps hg (h.keys j c)
    · rw [if_neg c]
      obtain rfl : j = n := by omega
      exact h.keeps hg hk
theorem RowsV.ge {w : World} {B : Nat} {v : Value} {n : Nat} {X : Nat → Value} {rows : Nat → List KeyD} (h : RowsV w B v n X rows) : ∀ k, v.ownBlock = some k → B ≤ k := own_ge h.own
/-- Order of such rows. -/
theorem order_rows {w : World} {B : Nat} {v : Value} {n : Nat} {X : Nat → Value} {rows : Nat → List KeyD} (h : RowsV w B v n X rows) (hr : ∀ i, i < n → rightL (rows i)) (hl : (rows 0).length ≤ 1000) (hn : n ≤ 41) :
    Calls Tryz.prog 7 #[v] w fun e w' => ∃ q r, e = .returned (.slice (some ⟨q, 0, none⟩) n n) ∧ w.heap.size ≤ q ∧ RowAt q n r w' ∧ Below w.heap.size w w' ∧ Fine (LexL fun x y => cmpRow (rows 0) (rows x) (rows y) < 0) 0 n id r ∧ Srt (LexL fun x y => cmpRow (rows 0) (rows x) (rows y) < 0) 0 n r := by
  obtain ⟨ad, cap, rfl, hop⟩ := h.open
  refine order_any ad n cap X rows w (fun h0 => ?_) hr hl hn
  obtain ⟨g, rfl, hc⟩ := hop h0
  exact ⟨g, 0, rfl, fun i hi => by rw [Nat.zero_add]; exact hc i hi, h.keys⟩
theorem infoRow : (Tryz.prog.info? 32).map (fun i => (i.zero, i.size, i.bytes)) = some (some (.slice none 0 0), 1, 24) := by kernel_rfl
end Go.Proofs.YtoeahagloobmoaaGreatDoor
