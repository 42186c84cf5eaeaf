/- What translate keeps: the places of characters in a map, a row of characters, a builder. -/
import Derived.Maps.OwnIn
import Derived.Maps.Views
import Derived.Test.YtppkilblkobkhaaGreatDoorVaCo
import Derived.Test.YtppkilblkobkhaaGreatDoorVaCall
import Derived.Test.YtppkilblkobkhaaGreatDoorBld
namespace Go.Proofs.YtppkilblkobkhaaGreatDoor
open Go.RowKit
/-- Where each of the characters stands first. -/
def PlD (D : DataW Unit) (f : List UInt8) : Prop := ∀ x : UInt8, Maps.has D (.string [x]) = f.contains x ∧ ∀ j, f.findIdx? (· == x) = some j → D.atKey (.string [x]) (.lit (.int .i64 0)) = .lit (.int .i64 (j : Nat))
abbrev PlM (w : World) (b n : Nat) (D : DataW Unit) : Prop := w.ownsMap Tryz.prog 9 (plainElem Tryz.prog 3) b n D
/-- The same, in a map. -/
def PlAt (w : World) (b : Nat) (f : List UInt8) : Prop := ∃ D m, PlM w b m D ∧ m ≤ f.length ∧ PlD D f
theorem PlAt.kept {w w' : World} {b : Nat} {f : List UInt8} (h : PlAt w b f) (hk : w'.heap[b]? = w.heap[b]?) : PlAt w' b f := by
  obtain ⟨D, m, ⟨es, ck, h1, h2⟩, h3⟩ := h
  exact ⟨D, m, ⟨es, ck, by rw [hk]; exact h1, h2⟩, h3⟩
theorem PlAt.lt {w : World} {b : Nat} {f : List UInt8} (h : PlAt w b f) : b < w.heap.size := by
  obtain ⟨D, m, hD, _⟩ := h
  exact hD.lt
theorem bs1_key (x : UInt8) : keyOf Tryz.prog 9 (.string (bsT [x])) = some (.string [x]) := Go.WideMaps.keyOf_string_mk Tryz.underlying9 (by rw [bsT_size]; unfold maxLen; simp)
theorem PlAt.look {w : World} {b : Nat} {f : List UInt8} (h : PlAt w b f) (x : UInt8) : ∃ c, (Instr.lookup 107 (.map (some b)) (.string (bsT [x])) true).run Tryz.prog w = .ok (.tuple #[.int .i64 c, .bool (f.contains x)]) w ∧ ∀ j, f.findIdx? (· == x) = some j → c = (j : Nat) := by
  obtain ⟨D, m, hD, _, hh⟩ := h
  have hz0 : (zeroValue 3).run Tryz.prog w = .ok (.int .i64 0) w := by kernel_rfl
  obtain ⟨v, ps, hrun, hv⟩ := hD.look_ok (Maps.string_keyed Tryz.underlying9) Tryz.underlying107 hz0 (plainElem_int Tryz.underlying3 (by decide)) (bs1_key x)
  obtain ⟨c, rfl, hc, _⟩ := plainElem_int_inv Tryz.underlying3 hv
  rw [(hh x).1] at hrun
  refine ⟨c, hrun, fun j hj => ?_⟩
  have e := congrArg Prod.fst hc
  rw [(hh x).2 j hj] at e
  exact (Lit.int.inj (DataW.lit.inj e)).2.symm
theorem find_app_in {f : List UInt8} {x y : UInt8} (h : f.contains x = true) : (f ++ [x]).findIdx? (· == y) = f.findIdx? (· == y) := by
  rw [List.findIdx?_append]
  by_cases e : y = x
  · subst e
    obtain ⟨j, hj⟩ : ∃ j, f.findIdx? (· == y) = some j := by
      rcases h0 : f.findIdx? (· == y) with _ | j
      · rw [List.findIdx?_eq_none_iff] at h0
        have h1 := h0 y (by simpa using h)
        simp at h1
      · exact ⟨j, rfl⟩
    rw [hj]; rfl
  · have : [x].findIdx? (· == y) = none := by simp [List.findIdx?_cons, Ne.symm e]
    rw [this]; simp
theorem PlAt.known {w : World} {b : Nat} {f : List UInt8} (h : PlAt w b f) {x : UInt8} (hx : f.contains x = true) : PlAt w b (f ++ [x]) := by
  obtain ⟨D, m, hD, hm, hh⟩ := h
  refine ⟨D, m, hD, by rw [List.length_append]; omega, fun y => ⟨?_, fun j hj => ?_⟩⟩
  · rw [(hh y).1]
    by_cases e : y = x
    · subst e; rw [hx]; simp
    · simp [e]
  · rw [find_app_in hx] at hj
    exact (hh y).2 j hj
theorem PlAt.named {w W : World} {b m : Nat} {f : List UInt8} {x : UInt8} {D : DataW Unit} (hD : PlM w b m D) (hm : m ≤ f.length) (hh : PlD D f) (hx : f.contains x = false) (hW : PlM W b (m + 1) (D.put (.string [x]) (.lit (.int .i64 (f.length : Nat))))) : PlAt W b (f ++ [x]) := by
  have hk : WideAt.IsKeyLit (.string [x]) := by first | exact trivial | simp [WideAt.IsKeyLit] | rfl
  refine ⟨_, _, hW, by simp; omega, fun y => ?_⟩
  by_cases e : y = x
  · subst e
    rw [Maps.has_put_same hD.isMap hk, Maps.atKey_put_same hD.isMap hk]
    refine ⟨by simp, fun j hj => ?_⟩
    rw [List.findIdx?_append] at hj
    have h0 : f.findIdx? (· == y) = none := by
      rw [List.findIdx?_eq_none_iff]
      intro z hz
      by_cases e2 : z = y
      · subst e2
        rw [List.contains_iff_mem.2 hz] at hx
        cases hx
      · simpa using e2
    rw [h0] at hj
    simp at hj
    subst hj
    rfl
  · rw [Maps.has_put_other (fun e' => e (by simpa using Lit.string.inj e')), Maps.atKey_put_other (fun e' => e (by simpa using Lit.string.inj e')), (hh y).1]
    refine ⟨by simp [e], fun j hj => (hh y).2 j ?_⟩
    rw [List.findIdx?_append] at hj
    have : [x].findIdx? (· == y) = none := by simp [List.findIdx?_cons, Ne.symm e]
    rw [this] at hj
    simpa using hj
/-- A row of characters, read. -/
def ChAt (w : World) (u : Value) (l : List UInt8) : Prop := (l = [] ∧ u = .slice none 0 0) ∨ ∃ gb cap, u = .slice (some ⟨gb, 0, none⟩) l.length cap ∧ gb < w.heap.size ∧ ∀ (i : Nat) (x : UInt8), l[i]? = some x → w.cell? ⟨gb, i, none⟩ = some (.string (bsT [x]))
theorem chAt_of {w : World} {B : Nat} {u : Value} {l : List UInt8} (h : w.ownsRow B 9 1 u l.length (chRow l)) : ChAt w u l ∧ ∀ k, u.ownBlock = some k → B ≤ k := by
  rcases h.2 with ⟨rfl, h0⟩ | ⟨g, cap, cur, rfl, hb, hg, h1, h2, h3, h4⟩
  · exact ⟨.inl ⟨List.eq_nil_of_length_eq_zero h0, rfl⟩, fun k hk => by cases hk⟩
  · refine ⟨.inr ⟨g, cap, rfl, (Array.getElem?_eq_some_iff.1 hg).1, fun i x hx => ?_⟩, fun k hk => by cases hk; exact hb⟩
    rw [blk_c hg]
    have e : (chRow l)[i]? = some (.string (bsT [x])) := by unfold chRow; rw [List.getElem?_map, hx]; rfl
    rw [← h4, List.getElem?_take] at e
    rw [← Array.getElem?_toList]
    split at e
    · exact e
    · cases e
theorem ChAt.kept {w w' : World} {u : Value} {l : List UInt8} (h : ChAt w u l) (hs : w.heap.size ≤ w'.heap.size) (hk : ∀ k, u.ownBlock = some k → w'.heap[k]? = w.heap[k]?) : ChAt w' u l := by
  rcases h with h | ⟨gb, cap, rfl, h1, h2⟩
  · exact .inl h
  · exact .inr ⟨gb, cap, rfl, by omega, fun i x hx => (World.cell?_of_block (a := ⟨gb, i, none⟩) (hk gb rfl)).trans (h2 i x hx)⟩
theorem ChAt.lt {w : World} {u : Value} {l : List UInt8} (h : ChAt w u l) (k : Nat) (hk : u.ownBlock = some k) : k < w.heap.size := by
  rcases h with ⟨_, rfl⟩ | ⟨gb, cap, rfl, h1, _⟩
  · cases hk
  · cases hk; exact h1
/-- Worlds that differ in one map's block, and in what is new. -/
structure Oth (bm : Nat) (W W' : World) : Prop where
  bel : Below bm W W'
  blk : ∀ k, k < W.heap.size → k ≠ bm → W'.heap[k]? = W.heap[k]?
theorem Oth.refl (bm : Nat) (W : World) : Oth bm W W := ⟨Below.refl _ _, fun _ _ _ => rfl⟩
theorem Oth.grown {bm : Nat} {W X Y : World} (h : Oth bm W X) (hg : X.grownBy Y (some bm)) (hl : bm ≤ W.heap.size) : Oth bm W Y :=
  ⟨h.bel.grown hg (by have := h.bel.size; omega) (fun j hj => by cases hj; exact Nat.le_refl _), fun k hk hne => (hg.block k (by have := h.bel.size; omega) (fun e => hne (by cases e; rfl))).trans (h.blk k hk hne)⟩
theorem isB_same {w w' : World} {B b : Nat} {bs : List Value} (h : IsB B b bs w) (hk : ∀ k c t z, w.heap[k]? = some (.cells c t z) → k = b ∨ t = 5 → w'.heap[k]? = w.heap[k]?) : IsB B b bs w' := by
  rcases h with ⟨hB, v, hbk, hown, hne⟩ | ⟨hB, v, hbk, hown, hne⟩
  · refine .inl ⟨hB, v, (hk _ _ _ _ hbk (.inl rfl)).trans hbk, ⟨hown.1, ?_⟩, hne⟩
    rcases hown.2 with h0 | ⟨g, cap, cur, fz, hv, hb, hg, rest⟩
    · exact .inl h0
    · exact .inr ⟨g, cap, cur, fz, hv, hb, (hk _ _ _ _ hg (.inr rfl)).trans hg, rest⟩
  · refine .inr ⟨hB, v, (hk _ _ _ _ hbk (.inl rfl)).trans hbk, ⟨hown.1, ?_⟩, hne⟩
    rcases hown.2 with h0 | ⟨g, cap, cur, fz, hv, hb, hg, rest⟩
    · exact .inl h0
    · exact .inr ⟨g, cap, cur, fz, hv, hb, (hk _ _ _ _ hg (.inr rfl)).trans hg, rest⟩
theorem isB_block {w : World} {B b : Nat} {bs : List Value} (h : IsB B b bs w) : ∃ c t z, w.heap[b]? = some (.cells c t z) := by
  rcases h with ⟨hB, v, hbk, hown, hne⟩ | ⟨hB, v, hbk, hown, hne⟩
  · exact ⟨_, _, _, hbk⟩
  · exact ⟨_, _, _, hbk⟩
theorem isB_own {β : Type} (B b : Nat) (bs : β → List Value) : Own (fun s W => IsB B b (bs s) W) := fun s X Y row hs hg hrow => isB_same hs fun k c t z hk _ => hg.block k (Array.getElem?_eq_some_iff.1 hk).1 (fun e => by
  obtain ⟨o, ho, hc⟩ := hrow k e.symm
  rw [hk] at ho
  cases ho
  cases hc)
/-- What translate makes of one character, and of all. -/
def tr1 (f t : List UInt8) (x : UInt8) : List UInt8 := match f.findIdx? (· == x) with | none => [x] | some j => match t[j]? with | none => [] | some y => [y]
def trL (f t s : List UInt8) : List UInt8 := s.flatMap (tr1 f t)
theorem tr1_le (f t : List UInt8) (x : UInt8) : (tr1 f t x).length ≤ 1 := by
  unfold tr1
  split
  · exact Nat.le_refl _
  · split <;> simp
theorem trL_le (f t s : List UInt8) : (trL f t s).length ≤ s.length := by
  induction s with
  | nil => exact Nat.le_refl _
  | cons x r ih =>
    unfold trL at *
    rw [List.flatMap_cons, List.length_append, List.length_cons]
    have := tr1_le f t x
    omega
theorem trL_snoc (f t s : List UInt8) (x : UInt8) : trL f t (s ++ [x]) = trL f t s ++ tr1 f t x := by simp [trL]
theorem str_bsT (l : List UInt8) : Lib.strCells (bsT l) = Lib.byteCells l := by first | rfl | simp [Lib.strCells, Lib.byteCells, bsT_list] | simp [Lib.strCells, Lib.byteCells, bsT]
theorem byte_app (a b : List UInt8) : Lib.byteCells (a ++ b) = Lib.byteCells a ++ Lib.byteCells b := by simp [Lib.byteCells]
end Go.Proofs.YtppkilblkobkhaaGreatDoor
