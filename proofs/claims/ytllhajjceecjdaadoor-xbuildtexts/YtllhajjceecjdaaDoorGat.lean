/- Several texts, laid as one. -/
import Derived.Test.YtllhajjceecjdaaDoorXmlPlain
import Derived.Test.YtllhajjceecjdaaDoorLexFacts
import Derived.Test.YtllhajjceecjdaaDoorGag
/- Texts that are cut at some signs, told over lists of characters: plain lemmas. -/
namespace Go.Proofs.YtllhajjceecjdaaDoor
open Go.RowKit
end Go.Proofs.YtllhajjceecjdaaDoor
/- Where a reader of XML stands, in memory: its text and its place. -/
namespace Go.Proofs.YtllhajjceecjdaaDoor
open Go.RowKit
theorem keptC {w w' : World} {p : Addr} {v : Value} (hb : Below w.heap.size w w') (h : w.cell? p = some v) : w'.cell? p = some v := by
  rw [hb.cell (block_lt_of_cell h)]; exact h
theorem blk_cell {w : World} {p : Nat} {c : Array Value} {t : TypeId} {z : Nat × Nat} (h : w.heap[p]? = some (.cells c t z)) (i : Nat) : w.cell? ⟨p, i, none⟩ = c[i]? := by simp [World.cell?, h]
theorem blk_open {w : World} {p : Nat} {c : Array Value} {t : TypeId} (h : w.heap[p]? = some (.cells c t (0, 0))) (i : Nat) : w.frozen? ⟨p, i, none⟩ = false := by simp [World.frozen?, h]
theorem blk_set {w : World} {p : Nat} {c : Array Value} {t : TypeId} {z : Nat × Nat} (h : w.heap[p]? = some (.cells c t z)) (i : Nat) (v : Value) :
    (w.setCell ⟨p, i, none⟩ v).heap[p]? = some (.cells (c.setIfInBounds i v) t z) := by simp [World.setCell, Array.getElem?_modify, h]
theorem blk_other {w : World} {p k : Nat} (h : k ≠ p) (i : Nat) (v : Value) : (w.setCell ⟨p, i, none⟩ v).heap[k]? = w.heap[k]? := by
  simp [World.setCell, Array.getElem?_modify, Ne.symm h]
theorem blk_size (w : World) (a : Addr) (v : Value) : (w.setCell a v).heap.size = w.heap.size := by simp [World.setCell]
theorem cell_blk {w : World} {p i : Nat} {v : Value} (h : w.cell? ⟨p, i, none⟩ = some v) : ∃ c t z, w.heap[p]? = some (.cells c t z) ∧ c[i]? = some v := by
  unfold World.cell? at h
  split at h
  · rename_i c t z hc
    exact ⟨c, t, z, hc, by simpa using h⟩
  · cases h
/-- A cell that is written with what it holds. -/
theorem set_same {w : World} {p i : Nat} {v : Value} (h : w.cell? ⟨p, i, none⟩ = some v) (k : Nat) : (w.setCell ⟨p, i, none⟩ v).heap[k]? = w.heap[k]? := by
  by_cases hk : k = p
  · subst hk
    obtain ⟨c, t, z, hc, hv⟩ := cell_blk h
    rw [blk_set hc, hc]
    congr 2
    apply Array.ext_getElem?
    intro j
    rw [Array.getElem?_setIfInBounds]
    split
    · rename_i hj; subst hj; rw [hv]; simp [(Array.getElem?_eq_some_iff.1 hv).1]
    · rfl
  · exact blk_other hk i v
theorem set_twice (w : World) (p i : Nat) (u v : Value) (k : Nat) : ((w.setCell ⟨p, i, none⟩ u).setCell ⟨p, i, none⟩ v).heap[k]? = (w.setCell ⟨p, i, none⟩ v).heap[k]? := by
  by_cases hk : k = p
  · subst hk
    cases h : w.heap[k]? with
    | none => simp [World.setCell, Array.getElem?_modify, h]
    | some o =>
      cases o <;> simp [World.setCell, Array.getElem?_modify, h]
  · rw [blk_other hk, blk_other hk, blk_other hk]
/-- The world is the old one, but for the place of the reader p, and new blocks. -/
def Moves (p n : Nat) (w w' : World) : Prop := Below w.heap.size (w.setCell ⟨p, 1, none⟩ (.int .i64 (n : Nat))) w'
/-- A reader's text, and its place in it. -/
structure AtR (w : World) (p : Nat) (pre rest : List Nat) : Prop where
  txt : w.cell? ⟨p, 0, none⟩ = some (.string (T (pre ++ rest)))
  pos : w.cell? ⟨p, 1, none⟩ = some (.int .i64 ((tx pre).length : Nat))
  thaw : w.frozen? ⟨p, 1, none⟩ = false
theorem Moves.below {p n : Nat} {w w' : World} (h : Moves p n w w') : Below (w.setCell ⟨p, 1, none⟩ (.int .i64 (n : Nat))).heap.size (w.setCell ⟨p, 1, none⟩ (.int .i64 (n : Nat))) w' := by
  rw [blk_size]; exact h
theorem Moves.size {p n : Nat} {w w' : World} (h : Moves p n w w') : w.heap.size ≤ w'.heap.size := by
  have := Below.size h
  rwa [blk_size] at this
theorem Moves.block {p n : Nat} {w w' : World} (h : Moves p n w w') {k : Nat} (hk : k < w.heap.size) (hp : k ≠ p) : w'.heap[k]? = w.heap[k]? := by
  rw [Below.block h k hk, blk_other hp]
theorem Moves.own {p n : Nat} {w w' : World} (h : Moves p n w w') {c : Array Value} {t : TypeId} {z : Nat × Nat} (hp : w.heap[p]? = some (.cells c t z)) : w'.heap[p]? = some (.cells (c.setIfInBounds 1 (.int .i64 (n : Nat))) t z) := by
  rw [Below.block h p (Array.getElem?_eq_some_iff.1 hp).1, blk_set hp]
theorem Moves.low {p n B : Nat} {w w' : World} (h : Moves p n w w') (hp : B ≤ p) (hB : B ≤ w.heap.size) : Below B w w' :=
  Below.trans ((Below.refl B w).setCell (p := ⟨p, 1, none⟩) hp _) (Below.mono h hB)
theorem AtR.stay {w w' : World} {p : Nat} {pre rest : List Nat} (h : AtR w p pre rest) (hb : Below w.heap.size w w') : Moves p (tx pre).length w w' :=
  ⟨hb.os, hb.tape, hb.output, by rw [blk_size]; exact hb.size, fun k hk => by rw [hb.block k hk, set_same h.pos]⟩
theorem Moves.then {p n k : Nat} {a b c : World} (h : Moves p n a b) (g : Moves p k b c) : Moves p k a c := by
  refine ⟨g.os.trans h.os, g.tape.trans h.tape, g.output.trans h.output, by rw [blk_size]; exact Nat.le_trans h.size g.size, fun j hj => ?_⟩
  rw [Below.block g j (Nat.lt_of_lt_of_le hj h.size)]
  by_cases hp : j = p
  · subst hp
    have e := Below.block h j hj
    rw [← set_twice a j 1 (.int .i64 (n : Nat)) (.int .i64 (k : Nat)) j]
    unfold World.setCell at e ⊢
    simp only [Array.getElem?_modify, if_true] at e ⊢
    rw [e]
  · rw [blk_other hp, blk_other hp, h.block hj hp]
theorem AtR.moved {w w' : World} {p : Nat} {pre rest pre' rest' : List Nat} (h : AtR w p pre rest) (hm : Moves p (tx pre').length w w') (e : pre' ++ rest' = pre ++ rest) : AtR w' p pre' rest' := by
  obtain ⟨c, t, z, hc, h1⟩ := cell_blk h.pos
  have h0 := h.txt
  have hf := h.thaw
  rw [blk_cell hc] at h0
  have hw := hm.own hc
  have hs : 1 < c.size := (Array.getElem?_eq_some_iff.1 h1).1
  refine ⟨?_, ?_, ?_⟩
  · rw [blk_cell hw, Array.getElem?_setIfInBounds_ne (by decide), h0, e]
  · rw [blk_cell hw, Array.getElem?_setIfInBounds_self_of_lt hs]
  · unfold World.frozen? at hf ⊢
    rw [hc] at hf
    rw [hw]
    exact hf
theorem AtR.keep {w w' : World} {p : Nat} {pre rest : List Nat} (h : AtR w p pre rest) (hb : Below w.heap.size w w') : AtR w' p pre rest := h.moved (h.stay hb) rfl
theorem AtR.lt {w : World} {p : Nat} {pre rest : List Nat} (h : AtR w p pre rest) : p < w.heap.size := block_lt_of_cell h.pos
/-- Behind a store into the place itself. -/
theorem AtR.put {w : World} {p : Nat} {pre rest pre' : List Nat} {n : Nat} (_ : AtR w p pre rest) (e : n = (tx pre').length) : Moves p (tx pre').length w (w.setCell ⟨p, 1, none⟩ (.int .i64 (n : Nat))) := by
  subst e
  exact Below.refl _ _
end Go.Proofs.YtllhajjceecjdaaDoor
