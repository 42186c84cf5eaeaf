/- Rows of bytes that a call owns or has made of a constant: two bytes more. -/
import Derived.Test.YtgabgeadeeaihaaDoorOwnBytes
import Derived.ArgAppend
namespace Go.Proofs.YtgabgeadeeaihaaDoor
open Go.RowKit
/-- A slice of bytes of the call's own: a row of its own, or a full one made of a constant. -/
def RowB (w : World) (base : Nat) (v : Value) (l : List UInt8) : Prop :=
  w.ownsRow base 5 1 v l.length (byteCells l) ∨ ∃ g fz, v = .slice (some ⟨g, 0, none⟩) l.length l.length ∧ base ≤ g ∧ l ≠ [] ∧ w.heap[g]? = some (.cells (byteCells l).toArray 5 fz)
/-- Every block but one stands. -/
def Kept (w w' : World) (row : Option Nat) : Prop := ∀ k o, w.heap[k]? = some o → some k ≠ row → w'.heap[k]? = some o
theorem kept_grown {w w' : World} {o : Obj} {row : Option Nat} (h : (w.alloc o).grownBy w' row) : Kept w w' row := fun k x hk hr => by
  have hlt := (Array.getElem?_eq_some_iff.1 hk).1
  rw [h.block k (by simp; omega) hr, Lib.alloc_old w o k hlt]; exact hk
theorem kept_none {w w' : World} {o : Obj} (h : (w.alloc o).grownBy w' none) (row : Option Nat) : Kept w w' row := fun k x hk _ => kept_grown h k x hk (by simp)
theorem row_block {w : World} {base : Nat} {v : Value} {l : List UInt8} (h : RowB w base v l) : ∀ k, v.ownBlock = some k → base ≤ k ∧ ∃ c fz, w.heap[k]? = some (.cells c 5 fz) := by
  intro k hk
  rcases h with h | ⟨g, fz, rfl, hb, _, hg⟩
  · rcases h.2 with ⟨rfl, _⟩ | ⟨g, cap, cur, rfl, h2, h3, _⟩
    · simp [Value.ownBlock] at hk
    · simp [Value.ownBlock] at hk; subst hk; exact ⟨h2, _, _, h3⟩
  · simp [Value.ownBlock] at hk; subst hk; exact ⟨hb, _, _, hg⟩
theorem row_slice {w : World} {base : Nat} {v : Value} {l : List UInt8} (h : RowB w base v l) : ∃ a c, v = .slice a l.length c := by
  rcases h with h | ⟨g, fz, rfl, _⟩
  · exact owns_slice h
  · exact ⟨_, _, rfl⟩
theorem cells_full {w : World} {g : Nat} {l : List UInt8} {fz : Nat × Nat} (h : w.heap[g]? = some (.cells (byteCells l).toArray 5 fz)) (j : Nat) : w.cell? ⟨g, j, none⟩ = (byteCells l)[j]? := by
  rw [cell_of_row w g j _ _ _ h]; simp
theorem conv_row {w : World} {base : Nat} {v : Value} {l : List UInt8} (h : RowB w base v l) : (convert 56 9 v).run Tryd.prog w = .ok (.string ⟨l.toArray⟩) w := by
  rcases h with h | ⟨g, fz, rfl, _, _, hg⟩
  · exact conv_owned h
  · refine (run_convert_bytes_arg _ 56 5 Tryd.underlying56 Tryd.underlying5 g 0 l.length l.length (l.map fun c => (c.toNat : Int)) (by simp) ?_ 9 Tryd.underlying9).trans ?_
    · intro i hi
      rw [Nat.zero_add, cells_full hg]
      simp [byteCells, hi]
    · congr 2
      unfold strOfNums
      congr 2
      rw [List.map_map]
      have : ((fun n : Int => UInt8.ofNat n.toNat) ∘ fun c : UInt8 => (c.toNat : Int)) = id := by
        funext c
        simp
      rw [this, List.map_id]
theorem row_below {w w' : World} {base : Nat} {v : Value} {l : List UInt8} (h : RowB w base v l) (hk : Kept w w' none) : RowB w' base v l := by
  rcases h with h | ⟨g, fz, h1, h2, h3, hg⟩
  · refine .inl ⟨h.1, ?_⟩
    rcases h.2 with h | ⟨g, cap, cur, h1, h2, h3, h4⟩
    · exact .inl h
    · exact .inr ⟨g, cap, cur, h1, h2, hk g _ h3 (by simp), h4⟩
  · exact .inr ⟨g, fz, h1, h2, h3, hk g _ hg (by simp)⟩
theorem kept_below {w w' : World} (h : Below w.heap.size w w') : Kept w w' none := fun _ _ hk _ => block_below hk h
theorem below_kept {w w' : World} {base : Nat} {o : Obj} {row : Option Nat} (h : (w.alloc o).grownBy w' row) (hb : base ≤ w.heap.size) (hr : ∀ k, row = some k → base ≤ k) : Below base w w' :=
  Below.grown ((Below.refl base w).alloc hb o) h (by simp; omega) hr
def unitB (u : Nat) : List UInt8 := [UInt8.ofNat (u / 256), UInt8.ofNat (u % 256)]
theorem unit_cells (l : List UInt8) (u : Nat) (hu : u < 65536) : byteCells (l ++ unitB u) = byteCells l ++ [.int .u8 ((u : Int) / 256), .int .u8 ((u : Int) % 256)] := by
  rw [byteCells_append]
  congr 1
  have a : (UInt8.ofNat (u / 256)).toNat = u / 256 := by rw [UInt8.toNat_ofNat']; omega
  have b : (UInt8.ofNat (u % 256)).toNat = u % 256 := by rw [UInt8.toNat_ofNat']; omega
  simp [byteCells, unitB, a, b]
theorem news_cells (w : World) (cs : List Value) (t : TypeId) : ∀ j u, cs[j]? = some u → (w.alloc (.cells cs.toArray t)).cell? ((⟨w.heap.size, 0, none⟩ : Addr).add j) = some u := by
  intro j u h
  have e : (⟨w.heap.size, 0, none⟩ : Addr).add j = ⟨w.heap.size, j, none⟩ := by unfold Addr.add; split <;> simp_all
  rw [e, World.cell?_alloc_new]
  simpa using h
end Go.Proofs.YtgabgeadeeaihaaDoor
