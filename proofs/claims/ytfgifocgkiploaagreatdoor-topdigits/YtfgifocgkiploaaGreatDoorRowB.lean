/- Rows of bytes that a call owns or has made of a constant: two bytes more. -/
import Derived.Test.YtfgifocgkiploaaGreatDoorOwnBytes
import Derived.ArgAppend
namespace Go.Proofs.YtfgifocgkiploaaGreatDoor
open Go.RowKit
/-- A slice of bytes of the call's own: a row of its own, or a full one made of a constant. -/
def RowB (w : World) (base : Nat) (v : Value) (l : List UInt8) : Prop :=
  w.ownsRow base 5 1 v l.length (byteCells l) ∨ ∃ g fz, v = .slice (some ⟨g, 0, none⟩) l.length l.length ∧ base ≤ g ∧ l ≠ [] ∧ w.heap[g]? = some (.cells (byteCells l).toArray 5 fz)
/-- Every block but one stands. -/
def Kept (w w' : World) (row : Option Nat) : Prop := ∀ k o, w.heap[k]? = some o → some k ≠ row → w'.heap[k]? = some o
theorem kept_grown {w w' : World} {o : Obj} {row : Option Nat} (h : (w.alloc o).grownBy w' row) : Kept w w' row := fun k x hk hr => by
  have hlt := (Array.getElem?_eq_some_iff.1 hk).1
  rw [h.block k (by simp; omega) hr, Lib.alloc_old w o k hlt]; exact hk
theorem kept_none {w w' : World} {o : Obj} (h : (w.alloc o).grownBy w' none) (row : Option Nat) : Kept w w' row := fun k x hk _ => kept_grown h k x hk (by simp)
theorem row_block {w : World} {base : Nat} {v : Value} {l : List UInt8} (h : RowB w base v l) : ∀ k, v.ownBlock = some k → base ≤ k ∧ ∃ c fz, w.heap[k]? = some (.cells c 5 fz) := by
  intro k hk
  rcases h with h | ⟨g, fz, rfl, hb, _, hg⟩
  · rcases h.2 with ⟨rfl, _⟩ | ⟨g, cap, cur, rfl, h2, h3, _⟩
    · simp [Value.ownBlock] at hk
    · simp [Value.ownBlock] at hk; subst hk; exact ⟨h2, _, _, h3⟩
  · simp [Value.ownBlock] at hk; subst hk; exact ⟨hb, _, _, hg⟩
theorem row_slice {w : World} {base : Nat} {v : Value} {l : List UInt8} (h : RowB w base v l) : ∃ a c, v = .slice a l.length c := by
  rcases h with h | ⟨g, fz, rfl, _⟩
  · exact owns_slice h
  · exact ⟨_, _, rfl⟩
theorem cells_full {w : World} {g : Nat} {l : List UInt8} {fz : Nat × Nat} (h : w.heap[g]? = some (.cells (byteCells l).toArray 5 fz)) (j : Nat) : w.cell? ⟨g, j, none⟩ = (byteCells l)[j]? := by
  rw [cell_of_row w g j _ _ _ h]; simp
theorem conv_row {w : World} {base : Nat} {v : Value} {l : List UInt8} (h : RowB w base v l) : (convert 28 9 v).run Tryz.prog w = .ok (.string ⟨l.toArray⟩) w := by
  rcases h with h | ⟨g, fz, rfl, _, _, hg⟩
  · exact conv_owned h
  · refine (run_convert_bytes_arg _ 28 5 Tryz.underlying28 Tryz.underlying5 g 0 l.length l.length (l.map fun c => (c.toNat : Int)) (by simp) ?_ 9 Tryz.underlying9).trans ?_
    · intro i hi
      rw [Nat.zero_add, cells_full hg]
      simp [byteCells, hi]
    · congr 2
      unfold strOfNums
      congr 2
      rw [List.map_map]
      have : ((fun n : Int => UInt8.ofNat n.toNat) ∘ fun c : UInt8 => (c.toNat : Int)) = id := by
        funext c
        simp
      rw [this, List.map_id]
theorem row_below {w w' : World} {base : Nat} {v : Value} {l : List UInt8} (h : RowB w base v l) (hk : Kept w w' none) : RowB w' base v l := by
  rcases h with h | ⟨g, fz, h1, h2, h3, hg⟩
  · refine .inl ⟨h.1, ?_⟩
    rcases h.2 with h | ⟨g, cap, cur, h1, h2, h3, h4⟩
    · exact .inl h
    · exact .inr ⟨g, cap, cur, h1, h2, hk g _ h3 (by simp), h4⟩
  · exact .inr ⟨g, fz, h1, h2, h3, hk g _ hg (by simp)⟩
theorem kept_below {w w' : World} (h : Below w.heap.size w w') : Kept w w' none := fun _ _ hk _ => block_below hk h
theorem below_kept {w w' : World} {base : Nat} {o : Obj} {row : Option Nat} (h : (w.alloc o).grownBy w' row) (hb : base ≤ w.heap.size) (hr : ∀ k, row = some k → base ≤ k) : Below base w w' :=
  Below.grown ((Below.refl base w).alloc hb o) h (by simp; omega) hr
def unitB (u : Nat) : List UInt8 := [UInt8.ofNat (u / 256), UInt8.ofNat (u % 256)]
theorem unit_cells (l : List UInt8) (u : Nat) (hu : u < 65536) : byteCells (l ++ unitB u) = byteCells l ++ [.int .u8 ((u : Int) / 256), .int .u8 ((u : Int) % 256)] := by
  rw [byteCells_append]
  congr 1
  have a : (UInt8.ofNat (u / 256)).toNat = u / 256 := by rw [UInt8.toNat_ofNat']; omega
  have b : (UInt8.ofNat (u % 256)).toNat = u % 256 := by rw [UInt8.toNat_ofNat']; omega
  simp [byteCells, unitB, a, b]
theorem news_cells (w : World) (cs : List Value) (t : TypeId) : ∀ j u, cs[j]? = some u → (w.alloc (.cells cs.toArray t)).cell? ((⟨w.heap.size, 0, none⟩ : Addr).add j) = some u := by
  intro j u h
  have e : (⟨w.heap.size, 0, none⟩ : Addr).add j = ⟨w.heap.size, j, none⟩ := by unfold Addr.add; split <;> simp_all
  rw [e, World.cell?_alloc_new]
  simpa using h
set_option maxHeartbeats 1000000 in
theorem appendUnit_any (base : Nat) (v : Value) (l : List UInt8) (u : Nat) (w : World) (h : RowB w base v l) (hl : l.length ≤ 1099511627776) (hu : u < 65536) (hb : base ≤ w.heap.size) :
    Calls Tryz.prog 37 #[v, .int .i32 u] w fun e w' => ∃ v', e = .returned v' ∧ w'.ownsRow base 5 1 v' (l ++ unitB u).length (byteCells (l ++ unitB u)) ∧ Kept w w' v.ownBlock ∧ Below base w w' := by
  obtain ⟨i0, hi, hz0, hz1, hz2⟩ := info_parts (show (Tryz.prog.info? 5).map (fun i => (i.zero, i.size, i.bytes)) = some (some (.int .u8 0), 1, 1) by kernel_rfl)
  have HU := hide (unit_cells l u hu)
  have HL := hide (show (l ++ unitB u).length = l.length + 2 by simp [unitB])
  rcases h with hown | ⟨g, fz, rfl, hbg, hne, hg⟩
  · have hge := owns_ge hown
    have HG := hide hge
    clear hge
    obtain ⟨ad, c, rfl⟩ := owns_slice hown
    go_enter Tryz.func37, Tryz.ntmps37
    go_wp2_with (at_builtin; refine wpList_append_own _ rfl _ _ 28 rfl base 5 i0 (.int .u8 0) 1 1 Tryz.underlying28 hi hz0 hz1 hz2 rfl (by decide) _ _ _ rfl (hown.alloc _) ⟨w.heap.size, 0, none⟩ 2 2 [.int .u8 ((u : Int) / 256), .int .u8 ((u : Int) % 256)] rfl rfl (news_cells w _ _) (fun x hx => by simp at hx; rcases hx with rfl | rfl <;> rfl) (by unfold maxLen; omega) (by omega) (by simp; omega) ?_; intro v2 w2 hown2 hgrow2 hnil2)
    go_ret
    exact ⟨_, rfl, by rw [unhide HU, unhide HL]; exact hown2, kept_grown hgrow2, below_kept hgrow2 hb (unhide HG)⟩
  · have hcell : ∀ b, (some (⟨g, 0, none⟩ : Addr)) = some b → ∀ (j : Nat) (x : Value), (byteCells l)[j]? = some x → (w.alloc (.cells #[.int .u8 ((u : Int) / 256), .int .u8 ((u : Int) % 256)] 5)).cell? (b.add j) = some x := by
      intro b hbe j x hx
      cases hbe
      have e : (⟨g, 0, none⟩ : Addr).add j = ⟨g, j, none⟩ := by unfold Addr.add; split <;> simp_all
      have hlt := (Array.getElem?_eq_some_iff.1 hg).1
      rw [e, World.cell?_alloc_lt _ _ _ hlt, cells_full hg]
      exact hx
    have HC := hide hcell
    clear hcell
    go_enter Tryz.func37, Tryz.ntmps37
    go_wp2_with (at_builtin; refine wpList_append_grows _ rfl _ _ 28 rfl 5 i0 (.int .u8 0) 1 1 Tryz.underlying28 hi hz0 hz1 hz2 rfl (by decide) (some ⟨g, 0, none⟩) l.length l.length (byteCells l) rfl (fun h => by cases h) (by simp [byteCells]) (unhide HC) ⟨w.heap.size, 0, none⟩ 2 2 [.int .u8 ((u : Int) / 256), .int .u8 ((u : Int) % 256)] rfl rfl (news_cells w _ _) (fun x hx => by simp at hx; rcases hx with rfl | rfl <;> rfl) (by omega) (by unfold maxLen; omega) (by omega) ?_; intro v2 w2 hown2 hgrow2)
    go_ret
    refine ⟨_, rfl, ?_, kept_none hgrow2 _, below_kept hgrow2 hb (fun k hk => by cases hk)⟩
    rw [unhide HU, unhide HL]
    refine ⟨hown2.1, ?_⟩
    rcases hown2.2 with h | ⟨g', cap, cur, h1, h2, h3⟩
    · exact .inl h
    · exact .inr ⟨g', cap, cur, h1, by simp at h2; omega, h3⟩
end Go.Proofs.YtfgifocgkiploaaGreatDoor
