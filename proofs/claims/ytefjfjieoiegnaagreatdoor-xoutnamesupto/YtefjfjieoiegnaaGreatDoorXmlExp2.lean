/- A reference to an entity: xmlscan's add, over addText's contract. -/
import Derived.Test.YtefjfjieoiegnaaGreatDoorGbd
import Derived.Test.YtefjfjieoiegnaaGreatDoorGal
namespace Go.Proofs.YtefjfjieoiegnaaGreatDoor
open Go.RowKit
/-- Every block stands but the expansion's, the reader's, and those of two rows. -/
structure ExpK (q p : Nat) (vt vo : Value) (w w' : World) : Prop where
  os : w'.os = w.os
  tape : w'.tape = w.tape
  output : w'.output = w.output
  size : w.heap.size ≤ w'.heap.size
  block : ∀ k, k < w.heap.size → k ≠ q → k ≠ p → vt.ownBlock ≠ some k → vo.ownBlock ≠ some k → w'.heap[k]? = w.heap[k]?
/-- A row lies where it lay, or in a new block. -/
def Fresh (w : World) (v v' : Value) : Prop := v'.ownBlock = v.ownBlock ∨ ∀ k, v'.ownBlock = some k → w.heap.size ≤ k
theorem Fresh.ne {w : World} {v v' : Value} (h : Fresh w v v') {k : Nat} (hk : k < w.heap.size) (hv : v.ownBlock ≠ some k) : v'.ownBlock ≠ some k := by
  rcases h with h | h
  · rw [h]; exact hv
  · intro e
    have := h k e
    omega
theorem Fresh.trans {w w1 : World} {v v1 v2 : Value} (hs : w.heap.size ≤ w1.heap.size) (h : Fresh w v v1) (g : Fresh w1 v1 v2) : Fresh w v v2 := by
  rcases g with g | g
  · rcases h with h | h
    · exact .inl (g.trans h)
    · exact .inr fun k hk => h k (by rw [← g]; exact hk)
  · exact .inr fun k hk => by have := g k hk; omega
theorem ExpK.refl (q p : Nat) (vt vo : Value) (w : World) : ExpK q p vt vo w w := ⟨rfl, rfl, rfl, Nat.le_refl _, fun _ _ _ _ _ _ => rfl⟩
theorem ExpK.trans {q p : Nat} {vt vo vt1 vo1 : Value} {w w1 w2 : World} (h : ExpK q p vt vo w w1) (ft : Fresh w vt vt1) (fo : Fresh w vo vo1) (g : ExpK q p vt1 vo1 w1 w2) : ExpK q p vt vo w w2 :=
  ⟨g.os.trans h.os, g.tape.trans h.tape, g.output.trans h.output, Nat.le_trans h.size g.size, fun k hk h1 h2 h3 h4 => (g.block k (by have := h.size; omega) h1 h2 (ft.ne hk h3) (fo.ne hk h4)).trans (h.block k hk h1 h2 h3 h4)⟩
theorem ExpK.below {q p : Nat} {vt vo : Value} {w w1 : World} (h : Below w.heap.size w w1) : ExpK q p vt vo w w1 :=
  ⟨h.os, h.tape, h.output, h.size, fun k hk _ _ _ _ => h.block k hk⟩
theorem ExpK.low {q p B : Nat} {vt vo : Value} {w w' : World} (h : ExpK q p vt vo w w') (hB : B ≤ w.heap.size) (hq : B ≤ q) (hp : B ≤ p) (ht : ∀ k, vt.ownBlock = some k → B ≤ k) (ho : ∀ k, vo.ownBlock = some k → B ≤ k) : Below B w w' :=
  ⟨h.os, h.tape, h.output, h.size, fun k hk => h.block k (by omega) (by omega) (by omega) (fun e => by have := ht k e; omega) (fun e => by have := ho k e; omega)⟩
theorem ExpS.on {w w' : World} {C B q p m : Nat} {flat : Bool} {vt vo : Value} {tt : List Nat} {opn : List (List Nat)} {sp : Nat} {ents : List (List Nat × List Nat)} {c : Array Value} (h : ExpS w C B q p m flat vt vo tt opn sp ents c) (hb : Below w.heap.size w w') : ExpS w' C B q p m flat vt vo tt opn sp ents c := by
  refine ⟨block_below h.blk hb, block_below h.rd hb, h.csz, h.c2, h.c3, owns_below h.txt hb, owns_below h.opn hb, h.ents.kept ?_, h.lo⟩
  obtain ⟨es, ck, hm⟩ := h.ents.map
  exact hb.block m (Array.getElem?_eq_some_iff.1 hm).1
abbrev rdSp (c : Array Value) (n : Nat) : Array Value := c.setIfInBounds 3 (.int .i64 (n : Nat))
/-- What add and addText leave. -/
def AddOut (o : Except Nat (List Nat × Nat)) (C B q p m : Nat) (flat : Bool) (vt vo : Value) (tt : List Nat) (opn : List (List Nat)) (ents : List (List Nat × List Nat)) (c : Array Value) (e : Ending) (w w' : World) : Prop :=
  ∃ vt' vo', ExpK q p vt vo w w' ∧ Fresh w vt vt' ∧ Fresh w vo vo' ∧ match o with
    | .error k => e = .returned (.int .i64 (k : Nat)) ∧ ∃ (tt' : List Nat) (n : Nat), ExpS w' C B q p m flat vt' vo' tt' opn n ents (rdSp c n)
    | .ok (t, sp') => e = .returned (.int .i64 0) ∧ ExpS w' C B q p m flat vt' vo' (tt ++ t) opn sp' ents (rdSp c sp')
/-- The reader's count is set anew. -/
theorem ExpS.spent {w : World} {C B q p m : Nat} {flat : Bool} {vt vo : Value} {tt : List Nat} {opn : List (List Nat)} {sp : Nat} {ents : List (List Nat × List Nat)} {c : Array Value} (h : ExpS w C B q p m flat vt vo tt opn sp ents c) (n : Nat) :
    ExpS (w.setCell ⟨p, 3, none⟩ (.int .i64 (n : Nat))) C B q p m flat vt vo tt opn n ents (rdSp c n) ∧ ExpK q p vt vo w (w.setCell ⟨p, 3, none⟩ (.int .i64 (n : Nat))) := by
  have hqp : q ≠ p := fun e => by
    have h1 := h.blk
    rw [e] at h1
    have h2 := h.rd
    rw [h1] at h2
    cases h2
  have hmp : m ≠ p := h.ents.ne h.rd
  refine ⟨⟨?_, blk_set h.rd 3 _, by simp [h.csz], ?_, ?_, ?_, ?_, h.ents.kept (blk_other hmp 3 _), h.lo⟩, rfl, rfl, rfl, by rw [blk_size]; exact Nat.le_refl _, fun k _ _ h2 _ _ => blk_other h2 3 _⟩
  · rw [ExpAt, blk_other hqp]; exact h.blk
  · rw [rdSp, Array.getElem?_setIfInBounds_ne (by decide)]; exact h.c2
  · rw [rdSp, Array.getElem?_setIfInBounds_self_of_lt (by rw [h.csz]; decide)]
  · exact owns_kept (S := (· = p)) h.txt (fun k o hk hs => by rw [blk_other hs]; exact hk) (fun k hk hs => by subst hs; exact owns_not h.txt h.rd (by decide) hk)
  · exact owns_kept (S := (· = p)) h.opn (fun k o hk hs => by rw [blk_other hs]; exact hk) (fun k hk hs => by subst hs; exact owns_not h.opn h.rd (by decide) hk)
/-- What is told of an expansion, whatever became of it. -/
theorem AddOut.any {o : Except Nat (List Nat × Nat)} {C B q p m : Nat} {flat : Bool} {vt vo : Value} {tt : List Nat} {opn : List (List Nat)} {ents : List (List Nat × List Nat)} {c : Array Value} {e : Ending} {w w' : World} (h : AddOut o C B q p m flat vt vo tt opn ents c e w w') :
    ∃ (k : Nat) (vt' vo' : Value) (tt' : List Nat) (n : Nat), e = .returned (.int .i64 (k : Nat)) ∧ ExpK q p vt vo w w' ∧ Fresh w vt vt' ∧ Fresh w vo vo' ∧ ExpS w' C B q p m flat vt' vo' tt' opn n ents (rdSp c n) ∧ ((∃ t, o = .ok (t, n) ∧ tt' = tt ++ t ∧ k = 0) ∨ o = .error k) := by
  obtain ⟨vt', vo', h1, h2, h3, h4⟩ := h
  cases o with
  | error k =>
    obtain ⟨rfl, tt', n, S⟩ := h4
    exact ⟨k, vt', vo', tt', n, rfl, h1, h2, h3, S, .inr rfl⟩
  | ok x =>
    obtain ⟨t, sp'⟩ := x
    obtain ⟨rfl, S⟩ := h4
    exact ⟨0, vt', vo', tt ++ t, sp', rfl, h1, h2, h3, S, .inl ⟨t, rfl, rfl, rfl⟩⟩
end Go.Proofs.YtefjfjieoiegnaaGreatDoor
