/- An entity's text: xmlscan's addText, over add's contract. -/
import Derived.Test.YtefjfjieoiegnaaGreatDoorGbf
import Derived.Test.YtefjfjieoiegnaaGreatDoorGaq
namespace Go.Proofs.YtefjfjieoiegnaaGreatDoor
open Go.RowKit
/-- The expansion's text has grown. -/
theorem ExpS.grown {w W w2 : World} {C B q p m : Nat} {flat : Bool} {vt vo v2 : Value} {tt x : List Nat} {opn : List (List Nat)} {sp : Nat} {ents : List (List Nat × List Nat)} {c : Array Value} (h : ExpS w C B q p m flat vt vo tt opn sp ents c)
    (hb : Below w.heap.size w W) (hg : W.grownBy w2 vt.ownBlock) (hown : w2.ownsRow C 5 1 v2 ((tx tt).length + (T x).size) (byteCells (tx tt) ++ Lib.strCells (T x))) (hat : v2.ownBlock = vt.ownBlock ∨ v2.ownBlock = some W.heap.size) :
    w2.heap[q]? = some (.cells (expArr p flat vt vo) 138 (0, 0)) ∧ ExpS (w2.setCell ⟨q, 2, none⟩ v2) C B q p m flat v2 vo (tt ++ x) opn sp ents c ∧ ExpK q p vt vo w (w2.setCell ⟨q, 2, none⟩ v2) ∧ Fresh w vt v2 := by
  have hW := h.on hb
  have hqp : q ≠ p := fun e => by
    have h1 := h.blk
    rw [e] at h1
    have h2 := h.rd
    rw [h1] at h2
    cases h2
  have hlt : ∀ {k o}, W.heap[k]? = some o → k < W.heap.size := fun hk => (Array.getElem?_eq_some_iff.1 hk).1
  have hq2 : w2.heap[q]? = some (.cells (expArr p flat vt vo) 138 (0, 0)) := by
    rw [hg.block q (hlt hW.blk) (fun e => owns_not hW.txt hW.blk (by decide) e.symm)]; exact hW.blk
  have hp2 : w2.heap[p]? = some (.cells c 63 (0, 0)) := by
    rw [hg.block p (hlt hW.rd) (fun e => owns_not hW.txt hW.rd (by decide) e.symm)]; exact hW.rd
  obtain ⟨es, ck, hm⟩ := hW.ents.map
  have hmq : m ≠ q := hW.ents.ne hW.blk
  have hmo : vt.ownBlock ≠ some m := fun e => by
    obtain ⟨c', hc'⟩ := owns_type hW.txt e
    rw [hm] at hc'
    cases hc'
  have hm2 : w2.heap[m]? = W.heap[m]? := hg.block m (hlt hm) (fun e => hmo e.symm)
  have hop : w2.ownsRow C 9 1 vo opn.length (opnRow opn) := owns_kept (S := fun k => vt.ownBlock = some k) hW.opn (fun k o hk hs => by rw [hg.block k (hlt hk) (fun e => hs e.symm)]; exact hk) (fun k hk hs => owns_apart hW.opn hW.txt (by decide) k hk hs)
  have hsz := hb.size
  refine ⟨hq2, ⟨?_, ?_, h.csz, h.c2, h.c3, ?_, ?_, ?_, h.lo⟩, ⟨hg.os.trans hb.os, hg.tape.trans hb.tape, hg.output.trans hb.output, by rw [blk_size]; have := hg.size; omega, fun k hk h1 h2 h3 h4 => ?_⟩, ?_⟩
  · rw [ExpAt, blk_set hq2]; rfl
  · rw [blk_other (Ne.symm hqp)]; exact hp2
  · have e1 : byteCells (tx tt) ++ Lib.strCells (T x) = byteCells (tx (tt ++ x)) := by
      rw [tx_append, byteCells_append]
      unfold Lib.strCells byteCells
      rw [T_data]
    have e2 : (tx tt).length + (T x).size = (tx (tt ++ x)).length := by rw [T_size, tx_len_app]
    rw [e1, e2] at hown
    exact owns_kept (S := (· = q)) hown (fun k o hk hs => by rw [blk_other hs]; exact hk) (fun k hk hs => by subst hs; exact owns_not hown hq2 (by decide) hk)
  · exact owns_kept (S := (· = q)) hop (fun k o hk hs => by rw [blk_other hs]; exact hk) (fun k hk hs => by subst hs; exact owns_not hop hq2 (by decide) hk)
  · exact hW.ents.kept (by rw [blk_other hmq]; exact hm2)
  · rw [blk_other h1, hg.block k (by omega) (fun e => h3 e.symm)]; exact hb.block k hk
  · rcases hat with e | e
    · exact .inl e
    · exact .inr fun k hk => by rw [e] at hk; cases hk; exact hsz
end Go.Proofs.YtefjfjieoiegnaaGreatDoor
