/- What a reference comes to, whatever is declared: xmlscan's spend, add and addText. -/
import Derived.Test.YtkklapoceknbcaaGreatDoorXmlRefs
import Derived.Test.YtkklapoceknbcaaGreatDoorXmlSpaced
import Derived.Test.YtkklapoceknbcaaGreatDoorXmlAt
namespace Go.Proofs.YtkklapoceknbcaaGreatDoor
open Go.RowKit
/-- An expansion in memory, with its reader's block, its text and the entities that are open in it. -/
structure ExpS (w : World) (C B q p m : Nat) (flat : Bool) (vt vo : Value) (tt : List Nat) (opn : List (List Nat)) (sp : Nat) (ents : List (List Nat × List Nat)) (c : Array Value) : Prop where
  blk : ExpAt w q p flat vt vo
  rd : w.heap[p]? = some (.cells c 56 (0, 0))
  csz : c.size = 10
  c2 : c[2]? = some (.map (some m))
  c3 : c[3]? = some (.int .i64 (sp : Nat))
  txt : w.ownsRow C 5 1 vt (tx tt).length (byteCells (tx tt))
  opn : w.ownsRow C 9 1 vo opn.length (opnRow opn)
  ents : EntsAt w B m ents
  lo : C ≤ q
theorem set_other {w : World} {p k i j : Nat} {v : Value} (h : k ≠ p) : (w.setCell ⟨p, i, none⟩ v).cell? ⟨k, j, none⟩ = w.cell? ⟨k, j, none⟩ := by
  unfold World.cell?
  simp only
  rw [blk_other h]
set_option maxHeartbeats 1000000 in
theorem spend_open (q p : Nat) (ao : Option Addr) (no co sp n : Nat) (w : World) (h3 : w.cell? ⟨q, 3, none⟩ = some (.slice ao no co)) (hno : 0 < no) (h0 : w.cell? ⟨q, 0, none⟩ = some (.pointer (some ⟨p, 0, none⟩))) (hs : w.cell? ⟨p, 3, none⟩ = some (.int .i64 (sp : Nat))) (hf : w.frozen? ⟨p, 3, none⟩ = false) (hqp : q ≠ p) (hsz : sp + n ≤ 1000000) :
    Calls Tryz.prog 123 #[.pointer (some ⟨q, 0, none⟩), .int .i64 (n : Nat)] w fun e w' => e = .returned (.int .i64 (if 32768 < sp + n then 6 else 0)) ∧ w' = w.setCell ⟨p, 3, none⟩ (.int .i64 ((sp + n : Nat) : Int)) := by
  have i1 : ((no : Int) == 0) = false := by simp; omega
  have hw1 : wrap64 ((sp : Int) + (n : Int)) = ((sp + n : Nat) : Int) := by unfold wrap64; omega
  have k0 : (w.setCell ⟨p, 3, none⟩ (.int .i64 ((sp + n : Nat) : Int))).cell? ⟨q, 0, none⟩ = some (.pointer (some ⟨p, 0, none⟩)) := by
    rw [set_other hqp]
    exact h0
  have k1 : (w.setCell ⟨p, 3, none⟩ (.int .i64 ((sp + n : Nat) : Int))).cell? ⟨p, 3, none⟩ = some (.int .i64 ((sp + n : Nat) : Int)) := World.cell?_setCell_same' w _ _ (by rw [hs]; rfl)
  obtain ⟨N, hN⟩ : ∃ N : Int, ((sp + n : Nat) : Int) = N := ⟨_, rfl⟩
  rw [hN] at hw1 k0 k1 ⊢
  by_cases h : 32768 < sp + n
  · have i2 : decide ((32768 : Int) < N) = true := decide_eq_true (by omega)
    rw [if_pos h]
    clear h hN hsz hno
    go_enter Tryz.func123, Tryz.ntmps123
    go_wp2
    go_ret
    exact ⟨rfl, rfl⟩
  · have i2 : decide ((32768 : Int) < N) = false := decide_eq_false (by omega)
    rw [if_neg h]
    clear h hN hsz hno
    go_enter Tryz.func123, Tryz.ntmps123
    go_wp2
    go_ret
    exact ⟨rfl, rfl⟩
set_option maxRecDepth 100000 in
set_option maxHeartbeats 4000000 in
/-- add of a reference that says something, whatever is open. -/
theorem add_told (B q p : Nat) (flat : Bool) (vt vo : Value) (tt : List Nat) (r : Ref) (n : Int) (w : World) (hX : ExpAt w q p flat vt vo) (hq : B ≤ q) (hrow : w.ownsRow B 5 1 vt (tx tt).length (byteCells (tx tt))) (hl : (tx tt).length ≤ 1000000)
    (hs : r.said ≠ []) (ho : okL r.said) (hsz : (T r.said).size ≤ 100000)
    (Sp : World → Ending → World → Prop) (hsp : ∀ W vt', ExpAt W q p flat vt' vo → (q ≠ p → vt.ownBlock ≠ some p → p < w.heap.size → W.heap[p]? = w.heap[p]?) → Calls Tryz.prog 123 #[.pointer (some ⟨q, 0, none⟩), .int .i64 (((T r.said).size : Int) + 1)] W (Sp W)) (hret : ∀ W e w', Sp W e w' → ∃ k : Int, e = .returned (.int .i64 k)) :
    Calls Tryz.prog 107 #[.pointer (some ⟨q, 0, none⟩), .agg #[.string (T r.said), .string (T r.name), .int .i64 n]] w fun e w' => ∃ W v', Grew q p vt w W ∧ (v'.ownBlock = vt.ownBlock ∨ ∀ k, v'.ownBlock = some k → w.heap.size ≤ k) ∧ ExpAt W q p flat v' vo ∧ W.ownsRow B 5 1 v' (tx (tt ++ r.said)).length (byteCells (tx (tt ++ r.said))) ∧ Sp W e w' := by
  have hne := ne_T ho hs
  have hw1 : wrap64 (((T r.said).size : Int) + 1) = ((T r.said).size : Int) + 1 := by unfold wrap64; omega
  have HSP := hide hsp
  have HRET := hide hret
  clear hsp hret
  obtain ⟨at', ct, rfl⟩ := owns_slice hrow
  obtain ⟨t0, hi, hz0, hz1, hz2⟩ := info_parts infoU8
  have hqlt : q < w.heap.size := (Array.getElem?_eq_some_iff.1 hX).1
  have hw1 : Below w.heap.size w (w.alloc (.cells #[.string (T r.said), .string (T r.name), .int .i64 n] 105)) := (Below.refl _ _).alloc (Nat.le_refl _) _
  have hX1 : ExpAt (w.alloc (.cells #[.string (T r.said), .string (T r.name), .int .i64 n] 105)) q p flat (.slice at' (tx tt).length ct) vo := block_below hX hw1
  have c2 : w.cell? ⟨q, 2, none⟩ = some (.slice at' (tx tt).length ct) := blk_cell hX 2
  have o2 := blk_open hX 2
  have HROW := hide (owns_below hrow hw1)
  have HX1 := hide hX1
  have hself := Below.refl (w.alloc (.cells #[.string (T r.said), .string (T r.name), .int .i64 n] 105)).heap.size (w.alloc (.cells #[.string (T r.said), .string (T r.name), .int .i64 n] 105))
  have HNQ : Hid ((Value.slice at' (tx tt).length ct).ownBlock ≠ some q) := hide (owns_not hrow hX (by decide))
  have HLT : Hid (∀ k, (Value.slice at' (tx tt).length ct).ownBlock = some k → k < w.heap.size) := hide fun k hk => (hrow.lt k hk).2
  have hBw : B ≤ w.heap.size := by omega
  have HXX := hide hX
  clear hX hX1 hrow hw1
  go_enter Tryz.func107, Tryz.ntmps107
  go_wp2_with fail
  go_region_law (refine step_append_string_at rfl (.tmp 16) (.tmp 18) 43 9 rfl B 5 t0 Tryz.underlying43 Tryz.underlying9 hi hz0 hz1 hz2 (.slice at' (tx tt).length ct) (tx tt).length (byteCells (tx tt)) rfl (owns_below (unhide HROW) (by (repeat first | with_reducible exact hself | refine Below.drew ?_))) (T r.said) rfl (by omega) (by simp; omega) ?_; intro v' w' hown hgrow hat; obtain ⟨a6, b6, rfl⟩ := owns_slice hown; have HAT : Hid (Value.ownBlock (.slice a6 ((tx tt).length + (T r.said).size) b6) = Value.ownBlock (.slice at' (tx tt).length ct) ∨ ∀ k, Value.ownBlock (.slice a6 ((tx tt).length + (T r.said).size) b6) = some k → w.heap.size ≤ k) := hide (by rcases hat with h | h; exact .inl h; refine .inr fun k hk => ?_; rw [h] at hk; cases hk; simp); have hq' : ExpAt w' q p flat (.slice at' (tx tt).length ct) vo := (by rw [ExpAt, hgrow.block q (by simp; omega) (fun e => unhide HNQ e.symm)]; exact block_below (unhide HX1) (by (repeat first | with_reducible exact hself | refine Below.drew ?_))); have hb' : w'.heap[w.heap.size]? = some (.cells #[.string (T r.said), .string (T r.name), .int .i64 n] 105 (0, 0)) := (by rw [hgrow.block w.heap.size (by simp) (fun e => by have := unhide HLT _ e.symm; omega)]; exact block_below (w := w.alloc (.cells #[.string (T r.said), .string (T r.name), .int .i64 n] 105)) (MapKept.heap_alloc w _).1 (by (repeat first | with_reducible exact hself | refine Below.drew ?_))); have c2' : w'.cell? ⟨q, 2, none⟩ = some (.slice at' (tx tt).length ct) := blk_cell hq' 2; have o2' := blk_open hq' 2; have cb' : w'.cell? ⟨w.heap.size, 0, none⟩ = some (.string (T r.said)) := blk_cell hb' 0)
  all_goals have hX' : ExpAt (w'.setCell ⟨q, 2, none⟩ (.slice a6 ((tx tt).length + (T r.said).size) b6)) q p flat (.slice a6 ((tx tt).length + (T r.said).size) b6) vo := (by rw [ExpAt, blk_set hq']; rfl)
  all_goals have hrow' : (w'.setCell ⟨q, 2, none⟩ (.slice a6 ((tx tt).length + (T r.said).size) b6)).ownsRow B 5 1 (.slice a6 ((tx tt).length + (T r.said).size) b6) (tx (tt ++ r.said)).length (byteCells (tx (tt ++ r.said))) := (by
    have e1 : byteCells (tx tt) ++ Lib.strCells (T r.said) = byteCells (tx (tt ++ r.said)) := by
      rw [tx_append, byteCells_append]
      unfold Lib.strCells byteCells
      rw [T_data]
    have e2 : (tx tt).length + (T r.said).size = (tx (tt ++ r.said)).length := by rw [T_size, tx_len_app]
    have h := owns_kept (S := (· = q)) hown (w' := w'.setCell ⟨q, 2, none⟩ (.slice a6 ((tx tt).length + (T r.said).size) b6)) (fun k o hk hs => by rw [blk_other hs]; exact hk) (fun k hk' hs => by subst hs; exact owns_not hown hq' (by decide) hk')
    rw [e1] at h
    rw [← e2]
    exact h)
  all_goals have hG : Grew q p (.slice at' (tx tt).length ct) w (w'.setCell ⟨q, 2, none⟩ (.slice a6 ((tx tt).length + (T r.said).size) b6)) := ⟨hgrow.os, hgrow.tape, hgrow.output, (by rw [blk_size]; have := hgrow.size; simp at this; omega), fun k hk h1 h2 => (by rw [blk_other h1, hgrow.block k (by simp; omega) (fun e => h2 e.symm)]; exact (Below.drew ((Below.refl w.heap.size w).alloc (Nat.le_refl _) _)).block k hk)⟩
  all_goals have HX' := hide hX'
  all_goals have HF' := hide (And.intro hG hrow')
  all_goals clear hX' hrow' hG hown hgrow hq' hb'
  all_goals go_wp2_with fail
  all_goals refine (unhide HSP _ _ (unhide HX') (fun h1 h2 h3 => (unhide HF').1.block p h3 (Ne.symm h1) h2)).mono ?_
  all_goals (intro e w3 hs3; obtain ⟨k, rfl⟩ := unhide HRET _ _ _ hs3; go_wp2; go_ret; exact ⟨_, _, (unhide HF').1, unhide HAT, unhide HX', (unhide HF').2, hs3⟩)
end Go.Proofs.YtkklapoceknbcaaGreatDoor
