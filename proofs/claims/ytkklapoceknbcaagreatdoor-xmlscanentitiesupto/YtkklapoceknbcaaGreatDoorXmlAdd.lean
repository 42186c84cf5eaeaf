/- What a reference comes to where no entity is declared: xmlscan's spend and add. -/
import Derived.Test.YtkklapoceknbcaaGreatDoorXmlRefGo
namespace Go.Proofs.YtkklapoceknbcaaGreatDoor
open Go.RowKit
theorem step_append_own_string {P : Program} {ops : Array Oper} {o : Oper} {a : Act} {w : World} {K : Act → World → Prop} {Q : Exit → Act → World → Prop} {E : Prop}
    (hg : o.guard = none) (sl x : Operand) (t u : TypeId) (hop : o.op = Op.call { callee := Callee.builtin Builtin.append, args := #[sl, x], argTypes := #[t, u] })
    (base : Nat) (e : TypeId) (i : TypeInfo) (ht : P.underlying t = some (.slice e)) (hu : P.underlying u = some .string) (hi : P.info? e = some i) (hz : i.zero = some (.int .u8 0)) (hsize : i.size = 1) (hby : i.bytes = 1)
    (v : Value) (n : Nat) (xs : List Value) (hs : a.eval sl = v) (hown : w.ownsRow base e 1 v n xs) (s : ByteArray) (hx : a.eval x = .string s)
    (h63 : n + s.size ≤ maxLen) (hbytes : n + s.size ≤ 140737488355328) (hb : base ≤ w.heap.size)
    (hK : ∀ v' w', w'.ownsRow base e 1 v' (n + s.size) (xs ++ Lib.strCells s) → w.grownBy w' v.ownBlock → K (a.put o.dst v') w') :
    if Region.wanted o (yielded ops a.tmps) = true then Oper.wp P o a w K Q else E := by
  have hw : Region.wanted o (yielded ops a.tmps) = true := by simp [Region.wanted, hg]
  rw [if_pos hw]
  obtain ⟨v', w', hrun, r1, r2, _⟩ := Lib.run_append_own_string (P := P) w base t u o.type e i ht hu hi hz hsize hby v n xs hown s h63 hbytes hb
  unfold Oper.wp
  simp [execOp, hop, resolve, invoke, builtin, hs, hx, hrun, Result.andThen]
  exact hK v' w' r1 r2
/-- An expansion's block. -/
def expArr (p : Nat) (flat : Bool) (vt vo : Value) : Array Value := #[.pointer (some ⟨p, 0, none⟩), .bool flat, vt, vo]
abbrev ExpAt (w : World) (q p : Nat) (flat : Bool) (vt vo : Value) : Prop := w.heap[q]? = some (.cells (expArr p flat vt vo) 108 (0, 0))
set_option maxHeartbeats 1000000 in
theorem spend_none (q p : Nat) (flat : Bool) (vt : Value) (n : Int) (w : World) (h : ExpAt w q p flat vt (.slice none 0 0)) :
    Calls Tryz.prog 123 #[.pointer (some ⟨q, 0, none⟩), .int .i64 n] w fun e w' => e = .returned (.int .i64 0) ∧ w' = w := by
  have c3 : w.cell? ⟨q, 3, none⟩ = some (.slice none 0 0) := blk_cell h 3
  clear h
  go_enter Tryz.func123, Tryz.ntmps123
  go_wp2
  go_ret
  exact ⟨rfl, rfl⟩
/-- A look-up where nothing is declared. -/
theorem look_none {w : World} {B m : Nat} (h : EntsAt w B m []) (x : ByteArray) (hx : x.size ≤ 1000000) : (Instr.lookup 53 (.map (some m)) (.string x) true).run Tryz.prog w = .ok (.tuple #[.agg #[.string ⟨#[]⟩], .bool false]) w := by
  obtain ⟨_, _, hown⟩ := h
  have hz : (zeroValue 120).run Tryz.prog w = .ok (.agg #[.string ⟨#[]⟩]) w := by kernel_rfl
  obtain ⟨v, ps, hrun, hv⟩ := hown.look_ok (Maps.string_keyed Tryz.underlying9) Tryz.underlying53 hz (zd := .agg [.lit (.string [])]) (zp := []) rfl (Go.WideMaps.keyOf_string_mk Tryz.underlying9 (by unfold maxLen; omega : x.size ≤ maxLen))
  rw [hrun]
  have hv' : entElem v = some (.agg [.lit (.string [])], ps) := hv
  rw [entElem_inv hv']
  rfl
/-- Where an expansion's text was written, and all else stands. -/
structure Grew (q p : Nat) (vt : Value) (w w' : World) : Prop where
  os : w'.os = w.os
  tape : w'.tape = w.tape
  output : w'.output = w.output
  size : w.heap.size ≤ w'.heap.size
  block : ∀ k, k < w.heap.size → k ≠ q → vt.ownBlock ≠ some k → w'.heap[k]? = w.heap[k]?
theorem Grew.low {q p B : Nat} {vt : Value} {w w' : World} (h : Grew q p vt w w') (hB : B ≤ w.heap.size) (hq : B ≤ q) (hv : ∀ k, vt.ownBlock = some k → B ≤ k) : Below B w w' :=
  ⟨h.os, h.tape, h.output, h.size, fun k hk => h.block k (by omega) (by omega) (fun e => by have := hv k e; omega)⟩
set_option maxRecDepth 100000 in
set_option maxHeartbeats 4000000 in
/-- add of a reference that says something, where nothing is open. -/
theorem add_said (B q p : Nat) (flat : Bool) (vt : Value) (tt _l : List Nat) (r : Ref) (n : Int) (w : World) (hX : ExpAt w q p flat vt (.slice none 0 0)) (hq : B ≤ q) (hrow : w.ownsRow B 5 1 vt (tx tt).length (byteCells (tx tt))) (hl : (tx tt).length ≤ 1000000)
    (hs : r.said ≠ []) (ho : okL r.said) (hsz : (T r.said).size ≤ 100000) :
    Calls Tryz.prog 107 #[.pointer (some ⟨q, 0, none⟩), .agg #[.string (T r.said), .string (T r.name), .int .i64 n]] w fun e w' => e = .returned (.int .i64 0) ∧ Grew q p vt w w' ∧
      ∃ v', ExpAt w' q p flat v' (.slice none 0 0) ∧ w'.ownsRow B 5 1 v' (tx (tt ++ r.said)).length (byteCells (tx (tt ++ r.said))) := by
  have hne := ne_T ho hs
  obtain ⟨at', ct, rfl⟩ := owns_slice hrow
  obtain ⟨t0, hi, hz0, hz1, hz2⟩ := info_parts infoU8
  have hqlt : q < w.heap.size := (Array.getElem?_eq_some_iff.1 hX).1
  have hw1 : Below w.heap.size w (w.alloc (.cells #[.string (T r.said), .string (T r.name), .int .i64 n] 105)) := (Below.refl _ _).alloc (Nat.le_refl _) _
  have hX1 : ExpAt (w.alloc (.cells #[.string (T r.said), .string (T r.name), .int .i64 n] 105)) q p flat (.slice at' (tx tt).length ct) (.slice none 0 0) := block_below hX hw1
  have c2 : w.cell? ⟨q, 2, none⟩ = some (.slice at' (tx tt).length ct) := blk_cell hX 2
  have o2 := blk_open hX 2
  have HROW := hide (owns_below hrow hw1)
  have HX1 := hide hX1
  have hself := Below.refl (w.alloc (.cells #[.string (T r.said), .string (T r.name), .int .i64 n] 105)).heap.size (w.alloc (.cells #[.string (T r.said), .string (T r.name), .int .i64 n] 105))
  have HNQ : Hid ((Value.slice at' (tx tt).length ct).ownBlock ≠ some q) := hide (owns_not hrow hX (by decide))
  have HLT : Hid (∀ k, (Value.slice at' (tx tt).length ct).ownBlock = some k → k < w.heap.size) := hide fun k hk => (hrow.lt k hk).2
  have hBw : B ≤ w.heap.size := by omega
  have HXX := hide hX
  clear hX hX1 hrow hw1
  go_enter Tryz.func107, Tryz.ntmps107
  go_wp2_with fail
  go_region_law (refine step_append_own_string rfl (.tmp 16) (.tmp 18) 43 9 rfl B 5 t0 Tryz.underlying43 Tryz.underlying9 hi hz0 hz1 hz2 (.slice at' (tx tt).length ct) (tx tt).length (byteCells (tx tt)) rfl (owns_below (unhide HROW) (by (repeat first | with_reducible exact hself | refine Below.drew ?_))) (T r.said) rfl (by unfold maxLen; omega) (by omega) (by simp; omega) ?_; intro v' w' hown hgrow; obtain ⟨a6, b6, rfl⟩ := owns_slice hown; have hq' : ExpAt w' q p flat (.slice at' (tx tt).length ct) (.slice none 0 0) := (by rw [ExpAt, hgrow.block q (by simp; omega) (fun e => unhide HNQ e.symm)]; exact block_below (unhide HX1) (by (repeat first | with_reducible exact hself | refine Below.drew ?_))); have hb' : w'.heap[w.heap.size]? = some (.cells #[.string (T r.said), .string (T r.name), .int .i64 n] 105 (0, 0)) := (by rw [hgrow.block w.heap.size (by simp) (fun e => by have := unhide HLT _ e.symm; omega)]; exact block_below (w := w.alloc (.cells #[.string (T r.said), .string (T r.name), .int .i64 n] 105)) (MapKept.heap_alloc w _).1 (by (repeat first | with_reducible exact hself | refine Below.drew ?_))); have c2' : w'.cell? ⟨q, 2, none⟩ = some (.slice at' (tx tt).length ct) := blk_cell hq' 2; have o2' := blk_open hq' 2; have cb' : w'.cell? ⟨w.heap.size, 0, none⟩ = some (.string (T r.said)) := blk_cell hb' 0)
  all_goals have hX' : ExpAt (w'.setCell ⟨q, 2, none⟩ (.slice a6 ((tx tt).length + (T r.said).size) b6)) q p flat (.slice a6 ((tx tt).length + (T r.said).size) b6) (.slice none 0 0) := (by rw [ExpAt, blk_set hq']; rfl)
  all_goals have hrow' : (w'.setCell ⟨q, 2, none⟩ (.slice a6 ((tx tt).length + (T r.said).size) b6)).ownsRow B 5 1 (.slice a6 ((tx tt).length + (T r.said).size) b6) (tx (tt ++ r.said)).length (byteCells (tx (tt ++ r.said))) := (by
    have e1 : byteCells (tx tt) ++ Lib.strCells (T r.said) = byteCells (tx (tt ++ r.said)) := by
      rw [tx_append, byteCells_append]
      unfold Lib.strCells byteCells
      rw [T_data]
    have e2 : (tx tt).length + (T r.said).size = (tx (tt ++ r.said)).length := by rw [T_size, tx_len_app]
    have h := owns_kept (S := (· = q)) hown (w' := w'.setCell ⟨q, 2, none⟩ (.slice a6 ((tx tt).length + (T r.said).size) b6)) (fun k o hk hs => by rw [blk_other hs]; exact hk) (fun k hk' hs => by subst hs; exact owns_not hown hq' (by decide) hk')
    rw [e1] at h
    rw [← e2]
    exact h)
  all_goals have hG : Grew q p (.slice at' (tx tt).length ct) w (w'.setCell ⟨q, 2, none⟩ (.slice a6 ((tx tt).length + (T r.said).size) b6)) := ⟨hgrow.os, hgrow.tape, hgrow.output, (by rw [blk_size]; have := hgrow.size; simp at this; omega), fun k hk h1 h2 => (by rw [blk_other h1, hgrow.block k (by simp; omega) (fun e => h2 e.symm)]; exact (Below.drew ((Below.refl w.heap.size w).alloc (Nat.le_refl _) _)).block k hk)⟩
  all_goals have HX' := hide hX'
  all_goals have HF' := hide (And.intro hG hrow')
  all_goals clear hX' hrow' hG hown hgrow hq' hb'
  all_goals go_wp2_with (go_at_call 123; refine (spend_none q p flat _ _ _ (unhide HX')).mono ?_; rintro e w3 ⟨rfl, rfl⟩)
  all_goals go_ret
  all_goals exact ⟨rfl, (unhide HF').1, _, unhide HX', (unhide HF').2⟩
end Go.Proofs.YtkklapoceknbcaaGreatDoor
