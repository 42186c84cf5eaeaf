/- Several texts, laid as one. -/
import Derived.Test.YtefjfjieoiegnaaGreatDoorGap
import Derived.Maps.AppendAt
import Derived.Test.YtefjfjieoiegnaaGreatDoorGaq
import Derived.Maps.Views
/- Where a row lies behind an append: append as one step of a region that draws its order, with that. -/
namespace Go.Proofs.YtefjfjieoiegnaaGreatDoor
open Go.RowKit
/-- A text that is appended: the row lies where it lay, or in the next new block. -/
theorem append_where {P : Program} {w w' : World} {v v' : Value} {base : Nat} {t u ty e : TypeId} {i : TypeInfo} (ht : P.underlying t = some (.slice e)) (hu : P.underlying u = some .string) (hi : P.info? e = some i) (hz : i.zero = some (.int .u8 0)) (hsize : i.size = 1) (hby : i.bytes = 1)
    {n : Nat} {xs : List Value} (hown : w.ownsRow base e 1 v n xs) (s : ByteArray) (hl : n + s.size ≤ 140737488355328) (hrun : (Builtin.append_ #[t, u] ty #[v, .string s]).run P w = .ok v' w') : v'.ownBlock = v.ownBlock ∨ v'.ownBlock = some w.heap.size := by
  have hxl : xs.length = n := by simpa using hown.1
  rcases hown.2 with ⟨rfl, rfl⟩ | ⟨g, cap, cur, rfl, hbg, hg, hnc, hcm, hcs, htake⟩
  · by_cases hm : s.size = 0
    · left
      have hf := Lib.run_firstCells_string (P := P) w 1 s
      rw [hm] at hf
      have hr : (Builtin.append_ #[t, u] ty #[.slice none 0 0, .string s]).run P w = .ok (.slice none 0 0) w := by
        simp [Builtin.append_, run_underlying ht, run_underlying hu, sizeOf, typeInfo, hi, hsize, Builtin.lenOf, hm, hf]
      rw [hr] at hrun
      cases hrun
      rfl
    · right
      have hr := run_append_nil_string (P := P) w t u ty e i (.int .u8 0) ht hu hi hz s (by omega) (by omega) (by rw [hby]; omega)
      rw [hr] at hrun
      cases hrun
      rfl
  · by_cases hroom : n + s.size ≤ cap
    · left
      have hr := Lib.run_append_room_string (P := P) w t u ty e i ht hu hi hsize g n cap cur hg s hroom (by omega)
      rw [hr] at hrun
      cases hrun
      rfl
    · right
      have holds : ∀ j u, xs[j]? = some u → w.cell? ((⟨g, 0, none⟩ : Addr).add j) = some u := hown.cells (g := g) rfl
      have hr := Lib.run_append_grow_string (P := P) w t u ty e i (.int .u8 0) ht hu hi hz ⟨g, 0, none⟩ n cap xs (by rw [hsize]; simpa using hxl) holds s (by omega) (by omega) (by rw [hby]; exact growslice_fits (by omega) (by omega))
      rw [hr] at hrun
      cases hrun
      rfl
theorem step_append_string_at {P : Program} {ops : Array Oper} {o : Oper} {a : Act} {w : World} {K : Act → World → Prop} {Q : Exit → Act → World → Prop} {E : Prop}
    (hg : o.guard = none) (sl x : Operand) (t u : TypeId) (hop : o.op = Op.call { callee := Callee.builtin Builtin.append, args := #[sl, x], argTypes := #[t, u] })
    (base : Nat) (e : TypeId) (i : TypeInfo) (ht : P.underlying t = some (.slice e)) (hu : P.underlying u = some .string) (hi : P.info? e = some i) (hz : i.zero = some (.int .u8 0)) (hsize : i.size = 1) (hby : i.bytes = 1)
    (v : Value) (n : Nat) (xs : List Value) (hs : a.eval sl = v) (hown : w.ownsRow base e 1 v n xs) (s : ByteArray) (hx : a.eval x = .string s)
    (hbytes : n + s.size ≤ 140737488355328) (hb : base ≤ w.heap.size)
    (hK : ∀ v' w', w'.ownsRow base e 1 v' (n + s.size) (xs ++ Lib.strCells s) → w.grownBy w' v.ownBlock → (v'.ownBlock = v.ownBlock ∨ v'.ownBlock = some w.heap.size) → K (a.put o.dst v') w') :
    if Region.wanted o (yielded ops a.tmps) = true then Oper.wp P o a w K Q else E := by
  have hw : Region.wanted o (yielded ops a.tmps) = true := by simp [Region.wanted, hg]
  rw [if_pos hw]
  obtain ⟨v', w', hrun, r1, r2, _⟩ := Lib.run_append_own_string (P := P) w base t u o.type e i ht hu hi hz hsize hby v n xs hown s (by unfold maxLen; omega) hbytes hb
  have r3 := append_where ht hu hi hz hsize hby hown s hbytes hrun
  unfold Oper.wp
  simp [execOp, hop, resolve, invoke, builtin, hs, hx, hrun, Result.andThen]
  exact hK v' w' r1 r2 r3
theorem step_append_own_at {P : Program} {ops : Array Oper} {o : Oper} {a : Act} {w : World} {K : Act → World → Prop} {Q : Exit → Act → World → Prop} {E : Prop}
    (hg : o.guard = none) (s x : Operand) (t : TypeId) (hop : o.op = Op.call { callee := Callee.builtin Builtin.append, args := #[s, x], argTypes := #[t, t] })
    (base : Nat) (e : TypeId) (i : TypeInfo) (z : Value) (size bytes : Nat) (h1 : P.underlying t = some (.slice e)) (h2 : P.info? e = some i) (h3 : i.zero = some z) (h4 : i.size = size) (h5 : i.bytes = bytes) (h6 : z.cells.size = size) (h7 : 0 < size)
    (v : Value) (n : Nat) (xs : List Value) (hs : a.eval s = v) (hown : w.ownsRow base e size v n xs)
    (ad : Addr) (m c : Nat) (news : List Value) (hx : a.eval x = .slice (some ad) m c) (hn : news.length = m * size) (hc : ∀ j u, news[j]? = some u → w.cell? (ad.add j) = some u) (h1c : ∀ u ∈ news, u.oneCell' = true)
    (b1 : n + m ≤ maxLen) (b2 : (n + m) * bytes ≤ 140737488355328) (hb : base ≤ w.heap.size)
    (hK : ∀ v' w', w'.ownsRow base e size v' (n + m) (xs ++ news) → w.grownBy w' v.ownBlock → (v'.ownBlock = v.ownBlock ∨ v'.ownBlock = some w.heap.size) → K (a.put o.dst v') w') :
    if Region.wanted o (yielded ops a.tmps) = true then Oper.wp P o a w K Q else E := by
  have hw : Region.wanted o (yielded ops a.tmps) = true := by simp [Region.wanted, hg]
  rw [if_pos hw]
  obtain ⟨v', w', hrun, r1, r2, _, r3⟩ := run_append_own_at (P := P) w base t o.type e i z size bytes h1 h2 h3 h4 h5 h6 h7 v n xs hown ad m c news hn hc h1c b1 b2 hb
  unfold Oper.wp
  simp [execOp, hop, resolve, invoke, builtin, hs, hx, hrun, Result.andThen]
  exact hK v' w' r1 r2 r3
end Go.Proofs.YtefjfjieoiegnaaGreatDoor
/- What a reference comes to, whatever is declared: xmlscan's spend, add and addText. -/
namespace Go.Proofs.YtefjfjieoiegnaaGreatDoor
open Go.RowKit
/-- An expansion in memory, with its reader's block, its text and the entities that are open in it. -/
structure ExpS (w : World) (C B q p m : Nat) (flat : Bool) (vt vo : Value) (tt : List Nat) (opn : List (List Nat)) (sp : Nat) (ents : List (List Nat × List Nat)) (c : Array Value) : Prop where
  blk : ExpAt w q p flat vt vo
  rd : w.heap[p]? = some (.cells c 63 (0, 0))
  csz : c.size = 10
  c2 : c[2]? = some (.map (some m))
  c3 : c[3]? = some (.int .i64 (sp : Nat))
  txt : w.ownsRow C 5 1 vt (tx tt).length (byteCells (tx tt))
  opn : w.ownsRow C 9 1 vo opn.length (opnRow opn)
  ents : EntsAt w B m ents
  lo : C ≤ q
theorem set_other {w : World} {p k i j : Nat} {v : Value} (h : k ≠ p) : (w.setCell ⟨p, i, none⟩ v).cell? ⟨k, j, none⟩ = w.cell? ⟨k, j, none⟩ := by
  unfold World.cell?
  simp only
  rw [blk_other h]
set_option maxHeartbeats 1000000 in
theorem spend_open (q p : Nat) (ao : Option Addr) (no co sp n : Nat) (w : World) (h3 : w.cell? ⟨q, 3, none⟩ = some (.slice ao no co)) (hno : 0 < no) (h0 : w.cell? ⟨q, 0, none⟩ = some (.pointer (some ⟨p, 0, none⟩))) (hs : w.cell? ⟨p, 3, none⟩ = some (.int .i64 (sp : Nat))) (hf : w.frozen? ⟨p, 3, none⟩ = false) (hqp : q ≠ p) (hsz : sp + n ≤ 1000000) :
    Calls Tryz.prog 165 #[.pointer (some ⟨q, 0, none⟩), .int .i64 (n : Nat)] w fun e w' => e = .returned (.int .i64 (if 32768 < sp + n then 6 else 0)) ∧ w' = w.setCell ⟨p, 3, none⟩ (.int .i64 ((sp + n : Nat) : Int)) := by
  have i1 : ((no : Int) == 0) = false := by simp; omega
  have hw1 : wrap64 ((sp : Int) + (n : Int)) = ((sp + n : Nat) : Int) := by unfold wrap64; omega
  have k0 : (w.setCell ⟨p, 3, none⟩ (.int .i64 ((sp + n : Nat) : Int))).cell? ⟨q, 0, none⟩ = some (.pointer (some ⟨p, 0, none⟩)) := by
    rw [set_other hqp]
    exact h0
  have k1 : (w.setCell ⟨p, 3, none⟩ (.int .i64 ((sp + n : Nat) : Int))).cell? ⟨p, 3, none⟩ = some (.int .i64 ((sp + n : Nat) : Int)) := World.cell?_setCell_same' w _ _ (by rw [hs]; rfl)
  obtain ⟨N, hN⟩ : ∃ N : Int, ((sp + n : Nat) : Int) = N := ⟨_, rfl⟩
  rw [hN] at hw1 k0 k1 ⊢
  by_cases h : 32768 < sp + n
  · have i2 : decide ((32768 : Int) < N) = true := decide_eq_true (by omega)
    rw [if_pos h]
    clear h hN hsz hno
    go_enter Tryz.func165, Tryz.ntmps165
    go_wp2
    go_ret
    exact ⟨rfl, rfl⟩
  · have i2 : decide ((32768 : Int) < N) = false := decide_eq_false (by omega)
    rw [if_neg h]
    clear h hN hsz hno
    go_enter Tryz.func165, Tryz.ntmps165
    go_wp2
    go_ret
    exact ⟨rfl, rfl⟩
set_option maxRecDepth 100000 in
set_option maxHeartbeats 4000000 in
/-- add of a reference that says something, whatever is open. -/
theorem add_told (B q p : Nat) (flat : Bool) (vt vo : Value) (tt : List Nat) (r : Ref) (n : Int) (w : World) (hX : ExpAt w q p flat vt vo) (hq : B ≤ q) (hrow : w.ownsRow B 5 1 vt (tx tt).length (byteCells (tx tt))) (hl : (tx tt).length ≤ 1000000)
    (hs : r.said ≠ []) (ho : okL r.said) (hsz : (T r.said).size ≤ 100000)
    (Sp : World → Ending → World → Prop) (hsp : ∀ W vt', ExpAt W q p flat vt' vo → (q ≠ p → vt.ownBlock ≠ some p → p < w.heap.size → W.heap[p]? = w.heap[p]?) → Calls Tryz.prog 165 #[.pointer (some ⟨q, 0, none⟩), .int .i64 (((T r.said).size : Int) + 1)] W (Sp W)) (hret : ∀ W e w', Sp W e w' → ∃ k : Int, e = .returned (.int .i64 k)) :
    Calls Tryz.prog 140 #[.pointer (some ⟨q, 0, none⟩), .agg #[.string (T r.said), .string (T r.name), .int .i64 n]] w fun e w' => ∃ W v', Grew q p vt w W ∧ (v'.ownBlock = vt.ownBlock ∨ ∀ k, v'.ownBlock = some k → w.heap.size ≤ k) ∧ ExpAt W q p flat v' vo ∧ W.ownsRow B 5 1 v' (tx (tt ++ r.said)).length (byteCells (tx (tt ++ r.said))) ∧ Sp W e w' := by
  have hne := ne_T ho hs
  have hw1 : wrap64 (((T r.said).size : Int) + 1) = ((T r.said).size : Int) + 1 := by unfold wrap64; omega
  have HSP := hide hsp
  have HRET := hide hret
  clear hsp hret
  obtain ⟨at', ct, rfl⟩ := owns_slice hrow
  obtain ⟨t0, hi, hz0, hz1, hz2⟩ := info_parts infoU8
  have hqlt : q < w.heap.size := (Array.getElem?_eq_some_iff.1 hX).1
  have hw1 : Below w.heap.size w (w.alloc (.cells #[.string (T r.said), .string (T r.name), .int .i64 n] 135)) := (Below.refl _ _).alloc (Nat.le_refl _) _
  have hX1 : ExpAt (w.alloc (.cells #[.string (T r.said), .string (T r.name), .int .i64 n] 135)) q p flat (.slice at' (tx tt).length ct) vo := block_below hX hw1
  have c2 : w.cell? ⟨q, 2, none⟩ = some (.slice at' (tx tt).length ct) := blk_cell hX 2
  have o2 := blk_open hX 2
  have HROW := hide (owns_below hrow hw1)
  have HX1 := hide hX1
  have hself := Below.refl (w.alloc (.cells #[.string (T r.said), .string (T r.name), .int .i64 n] 135)).heap.size (w.alloc (.cells #[.string (T r.said), .string (T r.name), .int .i64 n] 135))
  have HNQ : Hid ((Value.slice at' (tx tt).length ct).ownBlock ≠ some q) := hide (owns_not hrow hX (by decide))
  have HLT : Hid (∀ k, (Value.slice at' (tx tt).length ct).ownBlock = some k → k < w.heap.size) := hide fun k hk => (hrow.lt k hk).2
  have hBw : B ≤ w.heap.size := by omega
  have HXX := hide hX
  clear hX hX1 hrow hw1
  go_enter Tryz.func140, Tryz.ntmps140
  go_wp2_with fail
  go_region_law (refine step_append_string_at rfl (.tmp 16) (.tmp 18) 48 9 rfl B 5 t0 Tryz.underlying48 Tryz.underlying9 hi hz0 hz1 hz2 (.slice at' (tx tt).length ct) (tx tt).length (byteCells (tx tt)) rfl (owns_below (unhide HROW) (by (repeat first | with_reducible exact hself | refine Below.drew ?_))) (T r.said) rfl (by omega) (by simp; omega) ?_; intro v' w' hown hgrow hat; obtain ⟨a6, b6, rfl⟩ := owns_slice hown; have HAT : Hid (Value.ownBlock (.slice a6 ((tx tt).length + (T r.said).size) b6) = Value.ownBlock (.slice at' (tx tt).length ct) ∨ ∀ k, Value.ownBlock (.slice a6 ((tx tt).length + (T r.said).size) b6) = some k → w.heap.size ≤ k) := hide (by rcases hat with h | h; exact .inl h; refine .inr fun k hk => ?_; rw [h] at hk; cases hk; simp); have hq' : ExpAt w' q p flat (.slice at' (tx tt).length ct) vo := (by rw [ExpAt, hgrow.block q (by simp; omega) (fun e => unhide HNQ e.symm)]; exact block_below (unhide HX1) (by (repeat first | with_reducible exact hself | refine Below.drew ?_))); have hb' : w'.heap[w.heap.size]? = some (.cells #[.string (T r.said), .string (T r.name), .int .i64 n] 135 (0, 0)) := (by rw [hgrow.block w.heap.size (by simp) (fun e => by have := unhide HLT _ e.symm; omega)]; exact block_below (w := w.alloc (.cells #[.string (T r.said), .string (T r.name), .int .i64 n] 135)) (MapKept.heap_alloc w _).1 (by (repeat first | with_reducible exact hself | refine Below.drew ?_))); have c2' : w'.cell? ⟨q, 2, none⟩ = some (.slice at' (tx tt).length ct) := blk_cell hq' 2; have o2' := blk_open hq' 2; have cb' : w'.cell? ⟨w.heap.size, 0, none⟩ = some (.string (T r.said)) := blk_cell hb' 0)
  all_goals have hX' : ExpAt (w'.setCell ⟨q, 2, none⟩ (.slice a6 ((tx tt).length + (T r.said).size) b6)) q p flat (.slice a6 ((tx tt).length + (T r.said).size) b6) vo := (by rw [ExpAt, blk_set hq']; rfl)
  all_goals have hrow' : (w'.setCell ⟨q, 2, none⟩ (.slice a6 ((tx tt).length + (T r.said).size) b6)).ownsRow B 5 1 (.slice a6 ((tx tt).length + (T r.said).size) b6) (tx (tt ++ r.said)).length (byteCells (tx (tt ++ r.said))) := (by
    have e1 : byteCells (tx tt) ++ Lib.strCells (T r.said) = byteCells (tx (tt ++ r.said)) := by
      rw [tx_append, byteCells_append]
      unfold Lib.strCells byteCells
      rw [T_data]
    have e2 : (tx tt).length + (T r.said).size = (tx (tt ++ r.said)).length := by rw [T_size, tx_len_app]
    have h := owns_kept (S := (· = q)) hown (w' := w'.setCell ⟨q, 2, none⟩ (.slice a6 ((tx tt).length + (T r.said).size) b6)) (fun k o hk hs => by rw [blk_other hs]; exact hk) (fun k hk' hs => by subst hs; exact owns_not hown hq' (by decide) hk')
    rw [e1] at h
    rw [← e2]
    exact h)
  all_goals have hG : Grew q p (.slice at' (tx tt).length ct) w (w'.setCell ⟨q, 2, none⟩ (.slice a6 ((tx tt).length + (T r.said).size) b6)) := ⟨hgrow.os, hgrow.tape, hgrow.output, (by rw [blk_size]; have := hgrow.size; simp at this; omega), fun k hk h1 h2 => (by rw [blk_other h1, hgrow.block k (by simp; omega) (fun e => h2 e.symm)]; exact (Below.drew ((Below.refl w.heap.size w).alloc (Nat.le_refl _) _)).block k hk)⟩
  all_goals have HX' := hide hX'
  all_goals have HF' := hide (And.intro hG hrow')
  all_goals clear hX' hrow' hG hown hgrow hq' hb'
  all_goals go_wp2_with fail
  all_goals refine (unhide HSP _ _ (unhide HX') (fun h1 h2 h3 => (unhide HF').1.block p h3 (Ne.symm h1) h2)).mono ?_
  all_goals (intro e w3 hs3; obtain ⟨k, rfl⟩ := unhide HRET _ _ _ hs3; go_wp2; go_ret; exact ⟨_, _, (unhide HF').1, unhide HAT, unhide HX', (unhide HF').2, hs3⟩)
end Go.Proofs.YtefjfjieoiegnaaGreatDoor
/- Entities, looked up. -/
namespace Go.Proofs.YtefjfjieoiegnaaGreatDoor
open Go.RowKit
/-- No name twice. -/
def UniqE (ents : List (List Nat × List Nat)) : Prop := ents.Pairwise fun a b => a.1 ≠ b.1
theorem entX_snoc (l : List (List Nat × List Nat)) (x : List Nat × List Nat) (n : List Nat) : entX (l ++ [x]) n = match entX l n with
    | some t => some t
    | none => if x.1 = n then some x.2 else none := by
  unfold entX
  rw [List.find?_append]
  cases h : l.find? (fun x => x.1 == n) with
  | some y => rfl
  | none =>
    by_cases e : x.1 = n
    · simp [e]
    · simp [e]
theorem entX_none {l : List (List Nat × List Nat)} {n : List Nat} (h : ∀ y ∈ l, y.1 ≠ n) : entX l n = none := by
  unfold entX
  rw [List.find?_eq_none.2 (fun y hy => by simpa using h y hy)]
  rfl
def entTxt (ents : List (List Nat × List Nat)) (n : List Nat) : List Nat := (entX ents n).getD []
theorem entsD_snoc (l : List (List Nat × List Nat)) (x : List Nat × List Nat) : entsD (l ++ [x]) = (entsD l).put (.string (tx x.1)) (.agg [.lit (.string (tx x.2))]) := by
  unfold entsD
  rw [List.foldl_append]
  rfl
theorem put_isMap {D : DataW Unit} (h : Maps.IsMap D) (k : Lit) (d : DataW Unit) : Maps.IsMap (D.put k d) := by
  obtain ⟨es, rfl⟩ := h
  exact ⟨_, rfl⟩
theorem entsD_look : ∀ (k : Nat) (ents : List (List Nat × List Nat)), ents.length = k → UniqE ents → (∀ x ∈ ents, okL x.1) → Maps.IsMap (entsD ents) ∧ ∀ n, okL n → Maps.has (entsD ents) (.string (tx n)) = (entX ents n).isSome ∧ (entsD ents).atKey (.string (tx n)) (.agg [.lit (.string [])]) = .agg [.lit (.string (tx (entTxt ents n)))]
  | 0, ents, h, _, _ => by
    rw [List.length_eq_zero_iff.1 h]
    exact ⟨Maps.isMap_empty, fun n _ => ⟨rfl, rfl⟩⟩
  | k + 1, ents, h, hu, ho => by
    rcases List.eq_nil_or_concat ents with rfl | ⟨l, x, rfl⟩
    · cases h
    · rw [List.concat_eq_append] at h hu ho ⊢
      have hl : l.length = k := by simpa using h
      have hu' := List.pairwise_append.1 hu
      obtain ⟨ih1, ih2⟩ := entsD_look k l hl hu'.1 (fun y hy => ho y (by simp [hy]))
      have hx := ho x (by simp)
      have hkey : WideAt.IsKeyLit (.string (tx x.1)) := by trivial
      rw [entsD_snoc]
      refine ⟨put_isMap ih1 _ _, fun n hn => ?_⟩
      unfold entTxt
      rw [entX_snoc]
      by_cases e : x.1 = n
      · subst e
        rw [entX_none (fun y hy => hu'.2.2 y hy x (by simp)), Maps.has_put_same ih1 hkey, Maps.atKey_put_same ih1 hkey]
        simp
      · have hne : (Lit.string (tx n)) ≠ .string (tx x.1) := fun h => e (tx_inj hx hn (Lit.string.inj h).symm)
        rw [Maps.has_put_other hne, Maps.atKey_put_other hne, (ih2 n hn).1, (ih2 n hn).2, if_neg e]
        unfold entTxt
        cases entX l n <;> exact ⟨rfl, rfl⟩
/-- A look-up among the entities. -/
theorem look_any {w : World} {B m : Nat} {ents : List (List Nat × List Nat)} (h : EntsAt w B m ents) (hu : UniqE ents) {n : List Nat} (hn : okL n) (hz : (T n).size ≤ 1000000) :
    (Instr.lookup 61 (.map (some m)) (.string (T n)) true).run Tryz.prog w = .ok (.tuple #[.agg #[.string (T (entTxt ents n))], .bool (entX ents n).isSome]) w := by
  obtain ⟨_, ho, hown⟩ := h
  have hz0 : (zeroValue 154).run Tryz.prog w = .ok (.agg #[.string ⟨#[]⟩]) w := by kernel_rfl
  obtain ⟨v, ps, hrun, hv⟩ := hown.look_ok (Maps.string_keyed Tryz.underlying9) Tryz.underlying61 hz0 (zd := .agg [.lit (.string [])]) (zp := []) rfl (Go.WideMaps.keyOf_string_mk Tryz.underlying9 (by unfold maxLen; omega : (T n).size ≤ maxLen))
  obtain ⟨_, hl⟩ := entsD_look ents.length ents rfl hu (fun x hx => (ho x hx).1)
  rw [T_data] at hrun hv
  rw [(hl n hn).1] at hrun
  rw [(hl n hn).2] at hv
  rw [hrun, entElem_inv hv]
  rfl
theorem T_eq {a b : List Nat} (ha : okL a) (hb : okL b) (h : T a = T b) : a = b := by
  have := congrArg (fun x : ByteArray => x.data.toList) h
  simp only [T_data] at this
  exact tx_inj ha hb this
/-- Is a name among those that are open? -/
theorem contains_opn (C : Nat) (vo : Value) (opn : List (List Nat)) (name : List Nat) (w : World) (h : w.ownsRow C 9 1 vo opn.length (opnRow opn)) (ho : ∀ x ∈ opn, okL x) (hn : okL name) (hl : opn.length ≤ 100) :
    Calls Tryz.prog 166 #[vo, .string (T name)] w fun e w' => e = .returned (.bool (opn.contains name)) ∧ w' = w := by
  have hmem : Lib.containsS (opn.map T) (T name) = opn.contains name := by
    rw [Bool.eq_iff_iff, Lib.containsS_iff, List.contains_iff_mem, List.mem_map]
    constructor
    · rintro ⟨x, hx, e⟩
      rw [← T_eq (ho x hx) hn e]
      exact hx
    · intro hx
      exact ⟨name, hx, rfl⟩
  rcases h.2 with ⟨rfl, h0⟩ | ⟨g, cap, cur, rfl, h2, h3, h4⟩
  · have e0 : opn = [] := List.length_eq_zero_iff.1 h0
    subst e0
    exact Tryz.slices_Contains_string_empty none 0 (T name) w
  · refine (Tryz.slices_Contains_string g 0 opn.length cap (opn.map T) (T name) w (by simp) (by omega) ?_).mono ?_
    · intro j hj
      rw [List.length_map] at hj
      have hc := h.cellAt j (by omega)
      rw [Nat.zero_add, hc]
      unfold opnRow
      rw [List.getElem?_map, List.getElem?_eq_getElem hj]
      simp [List.getD_eq_getElem?_getD, List.getElem?_map, List.getElem?_eq_getElem hj]
    · rintro e w' ⟨rfl, rfl⟩
      refine ⟨ret_bool ?_, rfl⟩
      rw [List.take_of_length_le (by simp)]
      exact hmem
end Go.Proofs.YtefjfjieoiegnaaGreatDoor
