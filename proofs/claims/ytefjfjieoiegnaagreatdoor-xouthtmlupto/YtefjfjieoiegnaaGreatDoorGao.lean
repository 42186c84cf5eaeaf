/- Several texts, laid as one. -/
import Derived.Test.YtefjfjieoiegnaaGreatDoorGam
import Derived.Maps.AppendAt
import Derived.Test.YtefjfjieoiegnaaGreatDoorGan
import Derived.Maps.Views
import Derived.Test.YtefjfjieoiegnaaGreatDoorGaj
/- Where a row lies behind an append: append as one step of a region that draws its order, with that. -/
namespace Go.Proofs.YtefjfjieoiegnaaGreatDoor
open Go.RowKit
/-- A text that is appended: the row lies where it lay, or in the next new block. -/
theorem append_where {P : Program} {w w' : World} {v v' : Value} {base : Nat} {t u ty e : TypeId} {i : TypeInfo} (ht : P.underlying t = some (.slice e)) (hu : P.underlying u = some .string) (hi : P.info? e = some i) (hz : i.zero = some (.int .u8 0)) (hsize : i.size = 1) (hby : i.bytes = 1)
    {n : Nat} {xs : List Value} (hown : w.ownsRow base e 1 v n xs) (s : ByteArray) (hl : n + s.size ≤ 140737488355328) (hrun : (Builtin.append_ #[t, u] ty #[v, .string s]).run P w = .ok v' w') : v'.ownBlock = v.ownBlock ∨ v'.ownBlock = some w.heap.size := by
  have hxl : xs.length = n := by simpa using hown.1
  rcases hown.2 with ⟨rfl, rfl⟩ | ⟨g, cap, cur, rfl, hbg, hg, hnc, hcm, hcs, htake⟩
  · by_cases hm : s.size = 0
    · left
      have hf := Lib.run_firstCells_string (P := P) w 1 s
      rw [hm] at hf
      have hr : (Builtin.append_ #[t, u] ty #[.slice none 0 0, .string s]).run P w = .ok (.slice none 0 0) w := by
        simp [Builtin.append_, run_underlying ht, run_underlying hu, sizeOf, typeInfo, hi, hsize, Builtin.lenOf, hm, hf]
      rw [hr] at hrun
      cases hrun
      rfl
    · right
      have hr := run_append_nil_string (P := P) w t u ty e i (.int .u8 0) ht hu hi hz s (by omega) (by omega) (by rw [hby]; omega)
      rw [hr] at hrun
      cases hrun
      rfl
  · by_cases hroom : n + s.size ≤ cap
    · left
      have hr := Lib.run_append_room_string (P := P) w t u ty e i ht hu hi hsize g n cap cur hg s hroom (by omega)
      rw [hr] at hrun
      cases hrun
      rfl
    · right
      have holds : ∀ j u, xs[j]? = some u → w.cell? ((⟨g, 0, none⟩ : Addr).add j) = some u := hown.cells (g := g) rfl
      have hr := Lib.run_append_grow_string (P := P) w t u ty e i (.int .u8 0) ht hu hi hz ⟨g, 0, none⟩ n cap xs (by rw [hsize]; simpa using hxl) holds s (by omega) (by omega) (by rw [hby]; exact growslice_fits (by omega) (by omega))
      rw [hr] at hrun
      cases hrun
      rfl
theorem step_append_string_at {P : Program} {ops : Array Oper} {o : Oper} {a : Act} {w : World} {K : Act → World → Prop} {Q : Exit → Act → World → Prop} {E : Prop}
    (hg : o.guard = none) (sl x : Operand) (t u : TypeId) (hop : o.op = Op.call { callee := Callee.builtin Builtin.append, args := #[sl, x], argTypes := #[t, u] })
    (base : Nat) (e : TypeId) (i : TypeInfo) (ht : P.underlying t = some (.slice e)) (hu : P.underlying u = some .string) (hi : P.info? e = some i) (hz : i.zero = some (.int .u8 0)) (hsize : i.size = 1) (hby : i.bytes = 1)
    (v : Value) (n : Nat) (xs : List Value) (hs : a.eval sl = v) (hown : w.ownsRow base e 1 v n xs) (s : ByteArray) (hx : a.eval x = .string s)
    (hbytes : n + s.size ≤ 140737488355328) (hb : base ≤ w.heap.size)
    (hK : ∀ v' w', w'.ownsRow base e 1 v' (n + s.size) (xs ++ Lib.strCells s) → w.grownBy w' v.ownBlock → (v'.ownBlock = v.ownBlock ∨ v'.ownBlock = some w.heap.size) → K (a.put o.dst v') w') :
    if Region.wanted o (yielded ops a.tmps) = true then Oper.wp P o a w K Q else E := by
  have hw : Region.wanted o (yielded ops a.tmps) = true := by simp [Region.wanted, hg]
  rw [if_pos hw]
  obtain ⟨v', w', hrun, r1, r2, _⟩ := Lib.run_append_own_string (P := P) w base t u o.type e i ht hu hi hz hsize hby v n xs hown s (by unfold maxLen; omega) hbytes hb
  have r3 := append_where ht hu hi hz hsize hby hown s hbytes hrun
  unfold Oper.wp
  simp [execOp, hop, resolve, invoke, builtin, hs, hx, hrun, Result.andThen]
  exact hK v' w' r1 r2 r3
theorem step_append_own_at {P : Program} {ops : Array Oper} {o : Oper} {a : Act} {w : World} {K : Act → World → Prop} {Q : Exit → Act → World → Prop} {E : Prop}
    (hg : o.guard = none) (s x : Operand) (t : TypeId) (hop : o.op = Op.call { callee := Callee.builtin Builtin.append, args := #[s, x], argTypes := #[t, t] })
    (base : Nat) (e : TypeId) (i : TypeInfo) (z : Value) (size bytes : Nat) (h1 : P.underlying t = some (.slice e)) (h2 : P.info? e = some i) (h3 : i.zero = some z) (h4 : i.size = size) (h5 : i.bytes = bytes) (h6 : z.cells.size = size) (h7 : 0 < size)
    (v : Value) (n : Nat) (xs : List Value) (hs : a.eval s = v) (hown : w.ownsRow base e size v n xs)
    (ad : Addr) (m c : Nat) (news : List Value) (hx : a.eval x = .slice (some ad) m c) (hn : news.length = m * size) (hc : ∀ j u, news[j]? = some u → w.cell? (ad.add j) = some u) (h1c : ∀ u ∈ news, u.oneCell' = true)
    (b1 : n + m ≤ maxLen) (b2 : (n + m) * bytes ≤ 140737488355328) (hb : base ≤ w.heap.size)
    (hK : ∀ v' w', w'.ownsRow base e size v' (n + m) (xs ++ news) → w.grownBy w' v.ownBlock → (v'.ownBlock = v.ownBlock ∨ v'.ownBlock = some w.heap.size) → K (a.put o.dst v') w') :
    if Region.wanted o (yielded ops a.tmps) = true then Oper.wp P o a w K Q else E := by
  have hw : Region.wanted o (yielded ops a.tmps) = true := by simp [Region.wanted, hg]
  rw [if_pos hw]
  obtain ⟨v', w', hrun, r1, r2, _, r3⟩ := run_append_own_at (P := P) w base t o.type e i z size bytes h1 h2 h3 h4 h5 h6 h7 v n xs hown ad m c news hn hc h1c b1 b2 hb
  unfold Oper.wp
  simp [execOp, hop, resolve, invoke, builtin, hs, hx, hrun, Result.andThen]
  exact hK v' w' r1 r2 r3
end Go.Proofs.YtefjfjieoiegnaaGreatDoor
/- What a reference comes to, whatever is declared: xmlscan's spend, add and addText. -/
namespace Go.Proofs.YtefjfjieoiegnaaGreatDoor
open Go.RowKit
/-- An expansion in memory, with its reader's block, its text and the entities that are open in it. -/
structure ExpS (w : World) (C B q p m : Nat) (flat : Bool) (vt vo : Value) (tt : List Nat) (opn : List (List Nat)) (sp : Nat) (ents : List (List Nat × List Nat)) (c : Array Value) : Prop where
  blk : ExpAt w q p flat vt vo
  rd : w.heap[p]? = some (.cells c 63 (0, 0))
  csz : c.size = 10
  c2 : c[2]? = some (.map (some m))
  c3 : c[3]? = some (.int .i64 (sp : Nat))
  txt : w.ownsRow C 5 1 vt (tx tt).length (byteCells (tx tt))
  opn : w.ownsRow C 9 1 vo opn.length (opnRow opn)
  ents : EntsAt w B m ents
  lo : C ≤ q
theorem set_other {w : World} {p k i j : Nat} {v : Value} (h : k ≠ p) : (w.setCell ⟨p, i, none⟩ v).cell? ⟨k, j, none⟩ = w.cell? ⟨k, j, none⟩ := by
  unfold World.cell?
  simp only
  rw [blk_other h]
set_option maxHeartbeats 1000000 in
theorem spend_open (q p : Nat) (ao : Option Addr) (no co sp n : Nat) (w : World) (h3 : w.cell? ⟨q, 3, none⟩ = some (.slice ao no co)) (hno : 0 < no) (h0 : w.cell? ⟨q, 0, none⟩ = some (.pointer (some ⟨p, 0, none⟩))) (hs : w.cell? ⟨p, 3, none⟩ = some (.int .i64 (sp : Nat))) (hf : w.frozen? ⟨p, 3, none⟩ = false) (hqp : q ≠ p) (hsz : sp + n ≤ 1000000) :
    Calls Tryz.prog 165 #[.pointer (some ⟨q, 0, none⟩), .int .i64 (n : Nat)] w fun e w' => e = .returned (.int .i64 (if 32768 < sp + n then 6 else 0)) ∧ w' = w.setCell ⟨p, 3, none⟩ (.int .i64 ((sp + n : Nat) : Int)) := by
  have i1 : ((no : Int) == 0) = false := by simp; omega
  have hw1 : wrap64 ((sp : Int) + (n : Int)) = ((sp + n : Nat) : Int) := by unfold wrap64; omega
  have k0 : (w.setCell ⟨p, 3, none⟩ (.int .i64 ((sp + n : Nat) : Int))).cell? ⟨q, 0, none⟩ = some (.pointer (some ⟨p, 0, none⟩)) := by
    rw [set_other hqp]
    exact h0
  have k1 : (w.setCell ⟨p, 3, none⟩ (.int .i64 ((sp + n : Nat) : Int))).cell? ⟨p, 3, none⟩ = some (.int .i64 ((sp + n : Nat) : Int)) := World.cell?_setCell_same' w _ _ (by rw [hs]; rfl)
  obtain ⟨N, hN⟩ : ∃ N : Int, ((sp + n : Nat) : Int) = N := ⟨_, rfl⟩
  rw [hN] at hw1 k0 k1 ⊢
  by_cases h : 32768 < sp + n
  · have i2 : decide ((32768 : Int) < N) = true := decide_eq_true (by omega)
    rw [if_pos h]
    clear h hN hsz hno
    go_enter Tryz.func165, Tryz.ntmps165
    go_wp2
    go_ret
    exact ⟨rfl, rfl⟩
  · have i2 : decide ((32768 : Int) < N) = false := decide_eq_false (by omega)
    rw [if_neg h]
    clear h hN hsz hno
    go_enter Tryz.func165, Tryz.ntmps165
    go_wp2
    go_ret
    exact ⟨rfl, rfl⟩
set_option maxRecDepth 100000 in
set_option maxHeartbeats 4000000 in
/-- add of a reference that says something, whatever is open. -/
theorem add_told (B q p : Nat) (flat : Bool) (vt vo : Value) (tt : List Nat) (r : Ref) (n : Int) (w : World) (hX : ExpAt w q p flat vt vo) (hq : B ≤ q) (hrow : w.ownsRow B 5 1 vt (tx tt).length (byteCells (tx tt))) (hl : (tx tt).length ≤ 1000000)
    (hs : r.said ≠ []) (ho : okL r.said) (hsz : (T r.said).size ≤ 100000)
    (Sp : World → Ending → World → Prop) (hsp : ∀ W vt', ExpAt W q p flat vt' vo → (q ≠ p → vt.ownBlock ≠ some p → p < w.heap.size → W.heap[p]? = w.heap[p]?) → Calls Tryz.prog 165 #[.pointer (some ⟨q, 0, none⟩), .int .i64 (((T r.said).size : Int) + 1)] W (Sp W)) (hret : ∀ W e w', Sp W e w' → ∃ k : Int, e = .returned (.int .i64 k)) :
    Calls Tryz.prog 140 #[.pointer (some ⟨q, 0, none⟩), .agg #[.string (T r.said), .string (T r.name), .int .i64 n]] w fun e w' => ∃ W v', Grew q p vt w W ∧ (v'.ownBlock = vt.ownBlock ∨ ∀ k, v'.ownBlock = some k → w.heap.size ≤ k) ∧ ExpAt W q p flat v' vo ∧ W.ownsRow B 5 1 v' (tx (tt ++ r.said)).length (byteCells (tx (tt ++ r.said))) ∧ Sp W e w' := by
  have hne := ne_T ho hs
  have hw1 : wrap64 (((T r.said).size : Int) + 1) = ((T r.said).size : Int) + 1 := by unfold wrap64; omega
  have HSP := hide hsp
  have HRET := hide hret
  clear hsp hret
  obtain ⟨at', ct, rfl⟩ := owns_slice hrow
  obtain ⟨t0, hi, hz0, hz1, hz2⟩ := info_parts infoU8
  have hqlt : q < w.heap.size := (Array.getElem?_eq_some_iff.1 hX).1
  have hw1 : Below w.heap.size w (w.alloc (.cells #[.string (T r.said), .string (T r.name), .int .i64 n] 135)) := (Below.refl _ _).alloc (Nat.le_refl _) _
  have hX1 : ExpAt (w.alloc (.cells #[.string (T r.said), .string (T r.name), .int .i64 n] 135)) q p flat (.slice at' (tx tt).length ct) vo := block_below hX hw1
  have c2 : w.cell? ⟨q, 2, none⟩ = some (.slice at' (tx tt).length ct) := blk_cell hX 2
  have o2 := blk_open hX 2
  have HROW := hide (owns_below hrow hw1)
  have HX1 := hide hX1
  have hself := Below.refl (w.alloc (.cells #[.string (T r.said), .string (T r.name), .int .i64 n] 135)).heap.size (w.alloc (.cells #[.string (T r.said), .string (T r.name), .int .i64 n] 135))
  have HNQ : Hid ((Value.slice at' (tx tt).length ct).ownBlock ≠ some q) := hide (owns_not hrow hX (by decide))
  have HLT : Hid (∀ k, (Value.slice at' (tx tt).length ct).ownBlock = some k → k < w.heap.size) := hide fun k hk => (hrow.lt k hk).2
  have hBw : B ≤ w.heap.size := by omega
  have HXX := hide hX
  clear hX hX1 hrow hw1
  go_enter Tryz.func140, Tryz.ntmps140
  go_wp2_with fail
  go_region_law (refine step_append_string_at rfl (.tmp 16) (.tmp 18) 48 9 rfl B 5 t0 Tryz.underlying48 Tryz.underlying9 hi hz0 hz1 hz2 (.slice at' (tx tt).length ct) (tx tt).length (byteCells (tx tt)) rfl (owns_below (unhide HROW) (by (repeat first | with_reducible exact hself | refine Below.drew ?_))) (T r.said) rfl (by omega) (by simp; omega) ?_; intro v' w' hown hgrow hat; obtain ⟨a6, b6, rfl⟩ := owns_slice hown; have HAT : Hid (Value.ownBlock (.slice a6 ((tx tt).length + (T r.said).size) b6) = Value.ownBlock (.slice at' (tx tt).length ct) ∨ ∀ k, Value.ownBlock (.slice a6 ((tx tt).length + (T r.said).size) b6) = some k → w.heap.size ≤ k) := hide (by rcases hat with h | h; exact .inl h; refine .inr fun k hk => ?_; rw [h] at hk; cases hk; simp); have hq' : ExpAt w' q p flat (.slice at' (tx tt).length ct) vo := (by rw [ExpAt, hgrow.block q (by simp; omega) (fun e => unhide HNQ e.symm)]; exact block_below (unhide HX1) (by (repeat first | with_reducible exact hself | refine Below.drew ?_))); have hb' : w'.heap[w.heap.size]? = some (.cells #[.string (T r.said), .string (T r.name), .int .i64 n] 135 (0, 0)) := (by rw [hgrow.block w.heap.size (by simp) (fun e => by have := unhide HLT _ e.symm; omega)]; exact block_below (w := w.alloc (.cells #[.string (T r.said), .string (T r.name), .int .i64 n] 135)) (MapKept.heap_alloc w _).1 (by (repeat first | with_reducible exact hself | refine Below.drew ?_))); have c2' : w'.cell? ⟨q, 2, none⟩ = some (.slice at' (tx tt).length ct) := blk_cell hq' 2; have o2' := blk_open hq' 2; have cb' : w'.cell? ⟨w.heap.size, 0, none⟩ = some (.string (T r.said)) := blk_cell hb' 0)
  all_goals have hX' : ExpAt (w'.setCell ⟨q, 2, none⟩ (.slice a6 ((tx tt).length + (T r.said).size) b6)) q p flat (.slice a6 ((tx tt).length + (T r.said).size) b6) vo := (by rw [ExpAt, blk_set hq']; rfl)
  all_goals have hrow' : (w'.setCell ⟨q, 2, none⟩ (.slice a6 ((tx tt).length + (T r.said).size) b6)).ownsRow B 5 1 (.slice a6 ((tx tt).length + (T r.said).size) b6) (tx (tt ++ r.said)).length (byteCells (tx (tt ++ r.said))) := (by
    have e1 : byteCells (tx tt) ++ Lib.strCells (T r.said) = byteCells (tx (tt ++ r.said)) := by
      rw [tx_append, byteCells_append]
      unfold Lib.strCells byteCells
      rw [T_data]
    have e2 : (tx tt).length + (T r.said).size = (tx (tt ++ r.said)).length := by rw [T_size, tx_len_app]
    have h := owns_kept (S := (· = q)) hown (w' := w'.setCell ⟨q, 2, none⟩ (.slice a6 ((tx tt).length + (T r.said).size) b6)) (fun k o hk hs => by rw [blk_other hs]; exact hk) (fun k hk' hs => by subst hs; exact owns_not hown hq' (by decide) hk')
    rw [e1] at h
    rw [← e2]
    exact h)
  all_goals have hG : Grew q p (.slice at' (tx tt).length ct) w (w'.setCell ⟨q, 2, none⟩ (.slice a6 ((tx tt).length + (T r.said).size) b6)) := ⟨hgrow.os, hgrow.tape, hgrow.output, (by rw [blk_size]; have := hgrow.size; simp at this; omega), fun k hk h1 h2 => (by rw [blk_other h1, hgrow.block k (by simp; omega) (fun e => h2 e.symm)]; exact (Below.drew ((Below.refl w.heap.size w).alloc (Nat.le_refl _) _)).block k hk)⟩
  all_goals have HX' := hide hX'
  all_goals have HF' := hide (And.intro hG hrow')
  all_goals clear hX' hrow' hG hown hgrow hq' hb'
  all_goals go_wp2_with fail
  all_goals refine (unhide HSP _ _ (unhide HX') (fun h1 h2 h3 => (unhide HF').1.block p h3 (Ne.symm h1) h2)).mono ?_
  all_goals (intro e w3 hs3; obtain ⟨k, rfl⟩ := unhide HRET _ _ _ hs3; go_wp2; go_ret; exact ⟨_, _, (unhide HF').1, unhide HAT, unhide HX', (unhide HF').2, hs3⟩)
end Go.Proofs.YtefjfjieoiegnaaGreatDoor
/- Entities, looked up. -/
namespace Go.Proofs.YtefjfjieoiegnaaGreatDoor
open Go.RowKit
/-- No name twice. -/
def UniqE (ents : List (List Nat × List Nat)) : Prop := ents.Pairwise fun a b => a.1 ≠ b.1
theorem entX_snoc (l : List (List Nat × List Nat)) (x : List Nat × List Nat) (n : List Nat) : entX (l ++ [x]) n = match entX l n with
    | some t => some t
    | none => if x.1 = n then some x.2 else none := by
  unfold entX
  rw [List.find?_append]
  cases h : l.find? (fun x => x.1 == n) with
  | some y => rfl
  | none =>
    by_cases e : x.1 = n
    · simp [e]
    · simp [e]
theorem entX_none {l : List (List Nat × List Nat)} {n : List Nat} (h : ∀ y ∈ l, y.1 ≠ n) : entX l n = none := by
  unfold entX
  rw [List.find?_eq_none.2 (fun y hy => by simpa using h y hy)]
  rfl
def entTxt (ents : List (List Nat × List Nat)) (n : List Nat) : List Nat := (entX ents n).getD []
theorem entsD_snoc (l : List (List Nat × List Nat)) (x : List Nat × List Nat) : entsD (l ++ [x]) = (entsD l).put (.string (tx x.1)) (.agg [.lit (.string (tx x.2))]) := by
  unfold entsD
  rw [List.foldl_append]
  rfl
theorem put_isMap {D : DataW Unit} (h : Maps.IsMap D) (k : Lit) (d : DataW Unit) : Maps.IsMap (D.put k d) := by
  obtain ⟨es, rfl⟩ := h
  exact ⟨_, rfl⟩
theorem entsD_look : ∀ (k : Nat) (ents : List (List Nat × List Nat)), ents.length = k → UniqE ents → (∀ x ∈ ents, okL x.1) → Maps.IsMap (entsD ents) ∧ ∀ n, okL n → Maps.has (entsD ents) (.string (tx n)) = (entX ents n).isSome ∧ (entsD ents).atKey (.string (tx n)) (.agg [.lit (.string [])]) = .agg [.lit (.string (tx (entTxt ents n)))]
  | 0, ents, h, _, _ => by
    rw [List.length_eq_zero_iff.1 h]
    exact ⟨Maps.isMap_empty, fun n _ => ⟨rfl, rfl⟩⟩
  | k + 1, ents, h, hu, ho => by
    rcases List.eq_nil_or_concat ents with rfl | ⟨l, x, rfl⟩
    · cases h
    · rw [List.concat_eq_append] at h hu ho ⊢
      have hl : l.length = k := by simpa using h
      have hu' := List.pairwise_append.1 hu
      obtain ⟨ih1, ih2⟩ := entsD_look k l hl hu'.1 (fun y hy => ho y (by simp [hy]))
      have hx := ho x (by simp)
      have hkey : WideAt.IsKeyLit (.string (tx x.1)) := by trivial
      rw [entsD_snoc]
      refine ⟨put_isMap ih1 _ _, fun n hn => ?_⟩
      unfold entTxt
      rw [entX_snoc]
      by_cases e : x.1 = n
      · subst e
        rw [entX_none (fun y hy => hu'.2.2 y hy x (by simp)), Maps.has_put_same ih1 hkey, Maps.atKey_put_same ih1 hkey]
        simp
      · have hne : (Lit.string (tx n)) ≠ .string (tx x.1) := fun h => e (tx_inj hx hn (Lit.string.inj h).symm)
        rw [Maps.has_put_other hne, Maps.atKey_put_other hne, (ih2 n hn).1, (ih2 n hn).2, if_neg e]
        unfold entTxt
        cases entX l n <;> exact ⟨rfl, rfl⟩
/-- A look-up among the entities. -/
theorem look_any {w : World} {B m : Nat} {ents : List (List Nat × List Nat)} (h : EntsAt w B m ents) (hu : UniqE ents) {n : List Nat} (hn : okL n) (hz : (T n).size ≤ 1000000) :
    (Instr.lookup 61 (.map (some m)) (.string (T n)) true).run Tryz.prog w = .ok (.tuple #[.agg #[.string (T (entTxt ents n))], .bool (entX ents n).isSome]) w := by
  obtain ⟨_, ho, hown⟩ := h
  have hz0 : (zeroValue 154).run Tryz.prog w = .ok (.agg #[.string ⟨#[]⟩]) w := by kernel_rfl
  obtain ⟨v, ps, hrun, hv⟩ := hown.look_ok (Maps.string_keyed Tryz.underlying9) Tryz.underlying61 hz0 (zd := .agg [.lit (.string [])]) (zp := []) rfl (Go.WideMaps.keyOf_string_mk Tryz.underlying9 (by unfold maxLen; omega : (T n).size ≤ maxLen))
  obtain ⟨_, hl⟩ := entsD_look ents.length ents rfl hu (fun x hx => (ho x hx).1)
  rw [T_data] at hrun hv
  rw [(hl n hn).1] at hrun
  rw [(hl n hn).2] at hv
  rw [hrun, entElem_inv hv]
  rfl
theorem T_eq {a b : List Nat} (ha : okL a) (hb : okL b) (h : T a = T b) : a = b := by
  have := congrArg (fun x : ByteArray => x.data.toList) h
  simp only [T_data] at this
  exact tx_inj ha hb this
/-- Is a name among those that are open? -/
theorem contains_opn (C : Nat) (vo : Value) (opn : List (List Nat)) (name : List Nat) (w : World) (h : w.ownsRow C 9 1 vo opn.length (opnRow opn)) (ho : ∀ x ∈ opn, okL x) (hn : okL name) (hl : opn.length ≤ 100) :
    Calls Tryz.prog 166 #[vo, .string (T name)] w fun e w' => e = .returned (.bool (opn.contains name)) ∧ w' = w := by
  have hmem : Lib.containsS (opn.map T) (T name) = opn.contains name := by
    rw [Bool.eq_iff_iff, Lib.containsS_iff, List.contains_iff_mem, List.mem_map]
    constructor
    · rintro ⟨x, hx, e⟩
      rw [← T_eq (ho x hx) hn e]
      exact hx
    · intro hx
      exact ⟨name, hx, rfl⟩
  rcases h.2 with ⟨rfl, h0⟩ | ⟨g, cap, cur, rfl, h2, h3, h4⟩
  · have e0 : opn = [] := List.length_eq_zero_iff.1 h0
    subst e0
    exact Tryz.slices_Contains_string_empty none 0 (T name) w
  · refine (Tryz.slices_Contains_string g 0 opn.length cap (opn.map T) (T name) w (by simp) (by omega) ?_).mono ?_
    · intro j hj
      rw [List.length_map] at hj
      have hc := h.cellAt j (by omega)
      rw [Nat.zero_add, hc]
      unfold opnRow
      rw [List.getElem?_map, List.getElem?_eq_getElem hj]
      simp [List.getD_eq_getElem?_getD, List.getElem?_map, List.getElem?_eq_getElem hj]
    · rintro e w' ⟨rfl, rfl⟩
      refine ⟨ret_bool ?_, rfl⟩
      rw [List.take_of_length_le (by simp)]
      exact hmem
end Go.Proofs.YtefjfjieoiegnaaGreatDoor
/- A reference to an entity: xmlscan's add, over addText's contract. -/
namespace Go.Proofs.YtefjfjieoiegnaaGreatDoor
open Go.RowKit
/-- Every block stands but the expansion's, the reader's, and those of two rows. -/
structure ExpK (q p : Nat) (vt vo : Value) (w w' : World) : Prop where
  os : w'.os = w.os
  tape : w'.tape = w.tape
  output : w'.output = w.output
  size : w.heap.size ≤ w'.heap.size
  block : ∀ k, k < w.heap.size → k ≠ q → k ≠ p → vt.ownBlock ≠ some k → vo.ownBlock ≠ some k → w'.heap[k]? = w.heap[k]?
/-- A row lies where it lay, or in a new block. -/
def Fresh (w : World) (v v' : Value) : Prop := v'.ownBlock = v.ownBlock ∨ ∀ k, v'.ownBlock = some k → w.heap.size ≤ k
theorem Fresh.ne {w : World} {v v' : Value} (h : Fresh w v v') {k : Nat} (hk : k < w.heap.size) (hv : v.ownBlock ≠ some k) : v'.ownBlock ≠ some k := by
  rcases h with h | h
  · rw [h]; exact hv
  · intro e
    have := h k e
    omega
theorem Fresh.trans {w w1 : World} {v v1 v2 : Value} (hs : w.heap.size ≤ w1.heap.size) (h : Fresh w v v1) (g : Fresh w1 v1 v2) : Fresh w v v2 := by
  rcases g with g | g
  · rcases h with h | h
    · exact .inl (g.trans h)
    · exact .inr fun k hk => h k (by rw [← g]; exact hk)
  · exact .inr fun k hk => by have := g k hk; omega
theorem ExpK.refl (q p : Nat) (vt vo : Value) (w : World) : ExpK q p vt vo w w := ⟨rfl, rfl, rfl, Nat.le_refl _, fun _ _ _ _ _ _ => rfl⟩
theorem ExpK.trans {q p : Nat} {vt vo vt1 vo1 : Value} {w w1 w2 : World} (h : ExpK q p vt vo w w1) (ft : Fresh w vt vt1) (fo : Fresh w vo vo1) (g : ExpK q p vt1 vo1 w1 w2) : ExpK q p vt vo w w2 :=
  ⟨g.os.trans h.os, g.tape.trans h.tape, g.output.trans h.output, Nat.le_trans h.size g.size, fun k hk h1 h2 h3 h4 => (g.block k (by have := h.size; omega) h1 h2 (ft.ne hk h3) (fo.ne hk h4)).trans (h.block k hk h1 h2 h3 h4)⟩
theorem ExpK.below {q p : Nat} {vt vo : Value} {w w1 : World} (h : Below w.heap.size w w1) : ExpK q p vt vo w w1 :=
  ⟨h.os, h.tape, h.output, h.size, fun k hk _ _ _ _ => h.block k hk⟩
theorem ExpK.low {q p B : Nat} {vt vo : Value} {w w' : World} (h : ExpK q p vt vo w w') (hB : B ≤ w.heap.size) (hq : B ≤ q) (hp : B ≤ p) (ht : ∀ k, vt.ownBlock = some k → B ≤ k) (ho : ∀ k, vo.ownBlock = some k → B ≤ k) : Below B w w' :=
  ⟨h.os, h.tape, h.output, h.size, fun k hk => h.block k (by omega) (by omega) (by omega) (fun e => by have := ht k e; omega) (fun e => by have := ho k e; omega)⟩
theorem ExpS.on {w w' : World} {C B q p m : Nat} {flat : Bool} {vt vo : Value} {tt : List Nat} {opn : List (List Nat)} {sp : Nat} {ents : List (List Nat × List Nat)} {c : Array Value} (h : ExpS w C B q p m flat vt vo tt opn sp ents c) (hb : Below w.heap.size w w') : ExpS w' C B q p m flat vt vo tt opn sp ents c := by
  refine ⟨block_below h.blk hb, block_below h.rd hb, h.csz, h.c2, h.c3, owns_below h.txt hb, owns_below h.opn hb, h.ents.kept ?_, h.lo⟩
  obtain ⟨es, ck, hm⟩ := h.ents.map
  exact hb.block m (Array.getElem?_eq_some_iff.1 hm).1
abbrev rdSp (c : Array Value) (n : Nat) : Array Value := c.setIfInBounds 3 (.int .i64 (n : Nat))
/-- What an entity comes to, with what its text comes to. -/
def entOut (opn : List (List Nat)) (name : List Nat) (sp : Nat) (X : Nat → Except Nat (List Nat × Nat)) : Except Nat (List Nat × Nat) := if 8 < opn.length ∨ opn.contains name = true then .error 6 else match spendX opn sp 1 with | .error e => .error e | .ok s1 => X s1
/-- What add and addText leave. -/
def AddOut (o : Except Nat (List Nat × Nat)) (C B q p m : Nat) (flat : Bool) (vt vo : Value) (tt : List Nat) (opn : List (List Nat)) (ents : List (List Nat × List Nat)) (c : Array Value) (e : Ending) (w w' : World) : Prop :=
  ∃ vt' vo', ExpK q p vt vo w w' ∧ Fresh w vt vt' ∧ Fresh w vo vo' ∧ match o with
    | .error k => e = .returned (.int .i64 (k : Nat)) ∧ ∃ (tt' : List Nat) (n : Nat), ExpS w' C B q p m flat vt' vo' tt' opn n ents (rdSp c n)
    | .ok (t, sp') => e = .returned (.int .i64 0) ∧ ExpS w' C B q p m flat vt' vo' (tt ++ t) opn sp' ents (rdSp c sp')
theorem cellW_same {w w' : World} {k : Nat} (h : w'.heap[k]? = w.heap[k]?) (j : Nat) : w'.cell? ⟨k, j, none⟩ = w.cell? ⟨k, j, none⟩ := by
  unfold World.cell?
  simp only
  rw [h]
theorem infoStrE : (Tryz.prog.info? 9).map (fun i => (i.zero, i.size, i.bytes)) = some (some (.string ⟨#[]⟩), 1, 16) := by kernel_rfl
theorem news1E {W : World} {g : Nat} {a : Value} (h0 : W.cell? ⟨g, 0, none⟩ = some a) : ∀ j u, [a][j]? = some u → W.cell? ((⟨g, 0, none⟩ : Addr).add j) = some u := by
  intro j u hj
  match j, hj with
  | 0, hj =>
    cases hj
    exact h0
theorem set_same3 {c : Array Value} {v : Value} (h : c[3]? = some v) : c.setIfInBounds 3 v = c := by
  apply Array.ext
  · simp
  · intro i h1 h2
    rw [Array.getElem_setIfInBounds]
    · split
      · rename_i e
        subst e
        rw [Array.getElem?_eq_getElem h2] at h
        exact (Option.some.inj h).symm
      · rfl
theorem rdSp_twice (c : Array Value) (a b : Nat) : rdSp (rdSp c a) b = rdSp c b := by
  unfold rdSp
  rw [Array.setIfInBounds_setIfInBounds]
/-- The reader's count is set anew. -/
theorem ExpS.spent {w : World} {C B q p m : Nat} {flat : Bool} {vt vo : Value} {tt : List Nat} {opn : List (List Nat)} {sp : Nat} {ents : List (List Nat × List Nat)} {c : Array Value} (h : ExpS w C B q p m flat vt vo tt opn sp ents c) (n : Nat) :
    ExpS (w.setCell ⟨p, 3, none⟩ (.int .i64 (n : Nat))) C B q p m flat vt vo tt opn n ents (rdSp c n) ∧ ExpK q p vt vo w (w.setCell ⟨p, 3, none⟩ (.int .i64 (n : Nat))) := by
  have hqp : q ≠ p := fun e => by
    have h1 := h.blk
    rw [e] at h1
    have h2 := h.rd
    rw [h1] at h2
    cases h2
  have hmp : m ≠ p := h.ents.ne h.rd
  refine ⟨⟨?_, blk_set h.rd 3 _, by simp [h.csz], ?_, ?_, ?_, ?_, h.ents.kept (blk_other hmp 3 _), h.lo⟩, rfl, rfl, rfl, by rw [blk_size]; exact Nat.le_refl _, fun k _ _ h2 _ _ => blk_other h2 3 _⟩
  · rw [ExpAt, blk_other hqp]; exact h.blk
  · rw [rdSp, Array.getElem?_setIfInBounds_ne (by decide)]; exact h.c2
  · rw [rdSp, Array.getElem?_setIfInBounds_self_of_lt (by rw [h.csz]; decide)]
  · exact owns_kept (S := (· = p)) h.txt (fun k o hk hs => by rw [blk_other hs]; exact hk) (fun k hk hs => by subst hs; exact owns_not h.txt h.rd (by decide) hk)
  · exact owns_kept (S := (· = p)) h.opn (fun k o hk hs => by rw [blk_other hs]; exact hk) (fun k hk hs => by subst hs; exact owns_not h.opn h.rd (by decide) hk)
set_option maxHeartbeats 1000000 in
theorem spend_top (q : Nat) (ao : Option Addr) (co : Nat) (n : Int) (w : World) (h3 : w.cell? ⟨q, 3, none⟩ = some (.slice ao 0 co)) :
    Calls Tryz.prog 165 #[.pointer (some ⟨q, 0, none⟩), .int .i64 n] w fun e w' => e = .returned (.int .i64 0) ∧ w' = w := by
  go_enter Tryz.func165, Tryz.ntmps165
  go_wp2
  go_ret
  exact ⟨rfl, rfl⟩
/-- What spend leaves. -/
def SpendOut (o : Except Nat Nat) (C B q p m : Nat) (flat : Bool) (vt vo : Value) (tt : List Nat) (opn : List (List Nat)) (ents : List (List Nat × List Nat)) (c : Array Value) (e : Ending) (w w' : World) : Prop :=
  ExpK q p vt vo w w' ∧ match o with
    | .error k => e = .returned (.int .i64 (k : Nat)) ∧ ∃ n : Nat, ExpS w' C B q p m flat vt vo tt opn n ents (rdSp c n)
    | .ok sp' => e = .returned (.int .i64 0) ∧ ExpS w' C B q p m flat vt vo tt opn sp' ents (rdSp c sp')
theorem spend_any (C B q p m : Nat) (flat : Bool) (vt vo : Value) (tt : List Nat) (opn : List (List Nat)) (sp : Nat) (ents : List (List Nat × List Nat)) (c : Array Value) (n : Nat) (w : World) (S : ExpS w C B q p m flat vt vo tt opn sp ents c) (hsz : sp + n ≤ 1000000) :
    Calls Tryz.prog 165 #[.pointer (some ⟨q, 0, none⟩), .int .i64 (n : Nat)] w fun e w' => SpendOut (spendX opn sp n) C B q p m flat vt vo tt opn ents c e w w' := by
  obtain ⟨ao, co, rfl⟩ := owns_slice S.opn
  have c3 : w.cell? ⟨q, 3, none⟩ = some (.slice ao opn.length co) := blk_cell S.blk 3
  by_cases h : opn = []
  · subst h
    refine (spend_top q ao co (n : Nat) w c3).mono ?_
    rintro e w' ⟨rfl, rfl⟩
    refine ⟨ExpK.refl _ _ _ _ _, rfl, ?_⟩
    rw [rdSp, set_same3 S.c3]
    exact S
  · have hl : 0 < opn.length := List.length_pos_iff.2 h
    have hqp : q ≠ p := fun e => by
      have h1 := S.blk
      rw [e] at h1
      have h2 := S.rd
      rw [h1] at h2
      cases h2
    refine (spend_open q p ao opn.length co sp n w c3 hl (blk_cell S.blk 0) (by rw [blk_cell S.rd]; exact S.c3) (blk_open S.rd 3) hqp hsz).mono ?_
    rintro e w' ⟨rfl, rfl⟩
    obtain ⟨S', K'⟩ := S.spent (sp + n)
    unfold SpendOut spendX
    rw [if_neg h]
    by_cases hb : 32768 < sp + n
    · rw [if_pos hb, if_pos hb]
      exact ⟨K', rfl, sp + n, S'⟩
    · rw [if_neg hb, if_neg hb]
      exact ⟨K', rfl, S'⟩
/-- An entity more is open. -/
theorem ExpS.opened {w W w2 : World} {C B q p m : Nat} {flat : Bool} {vt vo v2 : Value} {tt name : List Nat} {opn : List (List Nat)} {sp : Nat} {ents : List (List Nat × List Nat)} {c : Array Value} (h : ExpS w C B q p m flat vt vo tt opn sp ents c)
    (hb : Below w.heap.size w W) (hg : W.grownBy w2 vo.ownBlock) (hown : w2.ownsRow C 9 1 v2 (opn.length + 1) (opnRow opn ++ [.string (T name)])) (hat : v2.ownBlock = vo.ownBlock ∨ v2.ownBlock = some W.heap.size) :
    w2.heap[q]? = some (.cells (expArr p flat vt vo) 138 (0, 0)) ∧ ExpS (w2.setCell ⟨q, 3, none⟩ v2) C B q p m flat vt v2 tt (opn ++ [name]) sp ents c ∧ ExpK q p vt vo w (w2.setCell ⟨q, 3, none⟩ v2) ∧ Fresh w vo v2 := by
  have hW := h.on hb
  have hqp : q ≠ p := fun e => by
    have h1 := h.blk
    rw [e] at h1
    have h2 := h.rd
    rw [h1] at h2
    cases h2
  have hlt : ∀ {k o}, W.heap[k]? = some o → k < W.heap.size := fun hk => (Array.getElem?_eq_some_iff.1 hk).1
  have hq2 : w2.heap[q]? = some (.cells (expArr p flat vt vo) 138 (0, 0)) := by
    rw [hg.block q (hlt hW.blk) (fun e => owns_not hW.opn hW.blk (by decide) e.symm)]; exact hW.blk
  have hp2 : w2.heap[p]? = some (.cells c 63 (0, 0)) := by
    rw [hg.block p (hlt hW.rd) (fun e => owns_not hW.opn hW.rd (by decide) e.symm)]; exact hW.rd
  obtain ⟨es, ck, hm⟩ := hW.ents.map
  have hmq : m ≠ q := hW.ents.ne hW.blk
  have hmo : vo.ownBlock ≠ some m := fun e => by
    obtain ⟨c', hc'⟩ := owns_type hW.opn e
    rw [hm] at hc'
    cases hc'
  have hm2 : w2.heap[m]? = W.heap[m]? := hg.block m (hlt hm) (fun e => hmo e.symm)
  have htx : w2.ownsRow C 5 1 vt (tx tt).length (byteCells (tx tt)) := owns_kept (S := fun k => vo.ownBlock = some k) hW.txt (fun k o hk hs => by rw [hg.block k (hlt hk) (fun e => hs e.symm)]; exact hk) (fun k hk hs => owns_apart hW.txt hW.opn (by decide) k hk hs)
  have hsz := hb.size
  refine ⟨hq2, ⟨?_, ?_, h.csz, h.c2, h.c3, ?_, ?_, ?_, h.lo⟩, ⟨hg.os.trans hb.os, hg.tape.trans hb.tape, hg.output.trans hb.output, by rw [blk_size]; have := hg.size; omega, fun k hk h1 h2 h3 h4 => ?_⟩, ?_⟩
  · rw [ExpAt, blk_set hq2]; rfl
  · rw [blk_other (Ne.symm hqp)]; exact hp2
  · exact owns_kept (S := (· = q)) htx (fun k o hk hs => by rw [blk_other hs]; exact hk) (fun k hk hs => by subst hs; exact owns_not htx hq2 (by decide) hk)
  · have e1 : opnRow (opn ++ [name]) = opnRow opn ++ [.string (T name)] := by unfold opnRow; rw [List.map_append]; rfl
    rw [e1, List.length_append]
    exact owns_kept (S := (· = q)) hown (fun k o hk hs => by rw [blk_other hs]; exact hk) (fun k hk hs => by subst hs; exact owns_not hown hq2 (by decide) hk)
  · exact hW.ents.kept (by rw [blk_other hmq]; exact hm2)
  · rw [blk_other h1, hg.block k (by omega) (fun e => h4 e.symm)]; exact hb.block k hk
  · rcases hat with e | e
    · exact .inl e
    · exact .inr fun k hk => by rw [e] at hk; cases hk; exact hsz
theorem wrapL (L : Nat) (h : L ≤ 9) : IntKind.i64.wrap (((L + 1 : Nat) : Int) - 1) = (L : Int) ∧ wrap64 (L : Int) = (L : Int) ∧ IntKind.i64.wrap (L : Int) = (L : Int) := by
  refine ⟨?_, ?_, ?_⟩
  · rw [IntKind.wrap_i64]; omega
  · unfold wrap64; omega
  · rw [IntKind.wrap_i64]; omega
/-- The last one that is open ends. -/
theorem ExpS.ended {w : World} {C B q p m no co : Nat} {flat : Bool} {vt : Value} {ao : Option Addr} {tt name : List Nat} {opn : List (List Nat)} {sp : Nat} {ents : List (List Nat × List Nat)} {c : Array Value} (h : ExpS w C B q p m flat vt (.slice ao no co) tt (opn ++ [name]) sp ents c) :
    ExpS (w.setCell ⟨q, 3, none⟩ (.slice ao opn.length co)) C B q p m flat vt (.slice ao opn.length co) tt opn sp ents c ∧ ExpK q p vt (.slice ao no co) w (w.setCell ⟨q, 3, none⟩ (.slice ao opn.length co)) := by
  have hno : no = opn.length + 1 := by
    have := h.opn
    rcases this.2 with ⟨e, h0⟩ | ⟨g, cap, cur, e, _⟩
    · simp at h0
    · cases e; simp
  subst hno
  have hqp : q ≠ p := fun e => by
    have h1 := h.blk
    rw [e] at h1
    have h2 := h.rd
    rw [h1] at h2
    cases h2
  have hmq : m ≠ q := h.ents.ne h.blk
  have ho : w.ownsRow C 9 1 (.slice ao opn.length co) opn.length (opnRow opn) := by
    have h1 := h.opn
    rw [List.length_append] at h1
    have h2 := owns_pre h1 (Nat.le_succ opn.length)
    have e1 : (opnRow (opn ++ [name])).take (opn.length * 1) = opnRow opn := by
      unfold opnRow
      rw [List.map_append, Nat.mul_one]
      have : opn.length = (opn.map fun x => Value.string (T x)).length := by simp
      rw [this, List.take_left]
    rw [e1] at h2
    exact h2
  refine ⟨⟨?_, ?_, h.csz, h.c2, h.c3, ?_, ?_, h.ents.kept (blk_other hmq 3 _), h.lo⟩, rfl, rfl, rfl, by rw [blk_size]; exact Nat.le_refl _, fun k _ h1 _ _ _ => blk_other h1 3 _⟩
  · rw [ExpAt, blk_set h.blk]; rfl
  · rw [blk_other (Ne.symm hqp)]; exact h.rd
  · exact owns_kept (S := (· = q)) h.txt (fun k o hk hs => by rw [blk_other hs]; exact hk) (fun k hk hs => by subst hs; exact owns_not h.txt h.blk (by decide) hk)
  · exact owns_kept (S := (· = q)) ho (fun k o hk hs => by rw [blk_other hs]; exact hk) (fun k hk hs => by subst hs; exact owns_not ho h.blk (by decide) hk)
/-- What is told of an expansion, whatever became of it. -/
theorem AddOut.any {o : Except Nat (List Nat × Nat)} {C B q p m : Nat} {flat : Bool} {vt vo : Value} {tt : List Nat} {opn : List (List Nat)} {ents : List (List Nat × List Nat)} {c : Array Value} {e : Ending} {w w' : World} (h : AddOut o C B q p m flat vt vo tt opn ents c e w w') :
    ∃ (k : Nat) (vt' vo' : Value) (tt' : List Nat) (n : Nat), e = .returned (.int .i64 (k : Nat)) ∧ ExpK q p vt vo w w' ∧ Fresh w vt vt' ∧ Fresh w vo vo' ∧ ExpS w' C B q p m flat vt' vo' tt' opn n ents (rdSp c n) ∧ ((∃ t, o = .ok (t, n) ∧ tt' = tt ++ t ∧ k = 0) ∨ o = .error k) := by
  obtain ⟨vt', vo', h1, h2, h3, h4⟩ := h
  cases o with
  | error k =>
    obtain ⟨rfl, tt', n, S⟩ := h4
    exact ⟨k, vt', vo', tt', n, rfl, h1, h2, h3, S, .inr rfl⟩
  | ok x =>
    obtain ⟨t, sp'⟩ := x
    obtain ⟨rfl, S⟩ := h4
    exact ⟨0, vt', vo', tt ++ t, sp', rfl, h1, h2, h3, S, .inl ⟨t, rfl, rfl, rfl⟩⟩
set_option maxRecDepth 100000 in
set_option maxHeartbeats 4000000 in
theorem add_entity (C B q p m : Nat) (flat : Bool) (vt vo : Value) (tt name t : List Nat) (opn : List (List Nat)) (sp : Nat) (ents : List (List Nat × List Nat)) (c : Array Value) (n : Int) (w : World)
    (S : ExpS w C B q p m flat vt vo tt opn sp ents c) (hu : UniqE ents) (hn : okL name) (hz : (T name).size ≤ 100000) (ht : entX ents name = some t) (ho : ∀ x ∈ opn, okL x) (hl : opn.length ≤ 9) (hsp : sp ≤ 32768) (X : Nat → Except Nat (List Nat × Nat))
    (HT : ∀ W vt1 vo1 sp1 c1, ExpS W C B q p m flat vt1 vo1 tt (opn ++ [name]) sp1 ents c1 → spendX opn sp 1 = .ok sp1 → ¬8 < opn.length → ExpK q p vt vo w W → vt1 = vt → Fresh w vo vo1 → Calls Tryz.prog 167 #[.pointer (some ⟨q, 0, none⟩), .string (T t)] W fun e w' => AddOut (X sp1) C B q p m flat vt1 vo1 tt (opn ++ [name]) ents c1 e W w') :
    Calls Tryz.prog 140 #[.pointer (some ⟨q, 0, none⟩), .agg #[.string (T []), .string (T name), .int .i64 n]] w fun e w' =>
      AddOut (entOut opn name sp X) C B q p m flat vt vo tt opn ents c e w w' := by
  have HTX := hide HT
  clear HT
  have hb : Below w.heap.size w (w.alloc (.cells #[.string (T []), .string (T name), .int .i64 n] 135)) := (Below.refl _ _).alloc (Nat.le_refl _) _
  have HS := hide S
  have hls : ∀ W, EntsAt W B m ents → (Instr.lookup 61 (.map (some m)) (.string (T name)) true).run Tryz.prog W = .ok (.tuple #[.agg #[.string (T t)], .bool true]) W := fun W hW => by
    rw [look_any hW hu hn (by omega)]
    unfold entTxt
    rw [ht]
    rfl
  have HLS := hide hls
  have hne := nil_T (l := []) rfl
  have hqlt : q < w.heap.size := (Array.getElem?_eq_some_iff.1 S.blk).1
  have hplt : p < w.heap.size := (Array.getElem?_eq_some_iff.1 S.rd).1
  have HVT : Hid (∀ k, vt.ownBlock = some k → k < w.heap.size) := hide fun k hk => (S.txt.lt k hk).2
  have HVO : Hid (∀ k, vo.ownBlock = some k → k < w.heap.size) := hide fun k hk => (S.opn.lt k hk).2
  have HCW : Hid (C ≤ w.heap.size) := hide (by have := S.lo; omega)
  have HMK : Hid (∀ W, Below (w.heap.size + 1) (w.alloc (.cells #[.string (T []), .string (T name), .int .i64 n] 135)) W → W.cell? ⟨q, 0, none⟩ = some (.pointer (some ⟨p, 0, none⟩)) ∧ W.cell? ⟨p, 2, none⟩ = some (.map (some m)) ∧ W.cell? ⟨w.heap.size, 1, none⟩ = some (.string (T name)) ∧ (Instr.lookup 61 (.map (some m)) (.string (T name)) true).run Tryz.prog W = .ok (.tuple #[.agg #[.string (T t)], .bool true]) W ∧ Below (w.heap.size + 1) (w.alloc (.cells #[.string (T []), .string (T name), .int .i64 n] 135)) W) := by
    refine hide fun W hW => ?_
    have hsz : (w.alloc (.cells #[.string (T []), .string (T name), .int .i64 n] 135)).heap.size = w.heap.size + 1 := by simp
    have hW' := hW
    rw [← hsz] at hW'
    have S' := ((unhide HS).on hb).on hW'
    refine ⟨blk_cell S'.blk 0, by rw [blk_cell S'.rd]; exact S'.c2, keptC hW' (blk_cell (MapKept.heap_alloc w _).1 1), unhide HLS W S'.ents, hW⟩
  clear S hls
  go_enter Tryz.func140, Tryz.ntmps140
  go_wp2_with fail
  go_cut [5, 6] (fun s5 s6 wx => ∃ b, s5 = .pointer (some ⟨b, 0, none⟩) ∧ s6 = .bool true ∧ wx.cell? ⟨b, 0, none⟩ = some (.string (T t)) ∧ w.heap.size ≤ b ∧ Below (w.heap.size + 1) (w.alloc (.cells #[.string (T []), .string (T name), .int .i64 n] 135)) wx)
  case first =>
    go_region_held3 (fun W => W.cell? ⟨q, 0, none⟩ = some (.pointer (some ⟨p, 0, none⟩)) ∧ W.cell? ⟨p, 2, none⟩ = some (.map (some m)) ∧ W.cell? ⟨w.heap.size, 1, none⟩ = some (.string (T name)) ∧ (Instr.lookup 61 (.map (some m)) (.string (T name)) true).run Tryz.prog W = .ok (.tuple #[.agg #[.string (T t)], .bool true]) W ∧ Below (w.heap.size + 1) (w.alloc (.cells #[.string (T []), .string (T name), .int .i64 n] 135)) W)
      ((refine unhide HMK _ ?_; (repeat first | assumption | refine Below.drew ?_ | refine Below.setCell ?_ (by first | omega | (simp; omega) | (simp; done)) _ | refine Below.alloc ?_ (by first | omega | (simp; omega) | (simp; done)) _ | exact Below.refl _ _)))
      (fail)
    all_goals (try go_wp2_with fail)
    all_goals go_meet
    all_goals exact ⟨_, rfl, rfl, by simp [go_sem], by omega, by (repeat first | assumption | refine Below.drew ?_ | refine Below.alloc ?_ (by first | omega | (simp; omega) | (simp; done)) _ | exact Below.refl _ _)⟩
  case rest =>
    rename World => wx
    obtain ⟨b, rfl, rfl, hbt, hbw, hB1⟩ := hcut
    have hsz : (w.alloc (.cells #[.string (T []), .string (T name), .int .i64 n] 135)).heap.size = w.heap.size + 1 := by simp
    have hB1' := hB1
    rw [← hsz] at hB1'
    have S1 := ((unhide HS).on hb).on hB1'
    have hbW : Below w.heap.size w wx := hb.trans (hB1'.mono hb.size)
    have hc1 : wx.cell? ⟨w.heap.size, 1, none⟩ = some (.string (T name)) := keptC hB1' (blk_cell (MapKept.heap_alloc w _).1 1)
    have hvo := S1.opn
    obtain ⟨ao, co, rfl⟩ := owns_slice hvo
    have HS1 := hide S1
    have HBT := hide hbt
    have HC1 := hide hc1
    have HX := hide (show ClsW wx wx.drew from ⟨(Below.refl _ _).drew⟩)
    have HCE := hide (fun (u : World) (h : ClsW wx u) => (⟨blk_cell ((unhide HS1).on h.bel).blk 3, keptC h.bel (unhide HC1)⟩ : u.cell? ⟨q, 3, none⟩ = some (.slice ao opn.length co) ∧ u.cell? ⟨w.heap.size, 1, none⟩ = some (.string (T name))))
    have HCT := hide (fun (u : World) (h : ClsW wx u) => contains_opn C (.slice ao opn.length co) opn name u ((unhide HS1).on h.bel).opn ho hn (by omega))
    clear hvo S1 hbt hc1 HMK HLS HS hB1 hB1' hb hsz
    by_cases h8 : 8 < opn.length
    · have i8 : decide ((8 : Int) < (opn.length : Int)) = true := decide_eq_true (by omega)
      go_wp2_with fail
      refine wp_region_cls (ClsW wx) (by kernel_rfl) (by kernel_rfl) (unhide HX) ?_
      repeat
        (first
          | go_big_quiet_skip
          | (go_big_quiet_want
             go_big_quiet_op
             first
               | go_big_quiet_on
               | (apply Exists.intro
                  refine ⟨fun w' hC => ?_, ?_⟩
                  · (obtain ⟨k0, k1⟩ := unhide HCE _ hC; go_simp; first | done | rfl)
                  go_big_quiet_on)))
      refine wpQuiet_nil ?_
      intro w4 hC4
      have hb4 := hC4.bel
      have S4 := (unhide HS1).on hb4
      have HF := hide (show AddOut (entOut opn name sp X) C B q p m flat vt (.slice ao opn.length co) tt opn ents c (.returned (.int .i64 6)) w w4 from by
        unfold entOut
        rw [if_pos (.inl h8)]
        exact ⟨_, _, ExpK.below (hbW.trans (hb4.mono hbW.size)), .inl rfl, .inl rfl, rfl, tt, sp, by rw [rdSp, set_same3 S4.c3]; exact S4⟩)
      clear S4 h8
      go_wp2
      go_ret
      exact unhide HF
    · have i8 : decide ((8 : Int) < (opn.length : Int)) = false := decide_eq_false (by omega)
      cases hct : opn.contains name
      · rw [hct] at HCT
        have H8 := hide h8
        have HEQ : Hid (entOut opn name sp X = match spendX opn sp 1 with | .error e => .error e | .ok s1 => X s1) := hide (if_neg (by rw [hct]; rintro (h | h); exact h8 h; cases h))
        go_wp2_with fail
        refine wp_region_cls (ClsW wx) (by kernel_rfl) (by kernel_rfl) (unhide HX) ?_
        repeat
          (first
            | go_big_quiet_skip
            | (go_big_quiet_want
               go_big_quiet_op
               first
                 | go_big_quiet_on
                 | (apply Exists.intro
                    refine ⟨fun w' hC => ?_, ?_⟩
                    · (first
                        | (go_at_call 166; refine (unhide HCT _ hC).mono ?_; rintro e w3 ⟨rfl, rfl⟩; exact ⟨rfl, hC⟩)
                        | (obtain ⟨k0, k1⟩ := unhide HCE _ hC; go_simp; first | done | rfl))
                    go_big_quiet_on)))
        refine wpQuiet_nil ?_
        intro w4 hC4
        have hb4 := hC4.bel
        have S4 := (unhide HS1).on hb4
        have hb04 : Below w.heap.size w w4 := hbW.trans (hb4.mono hbW.size)
        have HK4 := hide (ExpK.below (q := q) (p := p) (vt := vt) (vo := .slice ao opn.length co) hb04)
        have HBT4 := hide (keptC hb4 (unhide HBT))
        have HC14 := hide (keptC hb4 (unhide HC1))
        have HSP := hide (spend_any C B q p m flat vt _ tt opn sp ents c 1 w4 S4 (by omega))
        clear S4 h8 HX HCE HCT hct HS1 HBT HC1 hC4 hb4
        go_wp2_with fail
        refine (unhide HSP).mono ?_
        intro e w5 ho5
        obtain ⟨K5, ho5⟩ := ho5
        cases hx : spendX opn sp 1 with
        | error k =>
          rw [hx] at ho5
          obtain ⟨rfl, n', hp5⟩ := ho5
          obtain rfl : k = 6 := by
            unfold spendX at hx
            split at hx
            · cases hx
            · split at hx
              · cases hx; rfl
              · cases hx
          have HF := hide (show AddOut (entOut opn name sp X) C B q p m flat vt (.slice ao opn.length co) tt opn ents c (.returned (.int .i64 6)) w w5 from by
            rw [unhide HEQ, hx]
            exact ⟨_, _, (unhide HK4).trans (.inl rfl) (.inl rfl) K5, .inl rfl, .inl rfl, rfl, tt, n', hp5⟩)
          clear hx hp5 K5 HEQ
          go_wp2
          go_ret
          exact unhide HF
        | ok sp1 =>
          rw [hx] at ho5
          obtain ⟨rfl, S5⟩ := ho5
          have hnew : ∀ k, w.heap.size ≤ k → k < w4.heap.size → w5.heap[k]? = w4.heap[k]? := fun k h1 h2 => K5.block k h2 (by omega) (by omega) (fun e => by have := unhide HVT k e; omega) (fun e => by have := unhide HVO k e; omega)
          have hlw4 : w.heap.size < w4.heap.size := block_lt_of_cell (unhide HC14)
          have HC15 : Hid (w5.cell? ⟨w.heap.size, 1, none⟩ = some (.string (T name))) := hide ((cellW_same (hnew _ (Nat.le_refl _) hlw4) 1).trans (unhide HC14))
          have HBT5 : Hid (w5.cell? ⟨b, 0, none⟩ = some (.string (T t))) := hide ((cellW_same (hnew b hbw (block_lt_of_cell (unhide HBT4))) 0).trans (unhide HBT4))
          have HK5 := hide ((unhide HK4).trans (.inl rfl) (.inl rfl) K5)
          have HS5 := hide S5
          have c35 : w5.cell? ⟨q, 3, none⟩ = some (.slice ao opn.length co) := blk_cell S5.blk 3
          have o35 := blk_open S5.blk 3
          have c15 := unhide HC15
          have hsz5 : w.heap.size < w5.heap.size := block_lt_of_cell c15
          have hq5 : q < w5.heap.size := by omega
          obtain ⟨i0, hi, hz0, hz1, hz2⟩ := info_parts infoStrE
          have hself := Below.refl w5.heap.size w5
          have hCw := unhide HCW
          have HBK : Hid (∀ W, ExpK q p vt (.slice ao opn.length co) w5 W → W.cell? ⟨b, 0, none⟩ = some (.string (T t))) := hide fun W hW => (cellW_same (hW.block b (block_lt_of_cell (unhide HBT5)) (by omega) (by omega) (fun e => by have := unhide HVT b e; omega) (fun e => by have := unhide HVO b e; omega)) 0).trans (unhide HBT5)
          clear S5 K5 HSP HBT4 HC14 HK4 hnew hlw4
          go_wp2_with fail
          go_cut [] (fun w7 => ∃ v7, ExpS w7 C B q p m flat vt v7 tt (opn ++ [name]) sp1 ents (rdSp c sp1) ∧ ExpK q p vt (.slice ao opn.length co) w5 w7 ∧ Fresh w5 (.slice ao opn.length co) v7 ∧ w7.cell? ⟨b, 0, none⟩ = some (.string (T t)))
          case first =>
            go_region_law (refine step_append_own_at rfl (.tmp 67) (.tmp 70) 45 rfl C 9 i0 _ 1 16 Tryz.underlying45 hi hz0 hz1 hz2 rfl (by decide) (.slice ao opn.length co) opn.length (opnRow opn) rfl (owns_below (unhide HS5).opn (by (repeat first | with_reducible exact hself | refine Below.drew ?_ | refine Below.alloc ?_ (by simp) _))) _ 1 1 [.string (T name)] rfl rfl (news1E (by simp [go_sem])) (fun u hu => by simp at hu; subst hu; rfl) (by unfold maxLen; omega) (by omega) (by simp; omega) ?_; intro v' w' hown hgrow hat; obtain ⟨a6, b6, rfl⟩ := owns_slice hown; have hR := (unhide HS5).opened (by (repeat first | with_reducible exact hself | refine Below.drew ?_ | refine Below.alloc ?_ (by simp) _)) hgrow hown hat; have c3' : w'.cell? ⟨q, 3, none⟩ = some (.slice ao opn.length co) := blk_cell hR.1 3; have o3' := blk_open hR.1 3)
            all_goals have HRR := hide hR
            all_goals clear hR hown hgrow hat
            all_goals (try go_wp2_with fail)
            all_goals go_meet
            all_goals exact ⟨_, (unhide HRR).2.1, (unhide HRR).2.2.1, (unhide HRR).2.2.2, unhide HBK _ (unhide HRR).2.2.1⟩
          case rest =>
            rename World => w7
            obtain ⟨v7, S7, K7, F7, hbt7⟩ := hcut
            have HK7 := hide ((unhide HK5).trans (.inl rfl) (.inl rfl) K7)
            have HF7 := hide (Fresh.trans (v := .slice ao opn.length co) (v1 := .slice ao opn.length co) (unhide HK5).size (.inl rfl) F7)
            have HTT := hide (unhide HTX w7 vt v7 sp1 _ S7 hx (unhide H8) (unhide HK7) rfl (unhide HF7))
            clear S7 K7 F7 HTX HBK c35 o35 c15 HBT5 HC15 HS5 hself
            go_wp2_with fail
            refine (unhide HTT).mono ?_
            intro e w8 ho8
            obtain ⟨k8, vt8, vo8, tt8, n8, rfl, K8, Ft8, Fo8, S8, hor⟩ := ho8.any
            have hvo8 := S8.opn
            obtain ⟨a8, co8, rfl⟩ := owns_slice hvo8
            have c38 : w8.cell? ⟨q, 3, none⟩ = some (.slice a8 (opn ++ [name]).length co8) := blk_cell S8.blk 3
            have o38 := blk_open S8.blk 3
            have hlen : (opn ++ [name]).length = opn.length + 1 := by simp
            rw [hlen] at c38
            have hcap : opn.length + 1 ≤ co8 := by
              rcases hvo8.2 with ⟨e, h0⟩ | ⟨g, cap, cur, e, _, _, h4, _⟩
              · simp at h0
              · cases e; rw [← hlen]; exact h4
            obtain ⟨S9, K9⟩ := S8.ended
            replace S9 := S9.on (Below.refl _ _).drew
            replace K9 := K9.trans (.inl rfl) (.inl rfl) (ExpK.below (Below.refl _ _).drew)
            have Ft := Fresh.trans (unhide HK7).size (.inl rfl) Ft8
            have Fo := Fresh.trans (unhide HK7).size (unhide HF7) Fo8
            have hob : Value.ownBlock (.slice a8 opn.length co8) = Value.ownBlock (.slice a8 (opn ++ [name]).length co8) := by cases a8 <;> rfl
            have Fo' : Fresh w (.slice ao opn.length co) (.slice a8 opn.length co8) := by
              unfold Fresh
              rw [hob]
              exact Fo
            have HF := hide (show AddOut (entOut opn name sp X) C B q p m flat vt (.slice ao opn.length co) tt opn ents c (.returned (.int .i64 (k8 : Nat))) w (w8.setCell ⟨q, 3, none⟩ (.slice a8 opn.length co8)).drew from by
              rw [unhide HEQ, hx]
              rw [rdSp_twice] at S9
              refine ⟨vt8, .slice a8 opn.length co8, ((unhide HK7).trans (.inl rfl) (unhide HF7) K8).trans Ft Fo K9, Ft, Fo', ?_⟩
              simp only
              rcases hor with ⟨t', h1, h2, h3⟩ | h1
              · rw [h1, h3]
                exact ⟨rfl, by rw [← h2]; exact S9⟩
              · rw [h1]
                exact ⟨rfl, tt8, n8, S9⟩)
            obtain ⟨L, hL⟩ : ∃ L : Nat, opn.length = L := ⟨_, rfl⟩
            have HL := hide hL
            rw [hL] at c38 hcap
            have hcap' : L ≤ co8 := by omega
            obtain ⟨hwr1, hwr2, hwr3⟩ := wrapL L (by omega)
            clear S8 S9 K8 K9 Ft8 Fo8 Ft Fo Fo' hob hor hvo8 HTT HK7 HF7 hlen hL hx
            go_wp2_with fail
            go_region
            all_goals go_wp2_with fail
            all_goals go_ret
            all_goals (rw [← unhide HL]; exact unhide HF)
      · rw [hct] at HCT
        go_wp2_with fail
        refine wp_region_cls (ClsW wx) (by kernel_rfl) (by kernel_rfl) (unhide HX) ?_
        repeat
          (first
            | go_big_quiet_skip
            | (go_big_quiet_want
               go_big_quiet_op
               first
                 | go_big_quiet_on
                 | (apply Exists.intro
                    refine ⟨fun w' hC => ?_, ?_⟩
                    · (first
                        | (go_at_call 166; refine (unhide HCT _ hC).mono ?_; rintro e w3 ⟨rfl, rfl⟩; exact ⟨rfl, hC⟩)
                        | (obtain ⟨k0, k1⟩ := unhide HCE _ hC; go_simp; first | done | rfl))
                    go_big_quiet_on)))
        refine wpQuiet_nil ?_
        intro w4 hC4
        have hb4 := hC4.bel
        have S4 := (unhide HS1).on hb4
        have HF := hide (show AddOut (entOut opn name sp X) C B q p m flat vt (.slice ao opn.length co) tt opn ents c (.returned (.int .i64 6)) w w4 from by
          unfold entOut
          rw [if_pos (.inr hct)]
          exact ⟨_, _, ExpK.below (hbW.trans (hb4.mono hbW.size)), .inl rfl, .inl rfl, rfl, tt, sp, by rw [rdSp, set_same3 S4.c3]; exact S4⟩)
        clear S4 h8
        go_wp2
        go_ret
        exact unhide HF
end Go.Proofs.YtefjfjieoiegnaaGreatDoor
