/- Several texts, laid as one. -/
import Derived.Test.YtjjggncbhenffaaGreatDoorGap
/- The nodes of a tag's attributes: xdm's attributes. -/
namespace Go.Proofs.YtjjggncbhenffaaGreatDoor
open Go.RowKit Go.Maps
/-- A name that may be a key. -/
structure OkNm (n : Nm) : Prop where
  u : okL n.uri
  l : okL n.loc
  un : (T n.uri).size ≤ 1048576
  ln : (T n.loc).size ≤ 1048576
theorem lookS_ok {s : Sc} (h : OkSc s) {p u : List Nat} (hl : lookS s p = some u) : okL u ∧ (T u).size ≤ 1048576 := by
  unfold lookS at hl
  obtain ⟨x, hx, rfl⟩ := Option.map_eq_some_iff.1 hl
  have := h x (List.mem_of_find?_eq_some hx)
  exact ⟨this.1.2, this.2.2⟩
theorem splitQ_size2 (q : List Nat) : (T (splitQ q).2).size ≤ (T q).size := by
  unfold splitQ
  split
  · show (T (q.dropWhile (· != 58)).tail).size ≤ _
    obtain ⟨a, ha⟩ : ∃ a, q = a ++ (q.dropWhile (· != 58)).tail := by
      have h1 := List.takeWhile_append_dropWhile (p := (· != 58)) (l := q)
      cases hd : q.dropWhile (· != 58) with
      | nil => exact ⟨q, by simp⟩
      | cons c t =>
        rw [hd] at h1
        exact ⟨q.takeWhile (· != 58) ++ [c], by rw [List.append_assoc]; exact h1.symm⟩
    conv => rhs; rw [ha]
    rw [T_size, T_size, tx_len_app]
    omega
  · exact Nat.le_refl _
theorem expandD_ok {s : Sc} (h : OkSc s) {q : List Nat} {n : Nm} (hq : okL q) (hz : (T q).size ≤ 1048576) (he : expandD s q = some n) : OkNm n := by
  obtain ⟨h1, h2⟩ := splitQ_ok hq
  have h3 := splitQ_size2 q
  unfold expandD at he
  split at he
  · cases he
    exact ⟨uri_ok, h2, by rw [T_uri]; decide, by show (T (splitQ q).2).size ≤ _; omega⟩
  · split at he
    · rename_i u hu
      cases he
      obtain ⟨h4, h5⟩ := lookS_ok h hu
      exact ⟨h4, h2, h5, by show (T (splitQ q).2).size ≤ _; omega⟩
    · split at he
      · cases he
        exact ⟨okL_e, h2, Nat.zero_le _, by show (T (splitQ q).2).size ≤ _; omega⟩
      · cases he
theorem expandA_ok {s : Sc} (h : OkSc s) {q : List Nat} {n : Nm} (hq : okL q) (hz : (T q).size ≤ 1048576) (he : expandA s q = some n) : OkNm n := by
  unfold expandA at he
  split at he
  · cases he
    exact ⟨okL_e, hq, Nat.zero_le _, hz⟩
  · exact expandD_ok h hq hz he
theorem OkNm.key {n : Nm} (h : OkNm n) (t : List Nat) : OkKey (keyN (attrN n t)) := ⟨h.u, h.l, h.un, h.ln⟩
theorem grow_cell {W w2 : World} {row : Option Nat} (hg : W.grownBy w2 row) {g i : Nat} {v : Value} (h : W.cell? ⟨g, i, none⟩ = some v) (hne : row ≠ some g) : w2.cell? ⟨g, i, none⟩ = some v := by
  obtain ⟨c, t, z, hc, hi⟩ := cell_blk h
  rw [blk_cell (z := z) (by rw [hg.block g (Array.getElem?_eq_some_iff.1 hc).1 (fun e => hne e.symm)]; exact hc)]
  exact hi
theorem wfI {k : Nat} (h : k ≤ 1000) : (Lit.int .i64 (k : Nat)).wf = true := by
  have h1 : IntKind.i64.min = -9223372036854775808 := by decide
  have h2 : IntKind.i64.max = 9223372036854775807 := by decide
  simp only [Lit.wf, Bool.and_eq_true, decide_eq_true_eq]
  rw [h1, h2]
  omega
def nilsV (r : List XNode) : List Value := r.map fun _ => Value.map none
theorem nodes_nils {w : World} {B : Nat} {vr : Value} {r : List XNode} (h : w.ownsRow B 69 9 vr r.length (nodeRow r (nilsV r))) (hn : ∀ x ∈ r, x.scope = []) : Nodes w B vr r := by
  refine ⟨nilsV r, List.length_map .., h, fun i x v hx hv => ?_⟩
  rw [hn x (List.mem_of_getElem? hx)]
  unfold nilsV at hv
  rw [List.getElem?_map, hx] at hv
  cases hv
  exact ScV.nil w B
/-- Where the loop stands. -/
structure AttrInv (w : World) (s : Sc) (l : List (List Nat × List Nat)) (k : Nat) (r : List XNode) (vr : Value) (w' : World) : Prop where
  le : k ≤ l.length
  bel : Below w.heap.size w w'
  spec : attrsN s l = (attrsN s (l.drop k)).map (r ++ ·)
  row : w'.ownsRow w.heap.size 69 9 vr r.length (nodeRow r (nilsV r))
  nils : ∀ x ∈ r, x.scope = []
  known : KnownAt w' w.heap.size (r.map keyN)
  len : r.length ≤ k
def AttrOut (w' : World) (C : Nat) (o : Except Nat (List XNode)) (e : Ending) : Prop := match o with
  | .error n => e = .returned (.tuple #[.slice none 0 0, .int .i64 (n : Nat)])
  | .ok r => ∃ vr, e = .returned (.tuple #[vr, .int .i64 0]) ∧ Nodes w' C vr r
set_option maxRecDepth 100000 in
set_option maxHeartbeats 4000000 in
theorem scAttributes_any (B : Nat) (v va : Value) (s : Sc) (l : List (List Nat × List Nat)) (w : World) (hv : ScV w B v s) (ha : PairsArg w va (pairsT l)) (hl : OkAt l) (hq : ∀ x ∈ l, isQ x.1 = true) (hn : l.length ≤ 1000) (hE : Env w) :
    Calls Tryz.prog 105 #[v, va] w fun e w' => AttrOut w' w.heap.size (attributesD s l) e ∧ Below w.heap.size w w' := by
  have HV := hide hv
  have HA := hide ha
  have HL := hide hl
  have HQ := hide hq
  have HE := hide hE
  have hpl : (pairsT l).length = l.length := List.length_map ..
  obtain ⟨aa, cap, rfl, _⟩ := ha
  rw [hpl] at HA ⊢
  obtain ⟨m, rfl⟩ := hv.one
  have hmk : ∀ W : World, (Instr.makeMap 169 none).run Tryz.prog W = .ok (.map (some W.heap.size)) (W.alloc (.map #[] 0)) := fun W => rfl
  have HI0 : Hid (AttrInv w s l 0 [] (.slice none 0 0) (w.alloc (.map #[] 0))) := hide ⟨Nat.zero_le _, (Below.refl _ _).alloc (Nat.le_refl _) _, by show attrsN s l = (attrsN s l).map (fun x => x); cases attrsN s l <;> rfl, World.ownsRow_nil _ _ _ _, (fun _ h => by cases h), KnownAt.made w, Nat.le_refl _⟩
  clear hv hl hq hE
  go_enter Tryz.func105, Tryz.ntmps105
  go_wp2_with fail
  clear hmk
  go_loopw [6, 17] (fun vr i wr => ∃ (k : Nat) (r : List XNode), i = .int .i64 (k : Nat) ∧ AttrInv w s l k r vr wr) (fun _ i _ => l.length - (intOf i).toNat)
  case atStart => exact ⟨0, [], rfl, unhide HI0⟩
  case round =>
    clear HI0
    obtain ⟨k, r, rfl, hI⟩ := hrel
    have hk := hI.le
    by_cases hlt : k < l.length
    · obtain ⟨x, hx⟩ : ∃ x, l[k]? = some x := ⟨l[k], List.getElem?_eq_getElem hlt⟩
      have hxm := List.mem_of_getElem? hx
      obtain ⟨⟨hx1, hx2⟩, hz1, hz2⟩ := unhide HL x hxm
      have hxq := unhide HQ x hxm
      obtain ⟨a', cap', he, hcells⟩ := (unhide HA).below hI.bel
      obtain ⟨g, o, ha, hc⟩ := hcells (by intro h0; rw [List.map_eq_nil_iff] at h0; rw [h0] at hlt; cases hlt)
      rw [hpl] at he
      cases he
      subst ha
      obtain ⟨c0, c1⟩ := hc k (T x.1, T x.2) (by rw [List.getElem?_map, hx]; rfl)
      simp only at c0 c1
      have n1 : (0 : Int) ≤ (k : Int) := by omega
      have n2 : (k : Int) < (l.length : Int) := by omega
      have hdr : l.drop k = x :: l.drop (k + 1) := by
        rw [← List.getElem_cons_drop hlt]
        congr 1
        exact (List.getElem?_eq_some_iff.1 hx).2
      have hspec := hI.spec
      rw [hdr, attrsN] at hspec
      have hbA : Below wr.heap.size wr (wr.alloc (.cells #[.string (T x.1), .string (T x.2)] 36 (0, 0))) := (Below.refl _ _).alloc (Nat.le_refl _) _
      have hb0 := Below.then hI.bel hbA
      have HI := hide hI
      have HDC := hide (fun W => declared_any x.1 W hx1)
      obtain ⟨ar, cr, e6⟩ : ∃ ar cr, u6 = .slice ar r.length cr := owns_slice hI.row
      subst e6
      clear hc hI hcells hdr hx hxm
      cases hdc : declD x.1 with
      | some p =>
        have HV2 : Hid (declV x.1 = .tuple #[.string (T p), .bool true]) := hide (by unfold declV; rw [hdc])
        rw [unhide HV2] at HDC
        rw [hdc] at hspec
        have HSP := hide hspec
        clear hdc hspec HV2
        go_wp2_with fail
        refine (unhide HDC _).mono ?_
        rintro e w1 ⟨rfl, rfl⟩
        go_wp2_with fail
        have h := unhide HI
        exact ⟨⟨k + 1, r, by simp, ⟨hlt, hb0, unhide HSP, owns_below h.row hbA, h.nils, h.known.kept (fun es c hh => block_below hh hbA), by have := h.len; omega⟩⟩, by simp [intOf]; omega⟩
      | none =>
        have HV2 : Hid (declV x.1 = .tuple #[.string (T x.1), .bool false]) := hide (by unfold declV; rw [hdc])
        rw [unhide HV2] at HDC
        rw [hdc] at hspec
        have HEA := hide (fun W (hb : Below (wr.alloc (.cells #[.string (T x.1), .string (T x.2)] 36 (0, 0))).heap.size (wr.alloc (.cells #[.string (T x.1), .string (T x.2)] 36 (0, 0))) W) => expandA_any B (.map m) s x.1 W (((unhide HV).on hb0).on hb) hx1 hxq hz1 (((unhide HE).below hb0).below hb))
        clear hdc HV2
        cases hex : expandA s x.1 with
        | none =>
          rw [hex] at HEA hspec
          have HSP : Hid (attributesD s l = .error 7) := hide (by unfold attributesD; rw [hspec]; rfl)
          clear hex hspec
          have HEA' : Hid (∀ W, Below (wr.alloc (.cells #[.string (T x.1), .string (T x.2)] 36 (0, 0))).heap.size (wr.alloc (.cells #[.string (T x.1), .string (T x.2)] 36 (0, 0))) W → Calls Tryz.prog 147 #[.map m, .string (T x.1)] W fun e w' => e = .returned (.tuple #[.agg #[.string ⟨#[]⟩, .string ⟨#[]⟩, .string ⟨#[]⟩], .bool false]) ∧ Below W.heap.size W w') := hide (unhide HEA)
          clear HEA
          go_wp2_with fail
          refine (unhide HDC _).mono ?_
          rintro e w1 ⟨rfl, rfl⟩
          go_wp2_with fail
          refine (unhide HEA' _ (Below.refl _ _)).mono ?_
          rintro e w1 ⟨rfl, hb1⟩
          have hb01 := Below.then hb0 hb1
          go_wp2
          go_returns
          rw [unhide HSP]
          exact ⟨rfl, hb01.alloc hb01.size _⟩
        | some n =>
          rw [hex] at HEA hspec
          have hnm := expandA_ok (unhide HV).1 hx1 hz1 hex
          have HSP : Hid (attrsN s l = (attrsN s (l.drop (k + 1))).map ((r ++ [attrN n x.2]) ++ ·)) := hide (by
            rw [hspec]
            cases attrsN s (l.drop (k + 1)) with
            | none => rfl
            | some q => simp)
          clear hex hspec
          have HEA' : Hid (∀ W, Below (wr.alloc (.cells #[.string (T x.1), .string (T x.2)] 36 (0, 0))).heap.size (wr.alloc (.cells #[.string (T x.1), .string (T x.2)] 36 (0, 0))) W → Calls Tryz.prog 147 #[.map m, .string (T x.1)] W fun e w' => e = .returned (.tuple #[.agg #[.string (T n.uri), .string (T n.pre), .string (T n.loc)], .bool true]) ∧ Below W.heap.size W w') := hide (unhide HEA)
          clear HEA
          have d1 : (wr.alloc (.cells #[.string (T x.1), .string (T x.2)] 36 (0, 0))).cell? ⟨wr.heap.size, 1, none⟩ = some (.string (T x.2)) := by simp [go_sem]
          have HD1 := hide d1
          clear d1
          go_wp2_with fail
          refine (unhide HDC _).mono ?_
          rintro e w1 ⟨rfl, rfl⟩
          go_wp2_with fail
          refine (unhide HEA' _ (Below.refl _ _)).mono ?_
          rintro e w1 ⟨rfl, hb1⟩
          have hb01 := Below.then hb0 hb1
          have d1 := keptC hb1 (unhide HD1)
          have hsz1 : wr.heap.size < w1.heap.size := by have := hb1.size; simp at this; omega
          have h := unhide HI
          have hrow := owns_below (owns_below h.row hbA) hb1
          have hlen := h.len
          have hrowb : ∀ k, (Value.slice ar r.length cr).ownBlock = some k → k < w1.heap.size ∧ w.heap.size ≤ k := fun k hk => ⟨(hrow.lt k hk).2, (hrow.lt k hk).1⟩
          have hN1 : Below w1.heap.size w1 (w1.alloc (.cells #[.string (T n.uri), .string (T n.pre), .string (T n.loc)] 47 (0, 0))) := (Below.refl _ _).alloc (Nat.le_refl _) _
          have HROW := hide (owns_below hrow hN1)
          have HRB := hide hrowb
          have hkn := (h.known.kept (w' := w1) (fun es c hh => block_below (block_below hh hbA) hb1))
          obtain ⟨D, hD, hh1, hh2, hh3⟩ := hkn
          have HD := hide hD
          have HH1 := hide hh1
          have HH2 := hide hh2
          have HH3 := hide hh3
          have hml : (r.map keyN).length = r.length := List.length_map ..
          have HKY := hide (keyL_eq (hnm.key x.2))
          have HPE : Hid (plainElem (H := Unit) Tryz.prog 3 (.int .i64 (k : Nat)) = some (.lit (.int .i64 (k : Nat)), [])) := hide (plainElem_int Tryz.underlying3 (wfI (by omega)))
          obtain ⟨j0, hj, hy0, hy1, hy2⟩ := info_parts infoNode
          have hsz0 := hb01.size
          have HNE : Hid (some w.heap.size ≠ (Value.slice ar r.length cr).ownBlock) := hide (fun e => by
            obtain ⟨c, hc⟩ := owns_type hrow e.symm
            obtain ⟨es, clock, hm, _⟩ := hD
            rw [hc] at hm
            cases hm)
          have hmlen : (r.map keyN).length < maxLen := by rw [hml]; unfold maxLen; omega
          have hsz1' : w.heap.size < w1.heap.size := hD.lt
          clear h hrow hrowb hD hh1 hh2 hh3
          go_wp2_with (first
            | (at_builtin; refine wpList_append_own _ rfl _ _ 62 rfl w.heap.size 69 j0 _ 9 104 Tryz.underlying62 hj hy0 hy1 hy2 rfl (by decide) _ r.length (nodeRow r (nilsV r)) rfl (owns_below (unhide HROW) ((Below.refl _ _).alloc (Nat.le_refl _) _)) ⟨w1.heap.size + 1, 0, none⟩ 1 1 [.int .i64 3, .string (T n.uri), .string (T n.pre), .string (T n.loc), .string (T x.2), .int .i64 0, .int .i64 0, .int .i64 0, .map none] rfl rfl (news9 (by simp [go_sem]) (by simp [go_sem]) (by simp [go_sem]) (by simp [go_sem]) (by simp [go_sem]) (by simp [go_sem]) (by simp [go_sem]) (by simp [go_sem]) (by simp [go_sem])) (fun u hu => by simp at hu; rcases hu with rfl | rfl | rfl | rfl | rfl | rfl | rfl | rfl | rfl <;> rfl) (by unfold maxLen; omega) (by omega) (by simp; omega) ?_; intro v7 w7 hown7 hgrow7 _; obtain ⟨a7, k7, rfl⟩ := owns_slice hown7; have q0 : w7.cell? ⟨w1.heap.size, 0, none⟩ = some (.string (T n.uri)) := grow_cell hgrow7 (by simp [go_sem]) (fun e => by have := (unhide HRB _ e).1; omega); have q2 : w7.cell? ⟨w1.heap.size, 2, none⟩ = some (.string (T n.loc)) := grow_cell hgrow7 (by simp [go_sem]) (fun e => by have := (unhide HRB _ e).1; omega); have HD7 := hide ((((unhide HD).alloc (.cells #[.string (T n.uri), .string (T n.pre), .string (T n.loc)] 47 (0, 0))).alloc (.cells ([.int .i64 3, .string (T n.uri), .string (T n.pre), .string (T n.loc), .string (T x.2), .int .i64 0, .int .i64 0, .int .i64 0, .map none] : List Value).toArray 69 (0, 0))).kept hgrow7 (unhide HNE)); have HG7 := hide hgrow7; have HO7 := hide hown7; clear hgrow7 hown7)
            | (at_mapUpdate; refine wpList_mapUpdate_own _ rfl _ _ _ 169 rfl 47 3 nmKeyed Tryz.underlying169 (plainElem Tryz.prog 3) w.heap.size (r.map keyN).length D rfl (unhide HD7) hmlen _ _ (keyL (keyN (attrN n x.2))) rfl rfl (unhide HKY) (.lit (.int .i64 (k : Nat))) [] (unhide HPE) ?_; intro w8 hown8 hgrow8; go_frame))
          have h := unhide HI
          have hg7 := unhide HG7
          have hb7 : Below w.heap.size w w7 := ((hb01.alloc hb01.size _).alloc (by simp; omega) _).grown hg7 (by simp; omega) (fun j hj => (unhide HRB j hj).2)
          have hb8 : Below w.heap.size w w8 := hb7.grown hgrow8 hb7.size (fun j hj => by cases hj; exact Nat.le_refl _)
          have hrow7 : w7.ownsRow w.heap.size 69 9 (.slice a7 (r.length + 1) k7) (r.length + 1) (nodeRow r (nilsV r) ++ nodeCells (attrN n x.2) (.map none)) := unhide HO7
          have hrow8 := hrow7.kept hgrow8 (.inr (fun e => by
            obtain ⟨c, hc⟩ := owns_type hrow7 e
            obtain ⟨es, clock, hm, _⟩ := unhide HD7
            rw [hc] at hm
            cases hm))
          have hkn8 := KnownAt.put (unhide HD7) (unhide HH1) (unhide HH2) (unhide HH3) (hnm.key x.2) hown8
          refine ⟨⟨k + 1, r ++ [attrN n x.2], by simp, ⟨hlt, hb8, unhide HSP, ?_, ?_, ?_, ?_⟩⟩, by simp [intOf]; omega⟩
          · have e : nilsV (r ++ [attrN n x.2]) = nilsV r ++ [Value.map none] := by unfold nilsV; rw [List.map_append]; rfl
            rw [e, nodeRow_snoc r (nilsV r) _ _ (List.length_map ..), List.length_append]
            exact hrow8
          · intro y hy
            rcases List.mem_append.1 hy with hy | hy
            · exact h.nils y hy
            · rw [List.mem_singleton.1 hy]; rfl
          · rw [List.map_append]
            exact hkn8
          · rw [List.length_append]
            show r.length + 1 ≤ k + 1
            omega
    · have n2 : ¬ (k : Int) < (l.length : Int) := by omega
      have hkl : k = l.length := by omega
      have hsp := hI.spec
      rw [hkl, List.drop_length] at hsp
      have HSP : Hid (attrsN s l = some r) := hide (by rw [hsp]; show some (r ++ []) = some r; rw [List.append_nil])
      have HI := hide hI
      obtain ⟨D, hD, _, hh2, hh3⟩ := hI.known
      have hlm := fun ty => hD.len Tryz.underlying169 ty
      obtain ⟨ar, cr, e6⟩ : ∃ ar cr, u6 = .slice ar r.length cr := owns_slice hI.row
      subst e6
      by_cases hnd : (r.map keyN).Nodup
      · have HO : Hid (attributesD s l = .ok r) := hide (by unfold attributesD; rw [unhide HSP]; simp only; rw [if_pos hnd])
        have hsz : decide (Maps.size D < r.length) = false := decide_eq_false (by have := hh2 hnd; rw [List.length_map] at this; omega)
        clear hI hsp hkl hnd hh2 hh3 hD
        go_wp2
        go_returns
        rw [unhide HO]
        exact ⟨⟨_, rfl, nodes_nils (unhide HI).row (unhide HI).nils⟩, (unhide HI).bel⟩
      · have HO : Hid (attributesD s l = .error 8) := hide (by unfold attributesD; rw [unhide HSP]; simp only; rw [if_neg hnd])
        have hsz : decide (Maps.size D < r.length) = true := decide_eq_true (by have := hh3 hnd; rw [List.length_map] at this; omega)
        clear hI hsp hkl hnd hh2 hh3 hD
        go_wp2
        go_returns
        rw [unhide HO]
        exact ⟨rfl, (unhide HI).bel⟩
end Go.Proofs.YtjjggncbhenffaaGreatDoor
/- A builder's methods: finish, placed, leaf. -/
namespace Go.Proofs.YtjjggncbhenffaaGreatDoor
open Go.RowKit
set_option maxRecDepth 100000 in
set_option maxHeartbeats 4000000 in
theorem finish_any (B p : Nat) (vn vo : Value) (s : BS) (w : World) (H : Bd w B p vn vo s) (ho : s.opn ≠ []) (hi : s.inner < s.nodes.length) (hn : s.nodes.length ≤ 1000000) (hon : s.opn.length ≤ 1000000) :
    Calls Tryz.prog 35 #[.pointer (some ⟨p, 0, none⟩)] w fun e w' => e = .returned (.tuple #[]) ∧ ∃ vn' vo', BdTo B p vn vo w w' vn' vo' s.finish := by
  have hpos : 0 < s.opn.length := List.length_pos_iff.2 ho
  obtain ⟨k, hk⟩ : ∃ k, k + 1 = s.opn.length := ⟨s.opn.length - 1, by omega⟩
  obtain ⟨vs, h1, h2, h3⟩ := H.nodes
  obtain ⟨g, cn, rfl, hcn, _, hg, hcn2, hfz⟩ := owns_cells h2 (by omega)
  obtain ⟨go, co, rfl, hco, _, hgo, hcell, _⟩ := owns_cells H.opn hpos
  have hlast : s.opn[k]? = some s.inner := by
    unfold BS.inner
    rw [List.getLastD_eq_getLast?, List.getLast?_eq_getElem?, show s.opn.length - 1 = k by omega]
    rw [List.getElem?_eq_getElem (by omega)]
    rfl
  have cl : w.cell? ⟨go, k, none⟩ = some (.int .i64 (s.inner : Nat)) := hcell k _ (by unfold intRow; rw [List.getElem?_map, hlast]; rfl)
  have c0 : w.cell? ⟨p, 0, none⟩ = some (.slice (some ⟨g, 0, none⟩) s.nodes.length cn) := blk_cell H.blk 0
  have c1 : w.cell? ⟨p, 1, none⟩ = some (.slice (some ⟨go, 0, none⟩) s.opn.length co) := blk_cell H.blk 1
  have o1 := blk_open H.blk 1
  have of := hfz (s.inner * 9 + 6)
  obtain ⟨x, hx⟩ : ∃ x, s.nodes[s.inner]? = some x := ⟨s.nodes[s.inner], List.getElem?_eq_getElem hi⟩
  obtain ⟨u, hu⟩ : ∃ u, vs[s.inner]? = some u := ⟨vs[s.inner], List.getElem?_eq_getElem (by omega)⟩
  have cf : w.cell? ⟨g, s.inner * 9 + 6, none⟩ = some (.int .i64 (x.fin : Nat)) := hcn2 _ _ (nodeRow_get s.nodes vs s.inner x u 6 hx hu (by decide))
  have HE := hide (H.ended hi hk)
  have HGP : Hid (p ≠ g) := hide fun e => owns_not h2 H.blk (by decide) (by rw [e]; rfl)
  clear h1 h2 h3 hfz hcell hlast H hcn2 hx hu
  rw [← hk] at c1 HE hon hco ⊢
  clear hpos ho hk
  have m1 : (s.inner : Int) < (s.nodes.length : Int) := by omega
  have m2 : (0 : Int) ≤ (s.inner : Int) := by omega
  have m3 : (k : Int) < ((k + 1 : Nat) : Int) := by omega
  have m4 : (0 : Int) ≤ (k : Int) := by omega
  generalize s.inner = i at *
  generalize s.nodes.length = n at *
  go_enter Tryz.func35, Tryz.ntmps35
  go_wp2_with fail
  go_region
  have hgp : p ≠ g := unhide HGP
  have c1' : (w.setCell ⟨g, i * 9 + 6, none⟩ (.int .i64 (n : Nat))).cell? ⟨p, 1, none⟩ = some (.slice (some ⟨go, 0, none⟩) (k + 1) co) := by
    unfold World.cell? at c1 ⊢
    rw [blk_other hgp]
    exact c1
  have o1' : (w.setCell ⟨g, i * 9 + 6, none⟩ (.int .i64 (n : Nat))).frozen? ⟨p, 1, none⟩ = false := by
    unfold World.frozen? at o1 ⊢
    rw [blk_other hgp]
    exact o1
  have m5 : (k : Int) ≤ (co : Int) := by omega
  clear c1 o1 c0
  go_wp2_with fail
  go_returns
  exact ⟨rfl, _, _, (unhide HE).then (BdTo.still (unhide HE).bd (Below.refl _ _).drew)⟩
set_option maxRecDepth 100000 in
set_option maxHeartbeats 4000000 in
theorem placed_any (B p : Nat) (vn vo : Value) (m : Option Nat) (s : BS) (x : XNode) (w : World) (H : Bd w B p vn vo s) (ho : s.opn ≠ []) (hon : s.opn.length ≤ 1000000) :
    Calls Tryz.prog 106 #[.pointer (some ⟨p, 0, none⟩), .agg (nodeCells x (.map m)).toArray] w fun e w' => e = .returned (.agg (nodeCells (s.placed x) (.map m)).toArray) ∧ Below w.heap.size w w' := by
  have hpos : 0 < s.opn.length := List.length_pos_iff.2 ho
  obtain ⟨k, hk⟩ : ∃ k, k + 1 = s.opn.length := ⟨s.opn.length - 1, by omega⟩
  obtain ⟨go, co, rfl, hco, _, hgo, hcell, _⟩ := owns_cells H.opn hpos
  have hlt := H.lt
  have hlast : s.opn[k]? = some s.inner := by
    unfold BS.inner
    rw [List.getLastD_eq_getLast?, List.getLast?_eq_getElem?, show s.opn.length - 1 = k by omega]
    rw [List.getElem?_eq_getElem (by omega)]
    rfl
  have cl : w.cell? ⟨go, k, none⟩ = some (.int .i64 (s.inner : Nat)) := hcell k _ (by unfold intRow; rw [List.getElem?_map, hlast]; rfl)
  have c1 : w.cell? ⟨p, 1, none⟩ = some (.slice (some ⟨go, 0, none⟩) s.opn.length co) := blk_cell H.blk 1
  have HP : Hid (s.placed x = { x with deep := k + 1, parent := (s.inner : Nat) }) := hide (by rw [hk]; rfl)
  clear hcell hlast H
  rw [← hk] at c1 hon hco
  clear hpos ho hk
  have m3 : (k : Int) < ((k + 1 : Nat) : Int) := by omega
  have m4 : (0 : Int) ≤ (k : Int) := by omega
  rw [unhide HP]
  clear HP
  show Calls _ _ #[_, .agg #[.int .i64 (x.kind : Nat), .string (T x.name.uri), .string (T x.name.pre), .string (T x.name.loc), .string (T x.text), .int .i64 x.parent, .int .i64 (x.fin : Nat), .int .i64 (x.deep : Nat), .map m]] w fun e w' => e = .returned (.agg #[.int .i64 (x.kind : Nat), .string (T x.name.uri), .string (T x.name.pre), .string (T x.name.loc), .string (T x.text), .int .i64 (s.inner : Nat), .int .i64 (x.fin : Nat), .int .i64 ((k + 1 : Nat) : Int), .map m]) ∧ Below w.heap.size w w'
  go_enter Tryz.func106, Tryz.ntmps106
  go_wp2_with fail
  go_region
  go_wp2_with fail
  go_returns
  exact ⟨by simp, by (repeat first | with_reducible exact Below.refl _ _ | refine Below.drew ?_ | refine Below.alloc ?_ (by simp) _)⟩
theorem begin_inner (s : BS) (x : XNode) : (s.begin x).inner = s.nodes.length := by
  unfold BS.inner BS.begin
  simp
set_option maxRecDepth 100000 in
set_option maxHeartbeats 4000000 in
theorem leaf_any (B p : Nat) (vn vo v : Value) (s : BS) (x : XNode) (w : World) (H : Bd w B p vn vo s) (hv : ScV w B v x.scope) (ho : s.opn ≠ []) (hn : s.nodes.length ≤ 900000) (hon : s.opn.length ≤ 900000) (hB : B ≤ w.heap.size) :
    Calls Tryz.prog 70 #[.pointer (some ⟨p, 0, none⟩), .agg (nodeCells x v).toArray] w fun e w' => e = .returned (.tuple #[]) ∧ ∃ vn' vo', BdTo B p vn vo w w' vn' vo' (s.leaf x) := by
  obtain ⟨m, rfl⟩ := hv.one
  have HP := hide (fun W (hb : Below w.heap.size w W) => placed_any B p vn vo m s x W (H.on hb) ho (by omega))
  have HBG := hide (fun W (hb : Below w.heap.size w W) => begin_any B p vn vo (.map m) s (s.placed x) W (H.on hb) (show ScV W B (.map m) x.scope from hv.on hb) (by omega) (by omega) (Nat.le_trans hB hb.size))
  have HF := hide (fun W vn' vo' (h : Bd W B p vn' vo' (s.begin (s.placed x))) => finish_any B p vn' vo' (s.begin (s.placed x)) W h (by show s.opn ++ [s.nodes.length] ≠ []; simp) (by rw [begin_inner]; show _ < (s.nodes ++ [s.placed x]).length; simp) (by show (s.nodes ++ [s.placed x]).length ≤ _; rw [List.length_append, List.length_singleton]; omega) (by show (s.opn ++ [s.nodes.length]).length ≤ _; rw [List.length_append, List.length_singleton]; omega))
  have HB := hide H
  have HL : Hid (s.leaf x = (s.begin (s.placed x)).finish) := hide rfl
  clear H hv ho
  show Calls _ _ #[_, .agg #[.int .i64 (x.kind : Nat), .string (T x.name.uri), .string (T x.name.pre), .string (T x.name.loc), .string (T x.text), .int .i64 x.parent, .int .i64 (x.fin : Nat), .int .i64 (x.deep : Nat), .map m]] w _
  have hb0 : Below w.heap.size w (w.alloc (.cells #[.int .i64 (x.kind : Nat), .string (T x.name.uri), .string (T x.name.pre), .string (T x.name.loc), .string (T x.text), .int .i64 x.parent, .int .i64 (x.fin : Nat), .int .i64 (x.deep : Nat), .map m] 69)) := (Below.refl _ _).alloc (Nat.le_refl _) _
  go_enter Tryz.func70, Tryz.ntmps70
  go_wp2_with fail
  refine (unhide HP _ hb0).mono ?_
  rintro e w1 ⟨rfl, hb1⟩
  have hb01 := Below.then hb0 hb1
  go_wp2_with fail
  refine (unhide HBG _ hb01).mono ?_
  rintro e w2 ⟨rfl, vn1, vo1, hto⟩
  have HT := hide hto
  clear hto
  go_wp2_with fail
  refine (unhide HF _ _ _ (unhide HT).bd).mono ?_
  rintro e w3 ⟨rfl, vn2, vo2, hto2⟩
  have HT2 := hide hto2
  clear hto2
  go_wp2
  go_returns
  rw [unhide HL]
  exact ⟨rfl, _, _, ((BdTo.still (unhide HB) hb01).then (unhide HT)).then (unhide HT2)⟩
end Go.Proofs.YtjjggncbhenffaaGreatDoor
