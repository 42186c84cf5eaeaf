/- Several texts, laid as one. -/
import Derived.Test.YtiembljlhmgpjaaGreatDoorGbo
import Derived.DeepKeys4
import Derived.Test.YtiembljlhmgpjaaGreatDoorGbn
/- Names as keys of a map. -/
namespace Go.Proofs.YtiembljlhmgpjaaGreatDoor
open Go.RowKit Go.Maps
theorem nmLaid : laidOutB Tryz.prog = true := by kernel_rfl
theorem nmKeyed : Maps.Keyed Tryz.prog 64 := Keyed.of_law (deep_law_laid nmLaid (m := 2) (by omega) (of_decide_eq_true (by kernel_rfl)) (by kernel_rfl) (by kernel_rfl))
theorem key_some (a b c : ByteArray) (ha : a.size ≤ maxLen) (hb : b.size ≤ maxLen) (hc : c.size ≤ maxLen) : keyOf Tryz.prog 64 (.agg #[.string a, .string b, .string c]) = some (.string (keyBytes [.string a.data.toList, .string b.data.toList, .string c.data.toList])) := by
  have h1 : Tryz.prog.keyType 64 = true := by kernel_rfl
  have h2 : Tryz.prog.cellsOf 64 = 3 := by kernel_rfl
  have h3 : Tryz.prog.cellsOf 9 = 1 := by kernel_rfl
  obtain ⟨n, h4⟩ : ∃ n, Tryz.prog.types.size = n + 1 := ⟨Tryz.prog.types.size - 1, by have : 0 < Tryz.prog.types.size := of_decide_eq_true (by kernel_rfl); omega⟩
  have hs : ∀ (d : Nat) (x : ByteArray), x.size ≤ maxLen → Tryz.prog.keyLits (d + 1) 9 [.string x] = some [.string x.data.toList] := fun d x hx => by
    rw [Program.keyLits]
    · rw [if_pos hx]
    · exact Tryz.underlying9
  unfold keyOf
  rw [Tryz.underlying64]
  simp only [h1, Value.formed, Tryz.underlying64, h2]
  rw [h4, if_pos (show (true && #[Value.string a, Value.string b, Value.string c].size == 3) = true from rfl)]
  have h5 : Tryz.prog.keyLits (n + 1 + 1) 64 [.string a, .string b, .string c] = some [.string a.data.toList, .string b.data.toList, .string c.data.toList] := by
    unfold Program.keyLits
    rw [Tryz.underlying64]
    simp only [h2, List.length_cons, List.length_nil]
    rw [if_pos (by decide +kernel)]
    simp [h3, hs _ a ha, hs _ b hb, hs _ c hc]
  show Option.map _ (Tryz.prog.keyLits (n + 1 + 1) 64 [.string a, .string b, .string c]) = _
  rw [h5]
  rfl
def keyT (k : List Nat × List Nat) : Value := .agg #[.string (T k.1), .string ⟨#[]⟩, .string (T k.2)]
def keyL (k : List Nat × List Nat) : Lit := .string (keyBytes [.string (tx k.1), .string [], .string (tx k.2)])
structure OkKey (k : List Nat × List Nat) : Prop where
  u : okL k.1
  l : okL k.2
  un : (T k.1).size ≤ 1048576
  ln : (T k.2).size ≤ 1048576
theorem keyL_eq {k : List Nat × List Nat} (h : OkKey k) : keyOf Tryz.prog 64 (keyT k) = some (keyL k) := by
  have h1 := h.un
  have h2 := h.ln
  have hl := key_some (T k.1) ⟨#[]⟩ (T k.2) (by unfold maxLen; omega) (Nat.zero_le _) (by unfold maxLen; omega)
  rw [T_data, T_data] at hl
  exact hl
theorem T_inj2 {a b : List Nat} (ha : okL a) (hb : okL b) (h : T a = T b) : a = b := by
  have : (T a).data.toList = (T b).data.toList := by rw [h]
  rw [T_data, T_data] at this
  exact tx_inj ha hb this
theorem keyL_inj {a b : List Nat × List Nat} (ha : OkKey a) (hb : OkKey b) (h : keyL a = keyL b) : a = b := by
  have h1 := keyL_eq ha
  have h2 := keyL_eq hb
  rw [← h] at h2
  have e := nmKeyed.inj h1 h2
  unfold keyT at e
  have e' := Array.toList_inj.2 (Value.agg.inj e)
  simp only [List.cons.injEq, Value.string.injEq] at e'
  exact Prod.ext (T_inj2 ha.u hb.u e'.1) (T_inj2 ha.l hb.l e'.2.2.1)
/-- Names in a map: each is there, and it is as long as they are just if none is there twice. -/
def KnownAt (w : World) (b : Nat) (ks : List (List Nat × List Nat)) : Prop := ∃ D, w.ownsMap (H := Unit) Tryz.prog 64 (plainElem Tryz.prog 3) b ks.length D ∧ (∀ k, OkKey k → Maps.has D (keyL k) = ks.contains k) ∧
  (ks.Nodup → Maps.size D = ks.length) ∧ (¬ ks.Nodup → Maps.size D < ks.length)
theorem KnownAt.kept {w w' : World} {b : Nat} {ks : List (List Nat × List Nat)} (h : KnownAt w b ks) (hk : ∀ es c, w.heap[b]? = some (.map es c) → w'.heap[b]? = some (.map es c)) : KnownAt w' b ks := by
  obtain ⟨D, ⟨es, clock, h1, h2⟩, h3⟩ := h
  exact ⟨D, ⟨es, clock, hk es clock h1, h2⟩, h3⟩
theorem KnownAt.blk {w : World} {b : Nat} {ks : List (List Nat × List Nat)} (h : KnownAt w b ks) : ∃ es c, w.heap[b]? = some (.map es c) ∧ b < w.heap.size := by
  obtain ⟨D, ⟨es, clock, h1, _⟩, _⟩ := h
  exact ⟨es, clock, h1, (Array.getElem?_eq_some_iff.1 h1).1⟩
theorem KnownAt.put {w w' : World} {b : Nat} {ks : List (List Nat × List Nat)} {D : DataW Unit} {d : DataW Unit} {k : List Nat × List Nat} (hown : w.ownsMap (H := Unit) Tryz.prog 64 (plainElem Tryz.prog 3) b ks.length D) (hh : ∀ k, OkKey k → Maps.has D (keyL k) = ks.contains k)
    (h1 : ks.Nodup → Maps.size D = ks.length) (h2 : ¬ ks.Nodup → Maps.size D < ks.length) (hk : OkKey k) (hW : w'.ownsMap (H := Unit) Tryz.prog 64 (plainElem Tryz.prog 3) b (ks.length + 1) (D.put (keyL k) d)) : KnownAt w' b (ks ++ [k]) := by
  have hkl : WideAt.IsKeyLit (keyL k) := nmKeyed.key (keyL_eq hk)
  have htd := hown.tidy nmKeyed
  have him := hown.isMap
  have hsz := Maps.size_put (k := keyL k) htd d
  rw [hh k hk] at hsz
  refine ⟨_, by rw [List.length_append]; exact hW, fun j hj => ?_, fun hn => ?_, fun hn => ?_⟩
  · by_cases e : j = k
    · subst e
      rw [Maps.has_put_same him hkl]
      simp
    · have hne : keyL j ≠ keyL k := fun h => e (keyL_inj hj hk h)
      rw [Maps.has_put_other hne, hh j hj]
      simp [e]
  · rw [List.nodup_append] at hn
    have hc : ks.contains k = false := by
      cases hc : ks.contains k
      · rfl
      · exact absurd rfl (hn.2.2 k (List.contains_iff_mem.1 hc) k (by simp))
    rw [hc] at hsz
    rw [hsz, List.length_append, h1 hn.1]
    rfl
  · rw [hsz, List.length_append]
    show _ < ks.length + 1
    by_cases hks : ks.Nodup
    · have hc : ks.contains k = true := by
        cases hc : ks.contains k
        · exfalso
          apply hn
          rw [List.nodup_append]
          refine ⟨hks, by simp, fun x hx y hy => ?_⟩
          rw [List.mem_singleton.1 hy]
          intro e
          subst e
          rw [List.contains_iff_mem.2 hx] at hc
          cases hc
        · rfl
      rw [hc, if_pos rfl, h1 hks]
      omega
    · have := h2 hks
      split <;> omega
theorem KnownAt.made (w : World) : KnownAt (w.alloc (.map #[] 0)) w.heap.size [] := ⟨.map [], World.ownsMap_made _ _ _ _, fun _ _ => rfl, fun _ => rfl, fun h => absurd List.nodup_nil h⟩
end Go.Proofs.YtiembljlhmgpjaaGreatDoor
/- A builder's methods: begin, finish, placed, leaf. -/
namespace Go.Proofs.YtiembljlhmgpjaaGreatDoor
open Go.RowKit
theorem infoNode : (Tryz.prog.info? 70).map (fun i => (i.zero, i.size, i.bytes)) = some (some (.agg #[.int .i64 0, .string ⟨#[]⟩, .string ⟨#[]⟩, .string ⟨#[]⟩, .string ⟨#[]⟩, .int .i64 0, .int .i64 0, .int .i64 0, .map none]), 9, 104) := by kernel_rfl
theorem infoInt : (Tryz.prog.info? 3).map (fun i => (i.zero, i.size, i.bytes)) = some (some (.int .i64 0), 1, 8) := by kernel_rfl
theorem news9 {W : World} {g : Nat} {a b c d e f i j k : Value} (h0 : W.cell? ⟨g, 0, none⟩ = some a) (h1 : W.cell? ⟨g, 1, none⟩ = some b) (h2 : W.cell? ⟨g, 2, none⟩ = some c) (h3 : W.cell? ⟨g, 3, none⟩ = some d) (h4 : W.cell? ⟨g, 4, none⟩ = some e) (h5 : W.cell? ⟨g, 5, none⟩ = some f) (h6 : W.cell? ⟨g, 6, none⟩ = some i) (h7 : W.cell? ⟨g, 7, none⟩ = some j) (h8 : W.cell? ⟨g, 8, none⟩ = some k) :
    ∀ n u, [a, b, c, d, e, f, i, j, k][n]? = some u → W.cell? ((⟨g, 0, none⟩ : Addr).add n) = some u := by
  intro n u h
  rw [Addr.add_mid, Nat.zero_add]
  match n, h with
  | 0, h => cases h; exact h0
  | 1, h => cases h; exact h1
  | 2, h => cases h; exact h2
  | 3, h => cases h; exact h3
  | 4, h => cases h; exact h4
  | 5, h => cases h; exact h5
  | 6, h => cases h; exact h6
  | 7, h => cases h; exact h7
  | 8, h => cases h; exact h8
set_option maxRecDepth 100000 in
set_option maxHeartbeats 4000000 in
theorem begin_any (B p : Nat) (vn vo v : Value) (s : BS) (x : XNode) (w : World) (H : Bd w B p vn vo s) (hv : ScV w B v x.scope) (hn : s.nodes.length ≤ 1000000) (ho : s.opn.length ≤ 1000000) (hB : B ≤ w.heap.size) :
    Calls Tryz.prog 26 #[.pointer (some ⟨p, 0, none⟩), .agg (nodeCells x v).toArray] w fun e w' => e = .returned (.tuple #[]) ∧ ∃ vn' vo', BdTo B p vn vo w w' vn' vo' (s.begin x) := by
  have hlow := H.low
  have hlt := H.lt
  obtain ⟨m, rfl⟩ := hv.one
  have HB := hide H
  have HV := hide hv
  have HRO := hide H.opn
  obtain ⟨ao, co, rfl⟩ := owns_slice H.opn
  obtain ⟨vs, h1, h2, h3⟩ := H.nodes
  obtain ⟨an, cn, rfl⟩ := owns_slice h2
  have c0 : w.cell? ⟨p, 0, none⟩ = some (.slice an s.nodes.length cn) := blk_cell H.blk 0
  have c1 : w.cell? ⟨p, 1, none⟩ = some (.slice ao s.opn.length co) := blk_cell H.blk 1
  have o0 := blk_open H.blk 0
  have o1 := blk_open H.blk 1
  obtain ⟨i0, hi, hz0, hz1, hz2⟩ := info_parts infoInt
  obtain ⟨j0, hj, hy0, hy1, hy2⟩ := info_parts infoNode
  have hself := Below.refl w.heap.size w
  have HVO : Hid (∀ k, (Value.slice ao s.opn.length co).ownBlock = some k → k < w.heap.size) := hide fun k hk => (H.opn.lt k hk).2
  have hbox : (w.alloc (.cells (nodeCells x (.map m)).toArray 70)).heap[w.heap.size]? = some (.cells (nodeCells x (.map m)).toArray 70 (0, 0)) := alloc_new _ _
  have HBX : Hid (∀ W, Below (w.alloc (.cells (nodeCells x (.map m)).toArray 70)).heap.size (w.alloc (.cells (nodeCells x (.map m)).toArray 70)) W → W.heap[w.heap.size]? = some (.cells (nodeCells x (.map m)).toArray 70 (0, 0))) := hide fun W hW => block_below hbox hW
  have hself1 := Below.refl (w.alloc (.cells (nodeCells x (.map m)).toArray 70)).heap.size (w.alloc (.cells (nodeCells x (.map m)).toArray 70))
  clear h1 h2 h3 H hv hbox
  go_enter Tryz.func26, Tryz.ntmps26
  go_upto_region 1 with fail
  go_cut [] (fun wx => Hid (∃ vo1, BdTo B p (.slice an s.nodes.length cn) (.slice ao s.opn.length co) w wx (.slice an s.nodes.length cn) vo1 ⟨s.nodes, s.opn ++ [s.nodes.length]⟩) ∧ wx.heap[w.heap.size]? = some (.cells (nodeCells x (.map m)).toArray 70 (0, 0)))
  case first =>
    go_region_law (refine step_append_where rfl (.tmp 8) (.tmp 14) 74 rfl B 3 i0 _ 1 8 Tryz.underlying74 hi hz0 hz1 hz2 rfl (by decide) (.slice ao s.opn.length co) s.opn.length (intRow s.opn) rfl (owns_below (unhide HRO) (by (repeat first | with_reducible exact hself | refine Below.drew ?_ | refine Below.alloc ?_ (by simp) _))) _ 1 1 [.int .i64 (s.nodes.length : Nat)] rfl rfl (newsI1 (by simp [go_sem])) (fun u hu => by simp at hu; subst hu; rfl) (by unfold maxLen; omega) (by omega) (by simp; omega) ?_; intro v' w' hown hgrow hat; obtain ⟨a5, b5, rfl⟩ := owns_slice hown; have hR := (unhide HB).opened (by (repeat first | with_reducible exact hself | refine Below.drew ?_ | refine Below.alloc ?_ (by simp) _)) hgrow hat hown; have c1' : w'.cell? ⟨p, 1, none⟩ = some (.slice ao s.opn.length co) := blk_cell hR.2 1; have o1' := blk_open hR.2 1)
    all_goals have HR := hide hR.1
    all_goals clear hR
    all_goals go_wp2_with fail
    all_goals go_meet
    all_goals refine ⟨hide ⟨_, unhide HR⟩, ?_⟩
    all_goals rw [blk_other (by omega), hgrow.block w.heap.size (by simp; omega) (fun e => by have := unhide HVO _ e.symm; omega)]
    all_goals exact unhide HBX _ (by (repeat first | with_reducible exact hself1 | refine Below.drew ?_ | refine Below.alloc ?_ (by simp) _))
  case rest =>
    obtain ⟨hto, hbx⟩ := hcut
    obtain ⟨vo1, hto⟩ := unhide hto
    have H1 := hto.bd
    have HTO := hide hto
    have HB1 := hide H1
    have hvx := hto.sc (unhide HB) (unhide HV)
    have HVX := hide hvx
    obtain ⟨vs1, h1, h2, h3⟩ := H1.nodes
    have HVS := hide h1
    have HROW := hide h2
    have HAT := hide h3
    have hltc := H1.lt
    have hsz : w.heap.size < wc.heap.size := (Array.getElem?_eq_some_iff.1 hbx).1
    obtain ⟨ao1, co1, rfl⟩ := owns_slice H1.opn
    have c0' : wc.cell? ⟨p, 0, none⟩ = some (.slice an s.nodes.length cn) := blk_cell H1.blk 0
    have o0' := blk_open H1.blk 0
    have b0 : wc.cell? ⟨w.heap.size, 0, none⟩ = some (.int .i64 (x.kind : Nat)) := blk_cell hbx 0
    have b1 : wc.cell? ⟨w.heap.size, 1, none⟩ = some (.string (T x.name.uri)) := blk_cell hbx 1
    have b2 : wc.cell? ⟨w.heap.size, 2, none⟩ = some (.string (T x.name.pre)) := blk_cell hbx 2
    have b3 : wc.cell? ⟨w.heap.size, 3, none⟩ = some (.string (T x.name.loc)) := blk_cell hbx 3
    have b4 : wc.cell? ⟨w.heap.size, 4, none⟩ = some (.string (T x.text)) := blk_cell hbx 4
    have b5 : wc.cell? ⟨w.heap.size, 5, none⟩ = some (.int .i64 x.parent) := blk_cell hbx 5
    have b6 : wc.cell? ⟨w.heap.size, 6, none⟩ = some (.int .i64 (x.fin : Nat)) := blk_cell hbx 6
    have b7 : wc.cell? ⟨w.heap.size, 7, none⟩ = some (.int .i64 (x.deep : Nat)) := blk_cell hbx 7
    have b8 : wc.cell? ⟨w.heap.size, 8, none⟩ = some (.map m) := blk_cell hbx 8
    have hselfc := Below.refl wc.heap.size wc
    have hBc : B ≤ wc.heap.size := by omega
    clear h1 h2 h3 H1 hto hbx HBX hself1 hvx hself c0 c1 o0 o1
    go_wp2_with fail
    go_region_law (refine step_append_where rfl (.tmp 22) (.tmp 24) 71 rfl B 70 j0 _ 9 104 Tryz.underlying71 hj hy0 hy1 hy2 rfl (by decide) (.slice an s.nodes.length cn) s.nodes.length (nodeRow s.nodes vs1) rfl (owns_below (unhide HROW) (by (repeat first | with_reducible exact hselfc | refine Below.drew ?_ | refine Below.alloc ?_ (by simp) _))) _ 1 1 (nodeCells x (.map m)) rfl rfl (news9 (by simp [go_sem]) (by simp [go_sem]) (by simp [go_sem]) (by simp [go_sem]) (by simp [go_sem]) (by simp [go_sem]) (by simp [go_sem]) (by simp [go_sem]) (by simp [go_sem])) (fun u hu => by simp [nodeCells] at hu; rcases hu with rfl | rfl | rfl | rfl | rfl | rfl | rfl | rfl | rfl <;> rfl) (by unfold maxLen; omega) (by omega) (by simp; omega) ?_; intro v' w' hown hgrow hat; obtain ⟨a5, b5, rfl⟩ := owns_slice hown; have hR := Bd.grew (unhide HB1) (by (repeat first | with_reducible exact hselfc | refine Below.drew ?_ | refine Below.alloc ?_ (by simp) _)) (unhide HVS) (unhide HAT) (unhide HVX) (unhide HROW) hgrow hat hown; have c0'' : w'.cell? ⟨p, 0, none⟩ = some (.slice an s.nodes.length cn) := blk_cell hR.2 0; have o0'' := blk_open hR.2 0)
    all_goals have HR := hide hR.1
    all_goals clear hR
    all_goals go_wp2
    all_goals go_returns
    all_goals exact ⟨rfl, _, _, (unhide HTO).then (unhide HR)⟩
end Go.Proofs.YtiembljlhmgpjaaGreatDoor
/- The nodes of a tag's attributes: xdm's attributes. -/
namespace Go.Proofs.YtiembljlhmgpjaaGreatDoor
open Go.RowKit Go.Maps
/-- A name that may be a key. -/
structure OkNm (n : Nm) : Prop where
  u : okL n.uri
  l : okL n.loc
  un : (T n.uri).size ≤ 1048576
  ln : (T n.loc).size ≤ 1048576
theorem lookS_ok {s : Sc} (h : OkSc s) {p u : List Nat} (hl : lookS s p = some u) : okL u ∧ (T u).size ≤ 1048576 := by
  unfold lookS at hl
  obtain ⟨x, hx, rfl⟩ := Option.map_eq_some_iff.1 hl
  have := h x (List.mem_of_find?_eq_some hx)
  exact ⟨this.1.2, this.2.2⟩
theorem splitQ_size2 (q : List Nat) : (T (splitQ q).2).size ≤ (T q).size := by
  unfold splitQ
  split
  · show (T (q.dropWhile (· != 58)).tail).size ≤ _
    obtain ⟨a, ha⟩ : ∃ a, q = a ++ (q.dropWhile (· != 58)).tail := by
      have h1 := List.takeWhile_append_dropWhile (p := (· != 58)) (l := q)
      cases hd : q.dropWhile (· != 58) with
      | nil => exact ⟨q, by simp⟩
      | cons c t =>
        rw [hd] at h1
        exact ⟨q.takeWhile (· != 58) ++ [c], by rw [List.append_assoc]; exact h1.symm⟩
    conv => rhs; rw [ha]
    rw [T_size, T_size, tx_len_app]
    omega
  · exact Nat.le_refl _
theorem expandD_ok {s : Sc} (h : OkSc s) {q : List Nat} {n : Nm} (hq : okL q) (hz : (T q).size ≤ 1048576) (he : expandD s q = some n) : OkNm n := by
  obtain ⟨h1, h2⟩ := splitQ_ok hq
  have h3 := splitQ_size2 q
  unfold expandD at he
  split at he
  · cases he
    exact ⟨uri_ok, h2, by rw [T_uri]; decide, by show (T (splitQ q).2).size ≤ _; omega⟩
  · split at he
    · rename_i u hu
      cases he
      obtain ⟨h4, h5⟩ := lookS_ok h hu
      exact ⟨h4, h2, h5, by show (T (splitQ q).2).size ≤ _; omega⟩
    · split at he
      · cases he
        exact ⟨okL_e, h2, Nat.zero_le _, by show (T (splitQ q).2).size ≤ _; omega⟩
      · cases he
theorem expandA_ok {s : Sc} (h : OkSc s) {q : List Nat} {n : Nm} (hq : okL q) (hz : (T q).size ≤ 1048576) (he : expandA s q = some n) : OkNm n := by
  unfold expandA at he
  split at he
  · cases he
    exact ⟨okL_e, hq, Nat.zero_le _, hz⟩
  · exact expandD_ok h hq hz he
theorem OkNm.key {n : Nm} (h : OkNm n) (t : List Nat) : OkKey (keyN (attrN n t)) := ⟨h.u, h.l, h.un, h.ln⟩
theorem grow_cell {W w2 : World} {row : Option Nat} (hg : W.grownBy w2 row) {g i : Nat} {v : Value} (h : W.cell? ⟨g, i, none⟩ = some v) (hne : row ≠ some g) : w2.cell? ⟨g, i, none⟩ = some v := by
  obtain ⟨c, t, z, hc, hi⟩ := cell_blk h
  rw [blk_cell (z := z) (by rw [hg.block g (Array.getElem?_eq_some_iff.1 hc).1 (fun e => hne e.symm)]; exact hc)]
  exact hi
theorem wfI {k : Nat} (h : k ≤ 1000) : (Lit.int .i64 (k : Nat)).wf = true := by
  have h1 : IntKind.i64.min = -9223372036854775808 := by decide
  have h2 : IntKind.i64.max = 9223372036854775807 := by decide
  simp only [Lit.wf, Bool.and_eq_true, decide_eq_true_eq]
  rw [h1, h2]
  omega
def nilsV (r : List XNode) : List Value := r.map fun _ => Value.map none
theorem nodes_nils {w : World} {B : Nat} {vr : Value} {r : List XNode} (h : w.ownsRow B 70 9 vr r.length (nodeRow r (nilsV r))) (hn : ∀ x ∈ r, x.scope = []) : Nodes w B vr r := by
  refine ⟨nilsV r, List.length_map .., h, fun i x v hx hv => ?_⟩
  rw [hn x (List.mem_of_getElem? hx)]
  unfold nilsV at hv
  rw [List.getElem?_map, hx] at hv
  cases hv
  exact ScV.nil w B
/-- Where the loop stands. -/
structure AttrInv (w : World) (s : Sc) (l : List (List Nat × List Nat)) (k : Nat) (r : List XNode) (vr : Value) (w' : World) : Prop where
  le : k ≤ l.length
  bel : Below w.heap.size w w'
  spec : attrsN s l = (attrsN s (l.drop k)).map (r ++ ·)
  row : w'.ownsRow w.heap.size 70 9 vr r.length (nodeRow r (nilsV r))
  nils : ∀ x ∈ r, x.scope = []
  known : KnownAt w' w.heap.size (r.map keyN)
  len : r.length ≤ k
def AttrOut (w' : World) (C : Nat) (o : Except Nat (List XNode)) (e : Ending) : Prop := match o with
  | .error n => e = .returned (.tuple #[.slice none 0 0, .int .i64 (n : Nat)])
  | .ok r => ∃ vr, e = .returned (.tuple #[vr, .int .i64 0]) ∧ Nodes w' C vr r
set_option maxRecDepth 100000 in
set_option maxHeartbeats 4000000 in
theorem scAttributes_any (B : Nat) (v va : Value) (s : Sc) (l : List (List Nat × List Nat)) (w : World) (hv : ScV w B v s) (ha : PairsArg w va (pairsT l)) (hl : OkAt l) (hq : ∀ x ∈ l, isQ x.1 = true) (hn : l.length ≤ 1000) (hE : Env w) :
    Calls Tryz.prog 97 #[v, va] w fun e w' => AttrOut w' w.heap.size (attributesD s l) e ∧ Below w.heap.size w w' := by
  have HV := hide hv
  have HA := hide ha
  have HL := hide hl
  have HQ := hide hq
  have HE := hide hE
  have hpl : (pairsT l).length = l.length := List.length_map ..
  obtain ⟨aa, cap, rfl, _⟩ := ha
  rw [hpl] at HA ⊢
  obtain ⟨m, rfl⟩ := hv.one
  have hmk : ∀ W : World, (Instr.makeMap 164 none).run Tryz.prog W = .ok (.map (some W.heap.size)) (W.alloc (.map #[] 0)) := fun W => rfl
  have HI0 : Hid (AttrInv w s l 0 [] (.slice none 0 0) (w.alloc (.map #[] 0))) := hide ⟨Nat.zero_le _, (Below.refl _ _).alloc (Nat.le_refl _) _, by show attrsN s l = (attrsN s l).map (fun x => x); cases attrsN s l <;> rfl, World.ownsRow_nil _ _ _ _, (fun _ h => by cases h), KnownAt.made w, Nat.le_refl _⟩
  clear hv hl hq hE
  go_enter Tryz.func97, Tryz.ntmps97
  go_wp2_with fail
  clear hmk
  go_loopw [6, 17] (fun vr i wr => ∃ (k : Nat) (r : List XNode), i = .int .i64 (k : Nat) ∧ AttrInv w s l k r vr wr) (fun _ i _ => l.length - (intOf i).toNat)
  case atStart => exact ⟨0, [], rfl, unhide HI0⟩
  case round =>
    clear HI0
    obtain ⟨k, r, rfl, hI⟩ := hrel
    have hk := hI.le
    by_cases hlt : k < l.length
    · obtain ⟨x, hx⟩ : ∃ x, l[k]? = some x := ⟨l[k], List.getElem?_eq_getElem hlt⟩
      have hxm := List.mem_of_getElem? hx
      obtain ⟨⟨hx1, hx2⟩, hz1, hz2⟩ := unhide HL x hxm
      have hxq := unhide HQ x hxm
      obtain ⟨a', cap', he, hcells⟩ := (unhide HA).below hI.bel
      obtain ⟨g, o, ha, hc⟩ := hcells (by intro h0; rw [List.map_eq_nil_iff] at h0; rw [h0] at hlt; cases hlt)
      rw [hpl] at he
      cases he
      subst ha
      obtain ⟨c0, c1⟩ := hc k (T x.1, T x.2) (by rw [List.getElem?_map, hx]; rfl)
      simp only at c0 c1
      have n1 : (0 : Int) ≤ (k : Int) := by omega
      have n2 : (k : Int) < (l.length : Int) := by omega
      have hdr : l.drop k = x :: l.drop (k + 1) := by
        rw [← List.getElem_cons_drop hlt]
        congr 1
        exact (List.getElem?_eq_some_iff.1 hx).2
      have hspec := hI.spec
      rw [hdr, attrsN] at hspec
      have hbA : Below wr.heap.size wr (wr.alloc (.cells #[.string (T x.1), .string (T x.2)] 92 (0, 0))) := (Below.refl _ _).alloc (Nat.le_refl _) _
      have hb0 := Below.then hI.bel hbA
      have HI := hide hI
      have HDC := hide (fun W => declared_any x.1 W hx1)
      obtain ⟨ar, cr, e6⟩ : ∃ ar cr, u6 = .slice ar r.length cr := owns_slice hI.row
      subst e6
      clear hc hI hcells hdr hx hxm
      cases hdc : declD x.1 with
      | some p =>
        have HV2 : Hid (declV x.1 = .tuple #[.string (T p), .bool true]) := hide (by unfold declV; rw [hdc])
        rw [unhide HV2] at HDC
        rw [hdc] at hspec
        have HSP := hide hspec
        clear hdc hspec HV2
        go_wp2_with fail
        refine (unhide HDC _).mono ?_
        rintro e w1 ⟨rfl, rfl⟩
        go_wp2_with fail
        have h := unhide HI
        exact ⟨⟨k + 1, r, by simp, ⟨hlt, hb0, unhide HSP, owns_below h.row hbA, h.nils, h.known.kept (fun es c hh => block_below hh hbA), by have := h.len; omega⟩⟩, by simp [intOf]; omega⟩
      | none =>
        have HV2 : Hid (declV x.1 = .tuple #[.string (T x.1), .bool false]) := hide (by unfold declV; rw [hdc])
        rw [unhide HV2] at HDC
        rw [hdc] at hspec
        have HEA := hide (fun W (hb : Below (wr.alloc (.cells #[.string (T x.1), .string (T x.2)] 92 (0, 0))).heap.size (wr.alloc (.cells #[.string (T x.1), .string (T x.2)] 92 (0, 0))) W) => expandA_any B (.map m) s x.1 W (((unhide HV).on hb0).on hb) hx1 hxq hz1 (((unhide HE).below hb0).below hb))
        clear hdc HV2
        cases hex : expandA s x.1 with
        | none =>
          rw [hex] at HEA hspec
          have HSP : Hid (attributesD s l = .error 7) := hide (by unfold attributesD; rw [hspec]; rfl)
          clear hex hspec
          have HEA' : Hid (∀ W, Below (wr.alloc (.cells #[.string (T x.1), .string (T x.2)] 92 (0, 0))).heap.size (wr.alloc (.cells #[.string (T x.1), .string (T x.2)] 92 (0, 0))) W → Calls Tryz.prog 130 #[.map m, .string (T x.1)] W fun e w' => e = .returned (.tuple #[.agg #[.string ⟨#[]⟩, .string ⟨#[]⟩, .string ⟨#[]⟩], .bool false]) ∧ Below W.heap.size W w') := hide (unhide HEA)
          clear HEA
          go_wp2_with fail
          refine (unhide HDC _).mono ?_
          rintro e w1 ⟨rfl, rfl⟩
          go_wp2_with fail
          refine (unhide HEA' _ (Below.refl _ _)).mono ?_
          rintro e w1 ⟨rfl, hb1⟩
          have hb01 := Below.then hb0 hb1
          go_wp2
          go_returns
          rw [unhide HSP]
          exact ⟨rfl, hb01.alloc hb01.size _⟩
        | some n =>
          rw [hex] at HEA hspec
          have hnm := expandA_ok (unhide HV).1 hx1 hz1 hex
          have HSP : Hid (attrsN s l = (attrsN s (l.drop (k + 1))).map ((r ++ [attrN n x.2]) ++ ·)) := hide (by
            rw [hspec]
            cases attrsN s (l.drop (k + 1)) with
            | none => rfl
            | some q => simp)
          clear hex hspec
          have HEA' : Hid (∀ W, Below (wr.alloc (.cells #[.string (T x.1), .string (T x.2)] 92 (0, 0))).heap.size (wr.alloc (.cells #[.string (T x.1), .string (T x.2)] 92 (0, 0))) W → Calls Tryz.prog 130 #[.map m, .string (T x.1)] W fun e w' => e = .returned (.tuple #[.agg #[.string (T n.uri), .string (T n.pre), .string (T n.loc)], .bool true]) ∧ Below W.heap.size W w') := hide (unhide HEA)
          clear HEA
          have d1 : (wr.alloc (.cells #[.string (T x.1), .string (T x.2)] 92 (0, 0))).cell? ⟨wr.heap.size, 1, none⟩ = some (.string (T x.2)) := by simp [go_sem]
          have HD1 := hide d1
          clear d1
          go_wp2_with fail
          refine (unhide HDC _).mono ?_
          rintro e w1 ⟨rfl, rfl⟩
          go_wp2_with fail
          refine (unhide HEA' _ (Below.refl _ _)).mono ?_
          rintro e w1 ⟨rfl, hb1⟩
          have hb01 := Below.then hb0 hb1
          have d1 := keptC hb1 (unhide HD1)
          have hsz1 : wr.heap.size < w1.heap.size := by have := hb1.size; simp at this; omega
          have h := unhide HI
          have hrow := owns_below (owns_below h.row hbA) hb1
          have hlen := h.len
          have hrowb : ∀ k, (Value.slice ar r.length cr).ownBlock = some k → k < w1.heap.size ∧ w.heap.size ≤ k := fun k hk => ⟨(hrow.lt k hk).2, (hrow.lt k hk).1⟩
          have hN1 : Below w1.heap.size w1 (w1.alloc (.cells #[.string (T n.uri), .string (T n.pre), .string (T n.loc)] 64 (0, 0))) := (Below.refl _ _).alloc (Nat.le_refl _) _
          have HROW := hide (owns_below hrow hN1)
          have HRB := hide hrowb
          have hkn := (h.known.kept (w' := w1) (fun es c hh => block_below (block_below hh hbA) hb1))
          obtain ⟨D, hD, hh1, hh2, hh3⟩ := hkn
          have HD := hide hD
          have HH1 := hide hh1
          have HH2 := hide hh2
          have HH3 := hide hh3
          have hml : (r.map keyN).length = r.length := List.length_map ..
          have HKY := hide (keyL_eq (hnm.key x.2))
          have HPE : Hid (plainElem (H := Unit) Tryz.prog 3 (.int .i64 (k : Nat)) = some (.lit (.int .i64 (k : Nat)), [])) := hide (plainElem_int Tryz.underlying3 (wfI (by omega)))
          obtain ⟨j0, hj, hy0, hy1, hy2⟩ := info_parts infoNode
          have hsz0 := hb01.size
          have HNE : Hid (some w.heap.size ≠ (Value.slice ar r.length cr).ownBlock) := hide (fun e => by
            obtain ⟨c, hc⟩ := owns_type hrow e.symm
            obtain ⟨es, clock, hm, _⟩ := hD
            rw [hc] at hm
            cases hm)
          have hmlen : (r.map keyN).length < maxLen := by rw [hml]; unfold maxLen; omega
          have hsz1' : w.heap.size < w1.heap.size := hD.lt
          clear h hrow hrowb hD hh1 hh2 hh3
          go_wp2_with (first
            | (at_builtin; refine wpList_append_own _ rfl _ _ 71 rfl w.heap.size 70 j0 _ 9 104 Tryz.underlying71 hj hy0 hy1 hy2 rfl (by decide) _ r.length (nodeRow r (nilsV r)) rfl (owns_below (unhide HROW) ((Below.refl _ _).alloc (Nat.le_refl _) _)) ⟨w1.heap.size + 1, 0, none⟩ 1 1 [.int .i64 3, .string (T n.uri), .string (T n.pre), .string (T n.loc), .string (T x.2), .int .i64 0, .int .i64 0, .int .i64 0, .map none] rfl rfl (news9 (by simp [go_sem]) (by simp [go_sem]) (by simp [go_sem]) (by simp [go_sem]) (by simp [go_sem]) (by simp [go_sem]) (by simp [go_sem]) (by simp [go_sem]) (by simp [go_sem])) (fun u hu => by simp at hu; rcases hu with rfl | rfl | rfl | rfl | rfl | rfl | rfl | rfl | rfl <;> rfl) (by unfold maxLen; omega) (by omega) (by simp; omega) ?_; intro v7 w7 hown7 hgrow7 _; obtain ⟨a7, k7, rfl⟩ := owns_slice hown7; have q0 : w7.cell? ⟨w1.heap.size, 0, none⟩ = some (.string (T n.uri)) := grow_cell hgrow7 (by simp [go_sem]) (fun e => by have := (unhide HRB _ e).1; omega); have q2 : w7.cell? ⟨w1.heap.size, 2, none⟩ = some (.string (T n.loc)) := grow_cell hgrow7 (by simp [go_sem]) (fun e => by have := (unhide HRB _ e).1; omega); have HD7 := hide ((((unhide HD).alloc (.cells #[.string (T n.uri), .string (T n.pre), .string (T n.loc)] 64 (0, 0))).alloc (.cells ([.int .i64 3, .string (T n.uri), .string (T n.pre), .string (T n.loc), .string (T x.2), .int .i64 0, .int .i64 0, .int .i64 0, .map none] : List Value).toArray 70 (0, 0))).kept hgrow7 (unhide HNE)); have HG7 := hide hgrow7; have HO7 := hide hown7; clear hgrow7 hown7)
            | (at_mapUpdate; refine wpList_mapUpdate_own _ rfl _ _ _ 164 rfl 64 3 nmKeyed Tryz.underlying164 (plainElem Tryz.prog 3) w.heap.size (r.map keyN).length D rfl (unhide HD7) hmlen _ _ (keyL (keyN (attrN n x.2))) rfl rfl (unhide HKY) (.lit (.int .i64 (k : Nat))) [] (unhide HPE) ?_; intro w8 hown8 hgrow8; go_frame))
          have h := unhide HI
          have hg7 := unhide HG7
          have hb7 : Below w.heap.size w w7 := ((hb01.alloc hb01.size _).alloc (by simp; omega) _).grown hg7 (by simp; omega) (fun j hj => (unhide HRB j hj).2)
          have hb8 : Below w.heap.size w w8 := hb7.grown hgrow8 hb7.size (fun j hj => by cases hj; exact Nat.le_refl _)
          have hrow7 : w7.ownsRow w.heap.size 70 9 (.slice a7 (r.length + 1) k7) (r.length + 1) (nodeRow r (nilsV r) ++ nodeCells (attrN n x.2) (.map none)) := unhide HO7
          have hrow8 := hrow7.kept hgrow8 (.inr (fun e => by
            obtain ⟨c, hc⟩ := owns_type hrow7 e
            obtain ⟨es, clock, hm, _⟩ := unhide HD7
            rw [hc] at hm
            cases hm))
          have hkn8 := KnownAt.put (unhide HD7) (unhide HH1) (unhide HH2) (unhide HH3) (hnm.key x.2) hown8
          refine ⟨⟨k + 1, r ++ [attrN n x.2], by simp, ⟨hlt, hb8, unhide HSP, ?_, ?_, ?_, ?_⟩⟩, by simp [intOf]; omega⟩
          · have e : nilsV (r ++ [attrN n x.2]) = nilsV r ++ [Value.map none] := by unfold nilsV; rw [List.map_append]; rfl
            rw [e, nodeRow_snoc r (nilsV r) _ _ (List.length_map ..), List.length_append]
            exact hrow8
          · intro y hy
            rcases List.mem_append.1 hy with hy | hy
            · exact h.nils y hy
            · rw [List.mem_singleton.1 hy]; rfl
          · rw [List.map_append]
            exact hkn8
          · rw [List.length_append]
            show r.length + 1 ≤ k + 1
            omega
    · have n2 : ¬ (k : Int) < (l.length : Int) := by omega
      have hkl : k = l.length := by omega
      have hsp := hI.spec
      rw [hkl, List.drop_length] at hsp
      have HSP : Hid (attrsN s l = some r) := hide (by rw [hsp]; show some (r ++ []) = some r; rw [List.append_nil])
      have HI := hide hI
      obtain ⟨D, hD, _, hh2, hh3⟩ := hI.known
      have hlm := fun ty => hD.len Tryz.underlying164 ty
      obtain ⟨ar, cr, e6⟩ : ∃ ar cr, u6 = .slice ar r.length cr := owns_slice hI.row
      subst e6
      by_cases hnd : (r.map keyN).Nodup
      · have HO : Hid (attributesD s l = .ok r) := hide (by unfold attributesD; rw [unhide HSP]; simp only; rw [if_pos hnd])
        have hsz : decide (Maps.size D < r.length) = false := decide_eq_false (by have := hh2 hnd; rw [List.length_map] at this; omega)
        clear hI hsp hkl hnd hh2 hh3 hD
        go_wp2
        go_returns
        rw [unhide HO]
        exact ⟨⟨_, rfl, nodes_nils (unhide HI).row (unhide HI).nils⟩, (unhide HI).bel⟩
      · have HO : Hid (attributesD s l = .error 8) := hide (by unfold attributesD; rw [unhide HSP]; simp only; rw [if_neg hnd])
        have hsz : decide (Maps.size D < r.length) = true := decide_eq_true (by have := hh3 hnd; rw [List.length_map] at this; omega)
        clear hI hsp hkl hnd hh2 hh3 hD
        go_wp2
        go_returns
        rw [unhide HO]
        exact ⟨rfl, (unhide HI).bel⟩
end Go.Proofs.YtiembljlhmgpjaaGreatDoor
/- A builder's methods: finish, placed, leaf. -/
namespace Go.Proofs.YtiembljlhmgpjaaGreatDoor
open Go.RowKit
set_option maxRecDepth 100000 in
set_option maxHeartbeats 4000000 in
theorem finish_any (B p : Nat) (vn vo : Value) (s : BS) (w : World) (H : Bd w B p vn vo s) (ho : s.opn ≠ []) (hi : s.inner < s.nodes.length) (hn : s.nodes.length ≤ 1000000) (hon : s.opn.length ≤ 1000000) :
    Calls Tryz.prog 28 #[.pointer (some ⟨p, 0, none⟩)] w fun e w' => e = .returned (.tuple #[]) ∧ ∃ vn' vo', BdTo B p vn vo w w' vn' vo' s.finish := by
  have hpos : 0 < s.opn.length := List.length_pos_iff.2 ho
  obtain ⟨k, hk⟩ : ∃ k, k + 1 = s.opn.length := ⟨s.opn.length - 1, by omega⟩
  obtain ⟨vs, h1, h2, h3⟩ := H.nodes
  obtain ⟨g, cn, rfl, hcn, _, hg, hcn2, hfz⟩ := owns_cells h2 (by omega)
  obtain ⟨go, co, rfl, hco, _, hgo, hcell, _⟩ := owns_cells H.opn hpos
  have hlast : s.opn[k]? = some s.inner := by
    unfold BS.inner
    rw [List.getLastD_eq_getLast?, List.getLast?_eq_getElem?, show s.opn.length - 1 = k by omega]
    rw [List.getElem?_eq_getElem (by omega)]
    rfl
  have cl : w.cell? ⟨go, k, none⟩ = some (.int .i64 (s.inner : Nat)) := hcell k _ (by unfold intRow; rw [List.getElem?_map, hlast]; rfl)
  have c0 : w.cell? ⟨p, 0, none⟩ = some (.slice (some ⟨g, 0, none⟩) s.nodes.length cn) := blk_cell H.blk 0
  have c1 : w.cell? ⟨p, 1, none⟩ = some (.slice (some ⟨go, 0, none⟩) s.opn.length co) := blk_cell H.blk 1
  have o1 := blk_open H.blk 1
  have of := hfz (s.inner * 9 + 6)
  obtain ⟨x, hx⟩ : ∃ x, s.nodes[s.inner]? = some x := ⟨s.nodes[s.inner], List.getElem?_eq_getElem hi⟩
  obtain ⟨u, hu⟩ : ∃ u, vs[s.inner]? = some u := ⟨vs[s.inner], List.getElem?_eq_getElem (by omega)⟩
  have cf : w.cell? ⟨g, s.inner * 9 + 6, none⟩ = some (.int .i64 (x.fin : Nat)) := hcn2 _ _ (nodeRow_get s.nodes vs s.inner x u 6 hx hu (by decide))
  have HE := hide (H.ended hi hk)
  have HGP : Hid (p ≠ g) := hide fun e => owns_not h2 H.blk (by decide) (by rw [e]; rfl)
  clear h1 h2 h3 hfz hcell hlast H hcn2 hx hu
  rw [← hk] at c1 HE hon hco ⊢
  clear hpos ho hk
  have m1 : (s.inner : Int) < (s.nodes.length : Int) := by omega
  have m2 : (0 : Int) ≤ (s.inner : Int) := by omega
  have m3 : (k : Int) < ((k + 1 : Nat) : Int) := by omega
  have m4 : (0 : Int) ≤ (k : Int) := by omega
  generalize s.inner = i at *
  generalize s.nodes.length = n at *
  go_enter Tryz.func28, Tryz.ntmps28
  go_wp2_with fail
  go_region
  have hgp : p ≠ g := unhide HGP
  have c1' : (w.setCell ⟨g, i * 9 + 6, none⟩ (.int .i64 (n : Nat))).cell? ⟨p, 1, none⟩ = some (.slice (some ⟨go, 0, none⟩) (k + 1) co) := by
    unfold World.cell? at c1 ⊢
    rw [blk_other hgp]
    exact c1
  have o1' : (w.setCell ⟨g, i * 9 + 6, none⟩ (.int .i64 (n : Nat))).frozen? ⟨p, 1, none⟩ = false := by
    unfold World.frozen? at o1 ⊢
    rw [blk_other hgp]
    exact o1
  have m5 : (k : Int) ≤ (co : Int) := by omega
  clear c1 o1 c0
  go_wp2_with fail
  go_returns
  exact ⟨rfl, _, _, (unhide HE).then (BdTo.still (unhide HE).bd (Below.refl _ _).drew)⟩
set_option maxRecDepth 100000 in
set_option maxHeartbeats 4000000 in
theorem placed_any (B p : Nat) (vn vo : Value) (m : Option Nat) (s : BS) (x : XNode) (w : World) (H : Bd w B p vn vo s) (ho : s.opn ≠ []) (hon : s.opn.length ≤ 1000000) :
    Calls Tryz.prog 98 #[.pointer (some ⟨p, 0, none⟩), .agg (nodeCells x (.map m)).toArray] w fun e w' => e = .returned (.agg (nodeCells (s.placed x) (.map m)).toArray) ∧ Below w.heap.size w w' := by
  have hpos : 0 < s.opn.length := List.length_pos_iff.2 ho
  obtain ⟨k, hk⟩ : ∃ k, k + 1 = s.opn.length := ⟨s.opn.length - 1, by omega⟩
  obtain ⟨go, co, rfl, hco, _, hgo, hcell, _⟩ := owns_cells H.opn hpos
  have hlt := H.lt
  have hlast : s.opn[k]? = some s.inner := by
    unfold BS.inner
    rw [List.getLastD_eq_getLast?, List.getLast?_eq_getElem?, show s.opn.length - 1 = k by omega]
    rw [List.getElem?_eq_getElem (by omega)]
    rfl
  have cl : w.cell? ⟨go, k, none⟩ = some (.int .i64 (s.inner : Nat)) := hcell k _ (by unfold intRow; rw [List.getElem?_map, hlast]; rfl)
  have c1 : w.cell? ⟨p, 1, none⟩ = some (.slice (some ⟨go, 0, none⟩) s.opn.length co) := blk_cell H.blk 1
  have HP : Hid (s.placed x = { x with deep := k + 1, parent := (s.inner : Nat) }) := hide (by rw [hk]; rfl)
  clear hcell hlast H
  rw [← hk] at c1 hon hco
  clear hpos ho hk
  have m3 : (k : Int) < ((k + 1 : Nat) : Int) := by omega
  have m4 : (0 : Int) ≤ (k : Int) := by omega
  rw [unhide HP]
  clear HP
  show Calls _ _ #[_, .agg #[.int .i64 (x.kind : Nat), .string (T x.name.uri), .string (T x.name.pre), .string (T x.name.loc), .string (T x.text), .int .i64 x.parent, .int .i64 (x.fin : Nat), .int .i64 (x.deep : Nat), .map m]] w fun e w' => e = .returned (.agg #[.int .i64 (x.kind : Nat), .string (T x.name.uri), .string (T x.name.pre), .string (T x.name.loc), .string (T x.text), .int .i64 (s.inner : Nat), .int .i64 (x.fin : Nat), .int .i64 ((k + 1 : Nat) : Int), .map m]) ∧ Below w.heap.size w w'
  go_enter Tryz.func98, Tryz.ntmps98
  go_wp2_with fail
  go_region
  go_wp2_with fail
  go_returns
  exact ⟨by simp, by (repeat first | with_reducible exact Below.refl _ _ | refine Below.drew ?_ | refine Below.alloc ?_ (by simp) _)⟩
theorem begin_inner (s : BS) (x : XNode) : (s.begin x).inner = s.nodes.length := by
  unfold BS.inner BS.begin
  simp
set_option maxRecDepth 100000 in
set_option maxHeartbeats 4000000 in
theorem leaf_any (B p : Nat) (vn vo v : Value) (s : BS) (x : XNode) (w : World) (H : Bd w B p vn vo s) (hv : ScV w B v x.scope) (ho : s.opn ≠ []) (hn : s.nodes.length ≤ 900000) (hon : s.opn.length ≤ 900000) (hB : B ≤ w.heap.size) :
    Calls Tryz.prog 57 #[.pointer (some ⟨p, 0, none⟩), .agg (nodeCells x v).toArray] w fun e w' => e = .returned (.tuple #[]) ∧ ∃ vn' vo', BdTo B p vn vo w w' vn' vo' (s.leaf x) := by
  obtain ⟨m, rfl⟩ := hv.one
  have HP := hide (fun W (hb : Below w.heap.size w W) => placed_any B p vn vo m s x W (H.on hb) ho (by omega))
  have HBG := hide (fun W (hb : Below w.heap.size w W) => begin_any B p vn vo (.map m) s (s.placed x) W (H.on hb) (show ScV W B (.map m) x.scope from hv.on hb) (by omega) (by omega) (Nat.le_trans hB hb.size))
  have HF := hide (fun W vn' vo' (h : Bd W B p vn' vo' (s.begin (s.placed x))) => finish_any B p vn' vo' (s.begin (s.placed x)) W h (by show s.opn ++ [s.nodes.length] ≠ []; simp) (by rw [begin_inner]; show _ < (s.nodes ++ [s.placed x]).length; simp) (by show (s.nodes ++ [s.placed x]).length ≤ _; rw [List.length_append, List.length_singleton]; omega) (by show (s.opn ++ [s.nodes.length]).length ≤ _; rw [List.length_append, List.length_singleton]; omega))
  have HB := hide H
  have HL : Hid (s.leaf x = (s.begin (s.placed x)).finish) := hide rfl
  clear H hv ho
  show Calls _ _ #[_, .agg #[.int .i64 (x.kind : Nat), .string (T x.name.uri), .string (T x.name.pre), .string (T x.name.loc), .string (T x.text), .int .i64 x.parent, .int .i64 (x.fin : Nat), .int .i64 (x.deep : Nat), .map m]] w _
  have hb0 : Below w.heap.size w (w.alloc (.cells #[.int .i64 (x.kind : Nat), .string (T x.name.uri), .string (T x.name.pre), .string (T x.name.loc), .string (T x.text), .int .i64 x.parent, .int .i64 (x.fin : Nat), .int .i64 (x.deep : Nat), .map m] 70)) := (Below.refl _ _).alloc (Nat.le_refl _) _
  go_enter Tryz.func57, Tryz.ntmps57
  go_wp2_with fail
  refine (unhide HP _ hb0).mono ?_
  rintro e w1 ⟨rfl, hb1⟩
  have hb01 := Below.then hb0 hb1
  go_wp2_with fail
  refine (unhide HBG _ hb01).mono ?_
  rintro e w2 ⟨rfl, vn1, vo1, hto⟩
  have HT := hide hto
  clear hto
  go_wp2_with fail
  refine (unhide HF _ _ _ (unhide HT).bd).mono ?_
  rintro e w3 ⟨rfl, vn2, vo2, hto2⟩
  have HT2 := hide hto2
  clear hto2
  go_wp2
  go_returns
  rw [unhide HL]
  exact ⟨rfl, _, _, ((BdTo.still (unhide HB) hb01).then (unhide HT)).then (unhide HT2)⟩
end Go.Proofs.YtiembljlhmgpjaaGreatDoor
