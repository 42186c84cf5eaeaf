/- Several texts, laid as one. -/
import Derived.Test.YtjjggncbhenffaaGreatDoorGaq
import Derived.Test.YtjjggncbhenffaaGreatDoorGao
import Derived.Lib.AppendStr
/- An element begun, with its attributes: xdm's element. -/
namespace Go.Proofs.YtjjggncbhenffaaGreatDoor
open Go.RowKit Go.Maps
theorem leaf_opn (s : BS) (x : XNode) : (s.leaf x).opn = s.opn := by
  show (s.opn ++ [s.nodes.length]).dropLast = s.opn
  rw [List.dropLast_concat]
theorem leaf_len (s : BS) (x : XNode) : (s.leaf x).nodes.length = s.nodes.length + 1 := by
  show ((s.nodes ++ [s.placed x]).modify _ _).length = _
  rw [List.length_modify, List.length_append]
  rfl
theorem leafs_opn : ∀ (l : List XNode) (s : BS), (l.foldl BS.leaf s).opn = s.opn ∧ (l.foldl BS.leaf s).nodes.length = s.nodes.length + l.length
  | [], s => ⟨rfl, rfl⟩
  | x :: l, s => by
    obtain ⟨h1, h2⟩ := leafs_opn l (s.leaf x)
    rw [List.foldl_cons]
    refine ⟨h1.trans (leaf_opn s x), ?_⟩
    rw [h2, leaf_len, List.length_cons]
    omega
theorem nodes_cells {w : World} {B : Nat} {vn : Value} {xs : List XNode} (h : Nodes w B vn xs) (hn : 0 < xs.length) : ∃ g cap, vn = .slice (some ⟨g, 0, none⟩) xs.length cap ∧ B ≤ g ∧ g < w.heap.size ∧ ∀ i x, xs[i]? = some x → ∃ v, ScV w B v x.scope ∧ ∀ j u, (nodeCells x v)[j]? = some u → w.cell? ⟨g, i * 9 + j, none⟩ = some u := by
  obtain ⟨vs, h1, h2, h3⟩ := h
  obtain ⟨g, cap, e, _, hb, hg, hc, _⟩ := owns_cells h2 hn
  refine ⟨g, cap, e, hb, hg, fun i x hx => ?_⟩
  have hi := (List.getElem?_eq_some_iff.1 hx).1
  obtain ⟨v, hv⟩ : ∃ v, vs[i]? = some v := ⟨vs[i], List.getElem?_eq_getElem (by omega)⟩
  refine ⟨v, h3 i x v hx hv, fun j u hu => hc _ _ ?_⟩
  have hj : j < 9 := (List.getElem?_eq_some_iff.1 hu).1
  rw [nodeRow_get xs vs i x v j hx hv hj]
  exact hu
theorem attr_errs {s : Sc} {l : List (List Nat × List Nat)} {n : Nat} (h : attributesD s l = .error n) : n = 7 ∨ n = 8 := by
  unfold attributesD at h
  split at h
  · cases h; exact .inl rfl
  · split at h
    · cases h
    · cases h; exact .inr rfl
theorem attrsN_len {s : Sc} : ∀ {l : List (List Nat × List Nat)} {r : List XNode}, attrsN s l = some r → r.length ≤ l.length
  | [], r, h => by cases h; exact Nat.le_refl _
  | x :: l, r, h => by
    rw [attrsN] at h
    split at h
    · have := attrsN_len h; rw [List.length_cons]; omega
    · split at h
      · cases h
      · obtain ⟨q, hq, rfl⟩ := Option.map_eq_some_iff.1 h
        have := attrsN_len hq
        rw [List.length_cons, List.length_cons]
        omega
theorem attrs_len2 {s : Sc} {l : List (List Nat × List Nat)} {r : List XNode} (h : attributesD s l = .ok r) : r.length ≤ l.length := by
  unfold attributesD at h
  split at h
  · cases h
  · rename_i q hq
    split at h
    · cases h; exact attrsN_len hq
    · cases h
/-- What a builder's element tells. -/
def ElemOut (B p : Nat) (vn vo : Value) (w w' : World) (o : Except Nat BS) (e : Ending) : Prop := match o with
  | .error n => e = .returned (.int .i64 (n : Nat)) ∧ Below B w w'
  | .ok s' => e = .returned (.int .i64 0) ∧ ∃ vn' vo', BdTo B p vn vo w w' vn' vo' s'
theorem last_opn {s : BS} {k : Nat} (hk : k + 1 = s.opn.length) : s.opn[k]? = some s.inner := by
  unfold BS.inner
  rw [List.getLastD_eq_getLast?, List.getLast?_eq_getElem?, show s.opn.length - 1 = k by omega]
  rw [List.getElem?_eq_getElem (by omega)]
  rfl
set_option maxRecDepth 100000 in
set_option maxHeartbeats 4000000 in
theorem element_any (B p : Nat) (vn vo va : Value) (s : BS) (t : XTok) (w : World) (H : Bd w B p vn vo s) (ha : PairsArg w va (pairsT t.attrs)) (hl : OkAt t.attrs) (hq : ∀ x ∈ t.attrs, isQ x.1 = true) (hn : t.attrs.length ≤ 64) (hk2 : t.kind = 2) (htn : okL t.name) (htq : isQ t.name = true) (htz : (T t.name).size ≤ 1048576)
    (ho : s.opn ≠ []) (hi : s.inner < s.nodes.length) (hnn : s.nodes.length ≤ 800000) (hon : s.opn.length ≤ 800000) (hsc : s.scope.length ≤ 400000) (hB : B ≤ w.heap.size) (hE : Env w) :
    Calls Tryz.prog 69 #[.pointer (some ⟨p, 0, none⟩), .agg #[.int .i64 (t.kind : Nat), .string (T t.name), va, .string (T t.text)]] w fun e w' => ElemOut B p vn vo w w' (s.element t) e := by
  have hpos : 0 < s.opn.length := List.length_pos_iff.2 ho
  obtain ⟨k, hk⟩ : ∃ k, k + 1 = s.opn.length := ⟨s.opn.length - 1, by omega⟩
  obtain ⟨go, co, evo, _, _, hgo, hcell, _⟩ := owns_cells H.opn hpos
  obtain ⟨x, hx⟩ : ∃ x, s.nodes[s.inner]? = some x := ⟨s.nodes[s.inner], List.getElem?_eq_getElem hi⟩
  have hscx : s.scope = x.scope := by unfold BS.scope; rw [hx]
  obtain ⟨g, cn, evn, _, hg, hnc⟩ := nodes_cells H.nodes (by omega)
  obtain ⟨v, hv, hvc⟩ := hnc _ x hx
  obtain ⟨m, rfl⟩ := hv.one
  have cs : w.cell? ⟨g, s.inner * 9 + 8, none⟩ = some (.map m) := hvc 8 _ rfl
  have cl : w.cell? ⟨go, k, none⟩ = some (.int .i64 (s.inner : Nat)) := hcell k _ (by unfold intRow; rw [List.getElem?_map, last_opn hk]; rfl)
  have c0 : w.cell? ⟨p, 0, none⟩ = some vn := blk_cell H.blk 0
  have c1 : w.cell? ⟨p, 1, none⟩ = some vo := blk_cell H.blk 1
  have hlt := H.lt
  obtain ⟨aa, cap, eva, hac⟩ := ha
  have hpl : (pairsT t.attrs).length = t.attrs.length := List.length_map ..
  rw [hpl] at eva
  subst eva evn evo
  have HH := hide H
  have HA : Hid (PairsArg w (.slice aa t.attrs.length cap) (pairsT t.attrs)) := hide ⟨aa, cap, by rw [hpl], hac⟩
  have HL := hide hl
  have HQ := hide hq
  have HE := hide hE
  have HV := hide hv
  have HEL : Hid (s.element t = s.elementAt x.scope t) := hide (by unfold BS.element; rw [hscx])
  rw [hscx] at hsc
  clear hac hl hq hE hv hvc hnc hcell hx hscx H
  rw [← hk] at c1 hon HH ⊢
  have HK := hide hk
  have HK2 := hide hk2
  clear hk hk2 hpos
  have m1 : (s.inner : Int) < (s.nodes.length : Int) := by omega
  have m2 : (0 : Int) ≤ (s.inner : Int) := by omega
  have m3 : (k : Int) < ((k + 1 : Nat) : Int) := by omega
  have m4 : (0 : Int) ≤ (k : Int) := by omega
  have HWI := hide (fun W (hb : Below w.heap.size w W) => with_any B (.map m) (.slice aa t.attrs.length cap) x.scope t.attrs W ((unhide HV).on hb) ((unhide HA).below hb) (unhide HL) (by omega) (by omega) (Nat.le_trans hB hb.size))
  have HEX := hide (fun (vi : Value) (inner : Sc) W (hb : Below w.heap.size w W) (hs : ScV W B vi inner) => expand_any B vi inner t.name W hs htn htq htz ((unhide HE).below hb))
  have HAT := hide (fun (vi : Value) (inner : Sc) W (hb : Below w.heap.size w W) (hs : ScV W B vi inner) => scAttributes_any B vi (.slice aa t.attrs.length cap) inner t.attrs W hs ((unhide HA).below hb) (unhide HL) (unhide HQ) (by omega) ((unhide HE).below hb))
  have hbx : (w.alloc (.cells #[.int .i64 (t.kind : Nat), .string (T t.name), .slice aa t.attrs.length cap, .string (T t.text)] 26 (0, 0))).heap[w.heap.size]? = some (.cells #[.int .i64 (t.kind : Nat), .string (T t.name), .slice aa t.attrs.length cap, .string (T t.text)] 26 (0, 0)) := alloc_new _ _
  have HBX := hide hbx
  have hb00 : Below w.heap.size w (w.alloc (.cells #[.int .i64 (t.kind : Nat), .string (T t.name), .slice aa t.attrs.length cap, .string (T t.text)] 26 (0, 0))) := (Below.refl _ _).alloc (Nat.le_refl _) _
  clear hbx
  go_enter Tryz.func69, Tryz.ntmps69
  go_wp2_with fail
  go_region
  clear cs cl c0 c1
  go_wp2_with fail
  refine (unhide HWI _ hb00.drew).mono ?_
  rintro e w1 ⟨hW, hb1⟩
  have hb01 := Below.then hb00.drew hb1
  have hbx1 := block_below (show (w.alloc (.cells #[.int .i64 (t.kind : Nat), .string (T t.name), .slice aa t.attrs.length cap, .string (T t.text)] 26 (0, 0))).drew.heap[w.heap.size]? = _ from unhide HBX) hb1
  have HBX1 := hide hbx1
  have f0 : w1.cell? ⟨w.heap.size, 0, none⟩ = some (.int .i64 (t.kind : Nat)) := blk_cell hbx1 0
  have f1 : w1.cell? ⟨w.heap.size, 1, none⟩ = some (.string (T t.name)) := blk_cell hbx1 1
  have f2 : w1.cell? ⟨w.heap.size, 2, none⟩ = some (.slice aa t.attrs.length cap) := blk_cell hbx1 2
  clear hbx1
  cases hwd : withD x.scope t.attrs with
  | none =>
    rw [hwd] at hW
    have HEQ : Hid (s.element t = .error 7) := hide (by rw [unhide HEL]; unfold BS.elementAt; rw [hwd])
    have hW' : e = .returned (.tuple #[.map none, .bool false]) := hW
    subst hW'
    clear hW hwd
    go_wp2
    go_returns
    rw [unhide HEQ]
    exact ⟨rfl, hb01.mono hB⟩
  | some inner =>
    rw [hwd] at hW
    obtain ⟨vi, he, hsi⟩ := hW
    subst he
    obtain ⟨mi, rfl⟩ := hsi.one
    have HSI := hide hsi
    clear hsi
    have HEX2 := hide (unhide HEX _ inner _ hb01 (unhide HSI))
    clear HEX HWI
    cases hex : expandD inner t.name with
    | none =>
      rw [hex] at HEX2
      have HEX3 : Hid (Calls Tryz.prog 104 #[.map mi, .string (T t.name)] w1 fun e w' => e = .returned (.tuple #[.agg #[.string ⟨#[]⟩, .string ⟨#[]⟩, .string ⟨#[]⟩], .bool false]) ∧ Below w1.heap.size w1 w') := hide (unhide HEX2)
      have HEQ : Hid (s.element t = .error 7) := hide (by rw [unhide HEL]; unfold BS.elementAt; rw [hwd]; simp only; rw [hex])
      clear hwd hex HEX2 HAT
      go_wp2_with fail
      refine (unhide HEX3).mono ?_
      rintro e w2 ⟨rfl, hb2⟩
      have hb02 := Below.then hb01 hb2
      go_wp2
      go_returns
      rw [unhide HEQ]
      exact ⟨rfl, (hb02.alloc hb02.size _).mono hB⟩
    | some n =>
      rw [hex] at HEX2
      have HEX3 : Hid (Calls Tryz.prog 104 #[.map mi, .string (T t.name)] w1 fun e w' => e = .returned (.tuple #[.agg #[.string (T n.uri), .string (T n.pre), .string (T n.loc)], .bool true]) ∧ Below w1.heap.size w1 w') := hide (unhide HEX2)
      have HEQ : Hid (s.element t = match attributesD inner t.attrs with | .error e => .error e | .ok ns => .ok (ns.foldl BS.leaf (s.begin (s.placed ⟨2, n, [], 0, 0, 0, inner⟩)))) := hide (by rw [unhide HEL]; unfold BS.elementAt; rw [hwd]; simp only; rw [hex]; cases attributesD inner t.attrs <;> rfl)
      clear hwd hex HEX2
      go_wp2_with fail
      refine (unhide HEX3).mono ?_
      rintro e w2 ⟨rfl, hb2⟩
      have hb02 := Below.then hb01 hb2
      have hbN : Below w2.heap.size w2 (w2.alloc (.cells #[.string (T n.uri), .string (T n.pre), .string (T n.loc)] 47 (0, 0))) := (Below.refl _ _).alloc (Nat.le_refl _) _
      have hb03 := Below.then hb02 hbN
      have hsi3 := ((unhide HSI).on hb2).on hbN
      have HSI3 := hide hsi3
      have HAT2 := hide (unhide HAT _ inner _ hb03 hsi3)
      have hbx2 := block_below (unhide HBX1) hb2
      have HBX2 := hide hbx2
      have f0 : w2.cell? ⟨w.heap.size, 0, none⟩ = some (.int .i64 (t.kind : Nat)) := blk_cell hbx2 0
      have f2 : w2.cell? ⟨w.heap.size, 2, none⟩ = some (.slice aa t.attrs.length cap) := blk_cell hbx2 2
      have hltb : w.heap.size < w2.heap.size := (Array.getElem?_eq_some_iff.1 hbx2).1
      clear hbx2 hsi3 HAT HEX3 f1
      go_wp2_with fail
      refine (unhide HAT2).mono ?_
      rintro e w3 ⟨hO, hb3⟩
      have hb04 := Below.then hb03 hb3
      cases hat : attributesD inner t.attrs with
      | error q =>
        rw [hat] at hO HEQ
        have hO' : e = .returned (.tuple #[.slice none 0 0, .int .i64 (q : Nat)]) := hO
        subst hO'
        rcases attr_errs hat with rfl | rfl
        all_goals
          clear hO hat
          go_wp2
          go_returns
          rw [unhide HEQ]
          exact ⟨rfl, hb04.mono hB⟩
      | ok ns =>
        rw [hat] at hO HEQ
        obtain ⟨vr, he, hns⟩ := hO
        subst he
        have hbx3 := block_below (block_below (unhide HBX2) hbN) hb3
        have hnb3 := block_below (alloc_new w2 (.cells #[.string (T n.uri), .string (T n.pre), .string (T n.loc)] 47 (0, 0))) hb3
        have f0 : w3.cell? ⟨w.heap.size, 0, none⟩ = some (.int .i64 (t.kind : Nat)) := blk_cell hbx3 0
        have g0 : w3.cell? ⟨w2.heap.size, 0, none⟩ = some (.string (T n.uri)) := blk_cell hnb3 0
        have g1 : w3.cell? ⟨w2.heap.size, 1, none⟩ = some (.string (T n.pre)) := blk_cell hnb3 1
        have g2 : w3.cell? ⟨w2.heap.size, 2, none⟩ = some (.string (T n.loc)) := blk_cell hnb3 2
        have hopl := unhide HK
        have H3 := (unhide HH).on hb04
        have hBw3 : B ≤ w3.heap.size := Nat.le_trans hB hb04.size
        have hsi3 := (unhide HSI3).on hb3
        have HPL := hide (placed_any B p _ _ mi s ⟨t.kind, n, [], 0, 0, 0, inner⟩ w3 H3 ho (by omega))
        have HBG := hide (fun W (hb : Below w3.heap.size w3 W) => begin_any B p _ _ (.map mi) s (s.placed ⟨t.kind, n, [], 0, 0, 0, inner⟩) W (H3.on hb) (show ScV W B (.map mi) inner from hsi3.on hb) (by omega) (by omega) (Nat.le_trans hBw3 hb.size))
        have H3' := hide H3
        have HNS := hide hns
        have HNL : Hid (ns.length ≤ 100000) := hide (by have := attrs_len2 hat; omega)
        obtain ⟨ar, cr, e9⟩ : ∃ ar cr, vr = .slice ar ns.length cr := by
          obtain ⟨vs, _, h2, _⟩ := hns
          exact owns_slice h2
        subst e9
        clear hat hbx3 hnb3 H3 hsi3 hns hopl HSI3 HBX2 HBX1 HBX HAT2
        go_wp2_with fail
        refine (unhide HPL).mono ?_
        rintro e w4 ⟨rfl, hb4⟩
        go_wp2_with fail
        refine (unhide HBG _ hb4).mono ?_
        rintro e w5 ⟨rfl, vn1, vo1, hto⟩
        have HTO := hide hto
        clear hto HPL HBG
        have hpln : (s.placed ⟨t.kind, n, [], 0, 0, 0, inner⟩) = s.placed ⟨2, n, [], 0, 0, 0, inner⟩ := by rw [unhide HK2]
        have hto3 := (BdTo.still (unhide H3') hb4).then (unhide HTO)
        rw [hpln] at hto3
        obtain ⟨S1, hS1⟩ : ∃ S1, S1 = s.begin (s.placed ⟨2, n, [], 0, 0, 0, inner⟩) := ⟨_, rfl⟩
        rw [← hS1] at hto3 HEQ
        have hS1n : S1.nodes.length = s.nodes.length + 1 := by rw [hS1]; show (s.nodes ++ [_]).length = _; rw [List.length_append]; rfl
        have hS1o : S1.opn.length = s.opn.length + 1 := by rw [hS1]; show (s.opn ++ [_]).length = _; rw [List.length_append]; rfl
        have hopl := unhide HK
        have HT3 := hide hto3
        have hnsl : ns.length ≤ 100000 := unhide HNL
        have HS1N := hide hS1n
        have HS1O := hide hS1o
        have hC : (w2.alloc (.cells #[.string (T n.uri), .string (T n.pre), .string (T n.loc)] 47 (0, 0))).heap.size = w2.heap.size + 1 := by simp
        rw [hC] at HNS
        have HLT : Hid (w.heap.size < w2.heap.size) := hide hltb
        clear hto3 hpln hS1 HTO hS1n hS1o hC f0 f2 g0 g1 g2 hb4 hb3
        go_wp2_with fail
        go_loopw [71] (fun i wr => ∃ (j : Nat) (vnk vok : Value), i = .int .i64 (j : Nat) ∧ j ≤ ns.length ∧ BdTo B p (.slice (some ⟨g, 0, none⟩) s.nodes.length cn) (.slice (some ⟨go, 0, none⟩) (k + 1) co) w3 wr vnk vok ((ns.take j).foldl BS.leaf S1)) (fun i _ => ns.length - (intOf i).toNat)
        case atStart => exact ⟨0, vn1, vo1, rfl, Nat.zero_le _, unhide HT3⟩
        case round =>
          clear HT3
          obtain ⟨j, vnk, vok, rfl, hj, htj⟩ := hrel
          have HTJ := hide htj
          by_cases hjl : j < ns.length
          · obtain ⟨y, hy⟩ : ∃ y, ns[j]? = some y := ⟨ns[j], List.getElem?_eq_getElem hjl⟩
            obtain ⟨gr, cr', er, hgr, hgr2, hcs⟩ := nodes_cells (unhide HNS) (by omega)
            cases er
            obtain ⟨v, hv, hvc⟩ := hcs j y hy
            obtain ⟨mm, rfl⟩ := hv.one
            have hkb : wr.heap[gr]? = w3.heap[gr]? := htj.kp.block gr hgr2 (fun hs => by
              obtain ⟨_, _, _, hlt3⟩ := (unhide HH).cells hs
              have := unhide HLT
              omega)
            have hcw : ∀ i u, (nodeCells y (.map mm))[i]? = some u → wr.cell? ⟨gr, j * 9 + i, none⟩ = some u := fun i u hu => by
              have := hvc i u hu
              unfold World.cell? at this ⊢
              rw [hkb]
              exact this
            have b0 : wr.cell? ⟨gr, j * 9, none⟩ = some (.int .i64 (y.kind : Nat)) := hcw 0 _ rfl
            have b1 : wr.cell? ⟨gr, j * 9 + 1, none⟩ = some (.string (T y.name.uri)) := hcw 1 _ rfl
            have b2 : wr.cell? ⟨gr, j * 9 + 2, none⟩ = some (.string (T y.name.pre)) := hcw 2 _ rfl
            have b3 : wr.cell? ⟨gr, j * 9 + 3, none⟩ = some (.string (T y.name.loc)) := hcw 3 _ rfl
            have b4 : wr.cell? ⟨gr, j * 9 + 4, none⟩ = some (.string (T y.text)) := hcw 4 _ rfl
            have b5 : wr.cell? ⟨gr, j * 9 + 5, none⟩ = some (.int .i64 y.parent) := hcw 5 _ rfl
            have b6 : wr.cell? ⟨gr, j * 9 + 6, none⟩ = some (.int .i64 (y.fin : Nat)) := hcw 6 _ rfl
            have b7 : wr.cell? ⟨gr, j * 9 + 7, none⟩ = some (.int .i64 (y.deep : Nat)) := hcw 7 _ rfl
            have b8 : wr.cell? ⟨gr, j * 9 + 8, none⟩ = some (.map mm) := hcw 8 _ rfl
            have n1 : (0 : Int) ≤ (j : Int) := by omega
            have n2 : (j : Int) < (ns.length : Int) := by omega
            obtain ⟨hlo, hln⟩ := leafs_opn (ns.take j) S1
            rw [List.length_take] at hln
            have e1 := unhide HS1N
            have e2 := unhide HS1O
            have HLF := hide (fun W (hb : Below wr.heap.size wr W) => leaf_any B p vnk vok (.map mm) ((ns.take j).foldl BS.leaf S1) y W (htj.bd.on hb) ((htj.sc (unhide H3') (hv.low (by omega))).on hb) (by rw [hlo]; intro h0; rw [h0] at e2; simp at e2) (by omega) (by rw [hlo]; omega) (Nat.le_trans (by have := htj.kp.size; omega) hb.size))
            have HFO : Hid ((ns.take (j + 1)).foldl BS.leaf S1 = ((ns.take j).foldl BS.leaf S1).leaf y) := hide (by
              rw [List.take_succ_eq_append_getElem hjl, List.foldl_append, (List.getElem?_eq_some_iff.1 hy).2]
              rfl)
            clear hcw hvc hcs hv hkb hy hlo hln e1 e2 htj
            go_wp2_with fail
            refine (unhide HLF _ ((Below.refl _ _).alloc (Nat.le_refl _) _)).mono ?_
            rintro e w6 ⟨rfl, vn2, vo2, hto2⟩
            have HT2 := hide hto2
            clear hto2
            go_wp2_with fail
            refine ⟨⟨j + 1, vn2, vo2, by simp, by omega, ?_⟩, by simp [intOf]; omega⟩
            rw [unhide HFO]
            exact ((unhide HTJ).then (BdTo.still (unhide HTJ).bd ((Below.refl _ _).alloc (Nat.le_refl _) _))).then (unhide HT2)
          · have n2 : ¬ (j : Int) < (ns.length : Int) := by omega
            have hjn : ns.take j = ns := by rw [show j = ns.length by omega, List.take_length]
            have HJN := hide hjn
            clear hjn htj
            go_wp2
            go_returns
            rw [unhide HEQ]
            refine ⟨rfl, vnk, vok, ?_⟩
            have h := unhide HTJ
            rw [unhide HJN] at h
            have h2 := (BdTo.still (unhide HH) hb04).then h
            rw [unhide HK] at h2
            exact h2
end Go.Proofs.YtjjggncbhenffaaGreatDoor
/- A token more: xdm's add. -/
namespace Go.Proofs.YtjjggncbhenffaaGreatDoor
open Go.RowKit Go.Maps
/-- A token as add takes it. -/
structure TokOk (t : XTok) : Prop where
  a : OkAt t.attrs
  q : t.kind = 2 → (∀ x ∈ t.attrs, isQ x.1 = true) ∧ t.attrs.length ≤ 64 ∧ okL t.name ∧ isQ t.name = true ∧ (T t.name).size ≤ 1048576
structure StOk (s : BS) : Prop where
  o : s.opn ≠ []
  i : s.inner < s.nodes.length
  n : s.nodes.length ≤ 700000
  p : s.opn.length ≤ 700000
  c : s.scope.length ≤ 400000
set_option maxRecDepth 100000 in
set_option maxHeartbeats 4000000 in
theorem bdAdd_any (B p : Nat) (vn vo va : Value) (s : BS) (t : XTok) (w : World) (H : Bd w B p vn vo s) (ha : PairsArg w va (pairsT t.attrs)) (ht : TokOk t) (hs : StOk s) (hB : B ≤ w.heap.size) (hE : Env w) :
    Calls Tryz.prog 34 #[.pointer (some ⟨p, 0, none⟩), .agg #[.int .i64 (t.kind : Nat), .string (T t.name), va, .string (T t.text)]] w fun e w' => ElemOut B p vn vo w w' (s.add t) e := by
  have hsn := hs.n
  have hsp := hs.p
  have HA := hide ha
  obtain ⟨aa, cap, rfl, _⟩ := ha
  have hpl : (pairsT t.attrs).length = t.attrs.length := List.length_map ..
  rw [hpl] at HA ⊢
  have hb0 : Below w.heap.size w (w.alloc (.cells #[.int .i64 (t.kind : Nat), .string (T t.name), .slice aa t.attrs.length cap, .string (T t.text)] 26 (0, 0))) := (Below.refl _ _).alloc (Nat.le_refl _) _
  by_cases h2 : t.kind = 2
  · have HEQ : Hid (s.add t = s.element t) := hide (by unfold BS.add; rw [if_pos h2])
    obtain ⟨q1, q2, q3, q4, q5⟩ := ht.q h2
    have HEL := hide (fun W (hb : Below w.heap.size w W) => element_any B p vn vo (.slice aa t.attrs.length cap) s t W (H.on hb) ((unhide HA).below hb) ht.a q1 q2 h2 q3 q4 q5 hs.o hs.i (by omega) (by omega) hs.c (Nat.le_trans hB hb.size) (hE.below hb))
    have HH := hide H
    have hk : ((t.kind : Int) == 2) = true := by rw [h2]; rfl
    clear H h2 ht hs hE
    go_enter Tryz.func34, Tryz.ntmps34
    go_wp2_with fail
    refine (unhide HEL _ hb0).mono ?_
    rintro e w1 hO
    cases hel : s.element t with
    | error n =>
      rw [hel] at hO
      obtain ⟨rfl, hb1⟩ := hO
      go_wp2
      go_returns
      rw [unhide HEQ, hel]
      exact ⟨rfl, (hb0.mono hB).trans hb1⟩
    | ok s' =>
      rw [hel] at hO
      obtain ⟨rfl, vn', vo', hto⟩ := hO
      have HT := hide hto
      clear hto
      go_wp2
      go_returns
      rw [unhide HEQ, hel]
      exact ⟨rfl, vn', vo', (BdTo.still (unhide HH) hb0).then (unhide HT)⟩
  · have k2 : ((t.kind : Int) == 2) = false := by simpa using (by omega : ¬ (t.kind : Int) = 2)
    by_cases h7 : t.kind = 7
    · have HEQ : Hid (s.add t = .ok s.finish) := hide (by unfold BS.add; rw [if_neg h2, if_pos h7])
      have k7 : ((t.kind : Int) == 7) = true := by rw [h7]; rfl
      have HFI := hide (finish_any B p vn vo s _ (H.on hb0) hs.o hs.i (by omega) (by omega))
      have HH := hide H
      clear H h2 h7 ht hs hE
      go_enter Tryz.func34, Tryz.ntmps34
      go_wp2_with fail
      refine (unhide HFI).mono ?_
      rintro e w1 ⟨rfl, vn', vo', hto⟩
      have HT := hide hto
      clear hto
      go_wp2
      go_returns
      rw [unhide HEQ]
      exact ⟨rfl, vn', vo', (BdTo.still (unhide HH) hb0).then (unhide HT)⟩
    · have k7 : ((t.kind : Int) == 7) = false := by simpa using (by omega : ¬ (t.kind : Int) = 7)
      by_cases h6 : t.kind = 6
      · have HEQ : Hid (s.add t = .ok (s.leaf ⟨t.kind, ⟨[], [], t.name⟩, t.text, 0, 0, 0, []⟩)) := hide (by unfold BS.add; rw [if_neg h2, if_neg h7, if_pos h6, h6])
        have k6 : ((t.kind : Int) == 6) = true := by rw [h6]; rfl
        have HLF0 := hide (fun W (hb : Below w.heap.size w W) => leaf_any B p vn vo (.map none) s ⟨t.kind, ⟨[], [], t.name⟩, t.text, 0, 0, 0, []⟩ W (H.on hb) (ScV.nil W B) hs.o (by omega) (by omega) (Nat.le_trans hB hb.size))
        have HLF : Hid (∀ W, Below w.heap.size w W → Calls Tryz.prog 70 #[.pointer (some ⟨p, 0, none⟩), .agg #[.int .i64 (t.kind : Nat), .string ⟨#[]⟩, .string ⟨#[]⟩, .string (T t.name), .string (T t.text), .int .i64 0, .int .i64 0, .int .i64 0, .map none]] W fun e w' => e = .returned (.tuple #[]) ∧ ∃ vn' vo', BdTo B p vn vo W w' vn' vo' (s.leaf ⟨t.kind, ⟨[], [], t.name⟩, t.text, 0, 0, 0, []⟩)) := hide (unhide HLF0)
        have HH := hide H
        clear H h2 h7 h6 ht hs hE HLF0
        go_enter Tryz.func34, Tryz.ntmps34
        go_wp2_with fail
        refine (unhide HLF _ hb0).mono ?_
        rintro e w1 ⟨rfl, vn', vo', hto⟩
        have HT := hide hto
        clear hto
        go_wp2
        go_returns
        rw [unhide HEQ]
        exact ⟨rfl, vn', vo', (BdTo.still (unhide HH) hb0).then (unhide HT)⟩
      · have k6 : ((t.kind : Int) == 6) = false := by simpa using (by omega : ¬ (t.kind : Int) = 6)
        have HEQ : Hid (s.add t = .ok (s.leaf ⟨t.kind, nm0, t.text, 0, 0, 0, []⟩)) := hide (by unfold BS.add; rw [if_neg h2, if_neg h7, if_neg h6])
        have HLF0 := hide (fun W (hb : Below w.heap.size w W) => leaf_any B p vn vo (.map none) s ⟨t.kind, nm0, t.text, 0, 0, 0, []⟩ W (H.on hb) (ScV.nil W B) hs.o (by omega) (by omega) (Nat.le_trans hB hb.size))
        have HLF : Hid (∀ W, Below w.heap.size w W → Calls Tryz.prog 70 #[.pointer (some ⟨p, 0, none⟩), .agg #[.int .i64 (t.kind : Nat), .string ⟨#[]⟩, .string ⟨#[]⟩, .string ⟨#[]⟩, .string (T t.text), .int .i64 0, .int .i64 0, .int .i64 0, .map none]] W fun e w' => e = .returned (.tuple #[]) ∧ ∃ vn' vo', BdTo B p vn vo W w' vn' vo' (s.leaf ⟨t.kind, nm0, t.text, 0, 0, 0, []⟩)) := hide (unhide HLF0)
        have HH := hide H
        clear H h2 h7 h6 ht hs hE HLF0
        go_enter Tryz.func34, Tryz.ntmps34
        go_wp2_with fail
        refine (unhide HLF _ hb0).mono ?_
        rintro e w1 ⟨rfl, vn', vo', hto⟩
        have HT := hide hto
        clear hto
        go_wp2
        go_returns
        rw [unhide HEQ]
        exact ⟨rfl, vn', vo', (BdTo.still (unhide HH) hb0).then (unhide HT)⟩
end Go.Proofs.YtjjggncbhenffaaGreatDoor
/- Whether tokens are past a tree's limits: xdm's pastLimits. -/
namespace Go.Proofs.YtjjggncbhenffaaGreatDoor
open Go.RowKit
def pastGo : Int → Bool → List BTok → Bool
  | _, p, [] => p
  | d, p, t :: ts => if t.kind = 2 then pastGo (d + 1) (p || (decide (32 < d + 1) || decide (64 < t.attrs.length))) ts else if t.kind = 7 then pastGo (d - 1) p ts else pastGo d p ts
def pastD (ts : List BTok) : Bool := pastGo 0 (decide (4096 < ts.length)) ts
theorem pastGo_cons (d : Int) (p : Bool) (t : BTok) (ts : List BTok) : pastGo d p (t :: ts) = if t.kind = 2 then pastGo (d + 1) (p || (decide (32 < d + 1) || decide (64 < t.attrs.length))) ts else if t.kind = 7 then pastGo (d - 1) p ts else pastGo d p ts := rfl
structure PstSt (w : World) (ts : List BTok) (k : Nat) (d : Int) (p : Bool) (w' : World) : Prop where
  le : k ≤ ts.length
  bel : Below w.heap.size w w'
  d1 : -(k : Int) ≤ d
  d2 : d ≤ k
  spec : pastD ts = pastGo d p (ts.drop k)
set_option maxRecDepth 100000 in
set_option maxHeartbeats 4000000 in
theorem xdmPast_any (ts : List BTok) (a : Option Addr) (cap : Nat) (w : World) (hv : ToksArg w a ts) (hn : ts.length ≤ 1048576) :
    Calls Tryz.prog 32 #[.slice a ts.length cap] w fun e w' => e = .returned (.bool (pastD ts)) ∧ Below w.heap.size w w' := by
  have HV := hide hv
  have HI0 : Hid (PstSt w ts 0 0 (decide (4096 < ts.length)) w) := hide ⟨Nat.zero_le _, Below.refl _ _, by omega, by omega, rfl⟩
  clear hv
  go_enter Tryz.func32, Tryz.ntmps32
  go_wp2_with fail
  go_loopw [3, 4, 12] (fun s3 s4 i wr => ∃ (k : Nat) (d : Int) (p : Bool), i = .int .i64 (k : Nat) ∧ s3 = .int .i64 d ∧ s4 = .bool p ∧ PstSt w ts k d p wr) (fun _ _ i _ => ts.length - (intOf i).toNat)
  case atStart =>
    refine ⟨0, 0, decide (4096 < ts.length), rfl, rfl, ?_, unhide HI0⟩
    congr 1
    exact decide_eq_decide.2 (by omega)
  case round =>
    clear HI0
    obtain ⟨k, d, p, rfl, rfl, rfl, hI⟩ := hrel
    have hk := hI.le
    have hbr := hI.bel
    have d1 := hI.d1
    have d2 := hI.d2
    by_cases hlt : k < ts.length
    · obtain ⟨t, ht⟩ : ∃ t, ts[k]? = some t := ⟨ts[k], List.getElem?_eq_getElem hlt⟩
      obtain ⟨g, oo, ha, hc⟩ := ((unhide HV).below hbr) (by intro h0; rw [h0] at hlt; cases hlt)
      subst ha
      obtain ⟨c0, c1, ⟨v, c2, hpv⟩, c3⟩ := hc k t ht
      obtain ⟨va, vc, hve, _⟩ := id hpv
      subst hve
      have n1 : (0 : Int) ≤ (k : Int) := by omega
      have n2 : (k : Int) < (ts.length : Int) := by omega
      have hdr : ts.drop k = t :: ts.drop (k + 1) := by
        rw [← List.getElem_cons_drop hlt]
        congr 1
        exact (List.getElem?_eq_some_iff.1 ht).2
      have hspec := hI.spec
      rw [hdr, pastGo_cons] at hspec
      have hbA : Below wr.heap.size wr (wr.alloc (.cells #[.int .i64 t.kind, .string t.name, .slice va t.attrs.length vc, .string t.text] 26 (0, 0))) := (Below.refl _ _).alloc (Nat.le_refl _) _
      have hb0 := Below.then hbr hbA
      obtain ⟨kd, nm, ats, tx'⟩ := t
      simp only at *
      clear hI hc hdr ht hpv hbA
      by_cases k2 : kd = 2
      · subst k2
        rw [if_pos rfl] at hspec
        have HI2 : Hid (PstSt w ts (k + 1) (d + 1) (p || (decide (32 < d + 1) || decide (64 < ats.length))) (wr.alloc (.cells #[.int .i64 2, .string nm, .slice va ats.length vc, .string tx'] 26 (0, 0)))) := hide ⟨by omega, hb0, by omega, by omega, hspec⟩
        have e1 : wrap64 (d + 1) = d + 1 := by unfold wrap64; omega
        clear hspec
        cases p
        · by_cases hd : 32 < d + 1
          · rw [decide_eq_true hd, Bool.true_or, Bool.false_or] at HI2
            go_wp2_with fail
            go_round
            case measure => simp [intOf]; omega
            case rel => exact ⟨k + 1, d + 1, true, by simp, rfl, rfl, unhide HI2⟩
          · rw [decide_eq_false hd, Bool.false_or, Bool.false_or] at HI2
            by_cases hl : 64 < ats.length
            · have hl' : (64 : Int) < (ats.length : Int) := by omega
              rw [decide_eq_true hl] at HI2
              go_wp2_with fail
              go_round
              case measure => simp [intOf]; omega
              case rel => exact ⟨k + 1, d + 1, true, by simp, rfl, rfl, unhide HI2⟩
            · have hl' : ¬ (64 : Int) < (ats.length : Int) := by omega
              rw [decide_eq_false hl] at HI2
              go_wp2_with fail
              go_round
              case measure => simp [intOf]; omega
              case rel => exact ⟨k + 1, d + 1, false, by simp, rfl, rfl, unhide HI2⟩
        · rw [Bool.true_or] at HI2
          go_wp2_with fail
          go_round
          case measure => simp [intOf]; omega
          case rel => exact ⟨k + 1, d + 1, true, by simp, rfl, rfl, unhide HI2⟩
      · rw [if_neg k2] at hspec
        have g2 : (kd == 2) = false := by simpa using k2
        by_cases k7 : kd = 7
        · subst k7
          rw [if_pos rfl] at hspec
          have HI2 : Hid (PstSt w ts (k + 1) (d - 1) p (wr.alloc (.cells #[.int .i64 7, .string nm, .slice va ats.length vc, .string tx'] 26 (0, 0)))) := hide ⟨by omega, hb0, by omega, by omega, hspec⟩
          have e1 : wrap64 (d - 1) = d - 1 := by unfold wrap64; omega
          clear hspec
          go_wp2_with fail
          go_round
          case measure => simp [intOf]; omega
          case rel => exact ⟨k + 1, d - 1, p, by simp, rfl, rfl, unhide HI2⟩
        · have g7 : (kd == 7) = false := by simpa using k7
          rw [if_neg k7] at hspec
          have HI2 : Hid (PstSt w ts (k + 1) d p (wr.alloc (.cells #[.int .i64 kd, .string nm, .slice va ats.length vc, .string tx'] 26 (0, 0)))) := hide ⟨by omega, hb0, by omega, by omega, hspec⟩
          clear hspec k2 k7
          go_wp2_with fail
          go_round
          case measure => simp [intOf]; omega
          case rel => exact ⟨k + 1, d, p, by simp, rfl, rfl, unhide HI2⟩
    · have n2 : ¬ (k : Int) < (ts.length : Int) := by omega
      have hkl : k = ts.length := by omega
      have hsp := hI.spec
      rw [hkl, List.drop_length] at hsp
      have HSP : Hid (pastD ts = p) := hide hsp
      clear hI hsp
      go_wp2
      go_ret
      exact ⟨ret_bool (unhide HSP).symm, hbr⟩
end Go.Proofs.YtjjggncbhenffaaGreatDoor
/- Text, comments and instructions as tokens: xmlscan's tellComment, tellInstruction, roomForRun, plain, section. -/
namespace Go.Proofs.YtjjggncbhenffaaGreatDoor
open Go.RowKit
/-- What always holds of a reader's state. -/
structure Good (s : RS) : Prop where
  fine : Fine s
  n1 : s.toks.length ≤ 4096
  n2 : s.run ≠ [] → s.toks.length < 4096
  okr : okL s.run
  rl : (tx s.run).length ≤ s.place + s.spent
  sp : s.spent ≤ 32768
theorem Good.adv {s : RS} (h : Good s) (n : Nat) : Good (s.adv n) :=
  ⟨h.fine.adv n, h.n1, h.n2, h.okr, by have := h.rl; have e := place_adv s n; show (tx s.run).length ≤ (s.adv n).place + s.spent; omega, h.sp⟩
theorem Good.to {s s' : RS} (h : Good s) (ha : Adv s s') : Good s' := by
  obtain ⟨k, rfl⟩ := ha
  exact h.adv k
theorem Good.flush {s : RS} (h : Good s) : s.flush.toks.length ≤ 4096 := by
  by_cases hr : s.run = []
  · rw [(flush_eq s).1 hr]; exact h.n1
  · rw [(flush_eq s).2 hr]
    have := h.n2 hr
    simp; omega
theorem Good.pos {s : RS} (h : Good s) (hr : s.run ≠ []) : 0 < (tx s.run).length := Nat.pos_of_ne_zero fun h0 => hr (tx_len_zero h.okr h0)
theorem Good.tell {s s' : RS} {t : XTok} {pl : Nat} (h : Good s) (ht : s.tell t pl = .ok s') : Good s' ∧ s'.run = [] ∧ s'.pre = s.pre ∧ s'.rest = s.rest ∧ s'.ents = s.ents ∧ s'.opn = s.opn ∧ s'.spent = s.spent := by
  rw [tell_eq] at ht
  split at ht
  · cases ht
  · rename_i hne
    cases ht
    have hf := h.flush
    by_cases hr : s.run = []
    · have e := (flush_eq s).1 hr
      rw [e] at hne hf ⊢
      refine ⟨⟨⟨h.fine.ok, h.fine.le⟩, ?_, fun hx => absurd hr hx, h.okr, h.rl, h.sp⟩, hr, rfl, rfl, rfl, rfl, rfl⟩
      show (s.toks ++ [t]).length ≤ 4096
      rw [List.length_append, List.length_singleton]
      omega
    · have e := (flush_eq s).2 hr
      rw [e] at hne hf ⊢
      refine ⟨⟨⟨h.fine.ok, h.fine.le⟩, ?_, fun hx => absurd rfl hx, fun c hc => (by cases hc), Nat.zero_le _, h.sp⟩, rfl, rfl, rfl, rfl, rfl, rfl⟩
      show ((s.toks ++ [(⟨4, [], [], s.run⟩ : XTok)]) ++ [t]).length ≤ 4096
      simp at hne hf ⊢
      omega
theorem outP_low {o : Except Er RS} {B p m : Nat} {e : Ending} {w w1 w' : World} (h : Below B w w1) (ho : outP o B p m e w1 w') : outP o B p m e w w' := ⟨h.trans ho.1, ho.2⟩
theorem outP_form {o : Except Er RS} {B p m : Nat} {e : Ending} {w w' : World} (ho : outP o B p m e w w') : ∃ b, e = .returned (.bool b) ∧ outP o B p m (.returned (.bool b)) w w' := by
  obtain ⟨h1, h2⟩ := ho
  cases o with
  | error c => obtain ⟨rfl, h3⟩ := h2; exact ⟨false, rfl, h1, rfl, h3⟩
  | ok s => obtain ⟨rfl, h3⟩ := h2; exact ⟨true, rfl, h1, rfl, h3⟩
theorem moved_blk {w w' : World} {B p m k : Nat} {vo vt vr : Value} {s : RS} (R : Rd w B p m vo vt vr s) (hm : Moves p k w w') : ∃ c, w'.heap[p]? = some (.cells c 131 (0, 0)) ∧ c.size = 10 :=
  ⟨_, hm.own R.blk, by simp [rdArr]⟩
set_option maxHeartbeats 1000000 in
theorem tellComment_any (B p m : Nat) (vo vt vr : Value) (s : RS) (w : World) (R : Rd w B p m vo vt vr s) (hG : Good s) (hE : XEnv B w) (hs : s.sees [60, 33, 45, 45] = true) :
    Calls Tryz.prog 118 #[.pointer (some ⟨p, 0, none⟩)] w fun e w' => outP s.tellComment B p m e w w' := by
  have hlow := R.low
  have hlt := R.lt
  have c1 : w.cell? ⟨p, 1, none⟩ = some (.int .i64 (s.place : Nat)) := R.at.pos
  have HD : Hid (s.tellComment = match s.comment with | none => .error (5, s.place) | some (t, s1) => s1.tell ⟨5, [], [], t⟩ s.place) := hide rfl
  go_enter Tryz.func118, Tryz.ntmps118
  go_wp2_with fail
  refine (comment_any B p s _ R.at hG.fine hE hlow hs).mono ?_
  intro e w1 hq
  cases hc : s.comment with
  | none =>
    rw [hc] at hq
    obtain ⟨y, k, rfl, hm⟩ := hq
    obtain ⟨c, hcb, hcs⟩ := moved_blk R hm
    have HEQ : Hid (s.tellComment = .error (5, s.place)) := hide (by rw [unhide HD, hc])
    have hb1 := hm.low hlow (by omega)
    clear hc
    go_wp2_with (go_at_call 123; refine (fail_rd B p 5 s.place _ hcb hcs hlow).mono ?_; rintro e w2 ⟨rfl, hw2, hb2⟩)
    go_ret
    rw [unhide HEQ]
    exact ⟨hb1.trans hb2, rfl, hw2⟩
  | some xs =>
    obtain ⟨x, s1⟩ := xs
    rw [hc] at hq
    obtain ⟨rfl, hm⟩ := hq
    have hA := Adv.comment hc
    have R1 := R.moved hm hA
    have G1 := hG.to hA
    have HEQ : Hid (s.tellComment = s1.tell ⟨5, [], [], x⟩ s.place) := hide (by rw [unhide HD, hc])
    have hb1 := hm.low hlow (by omega)
    have hB1 : B ≤ w1.heap.size := by have := R1.lt; omega
    have HT := hide (tell_any B p m vo vt vr (.slice none 0 0) s1 ⟨5, [], [], x⟩ s.place w1 R1 (World.ownsRow_nil _ _ _ _) G1.flush G1.pos hB1)
    clear hc
    go_wp2_with (go_at_call 157; refine (unhide HT).mono ?_; intro e w2 ho; obtain ⟨b, rfl, ho⟩ := outP_form ho)
    go_ret
    rw [unhide HEQ]
    exact outP_low hb1 ho
set_option maxRecDepth 100000 in
set_option maxHeartbeats 1000000 in
theorem tellInstruction_any (B p m : Nat) (vo vt vr : Value) (s : RS) (w : World) (R : Rd w B p m vo vt vr s) (hG : Good s) (hE : XEnv B w) (hs : s.sees [60, 63] = true) :
    Calls Tryz.prog 119 #[.pointer (some ⟨p, 0, none⟩)] w fun e w' => outP s.tellInstruction B p m e w w' := by
  have hlow := R.low
  have hlt := R.lt
  have c1 : w.cell? ⟨p, 1, none⟩ = some (.int .i64 (s.place : Nat)) := R.at.pos
  have HD : Hid (s.tellInstruction = match s.instruction with | none => .error (5, s.place) | some (n, t, s1) => s1.tell ⟨6, n, [], t⟩ s.place) := hide rfl
  go_enter Tryz.func119, Tryz.ntmps119
  go_wp2_with fail
  refine (instruction_any B p s _ R.at hG.fine hE hlow hs).mono ?_
  intro e w1 hq
  cases hc : s.instruction with
  | none =>
    rw [hc] at hq
    obtain ⟨y, z, k, rfl, hm⟩ := hq
    obtain ⟨c, hcb, hcs⟩ := moved_blk R hm
    have HEQ : Hid (s.tellInstruction = .error (5, s.place)) := hide (by rw [unhide HD, hc])
    have hb1 := hm.low hlow (by omega)
    clear hc
    go_wp2_with (go_at_call 123; refine (fail_rd B p 5 s.place _ hcb hcs hlow).mono ?_; rintro e w2 ⟨rfl, hw2, hb2⟩)
    go_ret
    rw [unhide HEQ]
    exact ⟨hb1.trans hb2, rfl, hw2⟩
  | some xs =>
    obtain ⟨n, x, s1⟩ := xs
    rw [hc] at hq
    obtain ⟨rfl, hm⟩ := hq
    have hA := (Adv.instruction hc).1
    have R1 := R.moved hm hA
    have G1 := hG.to hA
    have HEQ : Hid (s.tellInstruction = s1.tell ⟨6, n, [], x⟩ s.place) := hide (by rw [unhide HD, hc])
    have hb1 := hm.low hlow (by omega)
    have hB1 : B ≤ w1.heap.size := by have := R1.lt; omega
    have HT : Hid (Calls Tryz.prog 157 #[.pointer (some ⟨p, 0, none⟩), .agg #[.int .i64 6, .string (T n), .slice none 0 0, .string (T x)], .int .i64 (s.place : Nat)] w1 fun e w' => outP (s1.tell ⟨6, n, [], x⟩ s.place) B p m e w1 w') := hide (tell_any B p m vo vt vr (.slice none 0 0) s1 ⟨6, n, [], x⟩ s.place w1 R1 (World.ownsRow_nil _ _ _ _) G1.flush G1.pos hB1)
    clear hc
    go_wp2_with (go_at_call 157; refine (unhide HT).mono ?_; intro e w2 ho; obtain ⟨b, rfl, ho⟩ := outP_form ho)
    go_ret
    rw [unhide HEQ]
    exact outP_low hb1 ho
/-- Where the text's row was written, and all else stands. -/
theorem Rd.ran {W w' : World} {B p m : Nat} {vo vt vr v' : Value} {s : RS} {x : List Nat} (R : Rd W B p m vo vt vr s) (hg : W.grownBy w' vr.ownBlock) (hown : w'.ownsRow B 5 1 v' ((tx s.run).length + (T x).size) (byteCells (tx s.run) ++ Lib.strCells (T x))) :
    Rd (w'.setCell ⟨p, 6, none⟩ v') B p m vo vt v' { s with run := s.run ++ x } ∧ w'.heap[p]? = some (.cells (rdArr s m vo vt vr) 131 (0, 0)) := by
  have hvr : vr.ownBlock ≠ some p := owns_not R.run R.blk (by decide)
  have hp : w'.heap[p]? = some (.cells (rdArr s m vo vt vr) 131 (0, 0)) := by
    rw [hg.block p R.lt (fun e => hvr e.symm)]; exact R.blk
  have hk : ∀ k o, W.heap[k]? = some o → ¬ (vr.ownBlock = some k ∨ k = p) → (w'.setCell ⟨p, 6, none⟩ v').heap[k]? = some o := fun k o ho hs => by
    rw [blk_other (fun e => hs (.inr e)), hg.block k (Array.getElem?_eq_some_iff.1 ho).1 (fun e => hs (.inl e.symm))]; exact ho
  have hrow : ∀ {base : Nat} {e : TypeId} {size : Nat} {v : Value} {n : Nat} {xs : List Value}, W.ownsRow base e size v n xs → e ≠ 5 → e ≠ 131 → (w'.setCell ⟨p, 6, none⟩ v').ownsRow base e size v n xs := fun ho e1 e2 =>
    owns_kept ho hk fun k hk' hs => by
      rcases hs with hs | rfl
      · exact owns_apart ho R.run e1 k hk' hs
      · exact owns_not ho R.blk e2 hk'
  refine ⟨⟨?_, R.low, ?_, hrow R.opn (by decide) (by decide), ?_, ?_⟩, hp⟩
  · rw [blk_set hp]; rfl
  · refine R.ents.kept ?_
    obtain ⟨es, clock, hm⟩ := R.ents.map
    rw [hm]
    refine hk m _ hm fun hs => ?_
    rcases hs with e | e
    · obtain ⟨c, hc⟩ := owns_type R.run e
      rw [hm] at hc
      cases hc
    · exact R.ents.ne R.blk e
  · refine R.toks.kept _ hk fun k c hs => ?_
    rcases hs with e | rfl
    · obtain ⟨c', hc⟩ := owns_type R.run e
      rw [hc]
      exact ⟨fun e => (by cases e), fun e => (by cases e)⟩
    · rw [R.blk]
      exact ⟨fun e => (by cases e), fun e => (by cases e)⟩
  · have e1 : byteCells (tx s.run) ++ Lib.strCells (T x) = byteCells (tx (s.run ++ x)) := by
      rw [tx_append, byteCells_append]
      unfold Lib.strCells byteCells
      rw [T_data]
    have e2 : (tx s.run).length + (T x).size = (tx (s.run ++ x)).length := by rw [T_size, tx_len_app]
    rw [e1, e2] at hown
    exact owns_kept (S := (· = p)) hown (fun k o hk hs => by rw [blk_other hs]; exact hk) fun k hk' hs => by
      subst hs
      exact owns_not hown hp (by decide) hk'
set_option maxHeartbeats 1000000 in
theorem room_any (B p m : Nat) (vo vt vr : Value) (s : RS) (w : World) (R : Rd w B p m vo vt vr s) (hrp : s.run ≠ [] → 0 < (tx s.run).length) :
    Calls Tryz.prog 166 #[.pointer (some ⟨p, 0, none⟩)] w fun e w' => outP s.room B p m e w w' := by
  have hlow := R.low
  have HR := hide R
  have HD : Hid (s.room = if s.run ≠ [] ∧ s.toks.length = 4096 then .error (6, s.runAt) else .ok s) := hide rfl
  have HFR := hide (fail_rd B p 6 s.runAt w R.blk rfl hlow)
  obtain ⟨vs, _, hrow, _⟩ := R.toks
  obtain ⟨at', ct, rfl⟩ := owns_slice hrow
  obtain ⟨ar, cr, rfl⟩ := owns_slice R.run
  have c5 : w.cell? ⟨p, 5, none⟩ = some (.slice at' s.toks.length ct) := blk_cell R.blk 5
  have c6 : w.cell? ⟨p, 6, none⟩ = some (.slice ar (tx s.run).length cr) := blk_cell R.blk 6
  have c7 : w.cell? ⟨p, 7, none⟩ = some (.int .i64 (s.runAt : Nat)) := blk_cell R.blk 7
  clear hrow R
  by_cases hr : s.run = []
  · have hz : (tx s.run).length = 0 := by rw [hr]; rfl
    rw [hz] at c6
    have HEQ : Hid (s.room = .ok s) := hide (by rw [unhide HD, if_neg (fun h => h.1 hr)])
    clear hr hz
    go_enter Tryz.func166, Tryz.ntmps166
    go_wp2
    go_ret
    rw [unhide HEQ]
    exact ⟨Below.refl _ _, rfl, _, _, _, unhide HR⟩
  · have hz := hrp hr
    by_cases hf : s.toks.length = 4096
    · have HEQ : Hid (s.room = .error (6, s.runAt)) := hide (by rw [unhide HD, if_pos ⟨hr, hf⟩])
      have hf' : ((s.toks.length : Int) == 4096) = true := by rw [hf]; rfl
      have hz' : 0 < (tx s.run).length := hz
      clear hr hf hz
      go_enter Tryz.func166, Tryz.ntmps166
      go_wp2_with (go_at_call 123; refine (unhide HFR).mono ?_; rintro e w2 ⟨rfl, hw2, hb2⟩)
      go_ret
      rw [unhide HEQ]
      exact ⟨hb2, rfl, hw2⟩
    · have HEQ : Hid (s.room = .ok s) := hide (by rw [unhide HD, if_neg (fun h => hf h.2)])
      have hf' : ((s.toks.length : Int) == 4096) = false := by simpa using (by omega : ¬ (s.toks.length : Int) = 4096)
      have hz' : 0 < (tx s.run).length := hz
      clear hr hf hz
      go_enter Tryz.func166, Tryz.ntmps166
      go_wp2
      go_ret
      rw [unhide HEQ]
      exact ⟨Below.refl _ _, rfl, _, _, _, unhide HR⟩
end Go.Proofs.YtjjggncbhenffaaGreatDoor
