/- Several texts, laid as one. -/
import Derived.Test.YtjjggncbhenffaaGreatDoorGbn
import Derived.Test.YtjjggncbhenffaaGreatDoorGbp
/- The tree of a document's tokens: xdm's Build. -/
namespace Go.Proofs.YtjjggncbhenffaaGreatDoor
open Go.RowKit Go.Maps
theorem owns_lower {w : World} {B B' : Nat} {e : TypeId} {size n : Nat} {v : Value} {xs : List Value} (h : w.ownsRow B e size v n xs) (hB : B' ≤ B) : w.ownsRow B' e size v n xs := by
  refine ⟨h.1, ?_⟩
  rcases h.2 with h2 | ⟨g, cap, cur, h1, h2, h3⟩
  · exact .inl h2
  · exact .inr ⟨g, cap, cur, h1, Nat.le_trans hB h2, h3⟩
/-- A tree in memory. -/
def TreeAt (w : World) (B q : Nat) (ns : List XNode) : Prop := B ≤ q ∧ ∃ vn, w.heap[q]? = some (.cells #[vn] 72 (0, 0)) ∧ Nodes w B vn ns
theorem TreeAt.on {w w' : World} {B q : Nat} {ns : List XNode} (h : TreeAt w B q ns) (hb : Below w.heap.size w w') : TreeAt w' B q ns := by
  obtain ⟨h1, vn, h2, h3⟩ := h
  exact ⟨h1, vn, block_below h2 hb, h3.on hb⟩
def TreeOut (w' : World) (B : Nat) (o : Except Nat (List XNode)) (e : Ending) : Prop := match o with
  | .error n => e = .returned (.tuple #[.pointer none, .int .i64 (n : Nat)])
  | .ok ns => ∃ q, e = .returned (.tuple #[.pointer (some ⟨q, 0, none⟩), .int .i64 0]) ∧ TreeAt w' B q ns
theorem elem_errs {s : BS} {t : XTok} {n : Nat} (h : s.element t = .error n) : n = 7 ∨ n = 8 := by
  unfold BS.element BS.elementAt at h
  split at h
  · cases h; exact .inl rfl
  · split at h
    · cases h; exact .inl rfl
    · split at h
      · rename_i ha
        cases h
        exact attr_errs ha
      · cases h
theorem add_errs {s : BS} {t : XTok} {n : Nat} (h : s.add t = .error n) : n = 7 ∨ n = 8 := by
  unfold BS.add at h
  split at h
  · exact elem_errs h
  · split at h
    · cases h
    · split at h <;> cases h
theorem adds_cons (s : BS) (t : XTok) (l : List XTok) : s.adds (t :: l) = match s.add t with
  | .error e => .error e
  | .ok s1 => s1.adds l := rfl
/-- Where the loop stands. -/
structure BuSt (w : World) (p : Nat) (xs : List XTok) (k : Nat) (s : BS) (vn vo : Value) (w' : World) : Prop where
  le : k ≤ xs.length
  bel : Below w.heap.size w w'
  bd : Bd w' w.heap.size p vn vo s
  spec : BS.start.adds xs = s.adds (xs.drop k)
  inv : ∃ o r q, DocT o r q (xs.drop k) ∧ Inv s o.length k ∧ o.length ≤ 32
set_option maxRecDepth 100000 in
set_option maxHeartbeats 4000000 in
theorem build_any (xs : List XTok) (a : Option Addr) (cap : Nat) (w : World) (hx : DocOk xs) (hv : ToksArg w a (xs.map XTok.b)) (hE : XEnv w.heap.size w) :
    Calls Tryz.prog 9 #[.slice a xs.length cap] w fun e w' => TreeOut w' w.heap.size (treeD xs) e ∧ Below w.heap.size w w' := by
  have hml : (xs.map XTok.b).length = xs.length := List.length_map ..
  have hxl := hx.len
  have HX := hide hx
  have HV := hide hv
  have HE := hide hE
  have HW := hide (write_any (xs.map XTok.b) a cap w hv (by rw [hml]; omega) hx.sm w.heap.size (Nat.le_refl _) hE)
  have HP := hide (fun W (hb : Below w.heap.size w W) => xdmPast_any (xs.map XTok.b) a cap W (hv.below hb) (by rw [hml]; omega))
  rw [hml, hx.past] at HP
  rw [hml] at HW
  obtain ⟨S, c, hR⟩ : ∃ S c, writeR (xs.map XTok.b) = (S, c) := ⟨_, _, rfl⟩
  have hc := hx.write
  rw [hR] at HW hc
  simp only at HW hc
  clear hR hx hv hE
  have HBG := hide (fun (W : World) (p : Nat) (hp : w.heap.size ≤ p) (hb : Below w.heap.size w W) (hq : W.heap[p]? = some (.cells #[.slice none 0 0, .slice none 0 0] 64 (0, 0))) => begin_any w.heap.size p (.slice none 0 0) (.slice none 0 0) (.map none) ⟨[], []⟩ rootN W ⟨hq, hp, Nodes.nil _ _, World.ownsRow_nil _ _ _ _⟩ (ScV.nil W w.heap.size) (by simp) (by simp) hb.size)
  go_enter Tryz.func9, Tryz.ntmps9
  go_wp2_with fail
  refine (unhide HW).mono ?_
  rintro e w1 ⟨rfl, hb1⟩
  clear HW
  go_upto_region 2 with fail
  go_cut [24] (fun v24 wx => v24 = .bool false ∧ Below w.heap.size w wx)
  case first =>
    rcases hc with rfl | rfl
    · go_wp2_with fail
      go_meet
      exact ⟨rfl, hb1⟩
    · go_wp2_with fail
      refine (unhide HP _ hb1).mono ?_
      rintro e w2 ⟨rfl, hb2⟩
      have hb02 := Below.then hb1 hb2
      go_wp2_with fail
      go_meet
      exact ⟨rfl, hb02⟩
  case rest =>
    obtain ⟨rfl, hcut⟩ := hcut
    clear HP hb1 hc
    have hbx : (wc.alloc (.cells #[.slice none 0 0, .slice none 0 0] 64 (0, 0))).heap[wc.heap.size]? = some (.cells #[.slice none 0 0, .slice none 0 0] 64 (0, 0)) := alloc_new _ _
    have hb1 : Below w.heap.size w (wc.alloc (.cells #[.slice none 0 0, .slice none 0 0] 64 (0, 0))) := hcut.alloc hcut.size _
    have HBG2 := hide (unhide HBG _ wc.heap.size hcut.size hb1 hbx)
    have HBG3 : Hid (Calls Tryz.prog 33 #[.pointer (some ⟨wc.heap.size, 0, none⟩), .agg #[.int .i64 1, .string ⟨#[]⟩, .string ⟨#[]⟩, .string ⟨#[]⟩, .string ⟨#[]⟩, .int .i64 (-1), .int .i64 0, .int .i64 0, .map none]] (wc.alloc (.cells #[.slice none 0 0, .slice none 0 0] 64 (0, 0))) fun e w' => e = .returned (.tuple #[]) ∧ ∃ vn' vo', BdTo w.heap.size wc.heap.size (.slice none 0 0) (.slice none 0 0) (wc.alloc (.cells #[.slice none 0 0, .slice none 0 0] 64 (0, 0))) w' vn' vo' BS.start) := hide (unhide HBG2)
    have HB0 : Hid (Bd (wc.alloc (.cells #[.slice none 0 0, .slice none 0 0] 64 (0, 0))) w.heap.size wc.heap.size (.slice none 0 0) (.slice none 0 0) ⟨[], []⟩) := hide ⟨hbx, hcut.size, Nodes.nil _ _, World.ownsRow_nil _ _ _ _⟩
    clear HBG hbx HBG2
    go_wp2_with fail
    refine (unhide HBG3).mono ?_
    rintro e w2 ⟨rfl, vn0, vo0, hto0⟩
    have hb2 : Below w.heap.size w w2 := hb1.trans (hto0.below (unhide HB0) hb1.size)
    have HS0 : Hid (BuSt w wc.heap.size xs 0 BS.start vn0 vo0 w2) := hide ⟨Nat.zero_le _, hb2, hto0.bd, rfl, [], false, 0, (unhide HX).doc, Inv.start, by decide⟩
    clear hto0 HBG3 HB0 hb1 hb2
    generalize wc.heap.size = P at *
    go_wp2_with fail
    go_loopw [30] (fun i wr => ∃ (k : Nat) (s : BS) (vn vo : Value), i = .int .i64 (k : Nat) ∧ BuSt w P xs k s vn vo wr) (fun i _ => xs.length - (intOf i).toNat)
    case atStart => exact ⟨0, BS.start, vn0, vo0, rfl, unhide HS0⟩
    case round =>
      clear HS0
      obtain ⟨k, s, vn, vo, rfl, hI⟩ := hrel
      have hk := hI.le
      obtain ⟨o, r, q, hD, hinv, hol⟩ := hI.inv
      have HI := hide hI
      by_cases hlt : k < xs.length
      · obtain ⟨t, ht⟩ : ∃ t, xs[k]? = some t := ⟨xs[k], List.getElem?_eq_getElem hlt⟩
        have htm := List.mem_of_getElem? ht
        have hdr : xs.drop k = t :: xs.drop (k + 1) := by
          rw [← List.getElem_cons_drop hlt]
          congr 1
          exact (List.getElem?_eq_some_iff.1 ht).2
        rw [hdr] at hD
        have hspec := hI.spec
        rw [hdr, adds_cons] at hspec
        obtain ⟨g, oo, ha, hcc⟩ := ((unhide HV).below hI.bel) (by intro h0; rw [List.map_eq_nil_iff] at h0; rw [h0] at hlt; cases hlt)
        subst ha
        obtain ⟨c0, c1, ⟨v, c2, hpv⟩, c3⟩ := hcc k t.b (by rw [List.getElem?_map, ht]; rfl)
        have hpv' : PairsArg wr v (pairsT t.attrs) := hpv
        obtain ⟨va, vc, hve, _⟩ := id hpv'
        have hpl : (pairsT t.attrs).length = t.attrs.length := List.length_map ..
        rw [hpl] at hve
        subst hve
        have c0' : wr.cell? ⟨g, oo + k * 4, none⟩ = some (.int .i64 (t.kind : Nat)) := c0
        have c1' : wr.cell? ⟨g, oo + k * 4 + 1, none⟩ = some (.string (T t.name)) := c1
        have c3' : wr.cell? ⟨g, oo + k * 4 + 3, none⟩ = some (.string (T t.text)) := c3
        have n1 : (0 : Int) ≤ (k : Int) := by omega
        have n2 : (k : Int) < (xs.length : Int) := by omega
        have hbA : Below wr.heap.size wr (wr.alloc (.cells #[.int .i64 (t.kind : Nat), .string (T t.name), .slice va t.attrs.length vc, .string (T t.text)] 26 (0, 0))) := (Below.refl _ _).alloc (Nat.le_refl _) _
        have hb0 := Below.then hI.bel hbA
        have HAD := hide (bdAdd_any w.heap.size P vn vo (.slice va t.attrs.length vc) s t (wr.alloc (.cells #[.int .i64 (t.kind : Nat), .string (T t.name), .slice va t.attrs.length vc, .string (T t.text)] 26 (0, 0))) (hI.bd.on hbA) (hpv'.below hbA) ((unhide HX).tok htm) (hinv.ok (by omega) (by omega)) hb0.size (((unhide HE).env.below hI.bel).below hbA))
        have HD := hide hD
        have HSP := hide hspec
        have HIN := hide hinv
        clear hcc hI hdr ht hpv hpv' c0 c1 c3 hD hspec hinv htm
        go_wp2_with fail
        refine (unhide HAD).mono ?_
        rintro e w3 hO
        cases had : s.add t with
        | error n =>
          rw [had] at hO
          obtain ⟨rfl, hb3⟩ := hO
          have HEQ : Hid (treeD xs = .error n) := hide (by unfold treeD; rw [unhide HSP, had])
          have hb03 := hb0.trans hb3
          rcases add_errs had with rfl | rfl
          all_goals
            clear had
            go_wp2
            go_returns
            rw [unhide HEQ]
            exact ⟨rfl, hb03⟩
        | ok s' =>
          rw [had] at hO
          obtain ⟨rfl, vn', vo', hto⟩ := hO
          obtain ⟨o', r', q', hD', hinv', hol'⟩ := (unhide HIN).add hol (unhide HD) had
          have hsp := unhide HSP
          rw [had] at hsp
          have hb3 : Below w.heap.size w w3 := hb0.trans (hto.below ((unhide HI).bd.on hbA) hb0.size)
          have HI3 : Hid (BuSt w P xs (k + 1) s' vn' vo' w3) := hide ⟨hlt, hb3, hto.bd, hsp, o', r', q', hD', hinv', hol'⟩
          clear had hto hD' hinv' hsp
          go_wp2_with fail
          exact ⟨⟨k + 1, s', vn', vo', by simp, unhide HI3⟩, by simp [intOf]; omega⟩
      · have n2 : ¬ (k : Int) < (xs.length : Int) := by omega
        have hkl : k = xs.length := by omega
        have hsp := hI.spec
        rw [hkl, List.drop_length] at hsp
        have HEQ : Hid (treeD xs = .ok s.finish.nodes) := hide (by unfold treeD; rw [hsp]; rfl)
        have hok := hinv.ok (by omega) (by omega)
        have HFI := hide (finish_any w.heap.size P vn vo s wr hI.bd hok.o hok.i (by have := hok.n; omega) (by have := hok.p; omega))
        clear hI hsp hkl hD hinv hok
        go_wp2_with fail
        refine (unhide HFI).mono ?_
        rintro e w3 ⟨rfl, vn', vo', hto⟩
        have hb3 : Below w.heap.size w w3 := (unhide HI).bel.trans (hto.below (unhide HI).bd (unhide HI).bel.size)
        have c0 : w3.cell? ⟨P, 0, none⟩ = some vn' := blk_cell hto.bd.blk 0
        have HND := hide hto.bd.nodes
        obtain ⟨an, cn, e0⟩ : ∃ an cn, vn' = .slice an s.finish.nodes.length cn := by
          obtain ⟨vs, _, h2, _⟩ := hto.bd.nodes
          exact owns_slice h2
        subst e0
        clear hto
        go_wp2_with fail
        go_returns
        rw [unhide HEQ]
        exact ⟨⟨_, rfl, hb3.size, _, alloc_new _ _, (unhide HND).on ((Below.refl _ _).alloc (Nat.le_refl _) _)⟩, hb3.alloc hb3.size _⟩
end Go.Proofs.YtjjggncbhenffaaGreatDoor
/- What a tree tells of a node: xdm's Len, node, Kind, Name, Text, Parent. -/
namespace Go.Proofs.YtjjggncbhenffaaGreatDoor
open Go.RowKit Go.Maps
/-- A tree, or none. -/
def TreeV (w : World) (B : Nat) (v : Value) (ns : List XNode) : Prop := (v = .pointer none ∧ ns = []) ∨ ∃ q, v = .pointer (some ⟨q, 0, none⟩) ∧ TreeAt w B q ns
theorem TreeV.on {w w' : World} {B : Nat} {v : Value} {ns : List XNode} (h : TreeV w B v ns) (hb : Below w.heap.size w w') : TreeV w' B v ns := by
  rcases h with h | ⟨q, h1, h2⟩
  · exact .inl h
  · exact .inr ⟨q, h1, h2.on hb⟩
theorem TreeV.none (w : World) (B : Nat) : TreeV w B (.pointer none) [] := .inl ⟨rfl, rfl⟩
/-- A node by its number; of a number that is none one that is nothing. -/
def noNode : XNode := ⟨0, nm0, [], -1, 0, 0, []⟩
def nodeD (ns : List XNode) (n : Int) : XNode := if 0 ≤ n then (ns[n.toNat]?).getD noNode else noNode
set_option maxRecDepth 100000 in
set_option maxHeartbeats 2000000 in
theorem len_any (B : Nat) (v : Value) (ns : List XNode) (w : World) (h : TreeV w B v ns) :
    Calls Tryz.prog 15 #[v] w fun e w' => e = .returned (.int .i64 (ns.length : Nat)) ∧ Below w.heap.size w w' := by
  rcases h with ⟨rfl, rfl⟩ | ⟨q, rfl, hq, vn, hb, vs, _, hrow, _⟩
  · go_enter Tryz.func15, Tryz.ntmps15
    go_wp2
    go_returns
    exact ⟨rfl, Below.refl _ _⟩
  · obtain ⟨a, c, rfl⟩ := owns_slice hrow
    have c0 : w.cell? ⟨q, 0, none⟩ = some (.slice a ns.length c) := blk_cell hb 0
    clear hb hrow
    go_enter Tryz.func15, Tryz.ntmps15
    go_wp2_with fail
    try go_quiet (fail)
    try go_wp2
    go_returns
    exact ⟨rfl, by (repeat first | with_reducible exact Below.refl _ _ | refine Below.drew ?_)⟩
theorem nodeD_low {ns : List XNode} {n : Int} (h : n < 0) : nodeD ns n = noNode := by unfold nodeD; rw [if_neg (by omega)]
theorem nodeD_high {ns : List XNode} {n : Int} (h : (ns.length : Int) ≤ n) : nodeD ns n = noNode := by
  unfold nodeD
  rw [if_pos (by omega), List.getElem?_eq_none (by omega)]
  rfl
theorem nodeD_at {ns : List XNode} {k : Nat} {x : XNode} (h : ns[k]? = some x) : nodeD ns (k : Nat) = x := by
  unfold nodeD
  rw [if_pos (by omega), Int.toNat_natCast, h]
  rfl
theorem ScV.set {w : World} {B p i : Nat} {v u : Value} {s : Sc} {c : Array Value} {t : TypeId} {z : Nat × Nat} (h : ScV w B v s) (hp : w.heap[p]? = some (.cells c t z)) : ScV (w.setCell ⟨p, i, none⟩ u) B v s :=
  h.kept fun b es cl hb _ => by
    rw [blk_other (fun e => by rw [e, hp] at hb; cases hb)]
    exact hb
def NodeOut (w : World) (B : Nat) (x : XNode) (e : Ending) : Prop := ∃ v, e = .returned (.agg (nodeCells x v).toArray) ∧ ScV w B v x.scope
set_option maxRecDepth 100000 in
set_option maxHeartbeats 4000000 in
theorem node_any (B : Nat) (v : Value) (ns : List XNode) (n : Int) (w : World) (h : TreeV w B v ns) :
    Calls Tryz.prog 47 #[v, .int .i64 n] w fun e w' => NodeOut w' B (nodeD ns n) e ∧ Below w.heap.size w w' := by
  have HL := hide (fun W (hb : Below w.heap.size w W) => len_any B v ns W (h.on hb))
  have HH := hide h
  obtain ⟨pv, ev⟩ : ∃ pv, v = .pointer pv := by rcases h with ⟨rfl, _⟩ | ⟨q, rfl, _⟩ <;> exact ⟨_, rfl⟩
  by_cases h0 : n < 0
  · have HD := hide (nodeD_low (ns := ns) h0)
    subst ev
    clear h
    go_enter Tryz.func47, Tryz.ntmps47
    go_wp2_with fail
    go_returns
    rw [unhide HD]
    exact ⟨⟨.map none, rfl, ScV.nil _ _⟩, (Below.refl _ _).alloc (Nat.le_refl _) _⟩
  · obtain ⟨k, rfl⟩ : ∃ k : Nat, n = k := ⟨n.toNat, by omega⟩
    have hb0 : Below w.heap.size w (w.alloc (.cells #[.int .i64 0, .string ⟨#[]⟩, .string ⟨#[]⟩, .string ⟨#[]⟩, .string ⟨#[]⟩, .int .i64 0, .int .i64 0, .int .i64 0, .map none] 69 (0, 0))) := (Below.refl _ _).alloc (Nat.le_refl _) _
    subst ev
    clear h
    go_enter Tryz.func47, Tryz.ntmps47
    go_wp2_with fail
    refine (unhide HL _ hb0).mono ?_
    rintro e w1 ⟨rfl, hb1⟩
    have hb01 := Below.then hb0 hb1
    have hbx := block_below (alloc_new w (.cells #[.int .i64 0, .string ⟨#[]⟩, .string ⟨#[]⟩, .string ⟨#[]⟩, .string ⟨#[]⟩, .int .i64 0, .int .i64 0, .int .i64 0, .map none] 69 (0, 0))) hb1
    have z0 : w1.cell? ⟨w.heap.size, 0, none⟩ = some (.int .i64 0) := blk_cell hbx 0
    have z1 : w1.cell? ⟨w.heap.size, 1, none⟩ = some (.string ⟨#[]⟩) := blk_cell hbx 1
    have z2 : w1.cell? ⟨w.heap.size, 2, none⟩ = some (.string ⟨#[]⟩) := blk_cell hbx 2
    have z3 : w1.cell? ⟨w.heap.size, 3, none⟩ = some (.string ⟨#[]⟩) := blk_cell hbx 3
    have z4 : w1.cell? ⟨w.heap.size, 4, none⟩ = some (.string ⟨#[]⟩) := blk_cell hbx 4
    have z5 : w1.cell? ⟨w.heap.size, 5, none⟩ = some (.int .i64 0) := blk_cell hbx 5
    have z6 : w1.cell? ⟨w.heap.size, 6, none⟩ = some (.int .i64 0) := blk_cell hbx 6
    have z7 : w1.cell? ⟨w.heap.size, 7, none⟩ = some (.int .i64 0) := blk_cell hbx 7
    have z8 : w1.cell? ⟨w.heap.size, 8, none⟩ = some (.map none) := blk_cell hbx 8
    have y0 := blk_open hbx 0
    have y1 := blk_open hbx 1
    have y2 := blk_open hbx 2
    have y3 := blk_open hbx 3
    have y4 := blk_open hbx 4
    have y5 := blk_open hbx 5
    have y6 := blk_open hbx 6
    have y7 := blk_open hbx 7
    have y8 := blk_open hbx 8
    have HBX := hide hbx
    clear hbx
    by_cases hk : k < ns.length
    · obtain ⟨x, hx⟩ : ∃ x, ns[k]? = some x := ⟨ns[k], List.getElem?_eq_getElem hk⟩
      have HD := hide (nodeD_at hx)
      have n1 : (0 : Int) ≤ (k : Int) := by omega
      have n2 : ¬ (ns.length : Int) ≤ (k : Int) := by omega
      have n3 : (k : Int) < (ns.length : Int) := by omega
      rcases (unhide HH).on hb01 with ⟨e0, e1⟩ | ⟨q, eq', hq, vn, hbq, hnd⟩
      · rw [e1] at hk; cases hk
      cases eq'
      obtain ⟨g, cap, e2, hg1, hg2, hcs⟩ := nodes_cells hnd (by omega)
      subst e2
      obtain ⟨u, hu, huc⟩ := hcs k x hx
      obtain ⟨m, rfl⟩ := hu.one
      have c0 : w1.cell? ⟨q, 0, none⟩ = some (.slice (some ⟨g, 0, none⟩) ns.length cap) := blk_cell hbq 0
      have b0 : w1.cell? ⟨g, k * 9, none⟩ = some (.int .i64 (x.kind : Nat)) := huc 0 _ rfl
      have b1 : w1.cell? ⟨g, k * 9 + 1, none⟩ = some (.string (T x.name.uri)) := huc 1 _ rfl
      have b2 : w1.cell? ⟨g, k * 9 + 2, none⟩ = some (.string (T x.name.pre)) := huc 2 _ rfl
      have b3 : w1.cell? ⟨g, k * 9 + 3, none⟩ = some (.string (T x.name.loc)) := huc 3 _ rfl
      have b4 : w1.cell? ⟨g, k * 9 + 4, none⟩ = some (.string (T x.text)) := huc 4 _ rfl
      have b5 : w1.cell? ⟨g, k * 9 + 5, none⟩ = some (.int .i64 x.parent) := huc 5 _ rfl
      have b6 : w1.cell? ⟨g, k * 9 + 6, none⟩ = some (.int .i64 (x.fin : Nat)) := huc 6 _ rfl
      have b7 : w1.cell? ⟨g, k * 9 + 7, none⟩ = some (.int .i64 (x.deep : Nat)) := huc 7 _ rfl
      have b8 : w1.cell? ⟨g, k * 9 + 8, none⟩ = some (.map m) := huc 8 _ rfl
      have HU := hide hu
      clear hcs huc hu hx hbq hnd
      go_wp2_with fail
      refine bodyPost_ret (v := .agg (nodeCells x (.map m)).toArray) (by simp [results, Tryz.results47, go_sem, z0, z1, z2, z3, z4, z5, z6, z7, z8]; rfl) rfl ?_
      rw [unhide HD]
      have s0 := unhide HU
      have p0 := unhide HBX
      have s1 := s0.set (i := 0) (u := (.int .i64 (x.kind : Nat))) p0
      have p1 := blk_set p0 0 (.int .i64 (x.kind : Nat))
      have s2 := s1.set (i := 1) (u := (.string (T x.name.uri))) p1
      have p2 := blk_set p1 1 (.string (T x.name.uri))
      have s3 := s2.set (i := 2) (u := (.string (T x.name.pre))) p2
      have p3 := blk_set p2 2 (.string (T x.name.pre))
      have s4 := s3.set (i := 3) (u := (.string (T x.name.loc))) p3
      have p4 := blk_set p3 3 (.string (T x.name.loc))
      have s5 := s4.set (i := 4) (u := (.string (T x.text))) p4
      have p5 := blk_set p4 4 (.string (T x.text))
      have s6 := s5.set (i := 5) (u := (.int .i64 x.parent)) p5
      have p6 := blk_set p5 5 (.int .i64 x.parent)
      have s7 := s6.set (i := 6) (u := (.int .i64 (x.fin : Nat))) p6
      have p7 := blk_set p6 6 (.int .i64 (x.fin : Nat))
      have s8 := s7.set (i := 7) (u := (.int .i64 (x.deep : Nat))) p7
      have p8 := blk_set p7 7 (.int .i64 (x.deep : Nat))
      have s9 := s8.set (i := 8) (u := (.map m)) p8
      have p9 := blk_set p8 8 (.map m)
      exact ⟨⟨_, rfl, s9⟩, ((((((((hb01.setCell (Nat.le_refl _) _).setCell (Nat.le_refl _) _).setCell (Nat.le_refl _) _).setCell (Nat.le_refl _) _).setCell (Nat.le_refl _) _).setCell (Nat.le_refl _) _).setCell (Nat.le_refl _) _).setCell (Nat.le_refl _) _).setCell (Nat.le_refl _) _⟩
    · have HD := hide (nodeD_high (ns := ns) (n := (k : Nat)) (by omega))
      have n2 : (ns.length : Int) ≤ (k : Int) := by omega
      go_wp2_with fail
      refine bodyPost_ret (v := .agg (nodeCells noNode (.map none)).toArray) (by simp [results, Tryz.results47, go_sem, z0, z1, z2, z3, z4, z5, z6, z7, z8]; rfl) rfl ?_
      rw [unhide HD]
      exact ⟨⟨_, rfl, ScV.nil _ _⟩, ((((((((hb01.setCell (Nat.le_refl _) _).setCell (Nat.le_refl _) _).setCell (Nat.le_refl _) _).setCell (Nat.le_refl _) _).setCell (Nat.le_refl _) _).setCell (Nat.le_refl _) _).setCell (Nat.le_refl _) _).setCell (Nat.le_refl _) _).setCell (Nat.le_refl _) _⟩
end Go.Proofs.YtjjggncbhenffaaGreatDoor
/- What a tree tells of a node: xdm's Kind, Name, Text, Parent, part. -/
namespace Go.Proofs.YtjjggncbhenffaaGreatDoor
open Go.RowKit Go.Maps
theorem TreeV.ptr {w : World} {B : Nat} {v : Value} {ns : List XNode} (h : TreeV w B v ns) : ∃ pv, v = .pointer pv := by
  rcases h with ⟨rfl, _⟩ | ⟨q, rfl, _⟩ <;> exact ⟨_, rfl⟩
theorem node_ex (B : Nat) (v : Value) (ns : List XNode) (n : Int) (w : World) (h : TreeV w B v ns) :
    Calls Tryz.prog 47 #[v, .int .i64 n] w fun e w' => (∃ m, e = .returned (.agg #[.int .i64 ((nodeD ns n).kind : Nat), .string (T (nodeD ns n).name.uri), .string (T (nodeD ns n).name.pre), .string (T (nodeD ns n).name.loc), .string (T (nodeD ns n).text), .int .i64 (nodeD ns n).parent, .int .i64 ((nodeD ns n).fin : Nat), .int .i64 ((nodeD ns n).deep : Nat), .map m]) ∧ ScV w' B (.map m) (nodeD ns n).scope) ∧ Below w.heap.size w w' := by
  refine (node_any B v ns n w h).mono ?_
  rintro e w' ⟨⟨u, rfl, hu⟩, hb⟩
  obtain ⟨m, rfl⟩ := hu.one
  exact ⟨⟨m, rfl, hu⟩, hb⟩
theorem fld0 (a b c d e f g h i : Value) (W : World) : (Instr.field 69 (.agg #[a, b, c, d, e, f, g, h, i]) 0).run Tryz.prog W = .ok a W := by kernel_rfl
theorem fld1 (a b c d e f g h i : Value) (W : World) : (Instr.field 69 (.agg #[a, b, c, d, e, f, g, h, i]) 1).run Tryz.prog W = .ok (.agg #[b, c, d]) W := by kernel_rfl
theorem fld2 (a b c d e f g h i : Value) (W : World) : (Instr.field 69 (.agg #[a, b, c, d, e, f, g, h, i]) 2).run Tryz.prog W = .ok e W := by kernel_rfl
theorem fld3 (a b c d e f g h i : Value) (W : World) : (Instr.field 69 (.agg #[a, b, c, d, e, f, g, h, i]) 3).run Tryz.prog W = .ok f W := by kernel_rfl
theorem fld4 (a b c d e f g h i : Value) (W : World) : (Instr.field 69 (.agg #[a, b, c, d, e, f, g, h, i]) 4).run Tryz.prog W = .ok g W := by kernel_rfl
set_option maxRecDepth 100000 in
set_option maxHeartbeats 2000000 in
theorem trKind_any (B : Nat) (v : Value) (ns : List XNode) (n : Int) (w : World) (h : TreeV w B v ns) :
    Calls Tryz.prog 17 #[v, .int .i64 n] w fun e w' => e = .returned (.int .i64 ((nodeD ns n).kind : Nat)) ∧ Below w.heap.size w w' := by
  have HN := hide (fun W (hb : Below w.heap.size w W) => node_ex B v ns n W (h.on hb))
  obtain ⟨pv, rfl⟩ := h.ptr
  clear h
  generalize nodeD ns n = x at *
  have hfd := fld0
  go_enter Tryz.func17, Tryz.ntmps17
  go_wp2_with fail
  refine (unhide HN _ (Below.refl _ _)).mono ?_
  rintro e w1 ⟨⟨m, rfl, hu⟩, hb1⟩
  clear hu
  go_wp2
  go_returns
  exact ⟨rfl, hb1⟩
set_option maxRecDepth 100000 in
set_option maxHeartbeats 2000000 in
theorem trName_any (B : Nat) (v : Value) (ns : List XNode) (n : Int) (w : World) (h : TreeV w B v ns) :
    Calls Tryz.prog 18 #[v, .int .i64 n] w fun e w' => e = .returned (nmV (nodeD ns n).name) ∧ Below w.heap.size w w' := by
  have HN := hide (fun W (hb : Below w.heap.size w W) => node_ex B v ns n W (h.on hb))
  obtain ⟨pv, rfl⟩ := h.ptr
  clear h
  generalize nodeD ns n = x at *
  have hb0 : Below w.heap.size w (w.alloc (.cells #[.string ⟨#[]⟩, .string ⟨#[]⟩, .string ⟨#[]⟩] 47 (0, 0))) := (Below.refl _ _).alloc (Nat.le_refl _) _
  show Calls _ _ _ w fun e w' => e = .returned (.agg #[.string (T x.name.uri), .string (T x.name.pre), .string (T x.name.loc)]) ∧ Below w.heap.size w w'
  have hfd := fld1
  go_enter Tryz.func18, Tryz.ntmps18
  go_wp2_with fail
  refine (unhide HN _ hb0).mono ?_
  rintro e w1 ⟨⟨m, rfl, hu⟩, hb1⟩
  have hb01 := Below.then hb0 hb1
  have hbx := block_below (alloc_new w (.cells #[.string ⟨#[]⟩, .string ⟨#[]⟩, .string ⟨#[]⟩] 47 (0, 0))) hb1
  have r0 : w1.cell? ⟨w.heap.size, 0, none⟩ = some (.string ⟨#[]⟩) := blk_cell hbx 0
  have r1 : w1.cell? ⟨w.heap.size, 1, none⟩ = some (.string ⟨#[]⟩) := blk_cell hbx 1
  have r2 : w1.cell? ⟨w.heap.size, 2, none⟩ = some (.string ⟨#[]⟩) := blk_cell hbx 2
  have t0 := blk_open hbx 0
  have t1 := blk_open hbx 1
  have t2 := blk_open hbx 2
  clear hbx hu hb1
  go_wp2
  refine bodyPost_ret (v := .agg #[.string (T x.name.uri), .string (T x.name.pre), .string (T x.name.loc)]) (by simp [results, Tryz.results18, go_sem, r0, r1, r2]) rfl ?_
  exact ⟨rfl, ((hb01.setCell (Nat.le_refl _) _).setCell (Nat.le_refl _) _).setCell (Nat.le_refl _) _⟩
set_option maxRecDepth 100000 in
set_option maxHeartbeats 2000000 in
theorem trText_any (B : Nat) (v : Value) (ns : List XNode) (n : Int) (w : World) (h : TreeV w B v ns) :
    Calls Tryz.prog 21 #[v, .int .i64 n] w fun e w' => e = .returned (.string (T (nodeD ns n).text)) ∧ Below w.heap.size w w' := by
  have HN := hide (fun W (hb : Below w.heap.size w W) => node_ex B v ns n W (h.on hb))
  obtain ⟨pv, rfl⟩ := h.ptr
  clear h
  generalize nodeD ns n = x at *
  have hfd := fld2
  go_enter Tryz.func21, Tryz.ntmps21
  go_wp2_with fail
  refine (unhide HN _ (Below.refl _ _)).mono ?_
  rintro e w1 ⟨⟨m, rfl, hu⟩, hb1⟩
  clear hu
  go_wp2
  go_returns
  exact ⟨rfl, hb1⟩
set_option maxRecDepth 100000 in
set_option maxHeartbeats 2000000 in
theorem trParent_any (B : Nat) (v : Value) (ns : List XNode) (n : Int) (w : World) (h : TreeV w B v ns) :
    Calls Tryz.prog 16 #[v, .int .i64 n] w fun e w' => e = .returned (.int .i64 (nodeD ns n).parent) ∧ Below w.heap.size w w' := by
  have HN := hide (fun W (hb : Below w.heap.size w W) => node_ex B v ns n W (h.on hb))
  obtain ⟨pv, rfl⟩ := h.ptr
  clear h
  generalize nodeD ns n = x at *
  have hfd := fld3
  go_enter Tryz.func16, Tryz.ntmps16
  go_wp2_with fail
  refine (unhide HN _ (Below.refl _ _)).mono ?_
  rintro e w1 ⟨⟨m, rfl, hu⟩, hb1⟩
  clear hu
  go_wp2
  go_returns
  exact ⟨rfl, hb1⟩
end Go.Proofs.YtjjggncbhenffaaGreatDoor
