/- Two texts, laid as one. -/
import Derived.Test.YtjjggncbhenffaaGreatDoorGbq
import Derived.Test.YtjjggncbhenffaaGreatDoorGbs
import Derived.Test.YtjjggncbhenffaaGreatDoorXmlWrW
/- Several texts, laid as one. -/
/- The tree of a document's tokens: xdm's Build. -/
namespace Go.Proofs.YtjjggncbhenffaaGreatDoor
open Go.RowKit Go.Maps
theorem owns_lower {w : World} {B B' : Nat} {e : TypeId} {size n : Nat} {v : Value} {xs : List Value} (h : w.ownsRow B e size v n xs) (hB : B' ≤ B) : w.ownsRow B' e size v n xs := by
  refine ⟨h.1, ?_⟩
  rcases h.2 with h2 | ⟨g, cap, cur, h1, h2, h3⟩
  · exact .inl h2
  · exact .inr ⟨g, cap, cur, h1, Nat.le_trans hB h2, h3⟩
/-- A tree in memory. -/
def TreeAt (w : World) (B q : Nat) (ns : List XNode) : Prop := B ≤ q ∧ ∃ vn, w.heap[q]? = some (.cells #[vn] 72 (0, 0)) ∧ Nodes w B vn ns
theorem TreeAt.on {w w' : World} {B q : Nat} {ns : List XNode} (h : TreeAt w B q ns) (hb : Below w.heap.size w w') : TreeAt w' B q ns := by
  obtain ⟨h1, vn, h2, h3⟩ := h
  exact ⟨h1, vn, block_below h2 hb, h3.on hb⟩
def TreeOut (w' : World) (B : Nat) (o : Except Nat (List XNode)) (e : Ending) : Prop := match o with
  | .error n => e = .returned (.tuple #[.pointer none, .int .i64 (n : Nat)])
  | .ok ns => ∃ q, e = .returned (.tuple #[.pointer (some ⟨q, 0, none⟩), .int .i64 0]) ∧ TreeAt w' B q ns
theorem elem_errs {s : BS} {t : XTok} {n : Nat} (h : s.element t = .error n) : n = 7 ∨ n = 8 := by
  unfold BS.element BS.elementAt at h
  split at h
  · cases h; exact .inl rfl
  · split at h
    · cases h; exact .inl rfl
    · split at h
      · rename_i ha
        cases h
        exact attr_errs ha
      · cases h
theorem add_errs {s : BS} {t : XTok} {n : Nat} (h : s.add t = .error n) : n = 7 ∨ n = 8 := by
  unfold BS.add at h
  split at h
  · exact elem_errs h
  · split at h
    · cases h
    · split at h <;> cases h
theorem adds_cons (s : BS) (t : XTok) (l : List XTok) : s.adds (t :: l) = match s.add t with
  | .error e => .error e
  | .ok s1 => s1.adds l := rfl
/-- Where the loop stands. -/
structure BuSt (w : World) (p : Nat) (xs : List XTok) (k : Nat) (s : BS) (vn vo : Value) (w' : World) : Prop where
  le : k ≤ xs.length
  bel : Below w.heap.size w w'
  bd : Bd w' w.heap.size p vn vo s
  spec : BS.start.adds xs = s.adds (xs.drop k)
  inv : ∃ o r q, DocT o r q (xs.drop k) ∧ Inv s o.length k ∧ o.length ≤ 32
set_option maxRecDepth 100000 in
set_option maxHeartbeats 4000000 in
theorem build_any (xs : List XTok) (a : Option Addr) (cap : Nat) (w : World) (hx : DocOk xs) (hv : ToksArg w a (xs.map XTok.b)) (hE : XEnv w.heap.size w) :
    Calls Tryz.prog 9 #[.slice a xs.length cap] w fun e w' => TreeOut w' w.heap.size (treeD xs) e ∧ Below w.heap.size w w' := by
  have hml : (xs.map XTok.b).length = xs.length := List.length_map ..
  have hxl := hx.len
  have HX := hide hx
  have HV := hide hv
  have HE := hide hE
  have HW := hide (write_any (xs.map XTok.b) a cap w hv (by rw [hml]; omega) hx.sm w.heap.size (Nat.le_refl _) hE)
  have HP := hide (fun W (hb : Below w.heap.size w W) => xdmPast_any (xs.map XTok.b) a cap W (hv.below hb) (by rw [hml]; omega))
  rw [hml, hx.past] at HP
  rw [hml] at HW
  obtain ⟨S, c, hR⟩ : ∃ S c, writeR (xs.map XTok.b) = (S, c) := ⟨_, _, rfl⟩
  have hc := hx.write
  rw [hR] at HW hc
  simp only at HW hc
  clear hR hx hv hE
  have HBG := hide (fun (W : World) (p : Nat) (hp : w.heap.size ≤ p) (hb : Below w.heap.size w W) (hq : W.heap[p]? = some (.cells #[.slice none 0 0, .slice none 0 0] 64 (0, 0))) => begin_any w.heap.size p (.slice none 0 0) (.slice none 0 0) (.map none) ⟨[], []⟩ rootN W ⟨hq, hp, Nodes.nil _ _, World.ownsRow_nil _ _ _ _⟩ (ScV.nil W w.heap.size) (by simp) (by simp) hb.size)
  go_enter Tryz.func9, Tryz.ntmps9
  go_wp2_with fail
  refine (unhide HW).mono ?_
  rintro e w1 ⟨rfl, hb1⟩
  clear HW
  go_upto_region 2 with fail
  go_cut [24] (fun v24 wx => v24 = .bool false ∧ Below w.heap.size w wx)
  case first =>
    rcases hc with rfl | rfl
    · go_wp2_with fail
      go_meet
      exact ⟨rfl, hb1⟩
    · go_wp2_with fail
      refine (unhide HP _ hb1).mono ?_
      rintro e w2 ⟨rfl, hb2⟩
      have hb02 := Below.then hb1 hb2
      go_wp2_with fail
      go_meet
      exact ⟨rfl, hb02⟩
  case rest =>
    obtain ⟨rfl, hcut⟩ := hcut
    clear HP hb1 hc
    have hbx : (wc.alloc (.cells #[.slice none 0 0, .slice none 0 0] 64 (0, 0))).heap[wc.heap.size]? = some (.cells #[.slice none 0 0, .slice none 0 0] 64 (0, 0)) := alloc_new _ _
    have hb1 : Below w.heap.size w (wc.alloc (.cells #[.slice none 0 0, .slice none 0 0] 64 (0, 0))) := hcut.alloc hcut.size _
    have HBG2 := hide (unhide HBG _ wc.heap.size hcut.size hb1 hbx)
    have HBG3 : Hid (Calls Tryz.prog 33 #[.pointer (some ⟨wc.heap.size, 0, none⟩), .agg #[.int .i64 1, .string ⟨#[]⟩, .string ⟨#[]⟩, .string ⟨#[]⟩, .string ⟨#[]⟩, .int .i64 (-1), .int .i64 0, .int .i64 0, .map none]] (wc.alloc (.cells #[.slice none 0 0, .slice none 0 0] 64 (0, 0))) fun e w' => e = .returned (.tuple #[]) ∧ ∃ vn' vo', BdTo w.heap.size wc.heap.size (.slice none 0 0) (.slice none 0 0) (wc.alloc (.cells #[.slice none 0 0, .slice none 0 0] 64 (0, 0))) w' vn' vo' BS.start) := hide (unhide HBG2)
    have HB0 : Hid (Bd (wc.alloc (.cells #[.slice none 0 0, .slice none 0 0] 64 (0, 0))) w.heap.size wc.heap.size (.slice none 0 0) (.slice none 0 0) ⟨[], []⟩) := hide ⟨hbx, hcut.size, Nodes.nil _ _, World.ownsRow_nil _ _ _ _⟩
    clear HBG hbx HBG2
    go_wp2_with fail
    refine (unhide HBG3).mono ?_
    rintro e w2 ⟨rfl, vn0, vo0, hto0⟩
    have hb2 : Below w.heap.size w w2 := hb1.trans (hto0.below (unhide HB0) hb1.size)
    have HS0 : Hid (BuSt w wc.heap.size xs 0 BS.start vn0 vo0 w2) := hide ⟨Nat.zero_le _, hb2, hto0.bd, rfl, [], false, 0, (unhide HX).doc, Inv.start, by decide⟩
    clear hto0 HBG3 HB0 hb1 hb2
    generalize wc.heap.size = P at *
    go_wp2_with fail
    go_loopw [30] (fun i wr => ∃ (k : Nat) (s : BS) (vn vo : Value), i = .int .i64 (k : Nat) ∧ BuSt w P xs k s vn vo wr) (fun i _ => xs.length - (intOf i).toNat)
    case atStart => exact ⟨0, BS.start, vn0, vo0, rfl, unhide HS0⟩
    case round =>
      clear HS0
      obtain ⟨k, s, vn, vo, rfl, hI⟩ := hrel
      have hk := hI.le
      obtain ⟨o, r, q, hD, hinv, hol⟩ := hI.inv
      have HI := hide hI
      by_cases hlt : k < xs.length
      · obtain ⟨t, ht⟩ : ∃ t, xs[k]? = some t := ⟨xs[k], List.getElem?_eq_getElem hlt⟩
        have htm := List.mem_of_getElem? ht
        have hdr : xs.drop k = t :: xs.drop (k + 1) := by
          rw [← List.getElem_cons_drop hlt]
          congr 1
          exact (List.getElem?_eq_some_iff.1 ht).2
        rw [hdr] at hD
        have hspec := hI.spec
        rw [hdr, adds_cons] at hspec
        obtain ⟨g, oo, ha, hcc⟩ := ((unhide HV).below hI.bel) (by intro h0; rw [List.map_eq_nil_iff] at h0; rw [h0] at hlt; cases hlt)
        subst ha
        obtain ⟨c0, c1, ⟨v, c2, hpv⟩, c3⟩ := hcc k t.b (by rw [List.getElem?_map, ht]; rfl)
        have hpv' : PairsArg wr v (pairsT t.attrs) := hpv
        obtain ⟨va, vc, hve, _⟩ := id hpv'
        have hpl : (pairsT t.attrs).length = t.attrs.length := List.length_map ..
        rw [hpl] at hve
        subst hve
        have c0' : wr.cell? ⟨g, oo + k * 4, none⟩ = some (.int .i64 (t.kind : Nat)) := c0
        have c1' : wr.cell? ⟨g, oo + k * 4 + 1, none⟩ = some (.string (T t.name)) := c1
        have c3' : wr.cell? ⟨g, oo + k * 4 + 3, none⟩ = some (.string (T t.text)) := c3
        have n1 : (0 : Int) ≤ (k : Int) := by omega
        have n2 : (k : Int) < (xs.length : Int) := by omega
        have hbA : Below wr.heap.size wr (wr.alloc (.cells #[.int .i64 (t.kind : Nat), .string (T t.name), .slice va t.attrs.length vc, .string (T t.text)] 26 (0, 0))) := (Below.refl _ _).alloc (Nat.le_refl _) _
        have hb0 := Below.then hI.bel hbA
        have HAD := hide (bdAdd_any w.heap.size P vn vo (.slice va t.attrs.length vc) s t (wr.alloc (.cells #[.int .i64 (t.kind : Nat), .string (T t.name), .slice va t.attrs.length vc, .string (T t.text)] 26 (0, 0))) (hI.bd.on hbA) (hpv'.below hbA) ((unhide HX).tok htm) (hinv.ok (by omega) (by omega)) hb0.size (((unhide HE).env.below hI.bel).below hbA))
        have HD := hide hD
        have HSP := hide hspec
        have HIN := hide hinv
        clear hcc hI hdr ht hpv hpv' c0 c1 c3 hD hspec hinv htm
        go_wp2_with fail
        refine (unhide HAD).mono ?_
        rintro e w3 hO
        cases had : s.add t with
        | error n =>
          rw [had] at hO
          obtain ⟨rfl, hb3⟩ := hO
          have HEQ : Hid (treeD xs = .error n) := hide (by unfold treeD; rw [unhide HSP, had])
          have hb03 := hb0.trans hb3
          rcases add_errs had with rfl | rfl
          all_goals
            clear had
            go_wp2
            go_returns
            rw [unhide HEQ]
            exact ⟨rfl, hb03⟩
        | ok s' =>
          rw [had] at hO
          obtain ⟨rfl, vn', vo', hto⟩ := hO
          obtain ⟨o', r', q', hD', hinv', hol'⟩ := (unhide HIN).add hol (unhide HD) had
          have hsp := unhide HSP
          rw [had] at hsp
          have hb3 : Below w.heap.size w w3 := hb0.trans (hto.below ((unhide HI).bd.on hbA) hb0.size)
          have HI3 : Hid (BuSt w P xs (k + 1) s' vn' vo' w3) := hide ⟨hlt, hb3, hto.bd, hsp, o', r', q', hD', hinv', hol'⟩
          clear had hto hD' hinv' hsp
          go_wp2_with fail
          exact ⟨⟨k + 1, s', vn', vo', by simp, unhide HI3⟩, by simp [intOf]; omega⟩
      · have n2 : ¬ (k : Int) < (xs.length : Int) := by omega
        have hkl : k = xs.length := by omega
        have hsp := hI.spec
        rw [hkl, List.drop_length] at hsp
        have HEQ : Hid (treeD xs = .ok s.finish.nodes) := hide (by unfold treeD; rw [hsp]; rfl)
        have hok := hinv.ok (by omega) (by omega)
        have HFI := hide (finish_any w.heap.size P vn vo s wr hI.bd hok.o hok.i (by have := hok.n; omega) (by have := hok.p; omega))
        clear hI hsp hkl hD hinv hok
        go_wp2_with fail
        refine (unhide HFI).mono ?_
        rintro e w3 ⟨rfl, vn', vo', hto⟩
        have hb3 : Below w.heap.size w w3 := (unhide HI).bel.trans (hto.below (unhide HI).bd (unhide HI).bel.size)
        have c0 : w3.cell? ⟨P, 0, none⟩ = some vn' := blk_cell hto.bd.blk 0
        have HND := hide hto.bd.nodes
        obtain ⟨an, cn, e0⟩ : ∃ an cn, vn' = .slice an s.finish.nodes.length cn := by
          obtain ⟨vs, _, h2, _⟩ := hto.bd.nodes
          exact owns_slice h2
        subst e0
        clear hto
        go_wp2_with fail
        go_returns
        rw [unhide HEQ]
        exact ⟨⟨_, rfl, hb3.size, _, alloc_new _ _, (unhide HND).on ((Below.refl _ _).alloc (Nat.le_refl _) _)⟩, hb3.alloc hb3.size _⟩
end Go.Proofs.YtjjggncbhenffaaGreatDoor
/- What a tree tells of a node: xdm's Len, node, Kind, Name, Text, Parent. -/
namespace Go.Proofs.YtjjggncbhenffaaGreatDoor
open Go.RowKit Go.Maps
/-- A tree, or none. -/
def TreeV (w : World) (B : Nat) (v : Value) (ns : List XNode) : Prop := (v = .pointer none ∧ ns = []) ∨ ∃ q, v = .pointer (some ⟨q, 0, none⟩) ∧ TreeAt w B q ns
theorem TreeV.on {w w' : World} {B : Nat} {v : Value} {ns : List XNode} (h : TreeV w B v ns) (hb : Below w.heap.size w w') : TreeV w' B v ns := by
  rcases h with h | ⟨q, h1, h2⟩
  · exact .inl h
  · exact .inr ⟨q, h1, h2.on hb⟩
theorem TreeV.none (w : World) (B : Nat) : TreeV w B (.pointer none) [] := .inl ⟨rfl, rfl⟩
/-- A node by its number; of a number that is none one that is nothing. -/
def noNode : XNode := ⟨0, nm0, [], -1, 0, 0, []⟩
def nodeD (ns : List XNode) (n : Int) : XNode := if 0 ≤ n then (ns[n.toNat]?).getD noNode else noNode
set_option maxRecDepth 100000 in
set_option maxHeartbeats 2000000 in
theorem len_any (B : Nat) (v : Value) (ns : List XNode) (w : World) (h : TreeV w B v ns) :
    Calls Tryz.prog 15 #[v] w fun e w' => e = .returned (.int .i64 (ns.length : Nat)) ∧ Below w.heap.size w w' := by
  rcases h with ⟨rfl, rfl⟩ | ⟨q, rfl, hq, vn, hb, vs, _, hrow, _⟩
  · go_enter Tryz.func15, Tryz.ntmps15
    go_wp2
    go_returns
    exact ⟨rfl, Below.refl _ _⟩
  · obtain ⟨a, c, rfl⟩ := owns_slice hrow
    have c0 : w.cell? ⟨q, 0, none⟩ = some (.slice a ns.length c) := blk_cell hb 0
    clear hb hrow
    go_enter Tryz.func15, Tryz.ntmps15
    go_wp2_with fail
    try go_quiet (fail)
    try go_wp2
    go_returns
    exact ⟨rfl, by (repeat first | with_reducible exact Below.refl _ _ | refine Below.drew ?_)⟩
theorem nodeD_low {ns : List XNode} {n : Int} (h : n < 0) : nodeD ns n = noNode := by unfold nodeD; rw [if_neg (by omega)]
theorem nodeD_high {ns : List XNode} {n : Int} (h : (ns.length : Int) ≤ n) : nodeD ns n = noNode := by
  unfold nodeD
  rw [if_pos (by omega), List.getElem?_eq_none (by omega)]
  rfl
theorem nodeD_at {ns : List XNode} {k : Nat} {x : XNode} (h : ns[k]? = some x) : nodeD ns (k : Nat) = x := by
  unfold nodeD
  rw [if_pos (by omega), Int.toNat_natCast, h]
  rfl
theorem ScV.set {w : World} {B p i : Nat} {v u : Value} {s : Sc} {c : Array Value} {t : TypeId} {z : Nat × Nat} (h : ScV w B v s) (hp : w.heap[p]? = some (.cells c t z)) : ScV (w.setCell ⟨p, i, none⟩ u) B v s :=
  h.kept fun b es cl hb _ => by
    rw [blk_other (fun e => by rw [e, hp] at hb; cases hb)]
    exact hb
def NodeOut (w : World) (B : Nat) (x : XNode) (e : Ending) : Prop := ∃ v, e = .returned (.agg (nodeCells x v).toArray) ∧ ScV w B v x.scope
set_option maxRecDepth 100000 in
set_option maxHeartbeats 4000000 in
theorem node_any (B : Nat) (v : Value) (ns : List XNode) (n : Int) (w : World) (h : TreeV w B v ns) :
    Calls Tryz.prog 47 #[v, .int .i64 n] w fun e w' => NodeOut w' B (nodeD ns n) e ∧ Below w.heap.size w w' := by
  have HL := hide (fun W (hb : Below w.heap.size w W) => len_any B v ns W (h.on hb))
  have HH := hide h
  obtain ⟨pv, ev⟩ : ∃ pv, v = .pointer pv := by rcases h with ⟨rfl, _⟩ | ⟨q, rfl, _⟩ <;> exact ⟨_, rfl⟩
  by_cases h0 : n < 0
  · have HD := hide (nodeD_low (ns := ns) h0)
    subst ev
    clear h
    go_enter Tryz.func47, Tryz.ntmps47
    go_wp2_with fail
    go_returns
    rw [unhide HD]
    exact ⟨⟨.map none, rfl, ScV.nil _ _⟩, (Below.refl _ _).alloc (Nat.le_refl _) _⟩
  · obtain ⟨k, rfl⟩ : ∃ k : Nat, n = k := ⟨n.toNat, by omega⟩
    have hb0 : Below w.heap.size w (w.alloc (.cells #[.int .i64 0, .string ⟨#[]⟩, .string ⟨#[]⟩, .string ⟨#[]⟩, .string ⟨#[]⟩, .int .i64 0, .int .i64 0, .int .i64 0, .map none] 69 (0, 0))) := (Below.refl _ _).alloc (Nat.le_refl _) _
    subst ev
    clear h
    go_enter Tryz.func47, Tryz.ntmps47
    go_wp2_with fail
    refine (unhide HL _ hb0).mono ?_
    rintro e w1 ⟨rfl, hb1⟩
    have hb01 := Below.then hb0 hb1
    have hbx := block_below (alloc_new w (.cells #[.int .i64 0, .string ⟨#[]⟩, .string ⟨#[]⟩, .string ⟨#[]⟩, .string ⟨#[]⟩, .int .i64 0, .int .i64 0, .int .i64 0, .map none] 69 (0, 0))) hb1
    have z0 : w1.cell? ⟨w.heap.size, 0, none⟩ = some (.int .i64 0) := blk_cell hbx 0
    have z1 : w1.cell? ⟨w.heap.size, 1, none⟩ = some (.string ⟨#[]⟩) := blk_cell hbx 1
    have z2 : w1.cell? ⟨w.heap.size, 2, none⟩ = some (.string ⟨#[]⟩) := blk_cell hbx 2
    have z3 : w1.cell? ⟨w.heap.size, 3, none⟩ = some (.string ⟨#[]⟩) := blk_cell hbx 3
    have z4 : w1.cell? ⟨w.heap.size, 4, none⟩ = some (.string ⟨#[]⟩) := blk_cell hbx 4
    have z5 : w1.cell? ⟨w.heap.size, 5, none⟩ = some (.int .i64 0) := blk_cell hbx 5
    have z6 : w1.cell? ⟨w.heap.size, 6, none⟩ = some (.int .i64 0) := blk_cell hbx 6
    have z7 : w1.cell? ⟨w.heap.size, 7, none⟩ = some (.int .i64 0) := blk_cell hbx 7
    have z8 : w1.cell? ⟨w.heap.size, 8, none⟩ = some (.map none) := blk_cell hbx 8
    have y0 := blk_open hbx 0
    have y1 := blk_open hbx 1
    have y2 := blk_open hbx 2
    have y3 := blk_open hbx 3
    have y4 := blk_open hbx 4
    have y5 := blk_open hbx 5
    have y6 := blk_open hbx 6
    have y7 := blk_open hbx 7
    have y8 := blk_open hbx 8
    have HBX := hide hbx
    clear hbx
    by_cases hk : k < ns.length
    · obtain ⟨x, hx⟩ : ∃ x, ns[k]? = some x := ⟨ns[k], List.getElem?_eq_getElem hk⟩
      have HD := hide (nodeD_at hx)
      have n1 : (0 : Int) ≤ (k : Int) := by omega
      have n2 : ¬ (ns.length : Int) ≤ (k : Int) := by omega
      have n3 : (k : Int) < (ns.length : Int) := by omega
      rcases (unhide HH).on hb01 with ⟨e0, e1⟩ | ⟨q, eq', hq, vn, hbq, hnd⟩
      · rw [e1] at hk; cases hk
      cases eq'
      obtain ⟨g, cap, e2, hg1, hg2, hcs⟩ := nodes_cells hnd (by omega)
      subst e2
      obtain ⟨u, hu, huc⟩ := hcs k x hx
      obtain ⟨m, rfl⟩ := hu.one
      have c0 : w1.cell? ⟨q, 0, none⟩ = some (.slice (some ⟨g, 0, none⟩) ns.length cap) := blk_cell hbq 0
      have b0 : w1.cell? ⟨g, k * 9, none⟩ = some (.int .i64 (x.kind : Nat)) := huc 0 _ rfl
      have b1 : w1.cell? ⟨g, k * 9 + 1, none⟩ = some (.string (T x.name.uri)) := huc 1 _ rfl
      have b2 : w1.cell? ⟨g, k * 9 + 2, none⟩ = some (.string (T x.name.pre)) := huc 2 _ rfl
      have b3 : w1.cell? ⟨g, k * 9 + 3, none⟩ = some (.string (T x.name.loc)) := huc 3 _ rfl
      have b4 : w1.cell? ⟨g, k * 9 + 4, none⟩ = some (.string (T x.text)) := huc 4 _ rfl
      have b5 : w1.cell? ⟨g, k * 9 + 5, none⟩ = some (.int .i64 x.parent) := huc 5 _ rfl
      have b6 : w1.cell? ⟨g, k * 9 + 6, none⟩ = some (.int .i64 (x.fin : Nat)) := huc 6 _ rfl
      have b7 : w1.cell? ⟨g, k * 9 + 7, none⟩ = some (.int .i64 (x.deep : Nat)) := huc 7 _ rfl
      have b8 : w1.cell? ⟨g, k * 9 + 8, none⟩ = some (.map m) := huc 8 _ rfl
      have HU := hide hu
      clear hcs huc hu hx hbq hnd
      go_wp2_with fail
      refine bodyPost_ret (v := .agg (nodeCells x (.map m)).toArray) (by simp [results, Tryz.results47, go_sem, z0, z1, z2, z3, z4, z5, z6, z7, z8]; rfl) rfl ?_
      rw [unhide HD]
      have s0 := unhide HU
      have p0 := unhide HBX
      have s1 := s0.set (i := 0) (u := (.int .i64 (x.kind : Nat))) p0
      have p1 := blk_set p0 0 (.int .i64 (x.kind : Nat))
      have s2 := s1.set (i := 1) (u := (.string (T x.name.uri))) p1
      have p2 := blk_set p1 1 (.string (T x.name.uri))
      have s3 := s2.set (i := 2) (u := (.string (T x.name.pre))) p2
      have p3 := blk_set p2 2 (.string (T x.name.pre))
      have s4 := s3.set (i := 3) (u := (.string (T x.name.loc))) p3
      have p4 := blk_set p3 3 (.string (T x.name.loc))
      have s5 := s4.set (i := 4) (u := (.string (T x.text))) p4
      have p5 := blk_set p4 4 (.string (T x.text))
      have s6 := s5.set (i := 5) (u := (.int .i64 x.parent)) p5
      have p6 := blk_set p5 5 (.int .i64 x.parent)
      have s7 := s6.set (i := 6) (u := (.int .i64 (x.fin : Nat))) p6
      have p7 := blk_set p6 6 (.int .i64 (x.fin : Nat))
      have s8 := s7.set (i := 7) (u := (.int .i64 (x.deep : Nat))) p7
      have p8 := blk_set p7 7 (.int .i64 (x.deep : Nat))
      have s9 := s8.set (i := 8) (u := (.map m)) p8
      have p9 := blk_set p8 8 (.map m)
      exact ⟨⟨_, rfl, s9⟩, ((((((((hb01.setCell (Nat.le_refl _) _).setCell (Nat.le_refl _) _).setCell (Nat.le_refl _) _).setCell (Nat.le_refl _) _).setCell (Nat.le_refl _) _).setCell (Nat.le_refl _) _).setCell (Nat.le_refl _) _).setCell (Nat.le_refl _) _).setCell (Nat.le_refl _) _⟩
    · have HD := hide (nodeD_high (ns := ns) (n := (k : Nat)) (by omega))
      have n2 : (ns.length : Int) ≤ (k : Int) := by omega
      go_wp2_with fail
      refine bodyPost_ret (v := .agg (nodeCells noNode (.map none)).toArray) (by simp [results, Tryz.results47, go_sem, z0, z1, z2, z3, z4, z5, z6, z7, z8]; rfl) rfl ?_
      rw [unhide HD]
      exact ⟨⟨_, rfl, ScV.nil _ _⟩, ((((((((hb01.setCell (Nat.le_refl _) _).setCell (Nat.le_refl _) _).setCell (Nat.le_refl _) _).setCell (Nat.le_refl _) _).setCell (Nat.le_refl _) _).setCell (Nat.le_refl _) _).setCell (Nat.le_refl _) _).setCell (Nat.le_refl _) _).setCell (Nat.le_refl _) _⟩
end Go.Proofs.YtjjggncbhenffaaGreatDoor
/- What a tree tells of a node: xdm's Kind, Name, Text, Parent, part. -/
namespace Go.Proofs.YtjjggncbhenffaaGreatDoor
open Go.RowKit Go.Maps
theorem TreeV.ptr {w : World} {B : Nat} {v : Value} {ns : List XNode} (h : TreeV w B v ns) : ∃ pv, v = .pointer pv := by
  rcases h with ⟨rfl, _⟩ | ⟨q, rfl, _⟩ <;> exact ⟨_, rfl⟩
theorem node_ex (B : Nat) (v : Value) (ns : List XNode) (n : Int) (w : World) (h : TreeV w B v ns) :
    Calls Tryz.prog 47 #[v, .int .i64 n] w fun e w' => (∃ m, e = .returned (.agg #[.int .i64 ((nodeD ns n).kind : Nat), .string (T (nodeD ns n).name.uri), .string (T (nodeD ns n).name.pre), .string (T (nodeD ns n).name.loc), .string (T (nodeD ns n).text), .int .i64 (nodeD ns n).parent, .int .i64 ((nodeD ns n).fin : Nat), .int .i64 ((nodeD ns n).deep : Nat), .map m]) ∧ ScV w' B (.map m) (nodeD ns n).scope) ∧ Below w.heap.size w w' := by
  refine (node_any B v ns n w h).mono ?_
  rintro e w' ⟨⟨u, rfl, hu⟩, hb⟩
  obtain ⟨m, rfl⟩ := hu.one
  exact ⟨⟨m, rfl, hu⟩, hb⟩
theorem fld0 (a b c d e f g h i : Value) (W : World) : (Instr.field 69 (.agg #[a, b, c, d, e, f, g, h, i]) 0).run Tryz.prog W = .ok a W := by kernel_rfl
theorem fld1 (a b c d e f g h i : Value) (W : World) : (Instr.field 69 (.agg #[a, b, c, d, e, f, g, h, i]) 1).run Tryz.prog W = .ok (.agg #[b, c, d]) W := by kernel_rfl
theorem fld2 (a b c d e f g h i : Value) (W : World) : (Instr.field 69 (.agg #[a, b, c, d, e, f, g, h, i]) 2).run Tryz.prog W = .ok e W := by kernel_rfl
theorem fld3 (a b c d e f g h i : Value) (W : World) : (Instr.field 69 (.agg #[a, b, c, d, e, f, g, h, i]) 3).run Tryz.prog W = .ok f W := by kernel_rfl
theorem fld4 (a b c d e f g h i : Value) (W : World) : (Instr.field 69 (.agg #[a, b, c, d, e, f, g, h, i]) 4).run Tryz.prog W = .ok g W := by kernel_rfl
theorem fld6 (a b c d e f g h i : Value) (W : World) : (Instr.field 69 (.agg #[a, b, c, d, e, f, g, h, i]) 6).run Tryz.prog W = .ok i W := by kernel_rfl
set_option maxRecDepth 100000 in
set_option maxHeartbeats 2000000 in
theorem trKind_any (B : Nat) (v : Value) (ns : List XNode) (n : Int) (w : World) (h : TreeV w B v ns) :
    Calls Tryz.prog 17 #[v, .int .i64 n] w fun e w' => e = .returned (.int .i64 ((nodeD ns n).kind : Nat)) ∧ Below w.heap.size w w' := by
  have HN := hide (fun W (hb : Below w.heap.size w W) => node_ex B v ns n W (h.on hb))
  obtain ⟨pv, rfl⟩ := h.ptr
  clear h
  generalize nodeD ns n = x at *
  have hfd := fld0
  go_enter Tryz.func17, Tryz.ntmps17
  go_wp2_with fail
  refine (unhide HN _ (Below.refl _ _)).mono ?_
  rintro e w1 ⟨⟨m, rfl, hu⟩, hb1⟩
  clear hu
  go_wp2
  go_returns
  exact ⟨rfl, hb1⟩
set_option maxRecDepth 100000 in
set_option maxHeartbeats 2000000 in
theorem trName_any (B : Nat) (v : Value) (ns : List XNode) (n : Int) (w : World) (h : TreeV w B v ns) :
    Calls Tryz.prog 18 #[v, .int .i64 n] w fun e w' => e = .returned (nmV (nodeD ns n).name) ∧ Below w.heap.size w w' := by
  have HN := hide (fun W (hb : Below w.heap.size w W) => node_ex B v ns n W (h.on hb))
  obtain ⟨pv, rfl⟩ := h.ptr
  clear h
  generalize nodeD ns n = x at *
  have hb0 : Below w.heap.size w (w.alloc (.cells #[.string ⟨#[]⟩, .string ⟨#[]⟩, .string ⟨#[]⟩] 47 (0, 0))) := (Below.refl _ _).alloc (Nat.le_refl _) _
  show Calls _ _ _ w fun e w' => e = .returned (.agg #[.string (T x.name.uri), .string (T x.name.pre), .string (T x.name.loc)]) ∧ Below w.heap.size w w'
  have hfd := fld1
  go_enter Tryz.func18, Tryz.ntmps18
  go_wp2_with fail
  refine (unhide HN _ hb0).mono ?_
  rintro e w1 ⟨⟨m, rfl, hu⟩, hb1⟩
  have hb01 := Below.then hb0 hb1
  have hbx := block_below (alloc_new w (.cells #[.string ⟨#[]⟩, .string ⟨#[]⟩, .string ⟨#[]⟩] 47 (0, 0))) hb1
  have r0 : w1.cell? ⟨w.heap.size, 0, none⟩ = some (.string ⟨#[]⟩) := blk_cell hbx 0
  have r1 : w1.cell? ⟨w.heap.size, 1, none⟩ = some (.string ⟨#[]⟩) := blk_cell hbx 1
  have r2 : w1.cell? ⟨w.heap.size, 2, none⟩ = some (.string ⟨#[]⟩) := blk_cell hbx 2
  have t0 := blk_open hbx 0
  have t1 := blk_open hbx 1
  have t2 := blk_open hbx 2
  clear hbx hu hb1
  go_wp2
  refine bodyPost_ret (v := .agg #[.string (T x.name.uri), .string (T x.name.pre), .string (T x.name.loc)]) (by simp [results, Tryz.results18, go_sem, r0, r1, r2]) rfl ?_
  exact ⟨rfl, ((hb01.setCell (Nat.le_refl _) _).setCell (Nat.le_refl _) _).setCell (Nat.le_refl _) _⟩
set_option maxRecDepth 100000 in
set_option maxHeartbeats 2000000 in
theorem trParent_any (B : Nat) (v : Value) (ns : List XNode) (n : Int) (w : World) (h : TreeV w B v ns) :
    Calls Tryz.prog 16 #[v, .int .i64 n] w fun e w' => e = .returned (.int .i64 (nodeD ns n).parent) ∧ Below w.heap.size w w' := by
  have HN := hide (fun W (hb : Below w.heap.size w W) => node_ex B v ns n W (h.on hb))
  obtain ⟨pv, rfl⟩ := h.ptr
  clear h
  generalize nodeD ns n = x at *
  have hfd := fld3
  go_enter Tryz.func16, Tryz.ntmps16
  go_wp2_with fail
  refine (unhide HN _ (Below.refl _ _)).mono ?_
  rintro e w1 ⟨⟨m, rfl, hu⟩, hb1⟩
  clear hu
  go_wp2
  go_returns
  exact ⟨rfl, hb1⟩
end Go.Proofs.YtjjggncbhenffaaGreatDoor
/- Several texts, laid as one. -/
/- Trees that are built are well formed, in plain terms: where a node ends, and how long texts are. -/
namespace Go.Proofs.YtjjggncbhenffaaGreatDoor
def small (l : List Nat) : Prop := okL l ∧ (T l).size ≤ 1048576
/-- Nodes that have ended end behind themselves. -/
structure InvT (s : BS) : Prop where
  txt : ∀ x ∈ s.nodes, small x.text
  fin : ∀ (i : Nat) (x : XNode), s.nodes[i]? = some x → i ∈ s.opn ∨ (i < x.fin ∧ x.fin ≤ s.nodes.length)
theorem small_nil : small [] := ⟨okL_e, Nat.zero_le _⟩
theorem InvT.begin {s : BS} (h : InvT s) (x : XNode) (hx : small x.text) : InvT (s.begin x) := by
  refine ⟨fun y hy => ?_, fun i y hy => ?_⟩
  · rcases List.mem_append.1 hy with hy | hy
    · exact h.txt y hy
    · rw [List.mem_singleton.1 hy]; exact hx
  · have hy' : (s.nodes ++ [x])[i]? = some y := hy
    show i ∈ s.opn ++ [s.nodes.length] ∨ (i < y.fin ∧ y.fin ≤ (s.nodes ++ [x]).length)
    rw [List.length_append]
    by_cases hi : i < s.nodes.length
    · rw [List.getElem?_append_left hi] at hy'
      rcases h.fin i y hy' with h1 | ⟨h1, h2⟩
      · exact .inl (List.mem_append_left _ h1)
      · exact .inr ⟨h1, by simp; omega⟩
    · left
      have := (List.getElem?_eq_some_iff.1 hy').1
      rw [List.length_append] at this
      simp at this
      have e : i = s.nodes.length := by omega
      rw [e]
      simp
theorem InvT.finish {s : BS} (h : InvT s) (ho : s.opn ≠ []) (hi : s.inner < s.nodes.length) : InvT s.finish := by
  refine ⟨fun y hy => ?_, fun i y hy => ?_⟩
  · have hy' : y ∈ s.nodes.modify s.inner (fun x => { x with fin := s.nodes.length }) := hy
    obtain ⟨j, hj⟩ := List.getElem?_of_mem hy'
    rw [List.getElem?_modify] at hj
    obtain ⟨z, hz, e⟩ := Option.map_eq_some_iff.1 hj
    have := h.txt z (List.mem_of_getElem? hz)
    rw [← e]
    split <;> exact this
  · have hy' : (s.nodes.modify s.inner (fun x => { x with fin := s.nodes.length }))[i]? = some y := hy
    rw [List.getElem?_modify] at hy'
    obtain ⟨z, hz, e⟩ := Option.map_eq_some_iff.1 hy'
    show i ∈ s.opn.dropLast ∨ (i < y.fin ∧ y.fin ≤ (s.nodes.modify _ _).length)
    rw [List.length_modify]
    by_cases hin : s.inner = i
    · rw [if_pos hin] at e
      right
      rw [← e]
      exact ⟨by show i < s.nodes.length; omega, Nat.le_refl _⟩
    · rw [if_neg hin] at e
      have ez : z = y := e
      subst ez
      rcases h.fin i z hz with h1 | h1
      · left
        have e2 : s.opn = s.opn.dropLast ++ [s.inner] := by
          have h3 := List.dropLast_concat_getLast ho
          have h4 : s.opn.getLast ho = s.inner := by
            unfold BS.inner
            rw [List.getLastD_eq_getLast?, List.getLast?_eq_some_getLast ho]
            rfl
          rw [h4] at h3
          exact h3.symm
        rw [e2] at h1
        rcases List.mem_append.1 h1 with h1 | h1
        · exact h1
        · exact absurd (List.mem_singleton.1 h1).symm hin
      · exact .inr h1
theorem InvT.leaf {s : BS} (h : InvT s) (x : XNode) (hx : small x.text) : InvT (s.leaf x) := by
  refine (h.begin (s.placed x) hx).finish (by show s.opn ++ [_] ≠ []; simp) ?_
  rw [begin_inner]
  show _ < (s.nodes ++ [_]).length
  simp
theorem InvT.leafs : ∀ (l : List XNode) (s : BS), InvT s → (∀ x ∈ l, small x.text) → InvT (l.foldl BS.leaf s)
  | [], _, h, _ => h
  | x :: l, s, h, hl => InvT.leafs l (s.leaf x) (h.leaf x (hl x (List.mem_cons_self ..))) (fun y hy => hl y (List.mem_cons_of_mem _ hy))
theorem attrsN_txt {s : Sc} : ∀ {l : List (List Nat × List Nat)} {r : List XNode}, OkAt l → attrsN s l = some r → ∀ x ∈ r, small x.text
  | [], r, _, h, x, hx => by cases h; cases hx
  | y :: l, r, hl, h, x, hx => by
    have hl' : OkAt l := fun z hz => hl z (List.mem_cons_of_mem _ hz)
    rw [attrsN] at h
    split at h
    · exact attrsN_txt hl' h x hx
    · split at h
      · cases h
      · obtain ⟨q, hq, rfl⟩ := Option.map_eq_some_iff.1 h
        rcases List.mem_cons.1 hx with rfl | hx
        · have := hl y (List.mem_cons_self ..)
          exact ⟨this.1.2, this.2.2⟩
        · exact attrsN_txt hl' hq x hx
theorem InvT.add {s s' : BS} {t : XTok} (h : InvT s) (ht : OkAt t.attrs) (hx : small t.text) (ho : s.opn ≠ []) (hi : s.inner < s.nodes.length) (ha : s.add t = .ok s') : InvT s' := by
  unfold BS.add at ha
  split at ha
  · unfold BS.element BS.elementAt at ha
    split at ha
    · cases ha
    · split at ha
      · cases ha
      · split at ha
        · cases ha
        · rename_i as' hat
          cases ha
          refine InvT.leafs _ _ (h.begin _ small_nil) ?_
          unfold attributesD at hat
          split at hat
          · cases hat
          · rename_i q hq
            split at hat
            · cases hat; exact attrsN_txt ht hq
            · cases hat
  · split at ha
    · cases ha; exact h.finish ho hi
    · split at ha
      · cases ha; exact h.leaf _ hx
      · cases ha; exact h.leaf _ hx
/-- A tree as it may be told. -/
structure TreeOk (ns : List XNode) : Prop where
  pos : 0 < ns.length
  len : ns.length ≤ 300000
  txt : ∀ x ∈ ns, small x.text
  fin : ∀ (i : Nat) (x : XNode), ns[i]? = some x → i < x.fin ∧ x.fin ≤ ns.length
theorem adds_ok : ∀ (ts : List XTok) (s s' : BS) (o : List (List Nat)) (r : Bool) (q k : Nat), DocT o r q ts → Inv s o.length k → o.length ≤ 32 → InvT s → (∀ t ∈ ts, OkAt t.attrs ∧ small t.text) → s.adds ts = .ok s' → Inv s' 0 (k + ts.length) ∧ InvT s'
  | [], s, s', o, r, q, k, hD, hI, _, hT, _, ha => by
    cases ha
    cases hD
    exact ⟨hI, hT⟩
  | t :: ts, s, s', o, r, q, k, hD, hI, ho, hT, hx, ha => by
    rw [show s.adds (t :: ts) = _ from rfl] at ha
    unfold BS.adds at ha
    split at ha
    · cases ha
    · rename_i s1 h1
      obtain ⟨o', r', q', hD', hI', ho'⟩ := hI.add ho hD h1
      have hT' := hT.add (hx t (List.mem_cons_self ..)).1 (hx t (List.mem_cons_self ..)).2 hI.ne hI.inner h1
      have := adds_ok ts s1 s' o' r' q' (k + 1) hD' hI' ho' hT' (fun y hy => hx y (List.mem_cons_of_mem _ hy)) ha
      rw [List.length_cons, show k + (ts.length + 1) = k + 1 + ts.length by omega]
      exact this
theorem InvT.start : InvT BS.start := ⟨fun x hx => by rw [List.mem_singleton.1 hx]; exact small_nil, fun i x hx => by
  left
  have hx' : [rootN][i]? = some x := hx
  have := (List.getElem?_eq_some_iff.1 hx').1
  simp at this
  subst this
  show 0 ∈ [0]
  simp⟩
theorem DocOk.tree {xs : List XTok} {ns : List XNode} (h : DocOk xs) (ht : treeD xs = .ok ns) : TreeOk ns := by
  unfold treeD at ht
  split at ht
  · cases ht
  · rename_i s hs
    cases ht
    obtain ⟨hI, hT⟩ := adds_ok xs BS.start s [] false 0 0 h.doc Inv.start (by decide) InvT.start (fun t htm => by
      have := h.tok htm
      refine ⟨this.a, (h.all t htm).x, ?_⟩
      exact (h.sm t.b (List.mem_map.2 ⟨t, htm, rfl⟩)).x) hs
    have hF := hT.finish hI.ne hI.inner
    have hl : s.finish.nodes.length = s.nodes.length := List.length_modify ..
    have hn := hI.n
    have hx := h.len
    refine ⟨by rw [hl]; have := hI.inner; omega, by rw [hl]; omega, hF.txt, fun i x hi => ?_⟩
    rcases hF.fin i x hi with h1 | h1
    · exfalso
      have h2 : s.finish.opn = [] := by
        have h3 := hI.opn
        show s.opn.dropLast = []
        apply List.length_eq_zero_iff.1
        rw [List.length_dropLast]
        omega
      rw [h2] at h1
      cases h1
    · exact h1
end Go.Proofs.YtjjggncbhenffaaGreatDoor
/- What lies in a node: xdm's part. -/
namespace Go.Proofs.YtjjggncbhenffaaGreatDoor
open Go.RowKit Go.Maps
/-- Nodes in a row that is read. -/
def RowAt (w : World) (B : Nat) (v : Value) (xs : List XNode) : Prop := ∃ a cap, v = .slice a xs.length cap ∧ (xs ≠ [] → ∃ g o, a = some ⟨g, o, none⟩ ∧ ∀ i x, xs[i]? = some x → ∃ m, ScV w B (.map m) x.scope ∧ ∀ j u, (nodeCells x (.map m))[j]? = some u → w.cell? ⟨g, o + i * 9 + j, none⟩ = some u)
theorem RowAt.on {w w' : World} {B : Nat} {v : Value} {xs : List XNode} (h : RowAt w B v xs) (hb : Below w.heap.size w w') : RowAt w' B v xs := by
  obtain ⟨a, cap, h1, h2⟩ := h
  refine ⟨a, cap, h1, fun hx => ?_⟩
  obtain ⟨g, o, h3, h4⟩ := h2 hx
  refine ⟨g, o, h3, fun i x hi => ?_⟩
  obtain ⟨m, h5, h6⟩ := h4 i x hi
  exact ⟨m, h5.on hb, fun j u hu => keptC hb (h6 j u hu)⟩
def partD (ns : List XNode) (n : Int) : List XNode := if (nodeD ns n).fin = 0 then [] else (ns.drop (n.toNat + 1)).take ((nodeD ns n).fin - (n.toNat + 1))
set_option maxRecDepth 100000 in
set_option maxHeartbeats 4000000 in
theorem part_any (B : Nat) (v : Value) (ns : List XNode) (n : Int) (w0 w : World) (h : TreeV w0 B v ns) (hbw : Below w0.heap.size w0 w) (hf : ∀ (i : Nat) (x : XNode), ns[i]? = some x → i < x.fin ∧ x.fin ≤ ns.length) (hl : ns.length ≤ 300000) :
    Calls Tryz.prog 50 #[v, .int .i64 n] w fun e w' => (∃ u, e = .returned u ∧ RowAt w0 B u (partD ns n)) ∧ Below w.heap.size w w' := by
  have HN := hide (fun W (hb : Below w.heap.size w W) => node_ex B v ns n W ((h.on hbw).on hb))
  have HH := hide h
  have hfd := fld4
  obtain ⟨pv, rfl⟩ := h.ptr
  clear h
  by_cases h0 : (nodeD ns n).fin = 0
  · have HP : Hid (partD ns n = []) := hide (by unfold partD; rw [if_pos h0])
    have hz : (((nodeD ns n).fin : Int) == 0) = true := by rw [h0]; rfl
    clear h0
    go_enter Tryz.func50, Tryz.ntmps50
    go_wp2_with fail
    refine (unhide HN _ (Below.refl _ _)).mono ?_
    rintro e w1 ⟨⟨m, rfl, hu⟩, hb1⟩
    clear hu
    go_wp2
    go_returns
    rw [unhide HP]
    exact ⟨⟨_, rfl, none, 0, rfl, fun hx => absurd rfl hx⟩, hb1⟩
  · have hn0 : 0 ≤ n ∧ n < ns.length := by
      constructor
      · apply Decidable.byContradiction
        intro hc
        exact h0 (by rw [nodeD_low (by omega)]; rfl)
      · apply Decidable.byContradiction
        intro hc
        exact h0 (by rw [nodeD_high (by omega)]; rfl)
    obtain ⟨k, rfl⟩ : ∃ k : Nat, n = k := ⟨n.toNat, by omega⟩
    have hk : k < ns.length := by omega
    obtain ⟨x, hx⟩ : ∃ x, ns[k]? = some x := ⟨ns[k], List.getElem?_eq_getElem hk⟩
    obtain ⟨hf1, hf2⟩ := hf k x hx
    rw [nodeD_at hx] at HN h0
    have HP : Hid (partD ns (k : Nat) = (ns.drop (k + 1)).take (x.fin - (k + 1))) := hide (by unfold partD; rw [nodeD_at hx, if_neg h0, Int.toNat_natCast])
    have hz : ((x.fin : Int) == 0) = false := by simpa using (by omega : ¬ (x.fin : Int) = 0)
    have n1 : wrap64 ((k : Int) + 1) = ((k + 1 : Nat) : Int) := by unfold wrap64; omega
    have n2 : ((k + 1 : Nat) : Int) ≤ (x.fin : Int) := by omega
    clear h0 hf hx
    go_enter Tryz.func50, Tryz.ntmps50
    go_wp2_with fail
    refine (unhide HN _ (Below.refl _ _)).mono ?_
    rintro e w1 ⟨⟨m, rfl, hu⟩, hb1⟩
    clear hu
    rcases unhide HH with ⟨e0, e1⟩ | ⟨q, eq', hq, vn, hbq, hnd⟩
    · rw [e1] at hk; cases hk
    cases eq'
    obtain ⟨g, cap, e2, hg1, hg2, hcs⟩ := nodes_cells hnd (by omega)
    subst e2
    have c0 : w1.cell? ⟨q, 0, none⟩ = some (.slice (some ⟨g, 0, none⟩) ns.length cap) := keptC (Below.then hbw hb1) (blk_cell hbq 0)
    have HCS := hide hcs
    obtain ⟨vs, _, hrow, _⟩ := hnd
    have hcap : ns.length ≤ cap := by
      obtain ⟨g', c', e3, hle, _⟩ := owns_cells hrow (by omega)
      cases e3
      exact hle
    clear hcs hbq hrow
    have n3 : (x.fin : Int) ≤ (cap : Int) := by omega
    have n4 : (0 : Int) ≤ ((k + 1 : Nat) : Int) := by omega
    have hlen : ((ns.drop (k + 1)).take (x.fin - (k + 1))).length = x.fin - (k + 1) := by rw [List.length_take, List.length_drop]; omega
    have HLN := hide hlen
    clear hlen
    by_cases hem : x.fin = k + 1
    · have HP2 : Hid (partD ns (k : Nat) = []) := hide (by rw [unhide HP, hem, Nat.sub_self, List.take_zero])
      go_wp2_with fail
      go_returns
      rw [unhide HP2]
      exact ⟨⟨_, rfl, _, _, rfl, fun hx => absurd rfl hx⟩, hb1⟩
    · have n5 : ¬ x.fin - (k + 1) = 0 := by omega
      go_wp2_with fail
      go_returns
      rw [unhide HP]
      refine ⟨⟨.slice (some ⟨g, (k + 1) * 9, none⟩) (x.fin - (k + 1)) (x.fin - (k + 1)), rfl, some ⟨g, (k + 1) * 9, none⟩, x.fin - (k + 1), by rw [unhide HLN], fun _ => ⟨g, (k + 1) * 9, rfl, fun i y hy => ?_⟩⟩, hb1⟩
      rw [List.getElem?_take] at hy
      split at hy
      · rw [List.getElem?_drop] at hy
        obtain ⟨u, hu, hc⟩ := unhide HCS _ y hy
        obtain ⟨mm, rfl⟩ := hu.one
        refine ⟨mm, hu, fun j z hz => ?_⟩
        have := hc j z hz
        rw [show (k + 1 + i) * 9 + j = (k + 1) * 9 + i * 9 + j by omega] at this
        exact this
      · cases hy
end Go.Proofs.YtjjggncbhenffaaGreatDoor
/- A node's string: xdm's String. -/
namespace Go.Proofs.YtjjggncbhenffaaGreatDoor
open Go.RowKit Go.Maps
def isTxt (x : XNode) : Bool := decide (x.kind = 4)
def txtsD (xs : List XNode) : List Nat := (xs.filter isTxt).flatMap (·.text)
def strD (ns : List XNode) (n : Int) : List Nat := (nodeD ns n).text ++ txtsD (partD ns n)
theorem txts_snoc {xs : List XNode} {k : Nat} {x : XNode} (h : xs[k]? = some x) : txtsD (xs.take (k + 1)) = txtsD (xs.take k) ++ (if x.kind = 4 then x.text else []) := by
  obtain ⟨hk, hx⟩ := List.getElem?_eq_some_iff.1 h
  unfold txtsD
  rw [List.take_succ_eq_append_getElem hk, hx, List.filter_append, List.flatMap_append]
  congr 1
  by_cases h4 : x.kind = 4
  · rw [if_pos h4]
    have : isTxt x = true := decide_eq_true h4
    rw [List.filter_cons, if_pos this]
    simp
  · rw [if_neg h4]
    have : isTxt x = false := decide_eq_false h4
    rw [List.filter_cons, if_neg (by rw [this]; decide)]
    rfl
theorem txts_len : ∀ {xs : List XNode}, (∀ x ∈ xs, small x.text) → (tx (txtsD xs)).length ≤ xs.length * 1048576
  | [], _ => Nat.le_refl _
  | x :: xs, h => by
    have ih := txts_len (fun y hy => h y (List.mem_cons_of_mem _ hy))
    have hx := (h x (List.mem_cons_self ..)).2
    rw [T_size] at hx
    unfold txtsD at ih ⊢
    rw [List.filter_cons, List.length_cons, Nat.succ_mul]
    split
    · rw [List.flatMap_cons, tx_append, List.length_append, Nat.add_comm]
      exact Nat.add_le_add ih hx
    · exact Nat.le_trans ih (Nat.le_add_right _ _)
structure StrSt (w : World) (xs : List XNode) (k : Nat) (w' : World) : Prop where
  le : k ≤ xs.length
  bel : Below w.heap.size w w'
  bld : IsB w.heap.size w.heap.size (Lib.byteCells (tx (txtsD (xs.take k)))) w'
theorem part_mem {ns : List XNode} {n : Int} {x : XNode} (h : x ∈ partD ns n) : x ∈ ns := by
  unfold partD at h
  split at h
  · cases h
  · exact List.mem_of_mem_drop (List.mem_of_mem_take h)
theorem part_len (ns : List XNode) (n : Int) : (partD ns n).length ≤ ns.length := by
  unfold partD
  split
  · exact Nat.zero_le _
  · rw [List.length_take, List.length_drop]; omega
theorem noText {ns : List XNode} (h : ∀ x ∈ ns, small x.text) (n : Int) : small (nodeD ns n).text := by
  unfold nodeD
  split
  · cases hx : ns[n.toNat]? with
    | none => exact small_nil
    | some x => exact h x (List.mem_of_getElem? hx)
  · exact small_nil
set_option maxRecDepth 100000 in
set_option maxHeartbeats 4000000 in
theorem string_any (B : Nat) (v : Value) (ns : List XNode) (n : Int) (w : World) (h : TreeV w B v ns) (hf : ∀ (i : Nat) (x : XNode), ns[i]? = some x → i < x.fin ∧ x.fin ≤ ns.length) (hl : ns.length ≤ 300000) (ht : ∀ x ∈ ns, small x.text) :
    Calls Tryz.prog 22 #[v, .int .i64 n] w fun e w' => e = .returned (.string (T (strD ns n))) ∧ Below w.heap.size w w' := by
  have hb0 : Below w.heap.size w (w.alloc (.cells #[.pointer none, .slice none 0 0] 99 (0, 0))) := (Below.refl _ _).alloc (Nat.le_refl _) _
  have HPA := hide (part_any B v ns n w _ h hb0 hf hl)
  have HNO := hide (fun W (hb : Below w.heap.size w W) => node_ex B v ns n W (h.on hb))
  have HTX : Hid (∀ x ∈ partD ns n, small x.text) := hide fun x hx => ht x (part_mem hx)
  have hpl := part_len ns n
  have hnt := (noText ht n).2
  have hfd := fld2
  have HST : Hid (T (strD ns n) = T (nodeD ns n).text ++ T (txtsD (partD ns n))) := hide (by unfold strD; rw [T_app])
  obtain ⟨pv, rfl⟩ := h.ptr
  have HB0 : Hid (IsB w.heap.size w.heap.size [] (w.alloc (.cells #[.pointer none, .slice none 0 0] 99 (0, 0)))) := hide (Lib.IsBuilderF.of (.inl ⟨Nat.le_refl _, .slice none 0 0, alloc_new _ _, World.ownsRow_nil _ _ _ _, (by intro h; cases h)⟩))
  clear h hf ht
  generalize partD ns n = xs at *
  generalize nodeD ns n = nx at *
  go_enter Tryz.func22, Tryz.ntmps22
  go_wp2_with fail
  refine (unhide HPA).mono ?_
  rintro e w1 ⟨⟨u, rfl, hR⟩, hb1⟩
  have hb01 := Below.then hb0 hb1
  have HR := hide hR
  obtain ⟨a, cap, rfl, _⟩ := hR
  have HI0 : Hid (StrSt w xs 0 w1) := hide ⟨Nat.zero_le _, hb01, Lib.IsBuilderF.below (unhide HB0) hb1⟩
  clear HPA HB0 hb1 hb01
  go_wp2_with fail
  clear hfd
  go_loopw [12] (fun i wr => ∃ k : Nat, i = .int .i64 (k : Nat) ∧ StrSt w xs k wr) (fun i _ => xs.length - (intOf i).toNat)
  case atStart => exact ⟨0, rfl, unhide HI0⟩
  case round =>
    clear HI0
    obtain ⟨k, rfl, hI⟩ := hrel
    have hk := hI.le
    by_cases hlt : k < xs.length
    · obtain ⟨x, hx⟩ : ∃ x, xs[k]? = some x := ⟨xs[k], List.getElem?_eq_getElem hlt⟩
      have hxz := (unhide HTX x (List.mem_of_getElem? hx)).2
      obtain ⟨a', cap', e0, hc⟩ := unhide HR
      cases e0
      obtain ⟨g, oo, ha, hcr⟩ := hc (by intro h0; rw [h0] at hlt; cases hlt)
      subst ha
      obtain ⟨m, _, hcc⟩ := hcr k x hx
      have c0 : wr.cell? ⟨g, oo + k * 9, none⟩ = some (.int .i64 (x.kind : Nat)) := keptC hI.bel (hcc 0 _ rfl)
      have c1 : wr.cell? ⟨g, oo + k * 9 + 1, none⟩ = some (.string (T x.name.uri)) := keptC hI.bel (hcc 1 _ rfl)
      have c2 : wr.cell? ⟨g, oo + k * 9 + 2, none⟩ = some (.string (T x.name.pre)) := keptC hI.bel (hcc 2 _ rfl)
      have c3 : wr.cell? ⟨g, oo + k * 9 + 3, none⟩ = some (.string (T x.name.loc)) := keptC hI.bel (hcc 3 _ rfl)
      have c4 : wr.cell? ⟨g, oo + k * 9 + 4, none⟩ = some (.string (T x.text)) := keptC hI.bel (hcc 4 _ rfl)
      have c5 : wr.cell? ⟨g, oo + k * 9 + 5, none⟩ = some (.int .i64 x.parent) := keptC hI.bel (hcc 5 _ rfl)
      have c6 : wr.cell? ⟨g, oo + k * 9 + 6, none⟩ = some (.int .i64 (x.fin : Nat)) := keptC hI.bel (hcc 6 _ rfl)
      have c7 : wr.cell? ⟨g, oo + k * 9 + 7, none⟩ = some (.int .i64 (x.deep : Nat)) := keptC hI.bel (hcc 7 _ rfl)
      have c8 : wr.cell? ⟨g, oo + k * 9 + 8, none⟩ = some (.map m) := keptC hI.bel (hcc 8 _ rfl)
      have n1 : (0 : Int) ≤ (k : Int) := by omega
      have n2 : (k : Int) < (xs.length : Int) := by omega
      have hbx : Below wr.heap.size wr (wr.alloc (.cells #[.int .i64 (x.kind : Nat), .string (T x.name.uri), .string (T x.name.pre), .string (T x.name.loc), .string (T x.text), .int .i64 x.parent, .int .i64 (x.fin : Nat), .int .i64 (x.deep : Nat), .map m] 69 (0, 0))) := (Below.refl _ _).alloc (Nat.le_refl _) _
      have hbz := hI.bel.size
      have hb3 := Below.then hI.bel hbx
      have hlen : (tx (txtsD (xs.take k))).length + (T x.text).size ≤ 140737488355328 := by
        have h1 := txts_len (xs := xs.take k) (fun y hy => unhide HTX y (List.mem_of_mem_take hy))
        have h2 : (xs.take k).length ≤ 300000 := by rw [List.length_take]; omega
        omega
      have hbB := Lib.IsBuilderF.below hI.bld hbx
      have HW := hide (put_any w.heap.size w.heap.size (tx (txtsD (xs.take k))) (T x.text) _ hbB hlen hb3.size)
      have HTK := hide (txts_snoc hx)
      clear hc hcr hcc hI hx hlen
      by_cases h4 : x.kind = 4
      · have e4 : ((x.kind : Int) == 4) = true := by rw [h4]; rfl
        have HB3 : Hid (tx (txtsD (xs.take (k + 1))) = tx (txtsD (xs.take k)) ++ (T x.text).data.toList) := hide (by rw [unhide HTK, if_pos h4, tx_append]; rfl)
        clear h4 HTK
        go_wp2_with fail
        refine (unhide HW).mono ?_
        rintro e w4 ⟨rfl, hB4, hb4, _⟩
        have HI2 : Hid (StrSt w xs (k + 1) w4) := hide ⟨by omega, hb3.trans hb4, by rw [unhide HB3]; exact hB4⟩
        clear hB4 hb4
        go_wp2_with fail
        go_round
        case measure => simp [intOf]; omega
        case rel => exact ⟨k + 1, by simp, unhide HI2⟩
      · have e4 : ((x.kind : Int) == 4) = false := by simpa using (by omega : ¬ (x.kind : Int) = 4)
        have HB3 : Hid (txtsD (xs.take (k + 1)) = txtsD (xs.take k)) := hide (by rw [unhide HTK, if_neg h4, List.append_nil])
        have HI2 : Hid (StrSt w xs (k + 1) (wr.alloc (.cells #[.int .i64 (x.kind : Nat), .string (T x.name.uri), .string (T x.name.pre), .string (T x.name.loc), .string (T x.text), .int .i64 x.parent, .int .i64 (x.fin : Nat), .int .i64 (x.deep : Nat), .map m] 69 (0, 0)))) := hide ⟨by omega, hb3, by rw [unhide HB3]; exact hbB⟩
        clear h4 HTK HW hbB
        go_wp2_with fail
        go_round
        case measure => simp [intOf]; omega
        case rel => exact ⟨k + 1, by simp, unhide HI2⟩
    · have n2 : ¬ (k : Int) < (xs.length : Int) := by omega
      have hkl : k = xs.length := by omega
      have hbd := hI.bld
      rw [hkl, List.take_length] at hbd
      have hbI := hI.bel
      have HSt := hide (fun W (hb : Below wr.heap.size wr W) => Tryz.Builder_String_any_k w.heap.size w.heap.size _ W (Lib.IsBuilderF.below hbd hb) (Nat.le_trans hbI.size hb.size))
      have HNW := hide (unhide HNO _ hbI)
      have hz2 := txts_len (unhide HTX)
      rw [← T_size] at hz2
      have hz4 : ¬ 9223372036854775807 < (T nx.text).size + (T (txtsD xs)).size := by omega
      have hfd := fld2
      clear hI hbd HNO
      go_wp2_with fail
      refine (unhide HNW).mono ?_
      rintro e w3 ⟨⟨m, rfl, hu⟩, hb3⟩
      clear hu
      go_wp2_with fail
      refine (unhide HSt _ hb3).mono ?_
      rintro e w4 ⟨rfl, _, hb4, _⟩
      rw [show (⟨(tx (txtsD xs)).toArray⟩ : ByteArray) = T (txtsD xs) from rfl]
      go_wp2
      go_returns
      rw [unhide HST]
      exact ⟨rfl, (Below.then hbI hb3).trans hb4⟩
end Go.Proofs.YtjjggncbhenffaaGreatDoor
