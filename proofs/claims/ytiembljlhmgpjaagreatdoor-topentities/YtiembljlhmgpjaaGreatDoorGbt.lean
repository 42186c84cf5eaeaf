/- Several texts, laid as one. -/
import Derived.Test.YtiembljlhmgpjaaGreatDoorGbq
import Derived.Test.YtiembljlhmgpjaaGreatDoorGbs
/- The tree of a document's tokens: xdm's Build. -/
namespace Go.Proofs.YtiembljlhmgpjaaGreatDoor
open Go.RowKit Go.Maps
theorem owns_lower {w : World} {B B' : Nat} {e : TypeId} {size n : Nat} {v : Value} {xs : List Value} (h : w.ownsRow B e size v n xs) (hB : B' ≤ B) : w.ownsRow B' e size v n xs := by
  refine ⟨h.1, ?_⟩
  rcases h.2 with h2 | ⟨g, cap, cur, h1, h2, h3⟩
  · exact .inl h2
  · exact .inr ⟨g, cap, cur, h1, Nat.le_trans hB h2, h3⟩
/-- A tree in memory. -/
def TreeAt (w : World) (B q : Nat) (ns : List XNode) : Prop := B ≤ q ∧ ∃ vn, w.heap[q]? = some (.cells #[vn] 73 (0, 0)) ∧ Nodes w B vn ns
theorem TreeAt.on {w w' : World} {B q : Nat} {ns : List XNode} (h : TreeAt w B q ns) (hb : Below w.heap.size w w') : TreeAt w' B q ns := by
  obtain ⟨h1, vn, h2, h3⟩ := h
  exact ⟨h1, vn, block_below h2 hb, h3.on hb⟩
def TreeOut (w' : World) (B : Nat) (o : Except Nat (List XNode)) (e : Ending) : Prop := match o with
  | .error n => e = .returned (.tuple #[.pointer none, .int .i64 (n : Nat)])
  | .ok ns => ∃ q, e = .returned (.tuple #[.pointer (some ⟨q, 0, none⟩), .int .i64 0]) ∧ TreeAt w' B q ns
theorem elem_errs {s : BS} {t : XTok} {n : Nat} (h : s.element t = .error n) : n = 7 ∨ n = 8 := by
  unfold BS.element BS.elementAt at h
  split at h
  · cases h; exact .inl rfl
  · split at h
    · cases h; exact .inl rfl
    · split at h
      · rename_i ha
        cases h
        exact attr_errs ha
      · cases h
theorem add_errs {s : BS} {t : XTok} {n : Nat} (h : s.add t = .error n) : n = 7 ∨ n = 8 := by
  unfold BS.add at h
  split at h
  · exact elem_errs h
  · split at h
    · cases h
    · split at h <;> cases h
theorem adds_cons (s : BS) (t : XTok) (l : List XTok) : s.adds (t :: l) = match s.add t with
  | .error e => .error e
  | .ok s1 => s1.adds l := rfl
/-- Where the loop stands. -/
structure BuSt (w : World) (p : Nat) (xs : List XTok) (k : Nat) (s : BS) (vn vo : Value) (w' : World) : Prop where
  le : k ≤ xs.length
  bel : Below w.heap.size w w'
  bd : Bd w' w.heap.size p vn vo s
  spec : BS.start.adds xs = s.adds (xs.drop k)
  inv : ∃ o r q, DocT o r q (xs.drop k) ∧ Inv s o.length k ∧ o.length ≤ 32
set_option maxRecDepth 100000 in
set_option maxHeartbeats 4000000 in
theorem build_any (xs : List XTok) (a : Option Addr) (cap : Nat) (w : World) (hx : DocOk xs) (hv : ToksArg w a (xs.map XTok.b)) (hE : XEnv w.heap.size w) :
    Calls Tryz.prog 13 #[.slice a xs.length cap] w fun e w' => TreeOut w' w.heap.size (treeD xs) e ∧ Below w.heap.size w w' := by
  have hml : (xs.map XTok.b).length = xs.length := List.length_map ..
  have hxl := hx.len
  have HX := hide hx
  have HV := hide hv
  have HE := hide hE
  have HW := hide (write_any (xs.map XTok.b) a cap w hv (by rw [hml]; omega) hx.sm w.heap.size (Nat.le_refl _) hE)
  have HP := hide (fun W (hb : Below w.heap.size w W) => xdmPast_any (xs.map XTok.b) a cap W (hv.below hb) (by rw [hml]; omega))
  rw [hml, hx.past] at HP
  rw [hml] at HW
  obtain ⟨S, c, hR⟩ : ∃ S c, writeR (xs.map XTok.b) = (S, c) := ⟨_, _, rfl⟩
  have hc := hx.write
  rw [hR] at HW hc
  simp only at HW hc
  clear hR hx hv hE
  have HBG := hide (fun (W : World) (p : Nat) (hp : w.heap.size ≤ p) (hb : Below w.heap.size w W) (hq : W.heap[p]? = some (.cells #[.slice none 0 0, .slice none 0 0] 76 (0, 0))) => begin_any w.heap.size p (.slice none 0 0) (.slice none 0 0) (.map none) ⟨[], []⟩ rootN W ⟨hq, hp, Nodes.nil _ _, World.ownsRow_nil _ _ _ _⟩ (ScV.nil W w.heap.size) (by simp) (by simp) hb.size)
  go_enter Tryz.func13, Tryz.ntmps13
  go_wp2_with fail
  refine (unhide HW).mono ?_
  rintro e w1 ⟨rfl, hb1⟩
  clear HW
  go_upto_region 2 with fail
  go_cut [24] (fun v24 wx => v24 = .bool false ∧ Below w.heap.size w wx)
  case first =>
    rcases hc with rfl | rfl
    · go_wp2_with fail
      go_meet
      exact ⟨rfl, hb1⟩
    · go_wp2_with fail
      refine (unhide HP _ hb1).mono ?_
      rintro e w2 ⟨rfl, hb2⟩
      have hb02 := Below.then hb1 hb2
      go_wp2_with fail
      go_meet
      exact ⟨rfl, hb02⟩
  case rest =>
    obtain ⟨rfl, hcut⟩ := hcut
    clear HP hb1 hc
    have hbx : (wc.alloc (.cells #[.slice none 0 0, .slice none 0 0] 76 (0, 0))).heap[wc.heap.size]? = some (.cells #[.slice none 0 0, .slice none 0 0] 76 (0, 0)) := alloc_new _ _
    have hb1 : Below w.heap.size w (wc.alloc (.cells #[.slice none 0 0, .slice none 0 0] 76 (0, 0))) := hcut.alloc hcut.size _
    have HBG2 := hide (unhide HBG _ wc.heap.size hcut.size hb1 hbx)
    have HBG3 : Hid (Calls Tryz.prog 26 #[.pointer (some ⟨wc.heap.size, 0, none⟩), .agg #[.int .i64 1, .string ⟨#[]⟩, .string ⟨#[]⟩, .string ⟨#[]⟩, .string ⟨#[]⟩, .int .i64 (-1), .int .i64 0, .int .i64 0, .map none]] (wc.alloc (.cells #[.slice none 0 0, .slice none 0 0] 76 (0, 0))) fun e w' => e = .returned (.tuple #[]) ∧ ∃ vn' vo', BdTo w.heap.size wc.heap.size (.slice none 0 0) (.slice none 0 0) (wc.alloc (.cells #[.slice none 0 0, .slice none 0 0] 76 (0, 0))) w' vn' vo' BS.start) := hide (unhide HBG2)
    have HB0 : Hid (Bd (wc.alloc (.cells #[.slice none 0 0, .slice none 0 0] 76 (0, 0))) w.heap.size wc.heap.size (.slice none 0 0) (.slice none 0 0) ⟨[], []⟩) := hide ⟨hbx, hcut.size, Nodes.nil _ _, World.ownsRow_nil _ _ _ _⟩
    clear HBG hbx HBG2
    go_wp2_with fail
    refine (unhide HBG3).mono ?_
    rintro e w2 ⟨rfl, vn0, vo0, hto0⟩
    have hb2 : Below w.heap.size w w2 := hb1.trans (hto0.below (unhide HB0) hb1.size)
    have HS0 : Hid (BuSt w wc.heap.size xs 0 BS.start vn0 vo0 w2) := hide ⟨Nat.zero_le _, hb2, hto0.bd, rfl, [], false, 0, (unhide HX).doc, Inv.start, by decide⟩
    clear hto0 HBG3 HB0 hb1 hb2
    generalize wc.heap.size = P at *
    go_wp2_with fail
    go_loopw [30] (fun i wr => ∃ (k : Nat) (s : BS) (vn vo : Value), i = .int .i64 (k : Nat) ∧ BuSt w P xs k s vn vo wr) (fun i _ => xs.length - (intOf i).toNat)
    case atStart => exact ⟨0, BS.start, vn0, vo0, rfl, unhide HS0⟩
    case round =>
      clear HS0
      obtain ⟨k, s, vn, vo, rfl, hI⟩ := hrel
      have hk := hI.le
      obtain ⟨o, r, q, hD, hinv, hol⟩ := hI.inv
      have HI := hide hI
      by_cases hlt : k < xs.length
      · obtain ⟨t, ht⟩ : ∃ t, xs[k]? = some t := ⟨xs[k], List.getElem?_eq_getElem hlt⟩
        have htm := List.mem_of_getElem? ht
        have hdr : xs.drop k = t :: xs.drop (k + 1) := by
          rw [← List.getElem_cons_drop hlt]
          congr 1
          exact (List.getElem?_eq_some_iff.1 ht).2
        rw [hdr] at hD
        have hspec := hI.spec
        rw [hdr, adds_cons] at hspec
        obtain ⟨g, oo, ha, hcc⟩ := ((unhide HV).below hI.bel) (by intro h0; rw [List.map_eq_nil_iff] at h0; rw [h0] at hlt; cases hlt)
        subst ha
        obtain ⟨c0, c1, ⟨v, c2, hpv⟩, c3⟩ := hcc k t.b (by rw [List.getElem?_map, ht]; rfl)
        have hpv' : PairsArg wr v (pairsT t.attrs) := hpv
        obtain ⟨va, vc, hve, _⟩ := id hpv'
        have hpl : (pairsT t.attrs).length = t.attrs.length := List.length_map ..
        rw [hpl] at hve
        subst hve
        have c0' : wr.cell? ⟨g, oo + k * 4, none⟩ = some (.int .i64 (t.kind : Nat)) := c0
        have c1' : wr.cell? ⟨g, oo + k * 4 + 1, none⟩ = some (.string (T t.name)) := c1
        have c3' : wr.cell? ⟨g, oo + k * 4 + 3, none⟩ = some (.string (T t.text)) := c3
        have n1 : (0 : Int) ≤ (k : Int) := by omega
        have n2 : (k : Int) < (xs.length : Int) := by omega
        have hbA : Below wr.heap.size wr (wr.alloc (.cells #[.int .i64 (t.kind : Nat), .string (T t.name), .slice va t.attrs.length vc, .string (T t.text)] 56 (0, 0))) := (Below.refl _ _).alloc (Nat.le_refl _) _
        have hb0 := Below.then hI.bel hbA
        have HAD := hide (bdAdd_any w.heap.size P vn vo (.slice va t.attrs.length vc) s t (wr.alloc (.cells #[.int .i64 (t.kind : Nat), .string (T t.name), .slice va t.attrs.length vc, .string (T t.text)] 56 (0, 0))) (hI.bd.on hbA) (hpv'.below hbA) ((unhide HX).tok htm) (hinv.ok (by omega) (by omega)) hb0.size (((unhide HE).env.below hI.bel).below hbA))
        have HD := hide hD
        have HSP := hide hspec
        have HIN := hide hinv
        clear hcc hI hdr ht hpv hpv' c0 c1 c3 hD hspec hinv htm
        go_wp2_with fail
        refine (unhide HAD).mono ?_
        rintro e w3 hO
        cases had : s.add t with
        | error n =>
          rw [had] at hO
          obtain ⟨rfl, hb3⟩ := hO
          have HEQ : Hid (treeD xs = .error n) := hide (by unfold treeD; rw [unhide HSP, had])
          have hb03 := hb0.trans hb3
          rcases add_errs had with rfl | rfl
          all_goals
            clear had
            go_wp2
            go_returns
            rw [unhide HEQ]
            exact ⟨rfl, hb03⟩
        | ok s' =>
          rw [had] at hO
          obtain ⟨rfl, vn', vo', hto⟩ := hO
          obtain ⟨o', r', q', hD', hinv', hol'⟩ := (unhide HIN).add hol (unhide HD) had
          have hsp := unhide HSP
          rw [had] at hsp
          have hb3 : Below w.heap.size w w3 := hb0.trans (hto.below ((unhide HI).bd.on hbA) hb0.size)
          have HI3 : Hid (BuSt w P xs (k + 1) s' vn' vo' w3) := hide ⟨hlt, hb3, hto.bd, hsp, o', r', q', hD', hinv', hol'⟩
          clear had hto hD' hinv' hsp
          go_wp2_with fail
          exact ⟨⟨k + 1, s', vn', vo', by simp, unhide HI3⟩, by simp [intOf]; omega⟩
      · have n2 : ¬ (k : Int) < (xs.length : Int) := by omega
        have hkl : k = xs.length := by omega
        have hsp := hI.spec
        rw [hkl, List.drop_length] at hsp
        have HEQ : Hid (treeD xs = .ok s.finish.nodes) := hide (by unfold treeD; rw [hsp]; rfl)
        have hok := hinv.ok (by omega) (by omega)
        have HFI := hide (finish_any w.heap.size P vn vo s wr hI.bd hok.o hok.i (by have := hok.n; omega) (by have := hok.p; omega))
        clear hI hsp hkl hD hinv hok
        go_wp2_with fail
        refine (unhide HFI).mono ?_
        rintro e w3 ⟨rfl, vn', vo', hto⟩
        have hb3 : Below w.heap.size w w3 := (unhide HI).bel.trans (hto.below (unhide HI).bd (unhide HI).bel.size)
        have c0 : w3.cell? ⟨P, 0, none⟩ = some vn' := blk_cell hto.bd.blk 0
        have HND := hide hto.bd.nodes
        obtain ⟨an, cn, e0⟩ : ∃ an cn, vn' = .slice an s.finish.nodes.length cn := by
          obtain ⟨vs, _, h2, _⟩ := hto.bd.nodes
          exact owns_slice h2
        subst e0
        clear hto
        go_wp2_with fail
        go_returns
        rw [unhide HEQ]
        exact ⟨⟨_, rfl, hb3.size, _, alloc_new _ _, (unhide HND).on ((Below.refl _ _).alloc (Nat.le_refl _) _)⟩, hb3.alloc hb3.size _⟩
end Go.Proofs.YtiembljlhmgpjaaGreatDoor
/- What a tree tells of a node: xdm's Len, node, Kind, Name, Text, Parent. -/
namespace Go.Proofs.YtiembljlhmgpjaaGreatDoor
open Go.RowKit Go.Maps
/-- A tree, or none. -/
def TreeV (w : World) (B : Nat) (v : Value) (ns : List XNode) : Prop := (v = .pointer none ∧ ns = []) ∨ ∃ q, v = .pointer (some ⟨q, 0, none⟩) ∧ TreeAt w B q ns
theorem TreeV.on {w w' : World} {B : Nat} {v : Value} {ns : List XNode} (h : TreeV w B v ns) (hb : Below w.heap.size w w') : TreeV w' B v ns := by
  rcases h with h | ⟨q, h1, h2⟩
  · exact .inl h
  · exact .inr ⟨q, h1, h2.on hb⟩
theorem TreeV.none (w : World) (B : Nat) : TreeV w B (.pointer none) [] := .inl ⟨rfl, rfl⟩
set_option maxRecDepth 100000 in
set_option maxHeartbeats 2000000 in
theorem len_any (B : Nat) (v : Value) (ns : List XNode) (w : World) (h : TreeV w B v ns) :
    Calls Tryz.prog 12 #[v] w fun e w' => e = .returned (.int .i64 (ns.length : Nat)) ∧ Below w.heap.size w w' := by
  rcases h with ⟨rfl, rfl⟩ | ⟨q, rfl, hq, vn, hb, vs, _, hrow, _⟩
  · go_enter Tryz.func12, Tryz.ntmps12
    go_wp2
    go_returns
    exact ⟨rfl, Below.refl _ _⟩
  · obtain ⟨a, c, rfl⟩ := owns_slice hrow
    have c0 : w.cell? ⟨q, 0, none⟩ = some (.slice a ns.length c) := blk_cell hb 0
    clear hb hrow
    go_enter Tryz.func12, Tryz.ntmps12
    go_wp2_with fail
    try go_quiet (fail)
    try go_wp2
    go_returns
    exact ⟨rfl, by (repeat first | with_reducible exact Below.refl _ _ | refine Below.drew ?_)⟩
theorem ScV.set {w : World} {B p i : Nat} {v u : Value} {s : Sc} {c : Array Value} {t : TypeId} {z : Nat × Nat} (h : ScV w B v s) (hp : w.heap[p]? = some (.cells c t z)) : ScV (w.setCell ⟨p, i, none⟩ u) B v s :=
  h.kept fun b es cl hb _ => by
    rw [blk_other (fun e => by rw [e, hp] at hb; cases hb)]
    exact hb
end Go.Proofs.YtiembljlhmgpjaaGreatDoor
/- What a tree tells of a node: xdm's Kind, Name, Text, Parent, part. -/
namespace Go.Proofs.YtiembljlhmgpjaaGreatDoor
open Go.RowKit Go.Maps
end Go.Proofs.YtiembljlhmgpjaaGreatDoor
/- All nodes of a tree: xdm's Nodes. -/
namespace Go.Proofs.YtiembljlhmgpjaaGreatDoor
open Go.RowKit Go.Maps
def apiCells (x : XNode) : List Value := [.int .i64 (x.kind : Nat), .string (T x.name.uri), .string (T x.name.pre), .string (T x.name.loc), .string (T x.text), .int .i64 (x.deep : Nat)]
def apiRow (xs : List XNode) : List Value := xs.flatMap apiCells
theorem apiRow_snoc (xs : List XNode) (x : XNode) : apiRow (xs ++ [x]) = apiRow xs ++ apiCells x := by unfold apiRow; rw [List.flatMap_append]; simp
theorem apiRow_get : ∀ (xs : List XNode) (i : Nat) (x : XNode) (j : Nat), xs[i]? = some x → j < 6 → (apiRow xs)[i * 6 + j]? = (apiCells x)[j]?
  | [], i, x, j, h, _ => by cases h
  | y :: xs, 0, x, j, h, hj => by
    cases h
    show (apiCells y ++ apiRow xs)[0 * 6 + j]? = _
    rw [Nat.zero_mul, Nat.zero_add, List.getElem?_append_left (by show j < 6; exact hj)]
  | y :: xs, i + 1, x, j, h, hj => by
    show (apiCells y ++ apiRow xs)[(i + 1) * 6 + j]? = _
    rw [List.getElem?_append_right (by show 6 ≤ _; omega), show (i + 1) * 6 + j - (apiCells y).length = i * 6 + j by show (i + 1) * 6 + j - 6 = _; omega]
    exact apiRow_get xs i x j h hj
def ApiAt (w : World) (B : Nat) (v : Value) (xs : List XNode) : Prop := w.ownsRow B 66 6 v xs.length (apiRow xs)
theorem infoApi : (Tryz.prog.info? 66).map (fun i => (i.zero, i.size, i.bytes)) = some (some (.agg #[.int .i64 0, .string ⟨#[]⟩, .string ⟨#[]⟩, .string ⟨#[]⟩, .string ⟨#[]⟩, .int .i64 0]), 6, 80) := by kernel_rfl
theorem ApiAt.cells {w : World} {B : Nat} {v : Value} {xs : List XNode} (h : ApiAt w B v xs) (hp : 0 < xs.length) : ∃ g cap, v = .slice (some ⟨g, 0, none⟩) xs.length cap ∧ ∀ (i : Nat) (x : XNode), xs[i]? = some x → ∀ j u, (apiCells x)[j]? = some u → w.cell? ⟨g, i * 6 + j, none⟩ = some u := by
  obtain ⟨g, cap, e, _, _, _, hc, _⟩ := owns_cells h hp
  refine ⟨g, cap, e, fun i x hx j u hu => ?_⟩
  refine hc _ _ ?_
  rw [apiRow_get xs i x j hx (by have := (List.getElem?_eq_some_iff.1 hu).1; exact this)]
  exact hu
theorem ApiAt.on {w w' : World} {B : Nat} {v : Value} {xs : List XNode} (h : ApiAt w B v xs) (hb : Below w.heap.size w w') : ApiAt w' B v xs := owns_below h hb
structure NoSt (w : World) (ns : List XNode) (k : Nat) (v : Value) (w' : World) : Prop where
  le : k ≤ ns.length
  bel : Below w.heap.size w w'
  row : ApiAt w' w.heap.size v (ns.take k)
theorem newsC {W : World} {g : Nat} {cs : List Value} (h : ∀ j u, cs[j]? = some u → W.cell? ⟨g, j, none⟩ = some u) : ∀ j u, cs[j]? = some u → W.cell? ((⟨g, 0, none⟩ : Addr).add j) = some u := fun j u hu => by
  rw [Addr.add_mid, Nat.zero_add]
  exact h j u hu
theorem cellsNew2 (w : World) (o : Obj) (cs : List Value) (t : TypeId) (z : Nat × Nat) (c : Array Value) (hc : c = cs.toArray) : ∀ j u, cs[j]? = some u → ((w.alloc o).alloc (.cells c t z)).cell? ⟨w.heap.size + 1, j, none⟩ = some u := fun j u hu => by
  subst hc
  have h := alloc_new (w.alloc o) (.cells cs.toArray t z)
  rw [World.size_alloc] at h
  rw [blk_cell h]
  simpa using hu
set_option maxRecDepth 100000 in
set_option maxHeartbeats 4000000 in
theorem nodes_any (B : Nat) (v : Value) (ns : List XNode) (w : World) (h : TreeV w B v ns) (hl : ns.length ≤ 300000) :
    Calls Tryz.prog 11 #[v] w fun e w' => (∃ u, e = .returned u ∧ ApiAt w' w.heap.size u ns) ∧ Below w.heap.size w w' := by
  have HLn := hide (len_any B v ns w h)
  have HH := hide h
  obtain ⟨pv, ev⟩ : ∃ pv, v = .pointer pv := by rcases h with ⟨rfl, _⟩ | ⟨q, rfl, _⟩ <;> exact ⟨_, rfl⟩
  subst ev
  clear h
  go_enter Tryz.func11, Tryz.ntmps11
  go_wp2_with fail
  refine (unhide HLn).mono ?_
  rintro e w1 ⟨rfl, hb1⟩
  clear HLn
  have HH1 := hide ((unhide HH).on hb1)
  have HI0 : Hid (NoSt w ns 0 (.slice none 0 0) w1) := hide ⟨Nat.zero_le _, hb1, World.ownsRow_nil _ _ _ _⟩
  go_wp2_with fail
  go_loopw [3, 8] (fun a i wr => ∃ k : Nat, i = .int .i64 (k : Nat) ∧ NoSt w ns k a wr) (fun _ i _ => ns.length - (intOf i).toNat)
  case atStart => exact ⟨0, rfl, unhide HI0⟩
  case round =>
    clear HI0
    obtain ⟨k, rfl, hI⟩ := hrel
    have hk := hI.le
    by_cases hlt : k < ns.length
    · obtain ⟨x, hx⟩ : ∃ x, ns[k]? = some x := ⟨ns[k], List.getElem?_eq_getElem hlt⟩
      rcases (unhide HH).on hI.bel with ⟨e0, e1⟩ | ⟨q, eq', hq, vn, hbq, hnd⟩
      · rw [e1] at hlt; cases hlt
      cases eq'
      obtain ⟨g, cap, e2, hg1, hg2, hcs⟩ := nodes_cells hnd (by omega)
      subst e2
      obtain ⟨u, hu, huc⟩ := hcs k x hx
      obtain ⟨m, rfl⟩ := hu.one
      have c0 : wr.cell? ⟨q, 0, none⟩ = some (.slice (some ⟨g, 0, none⟩) ns.length cap) := blk_cell hbq 0
      have b0 : wr.cell? ⟨g, k * 9, none⟩ = some (.int .i64 (x.kind : Nat)) := huc 0 _ rfl
      have b1 : wr.cell? ⟨g, k * 9 + 1, none⟩ = some (.string (T x.name.uri)) := huc 1 _ rfl
      have b2 : wr.cell? ⟨g, k * 9 + 2, none⟩ = some (.string (T x.name.pre)) := huc 2 _ rfl
      have b3 : wr.cell? ⟨g, k * 9 + 3, none⟩ = some (.string (T x.name.loc)) := huc 3 _ rfl
      have b4 : wr.cell? ⟨g, k * 9 + 4, none⟩ = some (.string (T x.text)) := huc 4 _ rfl
      have b5 : wr.cell? ⟨g, k * 9 + 5, none⟩ = some (.int .i64 x.parent) := huc 5 _ rfl
      have b6 : wr.cell? ⟨g, k * 9 + 6, none⟩ = some (.int .i64 (x.fin : Nat)) := huc 6 _ rfl
      have b7 : wr.cell? ⟨g, k * 9 + 7, none⟩ = some (.int .i64 (x.deep : Nat)) := huc 7 _ rfl
      have b8 : wr.cell? ⟨g, k * 9 + 8, none⟩ = some (.map m) := huc 8 _ rfl
      have n1 : (0 : Int) ≤ (k : Int) := by omega
      have n2 : (k : Int) < (ns.length : Int) := by omega
      have hbz := hI.bel.size
      have hrw := hI.row
      have HBE := hide hI.bel
      have hln : (ns.take k).length = k := by rw [List.length_take]; omega
      unfold ApiAt at hrw
      rw [hln] at hrw
      obtain ⟨aw, cw, rfl⟩ := owns_slice hrw
      have HRW := hide hrw
      have HSN : Hid (ns.take (k + 1) = ns.take k ++ [x]) := hide (by
        obtain ⟨hk', he⟩ := List.getElem?_eq_some_iff.1 hx
        rw [List.take_succ_eq_append_getElem hk', he])
      have HLN := hide hln
      obtain ⟨i0, hi, hz0, hz1, hz2⟩ := info_parts infoApi
      clear hI hcs hx hrw hln huc hu hbq hnd hg1 hg2 hq
      go_wp2_with (at_builtin; refine wpList_append_own _ rfl _ _ 37 rfl w.heap.size 66 i0 _ 6 80 Tryz.underlying37 hi hz0 hz1 hz2 rfl (by decide) _ k (apiRow (ns.take k)) rfl (owns_below (owns_below (unhide HRW) ((Below.refl _ _).alloc (Nat.le_refl _) _)) ((Below.refl _ _).alloc (Nat.le_refl _) _)) ⟨wr.heap.size + 1, 0, none⟩ 1 1 (apiCells x) rfl rfl (newsC (cellsNew2 wr _ (apiCells x) _ _ _ rfl)) (fun u hu => by simp [apiCells] at hu; rcases hu with rfl | rfl | rfl | rfl | rfl | rfl <;> rfl) (by unfold maxLen; omega) (by omega) (by simp; omega) ?_; intro v8 w8 hown8 hgrow8 _)
      have hbg : Below w.heap.size w w8 := (((unhide HBE).alloc (unhide HBE).size _).alloc (by simp; omega) _).grown hgrow8 (by simp; omega) (fun j hj => ((unhide HRW).lt j hj).1)
      refine ⟨⟨k + 1, by simp, ⟨hlt, hbg, ?_⟩⟩, by simp [intOf]; omega⟩
      unfold ApiAt
      rw [unhide HSN, apiRow_snoc, List.length_append, unhide HLN]
      exact hown8
    · have n2 : ¬ (k : Int) < (ns.length : Int) := by omega
      have hkl : k = ns.length := by omega
      have hrw := hI.row
      rw [hkl, List.take_length] at hrw
      have hbI := hI.bel
      clear hI
      go_wp2
      go_returns
      exact ⟨⟨_, rfl, hrw⟩, hbI⟩
end Go.Proofs.YtiembljlhmgpjaaGreatDoor
