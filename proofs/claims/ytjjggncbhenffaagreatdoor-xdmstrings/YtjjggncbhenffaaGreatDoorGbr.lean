/- Several texts, laid as one. -/
import Derived.Test.YtjjggncbhenffaaGreatDoorGbn
import Derived.Test.YtjjggncbhenffaaGreatDoorGbq
import Derived.Test.YtjjggncbhenffaaGreatDoorXmlWrW
import Derived.Test.YtjjggncbhenffaaGreatDoorGbj
import Derived.Test.YtjjggncbhenffaaGreatDoorGbl
import Derived.Test.YtjjggncbhenffaaGreatDoorGao
import Derived.BigQuiet
import Derived.Test.YtjjggncbhenffaaGreatDoorGbp
/- Trees that are built are well formed, in plain terms: where a node ends, and how long texts are. -/
namespace Go.Proofs.YtjjggncbhenffaaGreatDoor
def small (l : List Nat) : Prop := okL l ∧ (T l).size ≤ 1048576
/-- Nodes that have ended end behind themselves. -/
structure InvT (s : BS) : Prop where
  txt : ∀ x ∈ s.nodes, small x.text
  fin : ∀ (i : Nat) (x : XNode), s.nodes[i]? = some x → i ∈ s.opn ∨ (i < x.fin ∧ x.fin ≤ s.nodes.length)
theorem small_nil : small [] := ⟨okL_e, Nat.zero_le _⟩
theorem InvT.begin {s : BS} (h : InvT s) (x : XNode) (hx : small x.text) : InvT (s.begin x) := by
  refine ⟨fun y hy => ?_, fun i y hy => ?_⟩
  · rcases List.mem_append.1 hy with hy | hy
    · exact h.txt y hy
    · rw [List.mem_singleton.1 hy]; exact hx
  · have hy' : (s.nodes ++ [x])[i]? = some y := hy
    show i ∈ s.opn ++ [s.nodes.length] ∨ (i < y.fin ∧ y.fin ≤ (s.nodes ++ [x]).length)
    rw [List.length_append]
    by_cases hi : i < s.nodes.length
    · rw [List.getElem?_append_left hi] at hy'
      rcases h.fin i y hy' with h1 | ⟨h1, h2⟩
      · exact .inl (List.mem_append_left _ h1)
      · exact .inr ⟨h1, by simp; omega⟩
    · left
      have := (List.getElem?_eq_some_iff.1 hy').1
      rw [List.length_append] at this
      simp at this
      have e : i = s.nodes.length := by omega
      rw [e]
      simp
theorem InvT.finish {s : BS} (h : InvT s) (ho : s.opn ≠ []) (hi : s.inner < s.nodes.length) : InvT s.finish := by
  refine ⟨fun y hy => ?_, fun i y hy => ?_⟩
  · have hy' : y ∈ s.nodes.modify s.inner (fun x => { x with fin := s.nodes.length }) := hy
    obtain ⟨j, hj⟩ := List.getElem?_of_mem hy'
    rw [List.getElem?_modify] at hj
    obtain ⟨z, hz, e⟩ := Option.map_eq_some_iff.1 hj
    have := h.txt z (List.mem_of_getElem? hz)
    rw [← e]
    split <;> exact this
  · have hy' : (s.nodes.modify s.inner (fun x => { x with fin := s.nodes.length }))[i]? = some y := hy
    rw [List.getElem?_modify] at hy'
    obtain ⟨z, hz, e⟩ := Option.map_eq_some_iff.1 hy'
    show i ∈ s.opn.dropLast ∨ (i < y.fin ∧ y.fin ≤ (s.nodes.modify _ _).length)
    rw [List.length_modify]
    by_cases hin : s.inner = i
    · rw [if_pos hin] at e
      right
      rw [← e]
      exact ⟨by show i < s.nodes.length; omega, Nat.le_refl _⟩
    · rw [if_neg hin] at e
      have ez : z = y := e
      subst ez
      rcases h.fin i z hz with h1 | h1
      · left
        have e2 : s.opn = s.opn.dropLast ++ [s.inner] := by
          have h3 := List.dropLast_concat_getLast ho
          have h4 : s.opn.getLast ho = s.inner := by
            unfold BS.inner
            rw [List.getLastD_eq_getLast?, List.getLast?_eq_some_getLast ho]
            rfl
          rw [h4] at h3
          exact h3.symm
        rw [e2] at h1
        rcases List.mem_append.1 h1 with h1 | h1
        · exact h1
        · exact absurd (List.mem_singleton.1 h1).symm hin
      · exact .inr h1
theorem InvT.leaf {s : BS} (h : InvT s) (x : XNode) (hx : small x.text) : InvT (s.leaf x) := by
  refine (h.begin (s.placed x) hx).finish (by show s.opn ++ [_] ≠ []; simp) ?_
  rw [begin_inner]
  show _ < (s.nodes ++ [_]).length
  simp
theorem InvT.leafs : ∀ (l : List XNode) (s : BS), InvT s → (∀ x ∈ l, small x.text) → InvT (l.foldl BS.leaf s)
  | [], _, h, _ => h
  | x :: l, s, h, hl => InvT.leafs l (s.leaf x) (h.leaf x (hl x (List.mem_cons_self ..))) (fun y hy => hl y (List.mem_cons_of_mem _ hy))
theorem attrsN_txt {s : Sc} : ∀ {l : List (List Nat × List Nat)} {r : List XNode}, OkAt l → attrsN s l = some r → ∀ x ∈ r, small x.text
  | [], r, _, h, x, hx => by cases h; cases hx
  | y :: l, r, hl, h, x, hx => by
    have hl' : OkAt l := fun z hz => hl z (List.mem_cons_of_mem _ hz)
    rw [attrsN] at h
    split at h
    · exact attrsN_txt hl' h x hx
    · split at h
      · cases h
      · obtain ⟨q, hq, rfl⟩ := Option.map_eq_some_iff.1 h
        rcases List.mem_cons.1 hx with rfl | hx
        · have := hl y (List.mem_cons_self ..)
          exact ⟨this.1.2, this.2.2⟩
        · exact attrsN_txt hl' hq x hx
theorem InvT.add {s s' : BS} {t : XTok} (h : InvT s) (ht : OkAt t.attrs) (hx : small t.text) (ho : s.opn ≠ []) (hi : s.inner < s.nodes.length) (ha : s.add t = .ok s') : InvT s' := by
  unfold BS.add at ha
  split at ha
  · unfold BS.element BS.elementAt at ha
    split at ha
    · cases ha
    · split at ha
      · cases ha
      · split at ha
        · cases ha
        · rename_i as' hat
          cases ha
          refine InvT.leafs _ _ (h.begin _ small_nil) ?_
          unfold attributesD at hat
          split at hat
          · cases hat
          · rename_i q hq
            split at hat
            · cases hat; exact attrsN_txt ht hq
            · cases hat
  · split at ha
    · cases ha; exact h.finish ho hi
    · split at ha
      · cases ha; exact h.leaf _ hx
      · cases ha; exact h.leaf _ hx
/-- A tree as it may be told. -/
structure TreeOk (ns : List XNode) : Prop where
  pos : 0 < ns.length
  len : ns.length ≤ 300000
  txt : ∀ x ∈ ns, small x.text
  fin : ∀ (i : Nat) (x : XNode), ns[i]? = some x → i < x.fin ∧ x.fin ≤ ns.length
theorem adds_ok : ∀ (ts : List XTok) (s s' : BS) (o : List (List Nat)) (r : Bool) (q k : Nat), DocT o r q ts → Inv s o.length k → o.length ≤ 32 → InvT s → (∀ t ∈ ts, OkAt t.attrs ∧ small t.text) → s.adds ts = .ok s' → Inv s' 0 (k + ts.length) ∧ InvT s'
  | [], s, s', o, r, q, k, hD, hI, _, hT, _, ha => by
    cases ha
    cases hD
    exact ⟨hI, hT⟩
  | t :: ts, s, s', o, r, q, k, hD, hI, ho, hT, hx, ha => by
    rw [show s.adds (t :: ts) = _ from rfl] at ha
    unfold BS.adds at ha
    split at ha
    · cases ha
    · rename_i s1 h1
      obtain ⟨o', r', q', hD', hI', ho'⟩ := hI.add ho hD h1
      have hT' := hT.add (hx t (List.mem_cons_self ..)).1 (hx t (List.mem_cons_self ..)).2 hI.ne hI.inner h1
      have := adds_ok ts s1 s' o' r' q' (k + 1) hD' hI' ho' hT' (fun y hy => hx y (List.mem_cons_of_mem _ hy)) ha
      rw [List.length_cons, show k + (ts.length + 1) = k + 1 + ts.length by omega]
      exact this
theorem InvT.start : InvT BS.start := ⟨fun x hx => by rw [List.mem_singleton.1 hx]; exact small_nil, fun i x hx => by
  left
  have hx' : [rootN][i]? = some x := hx
  have := (List.getElem?_eq_some_iff.1 hx').1
  simp at this
  subst this
  show 0 ∈ [0]
  simp⟩
theorem DocOk.tree {xs : List XTok} {ns : List XNode} (h : DocOk xs) (ht : treeD xs = .ok ns) : TreeOk ns := by
  unfold treeD at ht
  split at ht
  · cases ht
  · rename_i s hs
    cases ht
    obtain ⟨hI, hT⟩ := adds_ok xs BS.start s [] false 0 0 h.doc Inv.start (by decide) InvT.start (fun t htm => by
      have := h.tok htm
      refine ⟨this.a, (h.all t htm).x, ?_⟩
      exact (h.sm t.b (List.mem_map.2 ⟨t, htm, rfl⟩)).x) hs
    have hF := hT.finish hI.ne hI.inner
    have hl : s.finish.nodes.length = s.nodes.length := List.length_modify ..
    have hn := hI.n
    have hx := h.len
    refine ⟨by rw [hl]; have := hI.inner; omega, by rw [hl]; omega, hF.txt, fun i x hi => ?_⟩
    rcases hF.fin i x hi with h1 | h1
    · exfalso
      have h2 : s.finish.opn = [] := by
        have h3 := hI.opn
        show s.opn.dropLast = []
        apply List.length_eq_zero_iff.1
        rw [List.length_dropLast]
        omega
      rw [h2] at h1
      cases h1
    · exact h1
end Go.Proofs.YtjjggncbhenffaaGreatDoor
/- What lies in a node: xdm's part. -/
namespace Go.Proofs.YtjjggncbhenffaaGreatDoor
open Go.RowKit Go.Maps
/-- Nodes in a row that is read. -/
def RowAt (w : World) (B : Nat) (v : Value) (xs : List XNode) : Prop := ∃ a cap, v = .slice a xs.length cap ∧ (xs ≠ [] → ∃ g o, a = some ⟨g, o, none⟩ ∧ ∀ i x, xs[i]? = some x → ∃ m, ScV w B (.map m) x.scope ∧ ∀ j u, (nodeCells x (.map m))[j]? = some u → w.cell? ⟨g, o + i * 9 + j, none⟩ = some u)
theorem RowAt.on {w w' : World} {B : Nat} {v : Value} {xs : List XNode} (h : RowAt w B v xs) (hb : Below w.heap.size w w') : RowAt w' B v xs := by
  obtain ⟨a, cap, h1, h2⟩ := h
  refine ⟨a, cap, h1, fun hx => ?_⟩
  obtain ⟨g, o, h3, h4⟩ := h2 hx
  refine ⟨g, o, h3, fun i x hi => ?_⟩
  obtain ⟨m, h5, h6⟩ := h4 i x hi
  exact ⟨m, h5.on hb, fun j u hu => keptC hb (h6 j u hu)⟩
def partD (ns : List XNode) (n : Int) : List XNode := if (nodeD ns n).fin = 0 then [] else (ns.drop (n.toNat + 1)).take ((nodeD ns n).fin - (n.toNat + 1))
set_option maxRecDepth 100000 in
set_option maxHeartbeats 4000000 in
theorem part_any (B : Nat) (v : Value) (ns : List XNode) (n : Int) (w0 w : World) (h : TreeV w0 B v ns) (hbw : Below w0.heap.size w0 w) (hf : ∀ (i : Nat) (x : XNode), ns[i]? = some x → i < x.fin ∧ x.fin ≤ ns.length) (hl : ns.length ≤ 300000) :
    Calls Tryz.prog 50 #[v, .int .i64 n] w fun e w' => (∃ u, e = .returned u ∧ RowAt w0 B u (partD ns n)) ∧ Below w.heap.size w w' := by
  have HN := hide (fun W (hb : Below w.heap.size w W) => node_ex B v ns n W ((h.on hbw).on hb))
  have HH := hide h
  have hfd := fld4
  obtain ⟨pv, rfl⟩ := h.ptr
  clear h
  by_cases h0 : (nodeD ns n).fin = 0
  · have HP : Hid (partD ns n = []) := hide (by unfold partD; rw [if_pos h0])
    have hz : (((nodeD ns n).fin : Int) == 0) = true := by rw [h0]; rfl
    clear h0
    go_enter Tryz.func50, Tryz.ntmps50
    go_wp2_with fail
    refine (unhide HN _ (Below.refl _ _)).mono ?_
    rintro e w1 ⟨⟨m, rfl, hu⟩, hb1⟩
    clear hu
    go_wp2
    go_returns
    rw [unhide HP]
    exact ⟨⟨_, rfl, none, 0, rfl, fun hx => absurd rfl hx⟩, hb1⟩
  · have hn0 : 0 ≤ n ∧ n < ns.length := by
      constructor
      · apply Decidable.byContradiction
        intro hc
        exact h0 (by rw [nodeD_low (by omega)]; rfl)
      · apply Decidable.byContradiction
        intro hc
        exact h0 (by rw [nodeD_high (by omega)]; rfl)
    obtain ⟨k, rfl⟩ : ∃ k : Nat, n = k := ⟨n.toNat, by omega⟩
    have hk : k < ns.length := by omega
    obtain ⟨x, hx⟩ : ∃ x, ns[k]? = some x := ⟨ns[k], List.getElem?_eq_getElem hk⟩
    obtain ⟨hf1, hf2⟩ := hf k x hx
    rw [nodeD_at hx] at HN h0
    have HP : Hid (partD ns (k : Nat) = (ns.drop (k + 1)).take (x.fin - (k + 1))) := hide (by unfold partD; rw [nodeD_at hx, if_neg h0, Int.toNat_natCast])
    have hz : ((x.fin : Int) == 0) = false := by simpa using (by omega : ¬ (x.fin : Int) = 0)
    have n1 : wrap64 ((k : Int) + 1) = ((k + 1 : Nat) : Int) := by unfold wrap64; omega
    have n2 : ((k + 1 : Nat) : Int) ≤ (x.fin : Int) := by omega
    clear h0 hf hx
    go_enter Tryz.func50, Tryz.ntmps50
    go_wp2_with fail
    refine (unhide HN _ (Below.refl _ _)).mono ?_
    rintro e w1 ⟨⟨m, rfl, hu⟩, hb1⟩
    clear hu
    rcases unhide HH with ⟨e0, e1⟩ | ⟨q, eq', hq, vn, hbq, hnd⟩
    · rw [e1] at hk; cases hk
    cases eq'
    obtain ⟨g, cap, e2, hg1, hg2, hcs⟩ := nodes_cells hnd (by omega)
    subst e2
    have c0 : w1.cell? ⟨q, 0, none⟩ = some (.slice (some ⟨g, 0, none⟩) ns.length cap) := keptC (Below.then hbw hb1) (blk_cell hbq 0)
    have HCS := hide hcs
    obtain ⟨vs, _, hrow, _⟩ := hnd
    have hcap : ns.length ≤ cap := by
      obtain ⟨g', c', e3, hle, _⟩ := owns_cells hrow (by omega)
      cases e3
      exact hle
    clear hcs hbq hrow
    have n3 : (x.fin : Int) ≤ (cap : Int) := by omega
    have n4 : (0 : Int) ≤ ((k + 1 : Nat) : Int) := by omega
    have hlen : ((ns.drop (k + 1)).take (x.fin - (k + 1))).length = x.fin - (k + 1) := by rw [List.length_take, List.length_drop]; omega
    have HLN := hide hlen
    clear hlen
    by_cases hem : x.fin = k + 1
    · have HP2 : Hid (partD ns (k : Nat) = []) := hide (by rw [unhide HP, hem, Nat.sub_self, List.take_zero])
      go_wp2_with fail
      go_returns
      rw [unhide HP2]
      exact ⟨⟨_, rfl, _, _, rfl, fun hx => absurd rfl hx⟩, hb1⟩
    · have n5 : ¬ x.fin - (k + 1) = 0 := by omega
      go_wp2_with fail
      go_returns
      rw [unhide HP]
      refine ⟨⟨.slice (some ⟨g, (k + 1) * 9, none⟩) (x.fin - (k + 1)) (x.fin - (k + 1)), rfl, some ⟨g, (k + 1) * 9, none⟩, x.fin - (k + 1), by rw [unhide HLN], fun _ => ⟨g, (k + 1) * 9, rfl, fun i y hy => ?_⟩⟩, hb1⟩
      rw [List.getElem?_take] at hy
      split at hy
      · rw [List.getElem?_drop] at hy
        obtain ⟨u, hu, hc⟩ := unhide HCS _ y hy
        obtain ⟨mm, rfl⟩ := hu.one
        refine ⟨mm, hu, fun j z hz => ?_⟩
        have := hc j z hz
        rw [show (k + 1 + i) * 9 + j = (k + 1) * 9 + i * 9 + j by omega] at this
        exact this
      · cases hy
end Go.Proofs.YtjjggncbhenffaaGreatDoor
/- A node's string: xdm's String. -/
namespace Go.Proofs.YtjjggncbhenffaaGreatDoor
open Go.RowKit Go.Maps
def isTxt (x : XNode) : Bool := decide (x.kind = 4)
def txtsD (xs : List XNode) : List Nat := (xs.filter isTxt).flatMap (·.text)
def strD (ns : List XNode) (n : Int) : List Nat := (nodeD ns n).text ++ txtsD (partD ns n)
theorem txts_snoc {xs : List XNode} {k : Nat} {x : XNode} (h : xs[k]? = some x) : txtsD (xs.take (k + 1)) = txtsD (xs.take k) ++ (if x.kind = 4 then x.text else []) := by
  obtain ⟨hk, hx⟩ := List.getElem?_eq_some_iff.1 h
  unfold txtsD
  rw [List.take_succ_eq_append_getElem hk, hx, List.filter_append, List.flatMap_append]
  congr 1
  by_cases h4 : x.kind = 4
  · rw [if_pos h4]
    have : isTxt x = true := decide_eq_true h4
    rw [List.filter_cons, if_pos this]
    simp
  · rw [if_neg h4]
    have : isTxt x = false := decide_eq_false h4
    rw [List.filter_cons, if_neg (by rw [this]; decide)]
    rfl
theorem txts_len : ∀ {xs : List XNode}, (∀ x ∈ xs, small x.text) → (tx (txtsD xs)).length ≤ xs.length * 1048576
  | [], _ => Nat.le_refl _
  | x :: xs, h => by
    have ih := txts_len (fun y hy => h y (List.mem_cons_of_mem _ hy))
    have hx := (h x (List.mem_cons_self ..)).2
    rw [T_size] at hx
    unfold txtsD at ih ⊢
    rw [List.filter_cons, List.length_cons, Nat.succ_mul]
    split
    · rw [List.flatMap_cons, tx_append, List.length_append, Nat.add_comm]
      exact Nat.add_le_add ih hx
    · exact Nat.le_trans ih (Nat.le_add_right _ _)
structure StrSt (w : World) (xs : List XNode) (k : Nat) (w' : World) : Prop where
  le : k ≤ xs.length
  bel : Below w.heap.size w w'
  bld : IsB w.heap.size w.heap.size (Lib.byteCells (tx (txtsD (xs.take k)))) w'
theorem part_mem {ns : List XNode} {n : Int} {x : XNode} (h : x ∈ partD ns n) : x ∈ ns := by
  unfold partD at h
  split at h
  · cases h
  · exact List.mem_of_mem_drop (List.mem_of_mem_take h)
theorem part_len (ns : List XNode) (n : Int) : (partD ns n).length ≤ ns.length := by
  unfold partD
  split
  · exact Nat.zero_le _
  · rw [List.length_take, List.length_drop]; omega
theorem noText {ns : List XNode} (h : ∀ x ∈ ns, small x.text) (n : Int) : small (nodeD ns n).text := by
  unfold nodeD
  split
  · cases hx : ns[n.toNat]? with
    | none => exact small_nil
    | some x => exact h x (List.mem_of_getElem? hx)
  · exact small_nil
set_option maxRecDepth 100000 in
set_option maxHeartbeats 4000000 in
theorem string_any (B : Nat) (v : Value) (ns : List XNode) (n : Int) (w : World) (h : TreeV w B v ns) (hf : ∀ (i : Nat) (x : XNode), ns[i]? = some x → i < x.fin ∧ x.fin ≤ ns.length) (hl : ns.length ≤ 300000) (ht : ∀ x ∈ ns, small x.text) :
    Calls Tryz.prog 22 #[v, .int .i64 n] w fun e w' => e = .returned (.string (T (strD ns n))) ∧ Below w.heap.size w w' := by
  have hb0 : Below w.heap.size w (w.alloc (.cells #[.pointer none, .slice none 0 0] 99 (0, 0))) := (Below.refl _ _).alloc (Nat.le_refl _) _
  have HPA := hide (part_any B v ns n w _ h hb0 hf hl)
  have HNO := hide (fun W (hb : Below w.heap.size w W) => node_ex B v ns n W (h.on hb))
  have HTX : Hid (∀ x ∈ partD ns n, small x.text) := hide fun x hx => ht x (part_mem hx)
  have hpl := part_len ns n
  have hnt := (noText ht n).2
  have hfd := fld2
  have HST : Hid (T (strD ns n) = T (nodeD ns n).text ++ T (txtsD (partD ns n))) := hide (by unfold strD; rw [T_app])
  obtain ⟨pv, rfl⟩ := h.ptr
  have HB0 : Hid (IsB w.heap.size w.heap.size [] (w.alloc (.cells #[.pointer none, .slice none 0 0] 99 (0, 0)))) := hide (Lib.IsBuilderF.of (.inl ⟨Nat.le_refl _, .slice none 0 0, alloc_new _ _, World.ownsRow_nil _ _ _ _, (by intro h; cases h)⟩))
  clear h hf ht
  generalize partD ns n = xs at *
  generalize nodeD ns n = nx at *
  go_enter Tryz.func22, Tryz.ntmps22
  go_wp2_with fail
  refine (unhide HPA).mono ?_
  rintro e w1 ⟨⟨u, rfl, hR⟩, hb1⟩
  have hb01 := Below.then hb0 hb1
  have HR := hide hR
  obtain ⟨a, cap, rfl, _⟩ := hR
  have HI0 : Hid (StrSt w xs 0 w1) := hide ⟨Nat.zero_le _, hb01, Lib.IsBuilderF.below (unhide HB0) hb1⟩
  clear HPA HB0 hb1 hb01
  go_wp2_with fail
  clear hfd
  go_loopw [12] (fun i wr => ∃ k : Nat, i = .int .i64 (k : Nat) ∧ StrSt w xs k wr) (fun i _ => xs.length - (intOf i).toNat)
  case atStart => exact ⟨0, rfl, unhide HI0⟩
  case round =>
    clear HI0
    obtain ⟨k, rfl, hI⟩ := hrel
    have hk := hI.le
    by_cases hlt : k < xs.length
    · obtain ⟨x, hx⟩ : ∃ x, xs[k]? = some x := ⟨xs[k], List.getElem?_eq_getElem hlt⟩
      have hxz := (unhide HTX x (List.mem_of_getElem? hx)).2
      obtain ⟨a', cap', e0, hc⟩ := unhide HR
      cases e0
      obtain ⟨g, oo, ha, hcr⟩ := hc (by intro h0; rw [h0] at hlt; cases hlt)
      subst ha
      obtain ⟨m, _, hcc⟩ := hcr k x hx
      have c0 : wr.cell? ⟨g, oo + k * 9, none⟩ = some (.int .i64 (x.kind : Nat)) := keptC hI.bel (hcc 0 _ rfl)
      have c1 : wr.cell? ⟨g, oo + k * 9 + 1, none⟩ = some (.string (T x.name.uri)) := keptC hI.bel (hcc 1 _ rfl)
      have c2 : wr.cell? ⟨g, oo + k * 9 + 2, none⟩ = some (.string (T x.name.pre)) := keptC hI.bel (hcc 2 _ rfl)
      have c3 : wr.cell? ⟨g, oo + k * 9 + 3, none⟩ = some (.string (T x.name.loc)) := keptC hI.bel (hcc 3 _ rfl)
      have c4 : wr.cell? ⟨g, oo + k * 9 + 4, none⟩ = some (.string (T x.text)) := keptC hI.bel (hcc 4 _ rfl)
      have c5 : wr.cell? ⟨g, oo + k * 9 + 5, none⟩ = some (.int .i64 x.parent) := keptC hI.bel (hcc 5 _ rfl)
      have c6 : wr.cell? ⟨g, oo + k * 9 + 6, none⟩ = some (.int .i64 (x.fin : Nat)) := keptC hI.bel (hcc 6 _ rfl)
      have c7 : wr.cell? ⟨g, oo + k * 9 + 7, none⟩ = some (.int .i64 (x.deep : Nat)) := keptC hI.bel (hcc 7 _ rfl)
      have c8 : wr.cell? ⟨g, oo + k * 9 + 8, none⟩ = some (.map m) := keptC hI.bel (hcc 8 _ rfl)
      have n1 : (0 : Int) ≤ (k : Int) := by omega
      have n2 : (k : Int) < (xs.length : Int) := by omega
      have hbx : Below wr.heap.size wr (wr.alloc (.cells #[.int .i64 (x.kind : Nat), .string (T x.name.uri), .string (T x.name.pre), .string (T x.name.loc), .string (T x.text), .int .i64 x.parent, .int .i64 (x.fin : Nat), .int .i64 (x.deep : Nat), .map m] 69 (0, 0))) := (Below.refl _ _).alloc (Nat.le_refl _) _
      have hbz := hI.bel.size
      have hb3 := Below.then hI.bel hbx
      have hlen : (tx (txtsD (xs.take k))).length + (T x.text).size ≤ 140737488355328 := by
        have h1 := txts_len (xs := xs.take k) (fun y hy => unhide HTX y (List.mem_of_mem_take hy))
        have h2 : (xs.take k).length ≤ 300000 := by rw [List.length_take]; omega
        omega
      have hbB := Lib.IsBuilderF.below hI.bld hbx
      have HW := hide (put_any w.heap.size w.heap.size (tx (txtsD (xs.take k))) (T x.text) _ hbB hlen hb3.size)
      have HTK := hide (txts_snoc hx)
      clear hc hcr hcc hI hx hlen
      by_cases h4 : x.kind = 4
      · have e4 : ((x.kind : Int) == 4) = true := by rw [h4]; rfl
        have HB3 : Hid (tx (txtsD (xs.take (k + 1))) = tx (txtsD (xs.take k)) ++ (T x.text).data.toList) := hide (by rw [unhide HTK, if_pos h4, tx_append]; rfl)
        clear h4 HTK
        go_wp2_with fail
        refine (unhide HW).mono ?_
        rintro e w4 ⟨rfl, hB4, hb4, _⟩
        have HI2 : Hid (StrSt w xs (k + 1) w4) := hide ⟨by omega, hb3.trans hb4, by rw [unhide HB3]; exact hB4⟩
        clear hB4 hb4
        go_wp2_with fail
        go_round
        case measure => simp [intOf]; omega
        case rel => exact ⟨k + 1, by simp, unhide HI2⟩
      · have e4 : ((x.kind : Int) == 4) = false := by simpa using (by omega : ¬ (x.kind : Int) = 4)
        have HB3 : Hid (txtsD (xs.take (k + 1)) = txtsD (xs.take k)) := hide (by rw [unhide HTK, if_neg h4, List.append_nil])
        have HI2 : Hid (StrSt w xs (k + 1) (wr.alloc (.cells #[.int .i64 (x.kind : Nat), .string (T x.name.uri), .string (T x.name.pre), .string (T x.name.loc), .string (T x.text), .int .i64 x.parent, .int .i64 (x.fin : Nat), .int .i64 (x.deep : Nat), .map m] 69 (0, 0)))) := hide ⟨by omega, hb3, by rw [unhide HB3]; exact hbB⟩
        clear h4 HTK HW hbB
        go_wp2_with fail
        go_round
        case measure => simp [intOf]; omega
        case rel => exact ⟨k + 1, by simp, unhide HI2⟩
    · have n2 : ¬ (k : Int) < (xs.length : Int) := by omega
      have hkl : k = xs.length := by omega
      have hbd := hI.bld
      rw [hkl, List.take_length] at hbd
      have hbI := hI.bel
      have HSt := hide (fun W (hb : Below wr.heap.size wr W) => Tryz.Builder_String_any_k w.heap.size w.heap.size _ W (Lib.IsBuilderF.below hbd hb) (Nat.le_trans hbI.size hb.size))
      have HNW := hide (unhide HNO _ hbI)
      have hz2 := txts_len (unhide HTX)
      rw [← T_size] at hz2
      have hz4 : ¬ 9223372036854775807 < (T nx.text).size + (T (txtsD xs)).size := by omega
      have hfd := fld2
      clear hI hbd HNO
      go_wp2_with fail
      refine (unhide HNW).mono ?_
      rintro e w3 ⟨⟨m, rfl, hu⟩, hb3⟩
      clear hu
      go_wp2_with fail
      refine (unhide HSt _ hb3).mono ?_
      rintro e w4 ⟨rfl, _, hb4, _⟩
      rw [show (⟨(tx (txtsD xs)).toArray⟩ : ByteArray) = T (txtsD xs) from rfl]
      go_wp2
      go_returns
      rw [unhide HST]
      exact ⟨rfl, (Below.then hbI hb3).trans hb4⟩
end Go.Proofs.YtjjggncbhenffaaGreatDoor
/- What must be whatever is asked: stencillaw03's live; tokens in memory, read. -/
namespace Go.Proofs.YtjjggncbhenffaaGreatDoor
open Go.RowKit
theorem tokRow_get : ∀ (ts : List XTok) (vs : List Value) (i j : Nat) (t : XTok) (v : Value), ts[i]? = some t → vs[i]? = some v → j < 4 → (tokRow ts vs)[i * 4 + j]? = (tokCells t v)[j]?
  | [], _, i, _, _, _, h, _, _ => by cases h
  | _ :: _, [], i, _, _, _, _, h, _ => by cases h
  | x :: ts, y :: vs, 0, j, t, v, h1, h2, hj => by
    cases h1
    cases h2
    show (tokCells x y ++ tokRow ts vs)[0 * 4 + j]? = _
    rw [Nat.zero_mul, Nat.zero_add, List.getElem?_append_left (by show j < 4; exact hj)]
  | x :: ts, y :: vs, i + 1, j, t, v, h1, h2, hj => by
    have ih := tokRow_get ts vs i j t v h1 h2 hj
    show (tokCells x y ++ tokRow ts vs)[(i + 1) * 4 + j]? = _
    rw [List.getElem?_append_right (by show 4 ≤ _; omega), ← ih]
    congr 1
    show (i + 1) * 4 + j - 4 = _
    omega
/-- Where a row's cells lie. -/
theorem owns_at {w : World} {B : Nat} {e : TypeId} {size : Nat} {v : Value} {n : Nat} {xs : List Value} (h : w.ownsRow B e size v n xs) (hn : 0 < n) : ∃ g cap, v = .slice (some ⟨g, 0, none⟩) n cap ∧ n ≤ cap ∧ B ≤ g ∧ g < w.heap.size ∧ ∀ j x, xs[j]? = some x → w.cell? ⟨g, j, none⟩ = some x := by
  have h' := h
  rcases h.2 with ⟨_, h0⟩ | ⟨g, cap, cur, rfl, h2, h3, h4⟩
  · omega
  · refine ⟨g, cap, rfl, h4.1, h2, (Array.getElem?_eq_some_iff.1 h3).1, fun j x hx => ?_⟩
    have hj : j < n * size := by
      have := (List.getElem?_eq_some_iff.1 hx).1
      rw [h.1] at this
      exact this
    have hc := h'.cellAt j hj
    rw [hc]
    exact hx
/-- A token in memory. -/
structure TokAt (w : World) (B g i : Nat) (t : XTok) : Prop where
  k : w.cell? ⟨g, i * 4, none⟩ = some (.int .i64 (t.kind : Nat))
  n : w.cell? ⟨g, i * 4 + 1, none⟩ = some (.string (T t.name))
  a : ∃ v, w.cell? ⟨g, i * 4 + 2, none⟩ = some v ∧ AttrsAt w B v t.attrs
  x : w.cell? ⟨g, i * 4 + 3, none⟩ = some (.string (T t.text))
theorem toks_at {w : World} {B : Nat} {vt : Value} {ts : List XTok} (h : Toks w B vt ts) (hn : 0 < ts.length) : ∃ g cap, vt = .slice (some ⟨g, 0, none⟩) ts.length cap ∧ ts.length ≤ cap ∧ B ≤ g ∧ g < w.heap.size ∧ ∀ (i : Nat) (t : XTok), ts[i]? = some t → TokAt w B g i t := by
  obtain ⟨vs, h1, h2, h3⟩ := h
  obtain ⟨g, cap, rfl, hc, hB, hg, hx⟩ := owns_at h2 hn
  refine ⟨g, cap, rfl, hc, hB, hg, fun i t ht => ?_⟩
  have hi : i < vs.length := by
    rw [h1]
    exact (List.getElem?_eq_some_iff.1 ht).1
  obtain ⟨v, hv⟩ : ∃ v, vs[i]? = some v := ⟨vs[i], List.getElem?_eq_getElem hi⟩
  refine ⟨?_, ?_, ⟨v, ?_, h3 i t v ht hv⟩, ?_⟩
  · exact hx (i * 4 + 0) _ (tokRow_get ts vs i 0 t v ht hv (by decide))
  · exact hx (i * 4 + 1) _ (tokRow_get ts vs i 1 t v ht hv (by decide))
  · exact hx (i * 4 + 2) _ (tokRow_get ts vs i 2 t v ht hv (by decide))
  · exact hx (i * 4 + 3) _ (tokRow_get ts vs i 3 t v ht hv (by decide))
end Go.Proofs.YtjjggncbhenffaaGreatDoor
/- A text, escaped, is read as itself: the law XmlscanTexts. -/
namespace Go.Proofs.YtjjggncbhenffaaGreatDoor
open Go.RowKit
theorem XEnv.up {B B' : Nat} {w : World} (h : XEnv B w) (hb : B ≤ B') : XEnv B' w := ⟨h.env, h.x, h.m, h.l, h.X, h.M, h.L, Nat.lt_of_lt_of_le h.g1 hb, Nat.lt_of_lt_of_le h.g2 hb, Nat.lt_of_lt_of_le h.g3 hb, Nat.lt_of_lt_of_le h.g4 hb⟩
theorem XEnv.at {w w' : World} (h : XEnv w.heap.size w) (hb : Below w.heap.size w w') : XEnv w'.heap.size w' := (h.low hb).up hb.size
end Go.Proofs.YtjjggncbhenffaaGreatDoor
/- Tokens that are the same: the reference's SameTokens. -/
namespace Go.Proofs.YtjjggncbhenffaaGreatDoor
open Go.RowKit
end Go.Proofs.YtjjggncbhenffaaGreatDoor
/- What is written is scanned as it was: the law XmlscanBack. -/
namespace Go.Proofs.YtjjggncbhenffaaGreatDoor
open Go.RowKit
theorem pairRow_get : ∀ (l : List (List Nat × List Nat)) (i : Nat) (x : List Nat × List Nat), l[i]? = some x → (pairRow l)[i * 2]? = some (.string (T x.1)) ∧ (pairRow l)[i * 2 + 1]? = some (.string (T x.2))
  | [], i, _, h => by cases h
  | y :: l, 0, x, h => by
    cases h
    exact ⟨rfl, rfl⟩
  | y :: l, i + 1, x, h => by
    have ih := pairRow_get l i x h
    have e : pairRow (y :: l) = .string (T y.1) :: .string (T y.2) :: pairRow l := rfl
    rw [e, show (i + 1) * 2 = i * 2 + 1 + 1 by omega]
    exact ih
theorem attrs_arg {w : World} {B : Nat} {v : Value} {l : List (List Nat × List Nat)} (h : AttrsAt w B v l) : PairsArg w v (l.map fun x => (T x.1, T x.2)) := by
  obtain ⟨a, c, rfl⟩ := owns_slice h
  refine ⟨a, c, by rw [List.length_map], fun hl => ?_⟩
  have hl0 : 0 < l.length := by
    cases l with
    | nil => exact absurd rfl hl
    | cons _ _ => simp
  obtain ⟨g, cap, he, _, _, _, hc⟩ := owns_at h hl0
  cases he
  refine ⟨g, 0, rfl, fun i x hx => ?_⟩
  rw [List.getElem?_map] at hx
  obtain ⟨y, hy, rfl⟩ := Option.map_eq_some_iff.1 hx
  obtain ⟨h1, h2⟩ := pairRow_get l i y hy
  rw [Nat.zero_add]
  exact ⟨hc _ _ h1, hc _ _ h2⟩
theorem tok_arg {w : World} {B g i : Nat} {t : XTok} (h : TokAt w B g i t) : TokArg w g (0 + i * 4) t.b := by
  rw [Nat.zero_add]
  obtain ⟨v, h1, h2⟩ := h.a
  exact ⟨h.k, h.n, ⟨v, h1, attrs_arg h2⟩, h.x⟩
theorem toks_arg {w : World} {B : Nat} {vt : Value} {xs : List XTok} (h : Toks w B vt xs) (hn : 0 < xs.length) : ∃ a cap, vt = .slice a (xs.map XTok.b).length cap ∧ ToksArg w a (xs.map XTok.b) := by
  obtain ⟨g, cap, rfl, _, _, _, ht⟩ := toks_at h hn
  refine ⟨some ⟨g, 0, none⟩, cap, by rw [List.length_map], fun _ => ⟨g, 0, rfl, fun i t hi => ?_⟩⟩
  rw [List.getElem?_map] at hi
  obtain ⟨x, hx, rfl⟩ := Option.map_eq_some_iff.1 hi
  exact tok_arg (ht i x hx)
theorem doc_pos {o : List (List Nat)} {k : Nat} {xs : List XTok} (h : DocT o false k xs) : 0 < xs.length := by
  cases h <;> simp
end Go.Proofs.YtjjggncbhenffaaGreatDoor
