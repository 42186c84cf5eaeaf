/- Two texts, laid as one. -/
import Derived.Test.YtjjggncbhenffaaGreatDoorGbw
import Derived.Test.YtjjggncbhenffaaGreatDoorGbb
import Derived.Test.YtjjggncbhenffaaGreatDoorGbu
/- Two texts, laid as one. -/
/- Two texts, laid as one. -/
/- What a node's prefixes stand for: xdm's Scope. -/
namespace Go.Proofs.YtjjggncbhenffaaGreatDoor
open Go.RowKit Go.Maps
def scopeOf (s : Sc) (ks : List (List Nat)) : List (List Nat × List Nat) := ks.map fun p => (p, (lookS s p).getD [])
theorem scopeOf_snoc {s : Sc} {ks : List (List Nat)} {k : Nat} {p : List Nat} (h : ks[k]? = some p) : scopeOf s (ks.take (k + 1)) = scopeOf s (ks.take k) ++ [(p, (lookS s p).getD [])] := by
  obtain ⟨hk, hx⟩ := List.getElem?_eq_some_iff.1 h
  unfold scopeOf
  rw [List.take_succ_eq_append_getElem hk, hx, List.map_append]
  rfl
theorem keys_back {s : Sc} (hok : ∀ x ∈ s, okL x.1) {zs : List (List UInt8)} (hp : zs.Perm (keysL s)) : ∃ ks : List (List Nat), zs = ks.map tx ∧ ks.Perm (s.map (·.1)) := by
  let inv : List UInt8 → List Nat := fun z => ((s.map (·.1)).find? fun p => tx p == z).getD []
  have hinv : ∀ p ∈ s.map (·.1), inv (tx p) = p := by
    intro p hm
    obtain ⟨x, hx, rfl⟩ := List.mem_map.1 hm
    show ((s.map (·.1)).find? fun q => tx q == tx x.1).getD [] = x.1
    cases hf : (s.map (·.1)).find? fun q => tx q == tx x.1 with
    | none =>
      have := List.find?_eq_none.1 hf x.1 hm
      simp at this
    | some q =>
      have h1 := List.find?_some hf
      have h2 := List.mem_of_find?_eq_some hf
      obtain ⟨y, hy, rfl⟩ := List.mem_map.1 h2
      exact tx_inj (hok y hy) (hok x hx) (by simpa using h1)
  refine ⟨zs.map inv, ?_, ?_⟩
  · rw [List.map_map]
    have : ∀ z ∈ zs, (tx ∘ inv) z = z := by
      intro z hz
      obtain ⟨x, hx, rfl⟩ := List.mem_map.1 (hp.mem_iff.1 hz)
      show tx (inv (tx x.1)) = tx x.1
      rw [hinv _ (List.mem_map_of_mem hx)]
    have h3 : zs.map (tx ∘ inv) = zs.map id := List.map_congr_left this
    rw [h3, List.map_id]
  · have h1 := hp.map inv
    have h2 : (keysL s).map inv = s.map (·.1) := by
      unfold keysL
      rw [List.map_map]
      refine List.map_congr_left fun x hx => ?_
      exact hinv _ (List.mem_map_of_mem hx)
    rw [h2] at h1
    exact h1
theorem ScV.look1 {w : World} {B : Nat} {v : Value} {s : Sc} (h : ScV w B v s) {p : List Nat} (hp : okL p) (hz : (T p).size ≤ 1048576) :
    (Instr.lookup 67 v (.string (T p)) false).run Tryz.prog w = .ok (.agg #[.string (T ((lookS s p).getD []))]) w := by
  have hz0 : (zeroValue 95).run Tryz.prog w = .ok (.agg #[.string ⟨#[]⟩]) w := by kernel_rfl
  have hk := Go.WideMaps.keyOf_string_mk Tryz.underlying9 (by unfold maxLen; omega : (T p).size ≤ maxLen)
  rcases h.2 with ⟨rfl, rfl⟩ | ⟨b, rfl, _, hown⟩
  · rw [Maps.look_nil false (Maps.string_keyed Tryz.underlying9) Tryz.underlying67 hz0 hk]
    rfl
  · obtain ⟨u, ps, hrun, hu⟩ := hown.lookup (Maps.string_keyed Tryz.underlying9) Tryz.underlying67 hz0 (zd := .agg [.lit (.string [])]) (zp := []) rfl hk
    rw [T_data] at hu
    rw [scD_at s p (fun x hx => (h.1 x hx).1.1) hp] at hu
    rw [hrun, entElem_inv hu]
    rfl
theorem fldMe (a : Value) (W : World) : (Instr.field 95 (.agg #[a]) 0).run Tryz.prog W = .ok a W := by kernel_rfl
structure ScSt (w : World) (s : Sc) (ks : List (List Nat)) (k : Nat) (v : Value) (w' : World) : Prop where
  le : k ≤ ks.length
  bel : Below w.heap.size w w'
  row : AttrsAt w' w.heap.size v (scopeOf s (ks.take k))
set_option maxRecDepth 100000 in
set_option maxHeartbeats 4000000 in
theorem scope_any (B : Nat) (v : Value) (ns : List XNode) (n : Int) (w : World) (h : TreeV w B v ns) (hsl : (nodeD ns n).scope.length ≤ 1048576) :
    Calls Tryz.prog 19 #[v, .int .i64 n] w fun e w' => (∃ u ks, e = .returned u ∧ ks.Perm ((nodeD ns n).scope.map (·.1)) ∧ ks.map tx = (keysL (nodeD ns n).scope).mergeSort leB ∧ AttrsAt w' w.heap.size u (scopeOf (nodeD ns n).scope ks)) ∧ Below w.heap.size w w' := by
  have HN := hide (node_ex B v ns n w h)
  obtain ⟨pv, rfl⟩ := h.ptr
  clear h
  generalize nodeD ns n = x at *
  have hfd := fld6
  go_enter Tryz.func19, Tryz.ntmps19
  go_wp2_with fail
  refine (unhide HN).mono ?_
  rintro e w1 ⟨⟨m, rfl, hu⟩, hb1⟩
  have HK := hide (keys_any m w1)
  have HS := hide (sorted_any B m x.scope w1 hu hsl)
  have HU := hide hu
  clear hu HN
  go_wp2_with fail
  refine (unhide HK).mono ?_
  rintro e w2 ⟨rfl, rfl⟩
  clear HK
  go_wp2_with fail
  refine (unhide HS).mono ?_
  rintro e w3 ⟨vs, ss, rfl, hp, hrow, hnil, hb3⟩
  have hb13 : Below w1.heap.size w1 w3 := ((Below.refl _ _).alloc (Nat.le_refl _) _).trans (hb3.mono (Nat.le_succ _))
  have hb := Below.then hb1 hb13
  have HU3 := hide ((unhide HU).on hb13)
  have hms : ss.mergeSort leB = (keysL x.scope).mergeSort leB := mergeSort_of_perm hp
  have hpz : (ss.mergeSort leB).Perm (keysL x.scope) := (List.mergeSort_perm ss leB).trans hp
  obtain ⟨ks, hks, hkp⟩ := keys_back (fun y hy => ((unhide HU).1 y hy).1.1) hpz
  have hrow' : w3.ownsRow (w1.heap.size + 1) 9 1 vs ss.length ((ss.mergeSort leB).map encStr) := hrow
  have hlen : ss.length = ks.length := by
    have h1 := (List.mergeSort_perm ss leB).length_eq
    rw [hks, List.length_map] at h1
    exact h1.symm
  rw [hks, hlen] at hrow'
  have hkl : ks.length ≤ 1048576 := by
    have := hkp.length_eq
    rw [List.length_map] at this
    omega
  have HKO : Hid (∀ p ∈ ks, okL p ∧ (T p).size ≤ 1048576) := hide (fun p hm => by
    obtain ⟨y, hy, rfl⟩ := List.mem_map.1 (hkp.mem_iff.1 hm)
    exact ⟨((unhide HU).1 y hy).1.1, ((unhide HU).1 y hy).2.1⟩)
  have HFIN : Hid (ks.Perm (x.scope.map (·.1)) ∧ ks.map tx = (keysL x.scope).mergeSort leB) := hide ⟨hkp, by rw [← hks]; exact hms⟩
  obtain ⟨av, cv, rfl⟩ := owns_slice hrow'
  have HROW := hide hrow'
  have HI0 : Hid (ScSt w3 x.scope ks 0 (.slice none 0 0) w3) := hide ⟨Nat.zero_le _, Below.refl _ _, World.ownsRow_nil _ _ _ _⟩
  clear hp hnil hrow hrow' hms hpz hks hkp hlen HS HU hb1 hb3 hb13 hsl
  go_wp2_with fail
  go_loopw [6, 17] (fun a i wr => ∃ k : Nat, i = .int .i64 (k : Nat) ∧ ScSt w3 x.scope ks k a wr) (fun _ i _ => ks.length - (intOf i).toNat)
  case atStart => exact ⟨0, rfl, unhide HI0⟩
  case round =>
    clear HI0 hfd
    obtain ⟨k, rfl, hI⟩ := hrel
    have hk := hI.le
    by_cases hlt : k < ks.length
    · obtain ⟨p, hp⟩ : ∃ p, ks[k]? = some p := ⟨ks[k], List.getElem?_eq_getElem hlt⟩
      obtain ⟨hpo, hpz⟩ := unhide HKO p (List.mem_of_getElem? hp)
      obtain ⟨g, cap, e0, _, _, _, hcs⟩ := owns_at (unhide HROW) (by omega)
      cases e0
      have c0 : wr.cell? ⟨g, k, none⟩ = some (.string (T p)) := keptC hI.bel (hcs k _ (by rw [List.getElem?_map, List.getElem?_map, hp]; rfl))
      have hlook := ((unhide HU3).on hI.bel).look1 hpo hpz
      have hfm := fldMe
      have n1 : (0 : Int) ≤ (k : Int) := by omega
      have n2 : (k : Int) < (ks.length : Int) := by omega
      have hbz := hI.bel.size
      have hrw := hI.row
      have HBE := hide hI.bel
      have hln : (scopeOf x.scope (ks.take k)).length = k := by unfold scopeOf; rw [List.length_map, List.length_take]; omega
      unfold AttrsAt at hrw
      rw [hln] at hrw
      obtain ⟨aw, cw, rfl⟩ := owns_slice hrw
      have HRW := hide hrw
      have HSN := hide (scopeOf_snoc (s := x.scope) hp)
      have HLN := hide hln
      obtain ⟨i0, hi, hz0, hz1, hz2⟩ := info_parts infoPair
      clear hI hcs hp hrw hln
      go_wp2_with (at_builtin; refine wpList_append_own _ rfl _ _ 24 rfl w3.heap.size 36 i0 _ 2 32 Tryz.underlying24 hi hz0 hz1 hz2 rfl (by decide) _ k (pairRow (scopeOf x.scope (ks.take k))) rfl (owns_below (unhide HRW) ((Below.refl _ _).alloc (Nat.le_refl _) _)) ⟨wr.heap.size, 0, none⟩ 1 1 [.string (T p), .string (T ((lookS x.scope p).getD []))] rfl rfl (news2 (by simp [go_sem]) (by simp [go_sem])) (fun u hu => by simp at hu; rcases hu with rfl | rfl <;> rfl) (by unfold maxLen; omega) (by omega) (by simp; omega) ?_; intro v8 w8 hown8 hgrow8 _)
      have hbg : Below w3.heap.size w3 w8 := ((unhide HBE).alloc (unhide HBE).size _).grown hgrow8 (by simp; omega) (fun j hj => ((unhide HRW).lt j hj).1)
      refine ⟨⟨k + 1, by simp, ⟨hlt, hbg, ?_⟩⟩, by simp [intOf]; omega⟩
      unfold AttrsAt
      rw [unhide HSN, pairRow_snoc, List.length_append, unhide HLN]
      exact hown8
    · have n2 : ¬ (k : Int) < (ks.length : Int) := by omega
      have hkl : k = ks.length := by omega
      have hrw := hI.row
      rw [hkl, List.take_length] at hrw
      have hbI := hI.bel
      clear hI
      go_wp2
      go_returns
      have hlow : AttrsAt wr w.heap.size u6 (scopeOf x.scope ks) := ownsRow_base_a hrw hb.size
      exact ⟨⟨u6, rfl, ks, (unhide HFIN).1, (unhide HFIN).2, hlow⟩, Below.then hb hbI⟩
end Go.Proofs.YtjjggncbhenffaaGreatDoor
/- Trees that are built: every name's Uri is what its scope tells of its prefix, in plain terms. -/
namespace Go.Proofs.YtjjggncbhenffaaGreatDoor
def lookR (s : Sc) (p : List Nat) : Option (List Nat) := if p = xmlL then some xmlUriL else match lookS s p with
  | some u => some u
  | none => if p = [] then some [] else none
def AttrOk (ns : List XNode) (x : XNode) : Prop := (x.name.pre = [] ∧ x.name.uri = []) ∨ (x.name.pre ≠ [] ∧ ∃ k : Nat, x.parent = (k : Int) ∧ ∃ y, ns[k]? = some y ∧ lookR y.scope x.name.pre = some x.name.uri)
structure InvS (L : List XNode) : Prop where
  el : ∀ x ∈ L, x.kind = 2 → lookR x.scope x.name.pre = some x.name.uri
  oth : ∀ x ∈ L, x.kind ≠ 2 → x.scope = []
  atr : ∀ x ∈ L, x.kind = 3 → AttrOk L x
theorem AttrOk.more {L : List XNode} {x : XNode} (h : AttrOk L x) (M : List XNode) : AttrOk (L ++ M) x := by
  rcases h with h | ⟨h0, k, hk, y, hy, hl⟩
  · exact .inl h
  · refine .inr ⟨h0, k, hk, y, ?_, hl⟩
    rw [List.getElem?_append_left (List.getElem?_eq_some_iff.1 hy).1]
    exact hy
theorem InvS.snoc {L : List XNode} (h : InvS L) {x : XNode} (h1 : x.kind = 2 → lookR x.scope x.name.pre = some x.name.uri) (h2 : x.kind ≠ 2 → x.scope = []) (h3 : x.kind = 3 → AttrOk L x) : InvS (L ++ [x]) := by
  refine ⟨fun y hy => ?_, fun y hy => ?_, fun y hy => ?_⟩
  · rcases List.mem_append.1 hy with hy | hy
    · exact h.el y hy
    · rw [List.mem_singleton.1 hy]; exact h1
  · rcases List.mem_append.1 hy with hy | hy
    · exact h.oth y hy
    · rw [List.mem_singleton.1 hy]; exact h2
  · rcases List.mem_append.1 hy with hy | hy
    · exact fun hk => (h.atr y hy hk).more _
    · rw [List.mem_singleton.1 hy]; exact fun hk => (h3 hk).more _
def strip0 (x : XNode) : XNode := { x with fin := 0 }
theorem modify_strip (L : List XNode) (i n : Nat) : (L.modify i fun x => { x with fin := n }).map strip0 = L.map strip0 := by
  apply List.ext_getElem?
  intro j
  rw [List.getElem?_map, List.getElem?_modify, List.getElem?_map]
  cases L[j]? with
  | none => rfl
  | some x =>
    show some (strip0 (if i = j then { x with fin := n } else x)) = some (strip0 x)
    split <;> rfl
theorem leaf_strip (s : BS) (x : XNode) : (s.leaf x).nodes.map strip0 = s.nodes.map strip0 ++ [strip0 (s.placed x)] := by
  show ((s.nodes ++ [s.placed x]).modify _ _).map strip0 = _
  rw [modify_strip, List.map_append]
  rfl
theorem leaf_inner (s : BS) (x : XNode) : (s.leaf x).inner = s.inner := by
  unfold BS.inner
  rw [show (s.leaf x).opn = s.opn from by show (s.opn ++ [_]).dropLast = s.opn; rw [List.dropLast_concat]]
theorem expandD_R {s : Sc} {q : List Nat} {n : Nm} (h : expandD s q = some n) : lookR s n.pre = some n.uri := by
  unfold expandD at h
  unfold lookR
  split at h
  · rename_i hx
    cases h
    rw [if_pos hx]
  · rename_i hx
    split at h
    · rename_i u hu
      cases h
      show (if (splitQ q).1 = xmlL then _ else _) = some u
      rw [if_neg hx, hu]
    · rename_i hu
      split at h
      · rename_i h0
        cases h
        rw [h0] at hu
        show (if ([] : List Nat) = xmlL then _ else _) = _
        rw [if_neg (by decide)]
        show (match lookS s [] with | some u => some u | none => _) = some []
        rw [hu]
        rfl
      · cases h
theorem leafs_S : ∀ (l : List XNode) (s : BS) (y : XNode), InvS (s.nodes.map strip0) → (s.nodes.map strip0)[s.inner]? = some y → (∀ x ∈ l, x.kind = 3 ∧ x.scope = [] ∧ ((x.name.pre = [] ∧ x.name.uri = []) ∨ (x.name.pre ≠ [] ∧ lookR y.scope x.name.pre = some x.name.uri))) → InvS ((l.foldl BS.leaf s).nodes.map strip0)
  | [], s, y, h, _, _ => h
  | x :: l, s, y, h, hy, hl => by
    obtain ⟨h3, h0, hn⟩ := hl x (List.mem_cons_self ..)
    refine leafs_S l (s.leaf x) y ?_ ?_ (fun z hz => hl z (List.mem_cons_of_mem _ hz))
    · rw [leaf_strip]
      refine h.snoc (fun e => ?_) (fun _ => h0) (fun _ => ?_)
      · have : x.kind = 2 := e
        rw [h3] at this
        cases this
      · rcases hn with hn | ⟨hn, hr⟩
        · exact .inl hn
        · exact .inr ⟨hn, s.inner, rfl, y, hy, hr⟩
    · rw [leaf_strip, leaf_inner, List.getElem?_append_left (List.getElem?_eq_some_iff.1 hy).1]
      exact hy
theorem splitQ_ne {q : List Nat} (hq : isQ q = true) (hn : isNm q = false) : (splitQ q).1 ≠ [] := by
  unfold isQ at hq
  unfold splitQ
  split at hq
  · rename_i hc
    rw [if_pos hc]
    intro h0
    have h0' : q.takeWhile (· != 58) = [] := h0
    rw [h0', isNm_nil] at hq
    cases hq
  · rw [hn] at hq
    cases hq
theorem expandD_pre {s : Sc} {q : List Nat} {n : Nm} (h : expandD s q = some n) (h0 : (splitQ q).1 ≠ []) : n.pre ≠ [] := by
  unfold expandD at h
  split at h
  · cases h; exact h0
  · split at h
    · cases h; exact h0
    · cases h
theorem attrsN_S {s : Sc} : ∀ {l : List (List Nat × List Nat)} {r : List XNode}, (∀ x ∈ l, isQ x.1 = true) → attrsN s l = some r → ∀ x ∈ r, x.kind = 3 ∧ x.scope = [] ∧ ((x.name.pre = [] ∧ x.name.uri = []) ∨ (x.name.pre ≠ [] ∧ lookR s x.name.pre = some x.name.uri))
  | [], r, _, h, x, hx => by cases h; cases hx
  | y :: l, r, hl, h, x, hx => by
    have hl' : ∀ z ∈ l, isQ z.1 = true := fun z hz => hl z (List.mem_cons_of_mem _ hz)
    rw [attrsN] at h
    split at h
    · exact attrsN_S hl' h x hx
    · split at h
      · cases h
      · rename_i n hn
        obtain ⟨q, hq, rfl⟩ := Option.map_eq_some_iff.1 h
        rcases List.mem_cons.1 hx with rfl | hx
        · refine ⟨rfl, rfl, ?_⟩
          unfold expandA at hn
          split at hn
          · cases hn; exact .inl ⟨rfl, rfl⟩
          · rename_i hN
            have hN' : isNm y.1 = false := by simpa using hN
            exact .inr ⟨expandD_pre hn (splitQ_ne (hl y (List.mem_cons_self ..)) hN'), expandD_R hn⟩
        · exact attrsN_S hl' hq x hx
theorem InvS.add {s s' : BS} {t : XTok} (h : InvS (s.nodes.map strip0)) (hq : t.kind = 2 → ∀ x ∈ t.attrs, isQ x.1 = true) (hk : t.kind ≠ 3) (ha : s.add t = .ok s') : InvS (s'.nodes.map strip0) := by
  unfold BS.add at ha
  split at ha
  · rename_i h2
    have hq := hq h2
    unfold BS.element BS.elementAt at ha
    split at ha
    · cases ha
    · rename_i inner hin
      split at ha
      · cases ha
      · rename_i n hn
        split at ha
        · cases ha
        · rename_i as' hat
          cases ha
          have hat' : attrsN inner t.attrs = some as' := by
            unfold attributesD at hat
            split at hat
            · cases hat
            · rename_i q hq
              split at hat
              · cases hat; exact hq
              · cases hat
          refine leafs_S as' _ (strip0 (s.placed ⟨2, n, [], 0, 0, 0, inner⟩)) ?_ ?_ (attrsN_S hq hat')
          · show InvS ((s.nodes ++ [_]).map strip0)
            rw [List.map_append]
            exact h.snoc (fun _ => expandD_R hn) (fun h2 => absurd rfl h2) (fun h3 => by cases h3)
          · rw [begin_inner]
            show ((s.nodes ++ [_]).map strip0)[_]? = _
            rw [List.map_append, List.getElem?_append_right (by rw [List.length_map]; exact Nat.le_refl _), List.length_map, Nat.sub_self]
            rfl
  · rename_i h2
    split at ha
    · cases ha
      show InvS ((s.nodes.modify _ _).map strip0)
      rw [modify_strip]
      exact h
    · split at ha
      · cases ha
        rw [leaf_strip]
        exact h.snoc (fun e => by cases e) (fun _ => rfl) (fun e => by cases e)
      · cases ha
        rw [leaf_strip]
        exact h.snoc (fun e => absurd e h2) (fun _ => rfl) (fun e => absurd e hk)
theorem adds_S : ∀ (ts : List XTok) (s s' : BS), InvS (s.nodes.map strip0) → (∀ t ∈ ts, (t.kind = 2 → ∀ x ∈ t.attrs, isQ x.1 = true) ∧ t.kind ≠ 3) → s.adds ts = .ok s' → InvS (s'.nodes.map strip0)
  | [], s, s', h, _, ha => by cases ha; exact h
  | t :: ts, s, s', h, hx, ha => by
    unfold BS.adds at ha
    split at ha
    · cases ha
    · rename_i s1 h1
      exact adds_S ts s1 s' (h.add (hx t (List.mem_cons_self ..)).1 (hx t (List.mem_cons_self ..)).2 h1) (fun y hy => hx y (List.mem_cons_of_mem _ hy)) ha
theorem InvS.start : InvS (BS.start.nodes.map strip0) := by
  refine ⟨fun x hx => ?_, fun x hx => ?_, fun x hx => ?_⟩
  · rw [List.mem_singleton.1 hx]; exact fun e => by cases e
  · rw [List.mem_singleton.1 hx]; exact fun _ => rfl
  · rw [List.mem_singleton.1 hx]; exact fun e => by cases e
/-- What a tree's scopes and names tell. -/
theorem treeD_S {ts : List XTok} {ns : List XNode} (hx : ∀ t ∈ ts, (t.kind = 2 → ∀ x ∈ t.attrs, isQ x.1 = true) ∧ t.kind ≠ 3) (h : treeD ts = .ok ns) : InvS (ns.map strip0) := by
  unfold treeD at h
  split at h
  · cases h
  · rename_i s hs
    cases h
    show InvS ((s.nodes.modify _ _).map strip0)
    rw [modify_strip]
    exact adds_S ts BS.start s InvS.start hx hs
theorem doc_kind {o : List (List Nat)} {r : Bool} {k : Nat} {ts : List XTok} (h : DocT o r k ts) : ∀ t ∈ ts, t.kind ≠ 3 := by
  induction h with
  | done => intro t ht; cases ht
  | elem n a o r k ts h hr ho ha hn ih => intro t ht; rcases List.mem_cons.1 ht with rfl | ht; exact fun e => (by cases e); exact ih t ht
  | fin n o r k ts h ho hn ih => intro t ht; rcases List.mem_cons.1 ht with rfl | ht; exact fun e => (by cases e); exact ih t ht
  | text l o r k ts h ho hk hn ih => intro t ht; rcases List.mem_cons.1 ht with rfl | ht; exact fun e => (by cases e); exact ih t ht
  | comment l o r k ts h hn ih => intro t ht; rcases List.mem_cons.1 ht with rfl | ht; exact fun e => (by cases e); exact ih t ht
  | pi n l o r k ts h hn ih => intro t ht; rcases List.mem_cons.1 ht with rfl | ht; exact fun e => (by cases e); exact ih t ht
theorem DocOk.scopes {xs : List XTok} {ns : List XNode} (h : DocOk xs) (ht : treeD xs = .ok ns) : InvS (ns.map strip0) ∧ ∀ x ∈ ns, x.scope.length ≤ 262144 := by
  refine ⟨treeD_S (fun t htm => ⟨fun h2 => ((h.tok htm).q h2).1, doc_kind h.doc t htm⟩) ht, ?_⟩
  unfold treeD at ht
  split at ht
  · cases ht
  · rename_i s hs
    cases ht
    obtain ⟨hI, _⟩ := adds_ok xs BS.start s [] false 0 0 h.doc Inv.start (by decide) InvT.start (fun t htm => by
      have := h.tok htm
      refine ⟨this.a, (h.all t htm).x, ?_⟩
      exact (h.sm t.b (List.mem_map.2 ⟨t, htm, rfl⟩)).x) hs
    have hx := h.len
    exact modify_scope fun x hx' => by have := hI.sc x hx'; omega
end Go.Proofs.YtjjggncbhenffaaGreatDoor
/- What a prefix stands for among pairs: stencilref04's Look. -/
namespace Go.Proofs.YtjjggncbhenffaaGreatDoor
open Go.RowKit Go.Maps
def refLook (l : List (List Nat × List Nat)) (p : List Nat) : List Nat × Bool := if p = xmlL then (xmlUriL, true) else match l.find? (fun x => x.1 == p) with
  | some x => (x.2, true)
  | none => ([], p == [])
def lookV (r : List Nat × Bool) : Value := .tuple #[.string (T r.1), .bool r.2]
theorem find_drop {l : List (List Nat × List Nat)} {p : List Nat} {k : Nat} {x : List Nat × List Nat} (hx : l[k]? = some x) : (l.drop k).find? (fun y => y.1 == p) = if x.1 == p then some x else (l.drop (k + 1)).find? (fun y => y.1 == p) := by
  obtain ⟨hk, he⟩ := List.getElem?_eq_some_iff.1 hx
  rw [← List.getElem_cons_drop hk, he, List.find?_cons]
  cases x.1 == p <;> rfl
set_option maxRecDepth 100000 in
set_option maxHeartbeats 4000000 in
theorem refLook_any (l : List (List Nat × List Nat)) (v : Value) (p : List Nat) (w : World) (hv : PairsArg w v (l.map fun x => (T x.1, T x.2))) (hl : ∀ x ∈ l, okL x.1) (hp : okL p) (hz : l.length ≤ 1048576) :
    Calls Tryz.prog 20 #[v, .string (T p)] w fun e w' => e = .returned (lookV (refLook l p)) ∧ w' = w := by
  obtain ⟨a, cap, rfl, hc⟩ := hv
  rw [List.length_map]
  have hx := is_xml hp
  have he := is_empty hp
  by_cases hpx : p = xmlL
  · have h1 : (p == xmlL) = true := by simp [hpx]
    rw [h1] at hx
    have HR : Hid (lookV (refLook l p) = .tuple #[.string (T xmlUriL), .bool true]) := hide (by unfold refLook; rw [if_pos hpx]; rfl)
    rw [unhide HR, T_uri]
    clear hpx h1 HR hc hl he
    go_enter Tryz.func20, Tryz.ntmps20
    go_wp2
    go_returns
    exact ⟨rfl, rfl⟩
  · have h1 : (p == xmlL) = false := by simp [hpx]
    rw [h1] at hx
    have HR : Hid (refLook l p = match l.find? (fun x => x.1 == p) with
      | some x => (x.2, true)
      | none => ([], p == [])) := hide (by unfold refLook; rw [if_neg hpx])
    have HC := hide hc
    have HL := hide hl
    clear hpx h1 hc hl
    go_enter Tryz.func20, Tryz.ntmps20
    go_wp2_with fail
    go_loopw [6] (fun i wr => ∃ k : Nat, i = .int .i64 (k : Nat) ∧ k ≤ l.length ∧ l.find? (fun y => y.1 == p) = (l.drop k).find? (fun y => y.1 == p) ∧ wr = w) (fun i _ => l.length - (intOf i).toNat)
    case atStart => exact ⟨0, rfl, Nat.zero_le _, rfl, rfl⟩
    case round =>
      obtain ⟨k, rfl, hk, hf, rfl⟩ := hrel
      by_cases hlt : k < l.length
      · obtain ⟨x, hx1⟩ : ∃ x, l[k]? = some x := ⟨l[k], List.getElem?_eq_getElem hlt⟩
        have hxo := unhide HL x (List.mem_of_getElem? hx1)
        obtain ⟨g, o, ha, hc⟩ := (unhide HC) (by intro h0; rw [List.map_eq_nil_iff] at h0; rw [h0] at hlt; cases hlt)
        subst ha
        obtain ⟨c0, c1⟩ := hc k (T x.1, T x.2) (by rw [List.getElem?_map, hx1]; rfl)
        simp only at c0 c1
        have n1 : (0 : Int) ≤ (k : Int) := by omega
        have n2 : (k : Int) < (l.length : Int) := by omega
        have n3 : wrap64 ((k : Int) + 1) = ((k + 1 : Nat) : Int) := by unfold wrap64; omega
        have hq : ((T x.1).toList == (T p).toList) = (x.1 == p) := by rw [T_toList p]; exact eq_T hxo hp
        rw [find_drop hx1] at hf
        clear hc hx1
        cases hxp : x.1 == p
        · rw [hxp] at hq hf
          have HF := hide hf
          clear hf hxp
          go_wp2_with fail
          go_round
          case measure => simp [intOf]; omega
          case rel => exact ⟨k + 1, by simp, hlt, unhide HF, by trivial⟩
        · rw [hxp] at hq hf
          have HV : Hid (lookV (refLook l p) = .tuple #[.string (T x.2), .bool true]) := hide (by rw [unhide HR, hf]; rfl)
          clear hf hxp
          go_wp2
          go_returns
          rw [unhide HV]
          exact ⟨rfl, by trivial⟩
      · have n2 : ¬ (k : Int) < (l.length : Int) := by omega
        rw [List.drop_eq_nil_of_le (by omega)] at hf
        have HV : Hid (lookV (refLook l p) = .tuple #[.string ⟨#[]⟩, .bool (p == [])]) := hide (by rw [unhide HR, hf]; rfl)
        clear hf
        go_wp2
        go_returns
        rw [unhide HV]
        exact ⟨by simp, by trivial⟩
end Go.Proofs.YtjjggncbhenffaaGreatDoor
/- What Parse tells of any text; what a tree's scopes tell of names. -/
namespace Go.Proofs.YtjjggncbhenffaaGreatDoor
open Go.RowKit Go.Maps
/-- An error and no tree, or a text's tree. -/
def ParseOut (w w' : World) (v : Value) (er : Nat) : Prop := ((er = 4 ∨ er = 5 ∨ er = 6 ∨ er = 7 ∨ er = 8) ∧ v = .pointer none) ∨ (er = 0 ∧ ∃ cs ns q, okL cs ∧ (T cs).size ≤ 32768 ∧ parseD cs = .ok ns ∧ v = .pointer (some ⟨q, 0, none⟩) ∧ TreeAt w' w.heap.size q ns)
set_option maxRecDepth 100000 in
set_option maxHeartbeats 2000000 in
theorem parse_err (s : ByteArray) (w : World) (er : Nat) (her : er = 4 ∨ er = 6) (hS : Calls Tryz.prog 46 #[.string s] w fun e w' => (∃ pl : Nat, e = .returned (.tuple #[.slice none 0 0, .int .i64 (er : Nat), .int .i64 (pl : Nat)])) ∧ Below w.heap.size w w') :
    Calls Tryz.prog 14 #[.string s] w fun e w' => e = .returned (.tuple #[.pointer none, .int .i64 (er : Nat)]) ∧ Below w.heap.size w w' := by
  have HS := hide hS
  clear hS
  rcases her with rfl | rfl
  all_goals
    go_enter Tryz.func14, Tryz.ntmps14
    go_wp2_with fail
    refine (unhide HS).mono ?_
    rintro e w1 ⟨⟨pl, rfl⟩, hb1⟩
    go_wp2
    go_returns
    exact ⟨rfl, hb1⟩
theorem parse_errs {cs : List Nat} (hl : okL cs) (hs : (T cs).size ≤ 32768) {n : Nat} (h : parseD cs = .error n) : n = 5 ∨ n = 6 ∨ n = 7 ∨ n = 8 := by
  unfold parseD at h
  cases hsc : scanX cs with
  | error x =>
    rw [hsc] at h
    cases h
    rcases (scan_er hl hs hsc).1 with h | h
    · exact .inl h
    · exact .inr (.inl h)
  | ok ts =>
    rw [hsc] at h
    have h' : treeD ts = .error n := h
    unfold treeD at h'
    split at h'
    · rename_i e he
      cases h'
      rcases adds_errs he with h | h
      · exact .inr (.inr (.inl h))
      · exact .inr (.inr (.inr h))
    · cases h'
theorem parse_out (s : ByteArray) (w : World) (hE : XEnv w.heap.size w) :
    Calls Tryz.prog 14 #[.string s] w fun e w' => ∃ (v : Value) (er : Nat), e = .returned (.tuple #[v, .int .i64 (er : Nat)]) ∧ Below w.heap.size w w' ∧ ParseOut w w' v er := by
  by_cases hz : 32768 < s.size
  · refine (parse_err s w 6 (.inr rfl) ((scan_long _ w hz).mono ?_)).mono ?_
    · rintro e w' ⟨rfl, rfl⟩
      exact ⟨⟨0, rfl⟩, Below.refl _ _⟩
    · rintro e w' ⟨rfl, hb⟩
      exact ⟨_, 6, rfl, hb, .inl ⟨.inr (.inr (.inl rfl)), rfl⟩⟩
  · by_cases ht : Txt s.data.toList
    · obtain ⟨l, hl, rfl⟩ := txt_T ht
      refine (parse_T l w hl (by omega) hE).mono ?_
      rintro e w' ⟨hp, hb⟩
      cases hs : parseD l with
      | error n =>
        rw [hs] at hp
        have hp' : e = .returned (.tuple #[.pointer none, .int .i64 (n : Nat)]) := hp
        exact ⟨_, n, hp', hb, .inl ⟨.inr (parse_errs hl (by omega) hs), rfl⟩⟩
      | ok ns =>
        rw [hs] at hp
        obtain ⟨q, he, hT⟩ := hp
        exact ⟨_, 0, he, hb, .inr ⟨rfl, l, ns, q, hl, by omega, hs, rfl, hT⟩⟩
    · refine (parse_err s w 4 (.inl rfl) ((scan_bad _ w (by omega) hE.env ht).mono ?_)).mono ?_
      · rintro e w' ⟨⟨at', _, rfl⟩, hb⟩
        exact ⟨⟨at', rfl⟩, hb⟩
      · rintro e w' ⟨rfl, hb⟩
        exact ⟨_, 4, rfl, hb, .inl ⟨.inl rfl, rfl⟩⟩
theorem lookR_ok {s : Sc} {p u : List Nat} (hs : OkSc s) (h : lookR s p = some u) : okL p := by
  unfold lookR at h
  split at h
  · rename_i hx
    rw [hx]
    exact xml_ok
  · cases hl : lookS s p with
    | some v =>
      unfold lookS at hl
      obtain ⟨x, hx, _⟩ := Option.map_eq_some_iff.1 hl
      have h1 := List.find?_some hx
      have h2 := List.mem_of_find?_eq_some hx
      have : x.1 = p := by simpa using h1
      rw [← this]
      exact (hs x h2).1.1
    | none =>
      rw [hl] at h
      have h' : (if p = [] then some [] else none) = some u := h
      split at h'
      · rename_i h0
        rw [h0]
        exact okL_e
      · cases h'
theorem scopeOf_find (s : Sc) (p : List Nat) : ∀ ks : List (List Nat), (scopeOf s ks).find? (fun x => x.1 == p) = if p ∈ ks then some (p, (lookS s p).getD []) else none
  | [] => rfl
  | k :: ks => by
    have ih := scopeOf_find s p ks
    unfold scopeOf at ih ⊢
    rw [List.map_cons, List.find?_cons, ih]
    by_cases hk : k = p
    · subst hk
      simp
    · have : (k == p) = false := by simpa using hk
      simp only [this]
      by_cases hm : p ∈ ks
      · rw [if_pos hm, if_pos (List.mem_cons_of_mem _ hm)]
      · rw [if_neg hm, if_neg (by intro h; rcases List.mem_cons.1 h with h | h; exact hk h.symm; exact hm h)]
theorem refLook_scope {s : Sc} {ks : List (List Nat)} {p u : List Nat} (hk : ks.Perm (s.map (·.1))) (h : lookR s p = some u) : refLook (scopeOf s ks) p = (u, true) := by
  unfold lookR at h
  unfold refLook
  split at h
  · rename_i hx
    cases h
    rw [if_pos hx]
  · rename_i hx
    rw [if_neg hx, scopeOf_find]
    cases hl : lookS s p with
    | some v =>
      rw [hl] at h
      have h' : some v = some u := h
      cases h'
      have hm : p ∈ ks := by
        rw [hk.mem_iff]
        unfold lookS at hl
        obtain ⟨x, hx, _⟩ := Option.map_eq_some_iff.1 hl
        have h1 := List.find?_some hx
        have : x.1 = p := by simpa using h1
        rw [← this]
        exact List.mem_map_of_mem (List.mem_of_find?_eq_some hx)
      rw [if_pos hm]
      rfl
    | none =>
      rw [hl] at h
      have h' : (if p = [] then some [] else none) = some u := h
      split at h'
      · rename_i h0
        cases h'
        split
        · rename_i y hy
          split at hy
          · cases hy; rw [h0]; rfl
          · cases hy
        · rw [h0]; rfl
      · cases h'
end Go.Proofs.YtjjggncbhenffaaGreatDoor
