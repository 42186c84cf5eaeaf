/- Several texts, laid as one. -/
import Derived.Test.YtiembljlhmgpjaaGreatDoorGbt
import Derived.Test.YtiembljlhmgpjaaGreatDoorGbu
import Derived.Test.YtiembljlhmgpjaaGreatDoorGbl
import Derived.Test.YtiembljlhmgpjaaGreatDoorGbq
import Derived.Test.YtiembljlhmgpjaaGreatDoorGbm
/- The tree of a text: xdm's Parse. -/
namespace Go.Proofs.YtiembljlhmgpjaaGreatDoor
open Go.RowKit Go.Maps
theorem doc_ok {cs : List Nat} {ts : List XTok} (hl : okL cs) (hs : (T cs).size ≤ 32768) (h : scanX cs = .ok ts) : DocOk ts := by
  obtain ⟨h1, h2, h3, _⟩ := write_told hl hs h
  exact ⟨h1, h2, fun x hx => (scan_F hl hs h x hx).ok, h3⟩
theorem adds_errs : ∀ {ts : List XTok} {s : BS} {n : Nat}, s.adds ts = .error n → n = 7 ∨ n = 8
  | [], s, n, h => by cases h
  | t :: ts, s, n, h => by
    rw [adds_cons] at h
    split at h
    · rename_i ha
      cases h
      exact add_errs ha
    · exact adds_errs h
theorem tree_errs {ts : List XTok} {n : Nat} (h : treeD ts = .error n) : n = 7 ∨ n = 8 := by
  unfold treeD at h
  split at h
  · rename_i ha
    cases h
    exact adds_errs ha
  · cases h
set_option maxRecDepth 100000 in
set_option maxHeartbeats 4000000 in
theorem parse_T (cs : List Nat) (w : World) (hl : okL cs) (hs : (T cs).size ≤ 32768) (hE : XEnv w.heap.size w) :
    Calls Tryz.prog 5 #[.string (T cs)] w fun e w' => TreeOut w' w.heap.size (parseD cs) e ∧ Below w.heap.size w w' := by
  have HE := hide hE
  have HS := hide (scan_any cs w hl hs hE)
  cases hsc : scanX cs with
  | error x =>
    rw [hsc] at HS
    have her := (scan_er hl hs hsc).1
    have HEQ : Hid (parseD cs = .error x.1) := hide (by unfold parseD; rw [hsc])
    obtain ⟨n, pl⟩ := x
    simp only at her HEQ
    clear hsc hE
    rcases her with rfl | rfl
    all_goals
      go_enter Tryz.func5, Tryz.ntmps5
      go_wp2_with fail
      refine (unhide HS).mono ?_
      rintro e w1 ⟨hp, hb1⟩
      have hp' := hp
      unfold scanP at hp'
      subst hp'
      go_wp2
      go_returns
      rw [unhide HEQ]
      exact ⟨rfl, hb1⟩
  | ok ts =>
    rw [hsc] at HS
    have hdk := doc_ok hl hs hsc
    have HEQ : Hid (parseD cs = treeD ts) := hide (by unfold parseD; rw [hsc])
    have hpos := doc_pos hdk.doc
    have HBU := hide (fun W a cap (hb : Below w.heap.size w W) (hv : ToksArg W a (ts.map XTok.b)) => build_any ts a cap W hdk hv ((unhide HE).at hb))
    have HTA := hide (fun (W : World) (B : Nat) (v : Value) (h : Toks W B v ts) => toks_arg h hpos)
    have hml : (ts.map XTok.b).length = ts.length := List.length_map ..
    clear hsc hE hdk
    go_enter Tryz.func5, Tryz.ntmps5
    go_wp2_with fail
    refine (unhide HS).mono ?_
    rintro e w1 ⟨hp, hb1⟩
    obtain ⟨vt, he, hT⟩ := hp
    subst he
    obtain ⟨a, cap, hvt, hA⟩ := unhide HTA _ _ _ hT
    rw [hml] at hvt
    subst hvt
    have HB2 := hide (unhide HBU w1 a cap hb1 hA)
    clear hT hA HBU HTA HS
    go_wp2_with fail
    refine (unhide HB2).mono ?_
    rintro e w2 ⟨hO, hb2⟩
    have hb02 := Below.then hb1 hb2
    cases htr : treeD ts with
    | error n =>
      rw [htr] at hO
      have hO' : e = .returned (.tuple #[.pointer none, .int .i64 (n : Nat)]) := hO
      subst hO'
      rw [htr] at HEQ
      rcases tree_errs htr with rfl | rfl
      all_goals
        clear hO htr
        go_wp2
        go_returns
        rw [unhide HEQ]
        exact ⟨rfl, hb02⟩
    | ok ns =>
      rw [htr] at hO HEQ
      obtain ⟨q, he, hq⟩ := hO
      subst he
      have HQ : Hid (TreeAt w2 w.heap.size q ns) := hide (by
        obtain ⟨h1, vn, h2, vs, h3, h4, h5⟩ := hq
        have hle := hb1.size
        refine ⟨by omega, vn, h2, vs, h3, ?_, fun i x v hx hv => (h5 i x v hx hv).low hle⟩
        exact owns_lower h4 hle)
      clear hq htr
      go_wp2
      go_returns
      rw [unhide HEQ]
      exact ⟨⟨q, rfl, unhide HQ⟩, hb02⟩
end Go.Proofs.YtiembljlhmgpjaaGreatDoor
/- What Parse tells of any text. -/
namespace Go.Proofs.YtiembljlhmgpjaaGreatDoor
open Go.RowKit Go.Maps
end Go.Proofs.YtiembljlhmgpjaaGreatDoor
/- What is scanned is written, if there is room, and scanned again as the same: the law XmlscanAgain. -/
namespace Go.Proofs.YtiembljlhmgpjaaGreatDoor
open Go.RowKit
end Go.Proofs.YtiembljlhmgpjaaGreatDoor
/- Trees that are built are well formed, in plain terms: where a node ends, and how long texts are. -/
namespace Go.Proofs.YtiembljlhmgpjaaGreatDoor
def small (l : List Nat) : Prop := okL l ∧ (T l).size ≤ 1048576
/-- Nodes that have ended end behind themselves. -/
structure InvT (s : BS) : Prop where
  txt : ∀ x ∈ s.nodes, small x.text
  fin : ∀ (i : Nat) (x : XNode), s.nodes[i]? = some x → i ∈ s.opn ∨ (i < x.fin ∧ x.fin ≤ s.nodes.length)
theorem small_nil : small [] := ⟨okL_e, Nat.zero_le _⟩
theorem InvT.begin {s : BS} (h : InvT s) (x : XNode) (hx : small x.text) : InvT (s.begin x) := by
  refine ⟨fun y hy => ?_, fun i y hy => ?_⟩
  · rcases List.mem_append.1 hy with hy | hy
    · exact h.txt y hy
    · rw [List.mem_singleton.1 hy]; exact hx
  · have hy' : (s.nodes ++ [x])[i]? = some y := hy
    show i ∈ s.opn ++ [s.nodes.length] ∨ (i < y.fin ∧ y.fin ≤ (s.nodes ++ [x]).length)
    rw [List.length_append]
    by_cases hi : i < s.nodes.length
    · rw [List.getElem?_append_left hi] at hy'
      rcases h.fin i y hy' with h1 | ⟨h1, h2⟩
      · exact .inl (List.mem_append_left _ h1)
      · exact .inr ⟨h1, by simp; omega⟩
    · left
      have := (List.getElem?_eq_some_iff.1 hy').1
      rw [List.length_append] at this
      simp at this
      have e : i = s.nodes.length := by omega
      rw [e]
      simp
theorem InvT.finish {s : BS} (h : InvT s) (ho : s.opn ≠ []) (hi : s.inner < s.nodes.length) : InvT s.finish := by
  refine ⟨fun y hy => ?_, fun i y hy => ?_⟩
  · have hy' : y ∈ s.nodes.modify s.inner (fun x => { x with fin := s.nodes.length }) := hy
    obtain ⟨j, hj⟩ := List.getElem?_of_mem hy'
    rw [List.getElem?_modify] at hj
    obtain ⟨z, hz, e⟩ := Option.map_eq_some_iff.1 hj
    have := h.txt z (List.mem_of_getElem? hz)
    rw [← e]
    split <;> exact this
  · have hy' : (s.nodes.modify s.inner (fun x => { x with fin := s.nodes.length }))[i]? = some y := hy
    rw [List.getElem?_modify] at hy'
    obtain ⟨z, hz, e⟩ := Option.map_eq_some_iff.1 hy'
    show i ∈ s.opn.dropLast ∨ (i < y.fin ∧ y.fin ≤ (s.nodes.modify _ _).length)
    rw [List.length_modify]
    by_cases hin : s.inner = i
    · rw [if_pos hin] at e
      right
      rw [← e]
      exact ⟨by show i < s.nodes.length; omega, Nat.le_refl _⟩
    · rw [if_neg hin] at e
      have ez : z = y := e
      subst ez
      rcases h.fin i z hz with h1 | h1
      · left
        have e2 : s.opn = s.opn.dropLast ++ [s.inner] := by
          have h3 := List.dropLast_concat_getLast ho
          have h4 : s.opn.getLast ho = s.inner := by
            unfold BS.inner
            rw [List.getLastD_eq_getLast?, List.getLast?_eq_some_getLast ho]
            rfl
          rw [h4] at h3
          exact h3.symm
        rw [e2] at h1
        rcases List.mem_append.1 h1 with h1 | h1
        · exact h1
        · exact absurd (List.mem_singleton.1 h1).symm hin
      · exact .inr h1
theorem InvT.leaf {s : BS} (h : InvT s) (x : XNode) (hx : small x.text) : InvT (s.leaf x) := by
  refine (h.begin (s.placed x) hx).finish (by show s.opn ++ [_] ≠ []; simp) ?_
  rw [begin_inner]
  show _ < (s.nodes ++ [_]).length
  simp
theorem InvT.leafs : ∀ (l : List XNode) (s : BS), InvT s → (∀ x ∈ l, small x.text) → InvT (l.foldl BS.leaf s)
  | [], _, h, _ => h
  | x :: l, s, h, hl => InvT.leafs l (s.leaf x) (h.leaf x (hl x (List.mem_cons_self ..))) (fun y hy => hl y (List.mem_cons_of_mem _ hy))
theorem attrsN_txt {s : Sc} : ∀ {l : List (List Nat × List Nat)} {r : List XNode}, OkAt l → attrsN s l = some r → ∀ x ∈ r, small x.text
  | [], r, _, h, x, hx => by cases h; cases hx
  | y :: l, r, hl, h, x, hx => by
    have hl' : OkAt l := fun z hz => hl z (List.mem_cons_of_mem _ hz)
    rw [attrsN] at h
    split at h
    · exact attrsN_txt hl' h x hx
    · split at h
      · cases h
      · obtain ⟨q, hq, rfl⟩ := Option.map_eq_some_iff.1 h
        rcases List.mem_cons.1 hx with rfl | hx
        · have := hl y (List.mem_cons_self ..)
          exact ⟨this.1.2, this.2.2⟩
        · exact attrsN_txt hl' hq x hx
theorem InvT.add {s s' : BS} {t : XTok} (h : InvT s) (ht : OkAt t.attrs) (hx : small t.text) (ho : s.opn ≠ []) (hi : s.inner < s.nodes.length) (ha : s.add t = .ok s') : InvT s' := by
  unfold BS.add at ha
  split at ha
  · unfold BS.element BS.elementAt at ha
    split at ha
    · cases ha
    · split at ha
      · cases ha
      · split at ha
        · cases ha
        · rename_i as' hat
          cases ha
          refine InvT.leafs _ _ (h.begin _ small_nil) ?_
          unfold attributesD at hat
          split at hat
          · cases hat
          · rename_i q hq
            split at hat
            · cases hat; exact attrsN_txt ht hq
            · cases hat
  · split at ha
    · cases ha; exact h.finish ho hi
    · split at ha
      · cases ha; exact h.leaf _ hx
      · cases ha; exact h.leaf _ hx
/-- A tree as it may be told. -/
structure TreeOk (ns : List XNode) : Prop where
  pos : 0 < ns.length
  len : ns.length ≤ 300000
  txt : ∀ x ∈ ns, small x.text
  fin : ∀ (i : Nat) (x : XNode), ns[i]? = some x → i < x.fin ∧ x.fin ≤ ns.length
theorem adds_ok : ∀ (ts : List XTok) (s s' : BS) (o : List (List Nat)) (r : Bool) (q k : Nat), DocT o r q ts → Inv s o.length k → o.length ≤ 32 → InvT s → (∀ t ∈ ts, OkAt t.attrs ∧ small t.text) → s.adds ts = .ok s' → Inv s' 0 (k + ts.length) ∧ InvT s'
  | [], s, s', o, r, q, k, hD, hI, _, hT, _, ha => by
    cases ha
    cases hD
    exact ⟨hI, hT⟩
  | t :: ts, s, s', o, r, q, k, hD, hI, ho, hT, hx, ha => by
    rw [show s.adds (t :: ts) = _ from rfl] at ha
    unfold BS.adds at ha
    split at ha
    · cases ha
    · rename_i s1 h1
      obtain ⟨o', r', q', hD', hI', ho'⟩ := hI.add ho hD h1
      have hT' := hT.add (hx t (List.mem_cons_self ..)).1 (hx t (List.mem_cons_self ..)).2 hI.ne hI.inner h1
      have := adds_ok ts s1 s' o' r' q' (k + 1) hD' hI' ho' hT' (fun y hy => hx y (List.mem_cons_of_mem _ hy)) ha
      rw [List.length_cons, show k + (ts.length + 1) = k + 1 + ts.length by omega]
      exact this
theorem InvT.start : InvT BS.start := ⟨fun x hx => by rw [List.mem_singleton.1 hx]; exact small_nil, fun i x hx => by
  left
  have hx' : [rootN][i]? = some x := hx
  have := (List.getElem?_eq_some_iff.1 hx').1
  simp at this
  subst this
  show 0 ∈ [0]
  simp⟩
theorem DocOk.tree {xs : List XTok} {ns : List XNode} (h : DocOk xs) (ht : treeD xs = .ok ns) : TreeOk ns := by
  unfold treeD at ht
  split at ht
  · cases ht
  · rename_i s hs
    cases ht
    obtain ⟨hI, hT⟩ := adds_ok xs BS.start s [] false 0 0 h.doc Inv.start (by decide) InvT.start (fun t htm => by
      have := h.tok htm
      refine ⟨this.a, (h.all t htm).x, ?_⟩
      exact (h.sm t.b (List.mem_map.2 ⟨t, htm, rfl⟩)).x) hs
    have hF := hT.finish hI.ne hI.inner
    have hl : s.finish.nodes.length = s.nodes.length := List.length_modify ..
    have hn := hI.n
    have hx := h.len
    refine ⟨by rw [hl]; have := hI.inner; omega, by rw [hl]; omega, hF.txt, fun i x hi => ?_⟩
    rcases hF.fin i x hi with h1 | h1
    · exfalso
      have h2 : s.finish.opn = [] := by
        have h3 := hI.opn
        show s.opn.dropLast = []
        apply List.length_eq_zero_iff.1
        rw [List.length_dropLast]
        omega
      rw [h2] at h1
      cases h1
    · exact h1
end Go.Proofs.YtiembljlhmgpjaaGreatDoor
/- The law TopDocs. -/
namespace Go.Proofs.YtiembljlhmgpjaaGreatDoor
open Go.RowKit Go.Maps
theorem parse_parts {cs : List Nat} {ns : List XNode} (h : parseD cs = .ok ns) : ∃ ts, scanX cs = .ok ts ∧ treeD ts = .ok ns := by
  unfold parseD at h
  split at h
  · cases h
  · rename_i ts hts
    exact ⟨ts, hts, h⟩
theorem parse_ok2 {cs : List Nat} {ns : List XNode} (hl : okL cs) (hs : (T cs).size ≤ 32768) (h : parseD cs = .ok ns) : TreeOk ns := by
  obtain ⟨ts, h1, h2⟩ := parse_parts h
  exact (doc_ok hl hs h1).tree h2
end Go.Proofs.YtiembljlhmgpjaaGreatDoor
