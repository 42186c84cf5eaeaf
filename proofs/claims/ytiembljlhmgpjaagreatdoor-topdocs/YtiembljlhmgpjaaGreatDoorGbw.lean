/- Several texts, laid as one. -/
import Derived.Test.YtiembljlhmgpjaaGreatDoorGbu
import Derived.Test.YtiembljlhmgpjaaGreatDoorGbv
import Derived.Test.YtiembljlhmgpjaaGreatDoorGbm
import Derived.Test.YtiembljlhmgpjaaGreatDoorGbr
import Derived.Test.YtiembljlhmgpjaaGreatDoorGbn
import Derived.Test.YtiembljlhmgpjaaGreatDoorGam
import Derived.Lib.LaidU8
import Derived.HandedShaped
import Derived.WalkKit
import Derived.ProofKit
import Derived.OpenShut
import Derived.ShutString
import Derived.Deep.DeepHandedRow
import Derived.Lib.LaidTab
/- The tree of a text: xdm's Parse. -/
namespace Go.Proofs.YtiembljlhmgpjaaGreatDoor
open Go.RowKit Go.Maps
theorem doc_ok {cs : List Nat} {ts : List XTok} (hl : okL cs) (hs : (T cs).size ≤ 32768) (h : scanX cs = .ok ts) : DocOk ts := by
  obtain ⟨h1, h2, h3, _⟩ := write_told hl hs h
  exact ⟨h1, h2, fun x hx => (scan_F hl hs h x hx).ok, h3⟩
theorem adds_errs : ∀ {ts : List XTok} {s : BS} {n : Nat}, s.adds ts = .error n → n = 7 ∨ n = 8
  | [], s, n, h => by cases h
  | t :: ts, s, n, h => by
    rw [adds_cons] at h
    split at h
    · rename_i ha
      cases h
      exact add_errs ha
    · exact adds_errs h
theorem tree_errs {ts : List XTok} {n : Nat} (h : treeD ts = .error n) : n = 7 ∨ n = 8 := by
  unfold treeD at h
  split at h
  · rename_i ha
    cases h
    exact adds_errs ha
  · cases h
set_option maxRecDepth 100000 in
set_option maxHeartbeats 4000000 in
theorem parse_T (cs : List Nat) (w : World) (hl : okL cs) (hs : (T cs).size ≤ 32768) (hE : XEnv w.heap.size w) :
    Calls Tryz.prog 5 #[.string (T cs)] w fun e w' => TreeOut w' w.heap.size (parseD cs) e ∧ Below w.heap.size w w' := by
  have HE := hide hE
  have HS := hide (scan_any cs w hl hs hE)
  cases hsc : scanX cs with
  | error x =>
    rw [hsc] at HS
    have her := (scan_er hl hs hsc).1
    have HEQ : Hid (parseD cs = .error x.1) := hide (by unfold parseD; rw [hsc])
    obtain ⟨n, pl⟩ := x
    simp only at her HEQ
    clear hsc hE
    rcases her with rfl | rfl
    all_goals
      go_enter Tryz.func5, Tryz.ntmps5
      go_wp2_with fail
      refine (unhide HS).mono ?_
      rintro e w1 ⟨hp, hb1⟩
      have hp' := hp
      unfold scanP at hp'
      subst hp'
      go_wp2
      go_returns
      rw [unhide HEQ]
      exact ⟨rfl, hb1⟩
  | ok ts =>
    rw [hsc] at HS
    have hdk := doc_ok hl hs hsc
    have HEQ : Hid (parseD cs = treeD ts) := hide (by unfold parseD; rw [hsc])
    have hpos := doc_pos hdk.doc
    have HBU := hide (fun W a cap (hb : Below w.heap.size w W) (hv : ToksArg W a (ts.map XTok.b)) => build_any ts a cap W hdk hv ((unhide HE).at hb))
    have HTA := hide (fun (W : World) (B : Nat) (v : Value) (h : Toks W B v ts) => toks_arg h hpos)
    have hml : (ts.map XTok.b).length = ts.length := List.length_map ..
    clear hsc hE hdk
    go_enter Tryz.func5, Tryz.ntmps5
    go_wp2_with fail
    refine (unhide HS).mono ?_
    rintro e w1 ⟨hp, hb1⟩
    obtain ⟨vt, he, hT⟩ := hp
    subst he
    obtain ⟨a, cap, hvt, hA⟩ := unhide HTA _ _ _ hT
    rw [hml] at hvt
    subst hvt
    have HB2 := hide (unhide HBU w1 a cap hb1 hA)
    clear hT hA HBU HTA HS
    go_wp2_with fail
    refine (unhide HB2).mono ?_
    rintro e w2 ⟨hO, hb2⟩
    have hb02 := Below.then hb1 hb2
    cases htr : treeD ts with
    | error n =>
      rw [htr] at hO
      have hO' : e = .returned (.tuple #[.pointer none, .int .i64 (n : Nat)]) := hO
      subst hO'
      rw [htr] at HEQ
      rcases tree_errs htr with rfl | rfl
      all_goals
        clear hO htr
        go_wp2
        go_returns
        rw [unhide HEQ]
        exact ⟨rfl, hb02⟩
    | ok ns =>
      rw [htr] at hO HEQ
      obtain ⟨q, he, hq⟩ := hO
      subst he
      have HQ : Hid (TreeAt w2 w.heap.size q ns) := hide (by
        obtain ⟨h1, vn, h2, vs, h3, h4, h5⟩ := hq
        have hle := hb1.size
        refine ⟨by omega, vn, h2, vs, h3, ?_, fun i x v hx hv => (h5 i x v hx hv).low hle⟩
        exact owns_lower h4 hle)
      clear hq htr
      go_wp2
      go_returns
      rw [unhide HEQ]
      exact ⟨⟨q, rfl, unhide HQ⟩, hb02⟩
end Go.Proofs.YtiembljlhmgpjaaGreatDoor
/- What Parse tells of any text. -/
namespace Go.Proofs.YtiembljlhmgpjaaGreatDoor
open Go.RowKit Go.Maps
/-- An error and no tree, or a text's tree. -/
def ParseOut (w w' : World) (v : Value) (er : Nat) : Prop := ((er = 4 ∨ er = 5 ∨ er = 6 ∨ er = 7 ∨ er = 8) ∧ v = .pointer none) ∨ (er = 0 ∧ ∃ cs ns q, okL cs ∧ (T cs).size ≤ 32768 ∧ parseD cs = .ok ns ∧ v = .pointer (some ⟨q, 0, none⟩) ∧ TreeAt w' w.heap.size q ns)
set_option maxRecDepth 100000 in
set_option maxHeartbeats 2000000 in
theorem parse_err (s : ByteArray) (w : World) (er : Nat) (her : er = 4 ∨ er = 6) (hS : Calls Tryz.prog 6 #[.string s] w fun e w' => (∃ pl : Nat, e = .returned (.tuple #[.slice none 0 0, .int .i64 (er : Nat), .int .i64 (pl : Nat)])) ∧ Below w.heap.size w w') :
    Calls Tryz.prog 5 #[.string s] w fun e w' => e = .returned (.tuple #[.pointer none, .int .i64 (er : Nat)]) ∧ Below w.heap.size w w' := by
  have HS := hide hS
  clear hS
  rcases her with rfl | rfl
  all_goals
    go_enter Tryz.func5, Tryz.ntmps5
    go_wp2_with fail
    refine (unhide HS).mono ?_
    rintro e w1 ⟨⟨pl, rfl⟩, hb1⟩
    go_wp2
    go_returns
    exact ⟨rfl, hb1⟩
theorem parse_errs {cs : List Nat} (hl : okL cs) (hs : (T cs).size ≤ 32768) {n : Nat} (h : parseD cs = .error n) : n = 5 ∨ n = 6 ∨ n = 7 ∨ n = 8 := by
  unfold parseD at h
  cases hsc : scanX cs with
  | error x =>
    rw [hsc] at h
    cases h
    rcases (scan_er hl hs hsc).1 with h | h
    · exact .inl h
    · exact .inr (.inl h)
  | ok ts =>
    rw [hsc] at h
    have h' : treeD ts = .error n := h
    unfold treeD at h'
    split at h'
    · rename_i e he
      cases h'
      rcases adds_errs he with h | h
      · exact .inr (.inr (.inl h))
      · exact .inr (.inr (.inr h))
    · cases h'
theorem parse_out (s : ByteArray) (w : World) (hE : XEnv w.heap.size w) :
    Calls Tryz.prog 5 #[.string s] w fun e w' => ∃ (v : Value) (er : Nat), e = .returned (.tuple #[v, .int .i64 (er : Nat)]) ∧ Below w.heap.size w w' ∧ ParseOut w w' v er := by
  by_cases hz : 32768 < s.size
  · refine (parse_err s w 6 (.inr rfl) ((scan_long _ w hz).mono ?_)).mono ?_
    · rintro e w' ⟨rfl, rfl⟩
      exact ⟨⟨0, rfl⟩, Below.refl _ _⟩
    · rintro e w' ⟨rfl, hb⟩
      exact ⟨_, 6, rfl, hb, .inl ⟨.inr (.inr (.inl rfl)), rfl⟩⟩
  · by_cases ht : Txt s.data.toList
    · obtain ⟨l, hl, rfl⟩ := txt_T ht
      refine (parse_T l w hl (by omega) hE).mono ?_
      rintro e w' ⟨hp, hb⟩
      cases hs : parseD l with
      | error n =>
        rw [hs] at hp
        have hp' : e = .returned (.tuple #[.pointer none, .int .i64 (n : Nat)]) := hp
        exact ⟨_, n, hp', hb, .inl ⟨.inr (parse_errs hl (by omega) hs), rfl⟩⟩
      | ok ns =>
        rw [hs] at hp
        obtain ⟨q, he, hT⟩ := hp
        exact ⟨_, 0, he, hb, .inr ⟨rfl, l, ns, q, hl, by omega, hs, rfl, hT⟩⟩
    · refine (parse_err s w 4 (.inl rfl) ((scan_bad _ w (by omega) hE.env ht).mono ?_)).mono ?_
      · rintro e w' ⟨⟨at', _, rfl⟩, hb⟩
        exact ⟨⟨at', rfl⟩, hb⟩
      · rintro e w' ⟨rfl, hb⟩
        exact ⟨_, 4, rfl, hb, .inl ⟨.inl rfl, rfl⟩⟩
/-- An error and no tree, or the tree of the text itself. -/
def ParseOutT (s : ByteArray) (w w' : World) (v : Value) (er : Nat) : Prop := ((er = 4 ∨ er = 5 ∨ er = 6 ∨ er = 7 ∨ er = 8) ∧ v = .pointer none) ∨ (er = 0 ∧ ∃ cs ns q, s = T cs ∧ okL cs ∧ (T cs).size ≤ 32768 ∧ parseD cs = .ok ns ∧ v = .pointer (some ⟨q, 0, none⟩) ∧ TreeAt w' w.heap.size q ns)
theorem parse_outT (s : ByteArray) (w : World) (hE : XEnv w.heap.size w) :
    Calls Tryz.prog 5 #[.string s] w fun e w' => ∃ (v : Value) (er : Nat), e = .returned (.tuple #[v, .int .i64 (er : Nat)]) ∧ Below w.heap.size w w' ∧ ParseOutT s w w' v er := by
  by_cases hz : 32768 < s.size
  · refine (parse_err s w 6 (.inr rfl) ((scan_long _ w hz).mono ?_)).mono ?_
    · rintro e w' ⟨rfl, rfl⟩
      exact ⟨⟨0, rfl⟩, Below.refl _ _⟩
    · rintro e w' ⟨rfl, hb⟩
      exact ⟨_, 6, rfl, hb, .inl ⟨.inr (.inr (.inl rfl)), rfl⟩⟩
  · by_cases ht : Txt s.data.toList
    · obtain ⟨l, hl, rfl⟩ := txt_T ht
      refine (parse_T l w hl (by omega) hE).mono ?_
      rintro e w' ⟨hp, hb⟩
      cases hs : parseD l with
      | error n =>
        rw [hs] at hp
        have hp' : e = .returned (.tuple #[.pointer none, .int .i64 (n : Nat)]) := hp
        exact ⟨_, n, hp', hb, .inl ⟨.inr (parse_errs hl (by omega) hs), rfl⟩⟩
      | ok ns =>
        rw [hs] at hp
        obtain ⟨q, he, hT⟩ := hp
        exact ⟨_, 0, he, hb, .inr ⟨rfl, l, ns, q, rfl, hl, by omega, hs, rfl, hT⟩⟩
    · refine (parse_err s w 4 (.inl rfl) ((scan_bad _ w (by omega) hE.env ht).mono ?_)).mono ?_
      · rintro e w' ⟨⟨at', _, rfl⟩, hb⟩
        exact ⟨⟨at', rfl⟩, hb⟩
      · rintro e w' ⟨rfl, hb⟩
        exact ⟨_, 4, rfl, hb, .inl ⟨.inl rfl, rfl⟩⟩
end Go.Proofs.YtiembljlhmgpjaaGreatDoor
/- What is scanned is written, if there is room, and scanned again as the same: the law XmlscanAgain. -/
namespace Go.Proofs.YtiembljlhmgpjaaGreatDoor
open Go.RowKit
end Go.Proofs.YtiembljlhmgpjaaGreatDoor
/- Trees that are built are well formed, in plain terms: where a node ends, and how long texts are. -/
namespace Go.Proofs.YtiembljlhmgpjaaGreatDoor
def small (l : List Nat) : Prop := okL l ∧ (T l).size ≤ 1048576
/-- Nodes that have ended end behind themselves. -/
structure InvT (s : BS) : Prop where
  txt : ∀ x ∈ s.nodes, small x.text
  fin : ∀ (i : Nat) (x : XNode), s.nodes[i]? = some x → i ∈ s.opn ∨ (i < x.fin ∧ x.fin ≤ s.nodes.length)
theorem small_nil : small [] := ⟨okL_e, Nat.zero_le _⟩
theorem InvT.begin {s : BS} (h : InvT s) (x : XNode) (hx : small x.text) : InvT (s.begin x) := by
  refine ⟨fun y hy => ?_, fun i y hy => ?_⟩
  · rcases List.mem_append.1 hy with hy | hy
    · exact h.txt y hy
    · rw [List.mem_singleton.1 hy]; exact hx
  · have hy' : (s.nodes ++ [x])[i]? = some y := hy
    show i ∈ s.opn ++ [s.nodes.length] ∨ (i < y.fin ∧ y.fin ≤ (s.nodes ++ [x]).length)
    rw [List.length_append]
    by_cases hi : i < s.nodes.length
    · rw [List.getElem?_append_left hi] at hy'
      rcases h.fin i y hy' with h1 | ⟨h1, h2⟩
      · exact .inl (List.mem_append_left _ h1)
      · exact .inr ⟨h1, by simp; omega⟩
    · left
      have := (List.getElem?_eq_some_iff.1 hy').1
      rw [List.length_append] at this
      simp at this
      have e : i = s.nodes.length := by omega
      rw [e]
      simp
theorem InvT.finish {s : BS} (h : InvT s) (ho : s.opn ≠ []) (hi : s.inner < s.nodes.length) : InvT s.finish := by
  refine ⟨fun y hy => ?_, fun i y hy => ?_⟩
  · have hy' : y ∈ s.nodes.modify s.inner (fun x => { x with fin := s.nodes.length }) := hy
    obtain ⟨j, hj⟩ := List.getElem?_of_mem hy'
    rw [List.getElem?_modify] at hj
    obtain ⟨z, hz, e⟩ := Option.map_eq_some_iff.1 hj
    have := h.txt z (List.mem_of_getElem? hz)
    rw [← e]
    split <;> exact this
  · have hy' : (s.nodes.modify s.inner (fun x => { x with fin := s.nodes.length }))[i]? = some y := hy
    rw [List.getElem?_modify] at hy'
    obtain ⟨z, hz, e⟩ := Option.map_eq_some_iff.1 hy'
    show i ∈ s.opn.dropLast ∨ (i < y.fin ∧ y.fin ≤ (s.nodes.modify _ _).length)
    rw [List.length_modify]
    by_cases hin : s.inner = i
    · rw [if_pos hin] at e
      right
      rw [← e]
      exact ⟨by show i < s.nodes.length; omega, Nat.le_refl _⟩
    · rw [if_neg hin] at e
      have ez : z = y := e
      subst ez
      rcases h.fin i z hz with h1 | h1
      · left
        have e2 : s.opn = s.opn.dropLast ++ [s.inner] := by
          have h3 := List.dropLast_concat_getLast ho
          have h4 : s.opn.getLast ho = s.inner := by
            unfold BS.inner
            rw [List.getLastD_eq_getLast?, List.getLast?_eq_some_getLast ho]
            rfl
          rw [h4] at h3
          exact h3.symm
        rw [e2] at h1
        rcases List.mem_append.1 h1 with h1 | h1
        · exact h1
        · exact absurd (List.mem_singleton.1 h1).symm hin
      · exact .inr h1
theorem InvT.leaf {s : BS} (h : InvT s) (x : XNode) (hx : small x.text) : InvT (s.leaf x) := by
  refine (h.begin (s.placed x) hx).finish (by show s.opn ++ [_] ≠ []; simp) ?_
  rw [begin_inner]
  show _ < (s.nodes ++ [_]).length
  simp
theorem InvT.leafs : ∀ (l : List XNode) (s : BS), InvT s → (∀ x ∈ l, small x.text) → InvT (l.foldl BS.leaf s)
  | [], _, h, _ => h
  | x :: l, s, h, hl => InvT.leafs l (s.leaf x) (h.leaf x (hl x (List.mem_cons_self ..))) (fun y hy => hl y (List.mem_cons_of_mem _ hy))
theorem attrsN_txt {s : Sc} : ∀ {l : List (List Nat × List Nat)} {r : List XNode}, OkAt l → attrsN s l = some r → ∀ x ∈ r, small x.text
  | [], r, _, h, x, hx => by cases h; cases hx
  | y :: l, r, hl, h, x, hx => by
    have hl' : OkAt l := fun z hz => hl z (List.mem_cons_of_mem _ hz)
    rw [attrsN] at h
    split at h
    · exact attrsN_txt hl' h x hx
    · split at h
      · cases h
      · obtain ⟨q, hq, rfl⟩ := Option.map_eq_some_iff.1 h
        rcases List.mem_cons.1 hx with rfl | hx
        · have := hl y (List.mem_cons_self ..)
          exact ⟨this.1.2, this.2.2⟩
        · exact attrsN_txt hl' hq x hx
theorem InvT.add {s s' : BS} {t : XTok} (h : InvT s) (ht : OkAt t.attrs) (hx : small t.text) (ho : s.opn ≠ []) (hi : s.inner < s.nodes.length) (ha : s.add t = .ok s') : InvT s' := by
  unfold BS.add at ha
  split at ha
  · unfold BS.element BS.elementAt at ha
    split at ha
    · cases ha
    · split at ha
      · cases ha
      · split at ha
        · cases ha
        · rename_i as' hat
          cases ha
          refine InvT.leafs _ _ (h.begin _ small_nil) ?_
          unfold attributesD at hat
          split at hat
          · cases hat
          · rename_i q hq
            split at hat
            · cases hat; exact attrsN_txt ht hq
            · cases hat
  · split at ha
    · cases ha; exact h.finish ho hi
    · split at ha
      · cases ha; exact h.leaf _ hx
      · cases ha; exact h.leaf _ hx
/-- A tree as it may be told. -/
structure TreeOk (ns : List XNode) : Prop where
  pos : 0 < ns.length
  len : ns.length ≤ 300000
  txt : ∀ x ∈ ns, small x.text
  fin : ∀ (i : Nat) (x : XNode), ns[i]? = some x → i < x.fin ∧ x.fin ≤ ns.length
theorem adds_ok : ∀ (ts : List XTok) (s s' : BS) (o : List (List Nat)) (r : Bool) (q k : Nat), DocT o r q ts → Inv s o.length k → o.length ≤ 32 → InvT s → (∀ t ∈ ts, OkAt t.attrs ∧ small t.text) → s.adds ts = .ok s' → Inv s' 0 (k + ts.length) ∧ InvT s'
  | [], s, s', o, r, q, k, hD, hI, _, hT, _, ha => by
    cases ha
    cases hD
    exact ⟨hI, hT⟩
  | t :: ts, s, s', o, r, q, k, hD, hI, ho, hT, hx, ha => by
    rw [show s.adds (t :: ts) = _ from rfl] at ha
    unfold BS.adds at ha
    split at ha
    · cases ha
    · rename_i s1 h1
      obtain ⟨o', r', q', hD', hI', ho'⟩ := hI.add ho hD h1
      have hT' := hT.add (hx t (List.mem_cons_self ..)).1 (hx t (List.mem_cons_self ..)).2 hI.ne hI.inner h1
      have := adds_ok ts s1 s' o' r' q' (k + 1) hD' hI' ho' hT' (fun y hy => hx y (List.mem_cons_of_mem _ hy)) ha
      rw [List.length_cons, show k + (ts.length + 1) = k + 1 + ts.length by omega]
      exact this
theorem InvT.start : InvT BS.start := ⟨fun x hx => by rw [List.mem_singleton.1 hx]; exact small_nil, fun i x hx => by
  left
  have hx' : [rootN][i]? = some x := hx
  have := (List.getElem?_eq_some_iff.1 hx').1
  simp at this
  subst this
  show 0 ∈ [0]
  simp⟩
theorem DocOk.tree {xs : List XTok} {ns : List XNode} (h : DocOk xs) (ht : treeD xs = .ok ns) : TreeOk ns := by
  unfold treeD at ht
  split at ht
  · cases ht
  · rename_i s hs
    cases ht
    obtain ⟨hI, hT⟩ := adds_ok xs BS.start s [] false 0 0 h.doc Inv.start (by decide) InvT.start (fun t htm => by
      have := h.tok htm
      refine ⟨this.a, (h.all t htm).x, ?_⟩
      exact (h.sm t.b (List.mem_map.2 ⟨t, htm, rfl⟩)).x) hs
    have hF := hT.finish hI.ne hI.inner
    have hl : s.finish.nodes.length = s.nodes.length := List.length_modify ..
    have hn := hI.n
    have hx := h.len
    refine ⟨by rw [hl]; have := hI.inner; omega, by rw [hl]; omega, hF.txt, fun i x hi => ?_⟩
    rcases hF.fin i x hi with h1 | h1
    · exfalso
      have h2 : s.finish.opn = [] := by
        have h3 := hI.opn
        show s.opn.dropLast = []
        apply List.length_eq_zero_iff.1
        rw [List.length_dropLast]
        omega
      rw [h2] at h1
      cases h1
    · exact h1
end Go.Proofs.YtiembljlhmgpjaaGreatDoor
/- The law TopDocs. -/
namespace Go.Proofs.YtiembljlhmgpjaaGreatDoor
open Go.RowKit Go.Maps
theorem parse_parts {cs : List Nat} {ns : List XNode} (h : parseD cs = .ok ns) : ∃ ts, scanX cs = .ok ts ∧ treeD ts = .ok ns := by
  unfold parseD at h
  split at h
  · cases h
  · rename_i ts hts
    exact ⟨ts, hts, h⟩
theorem parse_ok2 {cs : List Nat} {ns : List XNode} (hl : okL cs) (hs : (T cs).size ≤ 32768) (h : parseD cs = .ok ns) : TreeOk ns := by
  obtain ⟨ts, h1, h2⟩ := parse_parts h
  exact (doc_ok hl hs h1).tree h2
theorem docT_pos {ts : List XTok} (h : DocT [] false 0 ts) : 0 < ts.length := by
  cases h <;> simp
theorem wideT_len (s : ByteArray) : ∀ (f pos : Nat), (wideFrom s f pos).length ≤ 4 * (s.size - pos)
  | 0, _ => by simp [wideFrom]
  | f + 1, pos => by
    rw [wideFrom]
    split
    · rename_i hp
      have h1 := wideT_len s f (pos + (Utf8.decode s pos).2)
      have h2 := wideR_len (Utf8.decode s pos).1
      have h3 := width_pos s pos hp
      rw [List.length_append]
      omega
    · simp
theorem encT_size {l : List Nat} (hs : (T l).size ≤ 32768) (wide : Bool) : (encV (T l) wide).1.size ≤ 9223372036854775807 := by
  unfold encV
  split
  · exact Nat.zero_le _
  · split
    · exact Nat.zero_le _
    · split
      · show (encW (T l)).length ≤ _
        have := wideT_len (T l) ((T l).size + 1) 0
        unfold encW
        rw [List.length_append]
        show 2 + _ ≤ _
        omega
      · show (T l).size ≤ _
        omega
/-- The first bytes hold no 13. -/
structure No13 (s : ByteArray) (k : Nat) : Prop where
  le : k ≤ s.size
  no : ∀ j, j < k → s.get! j ≠ 13
theorem ends_size {l : List Nat} (hl : okL l) (hs : (T l).size ≤ 32768) : (T (endsN l)).size ≤ 32768 := by
  have h := endsL_le (tx l)
  rw [endsL_is, endsN_tx hl] at h
  rw [T_size] at hs ⊢
  omega
set_option maxRecDepth 100000 in
set_option maxHeartbeats 4000000 in
theorem docs_walk (s : ByteArray) (wide : Bool) (w : World) (hE : XEnv w.heap.size w) :
    Calls Tryz.prog 3 #[.string s, .bool wide] w fun e w' => e = .returned (.bool true) ∧ Below w.heap.size w w' := by
  have HE := hide hE
  have HW := hide (parse_outT s w hE)
  clear hE
  go_enter Tryz.func3, Tryz.ntmps3
  go_wp2_with fail
  refine (unhide HW).mono ?_
  rintro e w1 ⟨v, er, rfl, hb1, hO⟩
  have HE1 := hide ((unhide HE).at hb1)
  clear HW HE
  rcases hO with ⟨he, rfl⟩ | ⟨rfl, cs, ns, q, rfl, hl, hs, hpd, rfl, hT⟩
  · rcases he with rfl | rfl | rfl | rfl | rfl
    all_goals
      go_wp2
      go_returns
      exact ⟨rfl, hb1⟩
  · obtain ⟨ts, hsc, htr⟩ := parse_parts hpd
    obtain ⟨hD, hn, hsm, hwr⟩ := write_told hl hs hsc
    have hok := parse_ok2 hl hs hpd
    have hTV : TreeV w1 w.heap.size (.pointer (some ⟨q, 0, none⟩)) ns := .inr ⟨q, rfl, hT⟩
    have HTV := hide hTV
    by_cases hz : 4000 < (T cs).size
    · have hz' : (4000 : Int) < ((T cs).size : Int) := by omega
      go_wp2
      go_returns
      exact ⟨rfl, hb1⟩
    have hz' : ¬ (4000 : Int) < ((T cs).size : Int) := by omega
    have HSC := hide (scan_any cs w1 hl hs (unhide HE1))
    rw [hsc] at HSC
    have HD := hide hD
    have HNL := hide hok.len
    have HSM := hide hsm
    have htl : (ts.map XTok.b).length ≤ 1048576 := by rw [List.length_map]; omega
    have HTL := hide htl
    have HTR := hide htr
    have HTN := hide hn
    clear hz hTV hT hpd hs hl hsc htr hD hn hsm hok htl
    go_wp2_with fail
    refine (unhide HSC).mono ?_
    rintro e w2 ⟨⟨vt, rfl, hTk⟩, hb2⟩
    have HE2 := hide ((unhide HE1).at hb2)
    obtain ⟨at', cap, rfl, hTA⟩ := toks_arg hTk (docT_pos (unhide HD))
    have hwa := write_any (ts.map XTok.b) at' cap w2 hTA (unhide HTL) (unhide HSM) w2.heap.size (Nat.le_refl _) (unhide HE2)
    rw [List.length_map] at hwa
    have HWR := hide hwa
    clear hwa
    have hb12 := Below.then hb1 hb2
    have HTV2 := hide ((unhide HTV).on hb2)
    clear HSC hTk hTA HTV HE1 hb2
    rcases hwr with hwr | ⟨hwr, hwo, hws⟩
    · rw [hwr] at HWR
      have HWR' : Hid (Calls Tryz.prog 7 #[.slice at' ts.length cap] w2 fun e w' => e = .returned (.tuple #[.string ⟨#[]⟩, .int .i64 6]) ∧ Below w2.heap.size w2 w') := hide (unhide HWR)
      clear HWR hwr HTL HSM HD HTR HTN
      go_wp2_with fail
      refine (unhide HWR').mono ?_
      rintro e w3 ⟨rfl, hb3⟩
      go_wp2
      go_returns
      exact ⟨rfl, Below.then hb12 hb3⟩
    · rw [hwr] at HWR
      clear hwr
      obtain ⟨wl, hwl⟩ := write_head (unhide HD)
      have HEP := hide (ends_parse (unhide HD) (unhide HTN) (unhide HTR))
      have HSP := hide (same_parse (unhide HD) (unhide HTN) (unhide HTR))
      rw [hwl] at HWR hwo hws HEP HSP
      have HWO := hide hwo
      have henc := encT hwo hws wide
      have HENC := hide henc
      have HDEC := hide (decT hwo hws wide)
      have HWR' : Hid (Calls Tryz.prog 7 #[.slice at' ts.length cap] w2 fun e w' => e = .returned (.tuple #[.string (T (60 :: wl)), .int .i64 0]) ∧ Below w2.heap.size w2 w') := hide (unhide HWR)
      clear hwl henc hwo HTL HSM HD HTR HTN
      go_wp2_with fail
      refine (unhide HWR').mono ?_
      rintro e w3 ⟨rfl, hb3⟩
      have HE3 := hide ((unhide HE2).at hb3)
      have hb13 := Below.then hb12 hb3
      have HTV3 := hide ((unhide HTV2).on hb3)
      have HENS := hide (encode_any (T (60 :: wl)) wide w3 (by omega) (unhide HE3).env)
      rw [unhide HENC] at HENS
      clear HWR HWR' HE2 HTV2 HENC hb12
      go_wp2_with fail
      refine (unhide HENS).mono ?_
      rintro e w4 ⟨vb, rfl, hBA, hb4⟩
      have HE4 := hide ((unhide HE3).at hb4)
      have hb14 := Below.then hb13 hb4
      have HTV4 := hide ((unhide HTV3).on hb4)
      have HDE := hide (decode_any vb _ w4 (unhide HE4).env hBA (encT_size hws wide))
      clear HENS HE3 HTV3 hb13 hBA
      rcases unhide HDEC with hdec | hdec
      · rw [hdec] at HDE
        go_wp2_with fail
        refine (unhide HDE).mono ?_
        rintro e w5 ⟨rfl, hb5⟩
        have hb15 := Below.then hb14 hb5
        have HPO := hide (parse_out ⟨#[]⟩ w5 ((unhide HE4).at hb5))
        clear HDE hdec HDEC
        go_wp2_with fail
        refine (unhide HPO).mono ?_
        rintro e w6 ⟨v6, er6, rfl, hb6, _⟩
        clear HPO
        go_wp2
        go_returns
        exact ⟨rfl, Below.then hb15 hb6⟩
      · rw [hdec] at HDE
        obtain ⟨ns', hpe⟩ := unhide HEP
        have hso : (T (endsN (60 :: wl))).size ≤ 32768 := ends_size (unhide HWO) hws
        have hno := endsN_ok (unhide HWO)
        go_wp2_with fail
        refine (unhide HDE).mono ?_
        rintro e w5 ⟨rfl, hb5⟩
        have hb15 := Below.then hb14 hb5
        have HTV5 := hide ((unhide HTV4).on hb5)
        have HPO := hide (parse_T (endsN (60 :: wl)) w5 hno hso ((unhide HE4).at hb5))
        rw [hpe] at HPO
        have HPE := hide hpe
        clear HDE hdec HDEC HEP hpe hso hno HTV4 HE4
        go_wp2_with fail
        refine (unhide HPO).mono ?_
        rintro e w6 ⟨⟨q6, rfl, hT6⟩, hb6⟩
        have hb16 := Below.then hb15 hb6
        have HTV6 := hide ((unhide HTV5).on hb6)
        have hTN : TreeV w6 w5.heap.size (.pointer (some ⟨q6, 0, none⟩)) ns' := .inr ⟨q6, rfl, hT6⟩
        have HTN6 := hide hTN
        clear HPO HTV5 hT6 hTN
        generalize hDB : T (60 :: wl) = DB at *
        have HDB := hide hDB
        clear hDB
        go_wp2_with fail
        go_loopw [19] (fun i wr => ∃ k : Nat, i = .int .i64 (k : Nat) ∧ wr = w6 ∧ Hid (No13 DB k)) (fun i _ => DB.size - (intOf i).toNat)
        case atStart => exact ⟨0, rfl, rfl, hide ⟨Nat.zero_le _, fun j hj => by omega⟩⟩
        case round =>
          obtain ⟨k, rfl, rfl, hk⟩ := hrel
          by_cases hlt : k < DB.size
          · obtain ⟨C, hC⟩ : ∃ C : Nat, (DB.get! k).toNat = C := ⟨_, rfl⟩
            have hix : ∀ W, (Instr.index 9 (.string DB) (.int .i64 (k : Int))).run Tryz.prog W = .ok (.int .u8 (C : Int)) W := fun W => by
              rw [run_index_string W 9 DB .i64 _ Tryz.underlying9, dif_pos ⟨by omega, by omega⟩, ← hC]
              have e := get_at DB k hlt
              have e2 : DB.data.toList[k]? = some (DB[k]'hlt) := Lib.data_getElem? DB k hlt
              rw [e2] at e
              rw [← Option.some.inj e]
              rfl
            have n2 : (k : Int) < (DB.size : Int) := by omega
            by_cases c13 : C = 13
            · have i13 : ((C : Int) == 13) = true := by simp; omega
              clear c13 hC
              go_wp2_with fail
              go_returns
              exact ⟨rfl, hb16⟩
            · have i13 : ((C : Int) == 13) = false := by simp; omega
              have HK1 : Hid (No13 DB (k + 1)) := hide ⟨hlt, fun j hj => by
                by_cases e : j = k
                · subst e
                  intro h13
                  rw [h13] at hC
                  exact c13 hC.symm
                · exact (unhide hk).no j (by omega)⟩
              clear c13 hC
              go_wp2_with fail
              go_round
              case measure => simp [intOf]; omega
              case rel => exact ⟨k + 1, by simp, trivial, HK1⟩
          · have n2 : ¬ (k : Int) < (DB.size : Int) := by omega
            have hno : ∀ b ∈ tx (60 :: wl), b ≠ 13 := by
              intro b hb
              rw [← T_data, unhide HDB] at hb
              obtain ⟨j, hj⟩ := List.getElem?_of_mem hb
              have hjl : j < DB.size := (List.getElem?_eq_some_iff.1 hj).1
              have := (unhide hk).no j (by have := (unhide hk).le; omega)
              have e := get_at DB j hjl
              rw [hj] at e
              rw [Option.some.inj e]
              exact this
            have hse := ends_same hno
            have hpe := unhide HPE
            rw [hse, unhide HSP] at hpe
            have hns : ns = ns' := Except.ok.inj hpe
            subst hns
            have HN1 := hide (nodes_any _ _ _ wr (unhide HTV6) (unhide HNL))
            have HN2 := hide (fun W (hb : Below wr.heap.size wr W) => nodes_any _ _ _ W ((unhide HTN6).on hb) (unhide HNL))
            clear hse hpe hno hk HPE HSP HWO HDB hlt
            go_wp2_with fail
            refine (unhide HN1).mono ?_
            rintro e w7 ⟨⟨u1, rfl, hA1⟩, hb7⟩
            have hc := unhide HN2 w7 hb7
            go_wp2_with fail
            refine hc.mono ?_
            rintro e w8 ⟨⟨u2, rfl, hA2⟩, hb8⟩
            have hal := alike_any _ _ u1 u2 ns w8 (hA1.on hb8) hA2 (unhide HNL)
            go_wp2_with fail
            refine hal.mono ?_
            rintro e w9 ⟨rfl, hb9⟩
            go_wp2
            go_returns
            exact ⟨rfl, Below.then (Below.then (Below.then hb16 hb7) hb8) hb9⟩
end Go.Proofs.YtiembljlhmgpjaaGreatDoor
/- From what a row lists of the library's tables, and from the world's shape, to what the walks of layer 3 ask. -/
namespace Go.Proofs.YtiembljlhmgpjaaGreatDoor
open Go.ChangeShapes Go.WideShapes Go.ChangeAt Go.RowKit
theorem u8extra : U8Extra Tryz.prog Tryz.lays260_ren where
  n3 := by kernel_rfl
  n4 := by kernel_rfl
  y3 := by kernel_rfl
  y4 := by kernel_rfl
  c5 := by kernel_rfl
  c119 := by kernel_rfl
  c138 := by kernel_rfl
theorem first_data : Rows.laid_unicode_utf8_first = Lib.firstData := by kernel_rfl
theorem accept_data : Rows.laid_unicode_utf8_acceptRanges = Lib.acceptData := by kernel_rfl
def foldTab : List Int := [0, 1, 2, 3, 4, 5, 6, 7, 8, 9, 10, 11, 12, 13, 14, 15, 16, 17, 18, 19, 20, 21, 22, 23, 24, 25, 26, 27, 28, 29, 30, 31, 32, 33, 34, 35, 36, 37, 38, 39, 40, 41, 42, 43, 44, 45, 46, 47, 48, 49, 50, 51, 52, 53, 54, 55, 56, 57, 58, 59, 60, 61, 62, 63, 64, 97, 98, 99, 100, 101, 102, 103, 104, 105, 106, 107, 108, 109, 110, 111, 112, 113, 114, 115, 116, 117, 118, 119, 120, 121, 122, 91, 92, 93, 94, 95, 96, 65, 66, 67, 68, 69, 70, 71, 72, 73, 74, 8490, 76, 77, 78, 79, 80, 81, 82, 383, 84, 85, 86, 87, 88, 89, 90, 123, 124, 125, 126, 127]
theorem fold_data : (Rows.laid_unicode_asciiFold : DataW Unit) = Lib.tabData .u16 foldTab := by kernel_rfl
theorem xTab_of {P : Program} {W : World} {name : String} {k : IntKind} {zs : List Int} {g : Nat} {t e : TypeId} {n : Nat} (hg : P.globalNamed name = some g) (hty : (P.globals[g]?).map (·.type) = some t) (ht : P.underlying t = some (.array n e)) (he : P.underlying e = some (.int k)) (hce : P.cellsOf e = 1) (hct : P.cellsOf t = n) (h : Lib.VarReads P W name (Lib.tabData k zs)) (j : Nat) : W.cell? ⟨g, j, none⟩ = (zs.map fun z => Value.int k z)[j]? := by
  obtain ⟨g', t', cs, fuel, p, hg', ht', hvar, hd⟩ := h
  obtain rfl := Option.some.inj (hg.symm.trans hg')
  obtain rfl := Option.some.inj (hty.symm.trans ht')
  rw [World.var?_cell hg hvar j, ← Lib.cells_of_tab ht he hce hct hd]
  simp
theorem env_of {W : World} (hM : laidMet Tryz.prog [("unicode/utf8.acceptRanges", Rows.laid_unicode_utf8_acceptRanges), ("unicode.asciiFold", Rows.laid_unicode_asciiFold), ("unicode.caseOrbit", Rows.laid_unicode_caseOrbit), ("unicode.CaseRanges", Rows.laid_unicode_CaseRanges), ("unicode/utf8.first", Rows.laid_unicode_utf8_first)] W) (hs : W.ShapedOpen Tryz.prog) : XEnv W.heap.size W := by
  have h3 := Lib.laidMet.reads hM (n := "unicode/utf8.first") (d := Rows.laid_unicode_utf8_first) (by simp)
  have h4 := Lib.laidMet.reads hM (n := "unicode/utf8.acceptRanges") (d := Rows.laid_unicode_utf8_acceptRanges) (by simp)
  have h5 := Lib.laidMet.reads hM (n := "unicode.asciiFold") (d := Rows.laid_unicode_asciiFold) (by simp)
  rw [first_data] at h3
  rw [accept_data] at h4
  rw [fold_data] at h5
  have ht := utf8Tabs_of_reads Tryz.lays260 u8extra h3 h4
  have hf := xTab_of (g := 2) (t := 192) (e := 191) (n := 128) (by kernel_rfl) (by kernel_rfl) (by kernel_rfl) Tryz.underlying191 (by kernel_rfl) (by kernel_rfl) h5
  obtain ⟨m, hm⟩ : ∃ m, W.cell? ⟨5, 0, none⟩ = some (.int .i64 m) := cell_of_shapedOpen_int (zero := #[.int .i64 0]) (t := 3) hs (of_decide_eq_true (by kernel_rfl)) (by kernel_rfl) rfl (by kernel_rfl) (by kernel_rfl) Tryz.underlying3
  have fx : W.cell? ⟨2, 120, none⟩ = some (.int .u16 88) := (hf 120).trans rfl
  refine ⟨⟨⟨m, hm⟩, ht⟩, fx, (hf 109).trans rfl, (hf 108).trans rfl, (hf 88).trans rfl, (hf 77).trans rfl, (hf 76).trans rfl, block_lt_of_cell hm, ?_, ?_, block_lt_of_cell fx⟩
  · exact block_lt_of_cell (ht.1 0 (by decide))
  · exact block_lt_of_cell (ht.2 0 (by decide)).1
theorem own : ownKnob Tryz.prog.godebug = none := by kernel_rfl
end Go.Proofs.YtiembljlhmgpjaaGreatDoor
