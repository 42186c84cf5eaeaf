/- Several texts, laid as one. -/
import Derived.Test.YtjjggncbhenffaaGreatDoorGbu
import Derived.Test.YtjjggncbhenffaaGreatDoorGba
import Derived.Test.YtjjggncbhenffaaGreatDoorGbs
/- What a node's prefixes stand for: xdm's Scope. -/
namespace Go.Proofs.YtjjggncbhenffaaGreatDoor
open Go.RowKit Go.Maps
end Go.Proofs.YtjjggncbhenffaaGreatDoor
/- Trees that are built: every name's Uri is what its scope tells of its prefix, in plain terms. -/
namespace Go.Proofs.YtjjggncbhenffaaGreatDoor
def lookR (s : Sc) (p : List Nat) : Option (List Nat) := if p = xmlL then some xmlUriL else match lookS s p with
  | some u => some u
  | none => if p = [] then some [] else none
def AttrOk (ns : List XNode) (x : XNode) : Prop := (x.name.pre = [] ∧ x.name.uri = []) ∨ (x.name.pre ≠ [] ∧ ∃ k : Nat, x.parent = (k : Int) ∧ ∃ y, ns[k]? = some y ∧ lookR y.scope x.name.pre = some x.name.uri)
structure InvS (L : List XNode) : Prop where
  el : ∀ x ∈ L, x.kind = 2 → lookR x.scope x.name.pre = some x.name.uri
  oth : ∀ x ∈ L, x.kind ≠ 2 → x.scope = []
  atr : ∀ x ∈ L, x.kind = 3 → AttrOk L x
theorem AttrOk.more {L : List XNode} {x : XNode} (h : AttrOk L x) (M : List XNode) : AttrOk (L ++ M) x := by
  rcases h with h | ⟨h0, k, hk, y, hy, hl⟩
  · exact .inl h
  · refine .inr ⟨h0, k, hk, y, ?_, hl⟩
    rw [List.getElem?_append_left (List.getElem?_eq_some_iff.1 hy).1]
    exact hy
theorem InvS.snoc {L : List XNode} (h : InvS L) {x : XNode} (h1 : x.kind = 2 → lookR x.scope x.name.pre = some x.name.uri) (h2 : x.kind ≠ 2 → x.scope = []) (h3 : x.kind = 3 → AttrOk L x) : InvS (L ++ [x]) := by
  refine ⟨fun y hy => ?_, fun y hy => ?_, fun y hy => ?_⟩
  · rcases List.mem_append.1 hy with hy | hy
    · exact h.el y hy
    · rw [List.mem_singleton.1 hy]; exact h1
  · rcases List.mem_append.1 hy with hy | hy
    · exact h.oth y hy
    · rw [List.mem_singleton.1 hy]; exact h2
  · rcases List.mem_append.1 hy with hy | hy
    · exact fun hk => (h.atr y hy hk).more _
    · rw [List.mem_singleton.1 hy]; exact fun hk => (h3 hk).more _
def strip0 (x : XNode) : XNode := { x with fin := 0 }
theorem modify_strip (L : List XNode) (i n : Nat) : (L.modify i fun x => { x with fin := n }).map strip0 = L.map strip0 := by
  apply List.ext_getElem?
  intro j
  rw [List.getElem?_map, List.getElem?_modify, List.getElem?_map]
  cases L[j]? with
  | none => rfl
  | some x =>
    show some (strip0 (if i = j then { x with fin := n } else x)) = some (strip0 x)
    split <;> rfl
theorem leaf_strip (s : BS) (x : XNode) : (s.leaf x).nodes.map strip0 = s.nodes.map strip0 ++ [strip0 (s.placed x)] := by
  show ((s.nodes ++ [s.placed x]).modify _ _).map strip0 = _
  rw [modify_strip, List.map_append]
  rfl
theorem leaf_inner (s : BS) (x : XNode) : (s.leaf x).inner = s.inner := by
  unfold BS.inner
  rw [show (s.leaf x).opn = s.opn from by show (s.opn ++ [_]).dropLast = s.opn; rw [List.dropLast_concat]]
theorem expandD_R {s : Sc} {q : List Nat} {n : Nm} (h : expandD s q = some n) : lookR s n.pre = some n.uri := by
  unfold expandD at h
  unfold lookR
  split at h
  · rename_i hx
    cases h
    rw [if_pos hx]
  · rename_i hx
    split at h
    · rename_i u hu
      cases h
      show (if (splitQ q).1 = xmlL then _ else _) = some u
      rw [if_neg hx, hu]
    · rename_i hu
      split at h
      · rename_i h0
        cases h
        rw [h0] at hu
        show (if ([] : List Nat) = xmlL then _ else _) = _
        rw [if_neg (by decide)]
        show (match lookS s [] with | some u => some u | none => _) = some []
        rw [hu]
        rfl
      · cases h
theorem leafs_S : ∀ (l : List XNode) (s : BS) (y : XNode), InvS (s.nodes.map strip0) → (s.nodes.map strip0)[s.inner]? = some y → (∀ x ∈ l, x.kind = 3 ∧ x.scope = [] ∧ ((x.name.pre = [] ∧ x.name.uri = []) ∨ (x.name.pre ≠ [] ∧ lookR y.scope x.name.pre = some x.name.uri))) → InvS ((l.foldl BS.leaf s).nodes.map strip0)
  | [], s, y, h, _, _ => h
  | x :: l, s, y, h, hy, hl => by
    obtain ⟨h3, h0, hn⟩ := hl x (List.mem_cons_self ..)
    refine leafs_S l (s.leaf x) y ?_ ?_ (fun z hz => hl z (List.mem_cons_of_mem _ hz))
    · rw [leaf_strip]
      refine h.snoc (fun e => ?_) (fun _ => h0) (fun _ => ?_)
      · have : x.kind = 2 := e
        rw [h3] at this
        cases this
      · rcases hn with hn | ⟨hn, hr⟩
        · exact .inl hn
        · exact .inr ⟨hn, s.inner, rfl, y, hy, hr⟩
    · rw [leaf_strip, leaf_inner, List.getElem?_append_left (List.getElem?_eq_some_iff.1 hy).1]
      exact hy
theorem splitQ_ne {q : List Nat} (hq : isQ q = true) (hn : isNm q = false) : (splitQ q).1 ≠ [] := by
  unfold isQ at hq
  unfold splitQ
  split at hq
  · rename_i hc
    rw [if_pos hc]
    intro h0
    have h0' : q.takeWhile (· != 58) = [] := h0
    rw [h0', isNm_nil] at hq
    cases hq
  · rw [hn] at hq
    cases hq
theorem expandD_pre {s : Sc} {q : List Nat} {n : Nm} (h : expandD s q = some n) (h0 : (splitQ q).1 ≠ []) : n.pre ≠ [] := by
  unfold expandD at h
  split at h
  · cases h; exact h0
  · split at h
    · cases h; exact h0
    · cases h
theorem attrsN_S {s : Sc} : ∀ {l : List (List Nat × List Nat)} {r : List XNode}, (∀ x ∈ l, isQ x.1 = true) → attrsN s l = some r → ∀ x ∈ r, x.kind = 3 ∧ x.scope = [] ∧ ((x.name.pre = [] ∧ x.name.uri = []) ∨ (x.name.pre ≠ [] ∧ lookR s x.name.pre = some x.name.uri))
  | [], r, _, h, x, hx => by cases h; cases hx
  | y :: l, r, hl, h, x, hx => by
    have hl' : ∀ z ∈ l, isQ z.1 = true := fun z hz => hl z (List.mem_cons_of_mem _ hz)
    rw [attrsN] at h
    split at h
    · exact attrsN_S hl' h x hx
    · split at h
      · cases h
      · rename_i n hn
        obtain ⟨q, hq, rfl⟩ := Option.map_eq_some_iff.1 h
        rcases List.mem_cons.1 hx with rfl | hx
        · refine ⟨rfl, rfl, ?_⟩
          unfold expandA at hn
          split at hn
          · cases hn; exact .inl ⟨rfl, rfl⟩
          · rename_i hN
            have hN' : isNm y.1 = false := by simpa using hN
            exact .inr ⟨expandD_pre hn (splitQ_ne (hl y (List.mem_cons_self ..)) hN'), expandD_R hn⟩
        · exact attrsN_S hl' hq x hx
theorem InvS.add {s s' : BS} {t : XTok} (h : InvS (s.nodes.map strip0)) (hq : t.kind = 2 → ∀ x ∈ t.attrs, isQ x.1 = true) (hk : t.kind ≠ 3) (ha : s.add t = .ok s') : InvS (s'.nodes.map strip0) := by
  unfold BS.add at ha
  split at ha
  · rename_i h2
    have hq := hq h2
    unfold BS.element BS.elementAt at ha
    split at ha
    · cases ha
    · rename_i inner hin
      split at ha
      · cases ha
      · rename_i n hn
        split at ha
        · cases ha
        · rename_i as' hat
          cases ha
          have hat' : attrsN inner t.attrs = some as' := by
            unfold attributesD at hat
            split at hat
            · cases hat
            · rename_i q hq
              split at hat
              · cases hat; exact hq
              · cases hat
          refine leafs_S as' _ (strip0 (s.placed ⟨2, n, [], 0, 0, 0, inner⟩)) ?_ ?_ (attrsN_S hq hat')
          · show InvS ((s.nodes ++ [_]).map strip0)
            rw [List.map_append]
            exact h.snoc (fun _ => expandD_R hn) (fun h2 => absurd rfl h2) (fun h3 => by cases h3)
          · rw [begin_inner]
            show ((s.nodes ++ [_]).map strip0)[_]? = _
            rw [List.map_append, List.getElem?_append_right (by rw [List.length_map]; exact Nat.le_refl _), List.length_map, Nat.sub_self]
            rfl
  · rename_i h2
    split at ha
    · cases ha
      show InvS ((s.nodes.modify _ _).map strip0)
      rw [modify_strip]
      exact h
    · split at ha
      · cases ha
        rw [leaf_strip]
        exact h.snoc (fun e => by cases e) (fun _ => rfl) (fun e => by cases e)
      · cases ha
        rw [leaf_strip]
        exact h.snoc (fun e => absurd e h2) (fun _ => rfl) (fun e => absurd e hk)
theorem adds_S : ∀ (ts : List XTok) (s s' : BS), InvS (s.nodes.map strip0) → (∀ t ∈ ts, (t.kind = 2 → ∀ x ∈ t.attrs, isQ x.1 = true) ∧ t.kind ≠ 3) → s.adds ts = .ok s' → InvS (s'.nodes.map strip0)
  | [], s, s', h, _, ha => by cases ha; exact h
  | t :: ts, s, s', h, hx, ha => by
    unfold BS.adds at ha
    split at ha
    · cases ha
    · rename_i s1 h1
      exact adds_S ts s1 s' (h.add (hx t (List.mem_cons_self ..)).1 (hx t (List.mem_cons_self ..)).2 h1) (fun y hy => hx y (List.mem_cons_of_mem _ hy)) ha
theorem InvS.start : InvS (BS.start.nodes.map strip0) := by
  refine ⟨fun x hx => ?_, fun x hx => ?_, fun x hx => ?_⟩
  · rw [List.mem_singleton.1 hx]; exact fun e => by cases e
  · rw [List.mem_singleton.1 hx]; exact fun _ => rfl
  · rw [List.mem_singleton.1 hx]; exact fun e => by cases e
/-- What a tree's scopes and names tell. -/
theorem treeD_S {ts : List XTok} {ns : List XNode} (hx : ∀ t ∈ ts, (t.kind = 2 → ∀ x ∈ t.attrs, isQ x.1 = true) ∧ t.kind ≠ 3) (h : treeD ts = .ok ns) : InvS (ns.map strip0) := by
  unfold treeD at h
  split at h
  · cases h
  · rename_i s hs
    cases h
    show InvS ((s.nodes.modify _ _).map strip0)
    rw [modify_strip]
    exact adds_S ts BS.start s InvS.start hx hs
theorem doc_kind {o : List (List Nat)} {r : Bool} {k : Nat} {ts : List XTok} (h : DocT o r k ts) : ∀ t ∈ ts, t.kind ≠ 3 := by
  induction h with
  | done => intro t ht; cases ht
  | elem n a o r k ts h hr ho ha hn ih => intro t ht; rcases List.mem_cons.1 ht with rfl | ht; exact fun e => (by cases e); exact ih t ht
  | fin n o r k ts h ho hn ih => intro t ht; rcases List.mem_cons.1 ht with rfl | ht; exact fun e => (by cases e); exact ih t ht
  | text l o r k ts h ho hk hn ih => intro t ht; rcases List.mem_cons.1 ht with rfl | ht; exact fun e => (by cases e); exact ih t ht
  | comment l o r k ts h hn ih => intro t ht; rcases List.mem_cons.1 ht with rfl | ht; exact fun e => (by cases e); exact ih t ht
  | pi n l o r k ts h hn ih => intro t ht; rcases List.mem_cons.1 ht with rfl | ht; exact fun e => (by cases e); exact ih t ht
theorem DocOk.scopes {xs : List XTok} {ns : List XNode} (h : DocOk xs) (ht : treeD xs = .ok ns) : InvS (ns.map strip0) ∧ ∀ x ∈ ns, x.scope.length ≤ 262144 := by
  refine ⟨treeD_S (fun t htm => ⟨fun h2 => ((h.tok htm).q h2).1, doc_kind h.doc t htm⟩) ht, ?_⟩
  unfold treeD at ht
  split at ht
  · cases ht
  · rename_i s hs
    cases ht
    obtain ⟨hI, _⟩ := adds_ok xs BS.start s [] false 0 0 h.doc Inv.start (by decide) InvT.start (fun t htm => by
      have := h.tok htm
      refine ⟨this.a, (h.all t htm).x, ?_⟩
      exact (h.sm t.b (List.mem_map.2 ⟨t, htm, rfl⟩)).x) hs
    have hx := h.len
    exact modify_scope fun x hx' => by have := hI.sc x hx'; omega
end Go.Proofs.YtjjggncbhenffaaGreatDoor
/- What a prefix stands for among pairs: stencilref04's Look. -/
namespace Go.Proofs.YtjjggncbhenffaaGreatDoor
open Go.RowKit Go.Maps
end Go.Proofs.YtjjggncbhenffaaGreatDoor
/- What Parse tells of any text. -/
namespace Go.Proofs.YtjjggncbhenffaaGreatDoor
open Go.RowKit Go.Maps
/-- An error and no tree, or a text's tree. -/
def ParseOut (w w' : World) (v : Value) (er : Nat) : Prop := ((er = 4 ∨ er = 5 ∨ er = 6 ∨ er = 7 ∨ er = 8) ∧ v = .pointer none) ∨ (er = 0 ∧ ∃ cs ns q, okL cs ∧ (T cs).size ≤ 32768 ∧ parseD cs = .ok ns ∧ v = .pointer (some ⟨q, 0, none⟩) ∧ TreeAt w' w.heap.size q ns)
set_option maxRecDepth 100000 in
set_option maxHeartbeats 2000000 in
theorem parse_err (s : ByteArray) (w : World) (er : Nat) (her : er = 4 ∨ er = 6) (hS : Calls Tryz.prog 46 #[.string s] w fun e w' => (∃ pl : Nat, e = .returned (.tuple #[.slice none 0 0, .int .i64 (er : Nat), .int .i64 (pl : Nat)])) ∧ Below w.heap.size w w') :
    Calls Tryz.prog 14 #[.string s] w fun e w' => e = .returned (.tuple #[.pointer none, .int .i64 (er : Nat)]) ∧ Below w.heap.size w w' := by
  have HS := hide hS
  clear hS
  rcases her with rfl | rfl
  all_goals
    go_enter Tryz.func14, Tryz.ntmps14
    go_wp2_with fail
    refine (unhide HS).mono ?_
    rintro e w1 ⟨⟨pl, rfl⟩, hb1⟩
    go_wp2
    go_returns
    exact ⟨rfl, hb1⟩
theorem parse_errs {cs : List Nat} (hl : okL cs) (hs : (T cs).size ≤ 32768) {n : Nat} (h : parseD cs = .error n) : n = 5 ∨ n = 6 ∨ n = 7 ∨ n = 8 := by
  unfold parseD at h
  cases hsc : scanX cs with
  | error x =>
    rw [hsc] at h
    cases h
    rcases (scan_er hl hs hsc).1 with h | h
    · exact .inl h
    · exact .inr (.inl h)
  | ok ts =>
    rw [hsc] at h
    have h' : treeD ts = .error n := h
    unfold treeD at h'
    split at h'
    · rename_i e he
      cases h'
      rcases adds_errs he with h | h
      · exact .inr (.inr (.inl h))
      · exact .inr (.inr (.inr h))
    · cases h'
theorem parse_out (s : ByteArray) (w : World) (hE : XEnv w.heap.size w) :
    Calls Tryz.prog 14 #[.string s] w fun e w' => ∃ (v : Value) (er : Nat), e = .returned (.tuple #[v, .int .i64 (er : Nat)]) ∧ Below w.heap.size w w' ∧ ParseOut w w' v er := by
  by_cases hz : 32768 < s.size
  · refine (parse_err s w 6 (.inr rfl) ((scan_long _ w hz).mono ?_)).mono ?_
    · rintro e w' ⟨rfl, rfl⟩
      exact ⟨⟨0, rfl⟩, Below.refl _ _⟩
    · rintro e w' ⟨rfl, hb⟩
      exact ⟨_, 6, rfl, hb, .inl ⟨.inr (.inr (.inl rfl)), rfl⟩⟩
  · by_cases ht : Txt s.data.toList
    · obtain ⟨l, hl, rfl⟩ := txt_T ht
      refine (parse_T l w hl (by omega) hE).mono ?_
      rintro e w' ⟨hp, hb⟩
      cases hs : parseD l with
      | error n =>
        rw [hs] at hp
        have hp' : e = .returned (.tuple #[.pointer none, .int .i64 (n : Nat)]) := hp
        exact ⟨_, n, hp', hb, .inl ⟨.inr (parse_errs hl (by omega) hs), rfl⟩⟩
      | ok ns =>
        rw [hs] at hp
        obtain ⟨q, he, hT⟩ := hp
        exact ⟨_, 0, he, hb, .inr ⟨rfl, l, ns, q, hl, by omega, hs, rfl, hT⟩⟩
    · refine (parse_err s w 4 (.inl rfl) ((scan_bad _ w (by omega) hE.env ht).mono ?_)).mono ?_
      · rintro e w' ⟨⟨at', _, rfl⟩, hb⟩
        exact ⟨⟨at', rfl⟩, hb⟩
      · rintro e w' ⟨rfl, hb⟩
        exact ⟨_, 4, rfl, hb, .inl ⟨.inl rfl, rfl⟩⟩
end Go.Proofs.YtjjggncbhenffaaGreatDoor
/- What a tree's scopes tell of names. -/
namespace Go.Proofs.YtjjggncbhenffaaGreatDoor
open Go.RowKit Go.Maps
end Go.Proofs.YtjjggncbhenffaaGreatDoor
/- An element without content, read; a prefix that is declared and used: plain. -/
namespace Go.Proofs.YtjjggncbhenffaaGreatDoor
theorem attrs_backE (tag : Nat) (R : List Nat) (e : List (List Nat × List Nat)) (sp : Nat) (o : List (List Nat)) (t : List XTok) (ru : List Nat) (n : Nat) : ∀ (a acc : List (List Nat × List Nat)) (f : Nat) (P : List Nat), (∀ x ∈ a, isQ x.1 = true) → ((acc ++ a).map (·.1)).Nodup → a.length < f →
    ∃ P', RS.attrsGo tag f ⟨P, a.flatMap attrL ++ 47 :: 62 :: R, e, sp, o, t, ru, n⟩ acc = .ok (acc ++ a, ⟨P', 47 :: 62 :: R, e, sp, o, t, ru, n⟩)
  | [], acc, f, P, _, _, hf => by
    obtain ⟨g, rfl⟩ : ∃ g, f = g + 1 := ⟨f - 1, by simp at hf; omega⟩
    refine ⟨P, ?_⟩
    have hb := blanks_no P (47 :: 62 :: R) e sp o t ru n (fun c h => by cases h; rfl)
    show RS.attrsGo tag (g + 1) ⟨P, 47 :: 62 :: R, e, sp, o, t, ru, n⟩ acc = _
    rw [attrsGo_eq, hb.1, hb.2, Bool.not_false, Bool.true_or, if_pos rfl, List.append_nil]
  | (k, v) :: a, acc, f, P, hq, hd, hf => by
    obtain ⟨g, rfl⟩ : ∃ g, f = g + 1 := ⟨f - 1, by simp at hf; omega⟩
    have hk : isQ k = true := hq (k, v) (List.mem_cons_self ..)
    obtain ⟨c, u, hcu, hbeg⟩ := isQ_beg hk
    obtain ⟨hc1, hc2, hc3, _⟩ := beg_not hbeg
    generalize hY : a.flatMap attrL ++ 47 :: 62 :: R = Y
    have hrest : ((k, v) :: a).flatMap attrL ++ 47 :: 62 :: R = [32] ++ (k ++ ([61] ++ ([34] ++ (mapN quoN v ++ 34 :: Y)))) := by
      rw [← hY]
      simp [attrL]
    have hkh : ∀ x, (k ++ ([61] ++ ([34] ++ (mapN quoN v ++ 34 :: Y)))).head? = some x → x = c := fun x hx => by
      rw [hcu] at hx
      cases hx
      rfl
    have b1 := blanks_at P [32] (k ++ ([61] ++ ([34] ++ (mapN quoN v ++ 34 :: Y)))) e sp o t ru n (fun x hx => by simp at hx; subst hx; rfl) (fun x hx => by rw [hkh x hx]; exact hc1)
    have q1 : qnameA (k ++ ([61] ++ ([34] ++ (mapN quoN v ++ 34 :: Y)))) = k := isQ_run hk (fun x hx => by cases hx; exact ⟨by decide, by decide⟩)
    have hh : ∀ x, x ≠ c → heads x (k ++ ([61] ++ ([34] ++ (mapN quoN v ++ 34 :: Y)))) = false := fun x hx => by
      rw [hcu, List.cons_append, heads_cons]
      simpa using Ne.symm hx
    have hne : k ≠ [] := by rw [hcu]; simp
    have hno : (acc.map (·.1)).contains k = false := by
      rw [List.map_append, List.nodup_append] at hd
      cases hh : (acc.map (·.1)).contains k with
      | false => rfl
      | true =>
        have h1 : k ∈ acc.map (·.1) := by simpa using hh
        exact absurd rfl (hd.2.2 k h1 k (by simp))
    have e1 : (⟨P ++ [32], k ++ ([61] ++ ([34] ++ (mapN quoN v ++ 34 :: Y))), e, sp, o, t, ru, n⟩ : RS).qname = ⟨P ++ [32] ++ k, [61] ++ ([34] ++ (mapN quoN v ++ 34 :: Y)), e, sp, o, t, ru, n⟩ := by
      unfold RS.qname
      simp only
      rw [q1]
      exact adv_app _ k _ e sp o t ru n
    have e2 : (⟨P ++ [32] ++ k, [61] ++ ([34] ++ (mapN quoN v ++ 34 :: Y)), e, sp, o, t, ru, n⟩ : RS).equals = some ⟨P ++ [32] ++ k ++ [61], [34] ++ (mapN quoN v ++ 34 :: Y), e, sp, o, t, ru, n⟩ := by
      unfold RS.equals
      rw [(blanks_no (P ++ [32] ++ k) ([61] ++ ([34] ++ (mapN quoN v ++ 34 :: Y))) e sp o t ru n (fun x hx => by cases hx; rfl)).1]
      rw [if_pos (show heads 61 ([61] ++ ([34] ++ (mapN quoN v ++ 34 :: Y))) = true from rfl)]
      have := adv_app (P ++ [32] ++ k) [61] ([34] ++ (mapN quoN v ++ 34 :: Y)) e sp o t ru n
      rw [show [61].length = 1 from rfl] at this
      rw [this, (blanks_no _ ([34] ++ (mapN quoN v ++ 34 :: Y)) e sp o t ru n (fun x hx => by cases hx; rfl)).1]
    obtain ⟨P2, e3⟩ : ∃ P2, (⟨P ++ [32] ++ k ++ [61], [34] ++ (mapN quoN v ++ 34 :: Y), e, sp, o, t, ru, n⟩ : RS).value tag = .ok (v, ⟨P2, Y, e, sp, o, t, ru, n⟩) := by
      have hq : (⟨P ++ [32] ++ k ++ [61], [34] ++ (mapN quoN v ++ 34 :: Y), e, sp, o, t, ru, n⟩ : RS).quote = some (34, ⟨P ++ [32] ++ k ++ [61] ++ [34], mapN quoN v ++ 34 :: Y, e, sp, o, t, ru, n⟩) := by
        unfold RS.quote
        rw [if_pos (show heads 34 ([34] ++ (mapN quoN v ++ 34 :: Y)) = true from rfl)]
        exact congrArg (fun x => some (34, x)) (adv_app _ [34] _ e sp o t ru n)
      unfold RS.value
      rw [hq]
      obtain ⟨P2, h2⟩ := value_quoted tag Y e sp o t ru n v.length v rfl ((mapN quoN v ++ 34 :: Y).length + 1) (P ++ [32] ++ k ++ [61] ++ [34]) [] (by simp; omega)
      exact ⟨P2, by rw [List.nil_append] at h2; exact h2⟩
    obtain ⟨P', ih⟩ := attrs_backE tag R e sp o t ru n a (acc ++ [(k, v)]) g P2 (fun x hx => hq x (List.mem_cons_of_mem _ hx)) (by rw [List.append_assoc]; exact hd) (by simp at hf; omega)
    rw [hY] at ih
    refine ⟨P', ?_⟩
    rw [hrest, attrsGo_eq, b1.1, b1.2, hh 47 (Ne.symm hc2), hh 62 (Ne.symm hc3), q1, e1, if_neg (by decide), if_neg (by rw [hno]; simp [hne]), e2]
    simp only
    rw [e3]
    simp only
    rw [ih, List.append_assoc]
    rfl
theorem attrs_headE (a : List (List Nat × List Nat)) (R : List Nat) : ∀ c, (a.flatMap attrL ++ 47 :: 62 :: R).head? = some c → goC c = false ∧ c ≠ 58 := by
  intro c hc
  cases a with
  | nil => cases hc; exact ⟨by decide, by decide⟩
  | cons x a => cases hc; exact ⟨by decide, by decide⟩
theorem start_backE (P R : List Nat) (e : List (List Nat × List Nat)) (sp : Nat) (o : List (List Nat)) (toks : List XTok) (ru : List Nat) (n : Nat) (k : List Nat) (a : List (List Nat × List Nat)) (hk : isQ k = true) (ha : ∀ x ∈ a, isQ x.1 = true) (hd : (a.map (·.1)).Nodup) (ho : o.length < 32) (hl : a.length ≤ 64) (ht : (flushT toks ru).length + 1 < 4096) :
    ∃ P' n', (⟨P, 60 :: (k ++ (a.flatMap attrL ++ [47, 62])) ++ R, e, sp, o, toks, ru, n⟩ : RS).startTag = .ok ⟨P', R, e, sp, o, flushT toks ru ++ [⟨2, k, a, []⟩] ++ [⟨7, k, [], []⟩], [], n'⟩ := by
  have hr : 60 :: (k ++ (a.flatMap attrL ++ [47, 62])) ++ R = [60] ++ (k ++ (a.flatMap attrL ++ 47 :: 62 :: R)) := by simp
  rw [hr]
  generalize hZ : a.flatMap attrL ++ 47 :: 62 :: R = Z
  have hzh : ∀ c, Z.head? = some c → goC c = false ∧ c ≠ 58 := by rw [← hZ]; exact attrs_headE a R
  have e1 : (⟨P, [60] ++ (k ++ Z), e, sp, o, toks, ru, n⟩ : RS).take [60] = ⟨P ++ [60], k ++ Z, e, sp, o, toks, ru, n⟩ := by
    unfold RS.take
    rw [if_pos (by simp [List.isPrefixOf])]
    exact adv_app P [60] (k ++ Z) e sp o toks ru n
  have e2 : qnameA (k ++ Z) = k := isQ_run hk hzh
  have e3 : (⟨P ++ [60], k ++ Z, e, sp, o, toks, ru, n⟩ : RS).qname = ⟨P ++ [60] ++ k, Z, e, sp, o, toks, ru, n⟩ := by
    unfold RS.qname
    simp only
    rw [e2]
    exact adv_app _ k Z e sp o toks ru n
  have hne : k ≠ [] := by obtain ⟨c, u, h, _⟩ := isQ_beg hk; rw [h]; simp
  obtain ⟨P3, e4⟩ : ∃ P3, (⟨P ++ [60] ++ k, Z, e, sp, o, toks, ru, n⟩ : RS).attributes (⟨P, [60] ++ (k ++ Z), e, sp, o, toks, ru, n⟩ : RS).place = .ok (a, ⟨P3, 47 :: 62 :: R, e, sp, o, toks, ru, n⟩) := by
    unfold RS.attributes
    have hlen : a.length < Z.length + 1 := by
      have := attrs_len a
      rw [← hZ, List.length_append]
      omega
    obtain ⟨P3, h⟩ := attrs_backE (⟨P, [60] ++ (k ++ Z), e, sp, o, toks, ru, n⟩ : RS).place R e sp o toks ru n a [] (Z.length + 1) (P ++ [60] ++ k) ha (by simpa using hd) hlen
    rw [hZ, List.nil_append] at h
    exact ⟨P3, h⟩
  have e5 : (⟨P3, 47 :: 62 :: R, e, sp, o, toks, ru, n⟩ : RS).take [47] = ⟨P3 ++ [47], 62 :: R, e, sp, o, toks, ru, n⟩ := by
    unfold RS.take
    rw [if_pos (by simp [List.isPrefixOf])]
    exact adv_app P3 [47] (62 :: R) e sp o toks ru n
  have e6 : (⟨P3 ++ [47], 62 :: R, e, sp, o, toks, ru, n⟩ : RS).adv 1 = ⟨P3 ++ [47] ++ [62], R, e, sp, o, toks, ru, n⟩ := rfl
  refine ⟨P3 ++ [47] ++ [62], (tx (P3 ++ [47] ++ [62])).length, ?_⟩
  unfold RS.startTag
  simp only
  rw [e1]
  simp only
  rw [e2, if_neg hne, e3, e4]
  simp only
  rw [e5, e6]
  simp only
  rw [if_neg (show ¬ (!heads 62 (62 :: R)) = true from fun h => by cases h), if_neg (by omega), tell_ok _ _ _ _ _ _ _ _ _ _ (by omega)]
  simp only
  rw [if_pos (show heads 47 (47 :: 62 :: R) = true from rfl), tell_ok _ _ _ _ _ _ _ _ _ _ (by rw [flushT_nil, List.length_append]; exact ht)]
  rw [flushT_nil]
theorem scan_empty (k : List Nat) (a : List (List Nat × List Nat)) (hk : isQ k = true) (ha : ∀ x ∈ a, isQ x.1 = true) (hd : (a.map (·.1)).Nodup) (hl : a.length ≤ 64) : scanX (60 :: (k ++ (a.flatMap attrL ++ [47, 62]))) = .ok [⟨2, k, a, []⟩, ⟨7, k, [], []⟩] := by
  obtain ⟨P1, n1, h1⟩ := start_backE [] [] [] 0 [] [] [] 0 k a hk ha hd (by decide) hl (by decide)
  obtain ⟨c, u, hcu, hbeg⟩ := isQ_beg hk
  obtain ⟨_, hc1, _, hc2, hc3⟩ := beg_not hbeg
  rw [List.append_nil] at h1
  have hx : ([60, 63].isPrefixOf (60 :: (k ++ (a.flatMap attrL ++ [47, 62]))) && nameA ((60 :: (k ++ (a.flatMap attrL ++ [47, 62]))).drop 2) == [120, 109, 108]) = false := by
    have : [60, 63].isPrefixOf (60 :: (k ++ (a.flatMap attrL ++ [47, 62]))) = false := by
      rw [hcu]
      simp [List.isPrefixOf, Ne.symm hc3]
    rw [this]
    rfl
  have hb := (blanks_no [] (60 :: (k ++ (a.flatMap attrL ++ [47, 62]))) [] 0 [] [] [] 0 (fun c hc => by cases hc; rfl)).1
  have hsee : ∀ z x, z ≠ c → (⟨[], 60 :: (k ++ (a.flatMap attrL ++ [47, 62])), [], 0, [], [], [], 0⟩ : RS).sees (60 :: z :: x) = false := fun z x hz => by
    unfold RS.sees
    simp only
    rw [hcu]
    simp [List.isPrefixOf, hz]
  have s4 : (⟨[], 60 :: (k ++ (a.flatMap attrL ++ [47, 62])), [], 0, [], [], [], 0⟩ : RS).sees [60] = true := by simp [RS.sees, List.isPrefixOf]
  have hdoc : RS.docGo ((60 :: (k ++ (a.flatMap attrL ++ [47, 62]))).length + 1) false false ⟨[], 60 :: (k ++ (a.flatMap attrL ++ [47, 62])), [], 0, [], [], [], 0⟩ = .ok ⟨P1, [], [], 0, [], [⟨2, k, a, []⟩, ⟨7, k, [], []⟩], [], n1⟩ := by
    rw [docGo_eq, hb, hsee 33 _ (Ne.symm hc2), hsee 63 _ (Ne.symm hc3), hsee 33 _ (Ne.symm hc2), s4, if_neg (by decide), if_neg (by decide), if_neg (by decide), if_pos (by decide)]
    unfold docElem
    rw [h1]
    simp only
    rw [content_nil _ _ rfl]
    simp only [docMore]
    rw [List.length_cons, docGo_eq, (blanks_no P1 [] [] 0 [] _ [] n1 (fun c hc => by cases hc)).1]
    rfl
  unfold scanX RS.document
  rw [show (RS.start (60 :: (k ++ (a.flatMap attrL ++ [47, 62])))).rest = 60 :: (k ++ (a.flatMap attrL ++ [47, 62])) from rfl, hx, if_neg (by decide)]
  rw [show RS.docGo ((60 :: (k ++ (a.flatMap attrL ++ [47, 62]))).length + 1) false false (RS.start (60 :: (k ++ (a.flatMap attrL ++ [47, 62])))) = _ from hdoc]
theorem nmP_go {n : List Nat} (h : isNm n = true) : ∀ c ∈ n, goC c = true := by
  obtain ⟨_, e⟩ := isNm_name h
  intro c hc
  rw [← e] at hc
  exact nameA_all n c hc
theorem nmP_colon {cs : List Nat} (h : isNm cs = true) : 58 ∉ cs := fun hm => by
  have := nmP_go h 58 hm
  exact absurd this (by decide)
theorem isQ_two {p q : List Nat} (hp : isNm p = true) (hq : isNm q = true) : isQ (p ++ 58 :: q) = true := by
  have h1 : (p ++ 58 :: q).takeWhile (· != 58) = p := by
    rw [List.takeWhile_append_of_pos (fun c hc => by have := nmP_colon hp; simp; exact fun e => this (e ▸ hc))]
    simp
  have h2 : (p ++ 58 :: q).dropWhile (· != 58) = 58 :: q := by
    rw [List.dropWhile_append_of_pos (fun c hc => by have := nmP_colon hp; simp; exact fun e => this (e ▸ hc))]
    simp
  have h3 : (p ++ 58 :: q).contains 58 = true := by simp
  unfold isQ
  rw [if_pos h3, h1, h2, List.tail_cons, hp, hq]
  rfl
theorem splitQ_two {p q : List Nat} (hp : isNm p = true) : splitQ (p ++ 58 :: q) = (p, q) := by
  have h1 : (p ++ 58 :: q).takeWhile (· != 58) = p := by
    rw [List.takeWhile_append_of_pos (fun c hc => by have := nmP_colon hp; simp; exact fun e => this (e ▸ hc))]
    simp
  have h2 : (p ++ 58 :: q).dropWhile (· != 58) = 58 :: q := by
    rw [List.dropWhile_append_of_pos (fun c hc => by have := nmP_colon hp; simp; exact fun e => this (e ▸ hc))]
    simp
  have h3 : (p ++ 58 :: q).contains 58 = true := by simp
  unfold splitQ
  rw [if_pos h3, h1, h2, List.tail_cons]
theorem isNm_two {p q : List Nat} : isNm (p ++ 58 :: q) = false := by
  cases h : isNm (p ++ 58 :: q) with
  | false => rfl
  | true => exact absurd (by simp) (nmP_colon h)
theorem isNm_xmlns : isNm xmlnsL = true := by decide
theorem isNm_a : isNm [97] = true := by decide
theorem isNm_b : isNm [98] = true := by decide
/-- The document that declares a prefix and uses it twice. -/
def prA (p u : List Nat) : List (List Nat × List Nat) := [(xmlnsL ++ 58 :: p, u), (p ++ 58 :: [98], [])]
def prDoc (p u : List Nat) : List Nat := 60 :: ((p ++ 58 :: [97]) ++ ((prA p u).flatMap attrL ++ [47, 62]))
theorem pr_scan {p u : List Nat} (hp : isNm p = true) (hn : p ≠ xmlnsL) : scanX (prDoc p u) = .ok [⟨2, p ++ 58 :: [97], prA p u, []⟩, ⟨7, p ++ 58 :: [97], [], []⟩] := by
  refine scan_empty _ _ (isQ_two hp isNm_a) (fun x hx => ?_) ?_ (show (2 : Nat) ≤ 64 by decide)
  · unfold prA at hx
    rcases List.mem_cons.1 hx with rfl | hx
    · exact isQ_two isNm_xmlns hp
    · rcases List.mem_cons.1 hx with rfl | hx
      · exact isQ_two hp isNm_b
      · cases hx
  · show [xmlnsL ++ 58 :: p, p ++ 58 :: [98]].Nodup
    refine List.nodup_cons.2 ⟨fun h => ?_, List.nodup_cons.2 ⟨(fun h => by cases h), List.nodup_nil⟩⟩
    have e := List.mem_singleton.1 h
    have h1 := splitQ_two (q := p) isNm_xmlns
    have h2 := splitQ_two (q := [98]) hp
    rw [e, h2] at h1
    exact hn (congrArg Prod.fst h1)
theorem decl_xmlns (p : List Nat) : declD (xmlnsL ++ 58 :: p) = some p := by
  unfold declD
  rw [if_neg (fun h => by have := congrArg List.length h; simp at this), if_pos (by simp [xmlnsL, List.isPrefixOf])]
  rfl
theorem decl_other {p q : List Nat} (hp : isNm p = true) (hn : p ≠ xmlnsL) : declD (p ++ 58 :: q) = none := by
  unfold declD
  have h1 : ¬ p ++ 58 :: q = xmlnsL := fun h => by
    have : 58 ∈ xmlnsL := by rw [← h]; simp
    exact absurd this (by decide)
  have h2 : ¬ (xmlnsL ++ [58]).isPrefixOf (p ++ 58 :: q) = true := fun h => by
    obtain ⟨t, ht⟩ := List.isPrefixOf_iff_prefix.1 h
    have h1 := splitQ_two (q := q) hp
    have h2 := splitQ_two (q := t) isNm_xmlns
    rw [← ht, show xmlnsL ++ [58] ++ t = xmlnsL ++ 58 :: t by simp, h2] at h1
    exact hn (congrArg Prod.fst h1).symm
  rw [if_neg h1, if_neg h2]
theorem pr_with {p u : List Nat} (hp : isNm p = true) (hn : p ≠ xmlnsL) (hx : p ≠ xmlL) (hu : u ≠ []) (hu2 : u ≠ xmlUriL) : withD [] (prA p u) = some [(p, u)] := by
  have hm : mayD p u = true := by
    unfold mayD
    rw [if_neg hn, if_neg hx, if_neg (fun h => by rw [h] at hp; cases hp)]
    simp [hu, hu2]
  have hd : declareD [] p u = [(p, u)] := by
    unfold declareD
    rw [if_neg hx, if_neg hu]
    rfl
  unfold prA
  rw [withD, decl_xmlns]
  simp only
  rw [if_pos hm, hd, withD, decl_other hp hn]
  rfl
theorem pr_expand {p u q : List Nat} (hp : isNm p = true) (hx : p ≠ xmlL) : expandD [(p, u)] (p ++ 58 :: q) = some ⟨u, p, q⟩ := by
  unfold expandD
  rw [splitQ_two hp]
  simp only
  rw [if_neg hx]
  have : lookS [(p, u)] p = some u := by simp [lookS]
  rw [this]
theorem pr_attrs {p u : List Nat} (hp : isNm p = true) (hn : p ≠ xmlnsL) (hx : p ≠ xmlL) : attributesD [(p, u)] (prA p u) = .ok [attrN ⟨u, p, [98]⟩ []] := by
  have h1 : attrsN [(p, u)] (prA p u) = some [attrN ⟨u, p, [98]⟩ []] := by
    unfold prA
    rw [attrsN, decl_xmlns]
    simp only
    rw [attrsN, decl_other hp hn]
    simp only
    have : expandA [(p, u)] (p ++ 58 :: [98]) = some ⟨u, p, [98]⟩ := by
      unfold expandA
      rw [isNm_two, if_neg (by decide), pr_expand hp hx]
    rw [this]
    rfl
  unfold attributesD
  rw [h1]
  simp only
  rw [if_pos (by simp)]
theorem pr_parse {p u : List Nat} (hp : isNm p = true) (hn : p ≠ xmlnsL) (hx : p ≠ xmlL) (hu : u ≠ []) (hu2 : u ≠ xmlUriL) :
    ∃ ns x y, parseD (prDoc p u) = .ok ns ∧ ns.length = 3 ∧ ns[1]? = some x ∧ ns[2]? = some y ∧ x.name = ⟨u, p, [97]⟩ ∧ y.name.uri = u := by
  have hadds : ∃ b, BS.start.adds [⟨2, p ++ 58 :: [97], prA p u, []⟩, ⟨7, p ++ 58 :: [97], [], []⟩] = .ok b ∧ b.finish.nodes.length = 3 ∧ (∃ x, b.finish.nodes[1]? = some x ∧ x.name = ⟨u, p, [97]⟩) ∧ ∃ y, b.finish.nodes[2]? = some y ∧ y.name.uri = u := by
    have he : BS.start.add ⟨2, p ++ 58 :: [97], prA p u, []⟩ = .ok ([attrN ⟨u, p, [98]⟩ []].foldl BS.leaf (BS.start.begin (BS.start.placed ⟨2, ⟨u, p, [97]⟩, [], 0, 0, 0, [(p, u)]⟩))) := by
      unfold BS.add
      rw [if_pos rfl]
      unfold BS.element BS.elementAt
      rw [show BS.start.scope = [] from rfl]
      simp only
      rw [pr_with hp hn hx hu hu2]
      simp only
      rw [pr_expand hp hx]
      simp only
      rw [pr_attrs hp hn hx]
    refine ⟨_, by rw [BS.adds, he]; rfl, rfl, ⟨_, rfl, rfl⟩, ⟨_, rfl, rfl⟩⟩
  obtain ⟨b, h1, h2, ⟨x, h3, h4⟩, y, h5, h6⟩ := hadds
  refine ⟨b.finish.nodes, x, y, ?_, h2, h3, h5, h4, h6⟩
  unfold parseD
  rw [pr_scan hp hn]
  simp only
  unfold treeD
  rw [h1]
end Go.Proofs.YtjjggncbhenffaaGreatDoor
