/- Several texts, laid as one. -/
import Derived.Shelf.SlIterI.Nil
import Derived.Shelf.SlIter.Nil
import Derived.Shelf.SortM.Plain
import Derived.Shelf.SortM.SortNone
import Derived.Test.YtjjggncbhenffaaGreatDoorProg
import Derived.Test.YtjjggncbhenffaaGreatDoorGbs
import Derived.Test.YtjjggncbhenffaaGreatDoorGbr
/-
  DERIVED: THE SHELF's CONTRACTS AT THIS DUMP, IN PLAIN WORDS (tools/lay-plain.mjs out of 'YtjjggncbhenffaaGreatDoorXdmShTry.lean', which tools/lay-shelf.mjs wrote): THE SAME DECLARATIONS UNDER THE SAME NAMES: 'import', 'namespace', 'open', 'def', 'theorem' AND NOTHING ELSE: no command of the shelf's: FOR A HAND-IN. Each laying: the table of numbers ('.._ren') and one theorem, a field a fact of the dump's own or the kernel's comparison; each contract: ONE APPLICATION.
-/
namespace Go.Proofs
open Go.Shelf
end Go.Proofs
/- A tree that is none: xdm's Kids and Attrs. -/
namespace Go.Proofs.YtjjggncbhenffaaGreatDoor
open Go.RowKit Go.Maps Go.Sort Go.Shelf
theorem grown_of_below {w w' : World} (h : Below w.heap.size w w') : w.grownBy w' none := ⟨h.os, h.tape, h.output, h.size, fun k hk _ => h.block k hk⟩
set_option maxRecDepth 100000 in
set_option maxHeartbeats 2000000 in
theorem kids_seq (v : Value) (n : Int) (w : World) (hv : ∃ p, v = .pointer p) :
    Calls Tryz.prog 54 #[v, .int .i64 n] w fun e w' => ∃ Bt Bn, e = .returned (.func (.func 91) #[] #[.pointer (some ⟨Bt, 0, none⟩), .pointer (some ⟨Bn, 0, none⟩)]) ∧ w'.cell? ⟨Bt, 0, none⟩ = some v ∧ w'.cell? ⟨Bn, 0, none⟩ = some (.int .i64 n) ∧ Bt < w'.heap.size ∧ Bn < w'.heap.size ∧ Below w.heap.size w w' := by
  obtain ⟨p, rfl⟩ := hv
  go_enter Tryz.func54, Tryz.ntmps54
  go_wp2
  go_returns
  refine ⟨_, _, rfl, ?_, ?_, ?_, ?_, ?_⟩
  · simp
  · simp
  · simp; omega
  · simp
  · exact ((Below.refl _ _).alloc (Nat.le_refl _) _).alloc (by simp) _
end Go.Proofs.YtjjggncbhenffaaGreatDoor
/- Trees that are built: every name's Uri is what its scope tells of its prefix, in plain terms. -/
namespace Go.Proofs.YtjjggncbhenffaaGreatDoor
def lookR (s : Sc) (p : List Nat) : Option (List Nat) := if p = xmlL then some xmlUriL else match lookS s p with
  | some u => some u
  | none => if p = [] then some [] else none
def AttrOk (ns : List XNode) (x : XNode) : Prop := (x.name.pre = [] ∧ x.name.uri = []) ∨ (x.name.pre ≠ [] ∧ ∃ k : Nat, x.parent = (k : Int) ∧ ∃ y, ns[k]? = some y ∧ lookR y.scope x.name.pre = some x.name.uri)
structure InvS (L : List XNode) : Prop where
  el : ∀ x ∈ L, x.kind = 2 → lookR x.scope x.name.pre = some x.name.uri
  oth : ∀ x ∈ L, x.kind ≠ 2 → x.scope = []
  atr : ∀ x ∈ L, x.kind = 3 → AttrOk L x
theorem AttrOk.more {L : List XNode} {x : XNode} (h : AttrOk L x) (M : List XNode) : AttrOk (L ++ M) x := by
  rcases h with h | ⟨h0, k, hk, y, hy, hl⟩
  · exact .inl h
  · refine .inr ⟨h0, k, hk, y, ?_, hl⟩
    rw [List.getElem?_append_left (List.getElem?_eq_some_iff.1 hy).1]
    exact hy
theorem InvS.snoc {L : List XNode} (h : InvS L) {x : XNode} (h1 : x.kind = 2 → lookR x.scope x.name.pre = some x.name.uri) (h2 : x.kind ≠ 2 → x.scope = []) (h3 : x.kind = 3 → AttrOk L x) : InvS (L ++ [x]) := by
  refine ⟨fun y hy => ?_, fun y hy => ?_, fun y hy => ?_⟩
  · rcases List.mem_append.1 hy with hy | hy
    · exact h.el y hy
    · rw [List.mem_singleton.1 hy]; exact h1
  · rcases List.mem_append.1 hy with hy | hy
    · exact h.oth y hy
    · rw [List.mem_singleton.1 hy]; exact h2
  · rcases List.mem_append.1 hy with hy | hy
    · exact fun hk => (h.atr y hy hk).more _
    · rw [List.mem_singleton.1 hy]; exact fun hk => (h3 hk).more _
def strip0 (x : XNode) : XNode := { x with fin := 0 }
theorem modify_strip (L : List XNode) (i n : Nat) : (L.modify i fun x => { x with fin := n }).map strip0 = L.map strip0 := by
  apply List.ext_getElem?
  intro j
  rw [List.getElem?_map, List.getElem?_modify, List.getElem?_map]
  cases L[j]? with
  | none => rfl
  | some x =>
    show some (strip0 (if i = j then { x with fin := n } else x)) = some (strip0 x)
    split <;> rfl
theorem leaf_strip (s : BS) (x : XNode) : (s.leaf x).nodes.map strip0 = s.nodes.map strip0 ++ [strip0 (s.placed x)] := by
  show ((s.nodes ++ [s.placed x]).modify _ _).map strip0 = _
  rw [modify_strip, List.map_append]
  rfl
theorem leaf_inner (s : BS) (x : XNode) : (s.leaf x).inner = s.inner := by
  unfold BS.inner
  rw [show (s.leaf x).opn = s.opn from by show (s.opn ++ [_]).dropLast = s.opn; rw [List.dropLast_concat]]
theorem expandD_R {s : Sc} {q : List Nat} {n : Nm} (h : expandD s q = some n) : lookR s n.pre = some n.uri := by
  unfold expandD at h
  unfold lookR
  split at h
  · rename_i hx
    cases h
    rw [if_pos hx]
  · rename_i hx
    split at h
    · rename_i u hu
      cases h
      show (if (splitQ q).1 = xmlL then _ else _) = some u
      rw [if_neg hx, hu]
    · rename_i hu
      split at h
      · rename_i h0
        cases h
        rw [h0] at hu
        show (if ([] : List Nat) = xmlL then _ else _) = _
        rw [if_neg (by decide)]
        show (match lookS s [] with | some u => some u | none => _) = some []
        rw [hu]
        rfl
      · cases h
theorem leafs_S : ∀ (l : List XNode) (s : BS) (y : XNode), InvS (s.nodes.map strip0) → (s.nodes.map strip0)[s.inner]? = some y → (∀ x ∈ l, x.kind = 3 ∧ x.scope = [] ∧ ((x.name.pre = [] ∧ x.name.uri = []) ∨ (x.name.pre ≠ [] ∧ lookR y.scope x.name.pre = some x.name.uri))) → InvS ((l.foldl BS.leaf s).nodes.map strip0)
  | [], s, y, h, _, _ => h
  | x :: l, s, y, h, hy, hl => by
    obtain ⟨h3, h0, hn⟩ := hl x (List.mem_cons_self ..)
    refine leafs_S l (s.leaf x) y ?_ ?_ (fun z hz => hl z (List.mem_cons_of_mem _ hz))
    · rw [leaf_strip]
      refine h.snoc (fun e => ?_) (fun _ => h0) (fun _ => ?_)
      · have : x.kind = 2 := e
        rw [h3] at this
        cases this
      · rcases hn with hn | ⟨hn, hr⟩
        · exact .inl hn
        · exact .inr ⟨hn, s.inner, rfl, y, hy, hr⟩
    · rw [leaf_strip, leaf_inner, List.getElem?_append_left (List.getElem?_eq_some_iff.1 hy).1]
      exact hy
theorem splitQ_ne {q : List Nat} (hq : isQ q = true) (hn : isNm q = false) : (splitQ q).1 ≠ [] := by
  unfold isQ at hq
  unfold splitQ
  split at hq
  · rename_i hc
    rw [if_pos hc]
    intro h0
    have h0' : q.takeWhile (· != 58) = [] := h0
    rw [h0', isNm_nil] at hq
    cases hq
  · rw [hn] at hq
    cases hq
theorem expandD_pre {s : Sc} {q : List Nat} {n : Nm} (h : expandD s q = some n) (h0 : (splitQ q).1 ≠ []) : n.pre ≠ [] := by
  unfold expandD at h
  split at h
  · cases h; exact h0
  · split at h
    · cases h; exact h0
    · cases h
theorem attrsN_S {s : Sc} : ∀ {l : List (List Nat × List Nat)} {r : List XNode}, (∀ x ∈ l, isQ x.1 = true) → attrsN s l = some r → ∀ x ∈ r, x.kind = 3 ∧ x.scope = [] ∧ ((x.name.pre = [] ∧ x.name.uri = []) ∨ (x.name.pre ≠ [] ∧ lookR s x.name.pre = some x.name.uri))
  | [], r, _, h, x, hx => by cases h; cases hx
  | y :: l, r, hl, h, x, hx => by
    have hl' : ∀ z ∈ l, isQ z.1 = true := fun z hz => hl z (List.mem_cons_of_mem _ hz)
    rw [attrsN] at h
    split at h
    · exact attrsN_S hl' h x hx
    · split at h
      · cases h
      · rename_i n hn
        obtain ⟨q, hq, rfl⟩ := Option.map_eq_some_iff.1 h
        rcases List.mem_cons.1 hx with rfl | hx
        · refine ⟨rfl, rfl, ?_⟩
          unfold expandA at hn
          split at hn
          · cases hn; exact .inl ⟨rfl, rfl⟩
          · rename_i hN
            have hN' : isNm y.1 = false := by simpa using hN
            exact .inr ⟨expandD_pre hn (splitQ_ne (hl y (List.mem_cons_self ..)) hN'), expandD_R hn⟩
        · exact attrsN_S hl' hq x hx
theorem InvS.add {s s' : BS} {t : XTok} (h : InvS (s.nodes.map strip0)) (hq : t.kind = 2 → ∀ x ∈ t.attrs, isQ x.1 = true) (hk : t.kind ≠ 3) (ha : s.add t = .ok s') : InvS (s'.nodes.map strip0) := by
  unfold BS.add at ha
  split at ha
  · rename_i h2
    have hq := hq h2
    unfold BS.element BS.elementAt at ha
    split at ha
    · cases ha
    · rename_i inner hin
      split at ha
      · cases ha
      · rename_i n hn
        split at ha
        · cases ha
        · rename_i as' hat
          cases ha
          have hat' : attrsN inner t.attrs = some as' := by
            unfold attributesD at hat
            split at hat
            · cases hat
            · rename_i q hq
              split at hat
              · cases hat; exact hq
              · cases hat
          refine leafs_S as' _ (strip0 (s.placed ⟨2, n, [], 0, 0, 0, inner⟩)) ?_ ?_ (attrsN_S hq hat')
          · show InvS ((s.nodes ++ [_]).map strip0)
            rw [List.map_append]
            exact h.snoc (fun _ => expandD_R hn) (fun h2 => absurd rfl h2) (fun h3 => by cases h3)
          · rw [begin_inner]
            show ((s.nodes ++ [_]).map strip0)[_]? = _
            rw [List.map_append, List.getElem?_append_right (by rw [List.length_map]; exact Nat.le_refl _), List.length_map, Nat.sub_self]
            rfl
  · rename_i h2
    split at ha
    · cases ha
      show InvS ((s.nodes.modify _ _).map strip0)
      rw [modify_strip]
      exact h
    · split at ha
      · cases ha
        rw [leaf_strip]
        exact h.snoc (fun e => by cases e) (fun _ => rfl) (fun e => by cases e)
      · cases ha
        rw [leaf_strip]
        exact h.snoc (fun e => absurd e h2) (fun _ => rfl) (fun e => absurd e hk)
theorem InvS.start : InvS (BS.start.nodes.map strip0) := by
  refine ⟨fun x hx => ?_, fun x hx => ?_, fun x hx => ?_⟩
  · rw [List.mem_singleton.1 hx]; exact fun e => by cases e
  · rw [List.mem_singleton.1 hx]; exact fun _ => rfl
  · rw [List.mem_singleton.1 hx]; exact fun e => by cases e
end Go.Proofs.YtjjggncbhenffaaGreatDoor
/- Trees that are built: parents stand ahead, in plain terms. -/
namespace Go.Proofs.YtjjggncbhenffaaGreatDoor
/-- The first node has no parent; every other has one that stands ahead of it. -/
def InvP (L : List XNode) : Prop := ∀ (i : Nat) (x : XNode), L[i]? = some x → (i = 0 ∧ x.parent = -1) ∨ ∃ p : Nat, x.parent = (p : Int) ∧ p < i
theorem InvP.snoc {L : List XNode} (h : InvP L) {x : XNode} {p : Nat} (hx : x.parent = (p : Int)) (hp : p < L.length) : InvP (L ++ [x]) := by
  intro i y hy
  by_cases hi : i < L.length
  · rw [List.getElem?_append_left hi] at hy
    exact h i y hy
  · have h1 := (List.getElem?_eq_some_iff.1 hy).1
    rw [List.length_append, List.length_singleton] at h1
    have e : i = L.length := by omega
    subst e
    rw [List.getElem?_append_right (Nat.le_refl _), Nat.sub_self] at hy
    cases hy
    exact .inr ⟨p, hx, hp⟩
theorem leafs_P : ∀ (l : List XNode) (s : BS), InvP (s.nodes.map strip0) → s.inner < s.nodes.length → InvP ((l.foldl BS.leaf s).nodes.map strip0)
  | [], _, h, _ => h
  | x :: l, s, h, hi => by
    refine leafs_P l (s.leaf x) ?_ ?_
    · rw [leaf_strip]
      exact h.snoc (p := s.inner) rfl (by rw [List.length_map]; exact hi)
    · rw [leaf_inner]
      have h1 := congrArg List.length (leaf_strip s x)
      rw [List.length_map, List.length_append, List.length_map] at h1
      omega
theorem InvP.add {s s' : BS} {t : XTok} (h : InvP (s.nodes.map strip0)) (hi : s.inner < s.nodes.length) (ha : s.add t = .ok s') : InvP (s'.nodes.map strip0) := by
  unfold BS.add at ha
  split at ha
  · unfold BS.element BS.elementAt at ha
    split at ha
    · cases ha
    · split at ha
      · cases ha
      · split at ha
        · cases ha
        · cases ha
          refine leafs_P _ _ ?_ ?_
          · show InvP ((s.nodes ++ [_]).map strip0)
            rw [List.map_append]
            exact h.snoc (p := s.inner) rfl (by rw [List.length_map]; exact hi)
          · rw [begin_inner]
            show _ < (s.nodes ++ [_]).length
            simp
  · split at ha
    · cases ha
      show InvP ((s.nodes.modify _ _).map strip0)
      rw [modify_strip]
      exact h
    · split at ha
      · cases ha
        rw [leaf_strip]
        exact h.snoc (p := s.inner) rfl (by rw [List.length_map]; exact hi)
      · cases ha
        rw [leaf_strip]
        exact h.snoc (p := s.inner) rfl (by rw [List.length_map]; exact hi)
theorem adds_P : ∀ (ts : List XTok) (s s' : BS) (o : List (List Nat)) (r : Bool) (q k : Nat), DocT o r q ts → Inv s o.length k → o.length ≤ 32 → InvP (s.nodes.map strip0) → s.adds ts = .ok s' → InvP (s'.nodes.map strip0)
  | [], s, s', o, r, q, k, _, _, _, h, ha => by cases ha; exact h
  | t :: ts, s, s', o, r, q, k, hD, hI, ho, h, ha => by
    unfold BS.adds at ha
    split at ha
    · cases ha
    · rename_i s1 h1
      obtain ⟨o', r', q', hD', hI', ho'⟩ := hI.add ho hD h1
      exact adds_P ts s1 s' o' r' q' (k + 1) hD' hI' ho' (h.add hI.inner h1) ha
theorem DocOk.parents {xs : List XTok} {ns : List XNode} (h : DocOk xs) (ht : treeD xs = .ok ns) : InvP ns := by
  unfold treeD at ht
  split at ht
  · cases ht
  · rename_i s hs
    cases ht
    have h0 : InvP (BS.start.nodes.map strip0) := by
      intro i x hx
      have hx' : [strip0 rootN][i]? = some x := hx
      have h1 := (List.getElem?_eq_some_iff.1 hx').1
      simp at h1
      subst h1
      cases hx'
      exact .inl ⟨rfl, rfl⟩
    have h1 := adds_P xs BS.start s [] false 0 0 h.doc Inv.start (by decide) h0 hs
    intro i x hx
    have hx' : (s.nodes.modify s.inner fun x => { x with fin := s.nodes.length })[i]? = some x := hx
    have h2 := h1 i (strip0 x) (by rw [← modify_strip s.nodes s.inner s.nodes.length, List.getElem?_map, hx']; rfl)
    exact h2
end Go.Proofs.YtjjggncbhenffaaGreatDoor
