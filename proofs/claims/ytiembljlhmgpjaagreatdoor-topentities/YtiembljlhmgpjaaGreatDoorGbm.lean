/- Several texts, laid as one. -/
import Derived.Test.YtiembljlhmgpjaaGreatDoorGbl
import Derived.Test.YtiembljlhmgpjaaGreatDoorGbh
/- Line ends of a written document: what is decoded is a written document, too; plain. -/
namespace Go.Proofs.YtiembljlhmgpjaaGreatDoor
def oneE (c : Nat) : Nat := if c = 13 then 10 else c
def endsN : List Nat → List Nat
  | [] => []
  | [c] => [oneE c]
  | c :: d :: t => if c = 13 ∧ d = 10 then endsN (d :: t) else oneE c :: endsN (d :: t)
/-- A token whose text's lines end by line feeds. -/
def normT (t : XTok) : XTok := if t.kind = 5 ∨ t.kind = 6 then { t with text := endsN t.text } else t
/-- Nodes without their texts. -/
def noTx (x : XNode) : XNode := { x with text := [] }
structure SameB (s s' : BS) : Prop where
  n : s.nodes.map noTx = s'.nodes.map noTx
  o : s.opn = s'.opn
theorem SameB.len {s s' : BS} (h : SameB s s') : s.nodes.length = s'.nodes.length := by
  have := congrArg List.length h.n
  simpa using this
theorem SameB.inner {s s' : BS} (h : SameB s s') : s.inner = s'.inner := by unfold BS.inner; rw [h.o]
theorem SameB.begin {s s' : BS} (h : SameB s s') {x y : XNode} (hx : noTx x = noTx y) : SameB (s.begin x) (s'.begin y) := by
  refine ⟨?_, ?_⟩
  · show (s.nodes ++ [x]).map noTx = (s'.nodes ++ [y]).map noTx
    rw [List.map_append, List.map_append, h.n]
    show _ ++ [noTx x] = _ ++ [noTx y]
    rw [hx]
  · show s.opn ++ [s.nodes.length] = s'.opn ++ [s'.nodes.length]
    rw [h.o, h.len]
theorem modify_noTx (l : List XNode) (i n : Nat) : (l.modify i fun x => { x with fin := n }).map noTx = (l.map noTx).modify i fun x => { x with fin := n } := by
  apply List.ext_getElem?
  intro j
  rw [List.getElem?_map, List.getElem?_modify, List.getElem?_modify, List.getElem?_map]
  cases l[j]? with
  | none => rfl
  | some _ =>
    simp only [Option.map_some]
    split <;> rfl
theorem SameB.finish {s s' : BS} (h : SameB s s') : SameB s.finish s'.finish := by
  refine ⟨?_, ?_⟩
  · show (s.nodes.modify _ _).map noTx = (s'.nodes.modify _ _).map noTx
    rw [modify_noTx, modify_noTx, h.n, h.inner, h.len]
  · show s.opn.dropLast = s'.opn.dropLast
    rw [h.o]
theorem SameB.leaf {s s' : BS} (h : SameB s s') {x y : XNode} (hx : noTx x = noTx y) : SameB (s.leaf x) (s'.leaf y) := by
  refine (h.begin ?_).finish
  have h1 : x.kind = y.kind := show (noTx x).kind = (noTx y).kind by rw [hx]
  have h2 : x.name = y.name := show (noTx x).name = (noTx y).name by rw [hx]
  have h3 : x.fin = y.fin := show (noTx x).fin = (noTx y).fin by rw [hx]
  have h4 : x.scope = y.scope := show (noTx x).scope = (noTx y).scope by rw [hx]
  unfold BS.placed noTx
  rw [h.inner, h.o]
  simp only
  rw [h1, h2, h3, h4]
theorem SameB.leafs : ∀ (l : List XNode) {s s' : BS}, SameB s s' → SameB (l.foldl BS.leaf s) (l.foldl BS.leaf s')
  | [], _, _, h => h
  | _ :: l, _, _, h => SameB.leafs l (h.leaf rfl)
theorem SameB.scope {s s' : BS} (h : SameB s s') : s.scope = s'.scope := by
  have hn : (s.nodes.map noTx)[s.inner]? = (s'.nodes.map noTx)[s'.inner]? := by rw [h.n, h.inner]
  rw [List.getElem?_map, List.getElem?_map] at hn
  unfold BS.scope
  cases h1 : s.nodes[s.inner]? with
  | none =>
    rw [h1] at hn
    cases h2 : s'.nodes[s'.inner]? with
    | none => rfl
    | some y => rw [h2] at hn; cases hn
  | some x =>
    rw [h1] at hn
    cases h2 : s'.nodes[s'.inner]? with
    | none => rw [h2] at hn; cases hn
    | some y =>
      rw [h2] at hn
      have hs := Option.some.inj hn
      show (noTx x).scope = (noTx y).scope
      rw [hs]
theorem normT_kind (t : XTok) : (normT t).kind = t.kind := by unfold normT; split <;> rfl
theorem SameB.add {s s' s1 : BS} {t : XTok} (h : SameB s s') (ha : s.add t = .ok s1) : ∃ s2, s'.add (normT t) = .ok s2 ∧ SameB s1 s2 := by
  by_cases h2 : t.kind = 2
  · have e : normT t = t := by unfold normT; rw [if_neg (by omega)]
    rw [e]
    unfold BS.add at ha ⊢
    rw [if_pos h2] at ha ⊢
    unfold BS.element at ha ⊢
    rw [← h.scope]
    unfold BS.elementAt at ha ⊢
    split at ha
    · cases ha
    · split at ha
      · cases ha
      · split at ha
        · cases ha
        · cases ha
          refine ⟨_, rfl, SameB.leafs _ (h.begin ?_)⟩
          unfold BS.placed noTx
          rw [h.inner, h.o]
  · unfold BS.add at ha ⊢
    rw [normT_kind]
    rw [if_neg h2] at ha ⊢
    by_cases h7 : t.kind = 7
    · rw [if_pos h7] at ha ⊢
      cases ha
      exact ⟨_, rfl, h.finish⟩
    · rw [if_neg h7] at ha ⊢
      have hname : (normT t).name = t.name := by unfold normT; split <;> rfl
      by_cases h6 : t.kind = 6
      · rw [if_pos h6] at ha ⊢
        cases ha
        refine ⟨_, rfl, h.leaf ?_⟩
        unfold noTx
        rw [hname]
      · rw [if_neg h6] at ha ⊢
        cases ha
        exact ⟨_, rfl, h.leaf rfl⟩
end Go.Proofs.YtiembljlhmgpjaaGreatDoor
/- What is encoded of a text without a mark is decoded as it was, but for line ends. -/
namespace Go.Proofs.YtiembljlhmgpjaaGreatDoor
open Go.RowKit
end Go.Proofs.YtiembljlhmgpjaaGreatDoor
