/- Several texts, laid as one. -/
import Derived.Test.YtefjfjieoiegnaaGreatDoorXmlAddText
/- Every reference and every entity's text, all the way down: xmlscan's add. -/
namespace Go.Proofs.YtefjfjieoiegnaaGreatDoor
open Go.RowKit
end Go.Proofs.YtefjfjieoiegnaaGreatDoor
/- A reader that went on and spent: what a reference comes to where entities are declared, in plain terms. -/
namespace Go.Proofs.YtefjfjieoiegnaaGreatDoor
/-- The reader went on, and may have spent. -/
def AdvS (s s' : RS) : Prop := ∃ k n, s' = { s.adv k with spent := n }
theorem Adv.spent {s s' : RS} (h : Adv s s') : AdvS s s' := by
  obtain ⟨k, rfl⟩ := h
  exact ⟨k, s.spent, rfl⟩
theorem AdvS.then {a b c : RS} (h : AdvS a b) (g : AdvS b c) : AdvS a c := by
  obtain ⟨k, n, rfl⟩ := h
  obtain ⟨j, i, rfl⟩ := g
  obtain ⟨x, hx⟩ := Adv.then (Adv.by a k) (Adv.by (a.adv k) j)
  refine ⟨x, i, ?_⟩
  rw [← hx]
  rfl
theorem AdvS.len {s s' : RS} (h : AdvS s s') : s'.rest.length ≤ s.rest.length := by
  obtain ⟨k, n, rfl⟩ := h
  show (s.rest.drop k).length ≤ _
  rw [List.length_drop]; omega
theorem AdvS.same {s s' : RS} (h : AdvS s s') : s'.ents = s.ents ∧ s'.opn = s.opn ∧ s'.run = s.run ∧ s'.toks = s.toks ∧ s'.runAt = s.runAt := by
  obtain ⟨k, n, rfl⟩ := h
  exact ⟨rfl, rfl, rfl, rfl, rfl⟩
theorem AdvS.fine {s s' : RS} (h : AdvS s s') (hf : Fine s) : Fine s' := by
  obtain ⟨k, n, rfl⟩ := h
  have := hf.adv k
  exact ⟨this.ok, this.le⟩
end Go.Proofs.YtefjfjieoiegnaaGreatDoor
/- A reference, whatever is declared: xmlscan's reference. -/
namespace Go.Proofs.YtefjfjieoiegnaaGreatDoor
open Go.RowKit
end Go.Proofs.YtefjfjieoiegnaaGreatDoor
/- A reader that went on and may have spent, and the entities that it has. -/
namespace Go.Proofs.YtefjfjieoiegnaaGreatDoor
open Go.RowKit
/-- Entities as a reader has them. -/
structure EOk (e : List (List Nat × List Nat)) : Prop where
  u : UniqE e
  ne : ∀ x ∈ e, x.1 ≠ []
  z : ∀ x ∈ e, (T x.2).size ≤ 32768
  ok : ∀ x ∈ e, okL x.1 ∧ okL x.2
theorem EOk.of {a b : List (List Nat × List Nat)} (h : a = b) (hb : EOk b) : EOk a := by rw [h]; exact hb
theorem EOk.nil : EOk [] := ⟨by unfold UniqE; simp, (fun _ h => by cases h), (fun _ h => by cases h), (fun _ h => by cases h)⟩
/-- The reader went on, and may have spent. -/
def AdvT (s s' : RS) : Prop := ∃ k n, s' = { s.adv k with spent := n } ∧ s.spent ≤ n ∧ (n ≤ 32768 ∨ n = s.spent)
theorem Adv.t {s s' : RS} (h : Adv s s') : AdvT s s' := by
  obtain ⟨k, rfl⟩ := h
  exact ⟨k, s.spent, rfl, Nat.le_refl _, .inr rfl⟩
theorem AdvT.refl (s : RS) : AdvT s s := ⟨0, s.spent, by unfold RS.adv; simp, Nat.le_refl _, .inr rfl⟩
theorem AdvT.then {a b c : RS} (h : AdvT a b) (g : AdvT b c) : AdvT a c := by
  obtain ⟨k, n, rfl, h1, h2⟩ := h
  obtain ⟨j, i, rfl, h3, h4⟩ := g
  obtain ⟨x, hx⟩ := Adv.then (Adv.by a k) (Adv.by (a.adv k) j)
  have h3' : n ≤ i := h3
  have h4' : i ≤ 32768 ∨ i = n := h4
  refine ⟨x, i, ?_, by omega, by omega⟩
  rw [← hx]
  rfl
theorem AdvT.only {s s' : RS} (h : AdvT s s') : AdvT s { s with spent := s'.spent } := by
  obtain ⟨k, n, rfl, h1, h2⟩ := h
  exact ⟨0, n, by unfold RS.adv; simp, h1, h2⟩
theorem AdvT.len {s s' : RS} (h : AdvT s s') : s'.rest.length ≤ s.rest.length := by
  obtain ⟨k, n, rfl, _⟩ := h
  show (s.rest.drop k).length ≤ _
  rw [List.length_drop]; omega
theorem AdvT.same {s s' : RS} (h : AdvT s s') : s'.ents = s.ents ∧ s'.opn = s.opn ∧ s'.run = s.run ∧ s'.toks = s.toks ∧ s'.runAt = s.runAt := by
  obtain ⟨k, n, rfl, _⟩ := h
  exact ⟨rfl, rfl, rfl, rfl, rfl⟩
theorem AdvT.whole {s s' : RS} (h : AdvT s s') : s'.pre ++ s'.rest = s.pre ++ s.rest := by
  obtain ⟨k, n, rfl, _⟩ := h
  exact adv_whole s k
theorem AdvT.okR {s s' : RS} (h : AdvT s s') (hk : okL s.rest) : okL s'.rest := by
  obtain ⟨k, n, rfl, _⟩ := h
  exact okL_drop hk k
theorem AdvT.pre {s s' : RS} (h : AdvT s s') : s.pre.length ≤ s'.pre.length := by
  obtain ⟨k, n, rfl, _⟩ := h
  show _ ≤ (s.pre ++ _).length
  rw [List.length_append]; omega
theorem Good.t {s s' : RS} (h : Good s) (ha : AdvT s s') : Good s' := by
  obtain ⟨k, n, rfl, h1, h2⟩ := ha
  have g := h.adv k
  have hrl : (tx s.run).length ≤ (s.adv k).place + s.spent := g.rl
  have hsp := h.sp
  exact ⟨⟨g.fine.ok, g.fine.le⟩, g.n1, g.n2, g.okr, by show (tx s.run).length ≤ (s.adv k).place + n; omega, by show n ≤ 32768; omega⟩
end Go.Proofs.YtefjfjieoiegnaaGreatDoor
