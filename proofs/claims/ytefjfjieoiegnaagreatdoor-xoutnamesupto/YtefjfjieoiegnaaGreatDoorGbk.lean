/- Several texts, laid as one. -/
import Derived.Test.YtefjfjieoiegnaaGreatDoorGbj
/- Start tags: xmlscan's startTag. -/
namespace Go.Proofs.YtefjfjieoiegnaaGreatDoor
open Go.RowKit
end Go.Proofs.YtefjfjieoiegnaaGreatDoor
/- What one step through content leaves. -/
namespace Go.Proofs.YtefjfjieoiegnaaGreatDoor
theorem Adv.len {s s' : RS} (h : Adv s s') : s'.rest.length ≤ s.rest.length := by
  obtain ⟨k, rfl⟩ := h
  show (s.rest.drop k).length ≤ _
  rw [List.length_drop]; omega
theorem Adv.same {s s' : RS} (h : Adv s s') : s'.ents = s.ents ∧ s'.opn = s.opn ∧ s'.run = s.run ∧ s'.toks = s.toks ∧ s'.spent = s.spent ∧ s'.runAt = s.runAt := by
  obtain ⟨k, rfl⟩ := h
  exact ⟨rfl, rfl, rfl, rfl, rfl, rfl⟩
theorem OpnOk.to {s s' : RS} (h : OpnOk s) (e : s'.opn = s.opn) : OpnOk s' := by
  unfold OpnOk
  rw [e]; exact h
theorem Good.opn {s : RS} (h : Good s) (l : List (List Nat)) : Good { s with opn := l } := ⟨⟨h.fine.ok, h.fine.le⟩, h.n1, h.n2, h.okr, h.rl, h.sp⟩
end Go.Proofs.YtefjfjieoiegnaaGreatDoor
