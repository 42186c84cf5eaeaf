/- Several texts, laid as one. -/
import Derived.Test.YtmemcabipcccaaaGreatDoorGao
import Derived.BigQuiet
import Derived.BigGuard
import Derived.BigCall
import Derived.Deep.QuietTactic
import Derived.Test.YtmemcabipcccaaaGreatDoorGan
import Derived.Test.YtmemcabipcccaaaGreatDoorGam
/- What one step through content leaves. -/
namespace Go.Proofs.YtmemcabipcccaaaGreatDoor
theorem Adv.len {s s' : RS} (h : Adv s s') : s'.rest.length ≤ s.rest.length := by
  obtain ⟨k, rfl⟩ := h
  show (s.rest.drop k).length ≤ _
  rw [List.length_drop]; omega
theorem Adv.same {s s' : RS} (h : Adv s s') : s'.ents = s.ents ∧ s'.opn = s.opn ∧ s'.run = s.run ∧ s'.toks = s.toks ∧ s'.spent = s.spent ∧ s'.runAt = s.runAt := by
  obtain ⟨k, rfl⟩ := h
  exact ⟨rfl, rfl, rfl, rfl, rfl, rfl⟩
theorem OpnOk.to {s s' : RS} (h : OpnOk s) (e : s'.opn = s.opn) : OpnOk s' := by
  unfold OpnOk
  rw [e]; exact h
theorem Good.opn {s : RS} (h : Good s) (l : List (List Nat)) : Good { s with opn := l } := ⟨⟨h.fine.ok, h.fine.le⟩, h.n1, h.n2, h.okr, h.rl, h.sp⟩
end Go.Proofs.YtmemcabipcccaaaGreatDoor
/- Content: xmlscan's content. -/
namespace Go.Proofs.YtmemcabipcccaaaGreatDoor
open Go.RowKit
attribute [local go_sem] jumps_normal jumps_exit jumps_ret jumps_goto jumps_panic
end Go.Proofs.YtmemcabipcccaaaGreatDoor
/- Where an entity's text comes to a sign that it may not have: strings.IndexAny, ContainsAny. -/
namespace Go.Proofs.YtmemcabipcccaaaGreatDoor
open Go.RowKit
end Go.Proofs.YtmemcabipcccaaaGreatDoor
/- An entity's text: xmlscan's isEntityText. -/
namespace Go.Proofs.YtmemcabipcccaaaGreatDoor
open Go.RowKit
end Go.Proofs.YtmemcabipcccaaaGreatDoor
/- A declaration of an entity: xmlscan's entity. -/
namespace Go.Proofs.YtmemcabipcccaaaGreatDoor
open Go.RowKit
end Go.Proofs.YtmemcabipcccaaaGreatDoor
/- Declarations of a document type: what each leaves. -/
namespace Go.Proofs.YtmemcabipcccaaaGreatDoor
open Go.RowKit
/-- What a declaration leaves. -/
structure Declared (s s' : RS) : Prop where
  good : Good s'
  ents : EOk s'.ents
  opn : s'.opn = s.opn
  len : s'.rest.length ≤ s.rest.length
  more : s'.ents.length ≤ s.ents.length + 1
theorem Declared.of {s s' : RS} (hG : Good s) (hN : EOk s.ents) (h : Adv s s') : Declared s s' :=
  ⟨hG.to h, EOk.of h.same.1 hN, h.same.2.1, h.len, by rw [h.same.1]; omega⟩
end Go.Proofs.YtmemcabipcccaaaGreatDoor
/- The declarations of a document type: xmlscan's declarations. -/
namespace Go.Proofs.YtmemcabipcccaaaGreatDoor
open Go.RowKit
attribute [local go_sem] jumps_normal jumps_exit jumps_ret jumps_goto jumps_panic
end Go.Proofs.YtmemcabipcccaaaGreatDoor
/- The document type: xmlscan's doctype. -/
namespace Go.Proofs.YtmemcabipcccaaaGreatDoor
open Go.RowKit
end Go.Proofs.YtmemcabipcccaaaGreatDoor
