/- Tokens in bytes are the same in characters, where they are a document's. -/
import Derived.Test.YtmemcabipcccaaaGreatDoorGax
import Derived.Test.YtmemcabipcccaaaGreatDoorXmlWrQ
import Derived.Test.YtmemcabipcccaaaGreatDoorGbi
namespace Go.Proofs.YtmemcabipcccaaaGreatDoor
def XTok.b (t : XTok) : BTok := ⟨(t.kind : Nat), T t.name, t.attrs.map fun x => (T x.1, T x.2), T t.text⟩
theorem okL_nil : okL [] := fun _ h => by cases h
theorem T_nil : T [] = ⟨#[]⟩ := rfl
theorem empty_T {s : ByteArray} (h : s.toList.isEmpty = true) : s = T [] := by
  have h1 : s.data.toList = [] := by rw [← toList_data]; simpa using h
  rw [T_nil]
  cases s with | mk d => cases d with | mk l => simp at h1; subst h1; rfl
theorem textB_T {s : ByteArray} (h : textB s = true) : ∃ l, okL l ∧ s = T l := txt_T ((textB_txt s).1 h)
theorem isEmpty_of {α : Type} {l : List α} (h : l.isEmpty = true) : l = [] := by simpa using h
end Go.Proofs.YtmemcabipcccaaaGreatDoor
