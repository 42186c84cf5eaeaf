/- A reader's small steps, more: xmlscan's quote, quoted, equals, fail. -/
import Derived.Test.YtllhajjceecjdaaDoorGau
namespace Go.Proofs.YtllhajjceecjdaaDoor
open Go.RowKit
theorem adv_adv (s : RS) (n m : Nat) : (s.adv n).adv m = s.adv (n + m) := by
  unfold RS.adv
  simp only [List.drop_drop, List.append_assoc, RS.mk.injEq, and_true, List.append_cancel_left_eq]
  rw [List.take_add]
/-- One state is another one, some characters on. -/
def Adv (s s' : RS) : Prop := ∃ k, s' = s.adv k
theorem Adv.then {a b c : RS} (h : Adv a b) (g : Adv b c) : Adv a c := by
  obtain ⟨k, rfl⟩ := h
  obtain ⟨m, rfl⟩ := g
  exact ⟨k + m, adv_adv _ _ _⟩
theorem Adv.by (s : RS) (n : Nat) : Adv s (s.adv n) := ⟨n, rfl⟩
theorem Adv.at {s s' : RS} (h : Adv s s') {w w' : World} {p : Nat} (ha : AtS w p s) (hm : Moves p s'.place w w') : AtS w' p s' := by
  obtain ⟨k, rfl⟩ := h
  exact ha.to hm
theorem Adv.blanks (s : RS) : Adv s s.blanks := ⟨_, rfl⟩
theorem Adv.take (s : RS) (a : List Nat) : Adv s (s.take a) := by
  unfold RS.take
  split
  · exact ⟨_, rfl⟩
  · exact ⟨0, by unfold RS.adv; simp⟩
theorem Adv.name (s : RS) : Adv s s.name := ⟨_, rfl⟩
theorem Adv.qname (s : RS) : Adv s s.qname := ⟨_, rfl⟩
theorem Adv.takeTo {s s' : RS} {a x : List Nat} (h : s.takeTo a = some (x, s')) : Adv s s' ∧ ∃ y, cutL a s.rest = some (x, y) ∧ s' = s.adv (x.length + a.length) := by
  unfold RS.takeTo at h
  cases hc : cutL a s.rest with
  | none => rw [hc] at h; cases h
  | some xy => rw [hc] at h; cases h; exact ⟨⟨_, rfl⟩, xy.2, rfl, rfl⟩
theorem quote_some {s s' : RS} {q : Nat} (h : s.quote = some (q, s')) : s' = s.adv 1 ∧ heads q s.rest = true ∧ (q = 34 ∨ q = 39 ∧ heads 34 s.rest = false) := by
  unfold RS.quote at h
  split at h
  · rename_i hh; cases h; exact ⟨rfl, hh, .inl rfl⟩
  · rename_i hh
    split at h
    · rename_i h2; cases h; exact ⟨rfl, h2, .inr ⟨rfl, by simpa using hh⟩⟩
    · cases h
theorem Adv.quote {s s' : RS} {q : Nat} (h : s.quote = some (q, s')) : Adv s s' := ⟨1, (quote_some h).1⟩
theorem Adv.quoted {s s' : RS} {x : List Nat} (h : s.quoted = some (x, s')) : Adv s s' := by
  unfold RS.quoted at h
  cases hq : s.quote with
  | none => rw [hq] at h; cases h
  | some qs =>
    obtain ⟨q, s1⟩ := qs
    rw [hq] at h
    exact (Adv.quote hq).then (Adv.takeTo h).1
theorem Adv.equals {s s' : RS} (h : s.equals = some s') : Adv s s' := by
  unfold RS.equals at h
  split at h
  · cases h; exact (Adv.blanks s).then ((Adv.by _ 1).then (Adv.blanks _))
  · cases h
end Go.Proofs.YtllhajjceecjdaaDoor
