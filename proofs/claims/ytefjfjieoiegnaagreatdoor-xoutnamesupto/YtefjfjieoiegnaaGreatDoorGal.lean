/- Several texts, laid as one. -/
import Derived.Test.YtefjfjieoiegnaaGreatDoorGak
import Derived.Test.YtefjfjieoiegnaaGreatDoorGaa
import Derived.ScopeJumps
import Derived.BigQuiet
import Derived.BigGuard
import Derived.BigCall
import Derived.Deep.QuietTactic
/- The first character that may not be: xmlscan's firstBad. -/
namespace Go.Proofs.YtefjfjieoiegnaaGreatDoor
open Go.RowKit
theorem textB_txt (s : ByteArray) : textB s = true ↔ Txt s.data.toList := by
  have h := fault_txt s (s.size + 1) 0 (by omega)
  unfold textB
  rw [List.drop_zero] at h
  constructor
  · intro e
    exact h.1 (by simpa [fault] using e)
  · intro e
    have := h.2 e
    simpa [fault] using this
end Go.Proofs.YtefjfjieoiegnaaGreatDoor
/- Walks with one label, and regions over a class of worlds. -/
namespace Go.Proofs.YtefjfjieoiegnaaGreatDoor
open Go.RowKit
/-- As Q; by a goto: J of its label. -/
def jumps (J : Nat → Act → World → Prop) (Q : Exit → Act → World → Prop) : Exit → Act → World → Prop
  | .goto l, a, w => J l a w
  | e, a, w => Q e a w
section
variable {P : Program} {a : Act} {w : World} {Q : Exit → Act → World → Prop} {J : Nat → Act → World → Prop}
theorem jumps_normal : jumps J Q .normal a w = Q .normal a w := rfl
theorem jumps_exit (id : Nat) : jumps J Q (.exit id) a w = Q (.exit id) a w := rfl
theorem jumps_ret : jumps J Q .ret a w = Q .ret a w := rfl
theorem jumps_goto (l : Nat) : jumps J Q (.goto l) a w = J l a w := rfl
theorem jumps_panic (ch : List PanicEntry) : jumps J Q (.panic ch) a w = Q (.panic ch) a w := rfl
theorem jumps_mono {J J' : Nat → Act → World → Prop} (h : ∀ l a w, J l a w → J' l a w) (e : Exit) (a : Act) (w : World) (hq : jumps J Q e a w) : jumps J' Q e a w := by
  cases e with
  | goto l => exact h l a w hq
  | _ => exact hq
end
attribute [local go_sem] jumps_normal jumps_exit jumps_ret jumps_goto jumps_panic
section
variable {P : Program} {a : Act} {w : World} {Q : Exit → Act → World → Prop}
/-- One label, to which the run comes back with less to do. -/
theorem wp_scope_one {c rest1 : Code} (l1 : Nat) (Inv : Nat → Act → World → Prop) (hf1 : findLabel c l1 = some (Code.skip.seq rest1))
    (round' : ∀ n a w, Inv n a w → rest1.wp P (jumps (fun l a' w' => l = l1 ∧ ∃ n', n' < n ∧ Inv n' a' w') Q) a w)
    (first : (∀ n a w, Inv n a w → rest1.wp P (jumps (fun l a' w' => l = l1 ∧ ∃ n', Inv n' a' w') Q) a w) → c.wp P (jumps (fun l a' w' => l = l1 ∧ ∃ n', Inv n' a' w') Q) a w) : (Code.scope c).wp P Q a w := by
  have round := fun n a w hI => wp_seq (wp_skip (round' n a w hI))
  have hfirst := first fun n a w hI => Code.wp_mono (fun e a w hq => jumps_mono (fun l a w h => ⟨h.1, h.2.choose, h.2.choose_spec.2⟩) e a w hq) (round' n a w hI)
  intro b k cs
  have key1 : ∀ n a w, Inv n a w → ∃ e a' w', Q e a' w' ∧ Arrives P (lone (b.at a (.code (Code.skip.seq rest1) :: .inScope c :: k)) cs w) b k cs e a' w' := by
    intro n
    induction n using Nat.strongRecOn with
    | _ n ih =>
      intro a w hI
      obtain ⟨e, a₁, w₁, hq, harr⟩ := round n a w hI b (.inScope c :: k) cs
      cases e with
      | normal => exact ⟨.normal, a₁, w₁, hq, Steps.trans harr (.one step_inScope)⟩
      | exit id => exact ⟨.exit id, a₁, w₁, hq, fun k' hk => harr k' (by simp [exitTo, hk])⟩
      | goto l' =>
        obtain ⟨rfl, n', hlt, hI'⟩ := hq
        obtain ⟨e₂, a₂, w₂, hq₂, harr₂⟩ := ih n' hlt a₁ w₁ hI'
        exact ⟨e₂, a₂, w₂, hq₂, .of_steps (harr _ (by simp [gotoIn, hf1])) harr₂⟩
      | ret => exact ⟨_, a₁, w₁, hq, harr⟩
      | panic ch => exact ⟨_, a₁, w₁, hq, harr⟩
      | outgrown => exact ⟨_, a₁, w₁, hq, harr⟩
  obtain ⟨e, a₁, w₁, hq, harr⟩ := hfirst b (.inScope c :: k) cs
  cases e with
  | normal => exact ⟨.normal, a₁, w₁, hq, .head step_scope (Steps.trans harr (.one step_inScope))⟩
  | exit id => exact ⟨.exit id, a₁, w₁, hq, fun k' hk => .head step_scope (harr k' (by simp [exitTo, hk]))⟩
  | goto l' =>
    obtain ⟨rfl, n', hI'⟩ := hq
    obtain ⟨e₂, a₂, w₂, hq₂, harr₂⟩ := key1 n' a₁ w₁ hI'
    exact ⟨e₂, a₂, w₂, hq₂, .of_steps (.head step_scope (harr _ (by simp [gotoIn, hf1]))) harr₂⟩
  | ret => exact ⟨_, a₁, w₁, hq, .of_steps (.one step_scope) harr⟩
  | panic ch => exact ⟨_, a₁, w₁, hq, .of_steps (.one step_scope) harr⟩
  | outgrown => exact ⟨_, a₁, w₁, hq, .of_steps (.one step_scope) harr⟩
end
theorem arr_of {t : Array Value} {n : Nat} (h : t.size = n) : t = ((List.range n).map fun i => t[i]!).toArray := by
  apply Array.ext
  · simp [h]
  · intro i h1 h2
    simp [h1]
end Go.Proofs.YtefjfjieoiegnaaGreatDoor
