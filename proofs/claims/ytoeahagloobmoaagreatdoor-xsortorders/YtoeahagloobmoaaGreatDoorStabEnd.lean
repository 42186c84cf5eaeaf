/- The order by which a stable sort sorts: by a weak order, alike ones by their numbers. -/
import Derived.Test.YtoeahagloobmoaaGreatDoorStabGo7
namespace Go.Proofs.YtoeahagloobmoaaGreatDoor
/-- A strict order in which what is not ahead is not ahead by steps, either. -/
structure Weak (lt : Nat → Nat → Prop) : Prop where
  irr : ∀ x, ¬ lt x x
  trans : ∀ x y z, lt x y → lt y z → lt x z
  neg : ∀ x y z, ¬ lt x y → ¬ lt y z → ¬ lt x z
/-- Ahead, or alike and the less number. -/
def LexL (lt : Nat → Nat → Prop) (x y : Nat) : Prop := lt x y ∨ (¬ lt y x ∧ x < y)
theorem lex_tot {lt : Nat → Nat → Prop} (h : Weak lt) : Tot (LexL lt) := by
  refine ⟨?_, ?_, ?_⟩
  · intro x hx
    rcases hx with hx | ⟨_, hx⟩
    · exact h.irr x hx
    · omega
  · intro x y z h1 h2
    rcases h1 with h1 | ⟨h1, h1'⟩
    · rcases h2 with h2 | ⟨h2, h2'⟩
      · exact Or.inl (h.trans x y z h1 h2)
      · refine Or.inl (Classical.byContradiction fun hn => ?_)
        exact h.neg x z y hn h2 h1
    · rcases h2 with h2 | ⟨h2, h2'⟩
      · refine Or.inl (Classical.byContradiction fun hn => ?_)
        exact h.neg y x z h1 hn h2
      · exact Or.inr ⟨h.neg z y x h2 h1, by omega⟩
  · intro x y hne
    by_cases h1 : lt x y
    · exact Or.inl (Or.inl h1)
    · by_cases h2 : lt y x
      · exact Or.inr (Or.inl h2)
      · by_cases h3 : x < y
        · exact Or.inl (Or.inr ⟨h2, h3⟩)
        · exact Or.inr (Or.inr ⟨h1, by omega⟩)
theorem lex_sub (lt : Nat → Nat → Prop) (x y : Nat) (h : lt x y) : LexL lt x y := Or.inl h
/-- The row of all places, as they came. -/
theorem id_rws (lt : Nat → Nat → Prop) (N n : Nat) (h : n ≤ N) : Rws (LexL lt) lt N n id := by
  refine ⟨fun i j e => e, ?_, fun i hi => by show i < N; omega⟩
  intro i j hij hL
  rcases hL with hL | ⟨_, hL⟩
  · exact hL
  · exfalso
    have : j < i := hL
    omega
/-- What is sorted is all places, each once. -/
theorem sorted_places {L : Nat → Nat → Prop} {n : Nat} {r : Rw} (h : Fine L 0 n id r) : (∀ i, i < n → r i < n) ∧ (∀ i j, i < n → j < n → r i = r j → i = j) := by
  refine ⟨fun i hi => ?_, fun i j _ _ e => h.inj (fun _ _ e => e) i j e⟩
  obtain ⟨j, _, j2, e⟩ := h.from i (Nat.zero_le _) hi
  rw [e]
  exact j2
end Go.Proofs.YtoeahagloobmoaaGreatDoor
