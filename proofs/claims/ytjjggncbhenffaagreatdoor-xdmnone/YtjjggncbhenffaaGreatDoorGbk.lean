/- Several texts, laid as one. -/
import Derived.Test.YtjjggncbhenffaaGreatDoorGbj
import Derived.Test.YtjjggncbhenffaaGreatDoorXmlDoc
/- Texts with other texts for some of their characters: the reference's Escape and Quote. -/
namespace Go.Proofs.YtjjggncbhenffaaGreatDoor
open Go.RowKit
end Go.Proofs.YtjjggncbhenffaaGreatDoor
/- Texts that are escaped, in plain terms: they are read as they were. -/
namespace Go.Proofs.YtjjggncbhenffaaGreatDoor
def insN (c : Nat) : List Nat := if c = 38 then [38, 97, 109, 112, 59] else if c = 60 then [38, 108, 116, 59] else if c = 13 then [38, 35, 49, 51, 59] else []
def escN (c : Nat) : List Nat := if c = 62 then [38, 103, 116, 59] else insN c
def quoN (c : Nat) : List Nat := if c = 34 then [38, 113, 117, 111, 116, 59] else if c = 9 then [38, 35, 57, 59] else if c = 10 then [38, 35, 49, 48, 59] else insN c
def oneN (o : Nat → List Nat) (c : Nat) : List Nat := if o c = [] then [c] else o c
def mapN (o : Nat → List Nat) (l : List Nat) : List Nat := l.flatMap (oneN o)
/-- What other texts there are: references to their characters. -/
structure RefN (o : Nat → List Nat) : Prop where
  ref : ∀ c, o c ≠ [] → ∀ Z, ∃ nm, readRef (o c ++ Z) = some ⟨[c], nm, (o c).length⟩
  amp : ∀ c, o c ≠ [] → ∃ t, o c = 38 :: t
  has : o 38 ≠ [] ∧ o 60 ≠ []
  ok : ∀ c, okL (o c)
theorem okL_of {l : List Nat} (h : l.all (fun c => decide (32 ≤ c) && decide (c < 128)) = true) : okL l := fun c hc => by
  have := List.all_eq_true.1 h c hc
  simp at this
  simp [charR]
  omega
theorem ins_cases {P : Nat → List Nat → Prop} (h38 : P 38 [38, 97, 109, 112, 59]) (h60 : P 60 [38, 108, 116, 59]) (h13 : P 13 [38, 35, 49, 51, 59]) (h0 : ∀ c, c ≠ 38 → c ≠ 60 → c ≠ 13 → P c []) (c : Nat) : P c (insN c) := by
  unfold insN
  by_cases a : c = 38
  · subst a; exact h38
  · rw [if_neg a]
    by_cases b : c = 60
    · subst b; exact h60
    · rw [if_neg b]
      by_cases d : c = 13
      · subst d; exact h13
      · rw [if_neg d]; exact h0 c a b d
theorem esc_cases {P : Nat → List Nat → Prop} (h62 : P 62 [38, 103, 116, 59]) (h38 : P 38 [38, 97, 109, 112, 59]) (h60 : P 60 [38, 108, 116, 59]) (h13 : P 13 [38, 35, 49, 51, 59]) (h0 : ∀ c, P c []) (c : Nat) : P c (escN c) := by
  unfold escN
  by_cases a : c = 62
  · subst a; exact h62
  · rw [if_neg a]; exact ins_cases h38 h60 h13 (fun c _ _ _ => h0 c) c
theorem quo_cases {P : Nat → List Nat → Prop} (h34 : P 34 [38, 113, 117, 111, 116, 59]) (h9 : P 9 [38, 35, 57, 59]) (h10 : P 10 [38, 35, 49, 48, 59]) (h38 : P 38 [38, 97, 109, 112, 59]) (h60 : P 60 [38, 108, 116, 59]) (h13 : P 13 [38, 35, 49, 51, 59]) (h0 : ∀ c, P c []) (c : Nat) : P c (quoN c) := by
  unfold quoN
  by_cases a : c = 34
  · subst a; exact h34
  · rw [if_neg a]
    by_cases b : c = 9
    · subst b; exact h9
    · rw [if_neg b]
      by_cases d : c = 10
      · subst d; exact h10
      · rw [if_neg d]; exact ins_cases h38 h60 h13 (fun c _ _ _ => h0 c) c
theorem esc_ref : RefN escN := by
  refine ⟨?_, ?_, ⟨by decide, by decide⟩, ?_⟩
  · exact esc_cases (P := fun c o => o ≠ [] → ∀ Z, ∃ nm, readRef (o ++ Z) = some ⟨[c], nm, o.length⟩) (fun _ Z => ⟨_, rfl⟩) (fun _ Z => ⟨_, rfl⟩) (fun _ Z => ⟨_, rfl⟩) (fun _ Z => ⟨_, rfl⟩) (fun c h => absurd rfl h)
  · exact esc_cases (P := fun _ o => o ≠ [] → ∃ t, o = 38 :: t) (fun _ => ⟨_, rfl⟩) (fun _ => ⟨_, rfl⟩) (fun _ => ⟨_, rfl⟩) (fun _ => ⟨_, rfl⟩) (fun c h => absurd rfl h)
  · exact esc_cases (P := fun _ o => okL o) (okL_of (by decide)) (okL_of (by decide)) (okL_of (by decide)) (okL_of (by decide)) (fun c x h => by cases h)
theorem quo_ref : RefN quoN := by
  refine ⟨?_, ?_, ⟨by decide, by decide⟩, ?_⟩
  · exact quo_cases (P := fun c o => o ≠ [] → ∀ Z, ∃ nm, readRef (o ++ Z) = some ⟨[c], nm, o.length⟩) (fun _ Z => ⟨_, rfl⟩) (fun _ Z => ⟨_, rfl⟩) (fun _ Z => ⟨_, rfl⟩) (fun _ Z => ⟨_, rfl⟩) (fun _ Z => ⟨_, rfl⟩) (fun _ Z => ⟨_, rfl⟩) (fun c h => absurd rfl h)
  · exact quo_cases (P := fun _ o => o ≠ [] → ∃ t, o = 38 :: t) (fun _ => ⟨_, rfl⟩) (fun _ => ⟨_, rfl⟩) (fun _ => ⟨_, rfl⟩) (fun _ => ⟨_, rfl⟩) (fun _ => ⟨_, rfl⟩) (fun _ => ⟨_, rfl⟩) (fun c h => absurd rfl h)
  · exact quo_cases (P := fun _ o => okL o) (okL_of (by decide)) (okL_of (by decide)) (okL_of (by decide)) (okL_of (by decide)) (okL_of (by decide)) (okL_of (by decide)) (fun c x h => by cases h)
theorem mapN_cons (o : Nat → List Nat) (c : Nat) (t : List Nat) : mapN o (c :: t) = oneN o c ++ mapN o t := rfl
end Go.Proofs.YtjjggncbhenffaaGreatDoor
