/- Rows that are sorted by taking away inversions alone, over functions from places to values. -/
namespace Go.Proofs.YtoeahagloobmoaaGreatDoor
/-- What stands at each place. -/
abbrev Rw := Nat → Nat
/-- A strict order of all values. -/
structure Tot (L : Nat → Nat → Prop) : Prop where
  irr : ∀ x, ¬ L x x
  trans : ∀ x y z, L x y → L y z → L x z
  tri : ∀ x y, x ≠ y → L x y ∨ L y x
theorem Tot.asym {L : Nat → Nat → Prop} (h : Tot L) {x y : Nat} (h1 : L x y) (h2 : L y x) : False := h.irr x (h.trans x y x h1 h2)
/-- One row comes of another one by moves within some places, and no pair stands the wrong way round that did not. -/
def Fine (L : Nat → Nat → Prop) (lo hi : Nat) (a a' : Rw) : Prop := ∃ σ : Nat → Nat,
  (∀ i, lo ≤ i → i < hi → lo ≤ σ i ∧ σ i < hi) ∧ (∀ i, ¬ (lo ≤ i ∧ i < hi) → σ i = i) ∧ (∀ i j, σ i = σ j → i = j) ∧ (∀ i, a' i = a (σ i)) ∧ (∀ i j, i < j → L (a' j) (a' i) → σ i < σ j)
theorem Fine.refl (L : Nat → Nat → Prop) (lo hi : Nat) (a : Rw) : Fine L lo hi a a := ⟨id, fun _ h1 h2 => ⟨h1, h2⟩, fun _ _ => rfl, fun _ _ h => h, fun _ => rfl, fun _ _ h _ => h⟩
theorem Fine.then {L : Nat → Nat → Prop} {lo hi : Nat} {a b c : Rw} (h : Fine L lo hi a b) (k : Fine L lo hi b c) : Fine L lo hi a c := by
  obtain ⟨σ, h1, h2, h3, h4, h5⟩ := h
  obtain ⟨τ, k1, k2, k3, k4, k5⟩ := k
  refine ⟨fun i => σ (τ i), ?_, ?_, ?_, ?_, ?_⟩
  · intro i a1 a2
    exact h1 _ (k1 i a1 a2).1 (k1 i a1 a2).2
  · intro i hi
    show σ (τ i) = i
    rw [k2 i hi, h2 i hi]
  · intro i j e
    exact k3 i j (h3 _ _ e)
  · intro i
    rw [k4, h4]
  · intro i j hij hL
    have e := k5 i j hij hL
    rw [k4, k4] at hL
    exact h5 _ _ e hL
theorem Fine.wide {L : Nat → Nat → Prop} {lo hi lo' hi' : Nat} {a b : Rw} (h : Fine L lo hi a b) (h1 : lo' ≤ lo) (h2 : hi ≤ hi') : Fine L lo' hi' a b := by
  obtain ⟨σ, g1, g2, g3, g4, g5⟩ := h
  refine ⟨σ, ?_, ?_, g3, g4, g5⟩
  · intro i a1 a2
    by_cases hc : lo ≤ i ∧ i < hi
    · have := g1 i hc.1 hc.2
      omega
    · rw [g2 i hc]
      exact ⟨a1, a2⟩
  · intro i hi'
    exact g2 i (by omega)
theorem Fine.same {L : Nat → Nat → Prop} {lo hi : Nat} {a b : Rw} (h : Fine L lo hi a b) (i : Nat) (hi' : ¬ (lo ≤ i ∧ i < hi)) : b i = a i := by
  obtain ⟨σ, g1, g2, g3, g4, g5⟩ := h
  rw [g4, g2 i hi']
theorem Fine.from {L : Nat → Nat → Prop} {lo hi : Nat} {a b : Rw} (h : Fine L lo hi a b) (i : Nat) (h1 : lo ≤ i) (h2 : i < hi) : ∃ j, lo ≤ j ∧ j < hi ∧ b i = a j := by
  obtain ⟨σ, g1, g2, g3, g4, g5⟩ := h
  exact ⟨σ i, (g1 i h1 h2).1, (g1 i h1 h2).2, g4 i⟩
def Inj (a : Rw) : Prop := ∀ i j, a i = a j → i = j
theorem Fine.inj {L : Nat → Nat → Prop} {lo hi : Nat} {a b : Rw} (h : Fine L lo hi a b) (k : Inj a) : Inj b := by
  obtain ⟨σ, g1, g2, g3, g4, g5⟩ := h
  intro i j e
  rw [g4, g4] at e
  exact g3 i j (k _ _ e)
/-- Whatever stands the wrong way round does so by a lesser order, too. -/
def InvBy (L lt : Nat → Nat → Prop) (a : Rw) : Prop := ∀ i j, i < j → L (a j) (a i) → lt (a j) (a i)
theorem Fine.inv {L lt : Nat → Nat → Prop} {lo hi : Nat} {a b : Rw} (h : Fine L lo hi a b) (k : InvBy L lt a) : InvBy L lt b := by
  obtain ⟨σ, g1, g2, g3, g4, g5⟩ := h
  intro i j hij hL
  have e := g5 i j hij hL
  rw [g4, g4] at hL ⊢
  exact k _ _ e hL
/-- Some places in order. -/
def Srt (L : Nat → Nat → Prop) (lo hi : Nat) (a : Rw) : Prop := ∀ i j, lo ≤ i → i < j → j < hi → L (a i) (a j)
theorem Srt.part {L : Nat → Nat → Prop} {lo hi lo' hi' : Nat} {a : Rw} (h : Srt L lo hi a) (h1 : lo ≤ lo') (h2 : hi' ≤ hi) : Srt L lo' hi' a := fun i j a1 a2 a3 => h i j (by omega) a2 (by omega)
theorem Srt.keep {L : Nat → Nat → Prop} {lo hi : Nat} {a b : Rw} (h : Srt L lo hi a) (e : ∀ i, lo ≤ i → i < hi → b i = a i) : Srt L lo hi b := fun i j a1 a2 a3 => by
  rw [e i a1 (by omega), e j (by omega) a3]
  exact h i j a1 a2 a3
/-- All of some places ahead of all of others. -/
def Ahead (L : Nat → Nat → Prop) (lo mid hi : Nat) (a : Rw) : Prop := ∀ i j, lo ≤ i → i < mid → mid ≤ j → j < hi → L (a i) (a j)
theorem Srt.join {L : Nat → Nat → Prop} {lo mid hi : Nat} {a : Rw} (h : Srt L lo mid a) (k : Srt L mid hi a) (g : Ahead L lo mid hi a) : Srt L lo hi a := by
  intro i j a1 a2 a3
  by_cases hj : j < mid
  · exact h i j a1 a2 hj
  · by_cases hi : i < mid
    · exact g i j a1 hi (by omega) a3
    · exact k i j (by omega) a2 a3
theorem Ahead.left {L : Nat → Nat → Prop} {lo mid hi : Nat} {a b : Rw} (g : Ahead L lo mid hi a) (h : Fine L lo mid a b) : Ahead L lo mid hi b := by
  intro i j a1 a2 a3 a4
  obtain ⟨p, p1, p2, e⟩ := h.from i a1 a2
  rw [e, h.same j (by omega)]
  exact g p j p1 p2 a3 a4
theorem Ahead.right {L : Nat → Nat → Prop} {lo mid hi : Nat} {a b : Rw} (g : Ahead L lo mid hi a) (h : Fine L mid hi a b) : Ahead L lo mid hi b := by
  intro i j a1 a2 a3 a4
  obtain ⟨p, p1, p2, e⟩ := h.from j a3 a4
  rw [e, h.same i (by omega)]
  exact g i p a1 a2 p1 p2
/-- Two places change. -/
def swp (a : Rw) (i j : Nat) : Rw := fun k => if k = i then a j else if k = j then a i else a k
theorem swp_fine {L : Nat → Nat → Prop} (hL : Tot L) (a : Rw) (i lo hi : Nat) (h1 : lo ≤ i) (h2 : i + 1 < hi) (h : L (a (i + 1)) (a i)) : Fine L lo hi a (swp a i (i + 1)) := by
  refine ⟨fun k => if k = i then i + 1 else if k = i + 1 then i else k, ?_, ?_, ?_, ?_, ?_⟩
  · intro k a1 a2
    show lo ≤ (if k = i then i + 1 else if k = i + 1 then i else k) ∧ (if k = i then i + 1 else if k = i + 1 then i else k) < hi
    split
    · omega
    · split <;> omega
  · intro k hk
    show (if k = i then i + 1 else if k = i + 1 then i else k) = k
    rw [if_neg (by omega), if_neg (by omega)]
  · intro p q e
    simp only at e
    split at e <;> split at e <;> (try split at e) <;> (try split at e) <;> omega
  · intro k
    show (if k = i then a (i + 1) else if k = i + 1 then a i else a k) = a (if k = i then i + 1 else if k = i + 1 then i else k)
    split
    · rfl
    · split <;> rfl
  · intro p q hpq hl
    show (if p = i then i + 1 else if p = i + 1 then i else p) < (if q = i then i + 1 else if q = i + 1 then i else q)
    by_cases hc : p = i ∧ q = i + 1
    · obtain ⟨rfl, rfl⟩ := hc
      unfold swp at hl
      rw [if_neg (by omega), if_pos rfl, if_pos rfl] at hl
      exact (hL.asym h hl).elim
    · split <;> split <;> (try split) <;> (try split) <;> omega
/-- Where a value is put in among those that are in order: it stands at j, all the others to i are in order, those behind j are behind it. -/
structure InsAt (L : Nat → Nat → Prop) (lo i j : Nat) (a : Rw) : Prop where
  low : lo ≤ j
  high : j ≤ i
  others : ∀ p q, lo ≤ p → p < q → q ≤ i → p ≠ j → q ≠ j → L (a p) (a q)
  behind : ∀ q, j < q → q ≤ i → L (a j) (a q)
theorem InsAt.start {L : Nat → Nat → Prop} {lo i : Nat} {a : Rw} (h : Srt L lo i a) (hi : lo ≤ i) : InsAt L lo i i a := ⟨hi, Nat.le_refl _, fun p q a1 a2 a3 _ a5 => h p q a1 a2 (by omega), fun q a1 a2 => by omega⟩
theorem InsAt.step {L : Nat → Nat → Prop} {lo i j : Nat} {a : Rw} (h : InsAt L lo i (j + 1) a) (hj : lo ≤ j) (hl : L (a (j + 1)) (a j)) : InsAt L lo i j (swp a j (j + 1)) := by
  have hi := h.high
  refine ⟨hj, by omega, ?_, ?_⟩
  · intro p q a1 a2 a3 a4 a5
    unfold swp
    rw [if_neg a4, if_neg a5]
    by_cases hp : p = j + 1
    · rw [if_pos hp, if_neg (by omega)]
      exact h.others j q hj (by omega) a3 (by omega) (by omega)
    · rw [if_neg hp]
      by_cases hq : q = j + 1
      · rw [if_pos hq]
        exact h.others p j a1 (by omega) (by omega) hp (by omega)
      · rw [if_neg hq]
        exact h.others p q a1 a2 a3 hp hq
  · intro q a1 a2
    unfold swp
    rw [if_pos rfl, if_neg (by omega)]
    by_cases hq : q = j + 1
    · rw [if_pos hq]
      exact hl
    · rw [if_neg hq]
      exact h.behind q (by omega) a2
theorem InsAt.stop {L : Nat → Nat → Prop} (hL : Tot L) {lo i j : Nat} {a : Rw} (h : InsAt L lo i j a) (hin : Inj a) (hs : j = lo ∨ ∃ k, j = k + 1 ∧ lo ≤ k ∧ ¬ L (a j) (a k)) : Srt L lo (i + 1) a := by
  have before : ∀ p, lo ≤ p → p < j → L (a p) (a j) := by
    intro p a1 a2
    rcases hs with hs | ⟨k, rfl, hk, hn⟩
    · omega
    · have hkj : L (a k) (a (k + 1)) := by
        rcases hL.tri (a k) (a (k + 1)) (fun e => by have := hin _ _ e; omega) with h1 | h1
        · exact h1
        · exact absurd h1 hn
      by_cases hp : p = k
      · rw [hp]
        exact hkj
      · have hi := h.high
        exact hL.trans _ _ _ (h.others p k a1 (by omega) (by omega) (by omega) (by omega)) hkj
  intro p q a1 a2 a3
  by_cases hq : q = j
  · rw [hq]
    exact before p a1 (by omega)
  · by_cases hp : p = j
    · rw [hp]
      exact h.behind q (by omega) (by omega)
    · exact h.others p q a1 a2 (by omega) hp hq
end Go.Proofs.YtoeahagloobmoaaGreatDoor
