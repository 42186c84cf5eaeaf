/- Several texts, laid as one. -/
import Derived.Test.YthkkfldmoflfaaaGreatDoorGaa
import Derived.Test.YthkkfldmoflfaaaGreatDoorGal
/- Expressions ahead of what closes them are parsed as they are alone. -/
namespace Go.Proofs.YthkkfldmoflfaaaGreatDoor
theorem PR.inv {α β : Type} {r : PR α} {f : α → PS → PR β} {b : β} {s : PS} (h : r.bind f = .ok b s) : ∃ a s1, r = .ok a s1 ∧ f a s1 = .ok b s := by
  cases r with
  | out => cases h
  | fail => cases h
  | ok a s1 => exact ⟨a, s1, rfl, h⟩
/-- Nothing, or what begins with a ) or a , . -/
def clo (R : List (Nat × List Nat)) : Prop := ∀ x, R.head? = some x → x.1 = 9 ∧ (x.2 = [41] ∨ x.2 = [44])
/-- Where a parser stands, with R behind its tokens, a more ( ) around it, and e open once. -/
def sh (R : List (Nat × List Nat)) (a e : Nat) (s : PS) : PS := ⟨s.left ++ R, s.opn + a, max (s.dp + a) e⟩
section
variable {R : List (Nat × List Nat)} {a e : Nat}
theorem head_true {k : Nat} {t : List Nat} {s : PS} (h : headIs k t s = true) : s.left ≠ [] := fun hl => by
  unfold headIs at h
  rw [hl] at h
  cases h
theorem sees_true {k : Nat} {s : PS} (h : seesK k s = true) : s.left ≠ [] := fun hl => by
  unfold seesK at h
  rw [hl] at h
  cases h
theorem head_shn {k : Nat} {t : List Nat} {s : PS} (h : s.left ≠ []) : headIs k t (sh R a e s) = headIs k t s := by
  unfold headIs sh
  cases hl : s.left with
  | nil => exact absurd hl h
  | cons x r => rfl
theorem head_sh {k : Nat} {t : List Nat} (hR : clo R) (hk : k ≠ 9 ∨ (t ≠ [41] ∧ t ≠ [44])) (s : PS) : headIs k t (sh R a e s) = headIs k t s := by
  by_cases h : s.left = []
  · unfold headIs sh
    rw [h]
    cases R with
    | nil => rfl
    | cons x r =>
      obtain ⟨h1, h2⟩ := hR x rfl
      show (x.1 == k && x.2 == t) = false
      rw [Bool.and_eq_false_iff]
      rcases hk with hk | ⟨h3, h4⟩
      · exact .inl (by rw [h1]; simpa using Ne.symm hk)
      · refine .inr ?_
        rcases h2 with h2 | h2 <;> rw [h2]
        · simpa using Ne.symm h3
        · simpa using Ne.symm h4
  · exact head_shn h
theorem sees_sh {k : Nat} (hR : clo R) (hk : k ≠ 9) (s : PS) : seesK k (sh R a e s) = seesK k s := by
  unfold seesK sh
  cases hl : s.left with
  | nil =>
    cases R with
    | nil => rfl
    | cons x r =>
      have h1 := (hR x rfl).1
      show (x.1 == k) = false
      rw [h1]
      simpa using Ne.symm hk
  | cons x r => rfl
theorem headT_sh {s : PS} (h : s.left ≠ []) : headT (sh R a e s) = headT s := by
  unfold headT sh
  cases hl : s.left with
  | nil => exact absurd hl h
  | cons x r => rfl
theorem pop_sh {s : PS} (h : s.left ≠ []) : (sh R a e s).pop = sh R a e s.pop := by
  unfold PS.pop sh
  cases hl : s.left with
  | nil => exact absurd hl h
  | cons x r => rfl
theorem oper_sh (hR : clo R) (g : Nat) (s : PS) : operOf g (sh R a e s) = operOf g s := by
  unfold operOf
  rw [find_cong fun o _ => by rw [head_sh hR (.inl (by decide)) s]]
theorem begStep_sh (hR : clo R) (s : PS) : begStep (sh R a e s) = begStep s := by
  unfold begStep
  rw [head_sh hR (.inr (by decide)) s, head_sh hR (.inr (by decide)) s, head_sh hR (.inr (by decide)) s, sees_sh hR (by decide) s, sees_sh hR (by decide) s, sees_sh hR (by decide) s]
theorem axisP_sh (hR : clo R) {s s1 : PS} {x : Nat} (h : axisP s = some (x, s1)) : axisP (sh R a e s) = some (x, sh R a e s1) := by
  unfold axisP at h ⊢
  rw [head_sh hR (.inr (by decide)) s, sees_sh hR (by decide) s]
  split at h
  · rename_i h0
    cases h
    rw [if_pos h0, pop_sh (head_true h0)]
  · rename_i h0
    rw [if_neg h0]
    split at h
    · rename_i h1
      rw [if_pos h1, pop_sh (sees_true h1), head_sh hR (.inr (by decide)) s.pop, headT_sh (sees_true h1)]
      split at h
      · rename_i h2
        rw [if_pos h2, pop_sh (head_true h2)]
        cases hx : axisNo (headT s) with
        | none => rw [hx] at h; cases h
        | some k => rw [hx] at h; cases h; rfl
      · cases h
    · rename_i h1
      cases h
      rw [if_neg h1]
theorem typeP_sh (hR : clo R) {s s1 : PS} {x : Nat} {t : List Nat} (h : typeP s = some (x, t, s1)) : typeP (sh R a e s) = some (x, t, sh R a e s1) := by
  unfold typeP at h ⊢
  rw [sees_sh hR (by decide) s]
  split at h
  · rename_i h0
    rw [if_pos h0, headT_sh (sees_true h0), pop_sh (sees_true h0)]
    cases hk : typeNo (headT s) with
    | none => rw [hk] at h; cases h
    | some k =>
      rw [hk] at h
      simp only at h ⊢
      rw [head_sh hR (.inr (by decide)) s.pop]
      split at h
      · rename_i h1
        rw [if_pos h1, pop_sh (head_true h1), sees_sh hR (by decide) s.pop.pop]
        split at h
        · rename_i h2
          have h3 := h2
          rw [Bool.and_eq_true] at h3
          rw [if_pos h2, pop_sh (sees_true h3.2), headT_sh (sees_true h3.2)]
          split at h
          · rename_i h4
            cases h
            rw [head_shn (head_true h4), if_pos h4, pop_sh (head_true h4)]
          · cases h
        · rename_i h2
          rw [if_neg h2]
          split at h
          · rename_i h4
            cases h
            rw [head_shn (head_true h4), if_pos h4, pop_sh (head_true h4)]
          · cases h
      · cases h
  · cases h
theorem testP_sh (hR : clo R) {s s1 : PS} {x : Nat} {t : List Nat} (h : testP s = some (x, t, s1)) : testP (sh R a e s) = some (x, t, sh R a e s1) := by
  unfold testP at h ⊢
  rw [sees_sh hR (by decide) s]
  split at h
  · rename_i h0
    rw [if_pos h0, headT_sh (sees_true h0), pop_sh (sees_true h0)]
    split at h
    · rename_i h1; cases h; rw [if_pos h1]
    · rename_i h1
      rw [if_neg h1]
      split at h
      · rename_i h2; cases h; rw [if_pos h2]
      · rename_i h2; cases h; rw [if_neg h2]
  · rename_i h0
    rw [if_neg h0]
    exact typeP_sh hR h
end
/-- An expression has a token. -/
theorem ne_all (num : List Nat → Option Int) : ∀ n, (∀ g s x s', exprP num n g s = .ok x s' → s.left ≠ []) ∧ (∀ s x s', negP num n s = .ok x s' → s.left ≠ []) ∧ (∀ s x s', pathP num n s = .ok x s' → s.left ≠ []) ∧ (∀ s x s', filtP num n s = .ok x s' → s.left ≠ []) ∧ (∀ s x s', primP num n s = .ok x s' → s.left ≠ [])
  | 0 => by
    refine ⟨?_, ?_, ?_, ?_, ?_⟩ <;> intros <;> rename_i h <;> simp only [exprP, negP, pathP, filtP, primP] at h <;> cases h
  | n + 1 => by
    obtain ⟨hE, hN, hP, hF, hR⟩ := ne_all num n
    refine ⟨?_, ?_, ?_, ?_, ?_⟩
    · intro g s x s' h
      rw [exprP] at h
      split at h
      · exact hN _ _ _ h
      · split at h
        · exact hP _ _ _ h
        · obtain ⟨y, s1, h1, _⟩ := PR.inv h
          exact hE _ _ _ _ h1
    · intro s x s' h
      rw [negP] at h
      split at h
      · rename_i h0; exact head_true h0
      · exact hE _ _ _ _ h
    · intro s x s' h
      rw [pathP] at h
      split at h
      · rename_i h0; exact head_true h0
      · split at h
        · rename_i h0; exact head_true h0
        · split at h
          · rename_i h0
            unfold begStep at h0
            simp only [Bool.or_eq_true] at h0
            rcases h0 with ((((h0 | h0) | h0) | h0) | h0) | h0
            · exact head_true h0
            · exact head_true h0
            · exact head_true h0
            · exact sees_true h0
            · exact sees_true h0
            · exact sees_true h0
          · obtain ⟨y, s1, h1, _⟩ := PR.inv h
            exact hF _ _ _ h1
    · intro s x s' h
      rw [filtP] at h
      obtain ⟨y, s1, h1, _⟩ := PR.inv h
      exact hR _ _ _ h1
    · intro s x s' h
      rw [primP] at h
      split at h
      · rename_i h0; exact head_true h0
      · split at h
        · rename_i h0; exact sees_true h0
        · split at h
          · rename_i h0; exact sees_true h0
          · split at h
            · rename_i h0; exact sees_true h0
            · split at h
              · rename_i h0; exact sees_true h0
              · cases h
theorem frame_all (num : List Nat → Option Int) (R : List (Nat × List Nat)) (hR : clo R) (a e : Nat) : ∀ n, (∀ g s x s' m, n ≤ m → exprP num n g s = .ok x s' → exprP num m g (sh R a e s) = .ok x (sh R a e s')) ∧ (∀ g y s x s' m, n ≤ m → opsP num n g y s = .ok x s' → opsP num m g y (sh R a e s) = .ok x (sh R a e s')) ∧ (∀ s x s' m, n ≤ m → negP num n s = .ok x s' → negP num m (sh R a e s) = .ok x (sh R a e s')) ∧ (∀ s x s' m, n ≤ m → pathP num n s = .ok x s' → pathP num m (sh R a e s) = .ok x (sh R a e s')) ∧ (∀ ks s x s' m, n ≤ m → moreP num n ks s = .ok x s' → moreP num m ks (sh R a e s) = .ok x (sh R a e s')) ∧ (∀ s x s' m, n ≤ m → stepP num n s = .ok x s' → stepP num m (sh R a e s) = .ok x (sh R a e s')) ∧ (∀ ks s x s' m, n ≤ m → predsP num n ks s = .ok x s' → predsP num m ks (sh R a e s) = .ok x (sh R a e s')) ∧ (∀ s x s' m, n ≤ m → filtP num n s = .ok x s' → filtP num m (sh R a e s) = .ok x (sh R a e s')) ∧ (∀ s x s' m, n ≤ m → primP num n s = .ok x s' → primP num m (sh R a e s) = .ok x (sh R a e s')) ∧ (∀ s x s' m, n ≤ m → brP num n s = .ok x s' → brP num m (sh R a e s) = .ok x (sh R a e s')) ∧ (∀ s x s' m, n ≤ m → argsP num n s = .ok x s' → argsP num m (sh R a e s) = .ok x (sh R a e s')) ∧ (∀ ks s x s' m, n ≤ m → argsGoP num n ks s = .ok x s' → argsGoP num m ks (sh R a e s) = .ok x (sh R a e s'))
  | 0 => by
    refine ⟨?_, ?_, ?_, ?_, ?_, ?_, ?_, ?_, ?_, ?_, ?_, ?_⟩ <;> intros <;> rename_i h <;> simp only [exprP, opsP, negP, pathP, moreP, stepP, predsP, filtP, primP, brP, argsP, argsGoP] at h <;> cases h
  | n + 1 => by
    obtain ⟨hE, hO, hN, hP, hM, hS, hQ, hF, hPr, hB, hA, hG⟩ := frame_all num R hR a e n
    refine ⟨?_, ?_, ?_, ?_, ?_, ?_, ?_, ?_, ?_, ?_, ?_, ?_⟩
    · intro g s x s' m hm h
      obtain ⟨m, rfl⟩ : ∃ k, m = k + 1 := ⟨m - 1, by omega⟩
      have hm : n ≤ m := by omega
      rw [exprP] at h ⊢
      split at h
      · rename_i h0; rw [if_pos h0]; exact hN _ _ _ m hm h
      · rename_i h0
        rw [if_neg h0]
        split at h
        · rename_i h1; rw [if_pos h1]; exact hP _ _ _ m hm h
        · rename_i h1
          rw [if_neg h1]
          obtain ⟨y, s1, h2, h3⟩ := PR.inv h
          rw [hE _ _ _ _ m hm h2, PR.bind_ok]
          exact hO _ _ _ _ _ m hm h3
    · intro g y s x s' m hm h
      obtain ⟨m, rfl⟩ : ∃ k, m = k + 1 := ⟨m - 1, by omega⟩
      have hm : n ≤ m := by omega
      rw [opsP] at h ⊢
      rw [oper_sh hR]
      cases ho : operOf g s with
      | none => rw [ho] at h; cases h; rfl
      | some op =>
        rw [ho] at h
        simp only at h ⊢
        have hne : s.left ≠ [] := fun hl => by have := oper_pop ho; rw [hl] at this; cases this
        obtain ⟨z, s1, h2, h3⟩ := PR.inv h
        rw [pop_sh hne, hE _ _ _ _ m hm h2, PR.bind_ok]
        exact hO _ _ _ _ _ m hm h3
    · intro s x s' m hm h
      obtain ⟨m, rfl⟩ : ∃ k, m = k + 1 := ⟨m - 1, by omega⟩
      have hm : n ≤ m := by omega
      rw [negP] at h ⊢
      rw [head_sh hR (.inl (by decide))]
      split at h
      · rename_i h0
        obtain ⟨z, s1, h2, h3⟩ := PR.inv h
        cases h3
        rw [if_pos h0, pop_sh (head_true h0), hN _ _ _ m hm h2, PR.bind_ok]
      · rename_i h0; rw [if_neg h0]; exact hE _ _ _ _ m hm h
    · intro s x s' m hm h
      obtain ⟨m, rfl⟩ : ∃ k, m = k + 1 := ⟨m - 1, by omega⟩
      have hm : n ≤ m := by omega
      rw [pathP] at h ⊢
      rw [head_sh hR (.inl (by decide)), head_sh hR (.inl (by decide)), begStep_sh hR s]
      split at h
      · rename_i h0
        rw [if_pos h0, pop_sh (head_true h0), begStep_sh hR]
        split at h
        · rename_i h1
          obtain ⟨z, s1, h2, h3⟩ := PR.inv h
          obtain ⟨ks, s2, h4, h5⟩ := PR.inv h3
          cases h5
          rw [if_pos h1, hS _ _ _ m hm h2, PR.bind_ok, hM _ _ _ _ m hm h4, PR.bind_ok]
        · rename_i h1
          cases h
          rw [if_neg h1]
      · rename_i h0
        rw [if_neg h0]
        split at h
        · rename_i h1
          obtain ⟨z, s1, h2, h3⟩ := PR.inv h
          obtain ⟨ks, s2, h4, h5⟩ := PR.inv h3
          cases h5
          rw [if_pos h1, pop_sh (head_true h1), hS _ _ _ m hm h2, PR.bind_ok, hM _ _ _ _ m hm h4, PR.bind_ok]
        · rename_i h1
          rw [if_neg h1]
          split at h
          · rename_i h6
            obtain ⟨z, s1, h2, h3⟩ := PR.inv h
            obtain ⟨ks, s2, h4, h5⟩ := PR.inv h3
            cases h5
            rw [if_pos h6, hS _ _ _ m hm h2, PR.bind_ok, hM _ _ _ _ m hm h4, PR.bind_ok]
          · rename_i h6
            obtain ⟨z, s1, h2, h3⟩ := PR.inv h
            obtain ⟨ks, s2, h4, h5⟩ := PR.inv h3
            cases h5
            rw [if_neg h6, hF _ _ _ m hm h2, PR.bind_ok, hM _ _ _ _ m hm h4, PR.bind_ok]
    · intro ks s x s' m hm h
      obtain ⟨m, rfl⟩ : ∃ k, m = k + 1 := ⟨m - 1, by omega⟩
      have hm : n ≤ m := by omega
      rw [moreP] at h ⊢
      rw [head_sh hR (.inl (by decide)), head_sh hR (.inl (by decide))]
      split at h
      · rename_i h0
        obtain ⟨z, s1, h2, h3⟩ := PR.inv h
        rw [if_pos h0, pop_sh (head_true h0), hS _ _ _ m hm h2, PR.bind_ok]
        exact hM _ _ _ _ m hm h3
      · rename_i h0
        rw [if_neg h0]
        split at h
        · rename_i h1
          obtain ⟨z, s1, h2, h3⟩ := PR.inv h
          rw [if_pos h1, pop_sh (head_true h1), hS _ _ _ m hm h2, PR.bind_ok]
          exact hM _ _ _ _ m hm h3
        · rename_i h1
          cases h
          rw [if_neg h1]
    · intro s x s' m hm h
      obtain ⟨m, rfl⟩ : ∃ k, m = k + 1 := ⟨m - 1, by omega⟩
      have hm : n ≤ m := by omega
      rw [stepP] at h ⊢
      rw [head_sh hR (.inr (by decide)), head_sh hR (.inr (by decide))]
      split at h
      · rename_i h0; cases h; rw [if_pos h0, pop_sh (head_true h0)]
      · rename_i h0
        rw [if_neg h0]
        split at h
        · rename_i h1; cases h; rw [if_pos h1, pop_sh (head_true h1)]
        · rename_i h1
          rw [if_neg h1]
          cases hx : axisP s with
          | none => rw [hx] at h; cases h
          | some b =>
            obtain ⟨b, s1⟩ := b
            rw [hx] at h
            rw [axisP_sh hR hx]
            simp only at h ⊢
            cases hy : testP s1 with
            | none => rw [hy] at h; cases h
            | some c =>
              obtain ⟨c, tt, s2⟩ := c
              rw [hy] at h
              rw [testP_sh hR hy]
              simp only at h ⊢
              obtain ⟨ks, s3, h4, h5⟩ := PR.inv h
              cases h5
              rw [hQ _ _ _ _ m hm h4, PR.bind_ok]
    · intro ks s x s' m hm h
      obtain ⟨m, rfl⟩ : ∃ k, m = k + 1 := ⟨m - 1, by omega⟩
      have hm : n ≤ m := by omega
      rw [predsP] at h ⊢
      rw [head_sh hR (.inr (by decide))]
      split at h
      · rename_i h0
        obtain ⟨z, s1, h2, h3⟩ := PR.inv h
        rw [if_pos h0, pop_sh (head_true h0), hE _ _ _ _ m hm h2, PR.bind_ok]
        rw [head_sh hR (.inr (by decide))]
        split at h3
        · rename_i h4
          rw [if_pos h4, pop_sh (head_true h4)]
          exact hQ _ _ _ _ m hm h3
        · cases h3
      · rename_i h0
        cases h
        rw [if_neg h0]
    · intro s x s' m hm h
      obtain ⟨m, rfl⟩ : ∃ k, m = k + 1 := ⟨m - 1, by omega⟩
      have hm : n ≤ m := by omega
      rw [filtP] at h ⊢
      obtain ⟨z, s1, h2, h3⟩ := PR.inv h
      rw [hPr _ _ _ m hm h2, PR.bind_ok]
      split at h3
      · rename_i h4
        obtain ⟨ks, s3, h5, h6⟩ := PR.inv h3
        cases h6
        rw [if_pos h4, hQ _ _ _ _ m hm h5, PR.bind_ok]
      · rename_i h4
        obtain ⟨ks, s3, h5, h6⟩ := PR.inv h3
        cases h6
        rw [if_neg h4, hQ _ _ _ _ m hm h5, PR.bind_ok]
    · intro s x s' m hm h
      obtain ⟨m, rfl⟩ : ∃ k, m = k + 1 := ⟨m - 1, by omega⟩
      have hm : n ≤ m := by omega
      rw [primP] at h ⊢
      rw [head_sh hR (.inr (by decide)), sees_sh hR (by decide), sees_sh hR (by decide), sees_sh hR (by decide), sees_sh hR (by decide)]
      split at h
      · rename_i h0
        rw [if_pos h0, pop_sh (head_true h0)]
        exact hB _ _ _ m hm h
      · rename_i h0
        rw [if_neg h0]
        split at h
        · rename_i h1
          rw [if_pos h1, headT_sh (sees_true h1), pop_sh (sees_true h1)]
          cases hv : num (headT s) with
          | none => rw [hv] at h; cases h
          | some v => rw [hv] at h; cases h; rfl
        · rename_i h1
          rw [if_neg h1]
          split at h
          · rename_i h2
            cases h
            rw [if_pos h2, headT_sh (sees_true h2), pop_sh (sees_true h2)]
          · rename_i h2
            rw [if_neg h2]
            split at h
            · rename_i h3
              cases h
              rw [if_pos h3, headT_sh (sees_true h3), pop_sh (sees_true h3)]
            · rename_i h3
              rw [if_neg h3]
              split at h
              · rename_i h4
                obtain ⟨ks, s3, h5, h6⟩ := PR.inv h
                cases h6
                rw [if_pos h4, headT_sh (sees_true h4), pop_sh (sees_true h4), hA _ _ _ m hm h5, PR.bind_ok]
              · cases h
    · intro s x s' m hm h
      obtain ⟨m, rfl⟩ : ∃ k, m = k + 1 := ⟨m - 1, by omega⟩
      have hm : n ≤ m := by omega
      rw [brP] at h ⊢
      obtain ⟨z, s1, h2, h3⟩ := PR.inv h
      have ho : s1.opn = s.opn + 1 := ((pres_all num n).1 _ _ _ _ h2).1
      have e1 : (⟨(sh R a e s).left, (sh R a e s).opn + 1, max (sh R a e s).dp ((sh R a e s).opn + 1)⟩ : PS) = sh R a e ⟨s.left, s.opn + 1, max s.dp (s.opn + 1)⟩ := by
        show (⟨s.left ++ R, s.opn + a + 1, max (max (s.dp + a) e) (s.opn + a + 1)⟩ : PS) = ⟨s.left ++ R, s.opn + 1 + a, max (max s.dp (s.opn + 1) + a) e⟩
        rw [show s.opn + a + 1 = s.opn + 1 + a by omega, show max (max (s.dp + a) e) (s.opn + 1 + a) = max (max s.dp (s.opn + 1) + a) e by omega]
      rw [e1, hE _ _ _ _ m hm h2, PR.bind_ok]
      split at h3
      · rename_i h4
        cases h3
        rw [head_shn (head_true h4), if_pos h4]
        have e2 : (⟨(sh R a e s1).left.tail, (sh R a e s1).opn - 1, (sh R a e s1).dp⟩ : PS) = sh R a e ⟨s1.left.tail, s1.opn - 1, s1.dp⟩ := by
          have hne := head_true h4
          show (⟨(s1.left ++ R).tail, s1.opn + a - 1, max (s1.dp + a) e⟩ : PS) = ⟨s1.left.tail ++ R, s1.opn - 1 + a, max (s1.dp + a) e⟩
          rw [show s1.opn + a - 1 = s1.opn - 1 + a by omega]
          cases hl : s1.left with
          | nil => exact absurd hl hne
          | cons x r => rfl
        rw [e2]
      · cases h3
    · intro s x s' m hm h
      obtain ⟨m, rfl⟩ : ∃ k, m = k + 1 := ⟨m - 1, by omega⟩
      have hm : n ≤ m := by omega
      rw [argsP] at h ⊢
      rw [head_sh hR (.inr (by decide))]
      split at h
      · rename_i h0
        rw [if_pos h0, pop_sh (head_true h0)]
        split at h
        · rename_i h1
          cases h
          rw [head_shn (head_true h1), if_pos h1, pop_sh (head_true h1)]
        · rename_i h1
          have hne : s.pop.left ≠ [] := by
            cases n with
            | zero => rw [argsGoP] at h; cases h
            | succ k =>
              have h' := h
              rw [argsGoP] at h'
              obtain ⟨z, s1, h2, _⟩ := PR.inv h'
              exact (ne_all num k).1 _ _ _ _ h2
          rw [head_shn hne, if_neg h1]
          exact hG _ _ _ _ m hm h
      · cases h
    · intro ks s x s' m hm h
      obtain ⟨m, rfl⟩ : ∃ k, m = k + 1 := ⟨m - 1, by omega⟩
      have hm : n ≤ m := by omega
      rw [argsGoP] at h ⊢
      obtain ⟨z, s1, h2, h3⟩ := PR.inv h
      rw [hE _ _ _ _ m hm h2, PR.bind_ok]
      split at h3
      · rename_i h4
        rw [head_shn (head_true h4), if_pos h4, pop_sh (head_true h4)]
        exact hG _ _ _ _ m hm h3
      · rename_i h4
        split at h3
        · rename_i h5
          cases h3
          rw [head_shn (head_true h5), if_neg h4, head_shn (head_true h5), if_pos h5, pop_sh (head_true h5)]
        · cases h3
end Go.Proofs.YthkkfldmoflfaaaGreatDoor
/- Expressions in ( ), and the sum of two. -/
namespace Go.Proofs.YthkkfldmoflfaaaGreatDoor
theorem clo_nil : clo [] := fun _ h => by cases h
theorem clo_close (R : List (Nat × List Nat)) : clo ((9, [41]) :: R) := fun x h => by cases h; exact ⟨rfl, .inl rfl⟩
theorem sh_nil (s : PS) : sh [] 0 0 s = s := by
  unfold sh
  rw [List.append_nil, Nat.add_zero, Nat.add_zero, Nat.max_zero]
/-- More fuel finds the same. -/
theorem expr_mono {num : List Nat → Option Int} {n m g : Nat} {s s' : PS} {x : Ex} (hm : n ≤ m) (h : exprP num n g s = .ok x s') : exprP num m g s = .ok x s' := by
  have := (frame_all num [] clo_nil 0 0 n).1 g s x s' m hm h
  rwa [sh_nil, sh_nil] at this
/-- No more of an expression of grammar g, or of a stronger one. -/
def stops (R : List (Nat × List Nat)) (g : Nat) : Prop := ∀ o D, headIs 9 [91] ⟨R, o, D⟩ = false ∧ headIs 8 [47] ⟨R, o, D⟩ = false ∧ headIs 8 [47, 47] ⟨R, o, D⟩ = false ∧ ∀ q, g ≤ q → operOf q ⟨R, o, D⟩ = none
theorem stops_nil (g : Nat) : stops [] g := fun o D => ⟨rfl, rfl, rfl, fun q _ => by
  unfold operOf
  rw [show opTab.find? (fun p => p.2.2 == q && headIs 8 p.1 ⟨[], o, D⟩) = none from List.find?_eq_none.2 fun p _ => by
    rw [show headIs 8 p.1 ⟨[], o, D⟩ = false from rfl, Bool.and_false]
    decide]
  rfl⟩
end Go.Proofs.YthkkfldmoflfaaaGreatDoor
/- Calls: how they are parsed. -/
namespace Go.Proofs.YthkkfldmoflfaaaGreatDoor
theorem head_other {k k' : Nat} {t t' : List Nat} {s : PS} (h : headIs k t s = true) (hd : ¬(k' = k ∧ t' = t)) : headIs k' t' s = false := by
  unfold headIs at h ⊢
  cases hl : s.left with
  | nil => rfl
  | cons x r =>
    rw [hl] at h
    simp only [Bool.and_eq_true, beq_iff_eq] at h
    show (x.1 == k' && x.2 == t') = false
    rw [h.1, h.2, Bool.and_eq_false_iff]
    by_cases e : k' = k
    · refine .inr ?_
      have : t' ≠ t := fun e2 => hd ⟨e, e2⟩
      simpa using Ne.symm this
    · refine .inl ?_
      simpa using Ne.symm e
theorem sees_other {k k' : Nat} {t' : List Nat} {s : PS} (h : seesK k s = true) (hd : k' ≠ k) : headIs k' t' s = false := by
  unfold seesK at h
  unfold headIs
  cases hl : s.left with
  | nil => rfl
  | cons x r =>
    rw [hl] at h
    simp only [beq_iff_eq] at h
    show (x.1 == k' && x.2 == t') = false
    rw [h, show (k == k') = false by simpa using Ne.symm hd, Bool.false_and]
/-- No expression begins with a ). -/
theorem no41_all (num : List Nat → Option Int) : ∀ n, (∀ g s x s', exprP num n g s = .ok x s' → headIs 9 [41] s = false) ∧ (∀ s x s', negP num n s = .ok x s' → headIs 9 [41] s = false) ∧ (∀ s x s', pathP num n s = .ok x s' → headIs 9 [41] s = false) ∧ (∀ s x s', filtP num n s = .ok x s' → headIs 9 [41] s = false) ∧ (∀ s x s', primP num n s = .ok x s' → headIs 9 [41] s = false)
  | 0 => by
    refine ⟨?_, ?_, ?_, ?_, ?_⟩ <;> intros <;> rename_i h <;> simp only [exprP, negP, pathP, filtP, primP] at h <;> cases h
  | n + 1 => by
    obtain ⟨hE, hN, hP, hF, hR⟩ := no41_all num n
    refine ⟨?_, ?_, ?_, ?_, ?_⟩
    · intro g s x s' h
      rw [exprP] at h
      split at h
      · exact hN _ _ _ h
      · split at h
        · exact hP _ _ _ h
        · obtain ⟨y, s1, h1, _⟩ := PR.inv h
          exact hE _ _ _ _ h1
    · intro s x s' h
      rw [negP] at h
      split at h
      · rename_i h0; exact head_other h0 (by decide)
      · exact hE _ _ _ _ h
    · intro s x s' h
      rw [pathP] at h
      split at h
      · rename_i h0; exact head_other h0 (by decide)
      · split at h
        · rename_i h0; exact head_other h0 (by decide)
        · split at h
          · rename_i h0
            unfold begStep at h0
            simp only [Bool.or_eq_true] at h0
            rcases h0 with ((((h0 | h0) | h0) | h0) | h0) | h0
            · exact head_other h0 (by decide)
            · exact head_other h0 (by decide)
            · exact head_other h0 (by decide)
            · exact sees_other h0 (by decide)
            · exact sees_other h0 (by decide)
            · exact sees_other h0 (by decide)
          · obtain ⟨y, s1, h1, _⟩ := PR.inv h
            exact hF _ _ _ h1
    · intro s x s' h
      rw [filtP] at h
      obtain ⟨y, s1, h1, _⟩ := PR.inv h
      exact hR _ _ _ h1
    · intro s x s' h
      rw [primP] at h
      split at h
      · rename_i h0; exact head_other h0 (by decide)
      · split at h
        · rename_i h0; exact sees_other h0 (by decide)
        · split at h
          · rename_i h0; exact sees_other h0 (by decide)
          · split at h
            · rename_i h0; exact sees_other h0 (by decide)
            · split at h
              · rename_i h0; exact sees_other h0 (by decide)
              · cases h
/-- Behind a call's first argument. -/
def tlL (A : List (Nat × List Nat)) : Nat → List (Nat × List Nat)
  | 0 => [(9, [41])]
  | j + 1 => (9, [44]) :: (A ++ tlL A j)
theorem tlL_clo (A : List (Nat × List Nat)) (j : Nat) : clo (tlL A j) := by
  cases j with
  | zero => exact clo_close []
  | succ j => exact fun x h => by cases h; exact ⟨rfl, .inr rfl⟩
/-- The arguments of a call. -/
theorem args_go {num : List Nat → Option Int} {k : Nat} {A : List (Nat × List Nat)} {x : Ex} {d : Nat} (h : exprP num k 0 ⟨A, 0, 0⟩ = .ok x ⟨[], 0, d⟩) : ∀ (j : Nat) (ks : List Ex) (D : Nat), argsGoP num (k + j + 1) ks ⟨A ++ tlL A j, 0, D⟩ = .ok (ks ++ List.replicate (j + 1) x) ⟨[], 0, max d D⟩
  | 0, ks, D => by
    have h1 := (frame_all num (tlL A 0) (tlL_clo A 0) 0 D k).1 0 _ _ _ k (Nat.le_refl k) h
    have e1 : sh (tlL A 0) 0 D ⟨A, 0, 0⟩ = ⟨A ++ tlL A 0, 0, D⟩ := by
      unfold sh
      simp only
      rw [show max (0 + 0) D = D by omega]
    rw [e1] at h1
    rw [argsGoP, h1, PR.bind_ok]
    rfl
  | j + 1, ks, D => by
    have h1 := (frame_all num (tlL A (j + 1)) (tlL_clo A (j + 1)) 0 D k).1 0 _ _ _ (k + (j + 1)) (by omega) h
    have e1 : sh (tlL A (j + 1)) 0 D ⟨A, 0, 0⟩ = ⟨A ++ tlL A (j + 1), 0, D⟩ := by
      unfold sh
      simp only
      rw [show max (0 + 0) D = D by omega]
    rw [e1] at h1
    have e2 : sh (tlL A (j + 1)) 0 D ⟨[], 0, d⟩ = ⟨(9, [44]) :: (A ++ tlL A j), 0, max d D⟩ := rfl
    rw [e2] at h1
    rw [argsGoP, h1, PR.bind_ok]
    show argsGoP num (k + (j + 1)) (ks ++ [x]) ⟨A ++ tlL A j, 0, max d D⟩ = _
    rw [show k + (j + 1) = k + j + 1 by omega, args_go h j (ks ++ [x]) (max d D), List.append_assoc, show max d (max d D) = max d D by omega]
    rfl
/-- What primary tells, every grammar tells, if no step begins there, no '-', and it ends. -/
theorem lift_any {num : List Nat → Option Int} {k o' D' : Nat} {s : PS} {R : List (Nat × List Nat)} {x : Ex} (hk : 1 ≤ k) (b1 : headIs 8 [47] s = false) (b2 : headIs 8 [47, 47] s = false) (b3 : begStep s = false) (b4 : headIs 8 [45] s = false) (h : primP num k s = .ok x ⟨R, o', D'⟩) {g : Nat} (hR : stops R g) (hg : g ≤ 6) : exprP num (k + 12 - g) g s = .ok x ⟨R, o', D'⟩ := by
  obtain ⟨j, rfl⟩ : ∃ j, k = j + 1 := ⟨k - 1, by omega⟩
  obtain ⟨r1, r2, r3, r4⟩ := hR o' D'
  have hpr : ∀ (ks : List Ex) (i : Nat), predsP num (i + 1) ks ⟨R, o', D'⟩ = .ok ks ⟨R, o', D'⟩ := fun ks i => by rw [predsP, r1, if_neg (by decide)]
  have hf : filtP num (j + 2) s = .ok x ⟨R, o', D'⟩ := by
    rw [filtP, h, PR.bind_ok]
    split
    · rename_i hop
      rw [hpr, PR.bind_ok]
      cases x with
      | mk op t nu a ts ks =>
        have : op = 20 := hop
        subst this
        rfl
    · rw [hpr, PR.bind_ok]
      rfl
  have hp : pathP num (j + 3) s = .ok x ⟨R, o', D'⟩ := by
    rw [pathP, b1, b2, b3, if_neg (by decide), if_neg (by decide), if_neg (by decide), hf, PR.bind_ok, moreP, r2, r3, if_neg (by decide), if_neg (by decide), PR.bind_ok]
    rfl
  have ho : ∀ (q i : Nat), g ≤ q → opsP num (i + 1) q x ⟨R, o', D'⟩ = .ok x ⟨R, o', D'⟩ := fun q i hq => by rw [opsP, r4 q hq]
  have h8 : exprP num (j + 4) 8 s = .ok x ⟨R, o', D'⟩ := by rw [exprP, if_neg (by decide), if_pos rfl, hp]
  have h7 : exprP num (j + 5) 7 s = .ok x ⟨R, o', D'⟩ := by rw [exprP, if_neg (by decide), if_neg (by decide), h8, PR.bind_ok, ho 7 _ (by omega)]
  have hn : negP num (j + 6) s = .ok x ⟨R, o', D'⟩ := by rw [negP, b4, if_neg (by decide), h7]
  have h6 : exprP num (j + 7) 6 s = .ok x ⟨R, o', D'⟩ := by rw [exprP, if_pos rfl, hn]
  have hall : ∀ i, i ≤ 6 → g + i ≤ 6 → exprP num (j + 7 + i) (6 - i) s = .ok x ⟨R, o', D'⟩ := by
    intro i
    induction i with
    | zero => intro _ _; exact h6
    | succ i ih =>
      intro h1 h2
      have := ih (by omega) (by omega)
      rw [show j + 7 + (i + 1) = (j + 7 + i) + 1 by omega, exprP, if_neg (by omega), if_neg (by omega), show 6 - (i + 1) + 1 = 6 - i by omega, this, PR.bind_ok, show j + 7 + i = (j + 6 + i) + 1 by omega, ho _ _ (by omega)]
  have := hall (6 - g) (by omega) (by omega)
  rwa [show j + 7 + (6 - g) = j + 1 + 12 - g by omega, show 6 - (6 - g) = g by omega] at this
/-- The call of 'f' with one argument and j more, all alike. -/
theorem expr_call {num : List Nat → Option Int} {k : Nat} {A : List (Nat × List Nat)} {x : Ex} {d : Nat} (h : exprP num k 0 ⟨A, 0, 0⟩ = .ok x ⟨[], 0, d⟩) (j : Nat) : exprP num (k + j + 15) 0 ⟨(4, [102]) :: (9, [40]) :: (A ++ tlL A j), 0, 0⟩ = .ok (.mk 19 [102] 0 0 0 (List.replicate (j + 1) x)) ⟨[], 0, d⟩ := by
  have hne := (ne_all num k).1 _ _ _ _ h
  have h41 := (no41_all num k).1 _ _ _ _ h
  have hA : headIs 9 [41] ⟨A ++ tlL A j, 0, 0⟩ = false := by
    have : headIs 9 [41] (sh (tlL A j) 0 0 ⟨A, 0, 0⟩) = false := by rw [head_shn hne]; exact h41
    exact this
  have ha : argsP num (k + j + 2) ⟨(9, [40]) :: (A ++ tlL A j), 0, 0⟩ = .ok (List.replicate (j + 1) x) ⟨[], 0, d⟩ := by
    rw [argsP, if_pos (show headIs 9 [40] ⟨(9, [40]) :: (A ++ tlL A j), 0, 0⟩ = true from rfl)]
    show (if headIs 9 [41] ⟨A ++ tlL A j, 0, 0⟩ = true then _ else argsGoP num (k + j + 1) [] ⟨A ++ tlL A j, 0, 0⟩) = _
    rw [hA, if_neg (by decide), args_go h j [] 0, List.nil_append, Nat.max_zero]
  have hp : primP num (k + j + 3) ⟨(4, [102]) :: (9, [40]) :: (A ++ tlL A j), 0, 0⟩ = .ok (.mk 19 [102] 0 0 0 (List.replicate (j + 1) x)) ⟨[], 0, d⟩ := by
    rw [primP, if_neg (show ¬ headIs 9 [40] ⟨(4, [102]) :: (9, [40]) :: (A ++ tlL A j), 0, 0⟩ = true from fun h => by cases h), if_neg (show ¬ seesK 1 ⟨(4, [102]) :: (9, [40]) :: (A ++ tlL A j), 0, 0⟩ = true from fun h => by cases h), if_neg (show ¬ seesK 2 ⟨(4, [102]) :: (9, [40]) :: (A ++ tlL A j), 0, 0⟩ = true from fun h => by cases h), if_neg (show ¬ seesK 7 ⟨(4, [102]) :: (9, [40]) :: (A ++ tlL A j), 0, 0⟩ = true from fun h => by cases h), if_pos (show seesK 4 ⟨(4, [102]) :: (9, [40]) :: (A ++ tlL A j), 0, 0⟩ = true from rfl)]
    show (argsP num (k + j + 2) ⟨(9, [40]) :: (A ++ tlL A j), 0, 0⟩).bind _ = _
    rw [ha, PR.bind_ok]
    rfl
  have := lift_any (k := k + j + 3) (by omega) rfl rfl rfl rfl hp (stops_nil 0) (by omega)
  exact this
end Go.Proofs.YthkkfldmoflfaaaGreatDoor
