/- Several texts, laid as one. -/
import Derived.Test.YthkkfldmoflfaaaGreatDoorGaa
import Derived.Test.YthkkfldmoflfaaaGreatDoorGam
/- The judge: more fuel tells the same; what is right is right less deep, with less counted. -/
namespace Go.Proofs.YthkkfldmoflfaaaGreatDoor
theorem JR.then_fuel {a b : JR} {f g : Nat → JR} {r : Bool × Nat} (h : a.thenJ f = some r) (ha : ∀ q, a = some q → b = some q) (hf : ∀ c, f c = some r → g c = some r) : b.thenJ g = some r := by
  match a, h, ha with
  | some (true, c), h, ha => rw [ha _ rfl]; exact hf c h
  | some (false, c), h, ha => rw [ha _ rfl]; exact h
theorem j_fuel (fl : Ex → Bool) : ∀ n, (∀ d c e r m, n ≤ m → jPart fl n d c e = some r → jPart fl m d c e = some r) ∧ (∀ d c e r m, n ≤ m → jKids fl n d c e = some r → jKids fl m d c e = some r) ∧ (∀ d c e r m, n ≤ m → jRight fl n d c e = some r → jRight fl m d c e = some r) ∧ (∀ d c ks r m, n ≤ m → jAll fl n d c ks = some r → jAll fl m d c ks = some r) ∧ (∀ d c ks r m, n ≤ m → jSteps fl n d c ks = some r → jSteps fl m d c ks = some r) ∧ (∀ d c ks r m, n ≤ m → jPath fl n d c ks = some r → jPath fl m d c ks = some r)
  | 0 => by
    refine ⟨?_, ?_, ?_, ?_, ?_, ?_⟩ <;> (intros; rename_i h; simp [jPart, jKids, jRight, jAll, jSteps, jPath] at h)
  | n + 1 => by
    obtain ⟨i1, i2, i3, i4, i5, i6⟩ := j_fuel fl n
    refine ⟨?_, ?_, ?_, ?_, ?_, ?_⟩
    · intro d c e r m hm h
      obtain ⟨m, rfl⟩ : ∃ k, m = k + 1 := ⟨m - 1, by omega⟩
      rw [jPart] at h ⊢
      split at h
      · rename_i h0; rw [if_pos h0]; exact i2 _ _ _ _ m (by omega) h
      · rename_i h0; rw [if_neg h0]; exact h
    · intro d c e r m hm h
      obtain ⟨m, rfl⟩ : ∃ k, m = k + 1 := ⟨m - 1, by omega⟩
      rw [jKids] at h ⊢
      split at h
      · rename_i h0; rw [if_pos h0]; exact i6 _ _ _ _ m (by omega) h
      · rename_i h0
        rw [if_neg h0]
        split at h
        · rename_i h1; rw [if_pos h1]; exact i4 _ _ _ _ m (by omega) h
        · rename_i h1; rw [if_neg h1]; exact h
    · intro d c e r m hm h
      obtain ⟨m, rfl⟩ : ∃ k, m = k + 1 := ⟨m - 1, by omega⟩
      rw [jRight] at h ⊢
      split at h
      · rename_i h0; rw [if_pos h0]; exact i1 _ _ _ _ m (by omega) h
      · rename_i h0; rw [if_neg h0]; exact h
    · intro d c ks r m hm h
      obtain ⟨m, rfl⟩ : ∃ k, m = k + 1 := ⟨m - 1, by omega⟩
      cases ks with
      | nil => rw [jAll] at h ⊢; exact h
      | cons k ks =>
        rw [jAll] at h ⊢
        exact JR.then_fuel h (fun q hq => i3 _ _ _ _ m (by omega) hq) fun c hc => i4 _ _ _ _ m (by omega) hc
    · intro d c ks r m hm h
      obtain ⟨m, rfl⟩ : ∃ k, m = k + 1 := ⟨m - 1, by omega⟩
      cases ks with
      | nil => rw [jSteps] at h ⊢; exact h
      | cons k ks =>
        rw [jSteps] at h ⊢
        split at h
        · rename_i h0
          rw [if_pos h0]
          exact JR.then_fuel h (fun q hq => i1 _ _ _ _ m (by omega) hq) fun c hc => i5 _ _ _ _ m (by omega) hc
        · rename_i h0; rw [if_neg h0]; exact h
    · intro d c ks r m hm h
      obtain ⟨m, rfl⟩ : ∃ k, m = k + 1 := ⟨m - 1, by omega⟩
      cases ks with
      | nil => rw [jPath] at h ⊢; exact h
      | cons k ks =>
        rw [jPath] at h ⊢
        split at h
        · rename_i h0; rw [if_pos h0]; exact h
        · rename_i h0
          rw [if_neg h0]
          refine JR.then_fuel h (fun q hq => ?_) fun c hc => i5 _ _ _ _ m (by omega) hc
          split at hq
          · rename_i h1; rw [if_pos h1]; exact i1 _ _ _ _ m (by omega) hq
          · rename_i h1; rw [if_neg h1]; exact i3 _ _ _ _ m (by omega) hq
theorem j_less (fl : Ex → Bool) : ∀ n, (∀ d c e c' d2 c2, d2 ≤ d → c2 ≤ c → jPart fl n d c e = some (true, c') → ∃ k, jPart fl n d2 c2 e = some (true, k) ∧ k ≤ c') ∧ (∀ d c e c' d2 c2, d2 ≤ d → c2 ≤ c → jKids fl n d c e = some (true, c') → ∃ k, jKids fl n d2 c2 e = some (true, k) ∧ k ≤ c') ∧ (∀ d c e c' d2 c2, d2 ≤ d → c2 ≤ c → jRight fl n d c e = some (true, c') → ∃ k, jRight fl n d2 c2 e = some (true, k) ∧ k ≤ c') ∧ (∀ d c ks c' d2 c2, d2 ≤ d → c2 ≤ c → jAll fl n d c ks = some (true, c') → ∃ k, jAll fl n d2 c2 ks = some (true, k) ∧ k ≤ c') ∧ (∀ d c ks c' d2 c2, d2 ≤ d → c2 ≤ c → jSteps fl n d c ks = some (true, c') → ∃ k, jSteps fl n d2 c2 ks = some (true, k) ∧ k ≤ c') ∧ (∀ d c ks c' d2 c2, d2 ≤ d → c2 ≤ c → jPath fl n d c ks = some (true, c') → ∃ k, jPath fl n d2 c2 ks = some (true, k) ∧ k ≤ c')
  | 0 => by
    refine ⟨?_, ?_, ?_, ?_, ?_, ?_⟩ <;> (intros; rename_i h; simp [jPart, jKids, jRight, jAll, jSteps, jPath] at h)
  | n + 1 => by
    obtain ⟨i1, i2, i3, i4, i5, i6⟩ := j_less fl n
    refine ⟨?_, ?_, ?_, ?_, ?_, ?_⟩
    · intro d c e c' d2 c2 hd hc h
      rw [jPart] at h ⊢
      split at h
      · rename_i h0
        rw [if_pos ⟨by omega, by omega, h0.2.2⟩]
        exact i2 _ _ _ _ _ _ (by omega) (by omega) h
      · cases h
    · intro d c e c' d2 c2 hd hc h
      rw [jKids] at h ⊢
      split at h
      · rename_i h0; rw [if_pos h0]; exact i6 _ _ _ _ _ _ hd hc h
      · rename_i h0
        rw [if_neg h0]
        split at h
        · rename_i h1; rw [if_pos h1]; exact i4 _ _ _ _ _ _ hd hc h
        · cases h
    · intro d c e c' d2 c2 hd hc h
      rw [jRight] at h ⊢
      split at h
      · rename_i h0; rw [if_pos h0]; exact i1 _ _ _ _ _ _ hd hc h
      · cases h
    · intro d c ks c' d2 c2 hd hc h
      cases ks with
      | nil => rw [jAll] at h ⊢; cases h; exact ⟨c2, rfl, hc⟩
      | cons k ks =>
        rw [jAll] at h ⊢
        obtain ⟨c1, h1, h2⟩ := JR.then_some h
        obtain ⟨k1, h3, h4⟩ := i3 _ _ _ _ d2 c2 hd hc h1
        rw [h3, JR.then_true]
        exact i4 _ _ _ _ _ _ hd h4 h2
    · intro d c ks c' d2 c2 hd hc h
      cases ks with
      | nil => rw [jSteps] at h ⊢; cases h; exact ⟨c2, rfl, hc⟩
      | cons k ks =>
        rw [jSteps] at h ⊢
        split at h
        · rename_i h0
          rw [if_pos h0]
          obtain ⟨c1, h1, h2⟩ := JR.then_some h
          obtain ⟨k1, h3, h4⟩ := i1 _ _ _ _ d2 c2 hd hc h1
          rw [h3, JR.then_true]
          exact i5 _ _ _ _ _ _ hd h4 h2
        · cases h
    · intro d c ks c' d2 c2 hd hc h
      cases ks with
      | nil => rw [jPath] at h; cases h
      | cons k ks =>
        rw [jPath] at h ⊢
        split at h
        · cases h
        · rename_i h0
          rw [if_neg h0]
          obtain ⟨c1, h1, h2⟩ := JR.then_some h
          obtain ⟨k1, h3, h4⟩ : ∃ k1, (if k.op = 0 ∨ k.op = 22 then jPart fl n d2 c2 k else jRight fl n d2 c2 k) = some (true, k1) ∧ k1 ≤ c1 := by
            split at h1
            · rename_i h5; rw [if_pos h5]; exact i1 _ _ _ _ _ _ hd hc h1
            · rename_i h5; rw [if_neg h5]; exact i3 _ _ _ _ _ _ hd hc h1
          rw [h3, JR.then_true]
          exact i5 _ _ _ _ _ _ hd h4 h2
end Go.Proofs.YthkkfldmoflfaaaGreatDoor
/- What is left of tokens is their end. -/
namespace Go.Proofs.YthkkfldmoflfaaaGreatDoor
def Sf {α : Type} (r : PR α) (s : PS) : Prop := ∀ a s', r = .ok a s' → s'.left <:+ s.left
theorem Sf.out {α : Type} {s : PS} : Sf (.out : PR α) s := fun _ _ h => by cases h
theorem Sf.fail {α : Type} {s : PS} : Sf (.fail : PR α) s := fun _ _ h => by cases h
theorem Sf.ok {α : Type} {a : α} {s s' : PS} (h : s'.left <:+ s.left) : Sf (.ok a s') s := fun _ _ e => by cases e; exact h
theorem Sf.bind {α β : Type} {r : PR α} {f : α → PS → PR β} {s : PS} (h : Sf r s) (hf : ∀ a s', Sf (f a s') s') : Sf (r.bind f) s := by
  cases r with
  | out => exact Sf.out
  | fail => exact Sf.fail
  | ok a s' => exact fun b s2 e => (hf a s' b s2 e).trans (h a s' rfl)
theorem Sf.via {α : Type} {r : PR α} {s s0 : PS} (h : Sf r s) (hl : s.left <:+ s0.left) : Sf r s0 := fun a s' e => (h a s' e).trans hl
theorem pop_sf (s : PS) : s.pop.left <:+ s.left := List.tail_suffix _
theorem axisP_sf {s s' : PS} {a : Nat} (h : axisP s = some (a, s')) : s'.left <:+ s.left := by
  unfold axisP at h
  split at h
  · cases h; exact pop_sf s
  · split at h
    · split at h
      · cases hx : axisNo (headT s) with
        | none => rw [hx] at h; cases h
        | some k => rw [hx] at h; cases h; exact (pop_sf _).trans (pop_sf s)
      · cases h
    · cases h; exact List.suffix_refl _
theorem typeP_sf {s s' : PS} {a : Nat} {t : List Nat} (h : typeP s = some (a, t, s')) : s'.left <:+ s.left := by
  unfold typeP at h
  split at h
  · split at h
    · cases h
    · split at h
      · split at h
        · split at h
          · cases h; exact (pop_sf _).trans ((pop_sf _).trans ((pop_sf _).trans (pop_sf s)))
          · cases h
        · split at h
          · cases h; exact (pop_sf _).trans ((pop_sf _).trans (pop_sf s))
          · cases h
      · cases h
  · cases h
theorem testP_sf {s s' : PS} {a : Nat} {t : List Nat} (h : testP s = some (a, t, s')) : s'.left <:+ s.left := by
  unfold testP at h
  split at h
  · split at h
    · cases h; exact pop_sf s
    · split at h
      · cases h; exact pop_sf s
      · cases h; exact pop_sf s
  · exact typeP_sf h
theorem suf_all (num : List Nat → Option Int) : ∀ n, (∀ g s, Sf (exprP num n g s) s) ∧ (∀ g e s, Sf (opsP num n g e s) s) ∧ (∀ s, Sf (negP num n s) s) ∧ (∀ s, Sf (pathP num n s) s) ∧ (∀ ks s, Sf (moreP num n ks s) s) ∧ (∀ s, Sf (stepP num n s) s) ∧ (∀ ks s, Sf (predsP num n ks s) s) ∧ (∀ s, Sf (filtP num n s) s) ∧ (∀ s, Sf (primP num n s) s) ∧ (∀ s, Sf (brP num n s) s) ∧ (∀ s, Sf (argsP num n s) s) ∧ (∀ ks s, Sf (argsGoP num n ks s) s)
  | 0 => by
    refine ⟨?_, ?_, ?_, ?_, ?_, ?_, ?_, ?_, ?_, ?_, ?_, ?_⟩ <;> intros <;> simp only [exprP, opsP, negP, pathP, moreP, stepP, predsP, filtP, primP, brP, argsP, argsGoP] <;> exact Sf.out
  | n + 1 => by
    obtain ⟨hE, hO, hN, hP, hM, hS, hQ, hF, hR, hB, hA, hG⟩ := suf_all num n
    have rf : ∀ s : PS, s.left <:+ s.left := fun s => List.suffix_refl _
    refine ⟨?_, ?_, ?_, ?_, ?_, ?_, ?_, ?_, ?_, ?_, ?_, ?_⟩
    · intro g s
      rw [exprP]
      split
      · exact hN s
      · split
        · exact hP s
        · exact (hE _ s).bind fun a s' => hO _ _ s'
    · intro g e s
      rw [opsP]
      split
      · exact Sf.ok (rf s)
      · exact ((hE _ s.pop).via (pop_sf s)).bind fun a s' => hO _ _ s'
    · intro s
      rw [negP]
      split
      · exact ((hN s.pop).via (pop_sf s)).bind fun a s' => Sf.ok (rf s')
      · exact hE _ s
    · intro s
      rw [pathP]
      split
      · split
        · exact ((hS s.pop).via (pop_sf s)).bind fun a s' => (hM _ s').bind fun b s2 => Sf.ok (rf s2)
        · exact Sf.ok (pop_sf s)
      · split
        · exact ((hS s.pop).via (pop_sf s)).bind fun a s' => (hM _ s').bind fun b s2 => Sf.ok (rf s2)
        · split
          · exact (hS s).bind fun a s' => (hM _ s').bind fun b s2 => Sf.ok (rf s2)
          · exact (hF s).bind fun a s' => (hM _ s').bind fun b s2 => Sf.ok (rf s2)
    · intro ks s
      rw [moreP]
      split
      · exact ((hS s.pop).via (pop_sf s)).bind fun a s' => hM _ s'
      · split
        · exact ((hS s.pop).via (pop_sf s)).bind fun a s' => hM _ s'
        · exact Sf.ok (rf s)
    · intro s
      rw [stepP]
      split
      · exact Sf.ok (pop_sf s)
      · split
        · exact Sf.ok (pop_sf s)
        · split
          · exact Sf.fail
          · rename_i a s1 h1
            split
            · exact Sf.fail
            · rename_i t tt s2 h2
              exact ((hQ _ s2).via ((testP_sf h2).trans (axisP_sf h1))).bind fun b s3 => Sf.ok (rf s3)
    · intro ks s
      rw [predsP]
      split
      · refine ((hE _ s.pop).via (pop_sf s)).bind fun a s' => ?_
        split
        · exact (hQ _ s'.pop).via (pop_sf s')
        · exact Sf.fail
      · exact Sf.ok (rf s)
    · intro s
      rw [filtP]
      refine (hR s).bind fun a s' => ?_
      split
      · exact (hQ _ s').bind fun b s3 => Sf.ok (rf s3)
      · exact (hQ _ s').bind fun b s3 => Sf.ok (rf s3)
    · intro s
      rw [primP]
      split
      · exact (hB s.pop).via (pop_sf s)
      · split
        · split
          · exact Sf.fail
          · exact Sf.ok (pop_sf s)
        · split
          · exact Sf.ok (pop_sf s)
          · split
            · exact Sf.ok (pop_sf s)
            · split
              · exact ((hA s.pop).via (pop_sf s)).bind fun b s3 => Sf.ok (rf s3)
              · exact Sf.fail
    · intro s a s' e
      rw [brP] at e
      obtain ⟨z, s1, h2, h3⟩ := PR.inv e
      have h := hE 0 ⟨s.left, s.opn + 1, max s.dp (s.opn + 1)⟩ z s1 h2
      split at h3
      · cases h3
        exact (List.tail_suffix _).trans h
      · cases h3
    · intro s
      rw [argsP]
      split
      · split
        · exact Sf.ok ((pop_sf _).trans (pop_sf s))
        · exact (hG _ s.pop).via (pop_sf s)
      · exact Sf.fail
    · intro ks s
      rw [argsGoP]
      refine (hE _ s).bind fun a s' => ?_
      split
      · exact (hG _ s'.pop).via (pop_sf s')
      · split
        · exact Sf.ok (pop_sf s')
        · exact Sf.fail
end Go.Proofs.YthkkfldmoflfaaaGreatDoor
/- What is no expression alone is none ahead of a ) or a , : of tokens without ( ) , and calls. -/
namespace Go.Proofs.YthkkfldmoflfaaaGreatDoor
def Np (t : Nat × List Nat) : Prop := (t.1 = 9 → t.2 ≠ [40]) ∧ t.1 ≠ 4 ∧ t.1 ≠ 5
def noP (s : PS) : Prop := ∀ t ∈ s.left, Np t
theorem noP.suf {s s' : PS} (h : noP s) (hs : s'.left <:+ s.left) : noP s' := fun t ht => h t (hs.subset ht)
theorem noP.head {s : PS} (h : noP s) : headIs 9 [40] s = false := by
  cases hh : headIs 9 [40] s with
  | false => rfl
  | true =>
    exfalso
    unfold headIs at hh
    cases hl : s.left with
    | nil => rw [hl] at hh; cases hh
    | cons x r =>
      rw [hl] at hh
      simp only [Bool.and_eq_true, beq_iff_eq] at hh
      exact (h x (by rw [hl]; simp)).1 hh.1 hh.2
theorem noP.sees {s : PS} (h : noP s) {k : Nat} (hk : k = 4 ∨ k = 5) : seesK k s = false := by
  cases hh : seesK k s with
  | false => rfl
  | true =>
    exfalso
    unfold seesK at hh
    cases hl : s.left with
    | nil => rw [hl] at hh; cases hh
    | cons x r =>
      rw [hl] at hh
      simp only [beq_iff_eq] at hh
      have := h x (by rw [hl]; simp)
      rcases hk with rfl | rfl
      · exact this.2.1 hh
      · exact this.2.2 hh
theorem PR.invF {α β : Type} {r : PR α} {f : α → PS → PR β} (h : r.bind f = .fail) : r = .fail ∨ ∃ a s1, r = .ok a s1 ∧ f a s1 = .fail := by
  cases r with
  | out => cases h
  | fail => exact .inl rfl
  | ok a s1 => exact .inr ⟨a, s1, rfl, h⟩
section
variable {R : List (Nat × List Nat)} {a e : Nat}
theorem axisP_no (hR : clo R) {s : PS} (h : axisP s = none) : axisP (sh R a e s) = none := by
  unfold axisP at h ⊢
  rw [head_sh hR (.inr (by decide)) s, sees_sh hR (by decide) s]
  split at h
  · cases h
  · rename_i h0
    rw [if_neg h0]
    split at h
    · rename_i h1
      rw [if_pos h1, pop_sh (sees_true h1), head_sh hR (.inr (by decide)) s.pop, headT_sh (sees_true h1)]
      split at h
      · rename_i h2
        rw [if_pos h2]
        cases hx : axisNo (headT s) with
        | none => rfl
        | some k => rw [hx] at h; cases h
      · rename_i h2
        rw [if_neg h2]
    · cases h
theorem testP_no (hR : clo R) {s : PS} (hn : noP s) (h : testP s = none) : testP (sh R a e s) = none := by
  unfold testP at h ⊢
  rw [sees_sh hR (by decide) s]
  split at h
  · split at h
    · cases h
    · split at h
      · cases h
      · cases h
  · rename_i h0
    rw [if_neg h0]
    unfold typeP
    rw [sees_sh hR (by decide) s, hn.sees (.inr rfl), if_neg (by decide)]
end
theorem fail_all (num : List Nat → Option Int) (R : List (Nat × List Nat)) (hR : clo R) (a e : Nat) : ∀ n, (∀ g s m, n ≤ m → noP s → exprP num n g s = .fail → exprP num m g (sh R a e s) = .fail) ∧ (∀ g y s m, n ≤ m → noP s → opsP num n g y s = .fail → opsP num m g y (sh R a e s) = .fail) ∧ (∀ s m, n ≤ m → noP s → negP num n s = .fail → negP num m (sh R a e s) = .fail) ∧ (∀ s m, n ≤ m → noP s → pathP num n s = .fail → pathP num m (sh R a e s) = .fail) ∧ (∀ ks s m, n ≤ m → noP s → moreP num n ks s = .fail → moreP num m ks (sh R a e s) = .fail) ∧ (∀ s m, n ≤ m → noP s → stepP num n s = .fail → stepP num m (sh R a e s) = .fail) ∧ (∀ ks s m, n ≤ m → noP s → predsP num n ks s = .fail → predsP num m ks (sh R a e s) = .fail) ∧ (∀ s m, n ≤ m → noP s → filtP num n s = .fail → filtP num m (sh R a e s) = .fail) ∧ (∀ s m, n ≤ m → noP s → primP num n s = .fail → primP num m (sh R a e s) = .fail)
  | 0 => by
    refine ⟨?_, ?_, ?_, ?_, ?_, ?_, ?_, ?_, ?_⟩ <;> intros <;> rename_i h <;> simp only [exprP, opsP, negP, pathP, moreP, stepP, predsP, filtP, primP] at h <;> cases h
  | n + 1 => by
    obtain ⟨hE, hO, hN, hP, hM, hS, hQ, hF, hPr⟩ := fail_all num R hR a e n
    obtain ⟨fE, fO, fN, fP, fM, fS, fQ, fF, fPr, _⟩ := frame_all num R hR a e n
    obtain ⟨sE, sO, sN, sP, sM, sS, sQ, sF, sR, _⟩ := suf_all num n
    refine ⟨?_, ?_, ?_, ?_, ?_, ?_, ?_, ?_, ?_⟩
    · intro g s m hm hs h
      obtain ⟨m, rfl⟩ : ∃ k, m = k + 1 := ⟨m - 1, by omega⟩
      have hm : n ≤ m := by omega
      rw [exprP] at h ⊢
      split at h
      · rename_i h0; rw [if_pos h0]; exact hN _ m hm hs h
      · rename_i h0
        rw [if_neg h0]
        split at h
        · rename_i h1; rw [if_pos h1]; exact hP _ m hm hs h
        · rename_i h1
          rw [if_neg h1]
          rcases PR.invF h with h2 | ⟨y, s1, h2, h3⟩
          · rw [hE _ _ m hm hs h2, PR.bind_fail]
          · rw [fE _ _ _ _ m hm h2, PR.bind_ok]
            exact hO _ _ _ m hm (hs.suf (sE _ _ _ _ h2)) h3
    · intro g y s m hm hs h
      obtain ⟨m, rfl⟩ : ∃ k, m = k + 1 := ⟨m - 1, by omega⟩
      have hm : n ≤ m := by omega
      rw [opsP] at h ⊢
      rw [oper_sh hR]
      cases ho : operOf g s with
      | none => rw [ho] at h; cases h
      | some op =>
        rw [ho] at h
        simp only at h ⊢
        have hne : s.left ≠ [] := fun hl => by have := oper_pop ho; rw [hl] at this; cases this
        have hs1 := hs.suf (pop_sf s)
        rw [pop_sh hne]
        rcases PR.invF h with h2 | ⟨z, s1, h2, h3⟩
        · rw [hE _ _ m hm hs1 h2, PR.bind_fail]
        · rw [fE _ _ _ _ m hm h2, PR.bind_ok]
          exact hO _ _ _ m hm (hs1.suf (sE _ _ _ _ h2)) h3
    · intro s m hm hs h
      obtain ⟨m, rfl⟩ : ∃ k, m = k + 1 := ⟨m - 1, by omega⟩
      have hm : n ≤ m := by omega
      rw [negP] at h ⊢
      rw [head_sh hR (.inl (by decide))]
      split at h
      · rename_i h0
        rw [if_pos h0, pop_sh (head_true h0)]
        rcases PR.invF h with h2 | ⟨z, s1, h2, h3⟩
        · rw [hN _ m hm (hs.suf (pop_sf s)) h2, PR.bind_fail]
        · cases h3
      · rename_i h0; rw [if_neg h0]; exact hE _ _ m hm hs h
    · intro s m hm hs h
      obtain ⟨m, rfl⟩ : ∃ k, m = k + 1 := ⟨m - 1, by omega⟩
      have hm : n ≤ m := by omega
      have hs1 := hs.suf (pop_sf s)
      rw [pathP] at h ⊢
      rw [head_sh hR (.inl (by decide)), head_sh hR (.inl (by decide)), begStep_sh hR s]
      split at h
      · rename_i h0
        rw [if_pos h0, pop_sh (head_true h0), begStep_sh hR]
        split at h
        · rename_i h1
          rw [if_pos h1]
          rcases PR.invF h with h2 | ⟨z, s1, h2, h3⟩
          · rw [hS _ m hm hs1 h2, PR.bind_fail]
          · rw [fS _ _ _ m hm h2, PR.bind_ok]
            rcases PR.invF h3 with h4 | ⟨ks, s2, h4, h5⟩
            · rw [hM _ _ m hm (hs1.suf (sS _ _ _ h2)) h4, PR.bind_fail]
            · cases h5
        · cases h
      · rename_i h0
        rw [if_neg h0]
        split at h
        · rename_i h1
          rw [if_pos h1, pop_sh (head_true h1)]
          rcases PR.invF h with h2 | ⟨z, s1, h2, h3⟩
          · rw [hS _ m hm hs1 h2, PR.bind_fail]
          · rw [fS _ _ _ m hm h2, PR.bind_ok]
            rcases PR.invF h3 with h4 | ⟨ks, s2, h4, h5⟩
            · rw [hM _ _ m hm (hs1.suf (sS _ _ _ h2)) h4, PR.bind_fail]
            · cases h5
        · rename_i h1
          rw [if_neg h1]
          split at h
          · rename_i h6
            rw [if_pos h6]
            rcases PR.invF h with h2 | ⟨z, s1, h2, h3⟩
            · rw [hS _ m hm hs h2, PR.bind_fail]
            · rw [fS _ _ _ m hm h2, PR.bind_ok]
              rcases PR.invF h3 with h4 | ⟨ks, s2, h4, h5⟩
              · rw [hM _ _ m hm (hs.suf (sS _ _ _ h2)) h4, PR.bind_fail]
              · cases h5
          · rename_i h6
            rw [if_neg h6]
            rcases PR.invF h with h2 | ⟨z, s1, h2, h3⟩
            · rw [hF _ m hm hs h2, PR.bind_fail]
            · rw [fF _ _ _ m hm h2, PR.bind_ok]
              rcases PR.invF h3 with h4 | ⟨ks, s2, h4, h5⟩
              · rw [hM _ _ m hm (hs.suf (sF _ _ _ h2)) h4, PR.bind_fail]
              · cases h5
    · intro ks s m hm hs h
      obtain ⟨m, rfl⟩ : ∃ k, m = k + 1 := ⟨m - 1, by omega⟩
      have hm : n ≤ m := by omega
      have hs1 := hs.suf (pop_sf s)
      rw [moreP] at h ⊢
      rw [head_sh hR (.inl (by decide)), head_sh hR (.inl (by decide))]
      split at h
      · rename_i h0
        rw [if_pos h0, pop_sh (head_true h0)]
        rcases PR.invF h with h2 | ⟨z, s1, h2, h3⟩
        · rw [hS _ m hm hs1 h2, PR.bind_fail]
        · rw [fS _ _ _ m hm h2, PR.bind_ok]
          exact hM _ _ m hm (hs1.suf (sS _ _ _ h2)) h3
      · rename_i h0
        rw [if_neg h0]
        split at h
        · rename_i h1
          rw [if_pos h1, pop_sh (head_true h1)]
          rcases PR.invF h with h2 | ⟨z, s1, h2, h3⟩
          · rw [hS _ m hm hs1 h2, PR.bind_fail]
          · rw [fS _ _ _ m hm h2, PR.bind_ok]
            exact hM _ _ m hm (hs1.suf (sS _ _ _ h2)) h3
        · cases h
    · intro s m hm hs h
      obtain ⟨m, rfl⟩ : ∃ k, m = k + 1 := ⟨m - 1, by omega⟩
      have hm : n ≤ m := by omega
      rw [stepP] at h ⊢
      rw [head_sh hR (.inr (by decide)), head_sh hR (.inr (by decide))]
      split at h
      · cases h
      · rename_i h0
        rw [if_neg h0]
        split at h
        · cases h
        · rename_i h1
          rw [if_neg h1]
          cases hx : axisP s with
          | none => rw [axisP_no hR hx]
          | some b =>
            obtain ⟨b, s1⟩ := b
            rw [hx] at h
            rw [axisP_sh hR hx]
            simp only at h ⊢
            have hs1 := hs.suf (axisP_sf hx)
            cases hy : testP s1 with
            | none => rw [testP_no hR hs1 hy]
            | some c =>
              obtain ⟨c, tt, s2⟩ := c
              rw [hy] at h
              rw [testP_sh hR hy]
              simp only at h ⊢
              rcases PR.invF h with h2 | ⟨z, s3, h2, h3⟩
              · rw [hQ _ _ m hm (hs1.suf (testP_sf hy)) h2, PR.bind_fail]
              · cases h3
    · intro ks s m hm hs h
      obtain ⟨m, rfl⟩ : ∃ k, m = k + 1 := ⟨m - 1, by omega⟩
      have hm : n ≤ m := by omega
      have hs1 := hs.suf (pop_sf s)
      rw [predsP] at h ⊢
      rw [head_sh hR (.inr (by decide))]
      split at h
      · rename_i h0
        rw [if_pos h0, pop_sh (head_true h0)]
        rcases PR.invF h with h2 | ⟨z, s1, h2, h3⟩
        · rw [hE _ _ m hm hs1 h2, PR.bind_fail]
        · rw [fE _ _ _ _ m hm h2, PR.bind_ok]
          rw [head_sh hR (.inr (by decide))]
          split at h3
          · rename_i h4
            rw [if_pos h4, pop_sh (head_true h4)]
            exact hQ _ _ m hm ((hs1.suf (sE _ _ _ _ h2)).suf (pop_sf s1)) h3
          · rename_i h4
            rw [if_neg h4]
      · cases h
    · intro s m hm hs h
      obtain ⟨m, rfl⟩ : ∃ k, m = k + 1 := ⟨m - 1, by omega⟩
      have hm : n ≤ m := by omega
      rw [filtP] at h ⊢
      rcases PR.invF h with h2 | ⟨z, s1, h2, h3⟩
      · rw [hPr _ m hm hs h2, PR.bind_fail]
      · rw [fPr _ _ _ m hm h2, PR.bind_ok]
        have hs1 := hs.suf (sR _ _ _ h2)
        split at h3
        · rename_i h4
          rw [if_pos h4]
          rcases PR.invF h3 with h5 | ⟨ks, s2, h5, h6⟩
          · rw [hQ _ _ m hm hs1 h5, PR.bind_fail]
          · cases h6
        · rename_i h4
          rw [if_neg h4]
          rcases PR.invF h3 with h5 | ⟨ks, s2, h5, h6⟩
          · rw [hQ _ _ m hm hs1 h5, PR.bind_fail]
          · cases h6
    · intro s m hm hs h
      obtain ⟨m, rfl⟩ : ∃ k, m = k + 1 := ⟨m - 1, by omega⟩
      rw [primP] at h ⊢
      rw [head_sh hR (.inr (by decide)), sees_sh hR (by decide), sees_sh hR (by decide), sees_sh hR (by decide), sees_sh hR (by decide), hs.head, hs.sees (.inl rfl), if_neg (by decide)]
      rw [hs.head, hs.sees (.inl rfl), if_neg (by decide)] at h
      split at h
      · rename_i h1
        rw [if_pos h1, headT_sh (sees_true h1)]
        cases hv : num (headT s) with
        | none => rfl
        | some v => rw [hv] at h; cases h
      · rename_i h1
        rw [if_neg h1]
        split at h
        · cases h
        · rename_i h2
          rw [if_neg h2]
          split at h
          · cases h
          · rename_i h3
            rw [if_neg h3, if_neg (by decide)]
end Go.Proofs.YthkkfldmoflfaaaGreatDoor
