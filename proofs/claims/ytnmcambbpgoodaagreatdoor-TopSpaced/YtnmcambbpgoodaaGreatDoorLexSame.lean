/- Tokens that are parted by blanks are read as they were: plain lemmas. -/
import Derived.Test.YtnmcambbpgoodaaGreatDoorGaf
namespace Go.Proofs.YtnmcambbpgoodaaGreatDoor
/-- Nothing, or a blank first. -/
def parted (r : List Nat) : Prop := ∀ c, r.head? = some c → blankC c = true
theorem parted_nil : parted [] := fun _ h => by cases h
theorem parted_cons {c : Nat} {r : List Nat} (h : blankC c = true) : parted (c :: r) := fun _ e => by cases e; exact h
theorem blank_four {c : Nat} (h : blankC c = true) : c = 9 ∨ c = 10 ∨ c = 13 ∨ c = 32 := by simp [blankC] at h; omega
theorem begC_ge {c : Nat} (h : begC c = true) : 65 ≤ c := by simp [begC, inL, beginL] at h; omega
theorem begC_ne {c : Nat} (h : begC c = true) : c ≠ 91 ∧ c ≠ 93 ∧ c ≠ 124 ∧ c ≠ 64 := by simp [begC, inL, beginL] at h; omega
theorem goC_of_beg {c : Nat} (h : begC c = true) : goC c = true := by simp only [begC] at h; simp [goC, h]
/-- A run ends where the test fails. -/
theorem takeWhile_run (p : Nat → Bool) (a r : List Nat) (ha : ∀ c ∈ a, p c = true) (hr : ∀ c, r.head? = some c → p c = false) : (a ++ r).takeWhile p = a := by
  rw [List.takeWhile_append_of_pos ha]
  cases r with
  | nil => simp
  | cons c t => rw [List.takeWhile_cons_of_neg (by rw [hr c rfl]; decide)]; simp
theorem dropWhile_run (p : Nat → Bool) (a r : List Nat) (ha : ∀ c ∈ a, p c = true) (hr : ∀ c, r.head? = some c → p c = false) : (a ++ r).dropWhile p = r := by
  rw [List.dropWhile_append_of_pos ha]
  cases r with
  | nil => simp
  | cons c t => rw [List.dropWhile_cons_of_neg (by rw [hr c rfl]; decide)]
theorem all_takeWhile (p : Nat → Bool) (l : List Nat) : ∀ c ∈ l.takeWhile p, p c = true := fun c hc => by
  have := List.all_takeWhile (p := p) (l := l)
  rw [List.all_eq_true] at this
  exact this c hc
theorem heads_cons (c d : Nat) (t : List Nat) : heads c (d :: t) = (d == c) := by
  unfold heads; simp only [List.head?_cons]; rw [Bool.eq_iff_iff]; simp
theorem heads_true {c : Nat} {l : List Nat} (h : heads c l = true) : l = c :: l.tail := by
  cases l with
  | nil => cases h
  | cons d t => rw [heads_cons] at h; simp at h; subst h; rfl
theorem heads_parted {c : Nat} {r : List Nat} (h : parted r) (hc : blankC c = false) : heads c r = false := by
  cases r with
  | nil => rfl
  | cons d t =>
    have := h d rfl
    rw [heads_cons]
    by_cases e : d = c
    · subst e; rw [hc] at this; cases this
    · simpa using e
theorem digsA_all (l : List Nat) : ∀ c ∈ digsA l, digC c = true := all_takeWhile digC l
theorem digsA_run (a r : List Nat) (ha : ∀ c ∈ a, digC c = true) (hr : ∀ c, r.head? = some c → digC c = false) : digsA (a ++ r) = a := takeWhile_run digC a r ha hr
theorem digsA_pre (l : List Nat) : digsA l ++ l.drop (digsA l).length = l := by
  have h : digsA l <+: l := List.takeWhile_prefix _
  obtain ⟨t, e⟩ := h
  conv => lhs; rw [← e]
  rw [e]
  conv => rhs; rw [← e]
  congr 1
  conv => lhs; rw [← e]
  rw [show digsA (digsA l ++ t) = digsA l by rw [e]]
  simp
theorem blank_dig {c : Nat} (h : blankC c = true) : digC c = false := by
  rcases blank_four h with rfl | rfl | rfl | rfl <;> rfl
theorem blank_go {c : Nat} (h : blankC c = true) : goC c = false := by
  rcases blank_four h with rfl | rfl | rfl | rfl <;> decide
theorem parted_dig {r : List Nat} (h : parted r) : ∀ c, r.head? = some c → digC c = false := fun c hc => blank_dig (h c hc)
theorem parted_go {r : List Nat} (h : parted r) : ∀ c, r.head? = some c → goC c = false := fun c hc => blank_go (h c hc)
theorem ne_empty {l : List Nat} (h : (!l.isEmpty) = true) : l ≠ [] := by cases l with | nil => cases h | cons _ _ => simp
theorem empty_not {l : List Nat} (h : l ≠ []) : (!l.isEmpty) = true := by cases l with | nil => exact absurd rfl h | cons _ _ => rfl
theorem numA_re (l r : List Nat) (hr : parted r) : numA (numA l ++ r) = numA l := by
  unfold numA
  by_cases h : (heads 46 (l.drop (digsA l).length) && !(digsA (l.drop (digsA l).length).tail).isEmpty) = true
  · rw [if_pos h]
    rw [Bool.and_eq_true] at h
    have hy := digsA_all (l.drop (digsA l).length).tail
    generalize digsA (l.drop (digsA l).length).tail = y at *
    have e1 : digsA (digsA l ++ 46 :: y ++ r) = digsA l := by
      rw [List.append_assoc]
      exact digsA_run _ _ (digsA_all l) (fun c hc => by cases hc; rfl)
    rw [e1]
    have e2 : (digsA l ++ 46 :: y ++ r).drop (digsA l).length = 46 :: (y ++ r) := by
      rw [List.append_assoc, List.drop_left]; rfl
    rw [e2, heads_cons, List.tail_cons, digsA_run _ r hy (parted_dig hr), h.2]
    rfl
  · rw [if_neg h]
    rw [digsA_run _ r (digsA_all l) (parted_dig hr), List.drop_left, heads_parted hr rfl, Bool.false_and, if_neg (by decide)]
theorem numA_no (c : Nat) (t : List Nat) (h1 : digC c = false) (h2 : c = 46 → ∀ d, t.head? = some d → digC d = false) : numA (c :: t) = [] := by
  have e : digsA (c :: t) = [] := by unfold digsA; rw [List.takeWhile_cons_of_neg (by rw [h1]; decide)]
  unfold numA
  rw [e, List.length_nil, List.drop_zero, heads_cons, List.tail_cons]
  rw [if_neg]
  rw [Bool.and_eq_true]
  rintro ⟨h, h'⟩
  apply ne_empty h'
  have := h2 (by simpa using h)
  cases t with
  | nil => rfl
  | cons d u => unfold digsA; rw [List.takeWhile_cons_of_neg (by rw [this d rfl]; decide)]
theorem nameA_all (l : List Nat) : ∀ c ∈ nameA l, goC c = true := by
  cases l with
  | nil => intro c h; cases h
  | cons a t =>
    rw [nameA]
    by_cases hb : begC a = true
    · rw [if_pos hb]
      intro c hc
      rcases List.mem_cons.1 hc with rfl | hc
      · exact goC_of_beg hb
      · exact all_takeWhile goC t c hc
    · rw [if_neg hb]; intro c h; cases h
theorem nameA_run (l r : List Nat) (hr : ∀ c, r.head? = some c → goC c = false) (h : nameA l = l) (hn : l ≠ []) : nameA (l ++ r) = l := by
  cases l with
  | nil => exact absurd rfl hn
  | cons a t =>
    rw [nameA] at h
    by_cases hb : begC a = true
    · rw [if_pos hb] at h
      have ht : t.takeWhile goC = t := (List.cons.inj h).2
      show nameA (a :: (t ++ r)) = _
      rw [nameA, if_pos hb, takeWhile_run goC t r (fun c hc => all_takeWhile goC t c (by rw [ht]; exact hc)) hr]
    · rw [if_neg hb] at h; cases h
theorem takeWhile_twice (p : Nat → Bool) (l : List Nat) : (l.takeWhile p).takeWhile p = l.takeWhile p := by
  have := takeWhile_run p (l.takeWhile p) [] (all_takeWhile p l) (fun _ h => by cases h)
  simpa using this
theorem nameA_twice (l : List Nat) : nameA (nameA l) = nameA l := by
  cases l with
  | nil => rfl
  | cons a t =>
    by_cases hb : begC a = true
    · rw [nameA, if_pos hb, nameA, if_pos hb, takeWhile_twice]
    · rw [nameA, if_neg hb]; rfl
theorem nameA_re (l r : List Nat) (hr : ∀ c, r.head? = some c → goC c = false) (hn : nameA l ≠ []) : nameA (nameA l ++ r) = nameA l :=
  nameA_run (nameA l) r hr (nameA_twice l) hn
theorem nameA_pre (l : List Nat) : nameA l <+: l := by
  cases l with
  | nil => exact List.prefix_refl _
  | cons a t =>
    rw [nameA]
    by_cases hb : begC a = true
    · rw [if_pos hb]; exact List.cons_prefix_cons.2 ⟨rfl, List.takeWhile_prefix _⟩
    · rw [if_neg hb]; exact List.nil_prefix
theorem pre_drop {a l : List Nat} (h : a <+: l) : a ++ l.drop a.length = l := by
  obtain ⟨t, rfl⟩ := h
  rw [List.drop_left]
theorem go58 : goC 58 = false := by decide
theorem qnameA_eq (l : List Nat) : qnameA l = if !(nameA l).isEmpty && (heads 58 (l.drop (nameA l).length) && !(nameA (l.drop (nameA l).length).tail).isEmpty) then nameA l ++ 58 :: nameA (l.drop (nameA l).length).tail else nameA l := rfl
theorem qnameA_re (l r : List Nat) (hr : parted r) (hn : qnameA l ≠ []) : qnameA (qnameA l ++ r) = qnameA l := by
  unfold qnameA at hn ⊢
  by_cases h : (!(nameA l).isEmpty && (heads 58 (l.drop (nameA l).length) && !(nameA (l.drop (nameA l).length).tail).isEmpty)) = true
  · rw [if_pos h]
    simp only [Bool.and_eq_true] at h
    have hp := ne_empty h.1
    have hy2 := nameA_re (l.drop (nameA l).length).tail r (parted_go hr) (ne_empty h.2.2)
    generalize nameA (l.drop (nameA l).length).tail = y at *
    have e1 : nameA (nameA l ++ 58 :: y ++ r) = nameA l := by
      rw [List.append_assoc]
      exact nameA_re l _ (fun c hc => by cases hc; exact go58) hp
    have e2 : (nameA l ++ 58 :: y ++ r).drop (nameA l).length = 58 :: (y ++ r) := by
      rw [List.append_assoc, List.drop_left]; rfl
    rw [e1, e2, heads_cons, List.tail_cons, hy2, h.1, h.2.2]
    rfl
  · rw [if_neg h] at hn ⊢
    rw [nameA_re l r (parted_go hr) hn, List.drop_left, heads_parted hr rfl, Bool.false_and, Bool.and_false, if_neg (by decide)]
theorem nameA_no {c : Nat} (h : begC c = false) (t : List Nat) : nameA (c :: t) = [] := by rw [nameA, if_neg (by rw [h]; decide)]
theorem qnameA_no {c : Nat} (h : begC c = false) (t : List Nat) : qnameA (c :: t) = [] := by unfold qnameA; rw [nameA_no h t]; rfl
theorem isNm_nil : isNm [] = false := rfl
theorem wordA_no {c : Nat} (h : begC c = false) (h' : c ≠ 42) (t : List Nat) : wordA (c :: t) = [] := by
  unfold wordA
  rw [heads_cons, if_neg (by simpa using h'), qnameA_no h, isNm_nil, Bool.false_and, if_neg (by decide)]
theorem nameA_beg {l : List Nat} (h : nameA l ≠ []) : ∃ c t, l = c :: t ∧ begC c = true := by
  cases l with
  | nil => exact absurd rfl h
  | cons c t =>
    refine ⟨c, t, rfl, ?_⟩
    cases hb : begC c
    · exact absurd (nameA_no hb t) h
    · rfl
theorem qnameA_name {l : List Nat} (h : qnameA l ≠ []) : nameA l ≠ [] := fun e => h (by unfold qnameA; rw [e]; rfl)
theorem qnameA_pre (l : List Nat) : qnameA l <+: l := by
  unfold qnameA
  by_cases h : (!(nameA l).isEmpty && (heads 58 (l.drop (nameA l).length) && !(nameA (l.drop (nameA l).length).tail).isEmpty)) = true
  · rw [if_pos h]
    simp only [Bool.and_eq_true] at h
    have e := pre_drop (nameA_pre l)
    have e2 := heads_true h.2.1
    obtain ⟨t, ht⟩ := nameA_pre (l.drop (nameA l).length).tail
    refine ⟨t, ?_⟩
    rw [List.append_assoc, List.cons_append, ht, ← e2]
    exact e
  · rw [if_neg h]; exact nameA_pre l
theorem wordA_pre (l : List Nat) : wordA l <+: l := by
  unfold wordA
  split
  · rename_i h; rw [heads_true h]; exact List.cons_prefix_cons.2 ⟨rfl, List.nil_prefix⟩
  · split
    · rename_i h
      rw [Bool.and_eq_true] at h
      have e := pre_drop (qnameA_pre l)
      conv => rhs; rw [← e]
      exact (List.prefix_append_right_inj _).2 (List.isPrefixOf_iff_prefix.1 h.2)
    · exact qnameA_pre l
theorem isNm_name {l : List Nat} (h : isNm l = true) : l ≠ [] ∧ nameA l = l := by
  unfold isNm at h
  simp at h
  exact h
theorem wordA_re (l r : List Nat) (hr : parted r) (hn : wordA l ≠ []) : wordA (wordA l ++ r) = wordA l := by
  unfold wordA at hn ⊢
  by_cases h0 : heads 42 l = true
  · rw [if_pos h0]; rfl
  · rw [if_neg h0] at hn ⊢
    by_cases h : (isNm (qnameA l) && [58, 42].isPrefixOf (l.drop (qnameA l).length)) = true
    · rw [if_pos h] at hn ⊢
      rw [Bool.and_eq_true] at h
      obtain ⟨n1, n2⟩ := isNm_name h.1
      obtain ⟨c, t, e, hb⟩ := nameA_beg (n2 ▸ n1)
      have hq : qnameA (qnameA l ++ [58, 42] ++ r) = qnameA l := by
        have e1 : nameA (qnameA l ++ [58, 42] ++ r) = qnameA l := by
          rw [List.append_assoc]
          exact nameA_run _ _ (fun c hc => by cases hc; exact go58) n2 n1
        rw [qnameA_eq (qnameA l ++ [58, 42] ++ r), e1, List.append_assoc, List.drop_left]
        rw [show nameA (([58, 42] ++ r : List Nat)).tail = [] from nameA_no (by decide) _, List.isEmpty_nil, Bool.not_true, Bool.and_false, Bool.and_false, if_neg (by decide)]
      rw [hq, e, List.cons_append, List.cons_append, heads_cons, if_neg (by have := begC_ge hb; simp; omega), ← List.cons_append, ← List.cons_append, ← e, List.append_assoc, List.drop_left, h.1]
      rfl
    · rw [if_neg h] at hn ⊢
      obtain ⟨c, t, e, hb⟩ := nameA_beg (qnameA_name hn)
      have hq := qnameA_re l r hr hn
      obtain ⟨d, u, e'⟩ : ∃ d u, qnameA l = d :: u := by
        cases hx : qnameA l with
        | nil => exact absurd hx hn
        | cons d u => exact ⟨d, u, rfl⟩
      have hd : d = c := by
        have := qnameA_pre l
        rw [e', e] at this
        exact (List.cons_prefix_cons.1 this).1
      have hh : heads 42 (qnameA l ++ r) = false := by
        rw [e', List.cons_append, heads_cons, hd]
        have := begC_ge hb
        simp; omega
      rw [hq, hh, if_neg (by decide), List.drop_left, if_neg]
      rw [Bool.and_eq_true]
      rintro ⟨_, h2⟩
      cases r with
      | nil => cases h2
      | cons x y =>
        have := hr x rfl
        rw [List.isPrefixOf_iff_prefix] at h2
        have := (List.cons_prefix_cons.1 h2).1
        subst this
        cases hr 58 rfl
/-- The same token, perhaps with other signs around a string. -/
def alike (t t' : Tok) : Prop := t'.kind = t.kind ∧ t'.text = t.text ∧ (t'.raw = t.raw ∨ t.kind = 2 ∧ ∃ q, (q = 34 ∨ q = 39) ∧ q ∉ t.text ∧ t'.raw = q :: t.text ++ [q])
theorem strAt_some {q : Nat} {l t : List Nat} (h : strAt q l = some t) : q ∉ t ∧ (q :: t ++ [q]) <+: l := by
  unfold strAt at h
  split at h
  · rename_i hh
    rw [Bool.and_eq_true] at hh
    have hq : q ∈ l.tail := by simpa using hh.2
    cases h
    refine ⟨fun hm => by have := all_takeWhile (· != q) l.tail q hm; simp at this, ?_⟩
    have e := heads_true hh.1
    conv => rhs; rw [e]
    rw [List.cons_append]
    refine List.cons_prefix_cons.2 ⟨rfl, ?_⟩
    have hd : l.tail.takeWhile (· != q) ++ l.tail.dropWhile (· != q) = l.tail := List.takeWhile_append_dropWhile
    conv => rhs; rw [← hd]
    refine (List.prefix_append_right_inj _).2 ?_
    cases hx : l.tail.dropWhile (· != q) with
    | nil =>
      rw [hx, List.append_nil] at hd
      have := all_takeWhile (· != q) l.tail q (by rw [hd]; exact hq)
      simp at this
    | cons c u =>
      have := List.head_dropWhile_not (l := l.tail) (· != q) (by rw [hx]; simp)
      simp only [hx, List.head_cons] at this
      have hc : c = q := by simpa using this
      subst hc
      exact List.cons_prefix_cons.2 ⟨rfl, List.nil_prefix⟩
  · cases h
theorem strAt_quoted (q : Nat) (t r : List Nat) (h : q ∉ t) : strAt q (q :: t ++ [q] ++ r) = some t := by
  unfold strAt
  rw [if_pos (by simp [heads])]
  simp only [List.cons_append, List.tail_cons, List.append_assoc, List.nil_append]
  rw [takeWhile_run (· != q) t (q :: r) (fun c hc => by simp; intro e; exact h (e ▸ hc)) (fun c hc => by cases hc; simp)]
theorem strAt_other {q c : Nat} {t : List Nat} (h : c ≠ q) : strAt q (c :: t) = none := by
  unfold strAt
  rw [heads_cons, show (c == q) = false by simpa using h, Bool.false_and, if_neg (by decide)]
theorem varA_other {c : Nat} {t : List Nat} (h : c ≠ 36) : varA (c :: t) = none := by
  unfold varA
  rw [heads_cons, show (c == 36) = false by simpa using h, Bool.false_and, if_neg (by decide)]
/-- Which of the five ways a token is read by. -/
theorem tokA_cases {l : List Nat} {pl : Bool} {t : Tok} (h : tokA l pl = some t) :
    (numA l ≠ [] ∧ t = ⟨1, numA l, numA l⟩) ∨
    (∃ q x, (q = 34 ∨ q = 39) ∧ strAt q l = some x ∧ t = ⟨2, x, q :: x ++ [q]⟩) ∨
    (∃ x, varA l = some x ∧ t = ⟨7, x, 36 :: x⟩) ∨
    (∃ k, wordA l ≠ [] ∧ wordK (wordA l) (l.drop (wordA l).length) pl = some k ∧ t = ⟨k, wordA l, wordA l⟩) ∨
    (∃ k x, numA l = [] ∧ wordA l = [] ∧ signA l = some (k, x) ∧ t = ⟨k, x, x⟩) := by
  unfold tokA at h
  split at h
  · rename_i hn; cases h; exact .inl ⟨ne_empty hn, rfl⟩
  · rename_i hn
    split at h
    · rename_i x hx; cases h; exact .inr (.inl ⟨34, x, .inl rfl, hx, rfl⟩)
    · split at h
      · rename_i x hx; cases h; exact .inr (.inl ⟨39, x, .inr rfl, hx, rfl⟩)
      · split at h
        · rename_i x hx; cases h; exact .inr (.inr (.inl ⟨x, hx, rfl⟩))
        · split at h
          · rename_i hw
            cases hk : wordK (wordA l) (l.drop (wordA l).length) pl with
            | none => rw [hk] at h; cases h
            | some k => rw [hk] at h; cases h; exact .inr (.inr (.inr (.inl ⟨k, ne_empty hw, rfl, rfl⟩)))
          · rename_i hw
            cases hk : signA l with
            | none => rw [hk] at h; cases h
            | some k => rw [hk] at h; cases h; exact .inr (.inr (.inr (.inr ⟨k.1, k.2, by simpa using hn, by simpa using hw, rfl, rfl⟩)))
theorem signA_mem {l x : List Nat} {k : Nat} (h : signA l = some (k, x)) : (k, x) ∈ signL ∧ x <+: l := by
  unfold signA at h
  have h1 := List.find?_some h
  exact ⟨List.mem_of_find?_eq_some h, List.isPrefixOf_iff_prefix.1 h1⟩
theorem sign_first {k : Nat} {x : List Nat} (h : (k, x) ∈ signL) : ∃ c t, x = c :: t ∧ (c = 47 ∨ c = 33 ∨ c = 60 ∨ c = 62 ∨ c = 58 ∨ c = 46 ∨ c = 124 ∨ c = 43 ∨ c = 45 ∨ c = 61 ∨ c = 40 ∨ c = 41 ∨ c = 91 ∨ c = 93 ∨ c = 64 ∨ c = 44) ∧ (c = 46 → t = [] ∨ t = [46]) ∧ (c = 58 → t = [58]) ∧ (∀ d ∈ x, blankC d = false) := by
  simp only [signL, List.mem_cons, Prod.mk.injEq, List.not_mem_nil, or_false] at h
  rcases h with ⟨_, rfl⟩ | ⟨_, rfl⟩ | ⟨_, rfl⟩ | ⟨_, rfl⟩ | ⟨_, rfl⟩ | ⟨_, rfl⟩ | ⟨_, rfl⟩ | ⟨_, rfl⟩ | ⟨_, rfl⟩ | ⟨_, rfl⟩ | ⟨_, rfl⟩ | ⟨_, rfl⟩ | ⟨_, rfl⟩ | ⟨_, rfl⟩ | ⟨_, rfl⟩ | ⟨_, rfl⟩ | ⟨_, rfl⟩ | ⟨_, rfl⟩ | ⟨_, rfl⟩ | ⟨_, rfl⟩ <;>
    exact ⟨_, _, rfl, by decide, by decide, by decide, by decide⟩
theorem signA_re {k : Nat} {x : List Nat} (h : (k, x) ∈ signL) (r : List Nat) (hr : parted r) : signA (x ++ r) = some (k, x) := by
  have hr' : r = [] ∨ ∃ c t, r = c :: t ∧ (c = 9 ∨ c = 10 ∨ c = 13 ∨ c = 32) := by
    cases r with
    | nil => exact .inl rfl
    | cons c t => exact .inr ⟨c, t, rfl, blank_four (hr c rfl)⟩
  simp only [signL, List.mem_cons, Prod.mk.injEq, List.not_mem_nil, or_false] at h
  rcases h with ⟨rfl, rfl⟩ | ⟨rfl, rfl⟩ | ⟨rfl, rfl⟩ | ⟨rfl, rfl⟩ | ⟨rfl, rfl⟩ | ⟨rfl, rfl⟩ | ⟨rfl, rfl⟩ | ⟨rfl, rfl⟩ | ⟨rfl, rfl⟩ | ⟨rfl, rfl⟩ | ⟨rfl, rfl⟩ | ⟨rfl, rfl⟩ | ⟨rfl, rfl⟩ | ⟨rfl, rfl⟩ | ⟨rfl, rfl⟩ | ⟨rfl, rfl⟩ | ⟨rfl, rfl⟩ | ⟨rfl, rfl⟩ | ⟨rfl, rfl⟩ | ⟨rfl, rfl⟩ <;>
    rcases hr' with rfl | ⟨c, t, rfl, rfl | rfl | rfl | rfl⟩ <;> rfl
/-- What stands behind a token, as far as a word asks for it. -/
def lookEq (a b : List Nat) : Prop := heads 40 (a.dropWhile blankC) = heads 40 (b.dropWhile blankC) ∧ [58, 58].isPrefixOf (a.dropWhile blankC) = [58, 58].isPrefixOf (b.dropWhile blankC)
theorem wordK_look (w a b : List Nat) (pl : Bool) (h : lookEq a b) : wordK w a pl = wordK w b pl := by
  unfold wordK
  rw [h.1, h.2]
theorem tokA_num {l : List Nat} (pl : Bool) (h : numA l ≠ []) : tokA l pl = some ⟨1, numA l, numA l⟩ := by
  unfold tokA
  rw [if_pos (empty_not h)]
theorem tokA_str34 {l x : List Nat} (pl : Bool) (hn : numA l = []) (h : strAt 34 l = some x) : tokA l pl = some ⟨2, x, 34 :: x ++ [34]⟩ := by
  unfold tokA
  rw [hn, h]; rfl
theorem tokA_str39 {l x : List Nat} (pl : Bool) (hn : numA l = []) (h0 : strAt 34 l = none) (h : strAt 39 l = some x) : tokA l pl = some ⟨2, x, 39 :: x ++ [39]⟩ := by
  unfold tokA
  rw [hn, h0, h]; rfl
theorem tokA_var {l x : List Nat} (pl : Bool) (hn : numA l = []) (h0 : strAt 34 l = none) (h1 : strAt 39 l = none) (h : varA l = some x) : tokA l pl = some ⟨7, x, 36 :: x⟩ := by
  unfold tokA
  rw [hn, h0, h1, h]; rfl
theorem tokA_word {l : List Nat} (pl : Bool) (hn : numA l = []) (h0 : strAt 34 l = none) (h1 : strAt 39 l = none) (h2 : varA l = none) (h : wordA l ≠ []) :
    tokA l pl = (wordK (wordA l) (l.drop (wordA l).length) pl).map (fun k => ⟨k, wordA l, wordA l⟩) := by
  unfold tokA
  rw [hn, h0, h1, h2]
  simp only [List.isEmpty_nil, Bool.not_true]
  rw [if_neg (by decide), if_pos (empty_not h)]
theorem tokA_sign {l : List Nat} (pl : Bool) (hn : numA l = []) (h0 : strAt 34 l = none) (h1 : strAt 39 l = none) (h2 : varA l = none) (h : wordA l = []) :
    tokA l pl = (signA l).map (fun x => ⟨x.1, x.2, x.2⟩) := by
  unfold tokA
  rw [hn, h0, h1, h2, h]
  rfl
theorem tokA_quoted (q : Nat) (hq : q = 34 ∨ q = 39) (x r : List Nat) (pl : Bool) (h : q ∉ x) : tokA (q :: x ++ [q] ++ r) pl = some ⟨2, x, q :: x ++ [q]⟩ := by
  have hs := strAt_quoted q x r h
  have hn : numA (q :: x ++ [q] ++ r) = [] := by
    rw [List.cons_append, List.cons_append]
    exact numA_no q _ (by rcases hq with rfl | rfl <;> rfl) (fun e => by omega)
  rcases hq with rfl | rfl
  · exact tokA_str34 pl hn hs
  · exact tokA_str39 pl hn (by rw [List.cons_append, List.cons_append]; exact strAt_other (by decide)) hs
theorem wordA_head {l : List Nat} (h : wordA l ≠ []) : ∃ c t, wordA l = c :: t ∧ (c = 42 ∨ begC c = true) ∧ l.head? = some c := by
  obtain ⟨c, t, e⟩ : ∃ c t, wordA l = c :: t := by
    cases hx : wordA l with
    | nil => exact absurd hx h
    | cons d u => exact ⟨d, u, rfl⟩
  have hp := wordA_pre l
  rw [e] at hp
  obtain ⟨u, rfl⟩ := hp
  refine ⟨c, t, e, ?_, rfl⟩
  by_cases hb : begC c = true
  · exact .inr hb
  · by_cases h42 : c = 42
    · exact .inl h42
    · exact absurd (wordA_no (by simpa using hb) h42 (t ++ u)) h
/-- A token, parted from what follows, is read as it was. -/
theorem tokA_re {l : List Nat} {pl : Bool} {t t' : Tok} (h : tokA l pl = some t) (ha : alike t t') (r : List Nat) (hr : parted r) (hl : lookEq (l.drop t.raw.length) r) : tokA (t'.raw ++ r) pl = some t' := by
  obtain ⟨k', x', w'⟩ := t'
  obtain ⟨a1, a2, a3⟩ := ha
  simp only at a1 a2 a3 ⊢
  subst a1 a2
  rcases tokA_cases h with ⟨hn, rfl⟩ | ⟨q, x, hq, hs, rfl⟩ | ⟨x, hv, rfl⟩ | ⟨k, hw, hk, rfl⟩ | ⟨k, x, hn, hw, hk, rfl⟩
  · rcases a3 with rfl | ⟨e, _⟩
    · have := numA_re l r hr
      rw [tokA_num pl (by rw [this]; exact hn), this]
    · cases e
  · have hx := (strAt_some hs).1
    rcases a3 with rfl | ⟨_, q', hq', hx', rfl⟩
    · exact tokA_quoted q hq x r pl hx
    · exact tokA_quoted q' hq' x r pl hx'
  · rcases a3 with rfl | ⟨e, _⟩
    · unfold varA at hv
      split at hv
      · rename_i hh
        rw [Bool.and_eq_true] at hh
        cases hv
        have hq := ne_empty hh.2
        refine tokA_var pl (numA_no 36 _ rfl (fun e => by cases e)) (strAt_other (by decide)) (strAt_other (by decide)) ?_
        unfold varA
        rw [List.cons_append, heads_cons, List.tail_cons, qnameA_re _ r hr hq, hh.2]
        rfl
      · cases hv
    · cases e
  · rcases a3 with rfl | ⟨e, q, _, _, e'⟩
    · simp only at hl ⊢
      have hre := wordA_re l r hr hw
      obtain ⟨c, u, e, hc, _⟩ := wordA_head hw
      have hd : digC c = false ∧ c ≠ 46 ∧ c ≠ 34 ∧ c ≠ 39 ∧ c ≠ 36 := by
        rcases hc with rfl | hb
        · decide
        · have := begC_ge hb
          refine ⟨?_, by omega, by omega, by omega, by omega⟩
          simp [digC]; omega
      have e2 : wordA l ++ r = c :: (u ++ r) := by rw [e]; rfl
      rw [tokA_word pl (by rw [e2]; exact numA_no c _ hd.1 (fun e => absurd e hd.2.1)) (by rw [e2]; exact strAt_other hd.2.2.1) (by rw [e2]; exact strAt_other hd.2.2.2.1) (by rw [e2]; exact varA_other hd.2.2.2.2) (by rw [hre]; exact hw), hre, List.drop_left,
        ← wordK_look _ _ _ pl hl, hk]
      rfl
    · exfalso
      simp only at e
      unfold wordK at hk
      subst e
      repeat' split at hk
      all_goals cases hk
  · rcases a3 with a3 | ⟨e, q, _, _, e'⟩
    · simp only at a3 ⊢
      rw [a3]
      obtain ⟨hm, _⟩ := signA_mem hk
      obtain ⟨c, u, e, hc, hc2, _⟩ := sign_first hm
      have e2 : x ++ r = c :: (u ++ r) := by rw [e]; rfl
      have hn' : numA (x ++ r) = [] := by
        rw [e2]
        refine numA_no c _ (by simp [digC]; omega) (fun h46 d hd => ?_)
        rcases hc2 h46 with rfl | rfl
        · exact blank_dig (hr d hd)
        · cases hd; rfl
      have hb : begC c = false := by
        cases hb : begC c
        · rfl
        · have h1 := begC_ge hb
          have h2 := begC_ne hb
          omega
      rw [tokA_sign pl hn' (by rw [e2]; exact strAt_other (by omega)) (by rw [e2]; exact strAt_other (by omega)) (by rw [e2]; exact varA_other (by omega)) (by rw [e2]; exact wordA_no hb (by omega) _), signA_re hm r hr]
      rfl
    · exfalso
      simp only at e
      subst e
      obtain ⟨hm, _⟩ := signA_mem hk
      simp [signL] at hm
end Go.Proofs.YtnmcambbpgoodaaGreatDoor
