/- Tokens that are parted by blanks are read as they were: plain lemmas. -/
import Derived.Test.YthkkfldmoflfaaaGreatDoorGaa
namespace Go.Proofs.YthkkfldmoflfaaaGreatDoor
/-- Nothing, or a blank first. -/
def parted (r : List Nat) : Prop := ∀ c, r.head? = some c → blankC c = true
theorem blank_four {c : Nat} (h : blankC c = true) : c = 9 ∨ c = 10 ∨ c = 13 ∨ c = 32 := by simp [blankC] at h; omega
theorem goC_of_beg {c : Nat} (h : begC c = true) : goC c = true := by simp only [begC] at h; simp [goC, h]
/-- A run ends where the test fails. -/
theorem takeWhile_run (p : Nat → Bool) (a r : List Nat) (ha : ∀ c ∈ a, p c = true) (hr : ∀ c, r.head? = some c → p c = false) : (a ++ r).takeWhile p = a := by
  rw [List.takeWhile_append_of_pos ha]
  cases r with
  | nil => simp
  | cons c t => rw [List.takeWhile_cons_of_neg (by rw [hr c rfl]; decide)]; simp
theorem dropWhile_run (p : Nat → Bool) (a r : List Nat) (ha : ∀ c ∈ a, p c = true) (hr : ∀ c, r.head? = some c → p c = false) : (a ++ r).dropWhile p = r := by
  rw [List.dropWhile_append_of_pos ha]
  cases r with
  | nil => simp
  | cons c t => rw [List.dropWhile_cons_of_neg (by rw [hr c rfl]; decide)]
theorem all_takeWhile (p : Nat → Bool) (l : List Nat) : ∀ c ∈ l.takeWhile p, p c = true := fun c hc => by
  have := List.all_takeWhile (p := p) (l := l)
  rw [List.all_eq_true] at this
  exact this c hc
theorem heads_cons (c d : Nat) (t : List Nat) : heads c (d :: t) = (d == c) := by
  unfold heads; simp only [List.head?_cons]; rw [Bool.eq_iff_iff]; simp
theorem heads_nil (c : Nat) : heads c [] = false := rfl
theorem heads_true {c : Nat} {l : List Nat} (h : heads c l = true) : l = c :: l.tail := by
  cases l with
  | nil => cases h
  | cons d t => rw [heads_cons] at h; simp at h; subst h; rfl
theorem digsA_all (l : List Nat) : ∀ c ∈ digsA l, digC c = true := all_takeWhile digC l
theorem digsA_run (a r : List Nat) (ha : ∀ c ∈ a, digC c = true) (hr : ∀ c, r.head? = some c → digC c = false) : digsA (a ++ r) = a := takeWhile_run digC a r ha hr
theorem digsA_pre (l : List Nat) : digsA l ++ l.drop (digsA l).length = l := by
  have h : digsA l <+: l := List.takeWhile_prefix _
  obtain ⟨t, e⟩ := h
  conv => lhs; rw [← e]
  rw [e]
  conv => rhs; rw [← e]
  congr 1
  conv => lhs; rw [← e]
  rw [show digsA (digsA l ++ t) = digsA l by rw [e]]
  simp
theorem blank_dig {c : Nat} (h : blankC c = true) : digC c = false := by
  rcases blank_four h with rfl | rfl | rfl | rfl <;> rfl
theorem blank_go {c : Nat} (h : blankC c = true) : goC c = false := by
  rcases blank_four h with rfl | rfl | rfl | rfl <;> decide
theorem ne_empty {l : List Nat} (h : (!l.isEmpty) = true) : l ≠ [] := by cases l with | nil => cases h | cons _ _ => simp
theorem empty_not {l : List Nat} (h : l ≠ []) : (!l.isEmpty) = true := by cases l with | nil => exact absurd rfl h | cons _ _ => rfl
theorem numA_no (c : Nat) (t : List Nat) (h1 : digC c = false) (h2 : c = 46 → ∀ d, t.head? = some d → digC d = false) : numA (c :: t) = [] := by
  have e : digsA (c :: t) = [] := by unfold digsA; rw [List.takeWhile_cons_of_neg (by rw [h1]; decide)]
  unfold numA
  rw [e, List.length_nil, List.drop_zero, heads_cons, List.tail_cons]
  rw [if_neg]
  rw [Bool.and_eq_true]
  rintro ⟨h, h'⟩
  apply ne_empty h'
  have := h2 (by simpa using h)
  cases t with
  | nil => rfl
  | cons d u => unfold digsA; rw [List.takeWhile_cons_of_neg (by rw [this d rfl]; decide)]
theorem nameA_all (l : List Nat) : ∀ c ∈ nameA l, goC c = true := by
  cases l with
  | nil => intro c h; cases h
  | cons a t =>
    rw [nameA]
    by_cases hb : begC a = true
    · rw [if_pos hb]
      intro c hc
      rcases List.mem_cons.1 hc with rfl | hc
      · exact goC_of_beg hb
      · exact all_takeWhile goC t c hc
    · rw [if_neg hb]; intro c h; cases h
theorem nameA_run (l r : List Nat) (hr : ∀ c, r.head? = some c → goC c = false) (h : nameA l = l) (hn : l ≠ []) : nameA (l ++ r) = l := by
  cases l with
  | nil => exact absurd rfl hn
  | cons a t =>
    rw [nameA] at h
    by_cases hb : begC a = true
    · rw [if_pos hb] at h
      have ht : t.takeWhile goC = t := (List.cons.inj h).2
      show nameA (a :: (t ++ r)) = _
      rw [nameA, if_pos hb, takeWhile_run goC t r (fun c hc => all_takeWhile goC t c (by rw [ht]; exact hc)) hr]
    · rw [if_neg hb] at h; cases h
theorem nameA_pre (l : List Nat) : nameA l <+: l := by
  cases l with
  | nil => exact List.prefix_refl _
  | cons a t =>
    rw [nameA]
    by_cases hb : begC a = true
    · rw [if_pos hb]; exact List.cons_prefix_cons.2 ⟨rfl, List.takeWhile_prefix _⟩
    · rw [if_neg hb]; exact List.nil_prefix
theorem pre_drop {a l : List Nat} (h : a <+: l) : a ++ l.drop a.length = l := by
  obtain ⟨t, rfl⟩ := h
  rw [List.drop_left]
theorem qnameA_eq (l : List Nat) : qnameA l = if !(nameA l).isEmpty && (heads 58 (l.drop (nameA l).length) && !(nameA (l.drop (nameA l).length).tail).isEmpty) then nameA l ++ 58 :: nameA (l.drop (nameA l).length).tail else nameA l := rfl
theorem nameA_no {c : Nat} (h : begC c = false) (t : List Nat) : nameA (c :: t) = [] := by rw [nameA, if_neg (by rw [h]; decide)]
theorem qnameA_no {c : Nat} (h : begC c = false) (t : List Nat) : qnameA (c :: t) = [] := by unfold qnameA; rw [nameA_no h t]; rfl
theorem isNm_nil : isNm [] = false := rfl
theorem wordA_no {c : Nat} (h : begC c = false) (h' : c ≠ 42) (t : List Nat) : wordA (c :: t) = [] := by
  unfold wordA
  rw [heads_cons, if_neg (by simpa using h'), qnameA_no h, isNm_nil, Bool.false_and, if_neg (by decide)]
theorem qnameA_pre (l : List Nat) : qnameA l <+: l := by
  unfold qnameA
  by_cases h : (!(nameA l).isEmpty && (heads 58 (l.drop (nameA l).length) && !(nameA (l.drop (nameA l).length).tail).isEmpty)) = true
  · rw [if_pos h]
    simp only [Bool.and_eq_true] at h
    have e := pre_drop (nameA_pre l)
    have e2 := heads_true h.2.1
    obtain ⟨t, ht⟩ := nameA_pre (l.drop (nameA l).length).tail
    refine ⟨t, ?_⟩
    rw [List.append_assoc, List.cons_append, ht, ← e2]
    exact e
  · rw [if_neg h]; exact nameA_pre l
theorem wordA_pre (l : List Nat) : wordA l <+: l := by
  unfold wordA
  split
  · rename_i h; rw [heads_true h]; exact List.cons_prefix_cons.2 ⟨rfl, List.nil_prefix⟩
  · split
    · rename_i h
      rw [Bool.and_eq_true] at h
      have e := pre_drop (qnameA_pre l)
      conv => rhs; rw [← e]
      exact (List.prefix_append_right_inj _).2 (List.isPrefixOf_iff_prefix.1 h.2)
    · exact qnameA_pre l
/-- The same token, perhaps with other signs around a string. -/
def alike (t t' : Tok) : Prop := t'.kind = t.kind ∧ t'.text = t.text ∧ (t'.raw = t.raw ∨ t.kind = 2 ∧ ∃ q, (q = 34 ∨ q = 39) ∧ q ∉ t.text ∧ t'.raw = q :: t.text ++ [q])
theorem strAt_some {q : Nat} {l t : List Nat} (h : strAt q l = some t) : q ∉ t ∧ (q :: t ++ [q]) <+: l := by
  unfold strAt at h
  split at h
  · rename_i hh
    rw [Bool.and_eq_true] at hh
    have hq : q ∈ l.tail := by simpa using hh.2
    cases h
    refine ⟨fun hm => by have := all_takeWhile (· != q) l.tail q hm; simp at this, ?_⟩
    have e := heads_true hh.1
    conv => rhs; rw [e]
    rw [List.cons_append]
    refine List.cons_prefix_cons.2 ⟨rfl, ?_⟩
    have hd : l.tail.takeWhile (· != q) ++ l.tail.dropWhile (· != q) = l.tail := List.takeWhile_append_dropWhile
    conv => rhs; rw [← hd]
    refine (List.prefix_append_right_inj _).2 ?_
    cases hx : l.tail.dropWhile (· != q) with
    | nil =>
      rw [hx, List.append_nil] at hd
      have := all_takeWhile (· != q) l.tail q (by rw [hd]; exact hq)
      simp at this
    | cons c u =>
      have := List.head_dropWhile_not (l := l.tail) (· != q) (by rw [hx]; simp)
      simp only [hx, List.head_cons] at this
      have hc : c = q := by simpa using this
      subst hc
      exact List.cons_prefix_cons.2 ⟨rfl, List.nil_prefix⟩
  · cases h
theorem strAt_other {q c : Nat} {t : List Nat} (h : c ≠ q) : strAt q (c :: t) = none := by
  unfold strAt
  rw [heads_cons, show (c == q) = false by simpa using h, Bool.false_and, if_neg (by decide)]
theorem varA_other {c : Nat} {t : List Nat} (h : c ≠ 36) : varA (c :: t) = none := by
  unfold varA
  rw [heads_cons, show (c == 36) = false by simpa using h, Bool.false_and, if_neg (by decide)]
/-- Which of the five ways a token is read by. -/
theorem tokA_cases {l : List Nat} {pl : Bool} {t : Tok} (h : tokA l pl = some t) :
    (numA l ≠ [] ∧ t = ⟨1, numA l, numA l⟩) ∨
    (∃ q x, (q = 34 ∨ q = 39) ∧ strAt q l = some x ∧ t = ⟨2, x, q :: x ++ [q]⟩) ∨
    (∃ x, varA l = some x ∧ t = ⟨7, x, 36 :: x⟩) ∨
    (∃ k, wordA l ≠ [] ∧ wordK (wordA l) (l.drop (wordA l).length) pl = some k ∧ t = ⟨k, wordA l, wordA l⟩) ∨
    (∃ k x, numA l = [] ∧ wordA l = [] ∧ signA l = some (k, x) ∧ t = ⟨k, x, x⟩) := by
  unfold tokA at h
  split at h
  · rename_i hn; cases h; exact .inl ⟨ne_empty hn, rfl⟩
  · rename_i hn
    split at h
    · rename_i x hx; cases h; exact .inr (.inl ⟨34, x, .inl rfl, hx, rfl⟩)
    · split at h
      · rename_i x hx; cases h; exact .inr (.inl ⟨39, x, .inr rfl, hx, rfl⟩)
      · split at h
        · rename_i x hx; cases h; exact .inr (.inr (.inl ⟨x, hx, rfl⟩))
        · split at h
          · rename_i hw
            cases hk : wordK (wordA l) (l.drop (wordA l).length) pl with
            | none => rw [hk] at h; cases h
            | some k => rw [hk] at h; cases h; exact .inr (.inr (.inr (.inl ⟨k, ne_empty hw, rfl, rfl⟩)))
          · rename_i hw
            cases hk : signA l with
            | none => rw [hk] at h; cases h
            | some k => rw [hk] at h; cases h; exact .inr (.inr (.inr (.inr ⟨k.1, k.2, by simpa using hn, by simpa using hw, rfl, rfl⟩)))
theorem signA_mem {l x : List Nat} {k : Nat} (h : signA l = some (k, x)) : (k, x) ∈ signL ∧ x <+: l := by
  unfold signA at h
  have h1 := List.find?_some h
  exact ⟨List.mem_of_find?_eq_some h, List.isPrefixOf_iff_prefix.1 h1⟩
theorem sign_first {k : Nat} {x : List Nat} (h : (k, x) ∈ signL) : ∃ c t, x = c :: t ∧ (c = 47 ∨ c = 33 ∨ c = 60 ∨ c = 62 ∨ c = 58 ∨ c = 46 ∨ c = 124 ∨ c = 43 ∨ c = 45 ∨ c = 61 ∨ c = 40 ∨ c = 41 ∨ c = 91 ∨ c = 93 ∨ c = 64 ∨ c = 44) ∧ (c = 46 → t = [] ∨ t = [46]) ∧ (c = 58 → t = [58]) ∧ (∀ d ∈ x, blankC d = false) := by
  simp only [signL, List.mem_cons, Prod.mk.injEq, List.not_mem_nil, or_false] at h
  rcases h with ⟨_, rfl⟩ | ⟨_, rfl⟩ | ⟨_, rfl⟩ | ⟨_, rfl⟩ | ⟨_, rfl⟩ | ⟨_, rfl⟩ | ⟨_, rfl⟩ | ⟨_, rfl⟩ | ⟨_, rfl⟩ | ⟨_, rfl⟩ | ⟨_, rfl⟩ | ⟨_, rfl⟩ | ⟨_, rfl⟩ | ⟨_, rfl⟩ | ⟨_, rfl⟩ | ⟨_, rfl⟩ | ⟨_, rfl⟩ | ⟨_, rfl⟩ | ⟨_, rfl⟩ | ⟨_, rfl⟩ <;>
    exact ⟨_, _, rfl, by decide, by decide, by decide, by decide⟩
theorem tokA_num {l : List Nat} (pl : Bool) (h : numA l ≠ []) : tokA l pl = some ⟨1, numA l, numA l⟩ := by
  unfold tokA
  rw [if_pos (empty_not h)]
theorem tokA_str34 {l x : List Nat} (pl : Bool) (hn : numA l = []) (h : strAt 34 l = some x) : tokA l pl = some ⟨2, x, 34 :: x ++ [34]⟩ := by
  unfold tokA
  rw [hn, h]; rfl
theorem tokA_str39 {l x : List Nat} (pl : Bool) (hn : numA l = []) (h0 : strAt 34 l = none) (h : strAt 39 l = some x) : tokA l pl = some ⟨2, x, 39 :: x ++ [39]⟩ := by
  unfold tokA
  rw [hn, h0, h]; rfl
theorem tokA_var {l x : List Nat} (pl : Bool) (hn : numA l = []) (h0 : strAt 34 l = none) (h1 : strAt 39 l = none) (h : varA l = some x) : tokA l pl = some ⟨7, x, 36 :: x⟩ := by
  unfold tokA
  rw [hn, h0, h1, h]; rfl
theorem tokA_word {l : List Nat} (pl : Bool) (hn : numA l = []) (h0 : strAt 34 l = none) (h1 : strAt 39 l = none) (h2 : varA l = none) (h : wordA l ≠ []) :
    tokA l pl = (wordK (wordA l) (l.drop (wordA l).length) pl).map (fun k => ⟨k, wordA l, wordA l⟩) := by
  unfold tokA
  rw [hn, h0, h1, h2]
  simp only [List.isEmpty_nil, Bool.not_true]
  rw [if_neg (by decide), if_pos (empty_not h)]
theorem tokA_sign {l : List Nat} (pl : Bool) (hn : numA l = []) (h0 : strAt 34 l = none) (h1 : strAt 39 l = none) (h2 : varA l = none) (h : wordA l = []) :
    tokA l pl = (signA l).map (fun x => ⟨x.1, x.2, x.2⟩) := by
  unfold tokA
  rw [hn, h0, h1, h2, h]
  rfl
end Go.Proofs.YthkkfldmoflfaaaGreatDoor
