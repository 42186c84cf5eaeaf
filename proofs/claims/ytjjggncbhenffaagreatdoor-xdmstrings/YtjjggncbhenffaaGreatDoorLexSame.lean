/- Tokens that are parted by blanks are read as they were: plain lemmas. -/
import Derived.Test.YtjjggncbhenffaaGreatDoorGae
namespace Go.Proofs.YtjjggncbhenffaaGreatDoor
/-- Nothing, or a blank first. -/
def parted (r : List Nat) : Prop := ∀ c, r.head? = some c → blankC c = true
theorem goC_of_beg {c : Nat} (h : begC c = true) : goC c = true := by simp only [begC] at h; simp [goC, h]
/-- A run ends where the test fails. -/
theorem takeWhile_run (p : Nat → Bool) (a r : List Nat) (ha : ∀ c ∈ a, p c = true) (hr : ∀ c, r.head? = some c → p c = false) : (a ++ r).takeWhile p = a := by
  rw [List.takeWhile_append_of_pos ha]
  cases r with
  | nil => simp
  | cons c t => rw [List.takeWhile_cons_of_neg (by rw [hr c rfl]; decide)]; simp
theorem all_takeWhile (p : Nat → Bool) (l : List Nat) : ∀ c ∈ l.takeWhile p, p c = true := fun c hc => by
  have := List.all_takeWhile (p := p) (l := l)
  rw [List.all_eq_true] at this
  exact this c hc
theorem heads_cons (c d : Nat) (t : List Nat) : heads c (d :: t) = (d == c) := by
  unfold heads; simp only [List.head?_cons]; rw [Bool.eq_iff_iff]; simp
theorem heads_true {c : Nat} {l : List Nat} (h : heads c l = true) : l = c :: l.tail := by
  cases l with
  | nil => cases h
  | cons d t => rw [heads_cons] at h; simp at h; subst h; rfl
theorem empty_not {l : List Nat} (h : l ≠ []) : (!l.isEmpty) = true := by cases l with | nil => exact absurd rfl h | cons _ _ => rfl
theorem nameA_all (l : List Nat) : ∀ c ∈ nameA l, goC c = true := by
  cases l with
  | nil => intro c h; cases h
  | cons a t =>
    rw [nameA]
    by_cases hb : begC a = true
    · rw [if_pos hb]
      intro c hc
      rcases List.mem_cons.1 hc with rfl | hc
      · exact goC_of_beg hb
      · exact all_takeWhile goC t c hc
    · rw [if_neg hb]; intro c h; cases h
theorem nameA_run (l r : List Nat) (hr : ∀ c, r.head? = some c → goC c = false) (h : nameA l = l) (hn : l ≠ []) : nameA (l ++ r) = l := by
  cases l with
  | nil => exact absurd rfl hn
  | cons a t =>
    rw [nameA] at h
    by_cases hb : begC a = true
    · rw [if_pos hb] at h
      have ht : t.takeWhile goC = t := (List.cons.inj h).2
      show nameA (a :: (t ++ r)) = _
      rw [nameA, if_pos hb, takeWhile_run goC t r (fun c hc => all_takeWhile goC t c (by rw [ht]; exact hc)) hr]
    · rw [if_neg hb] at h; cases h
theorem takeWhile_twice (p : Nat → Bool) (l : List Nat) : (l.takeWhile p).takeWhile p = l.takeWhile p := by
  have := takeWhile_run p (l.takeWhile p) [] (all_takeWhile p l) (fun _ h => by cases h)
  simpa using this
theorem nameA_twice (l : List Nat) : nameA (nameA l) = nameA l := by
  cases l with
  | nil => rfl
  | cons a t =>
    by_cases hb : begC a = true
    · rw [nameA, if_pos hb, nameA, if_pos hb, takeWhile_twice]
    · rw [nameA, if_neg hb]; rfl
theorem nameA_pre (l : List Nat) : nameA l <+: l := by
  cases l with
  | nil => exact List.prefix_refl _
  | cons a t =>
    rw [nameA]
    by_cases hb : begC a = true
    · rw [if_pos hb]; exact List.cons_prefix_cons.2 ⟨rfl, List.takeWhile_prefix _⟩
    · rw [if_neg hb]; exact List.nil_prefix
theorem pre_drop {a l : List Nat} (h : a <+: l) : a ++ l.drop a.length = l := by
  obtain ⟨t, rfl⟩ := h
  rw [List.drop_left]
theorem go58 : goC 58 = false := by decide
theorem qnameA_eq (l : List Nat) : qnameA l = if !(nameA l).isEmpty && (heads 58 (l.drop (nameA l).length) && !(nameA (l.drop (nameA l).length).tail).isEmpty) then nameA l ++ 58 :: nameA (l.drop (nameA l).length).tail else nameA l := rfl
theorem nameA_no {c : Nat} (h : begC c = false) (t : List Nat) : nameA (c :: t) = [] := by rw [nameA, if_neg (by rw [h]; decide)]
theorem isNm_nil : isNm [] = false := rfl
theorem qnameA_name {l : List Nat} (h : qnameA l ≠ []) : nameA l ≠ [] := fun e => h (by unfold qnameA; rw [e]; rfl)
theorem qnameA_pre (l : List Nat) : qnameA l <+: l := by
  unfold qnameA
  by_cases h : (!(nameA l).isEmpty && (heads 58 (l.drop (nameA l).length) && !(nameA (l.drop (nameA l).length).tail).isEmpty)) = true
  · rw [if_pos h]
    simp only [Bool.and_eq_true] at h
    have e := pre_drop (nameA_pre l)
    have e2 := heads_true h.2.1
    obtain ⟨t, ht⟩ := nameA_pre (l.drop (nameA l).length).tail
    refine ⟨t, ?_⟩
    rw [List.append_assoc, List.cons_append, ht, ← e2]
    exact e
  · rw [if_neg h]; exact nameA_pre l
/-- The same token, perhaps with other signs around a string. -/
def alike (t t' : Tok) : Prop := t'.kind = t.kind ∧ t'.text = t.text ∧ (t'.raw = t.raw ∨ t.kind = 2 ∧ ∃ q, (q = 34 ∨ q = 39) ∧ q ∉ t.text ∧ t'.raw = q :: t.text ++ [q])
end Go.Proofs.YtjjggncbhenffaaGreatDoor
