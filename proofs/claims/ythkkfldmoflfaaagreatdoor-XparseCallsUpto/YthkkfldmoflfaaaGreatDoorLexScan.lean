/- A text's tokens: where they stand, and that they are read again as they were if they are parted by blanks: plain lemmas. -/
import Derived.Test.YthkkfldmoflfaaaGreatDoorLexSame
namespace Go.Proofs.YthkkfldmoflfaaaGreatDoor
/-- How a token stands in its characters. -/
def formed (t : Tok) : Prop := (t.kind = 2 ∧ ∃ q, (q = 34 ∨ q = 39) ∧ q ∉ t.text ∧ t.raw = q :: t.text ++ [q]) ∨ (t.kind = 7 ∧ t.raw = 36 :: t.text ∧ t.text ≠ [] ∧ ∀ c ∈ t.text, blankC c = false) ∨ (t.kind ≠ 2 ∧ t.kind ≠ 7 ∧ t.raw = t.text ∧ t.text ≠ [] ∧ ∀ c ∈ t.text, blankC c = false)
theorem dig_blank {c : Nat} (h : digC c = true) : blankC c = false := by
  cases hb : blankC c
  · rfl
  · rw [blank_dig hb] at h; cases h
theorem go_blank {c : Nat} (h : goC c = true) : blankC c = false := by
  cases hb : blankC c
  · rfl
  · rw [blank_go hb] at h; cases h
theorem numA_blank (l : List Nat) : ∀ c ∈ numA l, blankC c = false := by
  unfold numA
  split
  · intro c hc
    rcases List.mem_append.1 hc with hc | hc
    · exact dig_blank (digsA_all _ c hc)
    · rcases List.mem_cons.1 hc with rfl | hc
      · rfl
      · exact dig_blank (digsA_all _ c hc)
  · exact fun c hc => dig_blank (digsA_all _ c hc)
theorem qnameA_blank (l : List Nat) : ∀ c ∈ qnameA l, blankC c = false := by
  unfold qnameA
  split
  · intro c hc
    rcases List.mem_append.1 hc with hc | hc
    · exact go_blank (nameA_all _ c hc)
    · rcases List.mem_cons.1 hc with rfl | hc
      · rfl
      · exact go_blank (nameA_all _ c hc)
  · exact fun c hc => go_blank (nameA_all _ c hc)
theorem wordA_blank (l : List Nat) : ∀ c ∈ wordA l, blankC c = false := by
  unfold wordA
  split
  · intro c hc; rw [List.mem_singleton.1 hc]; rfl
  · split
    · intro c hc
      rcases List.mem_append.1 hc with hc | hc
      · exact qnameA_blank l c hc
      · simp at hc; rcases hc with rfl | rfl <;> rfl
    · exact qnameA_blank l
theorem numA_pre (l : List Nat) : numA l <+: l := by
  unfold numA
  by_cases h : (heads 46 (l.drop (digsA l).length) && !(digsA (l.drop (digsA l).length).tail).isEmpty) = true
  · rw [if_pos h]
    rw [Bool.and_eq_true] at h
    have e := digsA_pre l
    have e2 := heads_true h.1
    refine ⟨(l.drop (digsA l).length).tail.drop (digsA (l.drop (digsA l).length).tail).length, ?_⟩
    rw [List.append_assoc, List.cons_append, digsA_pre, ← e2]
    exact e
  · rw [if_neg h]; exact List.takeWhile_prefix _
theorem wordK_kinds {w b : List Nat} {pl : Bool} {k : Nat} (h : wordK w b pl = some k) : k ≠ 2 ∧ k ≠ 7 := by
  unfold wordK at h
  repeat' split at h
  all_goals (cases h)
  all_goals decide
theorem tokA_formed {l : List Nat} {pl : Bool} {t : Tok} (h : tokA l pl = some t) : formed t ∧ t.raw <+: l := by
  rcases tokA_cases h with ⟨hn, rfl⟩ | ⟨q, x, hq, hs, rfl⟩ | ⟨x, hv, rfl⟩ | ⟨k, hw, hk, rfl⟩ | ⟨k, x, hn, hw, hk, rfl⟩
  · exact ⟨.inr (.inr ⟨show 1 ≠ 2 by decide, show 1 ≠ 7 by decide, rfl, hn, numA_blank l⟩), numA_pre l⟩
  · obtain ⟨h1, h2⟩ := strAt_some hs
    exact ⟨.inl ⟨rfl, q, hq, h1, rfl⟩, h2⟩
  · unfold varA at hv
    split at hv
    · rename_i hh
      rw [Bool.and_eq_true] at hh
      cases hv
      refine ⟨.inr (.inl ⟨rfl, rfl, ne_empty hh.2, qnameA_blank _⟩), ?_⟩
      have e := heads_true hh.1
      conv => rhs; rw [e]
      exact List.cons_prefix_cons.2 ⟨rfl, qnameA_pre _⟩
    · cases hv
  · obtain ⟨k2, k7⟩ := wordK_kinds hk
    exact ⟨.inr (.inr ⟨k2, k7, rfl, hw, wordA_blank l⟩), wordA_pre l⟩
  · obtain ⟨hm, hp⟩ := signA_mem hk
    obtain ⟨c, u, rfl, _, _, _, hb⟩ := sign_first hm
    refine ⟨.inr (.inr ⟨?_, ?_, rfl, by simp, hb⟩), hp⟩ <;> · rintro rfl; simp [signL] at hm
theorem formed_ends {t : Tok} (h : formed t) : ∃ c d a, blankC c = false ∧ blankC d = false ∧ t.raw.head? = some c ∧ t.raw = a ++ [d] := by
  have key : ∀ x : List Nat, x ≠ [] → (∀ c ∈ x, blankC c = false) → ∃ c d a, blankC c = false ∧ blankC d = false ∧ x.head? = some c ∧ x = a ++ [d] := by
    intro x hx hb
    cases x with
    | nil => exact absurd rfl hx
    | cons c u => exact ⟨c, (c :: u).getLast hx, (c :: u).dropLast, hb c (by simp), hb _ (List.getLast_mem hx), rfl, (List.dropLast_concat_getLast hx).symm⟩
  rcases h with ⟨_, q, hq, _, e⟩ | ⟨_, e, h0, hb⟩ | ⟨_, _, e, h0, hb⟩
  · have hbq : blankC q = false := by rcases hq with rfl | rfl <;> rfl
    exact ⟨q, q, q :: t.text, hbq, hbq, by rw [e]; rfl, e⟩
  · exact key _ (by rw [e]; simp) (by rw [e]; intro c hc; rcases List.mem_cons.1 hc with rfl | hc; rfl; exact hb c hc)
  · rw [e]; exact key _ h0 hb
theorem formed_ne {t : Tok} (h : formed t) : t.raw ≠ [] := by
  obtain ⟨c, d, a, _, _, _, e⟩ := formed_ends h
  rw [e]; simp
/-- Tokens that stand one behind the other, with blanks between. -/
def Laid (n : List Nat → Nat) : List Nat → List Nat → List (Tok × Nat) → Prop
  | _, l, [] => ∀ c ∈ l, blankC c = true
  | pre, l, x :: ts => formed x.1 ∧ ∃ b r, (∀ c ∈ b, blankC c = true) ∧ l = b ++ x.1.raw ++ r ∧ x.2 = n (pre ++ b) ∧ Laid n (pre ++ b ++ x.1.raw) r ts
theorem blanks_ahead (l : List Nat) : ∀ c, (l.dropWhile blankC).head? = some c → blankC c = false := by
  intro c hc
  cases hx : l.dropWhile blankC with
  | nil => rw [hx] at hc; cases hc
  | cons d u =>
    rw [hx] at hc; cases hc
    have := List.head_dropWhile_not (l := l) blankC (by rw [hx]; simp)
    simpa only [hx, List.head_cons, Bool.not_eq_true] using this
theorem scan_more (n : List Nat → Nat) : ∀ f acc pre l R, scanA n f acc pre l = .ok R → ∃ ts, R = acc ++ ts
  | 0, acc, _, _, R, h => ⟨[], by cases h; simp⟩
  | f + 1, acc, pre, l, R, h => by
    rw [scanA] at h
    split at h
    · cases h; exact ⟨[], by simp⟩
    · split at h
      · cases h
      · obtain ⟨ts, rfl⟩ := scan_more n f _ _ _ R h
        exact ⟨_ :: ts, by rw [List.append_assoc]; rfl⟩
/-- One step of the scan. -/
theorem scan_step (n : List Nat → Nat) (f : Nat) (acc ts : List (Tok × Nat)) (pre l : List Nat) (h : scanA n (f + 1) acc pre l = .ok (acc ++ ts)) (hl : l.length < f + 1) :
    (l.dropWhile blankC = [] ∧ ts = []) ∨ ∃ t ts1 r, tokA (l.dropWhile blankC) (plOf acc) = some t ∧ formed t ∧ l.dropWhile blankC = t.raw ++ r ∧ ts = (t, n (pre ++ l.takeWhile blankC)) :: ts1 ∧ r.length < f ∧
      scanA n f (acc ++ [(t, n (pre ++ l.takeWhile blankC))]) (pre ++ l.takeWhile blankC ++ t.raw) r = .ok (acc ++ [(t, n (pre ++ l.takeWhile blankC))] ++ ts1) := by
  rw [scanA] at h
  split at h
  · rename_i he
    refine .inl ⟨by simpa using he, ?_⟩
    cases h' : ts with
    | nil => rfl
    | cons a b =>
      rw [h'] at h
      have := congrArg (fun x => match x with | Except.ok y => y.length | .error _ => 0) h
      simp at this
  · rename_i he
    split at h
    · cases h
    · rename_i t ht
      obtain ⟨hf, hp⟩ := tokA_formed ht
      obtain ⟨r, hr⟩ := hp
      rw [← hr, List.drop_left] at h
      obtain ⟨ts1, e⟩ := scan_more n f _ _ _ _ h
      have ets : ts = (t, n (pre ++ l.takeWhile blankC)) :: ts1 := by
        rw [List.append_assoc] at e
        exact List.append_cancel_left e
      refine .inr ⟨t, ts1, r, ht, hf, hr.symm, ets, ?_, by rw [h, e]⟩
      have h1 := congrArg List.length hr
      have h2 : (l.dropWhile blankC).length ≤ l.length := by
        have := congrArg List.length (List.takeWhile_append_dropWhile (p := blankC) (l := l))
        rw [List.length_append] at this
        omega
      have h3 : 0 < t.raw.length := List.length_pos_iff.2 (formed_ne hf)
      rw [List.length_append] at h1
      omega
theorem scan_laid (n : List Nat → Nat) : ∀ f acc pre l ts, scanA n f acc pre l = .ok (acc ++ ts) → l.length < f → Laid n pre l ts
  | 0, _, _, l, _, _, hl => absurd hl (by omega)
  | f + 1, acc, pre, l, ts, h, hl => by
    rcases scan_step n f acc ts pre l h hl with ⟨he, rfl⟩ | ⟨t, ts1, r, ht, hf, hr, rfl, hlr, hs⟩
    · intro c hc
      have e := List.takeWhile_append_dropWhile (p := blankC) (l := l)
      rw [he, List.append_nil] at e
      rw [← e] at hc
      exact all_takeWhile blankC l c hc
    · refine ⟨hf, l.takeWhile blankC, r, all_takeWhile blankC l, ?_, rfl, scan_laid n f _ _ r ts1 hs hlr⟩
      have e := List.takeWhile_append_dropWhile (p := blankC) (l := l)
      rw [hr] at e
      rw [List.append_assoc]
      exact e.symm
/-- Each token: where it stands, and what stands between it and the next one. -/
theorem laid_at (n : List Nat → Nat) : ∀ ts pre l, Laid n pre l ts → ∀ i x, ts[i]? = some x → formed x.1 ∧ ∃ p b r, pre ++ l = p ++ x.1.raw ++ b ++ r ∧ x.2 = n p ∧ (∀ c ∈ b, blankC c = true) ∧
      (ts[i + 1]? = none → r = []) ∧ (∀ y, ts[i + 1]? = some y → y.2 = n (p ++ x.1.raw ++ b) ∧ ∃ r', r = y.1.raw ++ r')
  | [], _, _, _, i, x, hx => by simp at hx
  | x0 :: ts, pre, l, ⟨hf, b0, r0, hb0, el, ha, hL⟩, 0, x, hx => by
    subst el
    simp at hx
    subst hx
    refine ⟨hf, ?_⟩
    cases ts with
    | nil => exact ⟨pre ++ b0, r0, [], by simp, ha, hL, fun _ => rfl, fun y hy => by simp at hy⟩
    | cons y ts =>
      obtain ⟨hfy, b1, r1, hb1, rfl, ha1, hL1⟩ := hL
      refine ⟨pre ++ b0, b1, y.1.raw ++ r1, by simp, ha, hb1, fun h => by simp at h, fun z hz => ?_⟩
      simp at hz
      subst hz
      exact ⟨by simpa using ha1, r1, rfl⟩
  | x0 :: ts, pre, l, ⟨hf, b0, r0, hb0, el, ha, hL⟩, i + 1, x, hx => by
    subst el
    simp only [List.getElem?_cons_succ] at hx ⊢
    obtain ⟨h1, p, b, r, e, h2, h3, h4, h5⟩ := laid_at n ts _ _ hL i x hx
    exact ⟨h1, p, b, r, by rw [← e]; simp, h2, h3, h4, h5⟩
theorem drop_blanks {b x : List Nat} (hb : ∀ c ∈ b, blankC c = true) (hx : ∀ c, x.head? = some c → blankC c = false) : (b ++ x).dropWhile blankC = x ∧ (b ++ x).takeWhile blankC = b :=
  ⟨dropWhile_run blankC b x hb hx, takeWhile_run blankC b x hb hx⟩
theorem heads_app {c : Nat} {x y : List Nat} (h : x ≠ []) : heads c (x ++ y) = heads c x := by
  cases x with
  | nil => exact absurd rfl h
  | cons d u => rfl
theorem plOf_snoc (acc : List (Tok × Nat)) (x : Tok × Nat) : plOf (acc ++ [x]) = behindOp x.1 := by
  unfold plOf; rw [List.getLast?_concat]
end Go.Proofs.YthkkfldmoflfaaaGreatDoor
