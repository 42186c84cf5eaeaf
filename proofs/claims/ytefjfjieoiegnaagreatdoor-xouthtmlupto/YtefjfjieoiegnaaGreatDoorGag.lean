/- Several texts, laid as one. -/
import Derived.Test.YtefjfjieoiegnaaGreatDoorGae
import Derived.Test.YtefjfjieoiegnaaGreatDoorLexSame
import Derived.Test.YtefjfjieoiegnaaGreatDoorGac
import Derived.Test.YtefjfjieoiegnaaGreatDoorGad
import Derived.Test.YtefjfjieoiegnaaGreatDoorGaa
/- The digits, the name that a text begins with: xplex's digitsAhead and nameAhead. -/
namespace Go.Proofs.YtefjfjieoiegnaaGreatDoor
open Go.RowKit
theorem digsA_stop (p t : List Nat) (c : Nat) (hp : ∀ x ∈ p, digC x = true) (hc : digC c = false) : digsA (p ++ c :: t) = p := digsA_run p (c :: t) hp (fun x hx => by cases hx; exact hc)
theorem digsA_whole (p : List Nat) (hp : ∀ x ∈ p, digC x = true) : digsA p = p := by
  have := digsA_run p [] hp (fun x hx => by cases hx)
  rwa [List.append_nil] at this
theorem nameA_one {c : Nat} (h : begC c = true) : nameA [c] = [c] := by rw [nameA, if_pos h]; rfl
theorem nameA_snoc {p : List Nat} {c : Nat} (hp : nameA p = p) (h0 : p ≠ []) (hc : goC c = true) : nameA (p ++ [c]) = p ++ [c] := by
  cases p with
  | nil => exact absurd rfl h0
  | cons a t =>
    rw [nameA] at hp
    by_cases hb : begC a = true
    · rw [if_pos hb] at hp
      have ht : t.takeWhile goC = t := (List.cons.inj hp).2
      show nameA (a :: (t ++ [c])) = a :: (t ++ [c])
      rw [nameA, if_pos hb, List.takeWhile_append_of_pos (fun x hx => all_takeWhile goC t x (by rw [ht]; exact hx)), List.takeWhile_cons_of_pos hc]
      rfl
    · rw [if_neg hb] at hp; cases hp
end Go.Proofs.YtefjfjieoiegnaaGreatDoor
/- A text's tokens: where they stand, and that they are read again as they were if they are parted by blanks: plain lemmas. -/
namespace Go.Proofs.YtefjfjieoiegnaaGreatDoor
/-- How a token stands in its characters. -/
def formed (t : Tok) : Prop := (t.kind = 2 ∧ ∃ q, (q = 34 ∨ q = 39) ∧ q ∉ t.text ∧ t.raw = q :: t.text ++ [q]) ∨ (t.kind = 7 ∧ t.raw = 36 :: t.text ∧ t.text ≠ [] ∧ ∀ c ∈ t.text, blankC c = false) ∨ (t.kind ≠ 2 ∧ t.kind ≠ 7 ∧ t.raw = t.text ∧ t.text ≠ [] ∧ ∀ c ∈ t.text, blankC c = false)
theorem dig_blank {c : Nat} (h : digC c = true) : blankC c = false := by
  cases hb : blankC c
  · rfl
  · rw [blank_dig hb] at h; cases h
theorem go_blank {c : Nat} (h : goC c = true) : blankC c = false := by
  cases hb : blankC c
  · rfl
  · rw [blank_go hb] at h; cases h
theorem numA_blank (l : List Nat) : ∀ c ∈ numA l, blankC c = false := by
  unfold numA
  split
  · intro c hc
    rcases List.mem_append.1 hc with hc | hc
    · exact dig_blank (digsA_all _ c hc)
    · rcases List.mem_cons.1 hc with rfl | hc
      · rfl
      · exact dig_blank (digsA_all _ c hc)
  · exact fun c hc => dig_blank (digsA_all _ c hc)
theorem qnameA_blank (l : List Nat) : ∀ c ∈ qnameA l, blankC c = false := by
  unfold qnameA
  split
  · intro c hc
    rcases List.mem_append.1 hc with hc | hc
    · exact go_blank (nameA_all _ c hc)
    · rcases List.mem_cons.1 hc with rfl | hc
      · rfl
      · exact go_blank (nameA_all _ c hc)
  · exact fun c hc => go_blank (nameA_all _ c hc)
theorem wordA_blank (l : List Nat) : ∀ c ∈ wordA l, blankC c = false := by
  unfold wordA
  split
  · intro c hc; rw [List.mem_singleton.1 hc]; rfl
  · split
    · intro c hc
      rcases List.mem_append.1 hc with hc | hc
      · exact qnameA_blank l c hc
      · simp at hc; rcases hc with rfl | rfl <;> rfl
    · exact qnameA_blank l
theorem numA_pre (l : List Nat) : numA l <+: l := by
  unfold numA
  by_cases h : (heads 46 (l.drop (digsA l).length) && !(digsA (l.drop (digsA l).length).tail).isEmpty) = true
  · rw [if_pos h]
    rw [Bool.and_eq_true] at h
    have e := digsA_pre l
    have e2 := heads_true h.1
    refine ⟨(l.drop (digsA l).length).tail.drop (digsA (l.drop (digsA l).length).tail).length, ?_⟩
    rw [List.append_assoc, List.cons_append, digsA_pre, ← e2]
    exact e
  · rw [if_neg h]; exact List.takeWhile_prefix _
theorem wordK_kinds {w b : List Nat} {pl : Bool} {k : Nat} (h : wordK w b pl = some k) : k ≠ 2 ∧ k ≠ 7 := by
  unfold wordK at h
  repeat' split at h
  all_goals (cases h)
  all_goals decide
theorem tokA_formed {l : List Nat} {pl : Bool} {t : Tok} (h : tokA l pl = some t) : formed t ∧ t.raw <+: l := by
  rcases tokA_cases h with ⟨hn, rfl⟩ | ⟨q, x, hq, hs, rfl⟩ | ⟨x, hv, rfl⟩ | ⟨k, hw, hk, rfl⟩ | ⟨k, x, hn, hw, hk, rfl⟩
  · exact ⟨.inr (.inr ⟨show 1 ≠ 2 by decide, show 1 ≠ 7 by decide, rfl, hn, numA_blank l⟩), numA_pre l⟩
  · obtain ⟨h1, h2⟩ := strAt_some hs
    exact ⟨.inl ⟨rfl, q, hq, h1, rfl⟩, h2⟩
  · unfold varA at hv
    split at hv
    · rename_i hh
      rw [Bool.and_eq_true] at hh
      cases hv
      refine ⟨.inr (.inl ⟨rfl, rfl, ne_empty hh.2, qnameA_blank _⟩), ?_⟩
      have e := heads_true hh.1
      conv => rhs; rw [e]
      exact List.cons_prefix_cons.2 ⟨rfl, qnameA_pre _⟩
    · cases hv
  · obtain ⟨k2, k7⟩ := wordK_kinds hk
    exact ⟨.inr (.inr ⟨k2, k7, rfl, hw, wordA_blank l⟩), wordA_pre l⟩
  · obtain ⟨hm, hp⟩ := signA_mem hk
    obtain ⟨c, u, rfl, _, _, _, hb⟩ := sign_first hm
    refine ⟨.inr (.inr ⟨?_, ?_, rfl, by simp, hb⟩), hp⟩ <;> · rintro rfl; simp [signL] at hm
theorem formed_ends {t : Tok} (h : formed t) : ∃ c d a, blankC c = false ∧ blankC d = false ∧ t.raw.head? = some c ∧ t.raw = a ++ [d] := by
  have key : ∀ x : List Nat, x ≠ [] → (∀ c ∈ x, blankC c = false) → ∃ c d a, blankC c = false ∧ blankC d = false ∧ x.head? = some c ∧ x = a ++ [d] := by
    intro x hx hb
    cases x with
    | nil => exact absurd rfl hx
    | cons c u => exact ⟨c, (c :: u).getLast hx, (c :: u).dropLast, hb c (by simp), hb _ (List.getLast_mem hx), rfl, (List.dropLast_concat_getLast hx).symm⟩
  rcases h with ⟨_, q, hq, _, e⟩ | ⟨_, e, h0, hb⟩ | ⟨_, _, e, h0, hb⟩
  · have hbq : blankC q = false := by rcases hq with rfl | rfl <;> rfl
    exact ⟨q, q, q :: t.text, hbq, hbq, by rw [e]; rfl, e⟩
  · exact key _ (by rw [e]; simp) (by rw [e]; intro c hc; rcases List.mem_cons.1 hc with rfl | hc; rfl; exact hb c hc)
  · rw [e]; exact key _ h0 hb
theorem formed_ne {t : Tok} (h : formed t) : t.raw ≠ [] := by
  obtain ⟨c, d, a, _, _, _, e⟩ := formed_ends h
  rw [e]; simp
theorem formed_alike {t t' : Tok} (h : formed t) (ha : alike t t') : formed t' := by
  obtain ⟨a1, a2, a3⟩ := ha
  obtain ⟨k, x, r⟩ := t
  obtain ⟨k', x', r'⟩ := t'
  simp only at a1 a2
  subst a1 a2
  rcases a3 with a3 | ⟨hk, q, hq, hx, a3⟩
  · simp only at a3; subst a3; exact h
  · exact .inl ⟨hk, q, hq, hx, a3⟩
/-- Tokens that stand one behind the other, with blanks between. -/
def Laid (n : List Nat → Nat) : List Nat → List Nat → List (Tok × Nat) → Prop
  | _, l, [] => ∀ c ∈ l, blankC c = true
  | pre, l, x :: ts => formed x.1 ∧ ∃ b r, (∀ c ∈ b, blankC c = true) ∧ l = b ++ x.1.raw ++ r ∧ x.2 = n (pre ++ b) ∧ Laid n (pre ++ b ++ x.1.raw) r ts
theorem blanks_ahead (l : List Nat) : ∀ c, (l.dropWhile blankC).head? = some c → blankC c = false := by
  intro c hc
  cases hx : l.dropWhile blankC with
  | nil => rw [hx] at hc; cases hc
  | cons d u =>
    rw [hx] at hc; cases hc
    have := List.head_dropWhile_not (l := l) blankC (by rw [hx]; simp)
    simpa only [hx, List.head_cons, Bool.not_eq_true] using this
theorem scan_more (n : List Nat → Nat) : ∀ f acc pre l R, scanA n f acc pre l = .ok R → ∃ ts, R = acc ++ ts
  | 0, acc, _, _, R, h => ⟨[], by cases h; simp⟩
  | f + 1, acc, pre, l, R, h => by
    rw [scanA] at h
    split at h
    · cases h; exact ⟨[], by simp⟩
    · split at h
      · cases h
      · obtain ⟨ts, rfl⟩ := scan_more n f _ _ _ R h
        exact ⟨_ :: ts, by rw [List.append_assoc]; rfl⟩
/-- One step of the scan. -/
theorem scan_step (n : List Nat → Nat) (f : Nat) (acc ts : List (Tok × Nat)) (pre l : List Nat) (h : scanA n (f + 1) acc pre l = .ok (acc ++ ts)) (hl : l.length < f + 1) :
    (l.dropWhile blankC = [] ∧ ts = []) ∨ ∃ t ts1 r, tokA (l.dropWhile blankC) (plOf acc) = some t ∧ formed t ∧ l.dropWhile blankC = t.raw ++ r ∧ ts = (t, n (pre ++ l.takeWhile blankC)) :: ts1 ∧ r.length < f ∧
      scanA n f (acc ++ [(t, n (pre ++ l.takeWhile blankC))]) (pre ++ l.takeWhile blankC ++ t.raw) r = .ok (acc ++ [(t, n (pre ++ l.takeWhile blankC))] ++ ts1) := by
  rw [scanA] at h
  split at h
  · rename_i he
    refine .inl ⟨by simpa using he, ?_⟩
    cases h' : ts with
    | nil => rfl
    | cons a b =>
      rw [h'] at h
      have := congrArg (fun x => match x with | Except.ok y => y.length | .error _ => 0) h
      simp at this
  · rename_i he
    split at h
    · cases h
    · rename_i t ht
      obtain ⟨hf, hp⟩ := tokA_formed ht
      obtain ⟨r, hr⟩ := hp
      rw [← hr, List.drop_left] at h
      obtain ⟨ts1, e⟩ := scan_more n f _ _ _ _ h
      have ets : ts = (t, n (pre ++ l.takeWhile blankC)) :: ts1 := by
        rw [List.append_assoc] at e
        exact List.append_cancel_left e
      refine .inr ⟨t, ts1, r, ht, hf, hr.symm, ets, ?_, by rw [h, e]⟩
      have h1 := congrArg List.length hr
      have h2 : (l.dropWhile blankC).length ≤ l.length := by
        have := congrArg List.length (List.takeWhile_append_dropWhile (p := blankC) (l := l))
        rw [List.length_append] at this
        omega
      have h3 : 0 < t.raw.length := List.length_pos_iff.2 (formed_ne hf)
      rw [List.length_append] at h1
      omega
theorem scan_laid (n : List Nat → Nat) : ∀ f acc pre l ts, scanA n f acc pre l = .ok (acc ++ ts) → l.length < f → Laid n pre l ts
  | 0, _, _, l, _, _, hl => absurd hl (by omega)
  | f + 1, acc, pre, l, ts, h, hl => by
    rcases scan_step n f acc ts pre l h hl with ⟨he, rfl⟩ | ⟨t, ts1, r, ht, hf, hr, rfl, hlr, hs⟩
    · intro c hc
      have e := List.takeWhile_append_dropWhile (p := blankC) (l := l)
      rw [he, List.append_nil] at e
      rw [← e] at hc
      exact all_takeWhile blankC l c hc
    · refine ⟨hf, l.takeWhile blankC, r, all_takeWhile blankC l, ?_, rfl, scan_laid n f _ _ r ts1 hs hlr⟩
      have e := List.takeWhile_append_dropWhile (p := blankC) (l := l)
      rw [hr] at e
      rw [List.append_assoc]
      exact e.symm
/-- Each token: where it stands, and what stands between it and the next one. -/
theorem laid_at (n : List Nat → Nat) : ∀ ts pre l, Laid n pre l ts → ∀ i x, ts[i]? = some x → formed x.1 ∧ ∃ p b r, pre ++ l = p ++ x.1.raw ++ b ++ r ∧ x.2 = n p ∧ (∀ c ∈ b, blankC c = true) ∧
      (ts[i + 1]? = none → r = []) ∧ (∀ y, ts[i + 1]? = some y → y.2 = n (p ++ x.1.raw ++ b) ∧ ∃ r', r = y.1.raw ++ r')
  | [], _, _, _, i, x, hx => by simp at hx
  | x0 :: ts, pre, l, ⟨hf, b0, r0, hb0, el, ha, hL⟩, 0, x, hx => by
    subst el
    simp at hx
    subst hx
    refine ⟨hf, ?_⟩
    cases ts with
    | nil => exact ⟨pre ++ b0, r0, [], by simp, ha, hL, fun _ => rfl, fun y hy => by simp at hy⟩
    | cons y ts =>
      obtain ⟨hfy, b1, r1, hb1, rfl, ha1, hL1⟩ := hL
      refine ⟨pre ++ b0, b1, y.1.raw ++ r1, by simp, ha, hb1, fun h => by simp at h, fun z hz => ?_⟩
      simp at hz
      subst hz
      exact ⟨by simpa using ha1, r1, rfl⟩
  | x0 :: ts, pre, l, ⟨hf, b0, r0, hb0, el, ha, hL⟩, i + 1, x, hx => by
    subst el
    simp only [List.getElem?_cons_succ] at hx ⊢
    obtain ⟨h1, p, b, r, e, h2, h3, h4, h5⟩ := laid_at n ts _ _ hL i x hx
    exact ⟨h1, p, b, r, by rw [← e]; simp, h2, h3, h4, h5⟩
/-- Tokens laid anew, parted by blanks. -/
inductive Resp : List Tok → List Tok → List Nat → Prop
  | nil (b : List Nat) : (∀ c ∈ b, blankC c = true) → Resp [] [] b
  | cons (b : List Nat) (t t' : Tok) (ts ts' : List Tok) (N : List Nat) : (∀ c ∈ b, blankC c = true) → alike t t' → Resp ts ts' N → parted N → Resp (t :: ts) (t' :: ts') (b ++ t'.raw ++ N)
theorem drop_blanks {b x : List Nat} (hb : ∀ c ∈ b, blankC c = true) (hx : ∀ c, x.head? = some c → blankC c = false) : (b ++ x).dropWhile blankC = x ∧ (b ++ x).takeWhile blankC = b :=
  ⟨dropWhile_run blankC b x hb hx, takeWhile_run blankC b x hb hx⟩
theorem drop_all_blanks {b : List Nat} (hb : ∀ c ∈ b, blankC c = true) : b.dropWhile blankC = [] := by
  have := (drop_blanks hb (x := []) (fun _ h => by cases h)).1
  simpa using this
theorem raw_head {t : Tok} (h : formed t) (N : List Nat) : ∀ c, (t.raw ++ N).head? = some c → blankC c = false := by
  obtain ⟨c, d, a, h1, _, h2, _⟩ := formed_ends h
  intro x hx
  rw [List.head?_append, h2] at hx
  cases hx; exact h1
theorem heads_app {c : Nat} {x y : List Nat} (h : x ≠ []) : heads c (x ++ y) = heads c x := by
  cases x with
  | nil => exact absurd rfl h
  | cons d u => rfl
/-- What a word asks of what follows does not hang on how the next token is laid. -/
theorem look_tok {m : List Nat} {pl : Bool} {t t' : Tok} (h : tokA m pl = some t) (ha : alike t t') (N : List Nat) : heads 40 m = heads 40 (t'.raw ++ N) ∧ [58, 58].isPrefixOf m = [58, 58].isPrefixOf (t'.raw ++ N) := by
  obtain ⟨hf, r, hr⟩ := tokA_formed h
  have hne := formed_ne hf
  have hne' := formed_ne (formed_alike hf ha)
  have hh : ∀ c, c ≠ 34 → c ≠ 39 → heads c m = heads c t'.raw := by
    intro c h1 h2
    rw [← hr, heads_app hne]
    rcases ha.2.2 with e | ⟨hk, q, hq, _, e⟩
    · rw [e]
    · rcases hf with ⟨_, q2, hq2, _, e2⟩ | ⟨h7, _⟩ | ⟨h7, _⟩
      · rw [e, e2, List.cons_append, List.cons_append, heads_cons, heads_cons]
        have : (q2 == c) = false := by rcases hq2 with rfl | rfl <;> simp <;> omega
        have h3 : (q == c) = false := by rcases hq with rfl | rfl <;> simp <;> omega
        rw [this, h3]
      · omega
      · exact absurd hk h7
  refine ⟨by rw [hh 40 (by decide) (by decide), heads_app hne'], ?_⟩
  have h58 := hh 58 (by decide) (by decide)
  by_cases hm : heads 58 m = true
  · have e := heads_true hm
    generalize m.tail = u at *
    rcases tokA_cases h with ⟨hn, rfl⟩ | ⟨q, x, hq, hs, rfl⟩ | ⟨x, hv, rfl⟩ | ⟨k, hw, hk, rfl⟩ | ⟨k, x, hn, hw, hk, rfl⟩
    · rw [e, numA_no 58 _ rfl (fun e => by cases e)] at hn; exact absurd rfl hn
    · rw [e, strAt_other (by omega)] at hs; cases hs
    · rw [e, varA_other (by decide)] at hv; cases hv
    · rw [e, wordA_no (by decide) (by decide)] at hw; exact absurd rfl hw
    · obtain ⟨hm2, hp⟩ := signA_mem hk
      obtain ⟨c, v, rfl, _, _, h2, _⟩ := sign_first hm2
      have hc : c = 58 := by
        rw [e] at hp
        exact (List.cons_prefix_cons.1 hp).1
      subst hc
      rw [h2 rfl] at hr ha
      have er : t'.raw = [58, 58] := by
        rcases ha.2.2 with e3 | ⟨e3, _⟩
        · exact e3
        · simp only at e3; subst e3; simp [signL] at hm2
      rw [er, ← hr]
      rfl
  · have hm' : heads 58 m = false := by simpa using hm
    have key : ∀ y, heads 58 y = false → [58, 58].isPrefixOf y = false := by
      intro y hy
      cases y with
      | nil => rfl
      | cons c v =>
        rw [heads_cons] at hy
        have hc : c ≠ 58 := by simpa using hy
        have : ([58, 58] : List Nat).isPrefixOf (c :: v) = ((58 == c) && [58].isPrefixOf v) := rfl
        rw [this, show ((58 : Nat) == c) = false by simpa using Ne.symm hc]
        rfl
    rw [key m hm', key _ (by rw [heads_app hne', ← h58]; exact hm')]
theorem look_scan (n : List Nat → Nat) (f : Nat) (acc ts : List (Tok × Nat)) (pre l : List Nat) (ts' : List Tok) (N : List Nat) (h : scanA n f acc pre l = .ok (acc ++ ts)) (hl : l.length < f) (hR : Resp (ts.map (·.1)) ts' N) : lookEq l N := by
  cases f with
  | zero => omega
  | succ f =>
    rcases scan_step n f acc ts pre l h hl with ⟨he, rfl⟩ | ⟨t, ts1, r, ht, hf, hr, rfl, hlr, hs⟩
    · cases hR with
      | nil b hb => unfold lookEq; rw [he, drop_all_blanks hb]; exact ⟨rfl, rfl⟩
    · cases hR with
      | cons b t t' ts2 ts2' N1 hb ha hR2 hp =>
        unfold lookEq
        rw [List.append_assoc, (drop_blanks hb (raw_head (formed_alike hf ha) N1)).1]
        exact look_tok ht ha N1
theorem plOf_snoc (acc : List (Tok × Nat)) (x : Tok × Nat) : plOf (acc ++ [x]) = behindOp x.1 := by
  unfold plOf; rw [List.getLast?_concat]
theorem respace (n n' : List Nat → Nat) : ∀ f acc pre l ts acc' pre' f' ts' N, scanA n f acc pre l = .ok (acc ++ ts) → l.length < f → Resp (ts.map (·.1)) ts' N → N.length < f' → plOf acc = plOf acc' →
    ∃ res, scanA n' f' acc' pre' N = .ok (acc' ++ res) ∧ res.map (·.1) = ts'
  | 0, _, _, l, _, _, _, _, _, _, _, hl, _, _, _ => absurd hl (by omega)
  | f + 1, acc, pre, l, ts, acc', pre', f', ts', N, h, hl, hR, hN, hpl => by
    cases f' with
    | zero => omega
    | succ f' =>
      rcases scan_step n f acc ts pre l h hl with ⟨he, rfl⟩ | ⟨t, ts1, r, ht, hf, hr, rfl, hlr, hs⟩
      · cases hR with
        | nil b hb => exact ⟨[], by rw [scanA, drop_all_blanks hb]; simp, rfl⟩
      · cases hR with
        | cons b t t' ts2 ts2' N1 hb ha hR2 hp =>
          have hf' := formed_alike hf ha
          have hd := drop_blanks hb (raw_head hf' N1)
          have hlook := look_scan n f _ ts1 _ r _ N1 hs hlr hR2
          have htok : tokA (t'.raw ++ N1) (plOf acc') = some t' := by
            rw [← hpl]
            exact tokA_re ht ha N1 hp (by rw [hr, List.drop_left]; exact hlook)
          have hne := formed_ne hf'
          have hlen : N1.length < f' := by
            have h3 : 0 < t'.raw.length := List.length_pos_iff.2 hne
            rw [List.length_append, List.length_append] at hN
            omega
          obtain ⟨res, e1, e2⟩ := respace n n' f _ _ r ts1 (acc' ++ [(t', n' (pre' ++ b))]) (pre' ++ b ++ t'.raw) f' ts2' N1 hs hlr hR2 hlen (by rw [plOf_snoc, plOf_snoc]; unfold behindOp; rw [ha.1, ha.2.1])
          refine ⟨(t', n' (pre' ++ b)) :: res, ?_, by rw [List.map_cons, e2]⟩
          rw [List.append_assoc b, scanA, hd.1, hd.2, if_neg (by cases hx : t'.raw with | nil => exact absurd hx hne | cons _ _ => simp), htok]
          simp only
          rw [List.drop_left, e1, List.append_assoc]
          rfl
end Go.Proofs.YtefjfjieoiegnaaGreatDoor
/- The number, the name, the string, the variable, the word that a text begins with: xplex's functions. -/
namespace Go.Proofs.YtefjfjieoiegnaaGreatDoor
open Go.RowKit
theorem cutPrefix_one (q : Nat) (u : UInt8) (hu : u = UInt8.ofNat q) (hq : q < 128) (l : List Nat) (hl : okL l) (w : World) :
    Calls Tryz.prog 53 #[.string (T l), .string ⟨#[u]⟩] w fun e w' => e = .returned (.tuple #[.string (T (if heads q l then l.tail else l)), .bool (heads q l)]) ∧ w' = w := by
  subst hu
  refine (Tryz.strings_CutPrefix (T l) ⟨#[UInt8.ofNat q]⟩ w).mono ?_
  rintro e w' ⟨rfl, rfl⟩
  refine ⟨?_, rfl⟩
  rw [T_data, show (⟨#[UInt8.ofNat q]⟩ : ByteArray).data.toList = [UInt8.ofNat q] from rfl, pre_one hq hl, cut_one hq hl]
  rfl
theorem suf_drop {l a : List Nat} (h : a <+: l) : (T l).extract (T a).size (T l).size = T (l.drop a.length) := by
  obtain ⟨t, rfl⟩ := h
  rw [List.drop_left]; exact T_suf a t
theorem size_pre {l a : List Nat} (h : a <+: l) : (T a).size ≤ (T l).size := by
  obtain ⟨t, rfl⟩ := h
  rw [T_size, T_size, tx_len_app]; omega
theorem pre_sz {l a : List Nat} (h : a <+: l) {n : Nat} (hn : n = (T a).size) : (T l).extract 0 n = T a := by
  obtain ⟨t, rfl⟩ := h
  rw [hn]; exact T_pre a t
theorem sz_cons {c : Nat} (hc : c < 128) (l : List Nat) : (T (c :: l)).size = 1 + (T l).size := by
  rw [T_size, T_size, tx_cons, List.length_append, runeB_one hc]; rfl
theorem sz_app (a b : List Nat) : (T (a ++ b)).size = (T a).size + (T b).size := by rw [T_size, T_size, T_size, tx_len_app]
theorem nil_T {l : List Nat} (h : l = []) : (T l).toList = [] := by rw [h, T_toList]; rfl
theorem ne_T {l : List Nat} (hl : okL l) (h : l ≠ []) : (T l).toList.isEmpty = false := by
  cases hx : (T l).toList with
  | nil => exact absurd ((T_empty hl).1 hx) h
  | cons _ _ => rfl
end Go.Proofs.YtefjfjieoiegnaaGreatDoor
/- A name has no colon, so a prefix and a local name are parted at the colon between them. -/
namespace Go.Proofs.YtefjfjieoiegnaaGreatDoor
open Go.RowKit
theorem colon_no : goesB 58 = false := by decide +kernel
theorem nameFrom_colon (s : ByteArray) : ∀ (f pos : Nat), s.size < pos + f → nameFrom s f pos = true → ∀ i, pos ≤ i → i < s.size → (s.get! i).toNat ≠ 58
  | 0, pos, hb, _, i, h1, h2 => by omega
  | f + 1, pos, hb, h, i, h1, h2 => by
    have hp : pos < s.size := by omega
    obtain ⟨d1, d2, d3⟩ := decode_bytes s pos hp
    have hw := width_pos s pos hp
    rw [nameFrom, if_pos hp] at h
    by_cases hc : (((pos : Int) == 0 && !beginB (Utf8.decode s pos).1) || !goesB (Utf8.decode s pos).1) = true
    · rw [if_pos hc] at h; cases h
    · rw [if_neg hc] at h
      have hg : goesB (Utf8.decode s pos).1 = true := by
        cases hg : goesB (Utf8.decode s pos).1
        · exact absurd (by simp [hg]) hc
        · rfl
      by_cases hi : i < pos + (Utf8.decode s pos).2
      · intro h58
        by_cases he : i = pos
        · subst he
          rw [d1 (by omega)] at hg
          simp only [h58] at hg
          have := colon_no
          rw [show ((58 : Nat) : Int) = 58 from rfl, this] at hg
          cases hg
        · have := d2 (i - pos) (by omega) (by omega)
          rw [show pos + (i - pos) = i by omega] at this
          omega
      · exact nameFrom_colon s f _ (by omega) h i (by omega) h2
theorem name_colon (s : ByteArray) (h : nameB s = true) : 58 ∉ s.data.toList := by
  simp only [nameB, Bool.and_eq_true] at h
  intro hm
  obtain ⟨i, hi, he⟩ := List.getElem_of_mem hm
  have := nameFrom_colon s (s.size + 1) 0 (by omega) h.2 i (Nat.zero_le _) hi
  rw [get_data s i hi, he] at this
  exact this rfl
theorem indexByte_first : ∀ (p r : List UInt8) (c : UInt8), c ∉ p → Lib.indexByte (p ++ c :: r) c = p.length
  | [], r, c, _ => by simp [Lib.indexByte]
  | x :: p, r, c, h => by
    have hx : ¬ (x == c) = true := fun e => h (by rw [beq_iff_eq.1 e]; simp)
    have ih := indexByte_first p r c (fun hm => h (List.mem_cons_of_mem _ hm))
    simp only [List.cons_append, Lib.indexByte, hx, ih]
    simp
theorem cut_first (p r : List UInt8) (c : UInt8) (h : c ∉ p) : Lib.cut (p ++ c :: r) [c] = (p, r, true) := by
  unfold Lib.cut
  rw [Lib.index_one, indexByte_first p r c h, if_pos (by omega)]
  simp
theorem first_of : ∀ (a b : List UInt8), 58 ∈ a → ∃ p r, a ++ 58 :: b = p ++ 58 :: r ∧ 58 ∉ p ∧ 58 ∈ r
  | [], b, h => by cases h
  | x :: a, b, h => by
    by_cases hx : x = 58
    · subst hx
      exact ⟨[], a ++ 58 :: b, rfl, by simp, by simp⟩
    · have hm : 58 ∈ a := by
        rcases List.mem_cons.1 h with e | e
        · exact absurd e.symm hx
        · exact e
      obtain ⟨p, r, e, h1, h2⟩ := first_of a b hm
      exact ⟨x :: p, r, by rw [List.cons_append, e]; rfl, by simp [h1, Ne.symm hx], h2⟩
theorem mk_data (s : ByteArray) : (⟨s.data.toList.toArray⟩ : ByteArray) = s := by cases s; simp
theorem join_split (a b : ByteArray) : splitV (a.data.toList ++ 58 :: b.data.toList) =
    if nameB a && nameB b then .tuple #[.string a, .string b, .bool true] else .tuple #[.string ⟨#[]⟩, .string ⟨#[]⟩, .bool false] := by
  by_cases h : 58 ∈ a.data.toList
  · have na : nameB a = false := by
      cases hn : nameB a
      · rfl
      · exact absurd h (name_colon a hn)
    obtain ⟨p, r, e, h1, h2⟩ := first_of a.data.toList b.data.toList h
    have nr : nameB ⟨r.toArray⟩ = false := by
      cases hn : nameB ⟨r.toArray⟩
      · rfl
      · exact absurd h2 (name_colon ⟨r.toArray⟩ hn)
    have hs : splitB (a.data.toList ++ 58 :: b.data.toList) = false := by
      unfold splitB splitP splitN
      rw [e, cut_first p r 58 h1]
      simp [nr]
    unfold splitV
    rw [hs, na]
    rfl
  · have c := cut_first a.data.toList b.data.toList 58 h
    have hp : splitP (a.data.toList ++ 58 :: b.data.toList) = a.data.toList := by unfold splitP; rw [c]; rfl
    have hn : splitN (a.data.toList ++ 58 :: b.data.toList) = b.data.toList := by unfold splitN; rw [c]; rfl
    have hs : splitB (a.data.toList ++ 58 :: b.data.toList) = (nameB a && nameB b) := by
      unfold splitB
      rw [hp, hn, c, mk_data, mk_data]
      simp
    unfold splitV
    rw [hs, hp, hn, mk_data, mk_data]
theorem join_data (a b : ByteArray) : (a ++ ⟨#[58]⟩ ++ b).data.toList = a.data.toList ++ 58 :: b.data.toList := by
  rw [ByteArray.data_append, ByteArray.data_append]
  simp
theorem join_size (a b : ByteArray) : (a ++ ⟨#[58]⟩ ++ b).size = a.size + 1 + b.size := by
  rw [ByteArray.size_append, ByteArray.size_append]; rfl
end Go.Proofs.YtefjfjieoiegnaaGreatDoor
/- Which characters may be, lie in one of some ranges, begin names and go on in them: the reference's IsChar, 'in', Begins and GoesOn. -/
namespace Go.Proofs.YtefjfjieoiegnaaGreatDoor
open Go.RowKit
set_option maxHeartbeats 1000000 in
theorem in_any (r : Int) (b : Nat) (zs : List Int) (n : Nat) (w : World) (hn : zs.length = n) (hmax : n ≤ 1000)
    (hcell : ∀ i, i < n → w.cell? ⟨b, i, none⟩ = some (.int .i32 (zs.getD i 0))) :
    Calls Tryz.prog 124 #[.int .i32 r, .slice (some ⟨b, 0, none⟩) n n] w fun e w' => e = .returned (.bool (inL r zs)) ∧ w' = w := by
  have HC := hide hcell
  clear hcell
  go_enter Tryz.func124, Tryz.ntmps124
  go_wp2_with fail
  go_loop [5] (fun i => ∃ k : Nat, k ≤ n + 1 ∧ i = .int .i64 k ∧ inL r zs = inL r (zs.drop k)) (fun i => n + 1 - (intOf i).toNat)
  case atStart => exact ⟨0, by omega, rfl, rfl⟩
  case round =>
    obtain ⟨k, hk, rfl, hr⟩ := hrel
    have HR := hide hr
    clear hr
    by_cases hlt : k + 1 < n
    · have hlt' : (k : Int) + 1 < n := by omega
      have c0 := unhide HC k (by omega)
      have c1 := unhide HC (k + 1) (by omega)
      have HS := hide (inL_drop r zs k (by omega))
      generalize zs.getD k 0 = lo at *
      generalize zs.getD (k + 1) 0 = hi at *
      go_wp2
      · go_ret
        exact ⟨ret_bool (by rw [unhide HR, unhide HS]; simp [*]), rfl⟩
      all_goals
        exact ⟨⟨k + 2, by omega, by go_num, by rw [unhide HR, unhide HS]; simp <;> omega⟩, by simp [intOf]; omega⟩
    · have hge : ¬ ((k : Int) + 1 < n) := by omega
      go_wp2
      go_ret
      exact ⟨ret_bool (by rw [unhide HR, inL_end _ _ _ (by omega)]), rfl⟩
theorem cells_of (zs : List Int) (i : Nat) (h : i < zs.length) : (zs.map (Value.int .i32)).toArray[i]? = some (.int .i32 (zs.getD i 0)) := by
  simp [List.getElem?_eq_getElem h]
set_option maxHeartbeats 1000000 in
theorem refBegins_any (r : Int) (w : World) :
    Calls Tryz.prog 86 #[.int .i32 r] w fun e w' => e = .returned (.bool (inL r beginL)) ∧ Below w.heap.size w w' := by
  go_enter Tryz.func86, Tryz.ntmps86
  go_wp2_with fail
  refine (in_any r w.heap.size beginL 30 _ rfl (by decide) (fun i hi => (World.cell?_alloc_new _ _ _ _).trans (cells_of beginL i hi))).mono ?_
  rintro e w' ⟨rfl, rfl⟩
  go_wp2
  go_ret
  exact ⟨rfl, by go_grown⟩
set_option maxHeartbeats 1000000 in
theorem refGoesOn_any (r : Int) (w : World) :
    Calls Tryz.prog 87 #[.int .i32 r] w fun e w' => e = .returned (.bool (inL r beginL || inL r onL)) ∧ Below w.heap.size w w' := by
  go_enter Tryz.func87, Tryz.ntmps87
  go_wp2_with fail
  refine (refBegins_any r _).mono ?_
  rintro e w' ⟨rfl, hb⟩
  cases h : inL r beginL
  · go_wp2_with fail
    refine (in_any r w'.heap.size onL 12 _ rfl (by decide) (fun i hi => (World.cell?_alloc_new _ _ _ _).trans (cells_of onL i hi))).mono ?_
    rintro e w'' ⟨rfl, rfl⟩
    go_wp2
    go_ret
    exact ⟨ret_bool (by simp [h]), hb.alloc hb.size _⟩
  · go_wp2
    go_ret
    exact ⟨ret_bool (by simp [h]), hb⟩
end Go.Proofs.YtefjfjieoiegnaaGreatDoor
/- The reference's Bad, IsText, IsName and Split. -/
namespace Go.Proofs.YtefjfjieoiegnaaGreatDoor
open Go.RowKit
def textB (s : ByteArray) : Bool := (fault s).1 == 0
set_option maxHeartbeats 1000000 in
theorem isText_any (s : ByteArray) (w : World) :
    Calls Tryz.prog 52 #[.string s] w fun e w' => e = .returned (.bool (textB s)) ∧ Below w.heap.size w w' := by
  go_enter Tryz.func52, Tryz.ntmps52
  go_wp2_with fail
  refine (firstFault_any s _).mono ?_
  rintro e w1 ⟨rfl, hb1⟩
  go_wp2
  all_goals
    go_ret
    exact ⟨ret_bool (by simp [textB, *]), hb1⟩
/-- The reference's IsName, behind its tests. -/
def nameFromR (s : ByteArray) : Nat → Nat → Bool
  | 0, _ => true
  | f + 1, pos => if pos < s.size then
      (if (((pos : Int) == 0 && !(inL (Utf8.decode s pos).1 beginL)) || !(inL (Utf8.decode s pos).1 beginL || inL (Utf8.decode s pos).1 onL)) then false else nameFromR s f (pos + (Utf8.decode s pos).2))
    else true
end Go.Proofs.YtefjfjieoiegnaaGreatDoor
/- What the program takes for names and texts is what the reference takes for them: plain lemmas. -/
namespace Go.Proofs.YtefjfjieoiegnaaGreatDoor
open Go.RowKit
theorem textB_eq (s : ByteArray) : textB s = textR s := text_eq s (s.size + 1) 0
theorem validD_at (s : ByteArray) (pos : Nat) (hp : pos < s.size) : Lib.validD (s.data.toList.drop pos) =
    if (Utf8.decode s pos).1 = 65533 ∧ (Utf8.decode s pos).2 = 1 then false else Lib.validD (s.data.toList.drop (pos + (Utf8.decode s pos).2)) := by
  have hne : s.data.toList.drop pos ≠ [] := by
    intro h
    have := congrArg List.length h
    rw [List.length_drop] at this
    have hl : s.data.toList.length = s.size := rfl
    simp only [List.length_nil] at this
    omega
  have e : Lib.decodeL (s.data.toList.drop pos) = Utf8.decode s pos := Lib.decodeL_drop s pos
  rw [Lib.validD_step _ hne, e, List.drop_drop]
theorem valid_name (s : ByteArray) : ∀ f pos, s.size < pos + f → nameFrom s f pos = true → decide ((badFrom s f pos).1 < 0) = Lib.validD (s.data.toList.drop pos)
  | 0, pos, hb, _ => by
    rw [List.drop_eq_nil_of_le (by show s.data.toList.length ≤ pos; have : s.data.toList.length = s.size := rfl; omega)]; rfl
  | f + 1, pos, hb, h => by
    have hd := decode_le s pos
    unfold badFrom
    by_cases hp : pos < s.size
    · have hw := width_pos s pos hp
      rw [if_pos hp, validD_at s pos hp]
      rw [nameFrom, if_pos hp] at h
      by_cases hc : (((pos : Int) == 0 && !beginB (Utf8.decode s pos).1) || !goesB (Utf8.decode s pos).1) = true
      · rw [if_pos hc] at h; cases h
      · rw [if_neg hc] at h
        have hg : goesB (Utf8.decode s pos).1 = true := by
          cases hg : goesB (Utf8.decode s pos).1
          · exact absurd (by simp [hg]) hc
          · rfl
        have hch := char_of_goes _ (by omega) hg
        rw [charB_eq _ (by omega)] at hch
        have ih := valid_name s f _ (by omega) h
        by_cases h1 : (Utf8.decode s pos).1 = 65533 ∧ (Utf8.decode s pos).2 = 1
        · rw [if_pos h1]
          simp [h1.1, h1.2]
        · rw [if_neg h1, ← ih]
          have h1' : (((Utf8.decode s pos).1 : Int) == 65533 && ((Utf8.decode s pos).2 : Int) == 1) = false := by
            rw [Bool.and_eq_false_iff]
            simp only [beq_eq_false_iff_ne, ne_eq]
            omega
          rw [h1', hch]
          simp
    · rw [if_neg hp, List.drop_eq_nil_of_le (by show s.data.toList.length ≤ pos; have : s.data.toList.length = s.size := rfl; omega)]; rfl
/-- The reference's names are the program's. -/
theorem nameB_eq (s : ByteArray) : nameB s = (textR s && !s.data.toList.isEmpty && nameFrom s (s.size + 1) 0) := by
  unfold nameB textR
  cases h : nameFrom s (s.size + 1) 0
  · simp
  · have := valid_name s (s.size + 1) 0 (by omega) h
    rw [List.drop_zero] at this
    rw [this]
    cases s.data.toList.isEmpty <;> simp
end Go.Proofs.YtefjfjieoiegnaaGreatDoor
