/- A document whose text is an entity, and the document with the text in its place: both are scanned as the same tokens; plain. -/
import Derived.Test.YtiembljlhmgpjaaGreatDoorXmlWrQ
import Derived.Test.YtiembljlhmgpjaaGreatDoorGaz
namespace Go.Proofs.YtiembljlhmgpjaaGreatDoor
/-- Letters, digits, spaces. -/
def TeS (s : List Nat) : Prop := ∀ c ∈ s, (97 ≤ c ∧ c ≤ 122) ∨ (48 ≤ c ∧ c ≤ 57) ∨ c = 32
theorem TeS.ne {s : List Nat} (h : TeS s) {q : Nat} (hq : q < 48 ∨ (57 < q ∧ q < 97) ∨ 122 < q) (h32 : q ≠ 32) : ∀ c ∈ s, c ≠ q := fun c hc e => by
  have := h c hc
  omega
theorem TeS.app {s t : List Nat} (h : TeS s) (h2 : TeS t) : TeS (s ++ t) := fun c hc => (List.mem_append.1 hc).elim (h c) (h2 c)
theorem TeS.space {s : List Nat} (h : TeS s) : s.map spaceC = s := by
  have : ∀ c ∈ s, spaceC c = id c := fun c hc => by
    have h1 := h c hc
    unfold spaceC
    by_cases hb : blankC c = true
    · rw [if_pos hb]
      unfold blankC at hb
      simp at hb
      show 32 = c
      omega
    · rw [if_neg hb]; rfl
  rw [List.map_congr_left this, List.map_id]
theorem TeS.flat {s : List Nat} (h : TeS s) (flat : Bool) : flatL flat s = s := by
  cases flat
  · rfl
  · exact h.space
theorem TeS.esc {s : List Nat} (h : TeS s) : mapN escN s = s := mapN_same escN s fun c hc => by
  have h1 := h.ne (q := 62) (by omega) (by decide) c hc
  have h2 := h.ne (q := 38) (by omega) (by decide) c hc
  have h3 := h.ne (q := 60) (by omega) (by decide) c hc
  have h4 := h.ne (q := 13) (by omega) (by decide) c hc
  unfold escN insN
  rw [if_neg h1, if_neg h2, if_neg h3, if_neg h4]
theorem te_blanks (P R : List Nat) (c : Nat) (e : List (List Nat × List Nat)) (sp : Nat) (o : List (List Nat)) (t : List XTok) (ru : List Nat) (n : Nat) (h : blankC c = false) : (⟨P, c :: R, e, sp, o, t, ru, n⟩ : RS).blanks = ⟨P, c :: R, e, sp, o, t, ru, n⟩ :=
  (blanks_no P (c :: R) e sp o t ru n (fun x hx => by cases hx; exact h)).1
theorem te_cut {q : Nat} : ∀ (t Y : List Nat), (∀ c ∈ t, c ≠ q) → cutL [q] (t ++ q :: Y) = some (t, Y)
  | [], Y, _ => by
    show cutL [q] (q :: Y) = _
    unfold cutL
    simp [List.isPrefixOf]
  | c :: t, Y, h => by
    show cutL [q] (c :: (t ++ q :: Y)) = _
    unfold cutL
    have hc : (q == c) = false := by simpa using Ne.symm (h c (by simp))
    rw [show [q].isPrefixOf (c :: (t ++ q :: Y)) = false by simp [List.isPrefixOf, hc], if_neg (by decide), te_cut t Y (fun x hx => h x (by simp [hx]))]
    rfl
theorem te_quoted (P t Y : List Nat) (e : List (List Nat × List Nat)) (sp : Nat) (o : List (List Nat)) (toks : List XTok) (ru : List Nat) (k : Nat) (h : ∀ c ∈ t, c ≠ 39) :
    (⟨P, 39 :: (t ++ 39 :: Y), e, sp, o, toks, ru, k⟩ : RS).quoted = some (t, ⟨P ++ [39] ++ (t ++ [39]), Y, e, sp, o, toks, ru, k⟩) := by
  have e1 : (⟨P, 39 :: (t ++ 39 :: Y), e, sp, o, toks, ru, k⟩ : RS).quote = some (39, ⟨P ++ [39], t ++ 39 :: Y, e, sp, o, toks, ru, k⟩) := rfl
  unfold RS.quoted
  rw [e1]
  unfold RS.takeTo
  simp only
  rw [te_cut t Y h]
  unfold RS.adv
  simp only [Option.map_some, List.length_singleton]
  rw [List.take_append, List.take_of_length_le (by omega), List.drop_append, List.drop_of_length_le (by omega), Nat.add_sub_cancel_left]
  simp
/-- One declaration of an entity whose name is a letter. -/
theorem te_decl (P t Y : List Nat) (c : Nat) (e : List (List Nat × List Nat)) (hc : c = 101 ∨ c = 102) (h : ∀ c ∈ t, c ≠ 39) (hi : isEntText t = true) (he : entX e [c] = none) :
    ∃ P', (⟨P, 60 :: 33 :: 69 :: 78 :: 84 :: 73 :: 84 :: 89 :: 32 :: c :: 32 :: 39 :: (t ++ 39 :: 62 :: Y), e, 0, [], [], [], 0⟩ : RS).declOne = some ⟨P', Y, e ++ [([c], t)], 0, [], [], [], 0⟩ := by
  have hq := te_quoted (P ++ [60, 33, 69, 78, 84, 73, 84, 89] ++ [32] ++ [c] ++ [32]) t (62 :: Y) e 0 [] [] [] 0 h
  generalize hZ : t ++ 39 :: 62 :: Y = Z at *
  unfold RS.declOne
  rw [show (⟨P, 60 :: 33 :: 69 :: 78 :: 84 :: 73 :: 84 :: 89 :: 32 :: c :: 32 :: 39 :: Z, e, 0, [], [], [], 0⟩ : RS).sees [60, 33, 45, 45] = false from rfl, if_neg (by decide), show (⟨P, 60 :: 33 :: 69 :: 78 :: 84 :: 73 :: 84 :: 89 :: 32 :: c :: 32 :: 39 :: Z, e, 0, [], [], [], 0⟩ : RS).sees [60, 63] = false from rfl, if_neg (by decide),
    show (⟨P, 60 :: 33 :: 69 :: 78 :: 84 :: 73 :: 84 :: 89 :: 32 :: c :: 32 :: 39 :: Z, e, 0, [], [], [], 0⟩ : RS).sees [60, 33, 69, 78, 84, 73, 84, 89] = true from rfl, if_pos rfl,
    show (⟨P, 60 :: 33 :: 69 :: 78 :: 84 :: 73 :: 84 :: 89 :: 32 :: c :: 32 :: 39 :: Z, e, 0, [], [], [], 0⟩ : RS).adv 8 = ⟨P ++ [60, 33, 69, 78, 84, 73, 84, 89], 32 :: c :: 32 :: 39 :: Z, e, 0, [], [], [], 0⟩ from rfl, entity_eq]
  generalize P ++ [60, 33, 69, 78, 84, 73, 84, 89] = P1 at *
  have hb1 : (⟨P1, 32 :: c :: 32 :: 39 :: Z, e, 0, [], [], [], 0⟩ : RS).blanks = ⟨P1 ++ [32], c :: 32 :: 39 :: Z, e, 0, [], [], [], 0⟩ := by rcases hc with rfl | rfl <;> rfl
  have hn : nameA (c :: 32 :: 39 :: Z) = [c] := by rcases hc with rfl | rfl <;> rfl
  have hn2 : (⟨P1 ++ [32], c :: 32 :: 39 :: Z, e, 0, [], [], [], 0⟩ : RS).name = ⟨P1 ++ [32] ++ [c], 32 :: 39 :: Z, e, 0, [], [], [], 0⟩ := by rcases hc with rfl | rfl <;> rfl
  have hb2 : (⟨P1 ++ [32] ++ [c], 32 :: 39 :: Z, e, 0, [], [], [], 0⟩ : RS).blanks = ⟨P1 ++ [32] ++ [c] ++ [32], 39 :: Z, e, 0, [], [], [], 0⟩ := rfl
  rw [show (⟨P1, 32 :: c :: 32 :: 39 :: Z, e, 0, [], [], [], 0⟩ : RS).blank = true from rfl, Bool.not_true, if_neg (by decide), hb1]
  simp only
  rw [hn, hn2, show (⟨P1 ++ [32] ++ [c], 32 :: 39 :: Z, e, 0, [], [], [], 0⟩ : RS).blank = true from rfl, if_neg (by simp), hb2, hq]
  simp only
  rw [hi, Bool.not_true, if_neg (by decide), te_blanks _ _ 62 _ _ _ _ _ _ rfl]
  simp only
  rw [show heads 62 (62 :: Y) = true from rfl, Bool.not_true, if_neg (by decide), he]
  exact ⟨_, rfl⟩
def teH (s E : List Nat) : List Nat := 60 :: 33 :: 68 :: 79 :: 67 :: 84 :: 89 :: 80 :: 69 :: 32 :: 97 :: 32 :: 91 :: 60 :: 33 :: 69 :: 78 :: 84 :: 73 :: 84 :: 89 :: 32 :: 102 :: 32 :: 39 :: (s ++ 39 :: 62 :: 60 :: 33 :: 69 :: 78 :: 84 :: 73 :: 84 :: 89 :: 32 :: 101 :: 32 :: 39 :: ([38, 102, 59] ++ 39 :: 62 :: 93 :: 62 :: E))
def teE (s : List Nat) : List (List Nat × List Nat) := [([102], s), ([101], [38, 102, 59])]
theorem te_ent {s : List Nat} (h : TeS s) : isEntText s = true := by
  unfold isEntText
  have hr : ∀ l : List Nat, (∀ c ∈ l, c ≠ 38) → refsOk l = true := by
    intro l
    induction l with
    | nil => intro _; rfl
    | cons c t ih =>
      intro hl
      have hc : (c != 38) = true := by simpa using hl c (by simp)
      show ((c != 38 || (readRef (c :: t)).isSome) && refsOk t) = true
      rw [hc, Bool.true_or, Bool.true_and, ih (fun x hx => hl x (by simp [hx]))]
  rw [hr s (h.ne (by omega) (by decide)), Bool.and_eq_true]
  refine ⟨List.all_eq_true.2 fun c hc => ?_, rfl⟩
  have h1 := h.ne (q := 60) (by omega) (by decide) c hc
  have h2 := h.ne (q := 37) (by omega) (by decide) c hc
  simp [h1, h2]
theorem te_type {s : List Nat} (h : TeS s) (E : List Nat) : ∃ P, (RS.start (teH s E)).doctype = .ok ⟨P, E, teE s, 0, [], [], [], 0⟩ := by
  obtain ⟨P1, h1⟩ := te_decl [60, 33, 68, 79, 67, 84, 89, 80, 69, 32, 97, 32, 91] s (60 :: 33 :: 69 :: 78 :: 84 :: 73 :: 84 :: 89 :: 32 :: 101 :: 32 :: 39 :: ([38, 102, 59] ++ 39 :: 62 :: 93 :: 62 :: E)) 102 [] (.inr rfl) (h.ne (by omega) (by decide)) (te_ent h) rfl
  obtain ⟨P2, h2⟩ := te_decl P1 [38, 102, 59] (93 :: 62 :: E) 101 ([] ++ [([102], s)]) (.inl rfl) (by decide) (by decide) rfl
  generalize hX : 60 :: 33 :: 69 :: 78 :: 84 :: 73 :: 84 :: 89 :: 32 :: 101 :: 32 :: 39 :: ([38, 102, 59] ++ 39 :: 62 :: 93 :: 62 :: E) = X at *
  obtain ⟨X', hX'⟩ : ∃ X', X = 60 :: X' := ⟨_, hX.symm⟩
  have hg : ∀ f, RS.declGo (f + 3) ⟨[60, 33, 68, 79, 67, 84, 89, 80, 69, 32, 97, 32, 91], 60 :: 33 :: 69 :: 78 :: 84 :: 73 :: 84 :: 89 :: 32 :: 102 :: 32 :: 39 :: (s ++ 39 :: 62 :: X), [], 0, [], [], [], 0⟩ = .ok ⟨P2 ++ [93], 62 :: E, teE s, 0, [], [], [], 0⟩ := by
    intro f
    rw [declGo_eq, te_blanks _ _ 60 _ _ _ _ _ _ rfl, show heads 93 (⟨[60, 33, 68, 79, 67, 84, 89, 80, 69, 32, 97, 32, 91], 60 :: 33 :: 69 :: 78 :: 84 :: 73 :: 84 :: 89 :: 32 :: 102 :: 32 :: 39 :: (s ++ 39 :: 62 :: X), [], 0, [], [], [], 0⟩ : RS).rest = false from rfl, if_neg (by decide), h1]
    simp only
    rw [hX'] at h2 ⊢
    rw [declGo_eq, te_blanks _ _ 60 _ _ _ _ _ _ rfl, show heads 93 (⟨P1, 60 :: X', [] ++ [([102], s)], 0, [], [], [], 0⟩ : RS).rest = false from rfl, if_neg (by decide), h2]
    simp only
    rw [declGo_eq, te_blanks _ _ 93 _ _ _ _ _ _ rfl]
    rfl
  have he : teH s E = 60 :: 33 :: 68 :: 79 :: 67 :: 84 :: 89 :: 80 :: 69 :: 32 :: 97 :: 32 :: 91 :: 60 :: 33 :: 69 :: 78 :: 84 :: 73 :: 84 :: 89 :: 32 :: 102 :: 32 :: 39 :: (s ++ 39 :: 62 :: X) := by rw [← hX]; rfl
  rw [he]
  generalize hY : s ++ 39 :: 62 :: X = Y at *
  have hm : typeMid ⟨[60, 33, 68, 79, 67, 84, 89, 80, 69, 32, 97, 32], 91 :: 60 :: 33 :: 69 :: 78 :: 84 :: 73 :: 84 :: 89 :: 32 :: 102 :: 32 :: 39 :: Y, [], 0, [], [], [], 0⟩ = .ok ⟨P2 ++ [93], 62 :: E, teE s, 0, [], [], [], 0⟩ := by
    unfold typeMid
    rw [show heads 91 (⟨[60, 33, 68, 79, 67, 84, 89, 80, 69, 32, 97, 32], 91 :: 60 :: 33 :: 69 :: 78 :: 84 :: 73 :: 84 :: 89 :: 32 :: 102 :: 32 :: 39 :: Y, [], 0, [], [], [], 0⟩ : RS).rest = true from rfl, if_pos rfl,
      show (⟨[60, 33, 68, 79, 67, 84, 89, 80, 69, 32, 97, 32], 91 :: 60 :: 33 :: 69 :: 78 :: 84 :: 73 :: 84 :: 89 :: 32 :: 102 :: 32 :: 39 :: Y, [], 0, [], [], [], 0⟩ : RS).adv 1 = ⟨[60, 33, 68, 79, 67, 84, 89, 80, 69, 32, 97, 32, 91], 60 :: 33 :: 69 :: 78 :: 84 :: 73 :: 84 :: 89 :: 32 :: 102 :: 32 :: 39 :: Y, [], 0, [], [], [], 0⟩ from rfl]
    rw [show (⟨[60, 33, 68, 79, 67, 84, 89, 80, 69, 32, 97, 32, 91], 60 :: 33 :: 69 :: 78 :: 84 :: 73 :: 84 :: 89 :: 32 :: 102 :: 32 :: 39 :: Y, [], 0, [], [], [], 0⟩ : RS).rest.length + 1 = (Y.length + 10) + 3 from rfl]
    exact hg _
  rw [doctype_eq]
  rw [show (RS.start (60 :: 33 :: 68 :: 79 :: 67 :: 84 :: 89 :: 80 :: 69 :: 32 :: 97 :: 32 :: 91 :: 60 :: 33 :: 69 :: 78 :: 84 :: 73 :: 84 :: 89 :: 32 :: 102 :: 32 :: 39 :: Y)).take [60, 33, 68, 79, 67, 84, 89, 80, 69] = ⟨[60, 33, 68, 79, 67, 84, 89, 80, 69], 32 :: 97 :: 32 :: 91 :: 60 :: 33 :: 69 :: 78 :: 84 :: 73 :: 84 :: 89 :: 32 :: 102 :: 32 :: 39 :: Y, [], 0, [], [], [], 0⟩ from rfl]
  rw [show (⟨[60, 33, 68, 79, 67, 84, 89, 80, 69], 32 :: 97 :: 32 :: 91 :: 60 :: 33 :: 69 :: 78 :: 84 :: 73 :: 84 :: 89 :: 32 :: 102 :: 32 :: 39 :: Y, [], 0, [], [], [], 0⟩ : RS).blank = true from rfl]
  rw [show (⟨[60, 33, 68, 79, 67, 84, 89, 80, 69], 32 :: 97 :: 32 :: 91 :: 60 :: 33 :: 69 :: 78 :: 84 :: 73 :: 84 :: 89 :: 32 :: 102 :: 32 :: 39 :: Y, [], 0, [], [], [], 0⟩ : RS).blanks = ⟨[60, 33, 68, 79, 67, 84, 89, 80, 69, 32], 97 :: 32 :: 91 :: 60 :: 33 :: 69 :: 78 :: 84 :: 73 :: 84 :: 89 :: 32 :: 102 :: 32 :: 39 :: Y, [], 0, [], [], [], 0⟩ from rfl]
  rw [show qnameA (⟨[60, 33, 68, 79, 67, 84, 89, 80, 69, 32], 97 :: 32 :: 91 :: 60 :: 33 :: 69 :: 78 :: 84 :: 73 :: 84 :: 89 :: 32 :: 102 :: 32 :: 39 :: Y, [], 0, [], [], [], 0⟩ : RS).rest = [97] from rfl, if_neg (by decide)]
  rw [show (⟨[60, 33, 68, 79, 67, 84, 89, 80, 69, 32], 97 :: 32 :: 91 :: 60 :: 33 :: 69 :: 78 :: 84 :: 73 :: 84 :: 89 :: 32 :: 102 :: 32 :: 39 :: Y, [], 0, [], [], [], 0⟩ : RS).qname.blanks = ⟨[60, 33, 68, 79, 67, 84, 89, 80, 69, 32, 97, 32], 91 :: 60 :: 33 :: 69 :: 78 :: 84 :: 73 :: 84 :: 89 :: 32 :: 102 :: 32 :: 39 :: Y, [], 0, [], [], [], 0⟩ from rfl, hm]
  simp only
  rw [te_blanks _ _ 62 _ _ _ _ _ _ rfl]
  exact ⟨_, rfl⟩
theorem te_tw : ∀ {s : List Nat}, (∀ c ∈ s, c ≠ 38) → s.takeWhile (· != 38) = s
  | [], _ => rfl
  | c :: s, h => by
    have hc : (c != 38) = true := by simpa using h c (by simp)
    rw [List.takeWhile_cons, hc, if_pos rfl, te_tw (s := s) (fun x hx => h x (by simp [hx]))]
theorem te_spend {o : List (List Nat)} (ho : o ≠ []) {sp n : Nat} (h : sp + n ≤ 32768) : spendX o sp n = .ok (sp + n) := by
  unfold spendX
  rw [if_neg ho, if_neg (by omega)]
/-- The inner entity, in the outer one. -/
theorem te_in {s : List Nat} (h : TeS s) (flat : Bool) (sp : Nat) (hz : sp + 1 + (tx s).length ≤ 32768) : ∃ q, q ≤ sp + 1 + (tx s).length ∧ addX (teE s) flat 9 [[101]] sp ⟨[], [102], 3⟩ = .ok (s, q) := by
  rw [addX]
  simp only
  rw [if_neg (by simp), show entX (teE s) [102] = some s by simp [entX, teE]]
  simp only
  rw [if_neg (by simp), te_spend (by simp) (by omega)]
  simp only
  by_cases hs : s = []
  · subst hs
    exact ⟨sp + 1, by omega, rfl⟩
  · rw [textX, if_neg hs]
    simp only
    rw [te_tw (h.ne (by omega) (by decide)), List.drop_length, h.flat flat, te_spend (by simp) (by omega)]
    exact ⟨_, Nat.le_refl _, by simp⟩
theorem te_add {s : List Nat} (h : TeS s) (flat : Bool) (sp : Nat) (hz : sp + 1 + (tx s).length ≤ 32768) : ∃ q, q ≤ sp + 1 + (tx s).length ∧ addX (teE s) flat 10 [] sp ⟨[], [101], 3⟩ = .ok (s, q) := by
  obtain ⟨q, hq, he⟩ := te_in h flat sp hz
  refine ⟨q, hq, ?_⟩
  rw [addX]
  simp only
  rw [if_neg (by simp), show entX (teE s) [101] = some [38, 102, 59] by simp [entX, teE]]
  simp only
  rw [if_neg (by simp)]
  show textX (addX (teE s) flat 9 ([] ++ [[101]])) flat ([] ++ [[101]]) 4 sp [38, 102, 59] = _
  rw [textX, if_neg (by simp)]
  simp only
  rw [show List.takeWhile (fun x => x != 38) [38, 102, 59] = [] from rfl]
  rw [te_spend (by simp) (show sp + (tx []).length ≤ 32768 by show sp + 0 ≤ _; omega)]
  simp only
  rw [if_neg (by simp), show readRef (List.drop ([] : List Nat).length [38, 102, 59]) = some ⟨[], [102], 3⟩ from rfl]
  simp only
  rw [show sp + (tx []).length = sp from rfl, show ([] : List (List Nat)) ++ [[101]] = [[101]] from rfl, he]
  simp only
  rw [show (List.drop ([] : List Nat).length [38, 102, 59]).drop 3 = [] from rfl, textX, if_pos rfl]
  cases flat <;> simp [flatL]
theorem te_ref {s : List Nat} (h : TeS s) (flat : Bool) (P R : List Nat) (sp : Nat) (o : List (List Nat)) (toks : List XTok) (ru : List Nat) (k : Nat) (hz : sp + 1 + (tx s).length ≤ 32768) :
    ∃ q, q ≤ sp + 1 + (tx s).length ∧ (⟨P, 38 :: 101 :: 59 :: R, teE s, sp, o, toks, ru, k⟩ : RS).reference flat = .ok (s, ⟨P ++ [38, 101, 59], R, teE s, q, o, toks, ru, k⟩) := by
  obtain ⟨q, hq, he⟩ := te_add h flat sp hz
  refine ⟨q, hq, ?_⟩
  unfold RS.reference
  rw [show readRef (⟨P, 38 :: 101 :: 59 :: R, teE s, sp, o, toks, ru, k⟩ : RS).rest = some ⟨[], [101], 3⟩ from rfl]
  simp only
  rw [he]
  rfl
/-- An attribute's text: the reference twice. -/
theorem te_value {s : List Nat} (h : TeS s) (hz : (tx s).length ≤ 3000) (P Y : List Nat) (f : Nat) : ∃ P1 q, ∀ tag, RS.valueGo 39 tag (f + 3) (⟨P, 38 :: 101 :: 59 :: 38 :: 101 :: 59 :: 39 :: Y, teE s, 0, [], [], [], 0⟩ : RS) [] = .ok (s ++ s, ⟨P1, Y, teE s, q, [], [], [], 0⟩) := by
  obtain ⟨q1, hq1, h1⟩ := te_ref h true (P ++ []) (38 :: 101 :: 59 :: 39 :: Y) 0 [] [] [] 0 (by omega)
  obtain ⟨q2, hq2, h2⟩ := te_ref h true (P ++ [] ++ [38, 101, 59] ++ []) (39 :: Y) q1 [] [] [] 0 (by omega)
  refine ⟨P ++ [] ++ [38, 101, 59] ++ [] ++ [38, 101, 59] ++ [] ++ [39], q2, fun tag => ?_⟩
  rw [RS.valueGo]
  simp only
  rw [show List.takeWhile (plainC 39) (38 :: 101 :: 59 :: 38 :: 101 :: 59 :: 39 :: Y) = [] from rfl, show (⟨P, 38 :: 101 :: 59 :: 38 :: 101 :: 59 :: 39 :: Y, teE s, 0, [], [], [], 0⟩ : RS).adv ([] : List Nat).length = ⟨P ++ [], 38 :: 101 :: 59 :: 38 :: 101 :: 59 :: 39 :: Y, teE s, 0, [], [], [], 0⟩ from rfl]
  rw [if_neg (show ¬ heads 39 (38 :: 101 :: 59 :: 38 :: 101 :: 59 :: 39 :: Y) = true from fun h => by cases h), if_pos (show heads 38 (38 :: 101 :: 59 :: 38 :: 101 :: 59 :: 39 :: Y) = true from rfl), h1]
  simp only
  rw [RS.valueGo]
  simp only
  rw [show List.takeWhile (plainC 39) (38 :: 101 :: 59 :: 39 :: Y) = [] from rfl, show (⟨P ++ [] ++ [38, 101, 59], 38 :: 101 :: 59 :: 39 :: Y, teE s, q1, [], [], [], 0⟩ : RS).adv ([] : List Nat).length = ⟨P ++ [] ++ [38, 101, 59] ++ [], 38 :: 101 :: 59 :: 39 :: Y, teE s, q1, [], [], [], 0⟩ from rfl]
  rw [if_neg (show ¬ heads 39 (38 :: 101 :: 59 :: 39 :: Y) = true from fun h => by cases h), if_pos (show heads 38 (38 :: 101 :: 59 :: 39 :: Y) = true from rfl), h2]
  simp only
  rw [RS.valueGo]
  simp only
  rw [show List.takeWhile (plainC 39) (39 :: Y) = [] from rfl, show (⟨P ++ [] ++ [38, 101, 59] ++ [] ++ [38, 101, 59], 39 :: Y, teE s, q2, [], [], [], 0⟩ : RS).adv ([] : List Nat).length = ⟨P ++ [] ++ [38, 101, 59] ++ [] ++ [38, 101, 59] ++ [], 39 :: Y, teE s, q2, [], [], [], 0⟩ from rfl]
  rw [if_pos (show heads 39 (39 :: Y) = true from rfl)]
  rw [show (⟨P ++ [] ++ [38, 101, 59] ++ [] ++ [38, 101, 59] ++ [], 39 :: Y, teE s, q2, [], [], [], 0⟩ : RS).adv 1 = ⟨P ++ [] ++ [38, 101, 59] ++ [] ++ [38, 101, 59] ++ [] ++ [39], Y, teE s, q2, [], [], [], 0⟩ from rfl]
  simp
theorem te_plain : ∀ {s : List Nat} (Y : List Nat), TeS s → (s ++ 39 :: Y).takeWhile (plainC 39) = s
  | [], _, _ => rfl
  | c :: s, Y, h => by
    have h1 := h.ne (q := 60) (by omega) (by decide) c (by simp)
    have h2 := h.ne (q := 38) (by omega) (by decide) c (by simp)
    have h3 := h.ne (q := 39) (by omega) (by decide) c (by simp)
    have hc : plainC 39 c = true := by simp [plainC, h1, h2, h3]
    rw [List.cons_append, List.takeWhile_cons, hc, if_pos rfl, te_plain (s := s) Y (fun x hx => h x (by simp [hx]))]
/-- An attribute's text as it stands. -/
theorem te_valueP {s : List Nat} (h : TeS s) (P Y : List Nat) (f : Nat) : ∃ P1, ∀ tag, RS.valueGo 39 tag (f + 1) (⟨P, s ++ 39 :: Y, [], 0, [], [], [], 0⟩ : RS) [] = .ok (s, ⟨P1, Y, [], 0, [], [], [], 0⟩) := by
  refine ⟨P ++ s ++ [39], fun tag => ?_⟩
  rw [RS.valueGo]
  simp only
  rw [te_plain Y h, adv_app P s (39 :: Y) [] 0 [] [] [] 0, if_pos (show heads 39 (39 :: Y) = true from rfl), h.space]
  rfl
theorem te_equals (P X : List Nat) (e : List (List Nat × List Nat)) (sp : Nat) (o : List (List Nat)) (toks : List XTok) (ru : List Nat) (k : Nat) :
    (⟨P, 61 :: 39 :: X, e, sp, o, toks, ru, k⟩ : RS).equals = some ⟨P ++ [61], 39 :: X, e, sp, o, toks, ru, k⟩ := by
  unfold RS.equals
  rw [te_blanks P (39 :: X) 61 e sp o toks ru k rfl, if_pos (show heads 61 (61 :: 39 :: X) = true from rfl), show (⟨P, 61 :: 39 :: X, e, sp, o, toks, ru, k⟩ : RS).adv 1 = ⟨P ++ [61], 39 :: X, e, sp, o, toks, ru, k⟩ from rfl, te_blanks _ X 39 e sp o toks ru k rfl]
theorem te_tag (P X Y P1 v : List Nat) (e : List (List Nat × List Nat)) (sp : Nat)
    (hv : ∀ tag, RS.valueGo 39 tag (X.length + 1) ⟨P ++ [60] ++ [97] ++ [32] ++ [98] ++ [61] ++ [39], X, e, 0, [], [], [], 0⟩ [] = .ok (v, ⟨P1, 47 :: 62 :: Y, e, sp, [], [], [], 0⟩)) :
    ∃ P' k, (⟨P, 60 :: 97 :: 32 :: 98 :: 61 :: 39 :: X, e, 0, [], [], [], 0⟩ : RS).startTag = .ok ⟨P', Y, e, sp, [], [⟨2, [97], [([98], v)], []⟩, ⟨7, [97], [], []⟩], [], k⟩ := by
  have e1 : (⟨P, 60 :: 97 :: 32 :: 98 :: 61 :: 39 :: X, e, 0, [], [], [], 0⟩ : RS).take [60] = ⟨P ++ [60], 97 :: 32 :: 98 :: 61 :: 39 :: X, e, 0, [], [], [], 0⟩ := rfl
  have e2 : (⟨P ++ [60], 97 :: 32 :: 98 :: 61 :: 39 :: X, e, 0, [], [], [], 0⟩ : RS).qname = ⟨P ++ [60] ++ [97], 32 :: 98 :: 61 :: 39 :: X, e, 0, [], [], [], 0⟩ := rfl
  have e3 : qnameA (97 :: 32 :: 98 :: 61 :: 39 :: X) = [97] := rfl
  have e4 : (⟨P ++ [60] ++ [97], 32 :: 98 :: 61 :: 39 :: X, e, 0, [], [], [], 0⟩ : RS).blanks = ⟨P ++ [60] ++ [97] ++ [32], 98 :: 61 :: 39 :: X, e, 0, [], [], [], 0⟩ := rfl
  have e5 : (⟨P ++ [60] ++ [97], 32 :: 98 :: 61 :: 39 :: X, e, 0, [], [], [], 0⟩ : RS).blank = true := rfl
  have e6 : (⟨P ++ [60] ++ [97] ++ [32], 98 :: 61 :: 39 :: X, e, 0, [], [], [], 0⟩ : RS).qname = ⟨P ++ [60] ++ [97] ++ [32] ++ [98], 61 :: 39 :: X, e, 0, [], [], [], 0⟩ := rfl
  have e7 : qnameA (98 :: 61 :: 39 :: X) = [98] := rfl
  have e8 := te_equals (P ++ [60] ++ [97] ++ [32] ++ [98]) X e 0 [] [] [] 0
  have e9 : (⟨P ++ [60] ++ [97] ++ [32] ++ [98] ++ [61], 39 :: X, e, 0, [], [], [], 0⟩ : RS).quote = some (39, ⟨P ++ [60] ++ [97] ++ [32] ++ [98] ++ [61] ++ [39], X, e, 0, [], [], [], 0⟩) := rfl
  have e10 : ∀ tag, (⟨P ++ [60] ++ [97] ++ [32] ++ [98] ++ [61], 39 :: X, e, 0, [], [], [], 0⟩ : RS).value tag = .ok (v, ⟨P1, 47 :: 62 :: Y, e, sp, [], [], [], 0⟩) := by
    intro tag
    unfold RS.value
    rw [e9]
    exact hv tag
  have e12 := te_blanks P1 (62 :: Y) 47 e sp [] [] [] 0 rfl
  have e11 : ∀ tag f acc, RS.attrsGo tag (f + 1) (⟨P1, 47 :: 62 :: Y, e, sp, [], [], [], 0⟩ : RS) acc = .ok (acc, (⟨P1, 47 :: 62 :: Y, e, sp, [], [], [], 0⟩ : RS)) := fun tag f acc => by
    rw [RS.attrsGo]
    simp only
    rw [e12]
    rfl
  have e13 : ∀ tag, (⟨P ++ [60] ++ [97], 32 :: 98 :: 61 :: 39 :: X, e, 0, [], [], [], 0⟩ : RS).attributes tag = .ok ([([98], v)], ⟨P1, 47 :: 62 :: Y, e, sp, [], [], [], 0⟩) := by
    intro tag
    unfold RS.attributes
    rw [show (32 :: 98 :: 61 :: 39 :: X).length + 1 = X.length + 3 + 1 + 1 from rfl, RS.attrsGo]
    simp only
    rw [e4, e5, e6, e7, e8]
    simp only
    rw [e10]
    simp only
    rw [e11]
    rfl
  unfold RS.startTag
  simp only
  rw [e1, e2, e3, e13]
  exact ⟨_, _, rfl⟩
def teA (s : List Nat) : List XTok := [⟨2, [97], [], []⟩, ⟨4, [], [], 120 :: (s ++ [121])⟩, ⟨7, [97], [], []⟩]
def teB (s : List Nat) : List XTok := [⟨2, [97], [([98], s)], []⟩, ⟨7, [97], [], []⟩]
/-- The element with a text between two letters. -/
theorem te_body {s : List Nat} (h : TeS s) (hz : (tx s).length ≤ 3000) (P : List Nat) : ∃ P' k' q, docElem ⟨P, [60, 97, 62, 120, 38, 101, 59, 121, 60, 47, 97, 62], teE s, 0, [], [], [], 0⟩ = .ok ⟨P', [], teE s, q, [], teA s, [], k'⟩ := by
  have h0 : ∃ P1 k, (⟨P, [60, 97, 62, 120, 38, 101, 59, 121, 60, 47, 97, 62], teE s, 0, [], [], [], 0⟩ : RS).startTag = .ok ⟨P1, [120, 38, 101, 59, 121, 60, 47, 97, 62], teE s, 0, [[97]], [⟨2, [97], [], []⟩], [], k⟩ := ⟨_, _, rfl⟩
  obtain ⟨P1, k, h0⟩ := h0
  have h1 : (⟨P1, [120, 38, 101, 59, 121, 60, 47, 97, 62], teE s, 0, [[97]], [⟨2, [97], [], []⟩], [], k⟩ : RS).contentOne = .ok ⟨P1 ++ [120], [38, 101, 59, 121, 60, 47, 97, 62], teE s, 0, [[97]], [⟨2, [97], [], []⟩], [120], k⟩ := rfl
  obtain ⟨q, hq, h2⟩ := te_ref h false (P1 ++ [120]) [121, 60, 47, 97, 62] 0 [[97]] [⟨2, [97], [], []⟩] [120] k (by omega)
  have h3 : (⟨P1 ++ [120], [38, 101, 59, 121, 60, 47, 97, 62], teE s, 0, [[97]], [⟨2, [97], [], []⟩], [120], k⟩ : RS).contentOne = .ok ⟨P1 ++ [120] ++ [38, 101, 59], [121, 60, 47, 97, 62], teE s, q, [[97]], [⟨2, [97], [], []⟩], [120] ++ s, k⟩ := by
    rw [one_ref (t := [101, 59, 121, 60, 47, 97, 62]) rfl]
    unfold RS.refRun
    rw [h2]
    simp only
    unfold RS.room
    rw [if_neg (fun x => absurd x.2 (show ¬ (1 : Nat) = 4096 by decide))]
  have h4 : (⟨P1 ++ [120] ++ [38, 101, 59], [121, 60, 47, 97, 62], teE s, q, [[97]], [⟨2, [97], [], []⟩], [120] ++ s, k⟩ : RS).contentOne = .ok ⟨P1 ++ [120] ++ [38, 101, 59] ++ [121], [60, 47, 97, 62], teE s, q, [[97]], [⟨2, [97], [], []⟩], [120] ++ s ++ [121], k⟩ := rfl
  have h5 : ∃ P' k', (⟨P1 ++ [120] ++ [38, 101, 59] ++ [121], [60, 47, 97, 62], teE s, q, [[97]], [⟨2, [97], [], []⟩], [120] ++ s ++ [121], k⟩ : RS).contentOne = .ok ⟨P', [], teE s, q, [], [⟨2, [97], [], []⟩, ⟨4, [], [], [120] ++ s ++ [121]⟩, ⟨7, [97], [], []⟩], [], k'⟩ := ⟨_, _, rfl⟩
  obtain ⟨P', k', h5⟩ := h5
  refine ⟨P', k', q, ?_⟩
  unfold docElem
  rw [h0]
  simp only
  show RS.content (9 + 1) _ = _
  rw [content_step (by simp) h1, content_step (by simp) h3, content_step (by simp) h4, content_step (by simp) h5, RS.content, if_pos rfl]
  rfl
theorem te_elem {s : List Nat} (h : TeS s) (hz : (tx s).length ≤ 3000) (P : List Nat) : ∃ P' k' q, docElem ⟨P, [60, 97, 32, 98, 61, 39, 38, 101, 59, 38, 101, 59, 39, 47, 62], teE s, 0, [], [], [], 0⟩ = .ok ⟨P', [], teE s, q, [], teB (s ++ s), [], k'⟩ := by
  obtain ⟨P1, q, hv⟩ := te_value h hz (P ++ [60] ++ [97] ++ [32] ++ [98] ++ [61] ++ [39]) [47, 62] 7
  obtain ⟨P', k', ht⟩ := te_tag P [38, 101, 59, 38, 101, 59, 39, 47, 62] [] P1 (s ++ s) (teE s) q hv
  refine ⟨P', k', q, ?_⟩
  unfold docElem
  rw [ht]
  simp only
  rw [content_nil _ _ rfl]
  rfl
theorem te_head {s : List Nat} (h : TeS s) (X : List Nat) : ∃ P f, (RS.start (teH s (60 :: 97 :: X))).document = docMore (f + 1) true true (docElem ⟨P, 60 :: 97 :: X, teE s, 0, [], [], [], 0⟩) := by
  obtain ⟨P, hP⟩ := te_type h (60 :: 97 :: X)
  have hx : [60, 63].isPrefixOf (RS.start (teH s (60 :: 97 :: X))).rest = false := rfl
  have hb : (RS.start (teH s (60 :: 97 :: X))).blanks = RS.start (teH s (60 :: 97 :: X)) := rfl
  have s1 : (RS.start (teH s (60 :: 97 :: X))).sees [60, 33, 45, 45] = false := rfl
  have s2 : (RS.start (teH s (60 :: 97 :: X))).sees [60, 63] = false := rfl
  have s3 : (RS.start (teH s (60 :: 97 :: X))).sees [60, 33, 68, 79, 67, 84, 89, 80, 69] = true := rfl
  obtain ⟨f, hl⟩ : ∃ f, (RS.start (teH s (60 :: 97 :: X))).rest.length = f + 2 := ⟨_, rfl⟩
  refine ⟨P, f, ?_⟩
  unfold RS.document
  rw [hx, Bool.false_and, if_neg (by decide), docGo_eq, hb, s1, s2, s3, if_neg (by decide), if_neg (by decide), if_pos (by decide), hP, hl]
  simp only [docMore]
  have t1 : (⟨P, 60 :: 97 :: X, teE s, 0, [], [], [], 0⟩ : RS).sees [60, 33, 45, 45] = false := rfl
  have t2 : (⟨P, 60 :: 97 :: X, teE s, 0, [], [], [], 0⟩ : RS).sees [60, 63] = false := rfl
  have t3 : (⟨P, 60 :: 97 :: X, teE s, 0, [], [], [], 0⟩ : RS).sees [60, 33, 68, 79, 67, 84, 89, 80, 69] = false := rfl
  have t4 : (⟨P, 60 :: 97 :: X, teE s, 0, [], [], [], 0⟩ : RS).sees [60] = true := rfl
  rw [docGo_eq, te_blanks P (97 :: X) 60 _ _ _ _ _ _ rfl, t1, t2, t3, t4, if_neg (by decide), if_neg (by decide), if_neg (by decide), if_pos (by decide)]
  rfl
theorem te_after (f : Nat) (P : List Nat) (e : List (List Nat × List Nat)) (q : Nat) (toks : List XTok) (k : Nat) : RS.docGo (f + 1) true true ⟨P, [], e, q, [], toks, [], k⟩ = .ok ⟨P ++ [], [], e, q, [], toks, [], k⟩ := by
  rw [docGo_eq]
  rfl
/-- The four documents. -/
theorem te_1a {s : List Nat} (h : TeS s) (hz : (tx s).length ≤ 3000) : scanX (teH s [60, 97, 62, 120, 38, 101, 59, 121, 60, 47, 97, 62]) = .ok (teA s) := by
  obtain ⟨P, f, hd⟩ := te_head h [62, 120, 38, 101, 59, 121, 60, 47, 97, 62]
  obtain ⟨P', k', q, he⟩ := te_body h hz P
  unfold scanX
  rw [hd, he]
  simp only [docMore]
  rw [te_after]
theorem te_1b {s : List Nat} (h : TeS s) (hz : (tx s).length ≤ 3000) : scanX (teH s [60, 97, 32, 98, 61, 39, 38, 101, 59, 38, 101, 59, 39, 47, 62]) = .ok (teB (s ++ s)) := by
  obtain ⟨P, f, hd⟩ := te_head h [32, 98, 61, 39, 38, 101, 59, 38, 101, 59, 39, 47, 62]
  obtain ⟨P', k', q, he⟩ := te_elem h hz P
  unfold scanX
  rw [hd, he]
  simp only [docMore]
  rw [te_after]
theorem te_2a {s : List Nat} (h : TeS s) : scanX (60 :: 97 :: 62 :: 120 :: (s ++ [121, 60, 47, 97, 62])) = .ok (teA s) := by
  have hs : TeS (120 :: (s ++ [121])) := fun c hc => by
    rcases List.mem_cons.1 hc with rfl | hc
    · omega
    · rcases List.mem_append.1 hc with hc | hc
      · exact h c hc
      · have := List.mem_singleton.1 hc
        omega
  have hw : writeX (teA s) = 60 :: 97 :: 62 :: 120 :: (s ++ [121, 60, 47, 97, 62]) := by
    show (60 :: 97 :: [62]) ++ (mapN escN (120 :: (s ++ [121])) ++ ((60 :: 47 :: 97 :: [62]) ++ [])) = _
    rw [hs.esc]
    simp
  have hD : DocT [] false 0 (teA s) := by
    refine .elem [97] [] [] false 0 _ (.elem [97] [] (by decide) (fun x hx => by cases hx) List.nodup_nil) (fun _ => rfl) (by decide) (by decide) ?_
    refine .text _ _ _ _ _ (.text _ (by simp)) (by simp) (by decide) ?_
    exact .fin [97] _ _ _ _ (.fin [97] (by decide)) rfl (.done _)
  rw [← hw]
  exact (back_plain hD (show (3 : Nat) ≤ 4096 by decide)).1
theorem te_2b {s : List Nat} (h : TeS s) : scanX (60 :: 97 :: 32 :: 98 :: 61 :: 39 :: (s ++ [39, 47, 62])) = .ok (teB s) := by
  obtain ⟨P1, hv⟩ := te_valueP h ([] ++ [60] ++ [97] ++ [32] ++ [98] ++ [61] ++ [39]) [47, 62] (s ++ [39, 47, 62]).length
  obtain ⟨P', k', ht⟩ := te_tag [] (s ++ [39, 47, 62]) [] P1 s [] 0 hv
  generalize hX : s ++ [39, 47, 62] = X at *
  have hx : [60, 63].isPrefixOf (60 :: 97 :: 32 :: 98 :: 61 :: 39 :: X) = false := rfl
  have s1 : (⟨[], 60 :: 97 :: 32 :: 98 :: 61 :: 39 :: X, [], 0, [], [], [], 0⟩ : RS).sees [60, 33, 45, 45] = false := rfl
  have s2 : (⟨[], 60 :: 97 :: 32 :: 98 :: 61 :: 39 :: X, [], 0, [], [], [], 0⟩ : RS).sees [60, 63] = false := rfl
  have s3 : (⟨[], 60 :: 97 :: 32 :: 98 :: 61 :: 39 :: X, [], 0, [], [], [], 0⟩ : RS).sees [60, 33, 68, 79, 67, 84, 89, 80, 69] = false := rfl
  have s4 : (⟨[], 60 :: 97 :: 32 :: 98 :: 61 :: 39 :: X, [], 0, [], [], [], 0⟩ : RS).sees [60] = true := rfl
  have hd : (RS.start (60 :: 97 :: 32 :: 98 :: 61 :: 39 :: X)).document = .ok ⟨P' ++ [], [], [], 0, [], teB s, [], k'⟩ := by
    unfold RS.document
    rw [show (RS.start (60 :: 97 :: 32 :: 98 :: 61 :: 39 :: X)).rest = 60 :: 97 :: 32 :: 98 :: 61 :: 39 :: X from rfl, hx, Bool.false_and, if_neg (by decide)]
    show RS.docGo (X.length + 5 + 1 + 1) false false ⟨[], 60 :: 97 :: 32 :: 98 :: 61 :: 39 :: X, [], 0, [], [], [], 0⟩ = _
    rw [docGo_eq, te_blanks [] _ 60 _ _ _ _ _ _ rfl, s1, s2, s3, s4, if_neg (by decide), if_neg (by decide), if_neg (by decide), if_pos (by decide)]
    unfold docElem
    rw [ht]
    simp only
    rw [content_nil _ _ rfl]
    simp only [docMore]
    rw [docGo_eq]
    rfl
  unfold scanX
  rw [hd]
end Go.Proofs.YtiembljlhmgpjaaGreatDoor
