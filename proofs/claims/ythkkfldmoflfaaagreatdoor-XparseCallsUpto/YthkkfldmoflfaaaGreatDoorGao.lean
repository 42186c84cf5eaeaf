/- Several texts, laid as one. -/
import Derived.Test.YthkkfldmoflfaaaGreatDoorGal
import Derived.Test.YthkkfldmoflfaaaGreatDoorGan
/- A text that stands ahead of a ')' or a ',' is scanned as it is alone. -/
namespace Go.Proofs.YthkkfldmoflfaaaGreatDoor
theorem scan_ext (n n' : List Nat → Nat) : ∀ f acc pre l ts, scanA n f acc pre l = .ok (acc ++ ts) → l.length < f → ∀ acc' pre' f' R, ends4 R → plOf acc = plOf acc' → (l ++ R).length < f' →
    ∃ res pre'' f'', R.length < f'' ∧ res.map (·.1) = ts.map (·.1) ∧ scanA n' f' acc' pre' (l ++ R) = scanA n' f'' (acc' ++ res) pre'' R
  | 0, _, _, l, _, _, hl => absurd hl (by omega)
  | f + 1, acc, pre, l, ts, h, hl => by
    intro acc' pre' f' R hR hpl hN
    cases f' with
    | zero => omega
    | succ f' =>
      have hd := dropB_ext hR l
      rcases scan_step n f acc ts pre l h hl with ⟨he, rfl⟩ | ⟨t, ts1, r, ht, hf, hr, rfl, hlr, hs⟩
      · refine ⟨[], pre' ++ (l ++ R).takeWhile blankC, f' + 1, ?_, rfl, ?_⟩
        · rw [List.length_append] at hN; omega
        · rw [scan_skip, hd, he, List.nil_append, List.append_nil]
      · have htok : tokA ((l ++ R).dropWhile blankC) (plOf acc') = some t := by
          rw [hd, ← hpl]
          exact tokA_ext hR ht
        have hne := formed_ne hf
        have h3 : 0 < t.raw.length := List.length_pos_iff.2 hne
        have h2 : (l.dropWhile blankC).length ≤ l.length := by
          have := congrArg List.length (List.takeWhile_append_dropWhile (p := blankC) (l := l))
          rw [List.length_append] at this
          omega
        have h4 := congrArg List.length hr
        rw [List.length_append] at h4
        obtain ⟨res, pre'', f'', g1, g2, g3⟩ := scan_ext n n' f _ _ r ts1 hs hlr (acc' ++ [(t, n' (pre' ++ (l ++ R).takeWhile blankC))]) (pre' ++ (l ++ R).takeWhile blankC ++ t.raw) f' R hR (by rw [plOf_snoc, plOf_snoc]) (by
          rw [List.length_append] at hN ⊢
          omega)
        refine ⟨(t, n' (pre' ++ (l ++ R).takeWhile blankC)) :: res, pre'', f'', g1, by simp [g2], ?_⟩
        rw [scanA, htok]
        have hemp : ((l ++ R).dropWhile blankC).isEmpty = false := by
          rw [hd, hr]
          cases hx : t.raw with
          | nil => exact absurd hx hne
          | cons a b => rfl
        rw [hemp, if_neg (by decide)]
        show scanA n' f' _ _ (((l ++ R).dropWhile blankC).drop t.raw.length) = _
        have e9 : ((l ++ R).dropWhile blankC).drop t.raw.length = r ++ R := by rw [hd, hr, List.append_assoc, List.drop_left]
        rw [e9, g3, List.append_assoc]
        rfl
/-- A sign of one letter. -/
theorem tok_sign {c : Nat} (hc : c = 40 ∨ c = 41 ∨ c = 44 ∨ c = 43) (l : List Nat) (pl : Bool) : tokA (c :: l) pl = some ⟨if c = 43 then 8 else 9, [c], [c]⟩ := by
  have h1 : numA (c :: l) = [] := numA_no c l (by rcases hc with rfl | rfl | rfl | rfl <;> rfl) (by omega)
  have h2 : strAt 34 (c :: l) = none := strAt_other (by omega)
  have h3 : strAt 39 (c :: l) = none := strAt_other (by omega)
  have h4 : varA (c :: l) = none := varA_other (by omega)
  have h5 : wordA (c :: l) = [] := wordA_no (by rcases hc with rfl | rfl | rfl | rfl <;> decide) (by omega) l
  unfold tokA
  rw [h1, h2, h3, h4, h5]
  have hp : ∀ a b, (a ≠ c) → [a, b].isPrefixOf (c :: l) = false := fun a b h => by
    show ((a == c) && [b].isPrefixOf l) = false
    rw [show (a == c) = false by simpa using h, Bool.false_and]
  have hp1 : ∀ a, [a].isPrefixOf (c :: l) = (a == c) := fun a => by
    show ((a == c) && true) = (a == c)
    rw [Bool.and_true]
  have h6 : signA (c :: l) = some (if c = 43 then 8 else 9, [c]) := by
    unfold signA signL
    rcases hc with rfl | rfl | rfl | rfl <;> simp [hp, hp1]
  rw [h6]
  rfl
/-- A sign of one letter is scanned. -/
theorem scan_sign (n : List Nat → Nat) {c : Nat} (hc : c = 40 ∨ c = 41 ∨ c = 44 ∨ c = 43) (f : Nat) (acc : List (Tok × Nat)) (pre b l : List Nat) (hb : ∀ x ∈ b, blankC x = true) : scanA n (f + 1) acc pre (b ++ c :: l) = scanA n f (acc ++ [(⟨if c = 43 then 8 else 9, [c], [c]⟩, n (pre ++ b))]) (pre ++ b ++ [c]) l := by
  have hx : ∀ x, (c :: l).head? = some x → blankC x = false := fun x h => by
    cases h
    rcases hc with rfl | rfl | rfl | rfl <;> rfl
  obtain ⟨h1, h2⟩ := drop_blanks hb hx
  rw [scanA, h1, h2, tok_sign hc l]
  rfl
theorem scan_sign0 (n : List Nat → Nat) {c : Nat} (hc : c = 40 ∨ c = 41 ∨ c = 44 ∨ c = 43) (f : Nat) (acc : List (Tok × Nat)) (pre l : List Nat) : scanA n (f + 1) acc pre (c :: l) = scanA n f (acc ++ [(⟨if c = 43 then 8 else 9, [c], [c]⟩, n pre)]) (pre ++ [c]) l := by
  have h := scan_sign n hc f acc pre [] l (fun _ h => by cases h)
  rw [List.nil_append, List.append_nil] at h
  exact h
theorem plOf_open (acc : List (Tok × Nat)) (p : Nat) : plOf (acc ++ [(⟨9, [40], [40]⟩, p)]) = false := by
  rw [plOf_snoc]
  rfl
theorem scan_end (n : List Nat → Nat) (f : Nat) (acc : List (Tok × Nat)) (pre : List Nat) : scanA n (f + 1) acc pre [] = .ok acc := rfl
theorem if40 : (if (40 : Nat) = 43 then 8 else 9) = 9 := rfl
theorem if41 : (if (41 : Nat) = 43 then 8 else 9) = 9 := rfl
end Go.Proofs.YthkkfldmoflfaaaGreatDoor
/- The text of a call: how it is scanned. -/
namespace Go.Proofs.YthkkfldmoflfaaaGreatDoor
/-- Behind a call's first argument: so many more, all alike, and ')'. -/
def tailC (cs : List Nat) : Nat → List Nat
  | 0 => [41]
  | j + 1 => 44 :: 32 :: (cs ++ tailC cs j)
def tailT (ts : List Tok) : Nat → List Tok
  | 0 => [⟨9, [41], [41]⟩]
  | j + 1 => ⟨9, [44], [44]⟩ :: (ts ++ tailT ts j)
theorem tailC_ends (cs : List Nat) (j : Nat) : ends4 (tailC cs j) := by
  cases j with
  | zero => exact ends4_41 _
  | succ j => exact ends4_44 _
theorem scan_blank (n : List Nat → Nat) (f : Nat) (acc : List (Tok × Nat)) (pre l : List Nat) : scanA n (f + 1) acc pre (32 :: l) = scanA n (f + 1) acc (pre ++ [32]) l := by
  rw [scan_skip n f acc pre (32 :: l), scan_skip n f acc (pre ++ [32]) l]
  have h1 : (32 :: l).dropWhile blankC = l.dropWhile blankC := List.dropWhile_cons_of_pos rfl
  have h2 : (32 :: l).takeWhile blankC = 32 :: l.takeWhile blankC := List.takeWhile_cons_of_pos rfl
  rw [h1, h2, List.append_assoc]
  rfl
theorem plOf_comma (acc : List (Tok × Nat)) (p : Nat) : plOf (acc ++ [(⟨9, [44], [44]⟩, p)]) = false := by
  rw [plOf_snoc]
  rfl
theorem if44 : (if (44 : Nat) = 43 then 8 else 9) = 9 := rfl
theorem scan_tail {cs : List Nat} {ts : List (Tok × Nat)} (m1 : List Nat → Nat) (h : scanA m1 (cs.length + 1) [] [] cs = .ok ts) : ∀ (j f : Nat) (acc : List (Tok × Nat)) (pre : List Nat), (tailC cs j).length < f → ∃ res, scanA m1 f acc pre (tailC cs j) = .ok (acc ++ res) ∧ res.map (·.1) = tailT (ts.map (·.1)) j
  | 0, f, acc, pre, hf => by
    have hf2 : 1 < f := hf
    obtain ⟨G, rfl⟩ : ∃ G, f = G + 1 + 1 := ⟨f - 2, by omega⟩
    rw [tailC, scan_sign0 m1 (.inr (.inl rfl)), scan_end, if41]
    exact ⟨_, rfl, rfl⟩
  | j + 1, f, acc, pre, hf => by
    have hf2 : (cs ++ tailC cs j).length + 2 < f := hf
    obtain ⟨F, rfl⟩ : ∃ F, f = F + 1 + 1 := ⟨f - 2, by omega⟩
    rw [tailC, scan_sign0 m1 (.inr (.inr (.inl rfl))), if44, scan_blank]
    obtain ⟨res, pre'', f'', g1, g2, g3⟩ := scan_ext m1 m1 _ [] [] cs ts h (by omega) (acc ++ [(⟨9, [44], [44]⟩, m1 pre)]) (pre ++ [44] ++ [32]) (F + 1) (tailC cs j) (tailC_ends cs j) (by rw [plOf_comma]; rfl) (by omega)
    obtain ⟨res2, k1, k2⟩ := scan_tail m1 h j f'' (acc ++ [(⟨9, [44], [44]⟩, m1 pre)] ++ res) pre'' g1
    rw [g3, k1]
    exact ⟨[(⟨9, [44], [44]⟩, m1 pre)] ++ res ++ res2, by simp, by rw [tailT]; simp [g2, k2]⟩
/-- 'f', ahead of a '('. -/
theorem tok_f (l : List Nat) : tokA (102 :: 40 :: l) false = some ⟨4, [102], [102]⟩ := by
  have h1 : numA (102 :: 40 :: l) = [] := numA_no 102 _ rfl (by omega)
  have h2 : strAt 34 (102 :: 40 :: l) = none := strAt_other (by omega)
  have h3 : strAt 39 (102 :: 40 :: l) = none := strAt_other (by omega)
  have h4 : varA (102 :: 40 :: l) = none := varA_other (by omega)
  have hn : nameA (102 :: 40 :: l) = [102] := by
    rw [nameA, if_pos (by decide), List.takeWhile_cons_of_neg (by decide)]
  have hq : qnameA (102 :: 40 :: l) = [102] := by
    unfold qnameA
    rw [hn]
    show (if (true && (heads 58 (40 :: l) && _)) = true then _ else [102]) = [102]
    rw [heads_cons, show ((40 : Nat) == 58) = false from rfl, Bool.false_and, Bool.and_false, if_neg (by decide)]
  have hw : wordA (102 :: 40 :: l) = [102] := by
    unfold wordA
    rw [heads_cons, show ((102 : Nat) == 42) = false from rfl, if_neg (by decide), hq]
    show (if (isNm [102] && [58, 42].isPrefixOf (40 :: l)) = true then _ else [102]) = [102]
    have : ([58, 42] : List Nat).isPrefixOf (40 :: l) = false := rfl
    rw [this, Bool.and_false, if_neg (by decide)]
  unfold tokA
  rw [h1, h2, h3, h4, hw]
  have hk : wordK [102] (40 :: l) false = some 4 := by
    unfold wordK
    have hd : (40 :: l).dropWhile blankC = 40 :: l := List.dropWhile_cons_of_neg (by decide)
    rw [hd, heads_cons]
    rfl
  show ((wordK [102] (40 :: l) false).map fun k => (⟨k, [102], [102]⟩ : Tok)) = _
  rw [hk]
  rfl
/-- The call of 'f' with one argument and j more, all alike. -/
theorem scan_call {cs : List Nat} {ts : List (Tok × Nat)} (h : scanOf cs = .ok ts) (j : Nat) : ∃ res, scanOf (102 :: 40 :: 32 :: (cs ++ tailC cs j)) = .ok res ∧ res.map (·.1) = ⟨4, [102], [102]⟩ :: ⟨9, [40], [40]⟩ :: (ts.map (·.1) ++ tailT (ts.map (·.1)) j) := by
  unfold scanOf at h ⊢
  obtain ⟨m1, hm1⟩ : ∃ m1, (fun l => (tx l).length) = m1 := ⟨_, rfl⟩
  rw [hm1] at h ⊢
  obtain ⟨F, hF⟩ : ∃ F, (102 :: 40 :: 32 :: (cs ++ tailC cs j)).length + 1 = F + 1 + 1 + 1 + 1 := ⟨(cs ++ tailC cs j).length, rfl⟩
  have hFl : (cs ++ tailC cs j).length = F := by simp at hF ⊢; omega
  rw [hF, scanA]
  have hd : (102 :: 40 :: 32 :: (cs ++ tailC cs j)).dropWhile blankC = 102 :: 40 :: 32 :: (cs ++ tailC cs j) := List.dropWhile_cons_of_neg (by decide)
  have ht : (102 :: 40 :: 32 :: (cs ++ tailC cs j)).takeWhile blankC = [] := List.takeWhile_cons_of_neg (by decide)
  rw [hd, ht, show plOf [] = false from rfl, tok_f]
  show ∃ res, scanA m1 (F + 1 + 1 + 1) ([] ++ [(⟨4, [102], [102]⟩, m1 ([] ++ []))]) ([] ++ [] ++ [102]) (40 :: 32 :: (cs ++ tailC cs j)) = _ ∧ _
  rw [scan_sign0 m1 (.inl rfl), if40, scan_blank]
  obtain ⟨res, pre'', f'', g1, g2, g3⟩ := scan_ext m1 m1 _ [] [] cs ts h (by omega) ([] ++ [(⟨4, [102], [102]⟩, m1 ([] ++ []))] ++ [(⟨9, [40], [40]⟩, m1 ([] ++ [] ++ [102]))]) ([] ++ [] ++ [102] ++ [40] ++ [32]) (F + 1 + 1) (tailC cs j) (tailC_ends cs j) (by rw [plOf_open]; rfl) (by omega)
  obtain ⟨res2, k1, k2⟩ := scan_tail m1 h j f'' ([] ++ [(⟨4, [102], [102]⟩, m1 ([] ++ []))] ++ [(⟨9, [40], [40]⟩, m1 ([] ++ [] ++ [102]))] ++ res) pre'' g1
  rw [g3, k1]
  exact ⟨_, rfl, by simp [g2, k2]⟩
end Go.Proofs.YthkkfldmoflfaaaGreatDoor
/- A text without strings that is no row of tokens is none ahead of a ')' or a ','. -/
namespace Go.Proofs.YthkkfldmoflfaaaGreatDoor
theorem heads_not {c : Nat} {l : List Nat} (h : c ∉ l) : heads c l = false := by
  cases l with
  | nil => rfl
  | cons d t =>
    rw [heads_cons]
    have : d ≠ c := fun e => h (by rw [e]; simp)
    simpa using this
theorem tokA_none {R : List Nat} (h : ends4 R) {m : List Nat} {pl : Bool} (hm : m ≠ []) (h1 : 34 ∉ m) (h2 : 39 ∉ m) (ht : tokA m pl = none) : tokA (m ++ R) pl = none := by
  have hpre : wordA m <+: m := wordA_pre m
  have q1 : strAt 34 (m ++ R) = none := strAt_no (by rw [heads_ext h (by decide) (by decide), heads_not h1])
  have q2 : strAt 39 (m ++ R) = none := strAt_no (by rw [heads_ext h (by decide) (by decide), heads_not h2])
  have q3 : strAt 34 m = none := strAt_no (heads_not h1)
  have q4 : strAt 39 m = none := strAt_no (heads_not h2)
  unfold tokA at ht ⊢
  rw [q3, q4] at ht
  rw [numA_ext h, q1, q2, varA_ext h, wordA_ext h, drop_ext hpre, wordK_ext h, signA_ext h hm]
  exact ht
theorem scan_err (n n' : List Nat → Nat) : ∀ f acc pre l p, scanA n f acc pre l = .error p → l.length < f → 34 ∉ l → 39 ∉ l → ∀ acc' pre' f' R, ends4 R → plOf acc = plOf acc' → (l ++ R).length < f' → ∃ p', scanA n' f' acc' pre' (l ++ R) = .error p'
  | 0, _, _, l, _, _, hl => absurd hl (by omega)
  | f + 1, acc, pre, l, p, h, hl => by
    intro h1 h2 acc' pre' f' R hR hpl hN
    cases f' with
    | zero => omega
    | succ f' =>
      have hd := dropB_ext hR l
      have hsub : ∀ c, c ∉ l → c ∉ l.dropWhile blankC := fun c hc hm => hc ((List.dropWhile_suffix _).subset hm)
      rw [scanA] at h
      split at h
      · cases h
      · rename_i he
        have hne : l.dropWhile blankC ≠ [] := fun e => he (by rw [e]; rfl)
        have hemp : ((l ++ R).dropWhile blankC).isEmpty = false := by
          rw [hd]
          cases hx : l.dropWhile blankC with
          | nil => exact absurd hx hne
          | cons a b => rfl
        rw [scanA, hemp, if_neg (by decide)]
        split at h
        · rename_i ht
          have htn : tokA ((l ++ R).dropWhile blankC) (plOf acc') = none := by
            rw [hd, ← hpl]
            exact tokA_none hR hne (hsub 34 h1) (hsub 39 h2) ht
          rw [htn]
          exact ⟨_, rfl⟩
        · rename_i t ht
          have htok : tokA ((l ++ R).dropWhile blankC) (plOf acc') = some t := by
            rw [hd, ← hpl]
            exact tokA_ext hR ht
          obtain ⟨hf, r, hr⟩ := tokA_formed ht
          have h3 : 0 < t.raw.length := List.length_pos_iff.2 (formed_ne hf)
          have h5 : (l.dropWhile blankC).length ≤ l.length := (List.dropWhile_suffix _).length_le
          have h4 := congrArg List.length hr
          rw [List.length_append] at h4
          rw [htok]
          rw [← hr, List.drop_left] at h
          have hsr : ∀ c, c ∉ l → c ∉ r := fun c hc hm => hsub c hc (by rw [← hr]; exact List.mem_append_right _ hm)
          have e9 : ((l ++ R).dropWhile blankC).drop t.raw.length = r ++ R := by rw [hd, ← hr, List.append_assoc, List.drop_left]
          show ∃ p', scanA n' f' _ _ (((l ++ R).dropWhile blankC).drop t.raw.length) = .error p'
          rw [e9]
          exact scan_err n n' f _ _ r p h (by omega) (hsr 34 h1) (hsr 39 h2) _ _ f' R hR (by rw [plOf_snoc, plOf_snoc]) (by
            rw [List.length_append] at hN ⊢
            omega)
end Go.Proofs.YthkkfldmoflfaaaGreatDoor
/- A text without '(' has no calls among its tokens, and no '('. -/
namespace Go.Proofs.YthkkfldmoflfaaaGreatDoor
theorem wordK_np {w b : List Nat} {pl : Bool} {k : Nat} (hb : 40 ∉ b) (h : wordK w b pl = some k) : k ≠ 4 ∧ k ≠ 5 ∧ k ≠ 9 := by
  have h0 : heads 40 (b.dropWhile blankC) = false := heads_not fun hm => hb ((List.dropWhile_suffix _).subset hm)
  unfold wordK at h
  rw [h0] at h
  split at h
  · split at h
    · cases h; decide
    · cases h
  · simp only [Bool.false_and, if_neg (show ¬ (false = true) by decide)] at h
    split at h
    · cases h; decide
    · cases h; decide
theorem tokA_np {m : List Nat} {pl : Bool} {t : Tok} (hm : 40 ∉ m) (h : tokA m pl = some t) : Np (t.kind, t.text) := by
  rcases tokA_cases h with ⟨_, rfl⟩ | ⟨q, x, _, _, rfl⟩ | ⟨x, _, rfl⟩ | ⟨k, _, hk, rfl⟩ | ⟨k, x, _, _, hk, rfl⟩
  · exact ⟨(fun h => by cases h), (fun h => by cases h), (fun h => by cases h)⟩
  · exact ⟨(fun h => by cases h), (fun h => by cases h), (fun h => by cases h)⟩
  · exact ⟨(fun h => by cases h), (fun h => by cases h), (fun h => by cases h)⟩
  · obtain ⟨h1, h2, h3⟩ := wordK_np (fun hd => hm ((List.drop_suffix _ _).subset hd)) hk
    exact ⟨fun h => absurd h h3, h1, h2⟩
  · obtain ⟨hm2, hp⟩ := signA_mem hk
    have h40 : x ≠ [40] := fun e => hm (hp.subset (by rw [e]; simp))
    have hk2 : k = 8 ∨ k = 9 := by
      simp only [signL, List.mem_cons, List.not_mem_nil, or_false, Prod.mk.injEq] at hm2
      omega
    exact ⟨fun _ => h40, by show k ≠ 4; omega, by show k ≠ 5; omega⟩
theorem scan_np (n : List Nat → Nat) : ∀ f acc pre l ts, scanA n f acc pre l = .ok (acc ++ ts) → l.length < f → 40 ∉ l → ∀ x ∈ ts, Np (x.1.kind, x.1.text)
  | 0, _, _, l, _, _, hl => absurd hl (by omega)
  | f + 1, acc, pre, l, ts, h, hl => by
    intro h40 x hx
    rcases scan_step n f acc ts pre l h hl with ⟨he, rfl⟩ | ⟨t, ts1, r, ht, hf, hr, rfl, hlr, hs⟩
    · cases hx
    · have hd : 40 ∉ l.dropWhile blankC := fun hm => h40 ((List.dropWhile_suffix _).subset hm)
      rcases List.mem_cons.1 hx with rfl | hx
      · exact tokA_np hd ht
      · exact scan_np n f _ _ r ts1 hs hlr (fun hm => hd (by rw [hr]; exact List.mem_append_right _ hm)) x hx
/-- The tokens of a text without '('. -/
theorem noP_scan {cs : List Nat} {ts : List (Tok × Nat)} (h : scanOf cs = .ok ts) (h40 : 40 ∉ cs) (o d : Nat) : noP ⟨ts.map fun t => (t.1.kind, t.1.text), o, d⟩ := by
  intro t ht
  obtain ⟨x, hx, rfl⟩ := List.mem_map.1 ht
  exact scan_np _ _ [] [] cs ts h (by omega) h40 x hx
end Go.Proofs.YthkkfldmoflfaaaGreatDoor
