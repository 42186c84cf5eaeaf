/- Several texts, laid as one. -/
import Derived.Test.YtnmcambbpgoodaaGreatDoorGbt
import Derived.Test.YtnmcambbpgoodaaGreatDoorGaz
import Derived.Test.YtnmcambbpgoodaaGreatDoorGbb
import Derived.Test.YtnmcambbpgoodaaGreatDoorGbc
/- What xparse's Parse tells of any text. -/
namespace Go.Proofs.YtnmcambbpgoodaaGreatDoor
open Go.RowKit Go.Maps
/-- Whether the judge takes an expression. -/
def okJ (x : Ex) : Bool := match jRight flX (wt x) 0 0 x with
  | some (b, _) => b
  | none => false
/-- What Parse tells of tokens: the expression, or its fault. -/
def saysP (l : List (Nat × List Nat)) : Except Int Ex := match exprP numP (30 * l.length + 26) 0 ⟨l, 0, 0⟩ with
  | .ok x s => if s.left = [] then (if s.dp ≤ 32 ∧ okJ x = true then .ok x else .error 6) else .error 9
  | _ => .error 9
def saysT (cs : List Nat) : Except Int Ex := match scanOf cs with
  | .ok ts => saysP (ts.map fun t => (t.1.kind, t.1.text))
  | .error _ => .error 9
def outP (w : World) (r : Except Int Ex) (e : Ending) (w' : World) : Prop := match r with
  | .ok x => outP6 w x e w'
  | .error f => outPN w f e w'
/-- Parse of a text tells r. -/
def ParseIs (s : ByteArray) (r : Except Int Ex) : Prop := ∀ w : World, EnvG w → Calls Tryz.prog 6 #[.string s] w (outP w r)
theorem okJ_true {x : Ex} (h : okJ x = true) : ∃ c, jRight flX (wt x) 0 0 x = some (true, c) := by
  obtain ⟨b, c, hj⟩ := jright_ends flX x
  unfold okJ at h
  rw [hj] at h
  exact ⟨c, by rw [hj, show b = true from h]⟩
theorem okJ_false {x : Ex} (h : okJ x = false) : ∃ c, jRight flX (wt x) 0 0 x = some (false, c) := by
  obtain ⟨b, c, hj⟩ := jright_ends flX x
  unfold okJ at h
  rw [hj] at h
  exact ⟨c, by rw [hj, show b = false from h]⟩
theorem tk_scan {cs : List Nat} {ts : List (Tok × Nat)} (hl : okL cs) (hz : (T cs).size ≤ 512) (hs : scanOf cs = .ok ts) : Tk (ps0 ts) := by
  intro t ht
  obtain ⟨x, hx, rfl⟩ := List.mem_map.1 ht
  obtain ⟨h1, h2⟩ := scan_formed6 hl hs x hx
  have h3 := tx_len_ge h1
  rw [T_size] at h2
  show x.1.text.length ≤ 1000
  omega
theorem scan_count {cs : List Nat} {ts : List (Tok × Nat)} (hl : okL cs) (hz : (T cs).size ≤ 512) (hs : scanOf cs = .ok ts) : ts.length ≤ 512 := by
  have h1 := laid_count _ _ _ _ (scan_laid_all hs)
  have h2 := tx_len_ge hl
  rw [T_size] at hz
  omega
theorem parse_T (cs : List Nat) (hl : okL cs) (hz : (T cs).size ≤ 512) : ParseIs (T cs) (saysT cs) := by
  intro w hG
  unfold saysT
  cases hs : scanOf cs with
  | error p =>
    refine parse_noscan (T cs) 9 w rfl fun W hW => ?_
    have h := scan_any cs W hl hz (hG.below hW).lex
    rw [hs] at h
    exact h.mono fun _ _ hh => ⟨⟨_, hh.1⟩, hh.2⟩
  | ok ts =>
    have hc := scan_count hl hz hs
    have hlen : (ps0 ts).left.length = ts.length := by unfold ps0; simp
    have hlv := (live_all numP (30 * ts.length + 26)).1 0 (ps0 ts) (by omega) (by rw [hlen]; omega)
    have hn : 30 * ts.length + 26 ≤ 90001 := by omega
    show Calls _ _ _ w (outP w (saysP (ps0 ts).left))
    unfold saysP
    rw [hlen]
    cases hp : exprP numP (30 * ts.length + 26) 0 (ps0 ts) with
    | out => exact absurd hp hlv
    | fail =>
      rw [show (⟨(ps0 ts).left, 0, 0⟩ : PS) = ps0 ts from rfl, hp]
      exact parse_word cs ts w hG hl hz hs hc fun p W hQ => pwhole_fail w hG _ hn p (ps0 ts) W hQ hp
    | ok x s' =>
      rw [show (⟨(ps0 ts).left, 0, 0⟩ : PS) = ps0 ts from rfl, hp]
      have hsm := ((small_all numP (30 * ts.length + 26)).1 0 (ps0 ts) (tk_scan hl hz hs) x s' hp).1
      show Calls _ _ _ w (outP w (if s'.left = [] then (if s'.dp ≤ 32 ∧ okJ x = true then .ok x else .error 6) else .error 9))
      by_cases hl' : s'.left = []
      · rw [if_pos hl']
        by_cases hd : s'.dp ≤ 32
        · cases hj : okJ x with
          | true =>
            obtain ⟨c, hr⟩ := okJ_true hj
            rw [if_pos ⟨hd, rfl⟩]
            have hne : ts ≠ [] := fun e => by
              subst e
              have he : exprP numP (30 * ([] : List (Tok × Nat)).length + 26) 0 (ps0 []) = .fail := by kernel_rfl
              rw [he] at hp
              cases hp
            exact parse_ok6 cs ts _ _ c x s' w hG hl hz hs hne hc hn hp hl' hd hsm hr
          | false =>
            obtain ⟨c, hr⟩ := okJ_false hj
            rw [if_neg (fun h => by cases h.2)]
            exact parse_unright cs ts _ _ c x s' w hG hl hz hs hc hn hp hl' hd hsm hr
        · rw [if_neg (fun h => hd h.1)]
          exact parse_deep cs ts _ x s' w hG hl hz hs hc hn hp hl' (by omega)
      · rw [if_neg hl']
        exact parse_word cs ts w hG hl hz hs hc fun p W hQ => pwhole_left w hG _ hn p (ps0 ts) W hQ x s' hp hl'
theorem parse_long (s : ByteArray) (h : 512 < s.size) : ParseIs s (.error 6) := fun w _ =>
  parse_noscan s 6 w rfl fun W _ => (scan_long s W h).mono fun _ _ hh => ⟨⟨_, hh.1⟩, hh.2⟩
theorem parse_ill (s : ByteArray) (h : s.size ≤ 512) (hf : (fault s).1 ≠ 0) : ParseIs s (.error 4) := fun w _ =>
  parse_noscan s 4 w rfl fun W _ => (scan_bad s W h hf).mono fun _ _ hh => hh
/-- What Parse tells of any text. -/
theorem parse_any (s : ByteArray) : ∃ r, ParseIs s r ∧ ((512 < s.size ∧ r = .error 6) ∨ (s.size ≤ 512 ∧ (fault s).1 ≠ 0 ∧ r = .error 4) ∨ (s.size ≤ 512 ∧ ∃ cs, okL cs ∧ s = T cs ∧ r = saysT cs)) := by
  rcases text_cases s with h | ⟨h, hf⟩ | ⟨h, cs, hl, e⟩
  · exact ⟨_, parse_long s h, .inl ⟨h, rfl⟩⟩
  · exact ⟨_, parse_ill s h hf, .inr (.inl ⟨h, hf, rfl⟩)⟩
  · subst e
    exact ⟨_, parse_T cs hl h, .inr (.inr ⟨h, cs, hl, rfl, rfl⟩)⟩
end Go.Proofs.YtnmcambbpgoodaaGreatDoor
/- A text that stands ahead of a ')' or a ',' is scanned as it is alone. -/
namespace Go.Proofs.YtnmcambbpgoodaaGreatDoor
theorem scan_ext (n n' : List Nat → Nat) : ∀ f acc pre l ts, scanA n f acc pre l = .ok (acc ++ ts) → l.length < f → ∀ acc' pre' f' R, ends4 R → plOf acc = plOf acc' → (l ++ R).length < f' →
    ∃ res pre'' f'', R.length < f'' ∧ res.map (·.1) = ts.map (·.1) ∧ scanA n' f' acc' pre' (l ++ R) = scanA n' f'' (acc' ++ res) pre'' R
  | 0, _, _, l, _, _, hl => absurd hl (by omega)
  | f + 1, acc, pre, l, ts, h, hl => by
    intro acc' pre' f' R hR hpl hN
    cases f' with
    | zero => omega
    | succ f' =>
      have hd := dropB_ext hR l
      rcases scan_step n f acc ts pre l h hl with ⟨he, rfl⟩ | ⟨t, ts1, r, ht, hf, hr, rfl, hlr, hs⟩
      · refine ⟨[], pre' ++ (l ++ R).takeWhile blankC, f' + 1, ?_, rfl, ?_⟩
        · rw [List.length_append] at hN; omega
        · rw [scan_skip, hd, he, List.nil_append, List.append_nil]
      · have htok : tokA ((l ++ R).dropWhile blankC) (plOf acc') = some t := by
          rw [hd, ← hpl]
          exact tokA_ext hR ht
        have hne := formed_ne hf
        have h3 : 0 < t.raw.length := List.length_pos_iff.2 hne
        have h2 : (l.dropWhile blankC).length ≤ l.length := by
          have := congrArg List.length (List.takeWhile_append_dropWhile (p := blankC) (l := l))
          rw [List.length_append] at this
          omega
        have h4 := congrArg List.length hr
        rw [List.length_append] at h4
        obtain ⟨res, pre'', f'', g1, g2, g3⟩ := scan_ext n n' f _ _ r ts1 hs hlr (acc' ++ [(t, n' (pre' ++ (l ++ R).takeWhile blankC))]) (pre' ++ (l ++ R).takeWhile blankC ++ t.raw) f' R hR (by rw [plOf_snoc, plOf_snoc]) (by
          rw [List.length_append] at hN ⊢
          omega)
        refine ⟨(t, n' (pre' ++ (l ++ R).takeWhile blankC)) :: res, pre'', f'', g1, by simp [g2], ?_⟩
        rw [scanA, htok]
        have hemp : ((l ++ R).dropWhile blankC).isEmpty = false := by
          rw [hd, hr]
          cases hx : t.raw with
          | nil => exact absurd hx hne
          | cons a b => rfl
        rw [hemp, if_neg (by decide)]
        show scanA n' f' _ _ (((l ++ R).dropWhile blankC).drop t.raw.length) = _
        have e9 : ((l ++ R).dropWhile blankC).drop t.raw.length = r ++ R := by rw [hd, hr, List.append_assoc, List.drop_left]
        rw [e9, g3, List.append_assoc]
        rfl
/-- A sign of one letter. -/
theorem tok_sign {c : Nat} (hc : c = 40 ∨ c = 41 ∨ c = 44 ∨ c = 43) (l : List Nat) (pl : Bool) : tokA (c :: l) pl = some ⟨if c = 43 then 8 else 9, [c], [c]⟩ := by
  have h1 : numA (c :: l) = [] := numA_no c l (by rcases hc with rfl | rfl | rfl | rfl <;> rfl) (by omega)
  have h2 : strAt 34 (c :: l) = none := strAt_other (by omega)
  have h3 : strAt 39 (c :: l) = none := strAt_other (by omega)
  have h4 : varA (c :: l) = none := varA_other (by omega)
  have h5 : wordA (c :: l) = [] := wordA_no (by rcases hc with rfl | rfl | rfl | rfl <;> decide) (by omega) l
  unfold tokA
  rw [h1, h2, h3, h4, h5]
  have hp : ∀ a b, (a ≠ c) → [a, b].isPrefixOf (c :: l) = false := fun a b h => by
    show ((a == c) && [b].isPrefixOf l) = false
    rw [show (a == c) = false by simpa using h, Bool.false_and]
  have hp1 : ∀ a, [a].isPrefixOf (c :: l) = (a == c) := fun a => by
    show ((a == c) && true) = (a == c)
    rw [Bool.and_true]
  have h6 : signA (c :: l) = some (if c = 43 then 8 else 9, [c]) := by
    unfold signA signL
    rcases hc with rfl | rfl | rfl | rfl <;> simp [hp, hp1]
  rw [h6]
  rfl
/-- A sign of one letter is scanned. -/
theorem scan_sign (n : List Nat → Nat) {c : Nat} (hc : c = 40 ∨ c = 41 ∨ c = 44 ∨ c = 43) (f : Nat) (acc : List (Tok × Nat)) (pre b l : List Nat) (hb : ∀ x ∈ b, blankC x = true) : scanA n (f + 1) acc pre (b ++ c :: l) = scanA n f (acc ++ [(⟨if c = 43 then 8 else 9, [c], [c]⟩, n (pre ++ b))]) (pre ++ b ++ [c]) l := by
  have hx : ∀ x, (c :: l).head? = some x → blankC x = false := fun x h => by
    cases h
    rcases hc with rfl | rfl | rfl | rfl <;> rfl
  obtain ⟨h1, h2⟩ := drop_blanks hb hx
  rw [scanA, h1, h2, tok_sign hc l]
  rfl
theorem scan_sign0 (n : List Nat → Nat) {c : Nat} (hc : c = 40 ∨ c = 41 ∨ c = 44 ∨ c = 43) (f : Nat) (acc : List (Tok × Nat)) (pre l : List Nat) : scanA n (f + 1) acc pre (c :: l) = scanA n f (acc ++ [(⟨if c = 43 then 8 else 9, [c], [c]⟩, n pre)]) (pre ++ [c]) l := by
  have h := scan_sign n hc f acc pre [] l (fun _ h => by cases h)
  rw [List.nil_append, List.append_nil] at h
  exact h
theorem plOf_open (acc : List (Tok × Nat)) (p : Nat) : plOf (acc ++ [(⟨9, [40], [40]⟩, p)]) = false := by
  rw [plOf_snoc]
  rfl
theorem scan_end (n : List Nat → Nat) (f : Nat) (acc : List (Tok × Nat)) (pre : List Nat) : scanA n (f + 1) acc pre [] = .ok acc := rfl
theorem if40 : (if (40 : Nat) = 43 then 8 else 9) = 9 := rfl
theorem if41 : (if (41 : Nat) = 43 then 8 else 9) = 9 := rfl
theorem if43 : (if (43 : Nat) = 43 then 8 else 9) = 8 := rfl
/-- A text in ( ). -/
theorem scan_in {cs : List Nat} {ts : List (Tok × Nat)} (h : scanOf cs = .ok ts) : ∃ res, scanOf (40 :: (cs ++ [41])) = .ok res ∧ res.map (·.1) = ⟨9, [40], [40]⟩ :: ts.map (·.1) ++ [⟨9, [41], [41]⟩] := by
  unfold scanOf at h ⊢
  obtain ⟨m1, hm1⟩ : ∃ m1, (fun l => (tx l).length) = m1 := ⟨_, rfl⟩
  rw [hm1] at h ⊢
  rw [scan_sign0 m1 (.inl rfl), if40]
  obtain ⟨res, pre'', f'', g1, g2, g3⟩ := scan_ext m1 m1 _ [] [] cs ts h (by omega) ([] ++ [(⟨9, [40], [40]⟩, m1 [])]) ([] ++ [40]) (40 :: (cs ++ [41])).length [41] (ends4_41 _) (by rw [plOf_open]; rfl) (by simp)
  rw [g3]
  obtain ⟨G, rfl⟩ : ∃ G, f'' = G + 1 + 1 := ⟨f'' - 2, by simp at g1; omega⟩
  rw [scan_sign0 m1 (.inr (.inl rfl)), scan_end, if41]
  exact ⟨_, rfl, by simp [g2]⟩
/-- Two texts in ( ), and a '+'. -/
theorem scan_sum {cs ds : List Nat} {ts us : List (Tok × Nat)} (h : scanOf cs = .ok ts) (k : scanOf ds = .ok us) : ∃ res, scanOf (40 :: (cs ++ 41 :: 32 :: 43 :: 32 :: 40 :: (ds ++ [41]))) = .ok res ∧ res.map (·.1) = ⟨9, [40], [40]⟩ :: ts.map (·.1) ++ ⟨9, [41], [41]⟩ :: ⟨8, [43], [43]⟩ :: ⟨9, [40], [40]⟩ :: (us.map (·.1) ++ [⟨9, [41], [41]⟩]) := by
  unfold scanOf at h k ⊢
  obtain ⟨m1, hm1⟩ : ∃ m1, (fun l => (tx l).length) = m1 := ⟨_, rfl⟩
  rw [hm1] at h k ⊢
  have hb : ∀ x ∈ [32], blankC x = true := fun x hx => by
    obtain rfl := List.mem_singleton.1 hx
    rfl
  rw [scan_sign0 m1 (.inl rfl), if40]
  obtain ⟨res, pre'', f'', g1, g2, g3⟩ := scan_ext m1 m1 _ [] [] cs ts h (by omega) ([] ++ [(⟨9, [40], [40]⟩, m1 [])]) ([] ++ [40]) (40 :: (cs ++ 41 :: 32 :: 43 :: 32 :: 40 :: (ds ++ [41]))).length (41 :: 32 :: 43 :: 32 :: 40 :: (ds ++ [41])) (ends4_41 _) (by rw [plOf_open]; rfl) (by simp)
  rw [g3]
  obtain ⟨F, rfl⟩ : ∃ F, f'' = F + 1 + 1 + 1 := ⟨f'' - 3, by simp at g1; omega⟩
  rw [scan_sign0 m1 (.inr (.inl rfl)), if41]
  rw [show (32 :: 43 :: 32 :: 40 :: (ds ++ [41])) = [32] ++ 43 :: (32 :: 40 :: (ds ++ [41])) from rfl, scan_sign m1 (.inr (.inr (.inr rfl))) _ _ _ [32] _ hb, if43]
  rw [show (32 :: 40 :: (ds ++ [41])) = [32] ++ 40 :: (ds ++ [41]) from rfl, scan_sign m1 (.inl rfl) _ _ _ [32] _ hb, if40]
  obtain ⟨A, hA⟩ : ∃ A, ([] ++ [((⟨9, [40], [40]⟩ : Tok), m1 [])] ++ res ++ [((⟨9, [41], [41]⟩ : Tok), m1 pre'')] ++ [((⟨8, [43], [43]⟩ : Tok), m1 (pre'' ++ [41] ++ [32]))] : List (Tok × Nat)) = A := ⟨_, rfl⟩
  obtain ⟨P, hP⟩ : ∃ P, pre'' ++ [41] ++ [32] ++ [43] = P := ⟨_, rfl⟩
  rw [hA, hP]
  obtain ⟨res2, pre3, f3, k1, k2, k3⟩ := scan_ext m1 m1 _ [] [] ds us k (by omega) (A ++ [(⟨9, [40], [40]⟩, m1 (P ++ [32]))]) (P ++ [32] ++ [40]) F [41] (ends4_41 _) (by rw [plOf_open]; rfl) (by simp at g1 ⊢; omega)
  rw [k3]
  obtain ⟨G, rfl⟩ : ∃ G, f3 = G + 1 + 1 := ⟨f3 - 2, by simp at k1; omega⟩
  rw [scan_sign0 m1 (.inr (.inl rfl)), scan_end, if41]
  refine ⟨_, rfl, ?_⟩
  rw [← hA]
  simp [g2, k2]
end Go.Proofs.YtnmcambbpgoodaaGreatDoor
/- What Parse tells of expressions in ( ), and of the sum of two: plain. -/
namespace Go.Proofs.YtnmcambbpgoodaaGreatDoor
theorem says_inv {cs : List Nat} {x : Ex} (h : saysT cs = .ok x) : ∃ ts d, scanOf cs = .ok ts ∧ exprP numP (30 * (ts.map fun t => (t.1.kind, t.1.text)).length + 26) 0 ⟨ts.map fun t => (t.1.kind, t.1.text), 0, 0⟩ = .ok x ⟨[], 0, d⟩ ∧ d ≤ 32 ∧ okJ x = true := by
  unfold saysT at h
  cases hs : scanOf cs with
  | error p => rw [hs] at h; cases h
  | ok ts =>
    rw [hs] at h
    simp only at h
    unfold saysP at h
    split at h
    · rename_i x' s' hp
      split at h
      · rename_i hl
        split at h
        · rename_i hd
          cases h
          refine ⟨ts, s'.dp, rfl, ?_, hd.1, hd.2⟩
          have ho := ((pres_all numP _).1 _ _ _ _ hp).1
          obtain ⟨l, o, d⟩ := s'
          simp only at hl ho
          subst hl ho
          exact hp
        · cases h
      · cases h
    · cases h
/-- Parse tells an expression where the parser finds it, or that it is past a limit. -/
theorem says_of {L : List (Nat × List Nat)} {x : Ex} {n d : Nat} (h : exprP numP n 0 ⟨L, 0, 0⟩ = .ok x ⟨[], 0, d⟩) (hn : n ≤ 30 * L.length + 26) : saysP L = .ok x ∨ saysP L = .error 6 := by
  have e : saysP L = (if d ≤ 32 ∧ okJ x = true then Except.ok x else .error 6) := by
    unfold saysP
    rw [expr_mono hn h]
    rfl
  rw [e]
  by_cases hd : d ≤ 32 ∧ okJ x = true
  · rw [if_pos hd]; exact .inl rfl
  · rw [if_neg hd]; exact .inr rfl
theorem says_in {cs : List Nat} {x : Ex} (h : saysT cs = .ok x) : saysT (40 :: (cs ++ [41])) = .ok x ∨ saysT (40 :: (cs ++ [41])) = .error 6 := by
  obtain ⟨ts, d, hs, hp, _, _⟩ := says_inv h
  obtain ⟨res, h1, h2⟩ := scan_in hs
  unfold saysT
  rw [h1]
  show saysP (res.map fun t => (t.1.kind, t.1.text)) = _ ∨ saysP (res.map fun t => (t.1.kind, t.1.text)) = _
  have e1 : res.map (fun t => (t.1.kind, t.1.text)) = (9, [40]) :: ((ts.map fun t => (t.1.kind, t.1.text)) ++ [(9, [41])]) := by
    have : res.map (fun t => (t.1.kind, t.1.text)) = (res.map (·.1)).map (fun t => (t.kind, t.text)) := by rw [List.map_map]; rfl
    rw [this, h2]
    simp
  rw [e1]
  exact says_of (expr_in hp) (by simp; omega)
theorem says_sum {cs ds : List Nat} {x y : Ex} (h : saysT cs = .ok x) (k : saysT ds = .ok y) : saysT (40 :: (cs ++ 41 :: 32 :: 43 :: 32 :: 40 :: (ds ++ [41]))) = .ok (.mk 9 [] 0 0 0 [x, y]) ∨ saysT (40 :: (cs ++ 41 :: 32 :: 43 :: 32 :: 40 :: (ds ++ [41]))) = .error 6 := by
  obtain ⟨ts, d, hs, hp, _, _⟩ := says_inv h
  obtain ⟨us, f, ks, kp, _, _⟩ := says_inv k
  obtain ⟨res, h1, h2⟩ := scan_sum hs ks
  unfold saysT
  rw [h1]
  show saysP (res.map fun t => (t.1.kind, t.1.text)) = _ ∨ saysP (res.map fun t => (t.1.kind, t.1.text)) = _
  have e1 : res.map (fun t => (t.1.kind, t.1.text)) = (9, [40]) :: ((ts.map fun t => (t.1.kind, t.1.text)) ++ (9, [41]) :: (8, [43]) :: (9, [40]) :: ((us.map fun t => (t.1.kind, t.1.text)) ++ [(9, [41])])) := by
    have : res.map (fun t => (t.1.kind, t.1.text)) = (res.map (·.1)).map (fun t => (t.kind, t.text)) := by rw [List.map_map]; rfl
    rw [this, h2]
    simp
    rfl
  rw [e1]
  generalize (ts.map fun t => (t.1.kind, t.1.text)) = A at *
  generalize (us.map fun t => (t.1.kind, t.1.text)) = B at *
  have q1 := expr_mono (m := 30 * A.length + 26 + (30 * B.length)) (by omega) hp
  have q2 := expr_mono (m := 30 * A.length + 26 + (30 * B.length)) (by omega) kp
  exact says_of (expr_sum q1 q2) (by simp; omega)
mutual
/-- How many expressions are in one. -/
def cnX : Ex → Nat
  | .mk _ _ _ _ _ ks => 1 + cnKs ks
def cnKs : List Ex → Nat
  | [] => 0
  | k :: ks => cnX k + cnKs ks
end
theorem cn_kids (x : Ex) : cnX x = 1 + cnKs x.kids := by
  cases x
  rw [cnX]
  rfl
theorem j_cn (fl : Ex → Bool) : ∀ n, (∀ d c e c', jPart fl n d c e = some (true, c') → c' = c + cnX e) ∧ (∀ d c e c', jKids fl n d c e = some (true, c') → c' = c + cnKs e.kids) ∧ (∀ d c e c', jRight fl n d c e = some (true, c') → c' = c + cnX e) ∧ (∀ d c ks c', jAll fl n d c ks = some (true, c') → c' = c + cnKs ks) ∧ (∀ d c ks c', jSteps fl n d c ks = some (true, c') → c' = c + cnKs ks) ∧ (∀ d c ks c', jPath fl n d c ks = some (true, c') → c' = c + cnKs ks)
  | 0 => by
    refine ⟨?_, ?_, ?_, ?_, ?_, ?_⟩ <;> (intros; rename_i h; simp [jPart, jKids, jRight, jAll, jSteps, jPath] at h)
  | n + 1 => by
    obtain ⟨i1, i2, i3, i4, i5, i6⟩ := j_cn fl n
    refine ⟨?_, ?_, ?_, ?_, ?_, ?_⟩
    · intro d c e c' h
      rw [jPart] at h
      split at h
      · have := i2 _ _ _ _ h
        have := cn_kids e
        omega
      · cases h
    · intro d c e c' h
      rw [jKids] at h
      split at h
      · exact i6 _ _ _ _ h
      · split at h
        · exact i4 _ _ _ _ h
        · cases h
    · intro d c e c' h
      rw [jRight] at h
      split at h
      · exact i1 _ _ _ _ h
      · cases h
    · intro d c ks c' h
      cases ks with
      | nil => rw [jAll] at h; cases h; rw [cnKs]; omega
      | cons k ks =>
        rw [jAll] at h
        obtain ⟨c1, h1, h2⟩ := JR.then_some h
        have := i3 _ _ _ _ h1
        have := i4 _ _ _ _ h2
        rw [cnKs]
        omega
    · intro d c ks c' h
      cases ks with
      | nil => rw [jSteps] at h; cases h; rw [cnKs]; omega
      | cons k ks =>
        rw [jSteps] at h
        split at h
        · obtain ⟨c1, h1, h2⟩ := JR.then_some h
          have := i1 _ _ _ _ h1
          have := i5 _ _ _ _ h2
          rw [cnKs]
          omega
        · cases h
    · intro d c ks c' h
      cases ks with
      | nil => rw [jPath] at h; cases h
      | cons k ks =>
        rw [jPath] at h
        split at h
        · cases h
        · obtain ⟨c1, h1, h2⟩ := JR.then_some h
          have := i5 _ _ _ _ h2
          rw [cnKs]
          split at h1
          · have := i1 _ _ _ _ h1
            omega
          · have := i3 _ _ _ _ h1
            omega
end Go.Proofs.YtnmcambbpgoodaaGreatDoor
/- The texts that TopWithin makes. -/
namespace Go.Proofs.YtnmcambbpgoodaaGreatDoor
open Go.RowKit Go.Maps
/-- The texts that the law makes. -/
def inT (s : ByteArray) : ByteArray := ⟨#[40]⟩ ++ s ++ ⟨#[41]⟩
def sumT (s t : ByteArray) : ByteArray := ⟨#[40]⟩ ++ s ++ ⟨#[41, 32, 43, 32, 40]⟩ ++ t ++ ⟨#[41]⟩
theorem data_ext {a b : ByteArray} (h : a.data.toList = b.data.toList) : a = b := by
  cases a
  cases b
  simp only at h
  rw [Array.toList_inj] at h
  rw [h]
theorem tx_ascii {c : Nat} (h : c = 40 ∨ c = 41 ∨ c = 32 ∨ c = 43) (l : List Nat) : tx (c :: l) = UInt8.ofNat c :: tx l := by
  rw [tx_cons]
  rcases h with rfl | rfl | rfl | rfl <;> rfl
theorem inT_T (cs : List Nat) : inT (T cs) = T (40 :: (cs ++ [41])) := by
  refine data_ext ?_
  rw [T_data, tx_ascii (.inl rfl), tx_append, tx_ascii (.inr (.inl rfl)), tx_nil]
  unfold inT
  simp only [ByteArray.data_append, Array.toList_append, T_data]
  rfl
theorem sumT_T (cs ds : List Nat) : sumT (T cs) (T ds) = T (40 :: (cs ++ 41 :: 32 :: 43 :: 32 :: 40 :: (ds ++ [41]))) := by
  refine data_ext ?_
  rw [T_data, tx_ascii (.inl rfl), tx_append, tx_ascii (.inr (.inl rfl)), tx_ascii (.inr (.inr (.inl rfl))), tx_ascii (.inr (.inr (.inr rfl))), tx_ascii (.inr (.inr (.inl rfl))), tx_ascii (.inl rfl), tx_append, tx_ascii (.inr (.inl rfl)), tx_nil]
  unfold sumT
  simp only [ByteArray.data_append, Array.toList_append, T_data, List.append_assoc]
  rfl
/-- What Parse tells of the text in ( ). -/
theorem parse_in {cs : List Nat} {x : Ex} (hl : okL cs) (h : saysT cs = .ok x) : ∃ r, ParseIs (inT (T cs)) r ∧ (r = .ok x ∨ r = .error 6) := by
  rw [inT_T]
  by_cases hz : (T (40 :: (cs ++ [41]))).size ≤ 512
  · exact ⟨_, parse_T _ (fun c hc => by
      rcases List.mem_cons.1 hc with rfl | hc
      · decide
      · exact okL_app hl (fun c hc => by rw [List.mem_singleton.1 hc]; decide) c hc) hz, says_in h⟩
  · exact ⟨_, parse_long _ (by omega), .inr rfl⟩
end Go.Proofs.YtnmcambbpgoodaaGreatDoor
/- What Parse leaves, in one form: an expression and a number. -/
namespace Go.Proofs.YtnmcambbpgoodaaGreatDoor
open Go.RowKit Go.Maps
def outG (w : World) (r : Except Int Ex) (e : Ending) (w' : World) : Prop := ∃ (x : Ex) (al : Option Addr) (cc : Nat) (f : Int), e = .returned (.tuple #[exAgg x (.slice al x.kids.length cc), .int .i64 f]) ∧ exV w' (fun j => w.heap.size ≤ j) x (.slice al x.kids.length cc) ∧ Below w.heap.size w w' ∧ ((r = .ok x ∧ f = 0) ∨ r = .error f)
theorem outG_of {w w' : World} {r : Except Int Ex} {e : Ending} (h : outP w r e w') : outG w r e w' := by
  cases r with
  | ok x =>
    obtain ⟨al, cc, h1, h2, h3⟩ := h
    exact ⟨x, al, cc, 0, h1, h2, h3, .inl ⟨rfl, rfl⟩⟩
  | error f =>
    obtain ⟨h1, h2⟩ := h
    exact ⟨noX, none, 0, f, h1, exV.leaf okL_nil9, h2, .inr rfl⟩
/-- Parse tells r: in one form. -/
theorem ParseIs.one {s : ByteArray} {r : Except Int Ex} (h : ParseIs s r) (w : World) (hG : EnvG w) : Calls Tryz.prog 6 #[.string s] w (outG w r) := (h w hG).mono fun _ _ hh => outG_of hh
theorem says_one : saysT [49] = .ok (.mk 16 [] 1000000 0 0 []) := by kernel_rfl
theorem one_T : (⟨#[49]⟩ : ByteArray) = T [49] := rfl
end Go.Proofs.YtnmcambbpgoodaaGreatDoor
