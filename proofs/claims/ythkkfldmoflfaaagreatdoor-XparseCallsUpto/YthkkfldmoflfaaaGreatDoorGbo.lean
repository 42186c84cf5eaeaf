/- Several texts, laid as one. -/
import Derived.Test.YthkkfldmoflfaaaGreatDoorGbn
import Derived.Test.YthkkfldmoflfaaaGreatDoorGbk
import Derived.Test.YthkkfldmoflfaaaGreatDoorGam
import Derived.Test.YthkkfldmoflfaaaGreatDoorGao
import Derived.Test.YthkkfldmoflfaaaGreatDoorGan
/- What xparse's Parse tells of any text. -/
namespace Go.Proofs.YthkkfldmoflfaaaGreatDoor
open Go.RowKit Go.Maps
/-- Whether the judge takes an expression. -/
def okJ (x : Ex) : Bool := match jRight flX (wt x) 0 0 x with
  | some (b, _) => b
  | none => false
/-- What Parse tells of tokens: the expression, or its fault. -/
def saysP (l : List (Nat × List Nat)) : Except Int Ex := match exprP numP (30 * l.length + 26) 0 ⟨l, 0, 0⟩ with
  | .ok x s => if s.left = [] then (if s.dp ≤ 32 ∧ okJ x = true then .ok x else .error 6) else .error 9
  | _ => .error 9
def saysT (cs : List Nat) : Except Int Ex := match scanOf cs with
  | .ok ts => saysP (ts.map fun t => (t.1.kind, t.1.text))
  | .error _ => .error 9
def outP (w : World) (r : Except Int Ex) (e : Ending) (w' : World) : Prop := match r with
  | .ok x => outP6 w x e w'
  | .error f => outPN w f e w'
/-- Parse of a text tells r. -/
def ParseIs (s : ByteArray) (r : Except Int Ex) : Prop := ∀ w : World, EnvG w → Calls Tryz.prog 6 #[.string s] w (outP w r)
theorem okJ_true {x : Ex} (h : okJ x = true) : ∃ c, jRight flX (wt x) 0 0 x = some (true, c) := by
  obtain ⟨b, c, hj⟩ := jright_ends flX x
  unfold okJ at h
  rw [hj] at h
  exact ⟨c, by rw [hj, show b = true from h]⟩
theorem okJ_false {x : Ex} (h : okJ x = false) : ∃ c, jRight flX (wt x) 0 0 x = some (false, c) := by
  obtain ⟨b, c, hj⟩ := jright_ends flX x
  unfold okJ at h
  rw [hj] at h
  exact ⟨c, by rw [hj, show b = false from h]⟩
theorem tk_scan {cs : List Nat} {ts : List (Tok × Nat)} (hl : okL cs) (hz : (T cs).size ≤ 512) (hs : scanOf cs = .ok ts) : Tk (ps0 ts) := by
  intro t ht
  obtain ⟨x, hx, rfl⟩ := List.mem_map.1 ht
  obtain ⟨h1, h2⟩ := scan_formed6 hl hs x hx
  have h3 := tx_len_ge h1
  rw [T_size] at h2
  show x.1.text.length ≤ 1000
  omega
theorem scan_count {cs : List Nat} {ts : List (Tok × Nat)} (hl : okL cs) (hz : (T cs).size ≤ 512) (hs : scanOf cs = .ok ts) : ts.length ≤ 512 := by
  have h1 := laid_count _ _ _ _ (scan_laid_all hs)
  have h2 := tx_len_ge hl
  rw [T_size] at hz
  omega
theorem parse_T (cs : List Nat) (hl : okL cs) (hz : (T cs).size ≤ 512) : ParseIs (T cs) (saysT cs) := by
  intro w hG
  unfold saysT
  cases hs : scanOf cs with
  | error p =>
    refine parse_noscan (T cs) 9 w rfl fun W hW => ?_
    have h := scan_any cs W hl hz (hG.below hW).lex
    rw [hs] at h
    exact h.mono fun _ _ hh => ⟨⟨_, hh.1⟩, hh.2⟩
  | ok ts =>
    have hc := scan_count hl hz hs
    have hlen : (ps0 ts).left.length = ts.length := by unfold ps0; simp
    have hlv := (live_all numP (30 * ts.length + 26)).1 0 (ps0 ts) (by omega) (by rw [hlen]; omega)
    have hn : 30 * ts.length + 26 ≤ 90001 := by omega
    show Calls _ _ _ w (outP w (saysP (ps0 ts).left))
    unfold saysP
    rw [hlen]
    cases hp : exprP numP (30 * ts.length + 26) 0 (ps0 ts) with
    | out => exact absurd hp hlv
    | fail =>
      rw [show (⟨(ps0 ts).left, 0, 0⟩ : PS) = ps0 ts from rfl, hp]
      exact parse_word cs ts w hG hl hz hs hc fun p W hQ => pwhole_fail w hG _ hn p (ps0 ts) W hQ hp
    | ok x s' =>
      rw [show (⟨(ps0 ts).left, 0, 0⟩ : PS) = ps0 ts from rfl, hp]
      have hsm := ((small_all numP (30 * ts.length + 26)).1 0 (ps0 ts) (tk_scan hl hz hs) x s' hp).1
      show Calls _ _ _ w (outP w (if s'.left = [] then (if s'.dp ≤ 32 ∧ okJ x = true then .ok x else .error 6) else .error 9))
      by_cases hl' : s'.left = []
      · rw [if_pos hl']
        by_cases hd : s'.dp ≤ 32
        · cases hj : okJ x with
          | true =>
            obtain ⟨c, hr⟩ := okJ_true hj
            rw [if_pos ⟨hd, rfl⟩]
            have hne : ts ≠ [] := fun e => by
              subst e
              have he : exprP numP (30 * ([] : List (Tok × Nat)).length + 26) 0 (ps0 []) = .fail := by kernel_rfl
              rw [he] at hp
              cases hp
            exact parse_ok6 cs ts _ _ c x s' w hG hl hz hs hne hc hn hp hl' hd hsm hr
          | false =>
            obtain ⟨c, hr⟩ := okJ_false hj
            rw [if_neg (fun h => by cases h.2)]
            exact parse_unright cs ts _ _ c x s' w hG hl hz hs hc hn hp hl' hd hsm hr
        · rw [if_neg (fun h => hd h.1)]
          exact parse_deep cs ts _ x s' w hG hl hz hs hc hn hp hl' (by omega)
      · rw [if_neg hl']
        exact parse_word cs ts w hG hl hz hs hc fun p W hQ => pwhole_left w hG _ hn p (ps0 ts) W hQ x s' hp hl'
theorem parse_long (s : ByteArray) (h : 512 < s.size) : ParseIs s (.error 6) := fun w _ =>
  parse_noscan s 6 w rfl fun W _ => (scan_long s W h).mono fun _ _ hh => ⟨⟨_, hh.1⟩, hh.2⟩
theorem parse_ill (s : ByteArray) (h : s.size ≤ 512) (hf : (fault s).1 ≠ 0) : ParseIs s (.error 4) := fun w _ =>
  parse_noscan s 4 w rfl fun W _ => (scan_bad s W h hf).mono fun _ _ hh => hh
/-- What Parse tells of any text. -/
theorem parse_any (s : ByteArray) : ∃ r, ParseIs s r ∧ ((512 < s.size ∧ r = .error 6) ∨ (s.size ≤ 512 ∧ (fault s).1 ≠ 0 ∧ r = .error 4) ∨ (s.size ≤ 512 ∧ ∃ cs, okL cs ∧ s = T cs ∧ r = saysT cs)) := by
  rcases text_cases s with h | ⟨h, hf⟩ | ⟨h, cs, hl, e⟩
  · exact ⟨_, parse_long s h, .inl ⟨h, rfl⟩⟩
  · exact ⟨_, parse_ill s h hf, .inr (.inl ⟨h, hf, rfl⟩)⟩
  · subst e
    exact ⟨_, parse_T cs hl h, .inr (.inr ⟨h, cs, hl, rfl, rfl⟩)⟩
end Go.Proofs.YthkkfldmoflfaaaGreatDoor
/- What Parse tells of expressions in ( ), and of the sum of two: plain. -/
namespace Go.Proofs.YthkkfldmoflfaaaGreatDoor
theorem says_inv {cs : List Nat} {x : Ex} (h : saysT cs = .ok x) : ∃ ts d, scanOf cs = .ok ts ∧ exprP numP (30 * (ts.map fun t => (t.1.kind, t.1.text)).length + 26) 0 ⟨ts.map fun t => (t.1.kind, t.1.text), 0, 0⟩ = .ok x ⟨[], 0, d⟩ ∧ d ≤ 32 ∧ okJ x = true := by
  unfold saysT at h
  cases hs : scanOf cs with
  | error p => rw [hs] at h; cases h
  | ok ts =>
    rw [hs] at h
    simp only at h
    unfold saysP at h
    split at h
    · rename_i x' s' hp
      split at h
      · rename_i hl
        split at h
        · rename_i hd
          cases h
          refine ⟨ts, s'.dp, rfl, ?_, hd.1, hd.2⟩
          have ho := ((pres_all numP _).1 _ _ _ _ hp).1
          obtain ⟨l, o, d⟩ := s'
          simp only at hl ho
          subst hl ho
          exact hp
        · cases h
      · cases h
    · cases h
/-- Parse tells an expression where the parser finds it, or that it is past a limit. -/
theorem says_of {L : List (Nat × List Nat)} {x : Ex} {n d : Nat} (h : exprP numP n 0 ⟨L, 0, 0⟩ = .ok x ⟨[], 0, d⟩) (hn : n ≤ 30 * L.length + 26) : saysP L = .ok x ∨ saysP L = .error 6 := by
  have e : saysP L = (if d ≤ 32 ∧ okJ x = true then Except.ok x else .error 6) := by
    unfold saysP
    rw [expr_mono hn h]
    rfl
  rw [e]
  by_cases hd : d ≤ 32 ∧ okJ x = true
  · rw [if_pos hd]; exact .inl rfl
  · rw [if_neg hd]; exact .inr rfl
end Go.Proofs.YthkkfldmoflfaaaGreatDoor
/- Calls whose arguments are no expressions: plain. -/
namespace Go.Proofs.YthkkfldmoflfaaaGreatDoor
/-- Where primary fails, and no step begins and no '-', the expression fails. -/
theorem lift_no {num : List Nat → Option Int} {k : Nat} {s : PS} (hk : 1 ≤ k) (b1 : headIs 8 [47] s = false) (b2 : headIs 8 [47, 47] s = false) (b3 : begStep s = false) (b4 : headIs 8 [45] s = false) (h : primP num k s = .fail) : exprP num (k + 12) 0 s = .fail := by
  obtain ⟨j, rfl⟩ : ∃ j, k = j + 1 := ⟨k - 1, by omega⟩
  have hf : filtP num (j + 2) s = .fail := by rw [filtP, h, PR.bind_fail]
  have hp : pathP num (j + 3) s = .fail := by rw [pathP, b1, b2, b3, if_neg (by decide), if_neg (by decide), if_neg (by decide), hf, PR.bind_fail]
  have h8 : exprP num (j + 4) 8 s = .fail := by rw [exprP, if_neg (by decide), if_pos rfl, hp]
  have h7 : exprP num (j + 5) 7 s = .fail := by rw [exprP, if_neg (by decide), if_neg (by decide), h8, PR.bind_fail]
  have hn : negP num (j + 6) s = .fail := by rw [negP, b4, if_neg (by decide), h7]
  have h6 : exprP num (j + 7) 6 s = .fail := by rw [exprP, if_pos rfl, hn]
  have hall : ∀ i, i ≤ 6 → exprP num (j + 7 + i) (6 - i) s = .fail := by
    intro i
    induction i with
    | zero => intro _; exact h6
    | succ i ih =>
      intro h1
      have := ih (by omega)
      rw [show j + 7 + (i + 1) = (j + 7 + i) + 1 by omega, exprP, if_neg (by omega), if_neg (by omega), show 6 - (i + 1) + 1 = 6 - i by omega, this, PR.bind_fail]
  have h0 := hall 6 (by omega)
  rwa [show j + 7 + 6 = j + 1 + 12 by omega] at h0
/-- The call fails where its first argument does, or is not followed by a , or a ). -/
theorem call_no {num : List Nat → Option Int} {k : Nat} {L : List (Nat × List Nat)} (h41 : headIs 9 [41] ⟨L, 0, 0⟩ = false) (h : exprP num k 0 ⟨L, 0, 0⟩ = .fail ∨ ∃ x s', exprP num k 0 ⟨L, 0, 0⟩ = .ok x s' ∧ headIs 9 [44] s' = false ∧ headIs 9 [41] s' = false) : exprP num (k + 15) 0 ⟨(4, [102]) :: (9, [40]) :: L, 0, 0⟩ = .fail := by
  have hg : argsGoP num (k + 1) [] ⟨L, 0, 0⟩ = .fail := by
    rw [argsGoP]
    rcases h with h | ⟨x, s', h, h1, h2⟩
    · rw [h, PR.bind_fail]
    · rw [h, PR.bind_ok, h1, h2]
      rfl
  have ha : argsP num (k + 2) ⟨(9, [40]) :: L, 0, 0⟩ = .fail := by
    rw [argsP, if_pos (show headIs 9 [40] ⟨(9, [40]) :: L, 0, 0⟩ = true from rfl)]
    show (if headIs 9 [41] ⟨L, 0, 0⟩ = true then _ else argsGoP num (k + 1) [] ⟨L, 0, 0⟩) = _
    rw [h41, if_neg (by decide), hg]
  have hp : primP num (k + 3) ⟨(4, [102]) :: (9, [40]) :: L, 0, 0⟩ = .fail := by
    rw [primP, if_neg (show ¬ headIs 9 [40] ⟨(4, [102]) :: (9, [40]) :: L, 0, 0⟩ = true from fun h => by cases h), if_neg (show ¬ seesK 1 ⟨(4, [102]) :: (9, [40]) :: L, 0, 0⟩ = true from fun h => by cases h), if_neg (show ¬ seesK 2 ⟨(4, [102]) :: (9, [40]) :: L, 0, 0⟩ = true from fun h => by cases h), if_neg (show ¬ seesK 7 ⟨(4, [102]) :: (9, [40]) :: L, 0, 0⟩ = true from fun h => by cases h), if_pos (show seesK 4 ⟨(4, [102]) :: (9, [40]) :: L, 0, 0⟩ = true from rfl)]
    show (argsP num (k + 2) ⟨(9, [40]) :: L, 0, 0⟩).bind _ = _
    rw [ha, PR.bind_fail]
  exact lift_no (k := k + 3) (by omega) rfl rfl rfl rfl hp
theorem tokA_no {m : List Nat} {pl : Bool} {t : Tok} {c : Nat} (h40 : 40 ∉ m) (hm : c ∉ m) (h : tokA m pl = some t) : t.kind = 9 → t.text ≠ [c] := by
  rcases tokA_cases h with ⟨_, rfl⟩ | ⟨q, x, _, _, rfl⟩ | ⟨x, _, rfl⟩ | ⟨k, _, hk, rfl⟩ | ⟨k, x, _, _, hk, rfl⟩
  · intro h; cases h
  · intro h; cases h
  · intro h; cases h
  · obtain ⟨h1, h2, h3⟩ := wordK_np (fun hd => h40 ((List.drop_suffix _ _).subset hd)) hk
    exact fun h => absurd h h3
  · obtain ⟨hm2, hp⟩ := signA_mem hk
    intro _ e
    exact hm (hp.subset (by rw [show x = [c] from e]; simp))
theorem scan_no (n : List Nat → Nat) (c : Nat) : ∀ f acc pre l ts, scanA n f acc pre l = .ok (acc ++ ts) → l.length < f → 40 ∉ l → c ∉ l → ∀ x ∈ ts, x.1.kind = 9 → x.1.text ≠ [c]
  | 0, _, _, l, _, _, hl => absurd hl (by omega)
  | f + 1, acc, pre, l, ts, h, hl => by
    intro h40 hc x hx
    rcases scan_step n f acc ts pre l h hl with ⟨he, rfl⟩ | ⟨t, ts1, r, ht, hf, hr, rfl, hlr, hs⟩
    · cases hx
    · have hd : ∀ d, d ∉ l → d ∉ l.dropWhile blankC := fun d hn hm => hn ((List.dropWhile_suffix _).subset hm)
      rcases List.mem_cons.1 hx with rfl | hx
      · exact tokA_no (hd _ h40) (hd _ hc) ht
      · exact scan_no n c f _ _ r ts1 hs hlr (fun hm => hd _ h40 (by rw [hr]; exact List.mem_append_right _ hm)) (fun hm => hd _ hc (by rw [hr]; exact List.mem_append_right _ hm)) x hx
theorem head_no {c : Nat} {l : List (Nat × List Nat)} {o d : Nat} (h : ∀ t ∈ l, t.1 = 9 → t.2 ≠ [c]) : headIs 9 [c] ⟨l, o, d⟩ = false := by
  cases l with
  | nil => rfl
  | cons x r =>
    show (x.1 == 9 && x.2 == [c]) = false
    rw [Bool.and_eq_false_iff]
    by_cases e : x.1 = 9
    · exact .inr (by simpa using h x (by simp) e)
    · exact .inl (by simpa using e)
/-- If a call is right, so are its Kids. -/
theorem okJ_kid {x : Ex} {j : Nat} (h : okJ (.mk 19 [102] 0 0 0 (List.replicate (j + 1) x)) = true) : okJ x = true := by
  obtain ⟨c, hc⟩ := okJ_true h
  have h21 : ¬ (Ex.mk 19 [102] 0 0 0 (List.replicate (j + 1) x)).op = 21 := show ¬ ((19 : Nat) = 21) by decide
  have hkn : kidsN (Ex.mk 19 [102] 0 0 0 (List.replicate (j + 1) x)) = true := rfl
  generalize wt (.mk 19 [102] 0 0 0 (List.replicate (j + 1) x)) = n at hc
  match n, hc with
  | 0, hc => simp [jRight] at hc
  | 1, hc => simp [jRight, jPart, selfX, Ex.op] at hc
  | 2, hc =>
    rw [jRight, if_pos (show selfX (Ex.mk 19 [102] 0 0 0 (List.replicate (j + 1) x)) = true from rfl), jPart] at hc
    split at hc
    · simp [jKids] at hc
    · cases hc
  | 3, hc =>
    rw [jRight, if_pos (show selfX (Ex.mk 19 [102] 0 0 0 (List.replicate (j + 1) x)) = true from rfl), jPart] at hc
    split at hc
    · rw [jKids, if_neg h21, if_pos hkn] at hc
      simp [jAll] at hc
    · cases hc
  | n + 4, hc =>
    rw [jRight, if_pos (show selfX (Ex.mk 19 [102] 0 0 0 (List.replicate (j + 1) x)) = true from rfl), jPart] at hc
    split at hc
    · rw [jKids, if_neg h21, if_pos hkn] at hc
      rw [show (Ex.mk 19 [102] 0 0 0 (List.replicate (j + 1) x)).kids = x :: List.replicate j x from rfl, jAll] at hc
      obtain ⟨c1, h1, _⟩ := JR.then_some hc
      obtain ⟨k, h2, _⟩ := (j_less flX n).2.2.1 _ _ _ _ 0 0 (by omega) (by omega) h1
      obtain ⟨b, c2, h3⟩ := jright_ends flX x
      have q1 := (j_fuel flX n).2.2.1 _ _ _ _ (n + wt x) (by omega) h2
      have q2 := (j_fuel flX (wt x)).2.2.1 _ _ _ _ (n + wt x) (by omega) h3
      rw [q1] at q2
      unfold okJ
      rw [h3]
      cases q2
      rfl
    · cases hc
/-- The call's text: one argument and j more. -/
def callC (cs : List Nat) (j : Nat) : List Nat := 102 :: 40 :: 32 :: (cs ++ tailC cs j)
theorem tail_map (ts : List Tok) (j : Nat) : (tailT ts j).map (fun t => (t.kind, t.text)) = tlL (ts.map fun t => (t.kind, t.text)) j := by
  induction j with
  | zero => rfl
  | succ j ih =>
    rw [tailT, tlL, List.map_cons, List.map_append, ih]
theorem call_toks {cs : List Nat} {ts : List (Tok × Nat)} (h : scanOf cs = .ok ts) (j : Nat) : saysT (callC cs j) = saysP ((4, [102]) :: (9, [40]) :: ((ts.map fun t => (t.1.kind, t.1.text)) ++ tlL (ts.map fun t => (t.1.kind, t.1.text)) j)) := by
  obtain ⟨res, h1, h2⟩ := scan_call h j
  unfold saysT callC
  rw [h1]
  show saysP (res.map fun t => (t.1.kind, t.1.text)) = _
  have e1 : ∀ l : List (Tok × Nat), l.map (fun t => (t.1.kind, t.1.text)) = (l.map (·.1)).map (fun t => (t.kind, t.text)) := fun l => by rw [List.map_map]; rfl
  rw [e1 res, h2, e1 ts, List.map_cons, List.map_cons, List.map_append, tail_map]
theorem tail_len (A : List (Nat × List Nat)) (j : Nat) : (tlL A j).length = j * (A.length + 1) + 1 := by
  induction j with
  | zero => simp [tlL]
  | succ j ih =>
    rw [tlL, List.length_cons, List.length_append, ih, Nat.add_mul]
    omega
/-- The call of an expression. -/
theorem says_call {cs : List Nat} {x : Ex} (h : saysT cs = .ok x) (j : Nat) : saysT (callC cs j) = .ok (.mk 19 [102] 0 0 0 (List.replicate (j + 1) x)) ∨ saysT (callC cs j) = .error 6 := by
  obtain ⟨ts, d, hs, hp, _, _⟩ := says_inv h
  rw [call_toks hs]
  refine says_of (expr_call hp j) ?_
  have hj : j ≤ j * ((ts.map fun t => (t.1.kind, t.1.text)).length + 1) := Nat.le_mul_of_pos_right j (by omega)
  simp only [List.length_cons, List.length_append, tail_len]
  omega
theorem says_fail {L : List (Nat × List Nat)} (h : exprP numP (30 * L.length + 26) 0 ⟨L, 0, 0⟩ = .fail) : saysP L = .error 9 := by
  unfold saysP
  rw [h]
/-- The first scan of the call's text. -/
theorem scan_beg (cs R : List Nat) : ∃ F acc' pre', (cs ++ R).length < F ∧ plOf acc' = false ∧ scanOf (102 :: 40 :: 32 :: (cs ++ R)) = scanA (fun l => (tx l).length) F acc' pre' (cs ++ R) := by
  unfold scanOf
  obtain ⟨m1, hm1⟩ : ∃ m1, (fun l => (tx l).length) = m1 := ⟨_, rfl⟩
  rw [hm1]
  obtain ⟨F, hF⟩ : ∃ F, (102 :: 40 :: 32 :: (cs ++ R)).length + 1 = F + 1 + 1 + 1 + 1 := ⟨(cs ++ R).length, rfl⟩
  have hFl : (cs ++ R).length = F := by simp at hF ⊢; omega
  rw [hF, scanA]
  have hd : (102 :: 40 :: 32 :: (cs ++ R)).dropWhile blankC = 102 :: 40 :: 32 :: (cs ++ R) := List.dropWhile_cons_of_neg (by decide)
  have ht : (102 :: 40 :: 32 :: (cs ++ R)).takeWhile blankC = [] := List.takeWhile_cons_of_neg (by decide)
  rw [hd, ht, show plOf [] = false from rfl, tok_f]
  show ∃ F' acc' pre', _ ∧ _ ∧ scanA m1 (F + 1 + 1 + 1) ([] ++ [(⟨4, [102], [102]⟩, m1 ([] ++ []))]) ([] ++ [] ++ [102]) (40 :: 32 :: (cs ++ R)) = _
  rw [scan_sign0 m1 (.inl rfl), if40, scan_blank]
  exact ⟨F + 1 + 1, _, _, by omega, plOf_open _ _, rfl⟩
/-- The call of what is no expression is none, or has no Kids. -/
theorem says_uncall {cs : List Nat} {f : Int} (h : saysT cs = .error f) (h34 : 34 ∉ cs) (h39 : 39 ∉ cs) (h40 : 40 ∉ cs) (h41 : 41 ∉ cs) (h44 : 44 ∉ cs) (j : Nat) (hj : j ≤ 2) : (∃ k, saysT (callC cs j) = .error k) ∨ saysT (callC cs j) = .ok (.mk 19 [102] 0 0 0 []) := by
  cases hs : scanOf cs with
  | error p =>
    refine .inl ⟨9, ?_⟩
    obtain ⟨F, acc', pre', hF, hpl, he⟩ := scan_beg cs (tailC cs j)
    have hs2 : scanA (fun l => (tx l).length) (cs.length + 1) [] [] cs = .error p := hs
    obtain ⟨p', hp'⟩ := scan_err _ (fun l => (tx l).length) _ _ _ _ _ hs2 (by omega) h34 h39 acc' pre' F (tailC cs j) (tailC_ends cs j) (by rw [hpl]; rfl) hF
    unfold saysT callC
    rw [he, hp']
  | ok ts =>
    rw [call_toks hs]
    have hnp := noP_scan hs h40 0 0
    have hk41 : ∀ t ∈ (ts.map fun t => (t.1.kind, t.1.text)), t.1 = 9 → t.2 ≠ [41] := fun t ht => by
      obtain ⟨x, hx, rfl⟩ := List.mem_map.1 ht
      exact scan_no _ 41 _ [] [] cs ts hs (by omega) h40 h41 x hx
    have hk44 : ∀ t ∈ (ts.map fun t => (t.1.kind, t.1.text)), t.1 = 9 → t.2 ≠ [44] := fun t ht => by
      obtain ⟨x, hx, rfl⟩ := List.mem_map.1 ht
      exact scan_no _ 44 _ [] [] cs ts hs (by omega) h40 h44 x hx
    have h2 : saysP (ts.map fun t => (t.1.kind, t.1.text)) = .error f := by
      unfold saysT at h
      rw [hs] at h
      exact h
    generalize (ts.map fun t => (t.1.kind, t.1.text)) = A at *
    by_cases hA : A = []
    · subst hA
      rcases (show j = 0 ∨ j = 1 ∨ j = 2 by omega) with rfl | rfl | rfl
      · exact .inr (by kernel_rfl)
      · exact .inl ⟨9, by kernel_rfl⟩
      · exact .inl ⟨9, by kernel_rfl⟩
    · have hlen : (A ++ tlL A j).length = A.length + (j * (A.length + 1) + 1) := by rw [List.length_append, tail_len]
      have h41' : headIs 9 [41] ⟨A ++ tlL A j, 0, 0⟩ = false := by
        have h1 : headIs 9 [41] (sh (tlL A j) 0 0 ⟨A, 0, 0⟩) = headIs 9 [41] ⟨A, 0, 0⟩ := head_shn hA
        exact h1.trans (head_no hk41)
      have hK : 30 * ((4, [102]) :: (9, [40]) :: (A ++ tlL A j)).length + 26 = (30 * (A ++ tlL A j).length + 71) + 15 := by
        simp only [List.length_cons]
        omega
      have hsh : sh (tlL A j) 0 0 ⟨A, 0, 0⟩ = ⟨A ++ tlL A j, 0, 0⟩ := rfl
      have hcl := tlL_clo A j
      have hq : ∀ r, exprP numP (30 * A.length + 26) 0 ⟨A, 0, 0⟩ = r → (exprP numP (30 * (A ++ tlL A j).length + 71) 0 ⟨A ++ tlL A j, 0, 0⟩ = .fail ∨ ∃ x s', exprP numP (30 * (A ++ tlL A j).length + 71) 0 ⟨A ++ tlL A j, 0, 0⟩ = .ok x s' ∧ headIs 9 [44] s' = false ∧ headIs 9 [41] s' = false) ∨ (∃ x d, r = .ok x ⟨[], 0, d⟩) := by
        intro r hr
        cases r with
        | out => exact absurd hr ((live_all numP (30 * A.length + 26)).1 0 ⟨A, 0, 0⟩ (by omega) (by show 30 * A.length + _ ≤ _; omega))
        | fail => exact .inl (.inl ((fail_all numP (tlL A j) hcl 0 0 _).1 0 ⟨A, 0, 0⟩ _ (by rw [hlen]; omega) hnp hr))
        | ok x s' =>
          by_cases hl : s'.left = []
          · refine .inr ⟨x, s'.dp, ?_⟩
            have ho := ((pres_all numP _).1 _ _ _ _ hr).1
            obtain ⟨l, o, d⟩ := s'
            simp only at hl ho
            subst hl ho
            rfl
          · have h3 := (frame_all numP (tlL A j) hcl 0 0 _).1 0 _ _ _ (30 * (A ++ tlL A j).length + 71) (by rw [hlen]; omega) hr
            have hsf := (suf_all numP _).1 _ _ _ _ hr
            refine .inl (.inr ⟨x, _, h3, ?_, ?_⟩)
            · rw [head_shn hl]
              exact head_no (l := s'.left) (o := s'.opn) (d := s'.dp) fun t ht => hk44 t (hsf.subset ht)
            · rw [head_shn hl]
              exact head_no (l := s'.left) (o := s'.opn) (d := s'.dp) fun t ht => hk41 t (hsf.subset ht)
      rcases hq _ rfl with hx | ⟨x, d, hx⟩
      · refine .inl ⟨9, says_fail ?_⟩
        rw [hK]
        exact call_no h41' hx
      · have hc := expr_call hx j
        have hc2 := expr_mono (m := 30 * ((4, [102]) :: (9, [40]) :: (A ++ tlL A j)).length + 26) (by rw [hK, hlen]; have : j ≤ j * (A.length + 1) := Nat.le_mul_of_pos_right j (by omega); omega) hc
        have e : saysP ((4, [102]) :: (9, [40]) :: (A ++ tlL A j)) = (if d ≤ 32 ∧ okJ (.mk 19 [102] 0 0 0 (List.replicate (j + 1) x)) = true then Except.ok (.mk 19 [102] 0 0 0 (List.replicate (j + 1) x)) else .error 6) := by
          unfold saysP
          rw [hc2]
          rfl
        have e2 : saysP A = (if d ≤ 32 ∧ okJ x = true then Except.ok x else .error 6) := by
          unfold saysP
          rw [hx]
          rfl
        rw [e]
        by_cases hd : d ≤ 32 ∧ okJ (.mk 19 [102] 0 0 0 (List.replicate (j + 1) x)) = true
        · exfalso
          rw [e2, if_pos ⟨hd.1, okJ_kid hd.2⟩] at h2
          cases h2
        · rw [if_neg hd]
          exact .inl ⟨6, rfl⟩
end Go.Proofs.YthkkfldmoflfaaaGreatDoor
