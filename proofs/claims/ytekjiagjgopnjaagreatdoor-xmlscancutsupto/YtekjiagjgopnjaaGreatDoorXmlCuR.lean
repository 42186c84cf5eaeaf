/- A document that is cut short ahead of its element's end is none: in plain terms. -/
import Derived.Test.YtekjiagjgopnjaaGreatDoorXmlCuQ
namespace Go.Proofs.YtekjiagjgopnjaaGreatDoor
def EndsE (ts : List XTok) : Prop := ∀ t, ts.getLast? = some t → t.kind = 7
theorem EndsE.tail {t : XTok} {ts : List XTok} (h : EndsE (t :: ts)) : EndsE ts := fun x hx => h x (by
  cases ts with
  | nil => cases hx
  | cons y ys => rw [List.getLast?_cons_cons]; exact hx)
theorem none_after : ∀ {ts : List XTok} {k : Nat}, DocT [] true k ts → EndsE ts → ts = []
  | [], _, _, _ => rfl
  | t :: ts, k, h, he => by
    exfalso
    cases h with
    | elem m a _ _ _ _ h hr ho' ha hn => exact absurd (hr rfl) (by decide)
    | fin m _ _ _ _ h ho' hn => cases ho'
    | text l _ _ _ _ h ho' hk hn => exact absurd rfl ho'
    | comment l _ _ _ _ h hn =>
      have h0 := none_after hn he.tail
      subst h0
      have h5 : (5 : Nat) = 7 := he _ rfl
      omega
    | pi m l _ _ _ _ h hn =>
      have h0 := none_after hn he.tail
      subst h0
      have h5 : (6 : Nat) = 7 := he _ rfl
      omega
theorem one_bad {f : Nat} {s : RS} (ho : s.opn ≠ []) (h : Is5 s.contentOne) : Is5 (RS.content (f + 1) s) := by
  obtain ⟨pl, h1⟩ := h
  rw [RS.content, if_neg ho, h1]
  exact ⟨_, rfl⟩
theorem one_nil {s : RS} (h : s.rest = []) : Is5 s.contentOne := by
  unfold RS.contentOne RS.sees
  rw [h]
  exact ⟨_, rfl⟩
/-- A token's beginning without any > in it. -/
theorem one_short (P p : List Nat) (o : List (List Nat)) (toks : List XTok) (ru : List Nat) (n : Nat) (z A : List Nat) (h : p ++ z = 60 :: A) (h62 : 62 ∉ p) : Is5 (⟨P, p, [], 0, o, toks, ru, n⟩ : RS).contentOne := by
  cases p with
  | nil => exact one_nil rfl
  | cons c p =>
    obtain rfl : c = 60 := by
      rw [List.cons_append] at h
      exact (List.cons.inj h).1
    exact one_no62 (t := p) rfl rfl h62
theorem in_pre {p z A : List Nat} (h : p ++ z = A) {c : Nat} (hc : c ∉ A) : c ∉ p := fun hm => hc (by rw [← h]; exact List.mem_append_left _ hm)
theorem pi_no62 : (62 : Nat) ∉ [60, 63] := by decide
theorem com_no62 : (62 : Nat) ∉ [60, 33, 45, 45] := by decide
theorem inner_cut : ∀ (ts : List XTok) (o : List (List Nat)) (k : Nat) (P : List Nat) (toks : List XTok) (ru : List Nat) (n : Nat) (p z : List Nat) (f : Nat), o ≠ [] → DocT o true k ts → EndsE ts → (ru ≠ [] → k = 4) → (flushT toks ru).length + ts.length ≤ 4096 → z ≠ [] → p ++ z = writeX ts → p.length < f →
    Is5 (RS.content f ⟨P, p, [], 0, o, toks, ru, n⟩)
  | [], o, k, P, toks, ru, n, p, z, f, _, _, _, _, _, hz, hp, _ => by
    exact absurd (List.append_eq_nil_iff.1 hp).2 hz
  | t :: ts, o, k, P, toks, ru, n, p, z, f, ho, h, hE, hru, hl, hz, hp, hf => by
    obtain ⟨g, rfl⟩ : ∃ g, f = g + 1 := ⟨f - 1, by omega⟩
    rw [List.length_cons] at hl
    rw [writeX_cons] at hp
    have hE' := hE.tail
    cases h with
    | elem m a _ _ _ _ h hr ho' ha hn =>
      cases h with | elem _ _ hq hqa hnd =>
      obtain ⟨c, u, hcu, hbeg⟩ := isQ_beg hq
      obtain ⟨_, hc1, _, hc2, hc3⟩ := beg_not hbeg
      rcases split_pre hp with ⟨p', rfl, hp'⟩ | ⟨z', hz', hp'⟩
      · obtain ⟨P1, n1, h1⟩ := start_back P p' [] 0 o toks ru n m a hq hqa hnd ho' ha (by omega)
        have hone : (⟨P, tokL ⟨2, m, a, []⟩ ++ p', [], 0, o, toks, ru, n⟩ : RS).contentOne = .ok ⟨P1, p', [], 0, o ++ [m], flushT toks ru ++ [⟨2, m, a, []⟩], [], n1⟩ := by
          show (⟨P, 60 :: (m ++ (a.flatMap attrL ++ [62])) ++ p', [], 0, o, toks, ru, n⟩ : RS).contentOne = _
          rw [one_start (c := c) (t := u ++ (a.flatMap attrL ++ [62]) ++ p') (by rw [hcu]; simp) hc1 hc2 hc3]
          exact h1
        rw [content_step ho hone]
        refine inner_cut ts (o ++ [m]) 2 P1 (flushT toks ru ++ [⟨2, m, a, []⟩]) [] n1 p' z g (by simp) hn hE' (fun h => absurd rfl h) (by rw [flushT_nil, List.length_append]; simp; omega) hz hp' ?_
        have : 1 ≤ (tokL ⟨2, m, a, []⟩).length := by simp [tokL]
        rw [List.length_append] at hf
        omega
      · refine one_bad ho ?_
        have hp2 : p ++ z' = 60 :: (m ++ (a.flatMap attrL ++ [62])) := hp'
        cases p with
        | nil => exact one_nil rfl
        | cons d p =>
          rw [List.cons_append] at hp2
          obtain ⟨rfl, hp3⟩ := List.cons.inj hp2
          cases p with
          | nil => exact one_no62 (t := []) rfl rfl (show (62 : Nat) ∉ [60] by decide)
          | cons d2 p =>
            have hd2 : d2 = c := by
              rw [hcu] at hp3
              exact (List.cons.inj hp3).1
            rw [one_start (c := d2) (t := p) rfl (by rw [hd2]; exact hc1) (by rw [hd2]; exact hc2) (by rw [hd2]; exact hc3)]
            exact start_cut P (d2 :: p) z' 0 o toks ru n m a hq hqa hnd hz' hp3
    | fin m _ _ _ _ h ho' hn =>
      cases h with | fin _ hq =>
      rcases split_pre hp with ⟨p', rfl, hp'⟩ | ⟨z', hz', hp'⟩
      · obtain ⟨P1, n1, h1⟩ := end_back P p' [] 0 o toks ru n m hq ho' (by omega)
        have hone : (⟨P, tokL ⟨7, m, [], []⟩ ++ p', [], 0, o, toks, ru, n⟩ : RS).contentOne = .ok ⟨P1, p', [], 0, o.dropLast, flushT toks ru ++ [⟨7, m, [], []⟩], [], n1⟩ := by
          show (⟨P, 60 :: 47 :: (m ++ [62]) ++ p', [], 0, o, toks, ru, n⟩ : RS).contentOne = _
          rw [one_end (t := m ++ [62] ++ p') rfl]
          exact h1
        by_cases hd : o.dropLast = []
        · exfalso
          rw [hd] at hn
          have h0 := none_after hn hE'
          subst h0
          exact hz (List.append_eq_nil_iff.1 hp').2
        · rw [content_step ho hone]
          refine inner_cut ts o.dropLast 7 P1 (flushT toks ru ++ [⟨7, m, [], []⟩]) [] n1 p' z g hd hn hE' (fun h => absurd rfl h) (by rw [flushT_nil, List.length_append]; simp; omega) hz hp' ?_
          have : 1 ≤ (tokL ⟨7, m, [], []⟩).length := by simp [tokL]
          rw [List.length_append] at hf
          omega
      · refine one_bad ho ?_
        have hp2 : p ++ z' = (60 :: 47 :: m) ++ [62] := hp'
        refine one_short P p o toks ru n z' _ hp2 (fun hm => ?_)
        have h1 := (pre_snoc hp2 hz').subset hm
        rcases List.mem_cons.1 h1 with h1 | h1
        · cases h1
        · rcases List.mem_cons.1 h1 with h1 | h1
          · cases h1
          · exact isQ_no hq 62 (by decide) (by decide) h1
    | text l _ _ _ _ h ho' hk hn =>
      cases h with | text _ hne =>
      have hr0 : ru = [] := by
        by_cases hr : ru = []
        · exact hr
        · exact absurd (hru hr) hk
      subst hr0
      rw [flushT_nil] at hl
      have hplain : ∀ q, (∀ c ∈ q, c ∈ mapN escN l) → q.length < g + 1 → Is5 (RS.content (g + 1) ⟨P, q, [], 0, o, toks, [], n⟩) := fun q hq hq' =>
        plain_cut (g + 1) _ hq' rfl ho (show toks.length < 4096 by omega) (fun c hc => ⟨fun e => esc_not 60 (.inl rfl) l (by rw [← e]; exact hq c hc), fun e => esc_not 62 (.inr rfl) l (by rw [← e]; exact hq c hc)⟩)
      rcases split_pre hp with ⟨p', rfl, hp'⟩ | ⟨z', hz', hp'⟩
      · cases p' with
        | nil => exact hplain _ (fun c hc => by rw [List.append_nil] at hc; exact hc) hf
        | cons d p' =>
          obtain ⟨R, hR⟩ := tok_head hn ho
          obtain rfl : d = 60 := by
            rw [hR, List.cons_append] at hp'
            exact (List.cons.inj hp').1
          obtain ⟨j, P1, hj, h1⟩ := content_escaped p' [] 0 o toks n ho (by omega) l.length l rfl P []
          rw [List.nil_append] at h1
          have hf' : (mapN escN l).length + (60 :: p').length < g + 1 := by
            have : (tokL ⟨4, [], [], l⟩ ++ 60 :: p').length = (mapN escN l).length + (60 :: p').length := by rw [List.length_append]; rfl
            omega
          have hfe : g + 1 = (g + 1 - j) + j := by omega
          show Is5 (RS.content (g + 1) ⟨P, mapN escN l ++ 60 :: p', [], 0, o, toks, [], n⟩)
          rw [hfe, h1]
          exact inner_cut ts o 4 P1 toks l n (60 :: p') z (g + 1 - j) ho hn hE' (fun _ => rfl) (by rw [flushT_run _ hne, List.length_append]; simp; omega) hz hp' (by omega)
      · exact hplain _ (fun c hc => by
          have : mapN escN l = p ++ z' := hp'.symm
          rw [this]
          exact List.mem_append_left _ hc) hf
    | comment l _ _ _ _ h hn =>
      cases h with | comment _ h1 h2 =>
      rcases split_pre hp with ⟨p', rfl, hp'⟩ | ⟨z', hz', hp'⟩
      · obtain ⟨P1, n1, h3⟩ := comment_back P p' [] 0 o toks ru n l h1 h2 (by omega)
        have hone : (⟨P, tokL ⟨5, [], [], l⟩ ++ p', [], 0, o, toks, ru, n⟩ : RS).contentOne = .ok ⟨P1, p', [], 0, o, flushT toks ru ++ [⟨5, [], [], l⟩], [], n1⟩ := by
          show (⟨P, 60 :: 33 :: 45 :: 45 :: (l ++ [45, 45, 62]) ++ p', [], 0, o, toks, ru, n⟩ : RS).contentOne = _
          rw [one_comment (t := l ++ [45, 45, 62] ++ p') rfl]
          exact h3
        rw [content_step ho hone]
        refine inner_cut ts o 5 P1 (flushT toks ru ++ [⟨5, [], [], l⟩]) [] n1 p' z g ho hn hE' (fun h => absurd rfl h) (by rw [flushT_nil, List.length_append]; simp; omega) hz hp' ?_
        have : 1 ≤ (tokL ⟨5, [], [], l⟩).length := by simp [tokL]
        rw [List.length_append] at hf
        omega
      · refine one_bad ho ?_
        have hp2 : p ++ z' = [60, 33, 45, 45] ++ (l ++ [45, 45, 62]) := hp'
        rcases split_pre hp2 with ⟨q, rfl, hq⟩ | ⟨z2, _, hq⟩
        · rw [one_comment (t := q) rfl]
          exact comment_none (comment_cut P q [] 0 o toks ru n l z' h1 h2 hz' hq)
        · exact one_short P p o toks ru n z2 _ hq (in_pre hq com_no62)
    | pi m l _ _ _ _ h hn =>
      cases h with | pi _ _ h1 h2 h3 =>
      rcases split_pre hp with ⟨p', rfl, hp'⟩ | ⟨z', hz', hp'⟩
      · obtain ⟨P1, n1, h4⟩ := pi_back P p' [] 0 o toks ru n m l h1 h2 h3 (by omega)
        have hone : (⟨P, tokL ⟨6, m, [], l⟩ ++ p', [], 0, o, toks, ru, n⟩ : RS).contentOne = .ok ⟨P1, p', [], 0, o, flushT toks ru ++ [⟨6, m, [], l⟩], [], n1⟩ := by
          show (⟨P, 60 :: 63 :: (m ++ ((if l = [] then [] else 32 :: l) ++ [63, 62])) ++ p', [], 0, o, toks, ru, n⟩ : RS).contentOne = _
          rw [one_pi (t := m ++ ((if l = [] then [] else 32 :: l) ++ [63, 62]) ++ p') rfl]
          exact h4
        rw [content_step ho hone]
        refine inner_cut ts o 6 P1 (flushT toks ru ++ [⟨6, m, [], l⟩]) [] n1 p' z g ho hn hE' (fun h => absurd rfl h) (by rw [flushT_nil, List.length_append]; simp; omega) hz hp' ?_
        have : 1 ≤ (tokL ⟨6, m, [], l⟩).length := by simp [tokL]
        rw [List.length_append] at hf
        omega
      · refine one_bad ho ?_
        have hp2 : p ++ z' = [60, 63] ++ (m ++ ((if l = [] then [] else 32 :: l) ++ [63, 62])) := hp'
        rcases split_pre hp2 with ⟨q, rfl, hq⟩ | ⟨z2, _, hq⟩
        · rw [one_pi (t := q) rfl]
          exact instr_none (instr_cut rfl (pi_body h1 h2 hz' hq))
        · exact one_short P p o toks ru n z2 _ hq (in_pre hq pi_no62)
/-- At the top. -/
theorem more_bad {f : Nat} {typed rooted : Bool} {o : Except Er RS} (h : Is5 o) : Is5 (docMore f typed rooted o) := by
  obtain ⟨pl, rfl⟩ := h
  exact ⟨_, rfl⟩
theorem doc_short (f : Nat) (P p : List Nat) (toks : List XTok) (n : Nat) (z A : List Nat) (h : p ++ z = 60 :: A) (h62 : 62 ∉ p) (hD : [60, 33, 68, 79, 67, 84, 89, 80, 69].isPrefixOf p = false) : Is5 (RS.docGo (f + 1) false false ⟨P, p, [], 0, [], toks, [], n⟩) := by
  cases p with
  | nil =>
    rw [docGo_eq, (blanks_no P [] [] 0 [] toks [] n (fun c hc => by cases hc)).1]
    exact ⟨_, rfl⟩
  | cons c p =>
    obtain rfl : c = 60 := by
      rw [List.cons_append] at h
      exact (List.cons.inj h).1
    rw [docGo_eq, (blanks_no P (60 :: p) [] 0 [] toks [] n (fun c hc => by cases hc; rfl)).1]
    split
    · exact more_bad (comment_none (comment_no62 h62))
    · split
      · exact more_bad (instr_none (instr_no62 h62))
      · rw [show (⟨P, 60 :: p, [], 0, [], toks, [], n⟩ : RS).sees [60, 33, 68, 79, 67, 84, 89, 80, 69] = false from hD, if_neg (by decide)]
        split
        · refine more_bad ?_
          obtain ⟨pl, h1⟩ := start_no62 (s := (⟨P, 60 :: p, [], 0, [], toks, [], n⟩ : RS)) rfl h62
          unfold docElem
          rw [h1]
          exact ⟨_, rfl⟩
        · rename_i h1
          exact absurd (by simp [RS.sees, List.isPrefixOf]) h1
theorem sub_pre {p z A B : List Nat} (h : p ++ z = A) (hA : B.isPrefixOf A = false) : B.isPrefixOf p = false := by
  cases hh : B.isPrefixOf p
  · rfl
  · rw [← hA]
    exact (List.isPrefixOf_iff_prefix.2 ((List.isPrefixOf_iff_prefix.1 hh).trans ⟨z, h⟩)).symm
theorem before_cut : ∀ (ts : List XTok) (k : Nat) (P : List Nat) (toks : List XTok) (n : Nat) (p z : List Nat) (f : Nat), DocT [] false k ts → EndsE ts → toks.length + ts.length ≤ 4096 → z ≠ [] → p ++ z = writeX ts → p.length < f →
    Is5 (RS.docGo f false false ⟨P, p, [], 0, [], toks, [], n⟩)
  | [], k, P, toks, n, p, z, f, h, _, _, _, _, _ => by cases h
  | t :: ts, k, P, toks, n, p, z, f, h, hE, hl, hz, hp, hf => by
    obtain ⟨g, rfl⟩ : ∃ g, f = g + 1 := ⟨f - 1, by omega⟩
    rw [List.length_cons] at hl
    rw [writeX_cons] at hp
    have hE' := hE.tail
    cases h with
    | elem m a _ _ _ _ h hr ho' ha hn =>
      cases h with | elem _ _ hq hqa hnd =>
      obtain ⟨c, u, hcu, hbeg⟩ := isQ_beg hq
      obtain ⟨_, hc1, _, hc2, hc3⟩ := beg_not hbeg
      have step : ∀ R, Is5 (docElem ⟨P, 60 :: c :: R, [], 0, [], toks, [], n⟩) → Is5 (RS.docGo (g + 1) false false ⟨P, 60 :: c :: R, [], 0, [], toks, [], n⟩) := fun R hR => by
        have hsee : ∀ y x, y ≠ c → (⟨P, 60 :: c :: R, [], 0, [], toks, [], n⟩ : RS).sees (60 :: y :: x) = false := fun y x hy => by
          simp [RS.sees, List.isPrefixOf, hy]
        have s4 : (⟨P, 60 :: c :: R, [], 0, [], toks, [], n⟩ : RS).sees [60] = true := by simp [RS.sees, List.isPrefixOf]
        rw [docGo_eq, (blanks_no P (60 :: c :: R) [] 0 [] toks [] n (fun c hc => by cases hc; rfl)).1, hsee 33 _ (Ne.symm hc2), hsee 63 _ (Ne.symm hc3), hsee 33 _ (Ne.symm hc2), s4, if_neg (by decide), if_neg (by decide), if_neg (by decide), if_pos (by decide)]
        exact more_bad hR
      rcases split_pre hp with ⟨p', rfl, hp'⟩ | ⟨z', hz', hp'⟩
      · obtain ⟨P1, n1, h1⟩ := start_back P p' [] 0 [] toks [] n m a hq hqa hnd ho' ha (by rw [flushT_nil]; omega)
        rw [flushT_nil] at h1
        show Is5 (RS.docGo (g + 1) false false ⟨P, 60 :: (m ++ (a.flatMap attrL ++ [62])) ++ p', [], 0, [], toks, [], n⟩)
        have e0 : 60 :: (m ++ (a.flatMap attrL ++ [62])) ++ p' = 60 :: c :: (u ++ (a.flatMap attrL ++ [62]) ++ p') := by
          rw [hcu]
          simp
        rw [e0] at h1 ⊢
        refine step _ ?_
        unfold docElem
        rw [h1]
        have hic := inner_cut ts ([] ++ [m]) 2 P1 (toks ++ [⟨2, m, a, []⟩]) [] n1 p' z (p'.length + 1) (by simp) hn hE' (fun h => absurd rfl h) (by rw [flushT_nil, List.length_append, List.length_singleton]; omega) hz hp' (Nat.lt_succ_self _)
        exact hic
      · have hp2 : p ++ z' = 60 :: (m ++ (a.flatMap attrL ++ [62])) := hp'
        cases p with
        | nil => exact doc_short g P [] toks n _ _ hp2 (fun h => by cases h) rfl
        | cons d p =>
          cases p with
          | nil =>
            refine doc_short g P [d] toks n _ _ hp2 ?_ (by simp [List.isPrefixOf])
            rw [List.cons_append] at hp2
            rw [(List.cons.inj hp2).1]
            decide
          | cons d2 p =>
            rw [List.cons_append] at hp2
            obtain ⟨rfl, hp3⟩ := List.cons.inj hp2
            have hd2 : d2 = c := by
              rw [hcu] at hp3
              exact (List.cons.inj hp3).1
            obtain ⟨pl, h5⟩ := start_cut P (d2 :: p) z' 0 [] toks [] n m a hq hqa hnd hz' hp3
            subst hd2
            refine step p ?_
            unfold docElem
            rw [h5]
            exact ⟨_, rfl⟩
    | fin m _ _ _ _ h ho' hn => cases ho'
    | text l _ _ _ _ h ho' hk hn => exact absurd rfl ho'
    | comment l _ _ _ _ h hn =>
      cases h with | comment _ h1 h2 =>
      rcases split_pre hp with ⟨p', rfl, hp'⟩ | ⟨z', hz', hp'⟩
      · obtain ⟨P1, n1, h3, _⟩ := top_comment g false false P p' toks n l h1 h2 (by omega)
        rw [h3]
        refine before_cut ts 5 P1 (toks ++ [⟨5, [], [], l⟩]) n1 p' z g hn hE' (by rw [List.length_append]; simp; omega) hz hp' ?_
        have : 1 ≤ (tokL ⟨5, [], [], l⟩).length := by simp [tokL]
        rw [List.length_append] at hf
        omega
      · have hp2 : p ++ z' = [60, 33, 45, 45] ++ (l ++ [45, 45, 62]) := hp'
        rcases split_pre hp2 with ⟨q, rfl, hq⟩ | ⟨z2, _, hq⟩
        · have h3 := comment_none (comment_cut P q [] 0 [] toks [] n l z' h1 h2 hz' hq)
          rw [docGo_eq, (blanks_no P ([60, 33, 45, 45] ++ q) [] 0 [] toks [] n (fun c hc => by cases hc; rfl)).1, if_pos (by simp [RS.sees, List.isPrefixOf])]
          exact more_bad h3
        · exact doc_short g P p toks n z2 _ hq (in_pre hq com_no62) (sub_pre hq (by decide))
    | pi m l _ _ _ _ h hn =>
      cases h with | pi _ _ h1 h2 h3 =>
      rcases split_pre hp with ⟨p', rfl, hp'⟩ | ⟨z', hz', hp'⟩
      · obtain ⟨P1, n1, h4, _⟩ := top_pi g false false P p' toks n m l h1 h2 h3 (by omega)
        rw [h4]
        refine before_cut ts 6 P1 (toks ++ [⟨6, m, [], l⟩]) n1 p' z g hn hE' (by rw [List.length_append]; simp; omega) hz hp' ?_
        have : 1 ≤ (tokL ⟨6, m, [], l⟩).length := by simp [tokL]
        rw [List.length_append] at hf
        omega
      · have hp2 : p ++ z' = [60, 63] ++ (m ++ ((if l = [] then [] else 32 :: l) ++ [63, 62])) := hp'
        rcases split_pre hp2 with ⟨q, rfl, hq⟩ | ⟨z2, _, hq⟩
        · have h4 : Is5 (⟨P, [60, 63] ++ q, [], 0, [], toks, [], n⟩ : RS).tellInstruction := instr_none (instr_cut rfl (pi_body h1 h2 hz' hq))
          rw [docGo_eq, (blanks_no P ([60, 63] ++ q) [] 0 [] toks [] n (fun c hc => by cases hc; rfl)).1, if_neg (by simp [RS.sees, List.isPrefixOf]), if_pos (by simp [RS.sees, List.isPrefixOf])]
          exact more_bad h4
        · exact doc_short g P p toks n z2 _ hq (in_pre hq pi_no62) (sub_pre hq (by decide))
/-- A document that is cut short ahead of its element's end is none. -/
theorem cut_plain {ts : List XTok} (h : DocT [] false 0 ts) (hl : ts.length ≤ 4096) (hE : EndsE ts) {p z : List Nat} (hz : z ≠ []) (hp : p ++ z = writeX ts) : Is5 (scanX p) := by
  have main : Is5 (RS.start p).document := by
    unfold RS.document
    split
    · rename_i hc
      have hs : (RS.start p).settings = none := by
        simp only [Bool.and_eq_true, beq_iff_eq] at hc
        obtain ⟨hc1, hc2⟩ := hc
        have hc1' : [60, 63].isPrefixOf p = true := hc1
        have hc2' : nameA (p.drop 2) = [120, 109, 108] := hc2
        obtain ⟨q, rfl⟩ := List.isPrefixOf_iff_prefix.1 hc1'
        cases h with
        | elem m a _ _ _ ts h hr ho' ha hn =>
          exfalso
          cases h with | elem _ _ hq hqa hnd =>
          obtain ⟨c, u, hcu, hbeg⟩ := isQ_beg hq
          obtain ⟨_, _, _, _, hc3⟩ := beg_not hbeg
          rw [writeX_cons] at hp
          change [60, 63] ++ q ++ z = 60 :: (m ++ (a.flatMap attrL ++ [62])) ++ writeX ts at hp
          rw [hcu] at hp
          have := (List.cons.inj (List.cons.inj hp).2).1
          exact hc3 this.symm
        | fin m _ _ _ _ h ho' hn => cases ho'
        | text l _ _ _ _ h ho' hk hn => exact absurd rfl ho'
        | comment l _ _ _ ts h hn =>
          exfalso
          rw [writeX_cons] at hp
          change [60, 63] ++ q ++ z = 60 :: 33 :: 45 :: 45 :: (l ++ [45, 45, 62]) ++ writeX ts at hp
          have := (List.cons.inj (List.cons.inj hp).2).1
          cases this
        | pi m l _ _ _ ts h hn =>
          cases h with | pi _ _ h1 h2 h3 =>
          obtain ⟨t1, t2⟩ := target_name h1
          rw [writeX_cons] at hp
          have hp1 : [60, 63] ++ (q ++ z) = [60, 63] ++ ((m ++ ((if l = [] then [] else 32 :: l) ++ [63, 62])) ++ writeX ts) := by
            rw [← List.append_assoc, hp]
            show 60 :: 63 :: (m ++ ((if l = [] then [] else 32 :: l) ++ [63, 62])) ++ writeX ts = _
            simp
          have hp2 := List.append_cancel_left hp1
          rcases split_pre hp2 with ⟨q', rfl, hq'⟩ | ⟨z', hz', hq'⟩
          · exfalso
            have e : ([60, 63] ++ (m ++ ((if l = [] then [] else 32 :: l) ++ [63, 62]) ++ q')).drop 2 = m ++ (((if l = [] then [] else 32 :: l) ++ [63, 62]) ++ q') := by
              show m ++ ((if l = [] then [] else 32 :: l) ++ [63, 62]) ++ q' = _
              rw [List.append_assoc]
            rw [e, name_run t1 (fun c hc => by
              by_cases hl : l = []
              · rw [if_pos hl] at hc; cases hc; decide
              · rw [if_neg hl] at hc; cases hc; decide)] at hc2'
            subst hc2'
            exact t2 rfl
          · exact settings_cut (q := q) rfl (pi_body h1 h2 hz' hq')
      rw [hs]
      exact ⟨_, rfl⟩
    · exact before_cut ts 0 [] [] 0 p z _ h hE (by simpa using hl) hz hp (Nat.lt_succ_self _)
  obtain ⟨pl, h1⟩ := main
  unfold scanX
  rw [h1]
  exact ⟨_, rfl⟩
end Go.Proofs.YtekjiagjgopnjaaGreatDoor
