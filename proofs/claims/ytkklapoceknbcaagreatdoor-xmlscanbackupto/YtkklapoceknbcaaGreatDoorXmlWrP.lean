/- Tokens as a text, in plain terms: what is written is scanned as it was. -/
import Derived.Test.YtkklapoceknbcaaGreatDoorXmlEscP
namespace Go.Proofs.YtkklapoceknbcaaGreatDoor
def attrL (x : List Nat × List Nat) : List Nat := 32 :: (x.1 ++ 61 :: 34 :: (mapN quoN x.2 ++ [34]))
def tokL (t : XTok) : List Nat :=
  if t.kind = 2 then 60 :: (t.name ++ (t.attrs.flatMap attrL ++ [62])) else
  if t.kind = 7 then 60 :: 47 :: (t.name ++ [62]) else
  if t.kind = 4 then mapN escN t.text else
  if t.kind = 5 then 60 :: 33 :: 45 :: 45 :: (t.text ++ [45, 45, 62]) else
  if t.kind = 6 then 60 :: 63 :: (t.name ++ ((if t.text = [] then [] else 32 :: t.text) ++ [63, 62])) else []
def writeX (ts : List XTok) : List Nat := ts.flatMap tokL
/-- A token that may stand in some document. -/
inductive OkTok : XTok → Prop
  | elem (n : List Nat) (a : List (List Nat × List Nat)) (h : isQ n = true) (ha : ∀ x ∈ a, isQ x.1 = true) (hd : (a.map (·.1)).Nodup) : OkTok ⟨2, n, a, []⟩
  | fin (n : List Nat) (h : isQ n = true) : OkTok ⟨7, n, [], []⟩
  | text (l : List Nat) (h : l ≠ []) : OkTok ⟨4, [], [], l⟩
  | comment (l : List Nat) (h : cutL [45, 45] l = none) (h' : l.getLast? ≠ some 45) : OkTok ⟨5, [], [], l⟩
  | pi (n l : List Nat) (h : isTarget n = true) (hc : cutL [63, 62] l = none) (hb : ∀ c, l.head? = some c → blankC c = false) : OkTok ⟨6, n, [], l⟩
/-- Tokens that end a document: what is open, whether there was an element, the last token's kind, the tokens. -/
inductive DocT : List (List Nat) → Bool → Nat → List XTok → Prop
  | done (k : Nat) : DocT [] true k []
  | elem (n : List Nat) (a : List (List Nat × List Nat)) (o : List (List Nat)) (r : Bool) (k : Nat) (ts : List XTok) (h : OkTok ⟨2, n, a, []⟩) (hr : o = [] → r = false) (ho : o.length < 32) (ha : a.length ≤ 64) (hn : DocT (o ++ [n]) true 2 ts) : DocT o r k (⟨2, n, a, []⟩ :: ts)
  | fin (n : List Nat) (o : List (List Nat)) (r : Bool) (k : Nat) (ts : List XTok) (h : OkTok ⟨7, n, [], []⟩) (ho : o.getLast? = some n) (hn : DocT o.dropLast r 7 ts) : DocT o r k (⟨7, n, [], []⟩ :: ts)
  | text (l : List Nat) (o : List (List Nat)) (r : Bool) (k : Nat) (ts : List XTok) (h : OkTok ⟨4, [], [], l⟩) (ho : o ≠ []) (hk : k ≠ 4) (hn : DocT o r 4 ts) : DocT o r k (⟨4, [], [], l⟩ :: ts)
  | comment (l : List Nat) (o : List (List Nat)) (r : Bool) (k : Nat) (ts : List XTok) (h : OkTok ⟨5, [], [], l⟩) (hn : DocT o r 5 ts) : DocT o r k (⟨5, [], [], l⟩ :: ts)
  | pi (n l : List Nat) (o : List (List Nat)) (r : Bool) (k : Nat) (ts : List XTok) (h : OkTok ⟨6, n, [], l⟩) (hn : DocT o r 6 ts) : DocT o r k (⟨6, n, [], l⟩ :: ts)
theorem adv_app (P a r : List Nat) (e : List (List Nat × List Nat)) (sp : Nat) (o : List (List Nat)) (t : List XTok) (ru : List Nat) (n : Nat) :
    (⟨P, a ++ r, e, sp, o, t, ru, n⟩ : RS).adv a.length = ⟨P ++ a, r, e, sp, o, t, ru, n⟩ := by
  unfold RS.adv
  simp only [List.take_left, List.drop_left]
theorem drop58 : ∀ q : List Nat, q.contains 58 = true → q.dropWhile (· != 58) = 58 :: (q.dropWhile (· != 58)).tail
  | [], h => by cases h
  | c :: q, h => by
    by_cases hc : c = 58
    · subst hc; rfl
    · have hq : q.contains 58 = true := by
        simp only [List.contains_cons, Bool.or_eq_true, beq_iff_eq] at h
        rcases h with h | h
        · exact absurd h.symm hc
        · exact h
      have ih := drop58 q hq
      rw [List.dropWhile_cons, if_pos (by simpa using hc)]
      exact ih
theorem isQ_run {q r : List Nat} (h : isQ q = true) (hr : ∀ c, r.head? = some c → goC c = false ∧ c ≠ 58) : qnameA (q ++ r) = q := by
  have hr1 : ∀ c, r.head? = some c → goC c = false := fun c hc => (hr c hc).1
  unfold isQ at h
  split at h
  · rename_i hc
    obtain ⟨h1, h2⟩ : isNm (q.takeWhile (· != 58)) = true ∧ isNm (q.dropWhile (· != 58)).tail = true := by simpa using h
    obtain ⟨na, ea⟩ := isNm_name h1
    obtain ⟨nb, eb⟩ := isNm_name h2
    have hq : q.takeWhile (· != 58) ++ 58 :: (q.dropWhile (· != 58)).tail = q := by
      rw [← drop58 q hc]
      exact List.takeWhile_append_dropWhile
    generalize q.takeWhile (· != 58) = a at *
    generalize (q.dropWhile (· != 58)).tail = b at *
    subst hq
    have n1 : nameA (a ++ 58 :: b ++ r) = a := by
      rw [List.append_assoc]
      exact nameA_run a _ (fun c hc => by cases hc; exact go58) ea na
    have n2 : nameA (b ++ r) = b := nameA_run b r hr1 eb nb
    rw [qnameA_eq, n1]
    have e1 : (a ++ 58 :: b ++ r).drop a.length = 58 :: (b ++ r) := by rw [List.append_assoc, List.drop_left]; rfl
    rw [e1]
    simp only [List.tail_cons, n2, heads_cons, empty_not na, empty_not nb]
    rfl
  · obtain ⟨na, ea⟩ := isNm_name h
    have n1 : nameA (q ++ r) = q := nameA_run q r hr1 ea na
    rw [qnameA_eq, n1, List.drop_left]
    have h58 : heads 58 r = false := by
      cases hh : heads 58 r
      · rfl
      · have := heads_true hh
        exact absurd rfl (hr 58 (by rw [this]; rfl)).2
    rw [h58]
    simp
theorem isQ_beg {q : List Nat} (h : isQ q = true) : ∃ c t, q = c :: t ∧ begC c = true := by
  unfold isQ at h
  split at h
  · obtain ⟨h1, _⟩ : isNm (q.takeWhile (· != 58)) = true ∧ isNm (q.dropWhile (· != 58)).tail = true := by simpa using h
    obtain ⟨na, ea⟩ := isNm_name h1
    obtain ⟨c, t, e, hb⟩ := nameA_beg (l := q.takeWhile (· != 58)) (by rw [ea]; exact na)
    cases q with
    | nil => cases e
    | cons d q =>
      rw [List.takeWhile_cons] at e
      split at e
      · cases e; exact ⟨_, _, rfl, hb⟩
      · cases e
  · obtain ⟨na, ea⟩ := isNm_name h
    exact nameA_beg (by rw [ea]; exact na)
theorem beg_not {c : Nat} (h : begC c = true) : blankC c = false ∧ c ≠ 47 ∧ c ≠ 62 ∧ c ≠ 33 ∧ c ≠ 63 := by
  have := begC_ge h
  refine ⟨?_, by omega, by omega, by omega, by omega⟩
  unfold blankC
  simp
  omega
theorem cut_two (a b : Nat) : ∀ (t r : List Nat), cutL [a, b] t = none → (a = b → t.getLast? ≠ some a) → cutL [a, b] (t ++ a :: b :: r) = some (t, r)
  | [], r, _, _ => by
    show cutL [a, b] (a :: b :: r) = _
    rw [cutL, if_pos (by simp [List.isPrefixOf])]
    rfl
  | c :: t, r, h, h' => by
    have h0 : ¬ [a, b].isPrefixOf (c :: t) = true := fun hh => by rw [cutL, if_pos hh] at h; cases h
    have h1 : cutL [a, b] t = none := by
      rw [cutL, if_neg h0] at h
      cases hh : cutL [a, b] t with
      | none => rfl
      | some x => rw [hh] at h; cases h
    have ih := cut_two a b t r h1 (fun e hl => h' e (by
      cases t with
      | nil => cases hl
      | cons d t => rw [List.getLast?_cons_cons]; exact hl))
    show cutL [a, b] (c :: (t ++ a :: b :: r)) = _
    rw [cutL, ih, if_neg]
    · rfl
    · intro hh
      cases t with
      | nil =>
        simp [List.isPrefixOf] at hh
        exact h' hh.2.symm (by rw [hh.1]; rfl)
      | cons d t =>
        apply h0
        simpa [List.isPrefixOf] using hh
theorem blanks_at (P a r : List Nat) (e : List (List Nat × List Nat)) (sp : Nat) (o : List (List Nat)) (t : List XTok) (ru : List Nat) (n : Nat) (ha : ∀ c ∈ a, blankC c = true) (hr : ∀ c, r.head? = some c → blankC c = false) :
    (⟨P, a ++ r, e, sp, o, t, ru, n⟩ : RS).blanks = ⟨P ++ a, r, e, sp, o, t, ru, n⟩ ∧ (⟨P, a ++ r, e, sp, o, t, ru, n⟩ : RS).blank = !a.isEmpty := by
  unfold RS.blanks RS.blank
  simp only
  rw [takeWhile_run blankC a r ha hr]
  exact ⟨adv_app P a r e sp o t ru n, rfl⟩
theorem blanks_no (P r : List Nat) (e : List (List Nat × List Nat)) (sp : Nat) (o : List (List Nat)) (t : List XTok) (ru : List Nat) (n : Nat) (hr : ∀ c, r.head? = some c → blankC c = false) :
    (⟨P, r, e, sp, o, t, ru, n⟩ : RS).blanks = ⟨P, r, e, sp, o, t, ru, n⟩ ∧ (⟨P, r, e, sp, o, t, ru, n⟩ : RS).blank = false := by
  have h := blanks_at P [] r e sp o t ru n (fun _ h => by cases h) hr
  rw [List.append_nil] at h
  exact h
/-- A tag's attributes. -/
theorem attrs_back (tag : Nat) (R : List Nat) (e : List (List Nat × List Nat)) (sp : Nat) (o : List (List Nat)) (t : List XTok) (ru : List Nat) (n : Nat) : ∀ (a acc : List (List Nat × List Nat)) (f : Nat) (P : List Nat), (∀ x ∈ a, isQ x.1 = true) → ((acc ++ a).map (·.1)).Nodup → a.length < f →
    ∃ P', RS.attrsGo tag f ⟨P, a.flatMap attrL ++ 62 :: R, e, sp, o, t, ru, n⟩ acc = .ok (acc ++ a, ⟨P', 62 :: R, e, sp, o, t, ru, n⟩)
  | [], acc, f, P, _, _, hf => by
    obtain ⟨g, rfl⟩ : ∃ g, f = g + 1 := ⟨f - 1, by simp at hf; omega⟩
    refine ⟨P, ?_⟩
    have hb := blanks_no P (62 :: R) e sp o t ru n (fun c h => by cases h; rfl)
    show RS.attrsGo tag (g + 1) ⟨P, 62 :: R, e, sp, o, t, ru, n⟩ acc = _
    rw [attrsGo_eq, hb.1, hb.2, Bool.not_false, Bool.true_or, if_pos rfl, List.append_nil]
  | (k, v) :: a, acc, f, P, hq, hd, hf => by
    obtain ⟨g, rfl⟩ : ∃ g, f = g + 1 := ⟨f - 1, by simp at hf; omega⟩
    have hk : isQ k = true := hq (k, v) (List.mem_cons_self ..)
    obtain ⟨c, u, hcu, hbeg⟩ := isQ_beg hk
    obtain ⟨hc1, hc2, hc3, _⟩ := beg_not hbeg
    generalize hY : a.flatMap attrL ++ 62 :: R = Y
    have hrest : ((k, v) :: a).flatMap attrL ++ 62 :: R = [32] ++ (k ++ ([61] ++ ([34] ++ (mapN quoN v ++ 34 :: Y)))) := by
      rw [← hY]
      simp [attrL]
    have hkh : ∀ x, (k ++ ([61] ++ ([34] ++ (mapN quoN v ++ 34 :: Y)))).head? = some x → x = c := fun x hx => by
      rw [hcu] at hx
      cases hx
      rfl
    have b1 := blanks_at P [32] (k ++ ([61] ++ ([34] ++ (mapN quoN v ++ 34 :: Y)))) e sp o t ru n (fun x hx => by simp at hx; subst hx; rfl) (fun x hx => by rw [hkh x hx]; exact hc1)
    have q1 : qnameA (k ++ ([61] ++ ([34] ++ (mapN quoN v ++ 34 :: Y)))) = k := isQ_run hk (fun x hx => by cases hx; exact ⟨by decide, by decide⟩)
    have hh : ∀ x, x ≠ c → heads x (k ++ ([61] ++ ([34] ++ (mapN quoN v ++ 34 :: Y)))) = false := fun x hx => by
      rw [hcu, List.cons_append, heads_cons]
      simpa using Ne.symm hx
    have hne : k ≠ [] := by rw [hcu]; simp
    have hno : (acc.map (·.1)).contains k = false := by
      rw [List.map_append, List.nodup_append] at hd
      cases hh : (acc.map (·.1)).contains k with
      | false => rfl
      | true =>
        have h1 : k ∈ acc.map (·.1) := by simpa using hh
        exact absurd rfl (hd.2.2 k h1 k (by simp))
    have e1 : (⟨P ++ [32], k ++ ([61] ++ ([34] ++ (mapN quoN v ++ 34 :: Y))), e, sp, o, t, ru, n⟩ : RS).qname = ⟨P ++ [32] ++ k, [61] ++ ([34] ++ (mapN quoN v ++ 34 :: Y)), e, sp, o, t, ru, n⟩ := by
      unfold RS.qname
      simp only
      rw [q1]
      exact adv_app _ k _ e sp o t ru n
    have e2 : (⟨P ++ [32] ++ k, [61] ++ ([34] ++ (mapN quoN v ++ 34 :: Y)), e, sp, o, t, ru, n⟩ : RS).equals = some ⟨P ++ [32] ++ k ++ [61], [34] ++ (mapN quoN v ++ 34 :: Y), e, sp, o, t, ru, n⟩ := by
      unfold RS.equals
      rw [(blanks_no (P ++ [32] ++ k) ([61] ++ ([34] ++ (mapN quoN v ++ 34 :: Y))) e sp o t ru n (fun x hx => by cases hx; rfl)).1]
      rw [if_pos (show heads 61 ([61] ++ ([34] ++ (mapN quoN v ++ 34 :: Y))) = true from rfl)]
      have := adv_app (P ++ [32] ++ k) [61] ([34] ++ (mapN quoN v ++ 34 :: Y)) e sp o t ru n
      rw [show [61].length = 1 from rfl] at this
      rw [this, (blanks_no _ ([34] ++ (mapN quoN v ++ 34 :: Y)) e sp o t ru n (fun x hx => by cases hx; rfl)).1]
    obtain ⟨P2, e3⟩ : ∃ P2, (⟨P ++ [32] ++ k ++ [61], [34] ++ (mapN quoN v ++ 34 :: Y), e, sp, o, t, ru, n⟩ : RS).value tag = .ok (v, ⟨P2, Y, e, sp, o, t, ru, n⟩) := by
      have hq : (⟨P ++ [32] ++ k ++ [61], [34] ++ (mapN quoN v ++ 34 :: Y), e, sp, o, t, ru, n⟩ : RS).quote = some (34, ⟨P ++ [32] ++ k ++ [61] ++ [34], mapN quoN v ++ 34 :: Y, e, sp, o, t, ru, n⟩) := by
        unfold RS.quote
        rw [if_pos (show heads 34 ([34] ++ (mapN quoN v ++ 34 :: Y)) = true from rfl)]
        exact congrArg (fun x => some (34, x)) (adv_app _ [34] _ e sp o t ru n)
      unfold RS.value
      rw [hq]
      obtain ⟨P2, h2⟩ := value_quoted tag Y e sp o t ru n v.length v rfl ((mapN quoN v ++ 34 :: Y).length + 1) (P ++ [32] ++ k ++ [61] ++ [34]) [] (by simp; omega)
      exact ⟨P2, by rw [List.nil_append] at h2; exact h2⟩
    obtain ⟨P', ih⟩ := attrs_back tag R e sp o t ru n a (acc ++ [(k, v)]) g P2 (fun x hx => hq x (List.mem_cons_of_mem _ hx)) (by rw [List.append_assoc]; exact hd) (by simp at hf; omega)
    rw [hY] at ih
    refine ⟨P', ?_⟩
    rw [hrest, attrsGo_eq, b1.1, b1.2, hh 47 (Ne.symm hc2), hh 62 (Ne.symm hc3), q1, e1, if_neg (by decide), if_neg (by rw [hno]; simp [hne]), e2]
    simp only
    rw [e3]
    simp only
    rw [ih, List.append_assoc]
    rfl
end Go.Proofs.YtkklapoceknbcaaGreatDoor
