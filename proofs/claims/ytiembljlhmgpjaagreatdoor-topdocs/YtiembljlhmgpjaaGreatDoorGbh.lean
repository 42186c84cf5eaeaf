/- Several texts, laid as one. -/
import Derived.Test.YtiembljlhmgpjaaGreatDoorGbg
/- Tokens as a text, in plain terms: what is written is scanned as it was. -/
namespace Go.Proofs.YtiembljlhmgpjaaGreatDoor
def attrL (x : List Nat × List Nat) : List Nat := 32 :: (x.1 ++ 61 :: 34 :: (mapN quoN x.2 ++ [34]))
def tokL (t : XTok) : List Nat :=
  if t.kind = 2 then 60 :: (t.name ++ (t.attrs.flatMap attrL ++ [62])) else
  if t.kind = 7 then 60 :: 47 :: (t.name ++ [62]) else
  if t.kind = 4 then mapN escN t.text else
  if t.kind = 5 then 60 :: 33 :: 45 :: 45 :: (t.text ++ [45, 45, 62]) else
  if t.kind = 6 then 60 :: 63 :: (t.name ++ ((if t.text = [] then [] else 32 :: t.text) ++ [63, 62])) else []
def writeX (ts : List XTok) : List Nat := ts.flatMap tokL
/-- A token that may stand in some document. -/
inductive OkTok : XTok → Prop
  | elem (n : List Nat) (a : List (List Nat × List Nat)) (h : isQ n = true) (ha : ∀ x ∈ a, isQ x.1 = true) (hd : (a.map (·.1)).Nodup) : OkTok ⟨2, n, a, []⟩
  | fin (n : List Nat) (h : isQ n = true) : OkTok ⟨7, n, [], []⟩
  | text (l : List Nat) (h : l ≠ []) : OkTok ⟨4, [], [], l⟩
  | comment (l : List Nat) (h : cutL [45, 45] l = none) (h' : l.getLast? ≠ some 45) : OkTok ⟨5, [], [], l⟩
  | pi (n l : List Nat) (h : isTarget n = true) (hc : cutL [63, 62] l = none) (hb : ∀ c, l.head? = some c → blankC c = false) : OkTok ⟨6, n, [], l⟩
/-- Tokens that end a document: what is open, whether there was an element, the last token's kind, the tokens. -/
inductive DocT : List (List Nat) → Bool → Nat → List XTok → Prop
  | done (k : Nat) : DocT [] true k []
  | elem (n : List Nat) (a : List (List Nat × List Nat)) (o : List (List Nat)) (r : Bool) (k : Nat) (ts : List XTok) (h : OkTok ⟨2, n, a, []⟩) (hr : o = [] → r = false) (ho : o.length < 32) (ha : a.length ≤ 64) (hn : DocT (o ++ [n]) true 2 ts) : DocT o r k (⟨2, n, a, []⟩ :: ts)
  | fin (n : List Nat) (o : List (List Nat)) (r : Bool) (k : Nat) (ts : List XTok) (h : OkTok ⟨7, n, [], []⟩) (ho : o.getLast? = some n) (hn : DocT o.dropLast r 7 ts) : DocT o r k (⟨7, n, [], []⟩ :: ts)
  | text (l : List Nat) (o : List (List Nat)) (r : Bool) (k : Nat) (ts : List XTok) (h : OkTok ⟨4, [], [], l⟩) (ho : o ≠ []) (hk : k ≠ 4) (hn : DocT o r 4 ts) : DocT o r k (⟨4, [], [], l⟩ :: ts)
  | comment (l : List Nat) (o : List (List Nat)) (r : Bool) (k : Nat) (ts : List XTok) (h : OkTok ⟨5, [], [], l⟩) (hn : DocT o r 5 ts) : DocT o r k (⟨5, [], [], l⟩ :: ts)
  | pi (n l : List Nat) (o : List (List Nat)) (r : Bool) (k : Nat) (ts : List XTok) (h : OkTok ⟨6, n, [], l⟩) (hn : DocT o r 6 ts) : DocT o r k (⟨6, n, [], l⟩ :: ts)
theorem adv_app (P a r : List Nat) (e : List (List Nat × List Nat)) (sp : Nat) (o : List (List Nat)) (t : List XTok) (ru : List Nat) (n : Nat) :
    (⟨P, a ++ r, e, sp, o, t, ru, n⟩ : RS).adv a.length = ⟨P ++ a, r, e, sp, o, t, ru, n⟩ := by
  unfold RS.adv
  simp only [List.take_left, List.drop_left]
theorem drop58 : ∀ q : List Nat, q.contains 58 = true → q.dropWhile (· != 58) = 58 :: (q.dropWhile (· != 58)).tail
  | [], h => by cases h
  | c :: q, h => by
    by_cases hc : c = 58
    · subst hc; rfl
    · have hq : q.contains 58 = true := by
        simp only [List.contains_cons, Bool.or_eq_true, beq_iff_eq] at h
        rcases h with h | h
        · exact absurd h.symm hc
        · exact h
      have ih := drop58 q hq
      rw [List.dropWhile_cons, if_pos (by simpa using hc)]
      exact ih
theorem isQ_run {q r : List Nat} (h : isQ q = true) (hr : ∀ c, r.head? = some c → goC c = false ∧ c ≠ 58) : qnameA (q ++ r) = q := by
  have hr1 : ∀ c, r.head? = some c → goC c = false := fun c hc => (hr c hc).1
  unfold isQ at h
  split at h
  · rename_i hc
    obtain ⟨h1, h2⟩ : isNm (q.takeWhile (· != 58)) = true ∧ isNm (q.dropWhile (· != 58)).tail = true := by simpa using h
    obtain ⟨na, ea⟩ := isNm_name h1
    obtain ⟨nb, eb⟩ := isNm_name h2
    have hq : q.takeWhile (· != 58) ++ 58 :: (q.dropWhile (· != 58)).tail = q := by
      rw [← drop58 q hc]
      exact List.takeWhile_append_dropWhile
    generalize q.takeWhile (· != 58) = a at *
    generalize (q.dropWhile (· != 58)).tail = b at *
    subst hq
    have n1 : nameA (a ++ 58 :: b ++ r) = a := by
      rw [List.append_assoc]
      exact nameA_run a _ (fun c hc => by cases hc; exact go58) ea na
    have n2 : nameA (b ++ r) = b := nameA_run b r hr1 eb nb
    rw [qnameA_eq, n1]
    have e1 : (a ++ 58 :: b ++ r).drop a.length = 58 :: (b ++ r) := by rw [List.append_assoc, List.drop_left]; rfl
    rw [e1]
    simp only [List.tail_cons, n2, heads_cons, empty_not na, empty_not nb]
    rfl
  · obtain ⟨na, ea⟩ := isNm_name h
    have n1 : nameA (q ++ r) = q := nameA_run q r hr1 ea na
    rw [qnameA_eq, n1, List.drop_left]
    have h58 : heads 58 r = false := by
      cases hh : heads 58 r
      · rfl
      · have := heads_true hh
        exact absurd rfl (hr 58 (by rw [this]; rfl)).2
    rw [h58]
    simp
theorem isQ_beg {q : List Nat} (h : isQ q = true) : ∃ c t, q = c :: t ∧ begC c = true := by
  unfold isQ at h
  split at h
  · obtain ⟨h1, _⟩ : isNm (q.takeWhile (· != 58)) = true ∧ isNm (q.dropWhile (· != 58)).tail = true := by simpa using h
    obtain ⟨na, ea⟩ := isNm_name h1
    obtain ⟨c, t, e, hb⟩ := nameA_beg (l := q.takeWhile (· != 58)) (by rw [ea]; exact na)
    cases q with
    | nil => cases e
    | cons d q =>
      rw [List.takeWhile_cons] at e
      split at e
      · cases e; exact ⟨_, _, rfl, hb⟩
      · cases e
  · obtain ⟨na, ea⟩ := isNm_name h
    exact nameA_beg (by rw [ea]; exact na)
theorem beg_not {c : Nat} (h : begC c = true) : blankC c = false ∧ c ≠ 47 ∧ c ≠ 62 ∧ c ≠ 33 ∧ c ≠ 63 := by
  have := begC_ge h
  refine ⟨?_, by omega, by omega, by omega, by omega⟩
  unfold blankC
  simp
  omega
theorem cut_two (a b : Nat) : ∀ (t r : List Nat), cutL [a, b] t = none → (a = b → t.getLast? ≠ some a) → cutL [a, b] (t ++ a :: b :: r) = some (t, r)
  | [], r, _, _ => by
    show cutL [a, b] (a :: b :: r) = _
    rw [cutL, if_pos (by simp [List.isPrefixOf])]
    rfl
  | c :: t, r, h, h' => by
    have h0 : ¬ [a, b].isPrefixOf (c :: t) = true := fun hh => by rw [cutL, if_pos hh] at h; cases h
    have h1 : cutL [a, b] t = none := by
      rw [cutL, if_neg h0] at h
      cases hh : cutL [a, b] t with
      | none => rfl
      | some x => rw [hh] at h; cases h
    have ih := cut_two a b t r h1 (fun e hl => h' e (by
      cases t with
      | nil => cases hl
      | cons d t => rw [List.getLast?_cons_cons]; exact hl))
    show cutL [a, b] (c :: (t ++ a :: b :: r)) = _
    rw [cutL, ih, if_neg]
    · rfl
    · intro hh
      cases t with
      | nil =>
        simp [List.isPrefixOf] at hh
        exact h' hh.2.symm (by rw [hh.1]; rfl)
      | cons d t =>
        apply h0
        simpa [List.isPrefixOf] using hh
theorem blanks_at (P a r : List Nat) (e : List (List Nat × List Nat)) (sp : Nat) (o : List (List Nat)) (t : List XTok) (ru : List Nat) (n : Nat) (ha : ∀ c ∈ a, blankC c = true) (hr : ∀ c, r.head? = some c → blankC c = false) :
    (⟨P, a ++ r, e, sp, o, t, ru, n⟩ : RS).blanks = ⟨P ++ a, r, e, sp, o, t, ru, n⟩ ∧ (⟨P, a ++ r, e, sp, o, t, ru, n⟩ : RS).blank = !a.isEmpty := by
  unfold RS.blanks RS.blank
  simp only
  rw [takeWhile_run blankC a r ha hr]
  exact ⟨adv_app P a r e sp o t ru n, rfl⟩
theorem blanks_no (P r : List Nat) (e : List (List Nat × List Nat)) (sp : Nat) (o : List (List Nat)) (t : List XTok) (ru : List Nat) (n : Nat) (hr : ∀ c, r.head? = some c → blankC c = false) :
    (⟨P, r, e, sp, o, t, ru, n⟩ : RS).blanks = ⟨P, r, e, sp, o, t, ru, n⟩ ∧ (⟨P, r, e, sp, o, t, ru, n⟩ : RS).blank = false := by
  have h := blanks_at P [] r e sp o t ru n (fun _ h => by cases h) hr
  rw [List.append_nil] at h
  exact h
/-- A tag's attributes. -/
theorem attrs_back (tag : Nat) (R : List Nat) (e : List (List Nat × List Nat)) (sp : Nat) (o : List (List Nat)) (t : List XTok) (ru : List Nat) (n : Nat) : ∀ (a acc : List (List Nat × List Nat)) (f : Nat) (P : List Nat), (∀ x ∈ a, isQ x.1 = true) → ((acc ++ a).map (·.1)).Nodup → a.length < f →
    ∃ P', RS.attrsGo tag f ⟨P, a.flatMap attrL ++ 62 :: R, e, sp, o, t, ru, n⟩ acc = .ok (acc ++ a, ⟨P', 62 :: R, e, sp, o, t, ru, n⟩)
  | [], acc, f, P, _, _, hf => by
    obtain ⟨g, rfl⟩ : ∃ g, f = g + 1 := ⟨f - 1, by simp at hf; omega⟩
    refine ⟨P, ?_⟩
    have hb := blanks_no P (62 :: R) e sp o t ru n (fun c h => by cases h; rfl)
    show RS.attrsGo tag (g + 1) ⟨P, 62 :: R, e, sp, o, t, ru, n⟩ acc = _
    rw [attrsGo_eq, hb.1, hb.2, Bool.not_false, Bool.true_or, if_pos rfl, List.append_nil]
  | (k, v) :: a, acc, f, P, hq, hd, hf => by
    obtain ⟨g, rfl⟩ : ∃ g, f = g + 1 := ⟨f - 1, by simp at hf; omega⟩
    have hk : isQ k = true := hq (k, v) (List.mem_cons_self ..)
    obtain ⟨c, u, hcu, hbeg⟩ := isQ_beg hk
    obtain ⟨hc1, hc2, hc3, _⟩ := beg_not hbeg
    generalize hY : a.flatMap attrL ++ 62 :: R = Y
    have hrest : ((k, v) :: a).flatMap attrL ++ 62 :: R = [32] ++ (k ++ ([61] ++ ([34] ++ (mapN quoN v ++ 34 :: Y)))) := by
      rw [← hY]
      simp [attrL]
    have hkh : ∀ x, (k ++ ([61] ++ ([34] ++ (mapN quoN v ++ 34 :: Y)))).head? = some x → x = c := fun x hx => by
      rw [hcu] at hx
      cases hx
      rfl
    have b1 := blanks_at P [32] (k ++ ([61] ++ ([34] ++ (mapN quoN v ++ 34 :: Y)))) e sp o t ru n (fun x hx => by simp at hx; subst hx; rfl) (fun x hx => by rw [hkh x hx]; exact hc1)
    have q1 : qnameA (k ++ ([61] ++ ([34] ++ (mapN quoN v ++ 34 :: Y)))) = k := isQ_run hk (fun x hx => by cases hx; exact ⟨by decide, by decide⟩)
    have hh : ∀ x, x ≠ c → heads x (k ++ ([61] ++ ([34] ++ (mapN quoN v ++ 34 :: Y)))) = false := fun x hx => by
      rw [hcu, List.cons_append, heads_cons]
      simpa using Ne.symm hx
    have hne : k ≠ [] := by rw [hcu]; simp
    have hno : (acc.map (·.1)).contains k = false := by
      rw [List.map_append, List.nodup_append] at hd
      cases hh : (acc.map (·.1)).contains k with
      | false => rfl
      | true =>
        have h1 : k ∈ acc.map (·.1) := by simpa using hh
        exact absurd rfl (hd.2.2 k h1 k (by simp))
    have e1 : (⟨P ++ [32], k ++ ([61] ++ ([34] ++ (mapN quoN v ++ 34 :: Y))), e, sp, o, t, ru, n⟩ : RS).qname = ⟨P ++ [32] ++ k, [61] ++ ([34] ++ (mapN quoN v ++ 34 :: Y)), e, sp, o, t, ru, n⟩ := by
      unfold RS.qname
      simp only
      rw [q1]
      exact adv_app _ k _ e sp o t ru n
    have e2 : (⟨P ++ [32] ++ k, [61] ++ ([34] ++ (mapN quoN v ++ 34 :: Y)), e, sp, o, t, ru, n⟩ : RS).equals = some ⟨P ++ [32] ++ k ++ [61], [34] ++ (mapN quoN v ++ 34 :: Y), e, sp, o, t, ru, n⟩ := by
      unfold RS.equals
      rw [(blanks_no (P ++ [32] ++ k) ([61] ++ ([34] ++ (mapN quoN v ++ 34 :: Y))) e sp o t ru n (fun x hx => by cases hx; rfl)).1]
      rw [if_pos (show heads 61 ([61] ++ ([34] ++ (mapN quoN v ++ 34 :: Y))) = true from rfl)]
      have := adv_app (P ++ [32] ++ k) [61] ([34] ++ (mapN quoN v ++ 34 :: Y)) e sp o t ru n
      rw [show [61].length = 1 from rfl] at this
      rw [this, (blanks_no _ ([34] ++ (mapN quoN v ++ 34 :: Y)) e sp o t ru n (fun x hx => by cases hx; rfl)).1]
    obtain ⟨P2, e3⟩ : ∃ P2, (⟨P ++ [32] ++ k ++ [61], [34] ++ (mapN quoN v ++ 34 :: Y), e, sp, o, t, ru, n⟩ : RS).value tag = .ok (v, ⟨P2, Y, e, sp, o, t, ru, n⟩) := by
      have hq : (⟨P ++ [32] ++ k ++ [61], [34] ++ (mapN quoN v ++ 34 :: Y), e, sp, o, t, ru, n⟩ : RS).quote = some (34, ⟨P ++ [32] ++ k ++ [61] ++ [34], mapN quoN v ++ 34 :: Y, e, sp, o, t, ru, n⟩) := by
        unfold RS.quote
        rw [if_pos (show heads 34 ([34] ++ (mapN quoN v ++ 34 :: Y)) = true from rfl)]
        exact congrArg (fun x => some (34, x)) (adv_app _ [34] _ e sp o t ru n)
      unfold RS.value
      rw [hq]
      obtain ⟨P2, h2⟩ := value_quoted tag Y e sp o t ru n v.length v rfl ((mapN quoN v ++ 34 :: Y).length + 1) (P ++ [32] ++ k ++ [61] ++ [34]) [] (by simp; omega)
      exact ⟨P2, by rw [List.nil_append] at h2; exact h2⟩
    obtain ⟨P', ih⟩ := attrs_back tag R e sp o t ru n a (acc ++ [(k, v)]) g P2 (fun x hx => hq x (List.mem_cons_of_mem _ hx)) (by rw [List.append_assoc]; exact hd) (by simp at hf; omega)
    rw [hY] at ih
    refine ⟨P', ?_⟩
    rw [hrest, attrsGo_eq, b1.1, b1.2, hh 47 (Ne.symm hc2), hh 62 (Ne.symm hc3), q1, e1, if_neg (by decide), if_neg (by rw [hno]; simp [hne]), e2]
    simp only
    rw [e3]
    simp only
    rw [ih, List.append_assoc]
    rfl
end Go.Proofs.YtiembljlhmgpjaaGreatDoor
/- Tokens that lead somewhere from a document's beginning, in plain terms: for the law XmlscanAgain. -/
namespace Go.Proofs.YtiembljlhmgpjaaGreatDoor
/-- Tokens read from the beginning: what is open behind them, whether there was an element, the last one's kind. -/
inductive DocS : List XTok → List (List Nat) → Bool → Nat → Prop
  | start : DocS [] [] false 0
  | elem (n : List Nat) (a : List (List Nat × List Nat)) (o : List (List Nat)) (r : Bool) (k : Nat) (ts : List XTok) (hs : DocS ts o r k) (h : OkTok ⟨2, n, a, []⟩) (hr : o = [] → r = false) (ho : o.length < 32) (ha : a.length ≤ 64) : DocS (ts ++ [⟨2, n, a, []⟩]) (o ++ [n]) true 2
  | fin (n : List Nat) (o : List (List Nat)) (r : Bool) (k : Nat) (ts : List XTok) (hs : DocS ts o r k) (h : OkTok ⟨7, n, [], []⟩) (ho : o.getLast? = some n) : DocS (ts ++ [⟨7, n, [], []⟩]) o.dropLast r 7
  | text (l : List Nat) (o : List (List Nat)) (r : Bool) (k : Nat) (ts : List XTok) (hs : DocS ts o r k) (h : OkTok ⟨4, [], [], l⟩) (ho : o ≠ []) (hk : k ≠ 4) : DocS (ts ++ [⟨4, [], [], l⟩]) o r 4
  | comment (l : List Nat) (o : List (List Nat)) (r : Bool) (k : Nat) (ts : List XTok) (hs : DocS ts o r k) (h : OkTok ⟨5, [], [], l⟩) : DocS (ts ++ [⟨5, [], [], l⟩]) o r 5
  | pi (n l : List Nat) (o : List (List Nat)) (r : Bool) (k : Nat) (ts : List XTok) (hs : DocS ts o r k) (h : OkTok ⟨6, n, [], l⟩) : DocS (ts ++ [⟨6, n, [], l⟩]) o r 6
theorem DocS.on {ts : List XTok} {o : List (List Nat)} {r : Bool} {k : Nat} (h : DocS ts o r k) : ∀ us, DocT o r k us → DocT [] false 0 (ts ++ us) := by
  induction h with
  | start => exact fun us h => h
  | elem n a o r k ts hs h hr ho ha ih => intro us hu; rw [List.append_assoc]; exact ih _ (.elem n a o r k us h hr ho ha hu)
  | fin n o r k ts hs h ho ih => intro us hu; rw [List.append_assoc]; exact ih _ (.fin n o r k us h ho hu)
  | text l o r k ts hs h ho hk ih => intro us hu; rw [List.append_assoc]; exact ih _ (.text l o r k us h ho hk hu)
  | comment l o r k ts hs h ih => intro us hu; rw [List.append_assoc]; exact ih _ (.comment l o r k us h hu)
  | pi n l o r k ts hs h ih => intro us hu; rw [List.append_assoc]; exact ih _ (.pi n l o r k us h hu)
theorem DocS.all {ts : List XTok} {k : Nat} (h : DocS ts [] true k) : DocT [] false 0 ts := by
  have := h.on [] (.done k)
  rwa [List.append_nil] at this
/-- What a reader has told leads to where it stands. -/
def Told (s : RS) (r : Bool) : Prop := ∃ k, DocS s.toks s.opn r k ∧ k ≠ 4 ∧ (s.run ≠ [] → s.opn ≠ [])
theorem Told.flush {s : RS} {r : Bool} (h : Told s r) : ∃ k, DocS s.flush.toks s.opn r k := by
  obtain ⟨k, h1, h2, h3⟩ := h
  by_cases hr : s.run = []
  · rw [(flush_eq s).1 hr]; exact ⟨k, h1⟩
  · rw [(flush_eq s).2 hr]
    exact ⟨4, .text s.run s.opn r k s.toks h1 (.text _ hr) (h3 hr) h2⟩
/-- A token told, where it may stand. -/
theorem Told.tell {s s' : RS} {r r' : Bool} {t : XTok} {at' : Nat} (h : Told s r) (ht : s.tell t at' = .ok s') (o' : List (List Nat)) (hk : t.kind ≠ 4) (hs : ∀ ts k, DocS ts s.opn r k → DocS (ts ++ [t]) o' r' t.kind) :
    Told { s' with opn := o' } r' ∧ s'.run = [] := by
  obtain ⟨k, hf⟩ := h.flush
  unfold RS.tell at ht
  split at ht
  · cases ht
  · cases ht
    have hrun : s.flush.run = [] := by
      by_cases hr : s.run = []
      · rw [(flush_eq s).1 hr]; exact hr
      · rw [(flush_eq s).2 hr]
    exact ⟨⟨t.kind, hs _ k hf, hk, fun hx => absurd hrun hx⟩, hrun⟩
end Go.Proofs.YtiembljlhmgpjaaGreatDoor
/- What Scan tells may be written: pieces, in plain terms. -/
namespace Go.Proofs.YtiembljlhmgpjaaGreatDoor
theorem cutL_first (p q : Nat) : ∀ {l x y : List Nat}, cutL [p, q] l = some (x, y) → l = x ++ p :: q :: y ∧ cutL [p, q] x = none ∧ (p = q → x.getLast? ≠ some p)
  | [], x, y, h => by cases h
  | c :: t, x, y, h => by
    rw [cutL] at h
    split at h
    · rename_i hp
      cases h
      refine ⟨?_, rfl, fun _ hx => by cases hx⟩
      obtain ⟨u, hu⟩ := List.isPrefixOf_iff_prefix.1 hp
      rw [← hu]
      rfl
    · rename_i hp
      cases hc : cutL [p, q] t with
      | none => rw [hc] at h; cases h
      | some z =>
        obtain ⟨x', y'⟩ := z
        rw [hc] at h
        cases h
        obtain ⟨h1, h2, h3⟩ := cutL_first p q hc
        refine ⟨by rw [h1]; rfl, ?_, ?_⟩
        · rw [cutL, if_neg, h2]
          · rfl
          · intro hh
            apply hp
            rw [h1]
            cases x' with
            | nil => simp [List.isPrefixOf] at hh
            | cons d x'' =>
              simp [List.isPrefixOf] at hh ⊢
              exact hh
        · intro e hl
          subst e
          cases x' with
          | nil =>
            simp at hl
            subst hl
            apply hp
            rw [h1]
            simp [List.isPrefixOf]
          | cons d x'' =>
            simp only [List.getLast?_cons_cons] at hl
            exact h3 rfl hl
theorem DocS.isq {ts : List XTok} {o : List (List Nat)} {r : Bool} {k : Nat} (h : DocS ts o r k) : ∀ x ∈ o, isQ x = true := by
  induction h with
  | start => intro x hx; cases hx
  | elem n a o r k ts hs h hr ho ha ih =>
    intro x hx
    rcases List.mem_append.1 hx with hx | hx
    · exact ih x hx
    · rw [List.mem_singleton.1 hx]; cases h; assumption
  | fin n o r k ts hs h ho ih => exact fun x hx => ih x (List.dropLast_subset _ hx)
  | text l o r k ts hs h ho hk ih => exact ih
  | comment l o r k ts hs h ih => exact ih
  | pi n l o r k ts hs h ih => exact ih
theorem comment_okT {s s' : RS} {t : List Nat} (h : s.comment = some (t, s')) : OkTok ⟨5, [], [], t⟩ := by
  rw [comment_eq] at h
  split at h
  · cases h
  · rename_i u s1 hu
    split at h
    · cases h
      obtain ⟨_, y, hc, _⟩ := Adv.takeTo hu
      obtain ⟨_, h2, h3⟩ := cutL_first 45 45 hc
      exact .comment _ h2 (h3 rfl)
    · cases h
theorem drop_head {f : Nat → Bool} : ∀ {l : List Nat} {c : Nat}, (l.dropWhile f).head? = some c → f c = false
  | [], c, h => by cases h
  | d :: l, c, h => by
    rw [List.dropWhile_cons] at h
    split at h
    · exact drop_head h
    · rename_i hd
      cases h
      simpa using hd
theorem instr_okT {s s' : RS} {n t : List Nat} (h : s.instruction = some (n, t, s')) : OkTok ⟨6, n, [], t⟩ := by
  rw [instruction_eq] at h
  split at h
  · cases h
  · rename_i hn
    have hn' : isTarget (nameA (s.take [60, 63]).rest) = true := by simpa using hn
    split at h
    · cases h
      exact .pi _ _ hn' rfl (fun c hc => by cases hc)
    · split at h
      · cases h
      · cases hx : (s.take [60, 63]).name.blanks.takeTo [63, 62] with
        | none => rw [hx] at h; cases h
        | some z =>
          obtain ⟨u, s1⟩ := z
          rw [hx] at h
          cases h
          obtain ⟨_, y, hc, _⟩ := Adv.takeTo hx
          obtain ⟨h1, h2, _⟩ := cutL_first 63 62 hc
          refine .pi _ _ hn' h2 (fun c hc => ?_)
          rw [blanks_rest] at h1
          refine drop_head (l := (s.take [60, 63]).name.rest) (c := c) ?_
          rw [h1]
          cases u with
          | nil => cases hc
          | cons d u => exact hc
theorem isNm_of (l : List Nat) (h : nameA l ≠ []) : isNm (nameA l) = true := by
  unfold isNm
  rw [nameA_twice]
  cases hn : nameA l with
  | nil => exact absurd hn h
  | cons c t => simp
theorem no58 (l : List Nat) : ∀ c ∈ nameA l, c ≠ 58 := fun c hc e => by
  have := nameA_all l c hc
  rw [e, go58] at this
  cases this
theorem tw58 : ∀ (a b : List Nat), (∀ c ∈ a, c ≠ 58) → (a ++ 58 :: b).takeWhile (· != 58) = a ∧ (a ++ 58 :: b).dropWhile (· != 58) = 58 :: b
  | [], b, _ => ⟨rfl, rfl⟩
  | c :: a, b, h => by
    have hc : (c != 58) = true := by simpa using h c (by simp)
    obtain ⟨h1, h2⟩ := tw58 a b (fun x hx => h x (by simp [hx]))
    show (c :: (a ++ 58 :: b)).takeWhile (· != 58) = _ ∧ (c :: (a ++ 58 :: b)).dropWhile (· != 58) = _
    rw [List.takeWhile_cons, List.dropWhile_cons, hc, if_pos rfl, if_pos rfl, h1, h2]
    exact ⟨rfl, rfl⟩
theorem qname_isQ {l : List Nat} (h : qnameA l ≠ []) : isQ (qnameA l) = true := by
  have hn := qnameA_name h
  rw [qnameA_eq]
  split
  · rename_i hc
    have hb : nameA (l.drop (nameA l).length).tail ≠ [] := by
      intro e
      rw [e] at hc
      simp at hc
    obtain ⟨h1, h2⟩ := tw58 (nameA l) (nameA (l.drop (nameA l).length).tail) (no58 l)
    unfold isQ
    rw [if_pos (by simp), h1, h2, isNm_of l hn]
    exact isNm_of _ hb
  · unfold isQ
    rw [if_neg (by
      intro hc
      exact no58 l 58 (List.contains_iff_mem.1 hc) rfl)]
    exact isNm_of l hn
/-- Attributes as a start tag may have them. -/
def OkA (a : List (List Nat × List Nat)) : Prop := (∀ x ∈ a, isQ x.1 = true) ∧ (a.map (·.1)).Nodup
theorem OkA.snoc {a : List (List Nat × List Nat)} {n v : List Nat} (h : OkA a) (hn : isQ n = true) (hc : (a.map (·.1)).contains n = false) : OkA (a ++ [(n, v)]) := by
  refine ⟨fun x hx => ?_, ?_⟩
  · rcases List.mem_append.1 hx with hx | hx
    · exact h.1 x hx
    · rw [List.mem_singleton.1 hx]; exact hn
  · rw [List.map_append, List.nodup_append]
    refine ⟨h.2, by simp, fun x hx y hy => ?_⟩
    simp at hy
    subst hy
    intro e
    subst e
    rw [List.contains_iff_mem.2 hx] at hc
    cases hc
theorem attrs_okA (tag : Nat) : ∀ (f : Nat) (s s' : RS) (acc a : List (List Nat × List Nat)), OkA acc → RS.attrsGo tag f s acc = .ok (a, s') → OkA a
  | 0, s, s', acc, a, _, h => by cases h
  | f + 1, s, s', acc, a, hA, h => by
    rw [RS.attrsGo] at h
    simp only at h
    split at h
    · cases h; exact hA
    · split at h
      · cases h
      · rename_i hn
        split at h
        · cases h
        · split at h
          · cases h
          · refine attrs_okA tag f _ s' _ a (hA.snoc (qname_isQ fun e => hn (.inl e)) ?_) h
            cases hc : (acc.map (·.1)).contains (qnameA s.blanks.rest)
            · rfl
            · exact absurd (.inr hc) hn
end Go.Proofs.YtiembljlhmgpjaaGreatDoor
/- What Scan tells may be written: each step, in plain terms. -/
namespace Go.Proofs.YtiembljlhmgpjaaGreatDoor
theorem Told.same {s s' : RS} {r : Bool} (h : Told s r) (e1 : s'.toks = s.toks) (e2 : s'.opn = s.opn) (e3 : s'.run = s.run) : Told s' r := by
  obtain ⟨k, h1, h2, h3⟩ := h
  exact ⟨k, by rw [e1, e2]; exact h1, h2, by rw [e2, e3]; exact h3⟩
theorem Told.advT {s s' : RS} {r : Bool} (h : Told s r) (ha : AdvT s s') : Told s' r := h.same ha.same.2.2.2.1 ha.same.2.1 ha.same.2.2.1
theorem Told.adv {s s' : RS} {r : Bool} (h : Told s r) (ha : Adv s s') : Told s' r := h.advT ha.t
theorem flush_toks (y : RS) (o : List (List Nat)) : ({ y with opn := o } : RS).flush.toks = y.flush.toks ∧ ({ y with opn := o } : RS).flush.opn = o ∧ ({ y with opn := o } : RS).flush.run = [] := by
  unfold RS.flush
  by_cases h : y.run = []
  · rw [if_pos h, if_pos h]; exact ⟨rfl, rfl, h⟩
  · rw [if_neg h, if_neg h]; exact ⟨rfl, rfl, rfl⟩
/-- A token told by a reader whose open elements change with it. -/
theorem Told.with {y s' : RS} {r r' : Bool} {t : XTok} {a : Nat} {o' : List (List Nat)} (h : Told y r) (ht : ({ y with opn := o' } : RS).tell t a = .ok s') (hk : t.kind ≠ 4) (hs : ∀ ts k, DocS ts y.opn r k → DocS (ts ++ [t]) o' r' t.kind) : Told s' r' ∧ s'.opn = o' ∧ s'.run = [] := by
  obtain ⟨k, hf⟩ := h.flush
  obtain ⟨f1, f2, f3⟩ := flush_toks y o'
  unfold RS.tell at ht
  split at ht
  · cases ht
  · cases ht
    refine ⟨⟨t.kind, ?_, hk, fun hx => absurd f3 hx⟩, f2, f3⟩
    show DocS (({ y with opn := o' } : RS).flush.toks ++ [t]) ({ y with opn := o' } : RS).flush.opn r' t.kind
    rw [f1, f2]
    exact hs _ k hf
theorem Told.one {y s' : RS} {r : Bool} {t : XTok} {a : Nat} (h : Told y r) (ht : y.tell t a = .ok s') (hk : t.kind ≠ 4) (hs : ∀ ts k, DocS ts y.opn r k → DocS (ts ++ [t]) y.opn r t.kind) : Told s' r ∧ s'.opn = y.opn ∧ s'.run = [] :=
  h.with (o' := y.opn) ht hk hs
theorem com_told {s s' : RS} {r : Bool} (h : Told s r) (ht : s.tellComment = .ok s') : Told s' r ∧ s'.opn = s.opn := by
  unfold RS.tellComment at ht
  split at ht
  · cases ht
  · rename_i t s1 hc
    have ha := Adv.comment hc
    obtain ⟨h1, h2, _⟩ := (h.adv ha).one ht (by simp) (fun ts k hd => .comment t _ r k ts hd (comment_okT hc))
    exact ⟨h1, h2.trans ha.same.2.1⟩
theorem instr_told {s s' : RS} {r : Bool} (h : Told s r) (ht : s.tellInstruction = .ok s') : Told s' r ∧ s'.opn = s.opn := by
  unfold RS.tellInstruction at ht
  split at ht
  · cases ht
  · rename_i n t s1 hc
    have ha := (Adv.instruction hc).1
    obtain ⟨h1, h2, _⟩ := (h.adv ha).one ht (by simp) (fun ts k hd => .pi n t _ r k ts hd (instr_okT hc))
    exact ⟨h1, h2.trans ha.same.2.1⟩
theorem Told.run {s : RS} {r : Bool} (h : Told s r) (ho : s.opn ≠ []) (l : List Nat) : Told { s with run := l } r := by
  obtain ⟨k, h1, h2, _⟩ := h
  exact ⟨k, h1, h2, fun _ => ho⟩
theorem room_told {s s' : RS} {r : Bool} (h : Told s r) (ht : s.room = .ok s') : Told s' r := by
  unfold RS.room at ht
  split at ht
  · cases ht
  · cases ht; exact h
theorem end_told {s s' : RS} {r : Bool} (h : Told s r) (ht : s.endTag = .ok s') : Told s' r := by
  unfold RS.endTag at ht
  simp only at ht
  split at ht
  · rename_i hc
    have ha : Adv s ((s.take [60, 47]).qname.blanks.adv 1) := (((Adv.take s _).then (Adv.qname _)).then (Adv.blanks _)).then (Adv.by _ 1)
    refine ((h.adv ha).with ht (by simp) (fun ts k hd => ?_)).1
    rw [ha.same.2.1] at hd
    exact .fin _ _ r k ts hd (.fin _ (hd.isq _ (List.mem_of_getLast? hc.1))) hc.1
  · cases ht
theorem tell_opn {s s' : RS} {t : XTok} {a : Nat} (h : s.tell t a = .ok s') : s'.opn = s.opn := by
  unfold RS.tell at h
  split at h
  · cases h
  · cases h
    exact (flush_toks s s.opn).2.1
theorem start_told {s s' : RS} {r : Bool} (hG : Good s) (hO : OpnOk s) (hN : EOk s.ents) (hs : s.sees [60] = true) (hT : Told s r) (hr : s.opn = [] → r = false) (h : s.startTag = .ok s') : Told s' true := by
  rw [startTag_eq, take_adv hs] at h
  split at h
  · cases h
  · rename_i hne
    have h2 : Adv (s.adv 1) (s.adv 1).qname := Adv.qname _
    split at h
    · cases h
    · rename_i a s3 hat
      obtain ⟨k, hk⟩ := h2
      have h3 : AdvT (s.adv 1) s3 := (Adv.qname _).t.then (attrsGo_adv s.place _ _ [] a s3 (by show EOk s.ents; exact hN) (by rw [hk]; exact okL_drop (okL_drop hG.fine.okR 1) k) hG.sp hat)
      have h5 : AdvT (s.adv 1) ((s3.take [47]).adv 1) := (h3.then (Adv.take s3 [47]).t).then (Adv.by _ 1).t
      have h5' := (Adv.by s 1).t.then h5
      have O5 := hO.to h5'.same.2.1
      have T5 := hT.advT h5'
      have e5 := h5'.same.2.1
      have hA := attrs_okA _ _ _ _ [] a ⟨fun x hx => (by cases hx), by simp⟩ hat
      have hq := qname_isQ hne
      split at h
      · cases h
      · split at h
        · cases h
        · rename_i hlim
          have hl1 : ((s3.take [47]).adv 1).opn.length < 32 := by
            have := O5.2
            omega
          have hl2 : a.length ≤ 64 := by omega
          split at h
          · cases h
          · rename_i s6 htl
            have T6 := (T5.tell htl (((s3.take [47]).adv 1).opn ++ [qnameA (s.adv 1).rest]) (by simp) (fun ts k hd => .elem _ a _ r k ts hd (.elem _ a hq hA.1 hA.2) (by rw [e5]; exact hr) hl1 hl2)).1
            have e6 := tell_opn htl
            split at h
            · refine (T6.with (o' := s6.opn) h (by simp) (fun ts k hd => ?_)).1
              have := DocS.fin _ _ true k ts hd (.fin _ hq) (by simp)
              rw [List.dropLast_concat] at this
              rw [e6]
              exact this
            · cases h
              rw [e6]
              exact T6
theorem one_told {s s' : RS} (hG : Good s) (hO : OpnOk s) (hN : EOk s.ents) (ho : s.opn ≠ []) (hT : Told s true) (h : s.contentOne = .ok s') : Told s' true := by
  unfold RS.contentOne at h
  split at h
  · exact end_told hT h
  · split at h
    · exact (com_told hT h).1
    · split at h
      · unfold RS.section' at h
        split at h
        · cases h
        · rename_i t s1 ht
          have ha := (Adv.take s [60, 33, 91, 67, 68, 65, 84, 65, 91]).then (Adv.takeTo ht).1
          exact room_told ((hT.adv ha).run (by rw [ha.same.2.1]; exact ho) _) h
      · split at h
        · exact (instr_told hT h).1
        · split at h
          · rename_i h1
            exact start_told hG hO hN h1 hT (fun e => absurd e ho) h
          · split at h
            · unfold RS.refRun at h
              split at h
              · cases h
              · rename_i t s1 ht
                have ha := (ref_t hN hG.fine.okR hG.sp ht).1
                exact room_told ((hT.advT ha).run (by rw [ha.same.2.1]; exact ho) _) h
            · split at h
              · unfold RS.plain at h
                have ha := Adv.by s (plainA s.rest).length
                exact room_told ((hT.adv ha).run (by rw [ha.same.2.1]; exact ho) _) h
              · cases h
theorem content_told : ∀ (f : Nat) (s s' : RS), Good s → OpnOk s → EOk s.ents → Told s true → s.rest.length < f → RS.content f s = .ok s' → Told s' true ∧ s'.opn = []
  | 0, s, s', _, _, _, _, hl, _ => by omega
  | f + 1, s, s', hG, hO, hN, hT, hl, h => by
    unfold RS.content at h
    split at h
    · rename_i ho
      cases h
      exact ⟨hT, ho⟩
    · rename_i ho
      cases hc : s.contentOne with
      | error e => rw [hc] at h; cases h
      | ok s1 =>
        rw [hc] at h
        obtain ⟨k1, k2, k3, k4⟩ := contentOne_ok hG hO hN hc
        exact content_told f s1 s' k2 k3 k4 (one_told hG hO hN ho hT hc) (by omega) h
end Go.Proofs.YtiembljlhmgpjaaGreatDoor
