/- Tokens as a text, in plain terms: each token is read as it was, and so is the whole document. -/
import Derived.Test.YtefjfjieoiegnaaGreatDoorGaz
namespace Go.Proofs.YtefjfjieoiegnaaGreatDoor
def flushT (toks : List XTok) (run : List Nat) : List XTok := if run = [] then toks else toks ++ [⟨4, [], [], run⟩]
theorem flushT_nil (toks : List XTok) : flushT toks [] = toks := rfl
theorem flushT_run (toks : List XTok) {run : List Nat} (h : run ≠ []) : flushT toks run = toks ++ [⟨4, [], [], run⟩] := by unfold flushT; rw [if_neg h]
theorem tell_ok (P R : List Nat) (e : List (List Nat × List Nat)) (sp : Nat) (o : List (List Nat)) (toks : List XTok) (ru : List Nat) (n : Nat) (t : XTok) (pl : Nat) (h : (flushT toks ru).length < 4096) :
    (⟨P, R, e, sp, o, toks, ru, n⟩ : RS).tell t pl = .ok ⟨P, R, e, sp, o, flushT toks ru ++ [t], [], (tx P).length⟩ := by
  unfold RS.tell RS.flush
  unfold flushT at h ⊢
  by_cases hr : ru = []
  · subst hr
    rw [if_pos rfl] at h ⊢
    simp only [if_pos]
    rw [if_neg (by omega)]
    rfl
  · rw [if_neg hr] at h ⊢
    simp only [if_neg hr]
    rw [if_neg (by omega)]
    rfl
theorem attrs_len : ∀ a : List (List Nat × List Nat), a.length ≤ (a.flatMap attrL).length
  | [] => Nat.le_refl _
  | x :: a => by
    have := attrs_len a
    have h1 : 1 ≤ (attrL x).length := by unfold attrL; rw [List.length_cons]; omega
    rw [List.flatMap_cons, List.length_append, List.length_cons]
    omega
theorem attrs_head (a : List (List Nat × List Nat)) (R : List Nat) : ∀ c, (a.flatMap attrL ++ 62 :: R).head? = some c → goC c = false ∧ c ≠ 58 := by
  intro c hc
  cases a with
  | nil => cases hc; exact ⟨by decide, by decide⟩
  | cons x a => cases hc; exact ⟨by decide, by decide⟩
theorem start_back (P R : List Nat) (e : List (List Nat × List Nat)) (sp : Nat) (o : List (List Nat)) (toks : List XTok) (ru : List Nat) (n : Nat) (k : List Nat) (a : List (List Nat × List Nat)) (hk : isQ k = true) (ha : ∀ x ∈ a, isQ x.1 = true) (hd : (a.map (·.1)).Nodup) (ho : o.length < 32) (hl : a.length ≤ 64) (ht : (flushT toks ru).length < 4096) :
    ∃ P' n', (⟨P, 60 :: (k ++ (a.flatMap attrL ++ [62])) ++ R, e, sp, o, toks, ru, n⟩ : RS).startTag = .ok ⟨P', R, e, sp, o ++ [k], flushT toks ru ++ [⟨2, k, a, []⟩], [], n'⟩ := by
  have hr : 60 :: (k ++ (a.flatMap attrL ++ [62])) ++ R = [60] ++ (k ++ (a.flatMap attrL ++ 62 :: R)) := by simp
  rw [hr]
  generalize hZ : a.flatMap attrL ++ 62 :: R = Z
  have hzh : ∀ c, Z.head? = some c → goC c = false ∧ c ≠ 58 := by rw [← hZ]; exact attrs_head a R
  have e1 : (⟨P, [60] ++ (k ++ Z), e, sp, o, toks, ru, n⟩ : RS).take [60] = ⟨P ++ [60], k ++ Z, e, sp, o, toks, ru, n⟩ := by
    unfold RS.take
    rw [if_pos (by simp [List.isPrefixOf])]
    exact adv_app P [60] (k ++ Z) e sp o toks ru n
  have e2 : qnameA (k ++ Z) = k := isQ_run hk hzh
  have e3 : (⟨P ++ [60], k ++ Z, e, sp, o, toks, ru, n⟩ : RS).qname = ⟨P ++ [60] ++ k, Z, e, sp, o, toks, ru, n⟩ := by
    unfold RS.qname
    simp only
    rw [e2]
    exact adv_app _ k Z e sp o toks ru n
  have hne : k ≠ [] := by obtain ⟨c, u, h, _⟩ := isQ_beg hk; rw [h]; simp
  obtain ⟨P3, e4⟩ : ∃ P3, (⟨P ++ [60] ++ k, Z, e, sp, o, toks, ru, n⟩ : RS).attributes (⟨P, [60] ++ (k ++ Z), e, sp, o, toks, ru, n⟩ : RS).place = .ok (a, ⟨P3, 62 :: R, e, sp, o, toks, ru, n⟩) := by
    unfold RS.attributes
    have hlen : a.length < Z.length + 1 := by
      have := attrs_len a
      rw [← hZ, List.length_append]
      omega
    obtain ⟨P3, h⟩ := attrs_back (⟨P, [60] ++ (k ++ Z), e, sp, o, toks, ru, n⟩ : RS).place R e sp o toks ru n a [] (Z.length + 1) (P ++ [60] ++ k) ha (by simpa using hd) hlen
    rw [hZ, List.nil_append] at h
    exact ⟨P3, h⟩
  have e5 : (⟨P3, 62 :: R, e, sp, o, toks, ru, n⟩ : RS).take [47] = ⟨P3, 62 :: R, e, sp, o, toks, ru, n⟩ := rfl
  have e6 : (⟨P3, 62 :: R, e, sp, o, toks, ru, n⟩ : RS).adv 1 = ⟨P3 ++ [62], R, e, sp, o, toks, ru, n⟩ := rfl
  refine ⟨P3 ++ [62], (tx (P3 ++ [62])).length, ?_⟩
  unfold RS.startTag
  simp only
  rw [e1]
  simp only
  rw [e2, if_neg hne, e3, e4]
  simp only
  rw [e5, e6]
  simp only
  rw [if_neg (show ¬ (!heads 62 (62 :: R)) = true from fun h => by cases h), if_neg (by omega), tell_ok _ _ _ _ _ _ _ _ _ _ ht]
  simp only
  rw [if_neg (show ¬ heads 47 (62 :: R) = true from fun h => by cases h)]
theorem end_back (P R : List Nat) (e : List (List Nat × List Nat)) (sp : Nat) (o : List (List Nat)) (toks : List XTok) (ru : List Nat) (n : Nat) (k : List Nat) (hk : isQ k = true) (ho : o.getLast? = some k) (ht : (flushT toks ru).length < 4096) :
    ∃ P' n', (⟨P, 60 :: 47 :: (k ++ [62]) ++ R, e, sp, o, toks, ru, n⟩ : RS).endTag = .ok ⟨P', R, e, sp, o.dropLast, flushT toks ru ++ [⟨7, k, [], []⟩], [], n'⟩ := by
  have hr : 60 :: 47 :: (k ++ [62]) ++ R = [60, 47] ++ (k ++ 62 :: R) := by simp
  rw [hr]
  have e1 : (⟨P, [60, 47] ++ (k ++ 62 :: R), e, sp, o, toks, ru, n⟩ : RS).take [60, 47] = ⟨P ++ [60, 47], k ++ 62 :: R, e, sp, o, toks, ru, n⟩ := by
    unfold RS.take
    rw [if_pos (by simp [List.isPrefixOf])]
    exact adv_app P [60, 47] (k ++ 62 :: R) e sp o toks ru n
  have e2 : qnameA (k ++ 62 :: R) = k := isQ_run hk (fun c h => by cases h; exact ⟨by decide, by decide⟩)
  have e3 : (⟨P ++ [60, 47], k ++ 62 :: R, e, sp, o, toks, ru, n⟩ : RS).qname = ⟨P ++ [60, 47] ++ k, 62 :: R, e, sp, o, toks, ru, n⟩ := by
    unfold RS.qname
    simp only
    rw [e2]
    exact adv_app _ k (62 :: R) e sp o toks ru n
  have e4 := (blanks_no (P ++ [60, 47] ++ k) (62 :: R) e sp o toks ru n (fun c h => by cases h; rfl)).1
  have e5 : (⟨P ++ [60, 47] ++ k, 62 :: R, e, sp, o, toks, ru, n⟩ : RS).adv 1 = ⟨P ++ [60, 47] ++ k ++ [62], R, e, sp, o, toks, ru, n⟩ := rfl
  refine ⟨P ++ [60, 47] ++ k ++ [62], (tx (P ++ [60, 47] ++ k ++ [62])).length, ?_⟩
  unfold RS.endTag
  simp only
  rw [e1]
  simp only
  rw [e2, e3, e4, if_pos ⟨ho, rfl⟩, e5]
  exact tell_ok _ _ _ _ _ _ _ _ _ _ ht
theorem comment_back (P R : List Nat) (e : List (List Nat × List Nat)) (sp : Nat) (o : List (List Nat)) (toks : List XTok) (ru : List Nat) (n : Nat) (l : List Nat) (h : cutL [45, 45] l = none) (h' : l.getLast? ≠ some 45) (ht : (flushT toks ru).length < 4096) :
    ∃ P' n', (⟨P, 60 :: 33 :: 45 :: 45 :: (l ++ [45, 45, 62]) ++ R, e, sp, o, toks, ru, n⟩ : RS).tellComment = .ok ⟨P', R, e, sp, o, flushT toks ru ++ [⟨5, [], [], l⟩], [], n'⟩ := by
  have hr : 60 :: 33 :: 45 :: 45 :: (l ++ [45, 45, 62]) ++ R = [60, 33, 45, 45] ++ (l ++ 45 :: 45 :: 62 :: R) := by simp
  rw [hr]
  have e1 : (⟨P, [60, 33, 45, 45] ++ (l ++ 45 :: 45 :: 62 :: R), e, sp, o, toks, ru, n⟩ : RS).take [60, 33, 45, 45] = ⟨P ++ [60, 33, 45, 45], l ++ 45 :: 45 :: 62 :: R, e, sp, o, toks, ru, n⟩ := by
    unfold RS.take
    rw [if_pos (by simp [List.isPrefixOf])]
    exact adv_app P [60, 33, 45, 45] _ e sp o toks ru n
  have e2 : (⟨P ++ [60, 33, 45, 45], l ++ 45 :: 45 :: 62 :: R, e, sp, o, toks, ru, n⟩ : RS).takeTo [45, 45] = some (l, ⟨P ++ [60, 33, 45, 45] ++ (l ++ [45, 45]), 62 :: R, e, sp, o, toks, ru, n⟩) := by
    unfold RS.takeTo
    simp only
    rw [cut_two 45 45 l (62 :: R) h (fun _ => h')]
    have := adv_app (P ++ [60, 33, 45, 45]) (l ++ [45, 45]) (62 :: R) e sp o toks ru n
    rw [List.length_append, List.append_assoc l] at this
    exact congrArg (fun x => some (l, x)) this
  have e3 : (⟨P, [60, 33, 45, 45] ++ (l ++ 45 :: 45 :: 62 :: R), e, sp, o, toks, ru, n⟩ : RS).comment = some (l, ⟨P ++ [60, 33, 45, 45] ++ (l ++ [45, 45]) ++ [62], R, e, sp, o, toks, ru, n⟩) := by
    unfold RS.comment
    rw [e1, e2]
    rfl
  refine ⟨P ++ [60, 33, 45, 45] ++ (l ++ [45, 45]) ++ [62], (tx (P ++ [60, 33, 45, 45] ++ (l ++ [45, 45]) ++ [62])).length, ?_⟩
  unfold RS.tellComment
  rw [e3]
  exact tell_ok _ _ _ _ _ _ _ _ _ _ ht
theorem target_name {k : List Nat} (h : isTarget k = true) : isNm k = true ∧ k.map lowC ≠ [120, 109, 108] := by
  unfold isTarget at h
  simpa using h
theorem name_run {k r : List Nat} (h : isNm k = true) (hr : ∀ c, r.head? = some c → goC c = false) : nameA (k ++ r) = k := by
  obtain ⟨na, ea⟩ := isNm_name h
  exact nameA_run k r hr ea na
theorem pi_back (P R : List Nat) (e : List (List Nat × List Nat)) (sp : Nat) (o : List (List Nat)) (toks : List XTok) (ru : List Nat) (n : Nat) (k l : List Nat) (h : isTarget k = true) (hc : cutL [63, 62] l = none) (hb : ∀ c, l.head? = some c → blankC c = false) (ht : (flushT toks ru).length < 4096) :
    ∃ P' n', (⟨P, 60 :: 63 :: (k ++ ((if l = [] then [] else 32 :: l) ++ [63, 62])) ++ R, e, sp, o, toks, ru, n⟩ : RS).tellInstruction = .ok ⟨P', R, e, sp, o, flushT toks ru ++ [⟨6, k, [], l⟩], [], n'⟩ := by
  have hnm := (target_name h).1
  have main : ∀ Z, (60 :: 63 :: (k ++ ((if l = [] then [] else 32 :: l) ++ [63, 62])) ++ R = [60, 63] ++ (k ++ Z)) → (∀ c, Z.head? = some c → goC c = false) →
      (∃ P', (if (⟨P ++ [60, 63] ++ k, Z, e, sp, o, toks, ru, n⟩ : RS).sees [63, 62] then some (k, [], (⟨P ++ [60, 63] ++ k, Z, e, sp, o, toks, ru, n⟩ : RS).adv 2) else
        if !(⟨P ++ [60, 63] ++ k, Z, e, sp, o, toks, ru, n⟩ : RS).blank then none else
        ((⟨P ++ [60, 63] ++ k, Z, e, sp, o, toks, ru, n⟩ : RS).blanks.takeTo [63, 62]).map fun x => (k, x.1, x.2)) = some (k, l, ⟨P', R, e, sp, o, toks, ru, n⟩)) →
      ∃ P' n', (⟨P, 60 :: 63 :: (k ++ ((if l = [] then [] else 32 :: l) ++ [63, 62])) ++ R, e, sp, o, toks, ru, n⟩ : RS).tellInstruction = .ok ⟨P', R, e, sp, o, flushT toks ru ++ [⟨6, k, [], l⟩], [], n'⟩ := by
    intro Z hr hz ⟨P', hp⟩
    rw [hr]
    have e1 : (⟨P, [60, 63] ++ (k ++ Z), e, sp, o, toks, ru, n⟩ : RS).take [60, 63] = ⟨P ++ [60, 63], k ++ Z, e, sp, o, toks, ru, n⟩ := by
      unfold RS.take
      rw [if_pos (by simp [List.isPrefixOf])]
      exact adv_app P [60, 63] _ e sp o toks ru n
    have e2 : nameA (k ++ Z) = k := name_run hnm hz
    have e3 : (⟨P ++ [60, 63], k ++ Z, e, sp, o, toks, ru, n⟩ : RS).name = ⟨P ++ [60, 63] ++ k, Z, e, sp, o, toks, ru, n⟩ := by
      unfold RS.name
      simp only
      rw [e2]
      exact adv_app _ k Z e sp o toks ru n
    have e4 : (⟨P, [60, 63] ++ (k ++ Z), e, sp, o, toks, ru, n⟩ : RS).instruction = some (k, l, ⟨P', R, e, sp, o, toks, ru, n⟩) := by
      unfold RS.instruction
      simp only
      rw [e1]
      simp only
      rw [e2, e3, h, if_neg (by decide)]
      exact hp
    refine ⟨P', (tx P').length, ?_⟩
    unfold RS.tellInstruction
    rw [e4]
    exact tell_ok _ _ _ _ _ _ _ _ _ _ ht
  by_cases hl : l = []
  · subst hl
    refine main (63 :: 62 :: R) (by simp) (fun c hc => by cases hc; decide) ⟨P ++ [60, 63] ++ k ++ [63, 62], ?_⟩
    rw [if_pos (show (⟨P ++ [60, 63] ++ k, 63 :: 62 :: R, e, sp, o, toks, ru, n⟩ : RS).sees [63, 62] = true by simp [RS.sees, List.isPrefixOf])]
    rfl
  · refine main ([32] ++ (l ++ 63 :: 62 :: R)) (by rw [if_neg hl]; simp) (fun c hc => by cases hc; decide) ⟨P ++ [60, 63] ++ k ++ [32] ++ (l ++ [63, 62]), ?_⟩
    have hbl := blanks_at (P ++ [60, 63] ++ k) [32] (l ++ 63 :: 62 :: R) e sp o toks ru n (fun x hx => by simp at hx; subst hx; rfl) (fun c hc => hb c (by
      cases l with
      | nil => exact absurd rfl hl
      | cons d l => exact hc))
    rw [if_neg (show ¬ (⟨P ++ [60, 63] ++ k, [32] ++ (l ++ 63 :: 62 :: R), e, sp, o, toks, ru, n⟩ : RS).sees [63, 62] = true by simp [RS.sees, List.isPrefixOf]), hbl.1, hbl.2, if_neg (by decide)]
    unfold RS.takeTo
    simp only
    rw [cut_two 63 62 l R hc (fun h => absurd h (by decide))]
    have := adv_app (P ++ [60, 63] ++ k ++ [32]) (l ++ [63, 62]) R e sp o toks ru n
    rw [List.length_append, List.append_assoc l] at this
    exact congrArg (fun x => some (k, l, x)) this
/-- What reads a token. -/
theorem one_end {s : RS} {t : List Nat} (h : s.rest = 60 :: 47 :: t) : s.contentOne = s.endTag := by
  unfold RS.contentOne RS.sees
  rw [h]
  simp [List.isPrefixOf]
theorem one_comment {s : RS} {t : List Nat} (h : s.rest = 60 :: 33 :: 45 :: 45 :: t) : s.contentOne = s.tellComment := by
  unfold RS.contentOne RS.sees
  rw [h]
  simp [List.isPrefixOf]
theorem one_pi {s : RS} {t : List Nat} (h : s.rest = 60 :: 63 :: t) : s.contentOne = s.tellInstruction := by
  unfold RS.contentOne RS.sees
  rw [h]
  simp [List.isPrefixOf]
theorem one_start {s : RS} {c : Nat} {t : List Nat} (h : s.rest = 60 :: c :: t) (h1 : c ≠ 47) (h2 : c ≠ 33) (h3 : c ≠ 63) : s.contentOne = s.startTag := by
  unfold RS.contentOne RS.sees
  rw [h]
  simp [List.isPrefixOf, Ne.symm h1, Ne.symm h2, Ne.symm h3]
theorem writeX_cons (t : XTok) (ts : List XTok) : writeX (t :: ts) = tokL t ++ writeX ts := rfl
theorem tok_head {o : List (List Nat)} {r : Bool} {ts : List XTok} (h : DocT o r 4 ts) (ho : o ≠ []) : ∃ R, writeX ts = 60 :: R := by
  cases h with
  | done => exact absurd rfl ho
  | elem n a o r k ts h hr ho' ha hn => exact ⟨_, rfl⟩
  | fin n o r k ts h ho' hn => exact ⟨_, rfl⟩
  | text l o r k ts h ho' hk hn => exact absurd rfl hk
  | comment l o r k ts h hn => exact ⟨_, rfl⟩
  | pi n l o r k ts h hn => exact ⟨_, rfl⟩
theorem content_nil (f : Nat) (s : RS) (h : s.opn = []) : RS.content f s = .ok s := by
  cases f with
  | zero => rfl
  | succ f => rw [RS.content, if_pos h]
/-- What a run of content leaves. -/
def InnerB (ts : List XTok) (o : List (List Nat)) (P : List Nat) (toks : List XTok) (ru : List Nat) (n : Nat) : Prop :=
  ∃ ts1 ts2 j P' n', ts = ts1 ++ ts2 ∧ DocT [] true 7 ts2 ∧ j ≤ (writeX ts1).length ∧ ∀ f, RS.content (f + j) ⟨P, writeX ts, [], 0, o, toks, ru, n⟩ = .ok ⟨P', writeX ts2, [], 0, [], flushT toks ru ++ ts1, [], n'⟩
theorem inner_step {t : XTok} {ts : List XTok} {o o' : List (List Nat)} {P P' : List Nat} {toks : List XTok} {ru : List Nat} {n n' : Nat} (ho : o ≠ []) (hlen : 1 ≤ (tokL t).length)
    (h1 : (⟨P, tokL t ++ writeX ts, [], 0, o, toks, ru, n⟩ : RS).contentOne = .ok ⟨P', writeX ts, [], 0, o', flushT toks ru ++ [t], [], n'⟩) (ih : InnerB ts o' P' (flushT toks ru ++ [t]) [] n') : InnerB (t :: ts) o P toks ru n := by
  obtain ⟨ts1, ts2, j, P2, n2, rfl, hd, hj, hc⟩ := ih
  refine ⟨t :: ts1, ts2, j + 1, P2, n2, rfl, hd, ?_, fun f => ?_⟩
  · rw [writeX_cons, List.length_append]
    omega
  · rw [writeX_cons, ← Nat.add_assoc, content_step ho h1, hc f, flushT_nil, List.append_assoc]
    rfl
theorem inner_back : ∀ (ts : List XTok) (o : List (List Nat)) (k : Nat) (P : List Nat) (toks : List XTok) (ru : List Nat) (n : Nat), o ≠ [] → DocT o true k ts → (ru ≠ [] → k = 4) → (flushT toks ru).length + ts.length ≤ 4096 → InnerB ts o P toks ru n
  | [], o, k, P, toks, ru, n, ho, h, _, _ => by
    cases h
    exact absurd rfl ho
  | t :: ts, o, k, P, toks, ru, n, ho, h, hru, hl => by
    rw [List.length_cons] at hl
    cases h with
    | elem m a _ _ _ _ h hr ho' ha hn =>
      cases h with | elem _ _ hq hqa hnd =>
      obtain ⟨P1, n1, h1⟩ := start_back P (writeX ts) [] 0 o toks ru n m a hq hqa hnd ho' ha (by omega)
      obtain ⟨c, u, hcu, hbeg⟩ := isQ_beg hq
      obtain ⟨_, hc1, _, hc2, hc3⟩ := beg_not hbeg
      refine inner_step ho (by simp [tokL]) ?_ (inner_back ts (o ++ [m]) 2 P1 (flushT toks ru ++ [⟨2, m, a, []⟩]) [] n1 (by simp) hn (fun h => absurd rfl h) (by rw [flushT_nil, List.length_append]; simp; omega))
      show (⟨P, 60 :: (m ++ (a.flatMap attrL ++ [62])) ++ writeX ts, [], 0, o, toks, ru, n⟩ : RS).contentOne = _
      rw [one_start (c := c) (t := u ++ (a.flatMap attrL ++ [62]) ++ writeX ts) (by rw [hcu]; simp) hc1 hc2 hc3]
      exact h1
    | fin m _ _ _ _ h ho' hn =>
      cases h with | fin _ hq =>
      obtain ⟨P1, n1, h1⟩ := end_back P (writeX ts) [] 0 o toks ru n m hq ho' (by omega)
      have hone : (⟨P, tokL ⟨7, m, [], []⟩ ++ writeX ts, [], 0, o, toks, ru, n⟩ : RS).contentOne = .ok ⟨P1, writeX ts, [], 0, o.dropLast, flushT toks ru ++ [⟨7, m, [], []⟩], [], n1⟩ := by
        show (⟨P, 60 :: 47 :: (m ++ [62]) ++ writeX ts, [], 0, o, toks, ru, n⟩ : RS).contentOne = _
        rw [one_end (t := m ++ [62] ++ writeX ts) rfl]
        exact h1
      by_cases hd : o.dropLast = []
      · rw [hd] at hone hn
        refine ⟨[⟨7, m, [], []⟩], ts, 1, P1, n1, rfl, hn, by simp [writeX, tokL], fun f => ?_⟩
        rw [writeX_cons, content_step ho hone, content_nil f _ rfl]
      · exact inner_step ho (by simp [tokL]) hone (inner_back ts o.dropLast 7 P1 (flushT toks ru ++ [⟨7, m, [], []⟩]) [] n1 hd hn (fun h => absurd rfl h) (by rw [flushT_nil, List.length_append]; simp; omega))
    | text l _ _ _ _ h ho' hk hn =>
      cases h with | text _ hne =>
      have hr0 : ru = [] := by
        by_cases hr : ru = []
        · exact hr
        · exact absurd (hru hr) hk
      subst hr0
      rw [flushT_nil] at hl
      obtain ⟨R, hR⟩ := tok_head hn ho
      obtain ⟨j, P1, hj, h1⟩ := content_escaped R [] 0 o toks n ho (by omega) l.length l rfl P []
      rw [List.nil_append, ← hR] at h1
      obtain ⟨ts1, ts2, j2, P2, n2, rfl, hd, hj2, hc⟩ := inner_back ts o 4 P1 toks l n ho hn (fun _ => rfl) (by rw [flushT_run _ hne, List.length_append]; simp; omega)
      refine ⟨⟨4, [], [], l⟩ :: ts1, ts2, j2 + j, P2, n2, rfl, hd, ?_, fun f => ?_⟩
      · rw [writeX_cons, List.length_append]
        show _ ≤ (mapN escN l).length + _
        omega
      · rw [writeX_cons, ← Nat.add_assoc]
        show RS.content (f + j2 + j) ⟨P, mapN escN l ++ writeX (ts1 ++ ts2), [], 0, o, toks, [], n⟩ = _
        rw [h1, hc f, flushT_run _ hne, flushT_nil, List.append_assoc]
        rfl
    | comment l _ _ _ _ h hn =>
      cases h with | comment _ h1 h2 =>
      obtain ⟨P1, n1, h3⟩ := comment_back P (writeX ts) [] 0 o toks ru n l h1 h2 (by omega)
      refine inner_step ho (by simp [tokL]) ?_ (inner_back ts o 5 P1 (flushT toks ru ++ [⟨5, [], [], l⟩]) [] n1 ho hn (fun h => absurd rfl h) (by rw [flushT_nil, List.length_append]; simp; omega))
      show (⟨P, 60 :: 33 :: 45 :: 45 :: (l ++ [45, 45, 62]) ++ writeX ts, [], 0, o, toks, ru, n⟩ : RS).contentOne = _
      rw [one_comment (t := l ++ [45, 45, 62] ++ writeX ts) rfl]
      exact h3
    | pi m l _ _ _ _ h hn =>
      cases h with | pi _ _ h1 h2 h3 =>
      obtain ⟨P1, n1, h4⟩ := pi_back P (writeX ts) [] 0 o toks ru n m l h1 h2 h3 (by omega)
      refine inner_step ho (by simp [tokL]) ?_ (inner_back ts o 6 P1 (flushT toks ru ++ [⟨6, m, [], l⟩]) [] n1 ho hn (fun h => absurd rfl h) (by rw [flushT_nil, List.length_append]; simp; omega))
      show (⟨P, 60 :: 63 :: (m ++ ((if l = [] then [] else 32 :: l) ++ [63, 62])) ++ writeX ts, [], 0, o, toks, ru, n⟩ : RS).contentOne = _
      rw [one_pi (t := m ++ ((if l = [] then [] else 32 :: l) ++ [63, 62]) ++ writeX ts) rfl]
      exact h4
/-- Comments and processing instructions at the top. -/
theorem top_comment (f : Nat) (typed r : Bool) (P R : List Nat) (toks : List XTok) (n : Nat) (l : List Nat) (h : cutL [45, 45] l = none) (h' : l.getLast? ≠ some 45) (ht : toks.length < 4096) :
    ∃ P' n', RS.docGo (f + 1) typed r ⟨P, tokL ⟨5, [], [], l⟩ ++ R, [], 0, [], toks, [], n⟩ = RS.docGo f typed r ⟨P', R, [], 0, [], toks ++ [⟨5, [], [], l⟩], [], n'⟩ ∧
      RS.noType (f + 1) ⟨P, tokL ⟨5, [], [], l⟩ ++ R, [], 0, [], toks, [], n⟩ = RS.noType f ⟨P', R, [], 0, [], toks ++ [⟨5, [], [], l⟩], [], n'⟩ := by
  obtain ⟨P', n', h1⟩ := comment_back P R [] 0 [] toks [] n l h h' ht
  refine ⟨P', n', ?_, ?_⟩
  · show RS.docGo (f + 1) typed r (⟨P, 60 :: 33 :: 45 :: 45 :: (l ++ [45, 45, 62]) ++ R, [], 0, [], toks, [], n⟩ : RS) = _
    rw [docGo_eq, (blanks_no P (60 :: 33 :: 45 :: 45 :: (l ++ [45, 45, 62]) ++ R) [] 0 [] toks [] n (fun c hc => by cases hc; rfl)).1, if_pos (by simp [RS.sees, List.isPrefixOf]), h1]
    rfl
  · show RS.noType (f + 1) (⟨P, 60 :: 33 :: 45 :: 45 :: (l ++ [45, 45, 62]) ++ R, [], 0, [], toks, [], n⟩ : RS) = _
    rw [noType_eq, (blanks_no P (60 :: 33 :: 45 :: 45 :: (l ++ [45, 45, 62]) ++ R) [] 0 [] toks [] n (fun c hc => by cases hc; rfl)).1, if_pos (by simp [RS.sees, List.isPrefixOf]), h1]
    rfl
theorem top_pi (f : Nat) (typed r : Bool) (P R : List Nat) (toks : List XTok) (n : Nat) (k l : List Nat) (h : isTarget k = true) (hc : cutL [63, 62] l = none) (hb : ∀ c, l.head? = some c → blankC c = false) (ht : toks.length < 4096) :
    ∃ P' n', RS.docGo (f + 1) typed r ⟨P, tokL ⟨6, k, [], l⟩ ++ R, [], 0, [], toks, [], n⟩ = RS.docGo f typed r ⟨P', R, [], 0, [], toks ++ [⟨6, k, [], l⟩], [], n'⟩ ∧
      RS.noType (f + 1) ⟨P, tokL ⟨6, k, [], l⟩ ++ R, [], 0, [], toks, [], n⟩ = RS.noType f ⟨P', R, [], 0, [], toks ++ [⟨6, k, [], l⟩], [], n'⟩ := by
  obtain ⟨P', n', h1⟩ := pi_back P R [] 0 [] toks [] n k l h hc hb ht
  refine ⟨P', n', ?_, ?_⟩
  · show RS.docGo (f + 1) typed r (⟨P, 60 :: 63 :: (k ++ ((if l = [] then [] else 32 :: l) ++ [63, 62])) ++ R, [], 0, [], toks, [], n⟩ : RS) = _
    rw [docGo_eq, (blanks_no P (60 :: 63 :: (k ++ ((if l = [] then [] else 32 :: l) ++ [63, 62])) ++ R) [] 0 [] toks [] n (fun c hc => by cases hc; rfl)).1, if_neg (by simp [RS.sees, List.isPrefixOf]), if_pos (by simp [RS.sees, List.isPrefixOf]), h1]
    rfl
  · show RS.noType (f + 1) (⟨P, 60 :: 63 :: (k ++ ((if l = [] then [] else 32 :: l) ++ [63, 62])) ++ R, [], 0, [], toks, [], n⟩ : RS) = _
    rw [noType_eq, (blanks_no P (60 :: 63 :: (k ++ ((if l = [] then [] else 32 :: l) ++ [63, 62])) ++ R) [] 0 [] toks [] n (fun c hc => by cases hc; rfl)).1, if_neg (by simp [RS.sees, List.isPrefixOf]), if_pos (by simp [RS.sees, List.isPrefixOf]), h1]
    rfl
theorem after_back : ∀ (ts : List XTok) (k : Nat) (P : List Nat) (toks : List XTok) (n f : Nat) (typed : Bool), DocT [] true k ts → toks.length + ts.length ≤ 4096 → ts.length < f →
    ∃ P' n', RS.docGo f typed true ⟨P, writeX ts, [], 0, [], toks, [], n⟩ = .ok ⟨P', [], [], 0, [], toks ++ ts, [], n'⟩
  | [], k, P, toks, n, f, typed, _, _, hf => by
    obtain ⟨g, rfl⟩ : ∃ g, f = g + 1 := ⟨f - 1, by simp at hf; omega⟩
    refine ⟨P, n, ?_⟩
    show RS.docGo (g + 1) typed true ⟨P, [], [], 0, [], toks, [], n⟩ = _
    rw [docGo_eq, (blanks_no P [] [] 0 [] toks [] n (fun c hc => by cases hc)).1, List.append_nil]
    cases typed <;> rfl
  | t :: ts, k, P, toks, n, f, typed, h, hl, hf => by
    rw [List.length_cons] at hl hf
    obtain ⟨g, rfl⟩ : ∃ g, f = g + 1 := ⟨f - 1, by omega⟩
    cases h with
    | elem m a _ _ _ _ h hr ho' ha hn => exact absurd (hr rfl) (by decide)
    | fin m _ _ _ _ h ho' hn => cases ho'
    | text l _ _ _ _ h ho' hk hn => exact absurd rfl ho'
    | comment l _ _ _ _ h hn =>
      cases h with | comment _ h1 h2 =>
      obtain ⟨P1, n1, h3, _⟩ := top_comment g typed true P (writeX ts) toks n l h1 h2 (by omega)
      obtain ⟨P2, n2, h4⟩ := after_back ts 5 P1 (toks ++ [⟨5, [], [], l⟩]) n1 g typed hn (by rw [List.length_append]; simp; omega) (by omega)
      exact ⟨P2, n2, by rw [writeX_cons, h3, h4, List.append_assoc]; rfl⟩
    | pi m l _ _ _ _ h hn =>
      cases h with | pi _ _ h1 h2 h3 =>
      obtain ⟨P1, n1, h4, _⟩ := top_pi g typed true P (writeX ts) toks n m l h1 h2 h3 (by omega)
      obtain ⟨P2, n2, h5⟩ := after_back ts 6 P1 (toks ++ [⟨6, m, [], l⟩]) n1 g typed hn (by rw [List.length_append]; simp; omega) (by omega)
      exact ⟨P2, n2, by rw [writeX_cons, h4, h5, List.append_assoc]; rfl⟩
theorem before_back : ∀ (ts : List XTok) (k : Nat) (P : List Nat) (toks : List XTok) (n f : Nat), DocT [] false k ts → toks.length + ts.length ≤ 4096 → ts.length < f →
    (∃ P' n', RS.docGo f false false ⟨P, writeX ts, [], 0, [], toks, [], n⟩ = .ok ⟨P', [], [], 0, [], toks ++ ts, [], n'⟩) ∧ RS.noType f ⟨P, writeX ts, [], 0, [], toks, [], n⟩ = true
  | [], k, P, toks, n, f, h, _, hf => by cases h
  | t :: ts, k, P, toks, n, f, h, hl, hf => by
    rw [List.length_cons] at hl hf
    obtain ⟨g, rfl⟩ : ∃ g, f = g + 1 := ⟨f - 1, by omega⟩
    cases h with
    | elem m a _ _ _ _ h hr ho' ha hn =>
      cases h with | elem _ _ hq hqa hnd =>
      obtain ⟨P1, n1, h1⟩ := start_back P (writeX ts) [] 0 [] toks [] n m a hq hqa hnd ho' ha (by rw [flushT_nil]; omega)
      obtain ⟨c, u, hcu, hbeg⟩ := isQ_beg hq
      obtain ⟨_, hc1, _, hc2, hc3⟩ := beg_not hbeg
      rw [flushT_nil] at h1
      obtain ⟨ts1, ts2, j, P2, n2, rfl, hd, hj, hc⟩ := inner_back ts ([] ++ [m]) 2 P1 (toks ++ [⟨2, m, a, []⟩]) [] n1 (by simp) hn (fun h => absurd rfl h) (by rw [flushT_nil, List.length_append]; simp; omega)
      rw [flushT_nil] at hc
      obtain ⟨P3, n3, h3⟩ := after_back ts2 7 P2 (toks ++ [⟨2, m, a, []⟩] ++ ts1) n2 g false hd (by rw [List.length_append, List.length_append]; rw [List.length_append] at hl; simp; omega) (by rw [List.length_append] at hf; omega)
      have hcont : RS.content ((writeX (ts1 ++ ts2)).length + 1) ⟨P1, writeX (ts1 ++ ts2), [], 0, [] ++ [m], toks ++ [⟨2, m, a, []⟩], [], n1⟩ = .ok ⟨P2, writeX ts2, [], 0, [], toks ++ [⟨2, m, a, []⟩] ++ ts1, [], n2⟩ := by
        have hw : (writeX (ts1 ++ ts2)).length + 1 = ((writeX ts1).length - j + (writeX ts2).length + 1) + j := by
          unfold writeX
          rw [List.flatMap_append, List.length_append]
          unfold writeX at hj
          omega
        rw [hw]
        exact hc _
      have hb := (blanks_no P (60 :: (m ++ (a.flatMap attrL ++ [62])) ++ writeX (ts1 ++ ts2)) [] 0 [] toks [] n (fun c hc => by cases hc; rfl)).1
      have hsee : ∀ z x, z ≠ c → (⟨P, 60 :: (m ++ (a.flatMap attrL ++ [62])) ++ writeX (ts1 ++ ts2), [], 0, [], toks, [], n⟩ : RS).sees (60 :: z :: x) = false := fun z x hz => by
        unfold RS.sees
        simp only
        rw [hcu]
        simp [List.isPrefixOf, hz]
      have s4 : (⟨P, 60 :: (m ++ (a.flatMap attrL ++ [62])) ++ writeX (ts1 ++ ts2), [], 0, [], toks, [], n⟩ : RS).sees [60] = true := by simp [RS.sees, List.isPrefixOf]
      refine ⟨⟨P3, n3, ?_⟩, ?_⟩
      · show RS.docGo (g + 1) false false ⟨P, 60 :: (m ++ (a.flatMap attrL ++ [62])) ++ writeX (ts1 ++ ts2), [], 0, [], toks, [], n⟩ = _
        rw [docGo_eq, hb, hsee 33 _ (Ne.symm hc2), hsee 63 _ (Ne.symm hc3), hsee 33 _ (Ne.symm hc2), s4, if_neg (by decide), if_neg (by decide), if_neg (by decide), if_pos (by decide)]
        unfold docElem
        rw [h1]
        simp only
        rw [hcont]
        simp only [docMore]
        rw [h3, List.append_assoc, List.append_assoc]
        rfl
      · show RS.noType (g + 1) ⟨P, 60 :: (m ++ (a.flatMap attrL ++ [62])) ++ writeX (ts1 ++ ts2), [], 0, [], toks, [], n⟩ = _
        rw [noType_eq, hb, hsee 33 _ (Ne.symm hc2), hsee 63 _ (Ne.symm hc3), hsee 33 _ (Ne.symm hc2), if_neg (by decide), if_neg (by decide)]
        rfl
    | fin m _ _ _ _ h ho' hn => cases ho'
    | text l _ _ _ _ h ho' hk hn => exact absurd rfl ho'
    | comment l _ _ _ _ h hn =>
      cases h with | comment _ h1 h2 =>
      obtain ⟨P1, n1, h3, h3'⟩ := top_comment g false false P (writeX ts) toks n l h1 h2 (by omega)
      obtain ⟨⟨P2, n2, h4⟩, h5⟩ := before_back ts 5 P1 (toks ++ [⟨5, [], [], l⟩]) n1 g hn (by rw [List.length_append]; simp; omega) (by omega)
      exact ⟨⟨P2, n2, by rw [writeX_cons, h3, h4, List.append_assoc]; rfl⟩, by rw [writeX_cons, h3', h5]⟩
    | pi m l _ _ _ _ h hn =>
      cases h with | pi _ _ h1 h2 h3 =>
      obtain ⟨P1, n1, h4, h4'⟩ := top_pi g false false P (writeX ts) toks n m l h1 h2 h3 (by omega)
      obtain ⟨⟨P2, n2, h5⟩, h6⟩ := before_back ts 6 P1 (toks ++ [⟨6, m, [], l⟩]) n1 g hn (by rw [List.length_append]; simp; omega) (by omega)
      exact ⟨⟨P2, n2, by rw [writeX_cons, h4, h5, List.append_assoc]; rfl⟩, by rw [writeX_cons, h4', h6]⟩
theorem tok_len {t : XTok} (h : OkTok t) : 1 ≤ (tokL t).length := by
  cases h with
  | elem n a => simp [tokL]
  | fin n => simp [tokL]
  | text l hl =>
    show 1 ≤ (mapN escN l).length
    cases l with
    | nil => exact absurd rfl hl
    | cons c l =>
      rw [mapN_cons, List.length_append]
      have : 1 ≤ (oneN escN c).length := by
        unfold oneN
        split
        · exact Nat.le_refl 1
        · rename_i h
          exact Nat.one_le_iff_ne_zero.2 (fun h0 => h (List.length_eq_zero_iff.1 h0))
      omega
  | comment l => simp [tokL]
  | pi n l => simp [tokL]
theorem doc_len : ∀ {ts : List XTok} {o : List (List Nat)} {r : Bool} {k : Nat}, DocT o r k ts → ts.length ≤ (writeX ts).length
  | [], _, _, _, _ => Nat.le_refl _
  | t :: ts, o, r, k, h => by
    have h1 : OkTok t ∧ ∃ o' r' k', DocT o' r' k' ts := by
      cases h with
      | elem m a _ _ _ _ h hr ho' ha hn => exact ⟨h, _, _, _, hn⟩
      | fin m _ _ _ _ h ho' hn => exact ⟨h, _, _, _, hn⟩
      | text l _ _ _ _ h ho' hk hn => exact ⟨h, _, _, _, hn⟩
      | comment l _ _ _ _ h hn => exact ⟨h, _, _, _, hn⟩
      | pi m l _ _ _ _ h hn => exact ⟨h, _, _, _, hn⟩
    obtain ⟨ht, o', r', k', hn⟩ := h1
    have h2 := doc_len hn
    have h3 := tok_len ht
    rw [writeX_cons, List.length_append, List.length_cons]
    omega
/-- What is written is scanned as it was. -/
theorem back_plain {ts : List XTok} (h : DocT [] false 0 ts) (hl : ts.length ≤ 4096) : scanX (writeX ts) = .ok ts ∧ RS.noType ((writeX ts).length + 1) (RS.start (writeX ts)) = true ∧ ([60, 63].isPrefixOf (writeX ts) && nameA ((writeX ts).drop 2) == [120, 109, 108]) = false := by
  have hx : ([60, 63].isPrefixOf (writeX ts) && nameA ((writeX ts).drop 2) == [120, 109, 108]) = false := by
    cases h with
    | elem m a _ _ _ ts h hr ho' ha hn =>
      cases h with | elem _ _ hq hqa hnd =>
      obtain ⟨c, u, hcu, hbeg⟩ := isQ_beg hq
      obtain ⟨_, _, _, _, hc3⟩ := beg_not hbeg
      have : [60, 63].isPrefixOf (writeX (⟨2, m, a, []⟩ :: ts)) = false := by
        rw [writeX_cons]
        show [60, 63].isPrefixOf (60 :: (m ++ (a.flatMap attrL ++ [62])) ++ writeX ts) = false
        rw [hcu]
        simp [List.isPrefixOf, Ne.symm hc3]
      rw [this]
      rfl
    | fin m _ _ _ _ h ho' hn => cases ho'
    | text l _ _ _ _ h ho' hk hn => exact absurd rfl ho'
    | comment l _ _ _ _ h hn => rfl
    | pi m l _ _ _ ts h hn =>
      cases h with | pi _ _ h1 h2 h3 =>
      obtain ⟨t1, t2⟩ := target_name h1
      have e : (writeX (⟨6, m, [], l⟩ :: ts)).drop 2 = m ++ (((if l = [] then [] else 32 :: l) ++ [63, 62]) ++ writeX ts) := by
        rw [writeX_cons]
        show (60 :: 63 :: (m ++ ((if l = [] then [] else 32 :: l) ++ [63, 62])) ++ writeX ts).drop 2 = _
        simp
      rw [e, name_run t1 (fun c hc => by
        by_cases hl : l = []
        · rw [if_pos hl] at hc; cases hc; decide
        · rw [if_neg hl] at hc; cases hc; decide)]
      have : (m == [120, 109, 108]) = false := by
        cases hh : m == [120, 109, 108]
        · rfl
        · have := eq_of_beq hh
          subst this
          exact absurd rfl t2
      rw [this, Bool.and_false]
  have hlen := doc_len h
  obtain ⟨⟨P', n', h1⟩, h2⟩ := before_back ts 0 [] [] 0 ((writeX ts).length + 1) h (by simpa using hl) (by omega)
  refine ⟨?_, h2, hx⟩
  have hdoc : (RS.start (writeX ts)).document = .ok ⟨P', [], [], 0, [], [] ++ ts, [], n'⟩ := by
    unfold RS.document
    rw [if_neg (show ¬ ([60, 63].isPrefixOf (RS.start (writeX ts)).rest && nameA ((RS.start (writeX ts)).rest.drop 2) == [120, 109, 108]) = true from fun h => by
      rw [show (RS.start (writeX ts)).rest = writeX ts from rfl, hx] at h
      cases h)]
    exact h1
  unfold scanX
  rw [hdoc]
  rfl
end Go.Proofs.YtefjfjieoiegnaaGreatDoor
