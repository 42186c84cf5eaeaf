/- Tokens as a text, in plain terms: each token is read as it was, and so is the whole document. -/
import Derived.Test.YtefjfjieoiegnaaGreatDoorGbg
namespace Go.Proofs.YtefjfjieoiegnaaGreatDoor
def flushT (toks : List XTok) (run : List Nat) : List XTok := if run = [] then toks else toks ++ [⟨4, [], [], run⟩]
theorem flushT_nil (toks : List XTok) : flushT toks [] = toks := rfl
theorem flushT_run (toks : List XTok) {run : List Nat} (h : run ≠ []) : flushT toks run = toks ++ [⟨4, [], [], run⟩] := by unfold flushT; rw [if_neg h]
theorem tell_ok (P R : List Nat) (e : List (List Nat × List Nat)) (sp : Nat) (o : List (List Nat)) (toks : List XTok) (ru : List Nat) (n : Nat) (t : XTok) (pl : Nat) (h : (flushT toks ru).length < 4096) :
    (⟨P, R, e, sp, o, toks, ru, n⟩ : RS).tell t pl = .ok ⟨P, R, e, sp, o, flushT toks ru ++ [t], [], (tx P).length⟩ := by
  unfold RS.tell RS.flush
  unfold flushT at h ⊢
  by_cases hr : ru = []
  · subst hr
    rw [if_pos rfl] at h ⊢
    simp only [if_pos]
    rw [if_neg (by omega)]
    rfl
  · rw [if_neg hr] at h ⊢
    simp only [if_neg hr]
    rw [if_neg (by omega)]
    rfl
theorem attrs_len : ∀ a : List (List Nat × List Nat), a.length ≤ (a.flatMap attrL).length
  | [] => Nat.le_refl _
  | x :: a => by
    have := attrs_len a
    have h1 : 1 ≤ (attrL x).length := by unfold attrL; rw [List.length_cons]; omega
    rw [List.flatMap_cons, List.length_append, List.length_cons]
    omega
theorem attrs_head (a : List (List Nat × List Nat)) (R : List Nat) : ∀ c, (a.flatMap attrL ++ 62 :: R).head? = some c → goC c = false ∧ c ≠ 58 := by
  intro c hc
  cases a with
  | nil => cases hc; exact ⟨by decide, by decide⟩
  | cons x a => cases hc; exact ⟨by decide, by decide⟩
theorem start_back (P R : List Nat) (e : List (List Nat × List Nat)) (sp : Nat) (o : List (List Nat)) (toks : List XTok) (ru : List Nat) (n : Nat) (k : List Nat) (a : List (List Nat × List Nat)) (hk : isQ k = true) (ha : ∀ x ∈ a, isQ x.1 = true) (hd : (a.map (·.1)).Nodup) (ho : o.length < 32) (hl : a.length ≤ 64) (ht : (flushT toks ru).length < 4096) :
    ∃ P' n', (⟨P, 60 :: (k ++ (a.flatMap attrL ++ [62])) ++ R, e, sp, o, toks, ru, n⟩ : RS).startTag = .ok ⟨P', R, e, sp, o ++ [k], flushT toks ru ++ [⟨2, k, a, []⟩], [], n'⟩ := by
  have hr : 60 :: (k ++ (a.flatMap attrL ++ [62])) ++ R = [60] ++ (k ++ (a.flatMap attrL ++ 62 :: R)) := by simp
  rw [hr]
  generalize hZ : a.flatMap attrL ++ 62 :: R = Z
  have hzh : ∀ c, Z.head? = some c → goC c = false ∧ c ≠ 58 := by rw [← hZ]; exact attrs_head a R
  have e1 : (⟨P, [60] ++ (k ++ Z), e, sp, o, toks, ru, n⟩ : RS).take [60] = ⟨P ++ [60], k ++ Z, e, sp, o, toks, ru, n⟩ := by
    unfold RS.take
    rw [if_pos (by simp [List.isPrefixOf])]
    exact adv_app P [60] (k ++ Z) e sp o toks ru n
  have e2 : qnameA (k ++ Z) = k := isQ_run hk hzh
  have e3 : (⟨P ++ [60], k ++ Z, e, sp, o, toks, ru, n⟩ : RS).qname = ⟨P ++ [60] ++ k, Z, e, sp, o, toks, ru, n⟩ := by
    unfold RS.qname
    simp only
    rw [e2]
    exact adv_app _ k Z e sp o toks ru n
  have hne : k ≠ [] := by obtain ⟨c, u, h, _⟩ := isQ_beg hk; rw [h]; simp
  obtain ⟨P3, e4⟩ : ∃ P3, (⟨P ++ [60] ++ k, Z, e, sp, o, toks, ru, n⟩ : RS).attributes (⟨P, [60] ++ (k ++ Z), e, sp, o, toks, ru, n⟩ : RS).place = .ok (a, ⟨P3, 62 :: R, e, sp, o, toks, ru, n⟩) := by
    unfold RS.attributes
    have hlen : a.length < Z.length + 1 := by
      have := attrs_len a
      rw [← hZ, List.length_append]
      omega
    obtain ⟨P3, h⟩ := attrs_back (⟨P, [60] ++ (k ++ Z), e, sp, o, toks, ru, n⟩ : RS).place R e sp o toks ru n a [] (Z.length + 1) (P ++ [60] ++ k) ha (by simpa using hd) hlen
    rw [hZ, List.nil_append] at h
    exact ⟨P3, h⟩
  have e5 : (⟨P3, 62 :: R, e, sp, o, toks, ru, n⟩ : RS).take [47] = ⟨P3, 62 :: R, e, sp, o, toks, ru, n⟩ := rfl
  have e6 : (⟨P3, 62 :: R, e, sp, o, toks, ru, n⟩ : RS).adv 1 = ⟨P3 ++ [62], R, e, sp, o, toks, ru, n⟩ := rfl
  refine ⟨P3 ++ [62], (tx (P3 ++ [62])).length, ?_⟩
  unfold RS.startTag
  simp only
  rw [e1]
  simp only
  rw [e2, if_neg hne, e3, e4]
  simp only
  rw [e5, e6]
  simp only
  rw [if_neg (show ¬ (!heads 62 (62 :: R)) = true from fun h => by cases h), if_neg (by omega), tell_ok _ _ _ _ _ _ _ _ _ _ ht]
  simp only
  rw [if_neg (show ¬ heads 47 (62 :: R) = true from fun h => by cases h)]
theorem end_back (P R : List Nat) (e : List (List Nat × List Nat)) (sp : Nat) (o : List (List Nat)) (toks : List XTok) (ru : List Nat) (n : Nat) (k : List Nat) (hk : isQ k = true) (ho : o.getLast? = some k) (ht : (flushT toks ru).length < 4096) :
    ∃ P' n', (⟨P, 60 :: 47 :: (k ++ [62]) ++ R, e, sp, o, toks, ru, n⟩ : RS).endTag = .ok ⟨P', R, e, sp, o.dropLast, flushT toks ru ++ [⟨7, k, [], []⟩], [], n'⟩ := by
  have hr : 60 :: 47 :: (k ++ [62]) ++ R = [60, 47] ++ (k ++ 62 :: R) := by simp
  rw [hr]
  have e1 : (⟨P, [60, 47] ++ (k ++ 62 :: R), e, sp, o, toks, ru, n⟩ : RS).take [60, 47] = ⟨P ++ [60, 47], k ++ 62 :: R, e, sp, o, toks, ru, n⟩ := by
    unfold RS.take
    rw [if_pos (by simp [List.isPrefixOf])]
    exact adv_app P [60, 47] (k ++ 62 :: R) e sp o toks ru n
  have e2 : qnameA (k ++ 62 :: R) = k := isQ_run hk (fun c h => by cases h; exact ⟨by decide, by decide⟩)
  have e3 : (⟨P ++ [60, 47], k ++ 62 :: R, e, sp, o, toks, ru, n⟩ : RS).qname = ⟨P ++ [60, 47] ++ k, 62 :: R, e, sp, o, toks, ru, n⟩ := by
    unfold RS.qname
    simp only
    rw [e2]
    exact adv_app _ k (62 :: R) e sp o toks ru n
  have e4 := (blanks_no (P ++ [60, 47] ++ k) (62 :: R) e sp o toks ru n (fun c h => by cases h; rfl)).1
  have e5 : (⟨P ++ [60, 47] ++ k, 62 :: R, e, sp, o, toks, ru, n⟩ : RS).adv 1 = ⟨P ++ [60, 47] ++ k ++ [62], R, e, sp, o, toks, ru, n⟩ := rfl
  refine ⟨P ++ [60, 47] ++ k ++ [62], (tx (P ++ [60, 47] ++ k ++ [62])).length, ?_⟩
  unfold RS.endTag
  simp only
  rw [e1]
  simp only
  rw [e2, e3, e4, if_pos ⟨ho, rfl⟩, e5]
  exact tell_ok _ _ _ _ _ _ _ _ _ _ ht
theorem comment_back (P R : List Nat) (e : List (List Nat × List Nat)) (sp : Nat) (o : List (List Nat)) (toks : List XTok) (ru : List Nat) (n : Nat) (l : List Nat) (h : cutL [45, 45] l = none) (h' : l.getLast? ≠ some 45) (ht : (flushT toks ru).length < 4096) :
    ∃ P' n', (⟨P, 60 :: 33 :: 45 :: 45 :: (l ++ [45, 45, 62]) ++ R, e, sp, o, toks, ru, n⟩ : RS).tellComment = .ok ⟨P', R, e, sp, o, flushT toks ru ++ [⟨5, [], [], l⟩], [], n'⟩ := by
  have hr : 60 :: 33 :: 45 :: 45 :: (l ++ [45, 45, 62]) ++ R = [60, 33, 45, 45] ++ (l ++ 45 :: 45 :: 62 :: R) := by simp
  rw [hr]
  have e1 : (⟨P, [60, 33, 45, 45] ++ (l ++ 45 :: 45 :: 62 :: R), e, sp, o, toks, ru, n⟩ : RS).take [60, 33, 45, 45] = ⟨P ++ [60, 33, 45, 45], l ++ 45 :: 45 :: 62 :: R, e, sp, o, toks, ru, n⟩ := by
    unfold RS.take
    rw [if_pos (by simp [List.isPrefixOf])]
    exact adv_app P [60, 33, 45, 45] _ e sp o toks ru n
  have e2 : (⟨P ++ [60, 33, 45, 45], l ++ 45 :: 45 :: 62 :: R, e, sp, o, toks, ru, n⟩ : RS).takeTo [45, 45] = some (l, ⟨P ++ [60, 33, 45, 45] ++ (l ++ [45, 45]), 62 :: R, e, sp, o, toks, ru, n⟩) := by
    unfold RS.takeTo
    simp only
    rw [cut_two 45 45 l (62 :: R) h (fun _ => h')]
    have := adv_app (P ++ [60, 33, 45, 45]) (l ++ [45, 45]) (62 :: R) e sp o toks ru n
    rw [List.length_append, List.append_assoc l] at this
    exact congrArg (fun x => some (l, x)) this
  have e3 : (⟨P, [60, 33, 45, 45] ++ (l ++ 45 :: 45 :: 62 :: R), e, sp, o, toks, ru, n⟩ : RS).comment = some (l, ⟨P ++ [60, 33, 45, 45] ++ (l ++ [45, 45]) ++ [62], R, e, sp, o, toks, ru, n⟩) := by
    unfold RS.comment
    rw [e1, e2]
    rfl
  refine ⟨P ++ [60, 33, 45, 45] ++ (l ++ [45, 45]) ++ [62], (tx (P ++ [60, 33, 45, 45] ++ (l ++ [45, 45]) ++ [62])).length, ?_⟩
  unfold RS.tellComment
  rw [e3]
  exact tell_ok _ _ _ _ _ _ _ _ _ _ ht
theorem target_name {k : List Nat} (h : isTarget k = true) : isNm k = true ∧ k.map lowC ≠ [120, 109, 108] := by
  unfold isTarget at h
  simpa using h
theorem name_run {k r : List Nat} (h : isNm k = true) (hr : ∀ c, r.head? = some c → goC c = false) : nameA (k ++ r) = k := by
  obtain ⟨na, ea⟩ := isNm_name h
  exact nameA_run k r hr ea na
theorem pi_back (P R : List Nat) (e : List (List Nat × List Nat)) (sp : Nat) (o : List (List Nat)) (toks : List XTok) (ru : List Nat) (n : Nat) (k l : List Nat) (h : isTarget k = true) (hc : cutL [63, 62] l = none) (hb : ∀ c, l.head? = some c → blankC c = false) (ht : (flushT toks ru).length < 4096) :
    ∃ P' n', (⟨P, 60 :: 63 :: (k ++ ((if l = [] then [] else 32 :: l) ++ [63, 62])) ++ R, e, sp, o, toks, ru, n⟩ : RS).tellInstruction = .ok ⟨P', R, e, sp, o, flushT toks ru ++ [⟨6, k, [], l⟩], [], n'⟩ := by
  have hnm := (target_name h).1
  have main : ∀ Z, (60 :: 63 :: (k ++ ((if l = [] then [] else 32 :: l) ++ [63, 62])) ++ R = [60, 63] ++ (k ++ Z)) → (∀ c, Z.head? = some c → goC c = false) →
      (∃ P', (if (⟨P ++ [60, 63] ++ k, Z, e, sp, o, toks, ru, n⟩ : RS).sees [63, 62] then some (k, [], (⟨P ++ [60, 63] ++ k, Z, e, sp, o, toks, ru, n⟩ : RS).adv 2) else
        if !(⟨P ++ [60, 63] ++ k, Z, e, sp, o, toks, ru, n⟩ : RS).blank then none else
        ((⟨P ++ [60, 63] ++ k, Z, e, sp, o, toks, ru, n⟩ : RS).blanks.takeTo [63, 62]).map fun x => (k, x.1, x.2)) = some (k, l, ⟨P', R, e, sp, o, toks, ru, n⟩)) →
      ∃ P' n', (⟨P, 60 :: 63 :: (k ++ ((if l = [] then [] else 32 :: l) ++ [63, 62])) ++ R, e, sp, o, toks, ru, n⟩ : RS).tellInstruction = .ok ⟨P', R, e, sp, o, flushT toks ru ++ [⟨6, k, [], l⟩], [], n'⟩ := by
    intro Z hr hz ⟨P', hp⟩
    rw [hr]
    have e1 : (⟨P, [60, 63] ++ (k ++ Z), e, sp, o, toks, ru, n⟩ : RS).take [60, 63] = ⟨P ++ [60, 63], k ++ Z, e, sp, o, toks, ru, n⟩ := by
      unfold RS.take
      rw [if_pos (by simp [List.isPrefixOf])]
      exact adv_app P [60, 63] _ e sp o toks ru n
    have e2 : nameA (k ++ Z) = k := name_run hnm hz
    have e3 : (⟨P ++ [60, 63], k ++ Z, e, sp, o, toks, ru, n⟩ : RS).name = ⟨P ++ [60, 63] ++ k, Z, e, sp, o, toks, ru, n⟩ := by
      unfold RS.name
      simp only
      rw [e2]
      exact adv_app _ k Z e sp o toks ru n
    have e4 : (⟨P, [60, 63] ++ (k ++ Z), e, sp, o, toks, ru, n⟩ : RS).instruction = some (k, l, ⟨P', R, e, sp, o, toks, ru, n⟩) := by
      unfold RS.instruction
      simp only
      rw [e1]
      simp only
      rw [e2, e3, h, if_neg (by decide)]
      exact hp
    refine ⟨P', (tx P').length, ?_⟩
    unfold RS.tellInstruction
    rw [e4]
    exact tell_ok _ _ _ _ _ _ _ _ _ _ ht
  by_cases hl : l = []
  · subst hl
    refine main (63 :: 62 :: R) (by simp) (fun c hc => by cases hc; decide) ⟨P ++ [60, 63] ++ k ++ [63, 62], ?_⟩
    rw [if_pos (show (⟨P ++ [60, 63] ++ k, 63 :: 62 :: R, e, sp, o, toks, ru, n⟩ : RS).sees [63, 62] = true by simp [RS.sees, List.isPrefixOf])]
    rfl
  · refine main ([32] ++ (l ++ 63 :: 62 :: R)) (by rw [if_neg hl]; simp) (fun c hc => by cases hc; decide) ⟨P ++ [60, 63] ++ k ++ [32] ++ (l ++ [63, 62]), ?_⟩
    have hbl := blanks_at (P ++ [60, 63] ++ k) [32] (l ++ 63 :: 62 :: R) e sp o toks ru n (fun x hx => by simp at hx; subst hx; rfl) (fun c hc => hb c (by
      cases l with
      | nil => exact absurd rfl hl
      | cons d l => exact hc))
    rw [if_neg (show ¬ (⟨P ++ [60, 63] ++ k, [32] ++ (l ++ 63 :: 62 :: R), e, sp, o, toks, ru, n⟩ : RS).sees [63, 62] = true by simp [RS.sees, List.isPrefixOf]), hbl.1, hbl.2, if_neg (by decide)]
    unfold RS.takeTo
    simp only
    rw [cut_two 63 62 l R hc (fun h => absurd h (by decide))]
    have := adv_app (P ++ [60, 63] ++ k ++ [32]) (l ++ [63, 62]) R e sp o toks ru n
    rw [List.length_append, List.append_assoc l] at this
    exact congrArg (fun x => some (k, l, x)) this
/-- What reads a token. -/
theorem one_end {s : RS} {t : List Nat} (h : s.rest = 60 :: 47 :: t) : s.contentOne = s.endTag := by
  unfold RS.contentOne RS.sees
  rw [h]
  simp [List.isPrefixOf]
theorem one_comment {s : RS} {t : List Nat} (h : s.rest = 60 :: 33 :: 45 :: 45 :: t) : s.contentOne = s.tellComment := by
  unfold RS.contentOne RS.sees
  rw [h]
  simp [List.isPrefixOf]
theorem one_pi {s : RS} {t : List Nat} (h : s.rest = 60 :: 63 :: t) : s.contentOne = s.tellInstruction := by
  unfold RS.contentOne RS.sees
  rw [h]
  simp [List.isPrefixOf]
theorem one_start {s : RS} {c : Nat} {t : List Nat} (h : s.rest = 60 :: c :: t) (h1 : c ≠ 47) (h2 : c ≠ 33) (h3 : c ≠ 63) : s.contentOne = s.startTag := by
  unfold RS.contentOne RS.sees
  rw [h]
  simp [List.isPrefixOf, Ne.symm h1, Ne.symm h2, Ne.symm h3]
theorem content_nil (f : Nat) (s : RS) (h : s.opn = []) : RS.content f s = .ok s := by
  cases f with
  | zero => rfl
  | succ f => rw [RS.content, if_pos h]
theorem tok_len {t : XTok} (h : OkTok t) : 1 ≤ (tokL t).length := by
  cases h with
  | elem n a => simp [tokL]
  | fin n => simp [tokL]
  | text l hl =>
    show 1 ≤ (mapN escN l).length
    cases l with
    | nil => exact absurd rfl hl
    | cons c l =>
      rw [mapN_cons, List.length_append]
      have : 1 ≤ (oneN escN c).length := by
        unfold oneN
        split
        · exact Nat.le_refl 1
        · rename_i h
          exact Nat.one_le_iff_ne_zero.2 (fun h0 => h (List.length_eq_zero_iff.1 h0))
      omega
  | comment l => simp [tokL]
  | pi n l => simp [tokL]
end Go.Proofs.YtefjfjieoiegnaaGreatDoor
