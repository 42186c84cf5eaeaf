/- A tree's tokens by xml, where an element that ends at once is one tag: read as they were, or past a limit. -/
import Derived.Test.YtefjfjieoiegnaaGreatDoorXmlWrQ
namespace Go.Proofs.YtefjfjieoiegnaaGreatDoor
theorem attrs_backO (tag : Nat) (R : List Nat) (e : List (List Nat × List Nat)) (sp : Nat) (o : List (List Nat)) (t : List XTok) (ru : List Nat) (n : Nat) : ∀ (a acc : List (List Nat × List Nat)) (f : Nat) (P : List Nat), (∀ x ∈ a, isQ x.1 = true) → ((acc ++ a).map (·.1)).Nodup → a.length < f →
    ∃ P', RS.attrsGo tag f ⟨P, a.flatMap attrL ++ 47 :: 62 :: R, e, sp, o, t, ru, n⟩ acc = .ok (acc ++ a, ⟨P', 47 :: 62 :: R, e, sp, o, t, ru, n⟩)
  | [], acc, f, P, _, _, hf => by
    obtain ⟨g, rfl⟩ : ∃ g, f = g + 1 := ⟨f - 1, by simp at hf; omega⟩
    refine ⟨P, ?_⟩
    have hb := blanks_no P (47 :: 62 :: R) e sp o t ru n (fun c h => by cases h; rfl)
    show RS.attrsGo tag (g + 1) ⟨P, 47 :: 62 :: R, e, sp, o, t, ru, n⟩ acc = _
    rw [attrsGo_eq, hb.1, hb.2, Bool.not_false, Bool.true_or, if_pos rfl, List.append_nil]
  | (k, v) :: a, acc, f, P, hq, hd, hf => by
    obtain ⟨g, rfl⟩ : ∃ g, f = g + 1 := ⟨f - 1, by simp at hf; omega⟩
    have hk : isQ k = true := hq (k, v) (List.mem_cons_self ..)
    obtain ⟨c, u, hcu, hbeg⟩ := isQ_beg hk
    obtain ⟨hc1, hc2, hc3, _⟩ := beg_not hbeg
    generalize hY : a.flatMap attrL ++ 47 :: 62 :: R = Y
    have hrest : ((k, v) :: a).flatMap attrL ++ 47 :: 62 :: R = [32] ++ (k ++ ([61] ++ ([34] ++ (mapN quoN v ++ 34 :: Y)))) := by
      rw [← hY]
      simp [attrL]
    have hkh : ∀ x, (k ++ ([61] ++ ([34] ++ (mapN quoN v ++ 34 :: Y)))).head? = some x → x = c := fun x hx => by
      rw [hcu] at hx
      cases hx
      rfl
    have b1 := blanks_at P [32] (k ++ ([61] ++ ([34] ++ (mapN quoN v ++ 34 :: Y)))) e sp o t ru n (fun x hx => by simp at hx; subst hx; rfl) (fun x hx => by rw [hkh x hx]; exact hc1)
    have q1 : qnameA (k ++ ([61] ++ ([34] ++ (mapN quoN v ++ 34 :: Y)))) = k := isQ_run hk (fun x hx => by cases hx; exact ⟨by decide, by decide⟩)
    have hh : ∀ x, x ≠ c → heads x (k ++ ([61] ++ ([34] ++ (mapN quoN v ++ 34 :: Y)))) = false := fun x hx => by
      rw [hcu, List.cons_append, heads_cons]
      simpa using Ne.symm hx
    have hne : k ≠ [] := by rw [hcu]; simp
    have hno : (acc.map (·.1)).contains k = false := by
      rw [List.map_append, List.nodup_append] at hd
      cases hh : (acc.map (·.1)).contains k with
      | false => rfl
      | true =>
        have h1 : k ∈ acc.map (·.1) := by simpa using hh
        exact absurd rfl (hd.2.2 k h1 k (by simp))
    have e1 : (⟨P ++ [32], k ++ ([61] ++ ([34] ++ (mapN quoN v ++ 34 :: Y))), e, sp, o, t, ru, n⟩ : RS).qname = ⟨P ++ [32] ++ k, [61] ++ ([34] ++ (mapN quoN v ++ 34 :: Y)), e, sp, o, t, ru, n⟩ := by
      unfold RS.qname
      simp only
      rw [q1]
      exact adv_app _ k _ e sp o t ru n
    have e2 : (⟨P ++ [32] ++ k, [61] ++ ([34] ++ (mapN quoN v ++ 34 :: Y)), e, sp, o, t, ru, n⟩ : RS).equals = some ⟨P ++ [32] ++ k ++ [61], [34] ++ (mapN quoN v ++ 34 :: Y), e, sp, o, t, ru, n⟩ := by
      unfold RS.equals
      rw [(blanks_no (P ++ [32] ++ k) ([61] ++ ([34] ++ (mapN quoN v ++ 34 :: Y))) e sp o t ru n (fun x hx => by cases hx; rfl)).1]
      rw [if_pos (show heads 61 ([61] ++ ([34] ++ (mapN quoN v ++ 34 :: Y))) = true from rfl)]
      have := adv_app (P ++ [32] ++ k) [61] ([34] ++ (mapN quoN v ++ 34 :: Y)) e sp o t ru n
      rw [show [61].length = 1 from rfl] at this
      rw [this, (blanks_no _ ([34] ++ (mapN quoN v ++ 34 :: Y)) e sp o t ru n (fun x hx => by cases hx; rfl)).1]
    obtain ⟨P2, e3⟩ : ∃ P2, (⟨P ++ [32] ++ k ++ [61], [34] ++ (mapN quoN v ++ 34 :: Y), e, sp, o, t, ru, n⟩ : RS).value tag = .ok (v, ⟨P2, Y, e, sp, o, t, ru, n⟩) := by
      have hq : (⟨P ++ [32] ++ k ++ [61], [34] ++ (mapN quoN v ++ 34 :: Y), e, sp, o, t, ru, n⟩ : RS).quote = some (34, ⟨P ++ [32] ++ k ++ [61] ++ [34], mapN quoN v ++ 34 :: Y, e, sp, o, t, ru, n⟩) := by
        unfold RS.quote
        rw [if_pos (show heads 34 ([34] ++ (mapN quoN v ++ 34 :: Y)) = true from rfl)]
        exact congrArg (fun x => some (34, x)) (adv_app _ [34] _ e sp o t ru n)
      unfold RS.value
      rw [hq]
      obtain ⟨P2, h2⟩ := value_quoted tag Y e sp o t ru n v.length v rfl ((mapN quoN v ++ 34 :: Y).length + 1) (P ++ [32] ++ k ++ [61] ++ [34]) [] (by simp; omega)
      exact ⟨P2, by rw [List.nil_append] at h2; exact h2⟩
    obtain ⟨P', ih⟩ := attrs_backO tag R e sp o t ru n a (acc ++ [(k, v)]) g P2 (fun x hx => hq x (List.mem_cons_of_mem _ hx)) (by rw [List.append_assoc]; exact hd) (by simp at hf; omega)
    rw [hY] at ih
    refine ⟨P', ?_⟩
    rw [hrest, attrsGo_eq, b1.1, b1.2, hh 47 (Ne.symm hc2), hh 62 (Ne.symm hc3), q1, e1, if_neg (by decide), if_neg (by rw [hno]; simp [hne]), e2]
    simp only
    rw [e3]
    simp only
    rw [ih, List.append_assoc]
    rfl
theorem attrs_headO (a : List (List Nat × List Nat)) (R : List Nat) : ∀ c, (a.flatMap attrL ++ 47 :: 62 :: R).head? = some c → goC c = false ∧ c ≠ 58 := by
  intro c hc
  cases a with
  | nil => cases hc; exact ⟨by decide, by decide⟩
  | cons x a => cases hc; exact ⟨by decide, by decide⟩
theorem start_backO (P R : List Nat) (e : List (List Nat × List Nat)) (sp : Nat) (o : List (List Nat)) (toks : List XTok) (ru : List Nat) (n : Nat) (k : List Nat) (a : List (List Nat × List Nat)) (hk : isQ k = true) (ha : ∀ x ∈ a, isQ x.1 = true) (hd : (a.map (·.1)).Nodup) (ho : o.length < 32) (hl : a.length ≤ 64) (ht : (flushT toks ru).length + 1 < 4096) :
    ∃ P' n', (⟨P, 60 :: (k ++ (a.flatMap attrL ++ [47, 62])) ++ R, e, sp, o, toks, ru, n⟩ : RS).startTag = .ok ⟨P', R, e, sp, o, flushT toks ru ++ [⟨2, k, a, []⟩] ++ [⟨7, k, [], []⟩], [], n'⟩ := by
  have hr : 60 :: (k ++ (a.flatMap attrL ++ [47, 62])) ++ R = [60] ++ (k ++ (a.flatMap attrL ++ 47 :: 62 :: R)) := by simp
  rw [hr]
  generalize hZ : a.flatMap attrL ++ 47 :: 62 :: R = Z
  have hzh : ∀ c, Z.head? = some c → goC c = false ∧ c ≠ 58 := by rw [← hZ]; exact attrs_headO a R
  have e1 : (⟨P, [60] ++ (k ++ Z), e, sp, o, toks, ru, n⟩ : RS).take [60] = ⟨P ++ [60], k ++ Z, e, sp, o, toks, ru, n⟩ := by
    unfold RS.take
    rw [if_pos (by simp [List.isPrefixOf])]
    exact adv_app P [60] (k ++ Z) e sp o toks ru n
  have e2 : qnameA (k ++ Z) = k := isQ_run hk hzh
  have e3 : (⟨P ++ [60], k ++ Z, e, sp, o, toks, ru, n⟩ : RS).qname = ⟨P ++ [60] ++ k, Z, e, sp, o, toks, ru, n⟩ := by
    unfold RS.qname
    simp only
    rw [e2]
    exact adv_app _ k Z e sp o toks ru n
  have hne : k ≠ [] := by obtain ⟨c, u, h, _⟩ := isQ_beg hk; rw [h]; simp
  obtain ⟨P3, e4⟩ : ∃ P3, (⟨P ++ [60] ++ k, Z, e, sp, o, toks, ru, n⟩ : RS).attributes (⟨P, [60] ++ (k ++ Z), e, sp, o, toks, ru, n⟩ : RS).place = .ok (a, ⟨P3, 47 :: 62 :: R, e, sp, o, toks, ru, n⟩) := by
    unfold RS.attributes
    have hlen : a.length < Z.length + 1 := by
      have := attrs_len a
      rw [← hZ, List.length_append]
      omega
    obtain ⟨P3, h⟩ := attrs_backO (⟨P, [60] ++ (k ++ Z), e, sp, o, toks, ru, n⟩ : RS).place R e sp o toks ru n a [] (Z.length + 1) (P ++ [60] ++ k) ha (by simpa using hd) hlen
    rw [hZ, List.nil_append] at h
    exact ⟨P3, h⟩
  have e5 : (⟨P3, 47 :: 62 :: R, e, sp, o, toks, ru, n⟩ : RS).take [47] = ⟨P3 ++ [47], 62 :: R, e, sp, o, toks, ru, n⟩ := by
    unfold RS.take
    rw [if_pos (by simp [List.isPrefixOf])]
    exact adv_app P3 [47] (62 :: R) e sp o toks ru n
  have e6 : (⟨P3 ++ [47], 62 :: R, e, sp, o, toks, ru, n⟩ : RS).adv 1 = ⟨P3 ++ [47] ++ [62], R, e, sp, o, toks, ru, n⟩ := rfl
  refine ⟨P3 ++ [47] ++ [62], (tx (P3 ++ [47] ++ [62])).length, ?_⟩
  unfold RS.startTag
  simp only
  rw [e1]
  simp only
  rw [e2, if_neg hne, e3, e4]
  simp only
  rw [e5, e6]
  simp only
  rw [if_neg (show ¬ (!heads 62 (62 :: R)) = true from fun h => by cases h), if_neg (by omega), tell_ok _ _ _ _ _ _ _ _ _ _ (by omega)]
  simp only
  rw [if_pos (show heads 47 (47 :: 62 :: R) = true from rfl), tell_ok _ _ _ _ _ _ _ _ _ _ (by rw [flushT_nil, List.length_append]; exact ht)]
  rw [flushT_nil]
theorem tell_full (P R : List Nat) (e : List (List Nat × List Nat)) (sp : Nat) (o : List (List Nat)) (toks : List XTok) (ru : List Nat) (n : Nat) (t : XTok) (pl : Nat) (h : (flushT toks ru).length = 4096) :
    (⟨P, R, e, sp, o, toks, ru, n⟩ : RS).tell t pl = .error (6, pl) := by
  unfold RS.tell RS.flush
  unfold flushT at h
  by_cases hr : ru = []
  · subst hr
    rw [if_pos rfl] at h
    simp only [if_pos]
    rw [if_pos h]
  · rw [if_neg hr] at h
    simp only [if_neg hr]
    rw [if_pos h]
theorem start_lim (P R : List Nat) (e : List (List Nat × List Nat)) (sp : Nat) (o : List (List Nat)) (toks : List XTok) (ru : List Nat) (n : Nat) (k : List Nat) (a : List (List Nat × List Nat)) (hk : isQ k = true) (ha : ∀ x ∈ a, isQ x.1 = true) (hd : (a.map (·.1)).Nodup) (hl : a.length ≤ 64) (hz : o.length = 32 ∨ (flushT toks ru).length = 4096) :
    ∃ pl, (⟨P, 60 :: (k ++ (a.flatMap attrL ++ [62])) ++ R, e, sp, o, toks, ru, n⟩ : RS).startTag = .error (6, pl) := by
  have hr : 60 :: (k ++ (a.flatMap attrL ++ [62])) ++ R = [60] ++ (k ++ (a.flatMap attrL ++ 62 :: R)) := by simp
  rw [hr]
  generalize hZ : a.flatMap attrL ++ 62 :: R = Z
  have hzh : ∀ c, Z.head? = some c → goC c = false ∧ c ≠ 58 := by rw [← hZ]; exact attrs_head a R
  have e1 : (⟨P, [60] ++ (k ++ Z), e, sp, o, toks, ru, n⟩ : RS).take [60] = ⟨P ++ [60], k ++ Z, e, sp, o, toks, ru, n⟩ := by
    unfold RS.take
    rw [if_pos (by simp [List.isPrefixOf])]
    exact adv_app P [60] (k ++ Z) e sp o toks ru n
  have e2 : qnameA (k ++ Z) = k := isQ_run hk hzh
  have e3 : (⟨P ++ [60], k ++ Z, e, sp, o, toks, ru, n⟩ : RS).qname = ⟨P ++ [60] ++ k, Z, e, sp, o, toks, ru, n⟩ := by
    unfold RS.qname
    simp only
    rw [e2]
    exact adv_app _ k Z e sp o toks ru n
  have hne : k ≠ [] := by obtain ⟨c, u, h, _⟩ := isQ_beg hk; rw [h]; simp
  obtain ⟨P3, e4⟩ : ∃ P3, (⟨P ++ [60] ++ k, Z, e, sp, o, toks, ru, n⟩ : RS).attributes (⟨P, [60] ++ (k ++ Z), e, sp, o, toks, ru, n⟩ : RS).place = .ok (a, ⟨P3, 62 :: R, e, sp, o, toks, ru, n⟩) := by
    unfold RS.attributes
    have hlen : a.length < Z.length + 1 := by
      have := attrs_len a
      rw [← hZ, List.length_append]
      omega
    obtain ⟨P3, h⟩ := attrs_back (⟨P, [60] ++ (k ++ Z), e, sp, o, toks, ru, n⟩ : RS).place R e sp o toks ru n a [] (Z.length + 1) (P ++ [60] ++ k) ha (by simpa using hd) hlen
    rw [hZ, List.nil_append] at h
    exact ⟨P3, h⟩
  have e5 : (⟨P3, 62 :: R, e, sp, o, toks, ru, n⟩ : RS).take [47] = ⟨P3, 62 :: R, e, sp, o, toks, ru, n⟩ := rfl
  have e6 : (⟨P3, 62 :: R, e, sp, o, toks, ru, n⟩ : RS).adv 1 = ⟨P3 ++ [62], R, e, sp, o, toks, ru, n⟩ := rfl
  refine ⟨(tx P).length, ?_⟩
  unfold RS.startTag
  simp only
  rw [e1]
  simp only
  rw [e2, if_neg hne, e3, e4]
  simp only
  rw [e5, e6]
  simp only
  rw [if_neg (show ¬ (!heads 62 (62 :: R)) = true from fun h => by cases h)]
  by_cases h32 : o.length = 32
  · rw [if_pos (.inl h32)]
    rfl
  · rw [if_neg (by omega), tell_full _ _ _ _ _ _ _ _ _ _ (by omega)]
    rfl
theorem startO_lim (P R : List Nat) (e : List (List Nat × List Nat)) (sp : Nat) (o : List (List Nat)) (toks : List XTok) (ru : List Nat) (n : Nat) (k : List Nat) (a : List (List Nat × List Nat)) (hk : isQ k = true) (ha : ∀ x ∈ a, isQ x.1 = true) (hd : (a.map (·.1)).Nodup) (hl : a.length ≤ 64) (hz : o.length = 32 ∨ 4096 ≤ (flushT toks ru).length + 1) (hm : (flushT toks ru).length ≤ 4096) :
    ∃ pl, (⟨P, 60 :: (k ++ (a.flatMap attrL ++ [47, 62])) ++ R, e, sp, o, toks, ru, n⟩ : RS).startTag = .error (6, pl) := by
  have hr : 60 :: (k ++ (a.flatMap attrL ++ [47, 62])) ++ R = [60] ++ (k ++ (a.flatMap attrL ++ 47 :: 62 :: R)) := by simp
  rw [hr]
  generalize hZ : a.flatMap attrL ++ 47 :: 62 :: R = Z
  have hzh : ∀ c, Z.head? = some c → goC c = false ∧ c ≠ 58 := by rw [← hZ]; exact attrs_headO a R
  have e1 : (⟨P, [60] ++ (k ++ Z), e, sp, o, toks, ru, n⟩ : RS).take [60] = ⟨P ++ [60], k ++ Z, e, sp, o, toks, ru, n⟩ := by
    unfold RS.take
    rw [if_pos (by simp [List.isPrefixOf])]
    exact adv_app P [60] (k ++ Z) e sp o toks ru n
  have e2 : qnameA (k ++ Z) = k := isQ_run hk hzh
  have e3 : (⟨P ++ [60], k ++ Z, e, sp, o, toks, ru, n⟩ : RS).qname = ⟨P ++ [60] ++ k, Z, e, sp, o, toks, ru, n⟩ := by
    unfold RS.qname
    simp only
    rw [e2]
    exact adv_app _ k Z e sp o toks ru n
  have hne : k ≠ [] := by obtain ⟨c, u, h, _⟩ := isQ_beg hk; rw [h]; simp
  obtain ⟨P3, e4⟩ : ∃ P3, (⟨P ++ [60] ++ k, Z, e, sp, o, toks, ru, n⟩ : RS).attributes (⟨P, [60] ++ (k ++ Z), e, sp, o, toks, ru, n⟩ : RS).place = .ok (a, ⟨P3, 47 :: 62 :: R, e, sp, o, toks, ru, n⟩) := by
    unfold RS.attributes
    have hlen : a.length < Z.length + 1 := by
      have := attrs_len a
      rw [← hZ, List.length_append]
      omega
    obtain ⟨P3, h⟩ := attrs_backO (⟨P, [60] ++ (k ++ Z), e, sp, o, toks, ru, n⟩ : RS).place R e sp o toks ru n a [] (Z.length + 1) (P ++ [60] ++ k) ha (by simpa using hd) hlen
    rw [hZ, List.nil_append] at h
    exact ⟨P3, h⟩
  have e5 : (⟨P3, 47 :: 62 :: R, e, sp, o, toks, ru, n⟩ : RS).take [47] = ⟨P3 ++ [47], 62 :: R, e, sp, o, toks, ru, n⟩ := by
    unfold RS.take
    rw [if_pos (by simp [List.isPrefixOf])]
    exact adv_app P3 [47] (62 :: R) e sp o toks ru n
  have e6 : (⟨P3 ++ [47], 62 :: R, e, sp, o, toks, ru, n⟩ : RS).adv 1 = ⟨P3 ++ [47] ++ [62], R, e, sp, o, toks, ru, n⟩ := rfl
  refine ⟨(tx P).length, ?_⟩
  unfold RS.startTag
  simp only
  rw [e1]
  simp only
  rw [e2, if_neg hne, e3, e4]
  simp only
  rw [e5, e6]
  simp only
  rw [if_neg (show ¬ (!heads 62 (62 :: R)) = true from fun h => by cases h)]
  by_cases h32 : o.length = 32
  · rw [if_pos (.inl h32)]
    rfl
  · by_cases hf : (flushT toks ru).length = 4096
    · rw [if_neg (by omega), tell_full _ _ _ _ _ _ _ _ _ _ hf]
      rfl
    · rw [if_neg (by omega), tell_ok _ _ _ _ _ _ _ _ _ _ (by omega)]
      simp only
      rw [if_pos (show heads 47 (47 :: 62 :: R) = true from rfl), tell_full _ _ _ _ _ _ _ _ _ _ (by rw [flushT_nil, List.length_append]; show (flushT toks ru).length + 1 = 4096; omega)]
      rfl
theorem end_lim (P R : List Nat) (e : List (List Nat × List Nat)) (sp : Nat) (o : List (List Nat)) (toks : List XTok) (ru : List Nat) (n : Nat) (k : List Nat) (hk : isQ k = true) (ho : o.getLast? = some k) (ht : (flushT toks ru).length = 4096) :
    ∃ pl, (⟨P, 60 :: 47 :: (k ++ [62]) ++ R, e, sp, o, toks, ru, n⟩ : RS).endTag = .error (6, pl) := by
  have hr : 60 :: 47 :: (k ++ [62]) ++ R = [60, 47] ++ (k ++ 62 :: R) := by simp
  rw [hr]
  have e1 : (⟨P, [60, 47] ++ (k ++ 62 :: R), e, sp, o, toks, ru, n⟩ : RS).take [60, 47] = ⟨P ++ [60, 47], k ++ 62 :: R, e, sp, o, toks, ru, n⟩ := by
    unfold RS.take
    rw [if_pos (by simp [List.isPrefixOf])]
    exact adv_app P [60, 47] (k ++ 62 :: R) e sp o toks ru n
  have e2 : qnameA (k ++ 62 :: R) = k := isQ_run hk (fun c h => by cases h; exact ⟨by decide, by decide⟩)
  have e3 : (⟨P ++ [60, 47], k ++ 62 :: R, e, sp, o, toks, ru, n⟩ : RS).qname = ⟨P ++ [60, 47] ++ k, 62 :: R, e, sp, o, toks, ru, n⟩ := by
    unfold RS.qname
    simp only
    rw [e2]
    exact adv_app _ k (62 :: R) e sp o toks ru n
  have e4 := (blanks_no (P ++ [60, 47] ++ k) (62 :: R) e sp o toks ru n (fun c h => by cases h; rfl)).1
  have e5 : (⟨P ++ [60, 47] ++ k, 62 :: R, e, sp, o, toks, ru, n⟩ : RS).adv 1 = ⟨P ++ [60, 47] ++ k ++ [62], R, e, sp, o, toks, ru, n⟩ := rfl
  refine ⟨(tx P).length, ?_⟩
  unfold RS.endTag
  simp only
  rw [e1]
  simp only
  rw [e2, e3, e4, if_pos ⟨ho, rfl⟩, e5]
  exact tell_full _ _ _ _ _ _ _ _ _ _ ht
theorem comment_lim (P R : List Nat) (e : List (List Nat × List Nat)) (sp : Nat) (o : List (List Nat)) (toks : List XTok) (ru : List Nat) (n : Nat) (l : List Nat) (h : cutL [45, 45] l = none) (h' : l.getLast? ≠ some 45) (ht : (flushT toks ru).length = 4096) :
    ∃ pl, (⟨P, 60 :: 33 :: 45 :: 45 :: (l ++ [45, 45, 62]) ++ R, e, sp, o, toks, ru, n⟩ : RS).tellComment = .error (6, pl) := by
  have hr : 60 :: 33 :: 45 :: 45 :: (l ++ [45, 45, 62]) ++ R = [60, 33, 45, 45] ++ (l ++ 45 :: 45 :: 62 :: R) := by simp
  rw [hr]
  have e1 : (⟨P, [60, 33, 45, 45] ++ (l ++ 45 :: 45 :: 62 :: R), e, sp, o, toks, ru, n⟩ : RS).take [60, 33, 45, 45] = ⟨P ++ [60, 33, 45, 45], l ++ 45 :: 45 :: 62 :: R, e, sp, o, toks, ru, n⟩ := by
    unfold RS.take
    rw [if_pos (by simp [List.isPrefixOf])]
    exact adv_app P [60, 33, 45, 45] _ e sp o toks ru n
  have e2 : (⟨P ++ [60, 33, 45, 45], l ++ 45 :: 45 :: 62 :: R, e, sp, o, toks, ru, n⟩ : RS).takeTo [45, 45] = some (l, ⟨P ++ [60, 33, 45, 45] ++ (l ++ [45, 45]), 62 :: R, e, sp, o, toks, ru, n⟩) := by
    unfold RS.takeTo
    simp only
    rw [cut_two 45 45 l (62 :: R) h (fun _ => h')]
    have := adv_app (P ++ [60, 33, 45, 45]) (l ++ [45, 45]) (62 :: R) e sp o toks ru n
    rw [List.length_append, List.append_assoc l] at this
    exact congrArg (fun x => some (l, x)) this
  have e3 : (⟨P, [60, 33, 45, 45] ++ (l ++ 45 :: 45 :: 62 :: R), e, sp, o, toks, ru, n⟩ : RS).comment = some (l, ⟨P ++ [60, 33, 45, 45] ++ (l ++ [45, 45]) ++ [62], R, e, sp, o, toks, ru, n⟩) := by
    unfold RS.comment
    rw [e1, e2]
    rfl
  refine ⟨(tx P).length, ?_⟩
  unfold RS.tellComment
  rw [e3]
  exact tell_full _ _ _ _ _ _ _ _ _ _ ht
theorem pi_lim (P R : List Nat) (e : List (List Nat × List Nat)) (sp : Nat) (o : List (List Nat)) (toks : List XTok) (ru : List Nat) (n : Nat) (k l : List Nat) (h : isTarget k = true) (hc : cutL [63, 62] l = none) (hb : ∀ c, l.head? = some c → blankC c = false) (ht : (flushT toks ru).length = 4096) :
    ∃ pl, (⟨P, 60 :: 63 :: (k ++ ((if l = [] then [] else 32 :: l) ++ [63, 62])) ++ R, e, sp, o, toks, ru, n⟩ : RS).tellInstruction = .error (6, pl) := by
  have hnm := (target_name h).1
  have main : ∀ Z, (60 :: 63 :: (k ++ ((if l = [] then [] else 32 :: l) ++ [63, 62])) ++ R = [60, 63] ++ (k ++ Z)) → (∀ c, Z.head? = some c → goC c = false) →
      (∃ P', (if (⟨P ++ [60, 63] ++ k, Z, e, sp, o, toks, ru, n⟩ : RS).sees [63, 62] then some (k, [], (⟨P ++ [60, 63] ++ k, Z, e, sp, o, toks, ru, n⟩ : RS).adv 2) else
        if !(⟨P ++ [60, 63] ++ k, Z, e, sp, o, toks, ru, n⟩ : RS).blank then none else
        ((⟨P ++ [60, 63] ++ k, Z, e, sp, o, toks, ru, n⟩ : RS).blanks.takeTo [63, 62]).map fun x => (k, x.1, x.2)) = some (k, l, ⟨P', R, e, sp, o, toks, ru, n⟩)) →
      ∃ pl, (⟨P, 60 :: 63 :: (k ++ ((if l = [] then [] else 32 :: l) ++ [63, 62])) ++ R, e, sp, o, toks, ru, n⟩ : RS).tellInstruction = .error (6, pl) := by
    intro Z hr hz ⟨P', hp⟩
    rw [hr]
    have e1 : (⟨P, [60, 63] ++ (k ++ Z), e, sp, o, toks, ru, n⟩ : RS).take [60, 63] = ⟨P ++ [60, 63], k ++ Z, e, sp, o, toks, ru, n⟩ := by
      unfold RS.take
      rw [if_pos (by simp [List.isPrefixOf])]
      exact adv_app P [60, 63] _ e sp o toks ru n
    have e2 : nameA (k ++ Z) = k := name_run hnm hz
    have e3 : (⟨P ++ [60, 63], k ++ Z, e, sp, o, toks, ru, n⟩ : RS).name = ⟨P ++ [60, 63] ++ k, Z, e, sp, o, toks, ru, n⟩ := by
      unfold RS.name
      simp only
      rw [e2]
      exact adv_app _ k Z e sp o toks ru n
    have e4 : (⟨P, [60, 63] ++ (k ++ Z), e, sp, o, toks, ru, n⟩ : RS).instruction = some (k, l, ⟨P', R, e, sp, o, toks, ru, n⟩) := by
      unfold RS.instruction
      simp only
      rw [e1]
      simp only
      rw [e2, e3, h, if_neg (by decide)]
      exact hp
    refine ⟨(tx P).length, ?_⟩
    unfold RS.tellInstruction
    rw [e4]
    exact tell_full _ _ _ _ _ _ _ _ _ _ ht
  by_cases hl : l = []
  · subst hl
    refine main (63 :: 62 :: R) (by simp) (fun c hc => by cases hc; decide) ⟨P ++ [60, 63] ++ k ++ [63, 62], ?_⟩
    rw [if_pos (show (⟨P ++ [60, 63] ++ k, 63 :: 62 :: R, e, sp, o, toks, ru, n⟩ : RS).sees [63, 62] = true by simp [RS.sees, List.isPrefixOf])]
    rfl
  · refine main ([32] ++ (l ++ 63 :: 62 :: R)) (by rw [if_neg hl]; simp) (fun c hc => by cases hc; decide) ⟨P ++ [60, 63] ++ k ++ [32] ++ (l ++ [63, 62]), ?_⟩
    have hbl := blanks_at (P ++ [60, 63] ++ k) [32] (l ++ 63 :: 62 :: R) e sp o toks ru n (fun x hx => by simp at hx; subst hx; rfl) (fun c hc => hb c (by
      cases l with
      | nil => exact absurd rfl hl
      | cons d l => exact hc))
    rw [if_neg (show ¬ (⟨P ++ [60, 63] ++ k, [32] ++ (l ++ 63 :: 62 :: R), e, sp, o, toks, ru, n⟩ : RS).sees [63, 62] = true by simp [RS.sees, List.isPrefixOf]), hbl.1, hbl.2, if_neg (by decide)]
    unfold RS.takeTo
    simp only
    rw [cut_two 63 62 l R hc (fun h => absurd h (by decide))]
    have := adv_app (P ++ [60, 63] ++ k ++ [32]) (l ++ [63, 62]) R e sp o toks ru n
    rw [List.length_append, List.append_assoc l] at this
    exact congrArg (fun x => some (k, l, x)) this
/-- A text where there is no room for it. -/
theorem text_lim (R : List Nat) (ents : List (List Nat × List Nat)) (sp : Nat) (opn : List (List Nat)) (toks : List XTok) (n : Nat) (ht : toks.length = 4096) (l : List Nat) (hl : l ≠ []) (P : List Nat) :
    ∃ pl, (⟨P, mapN escN l ++ 60 :: R, ents, sp, opn, toks, [], n⟩ : RS).contentOne = .error (6, pl) := by
  have hroom : ∀ s : RS, s.toks = toks → s.run ≠ [] → s.room = .error (6, s.runAt) := fun s hs hr => by
    unfold RS.room
    rw [hs, if_pos ⟨hr, ht⟩]
  obtain ⟨p, t, rfl, hp, hq⟩ := split_at escN l
  have hmap : mapN escN (p ++ t) = p ++ mapN escN t := by rw [mapN_app, mapN_same escN p hp]
  cases hpp : p with
  | nil =>
    subst hpp
    rcases hq with rfl | ⟨c, u, rfl, hc⟩
    · exact absurd rfl hl
    · obtain ⟨o', ho'⟩ := esc_ref.amp c hc
      have hone : oneN escN c = escN c := by unfold oneN; rw [if_neg hc]
      have hm : mapN escN (c :: u) = escN c ++ mapN escN u := by rw [mapN_cons, hone]
      refine ⟨n, ?_⟩
      rw [List.nil_append, hm, List.append_assoc]
      rw [one_ref (t := o' ++ (mapN escN u ++ 60 :: R)) (by rw [ho']; rfl)]
      unfold RS.refRun
      rw [ref_at esc_ref false hc]
      exact hroom _ rfl (by simp)
  | cons d p' =>
    have hd := hp d (by rw [hpp]; exact List.mem_cons_self ..)
    have hd1 : d ≠ 60 := fun e => by rw [e] at hd; exact esc_ref.has.2 hd
    have hd2 : d ≠ 38 := fun e => by rw [e] at hd; exact esc_ref.has.1 hd
    have h60 : 60 ∉ p ++ mapN escN t := by rw [← hmap]; exact esc_not 60 (.inl rfl) _
    have h62 : 62 ∉ p ++ mapN escN t := by rw [← hmap]; exact esc_not 62 (.inr rfl) _
    have h38 : 38 ∉ p := fun hh => esc_ref.has.1 (hp 38 hh)
    have hA : plainA (p ++ mapN escN t ++ 60 :: R) = p := by
      unfold plainA
      rw [ahead_at 60 _ R h60]
      have e38 : ahead [38] (p ++ mapN escN t) = p := by
        rcases hq with rfl | ⟨c, u, rfl, hc⟩
        · rw [show mapN escN [] = [] from rfl, List.append_nil]
          exact ahead_all [38] 38 (by simp) p h38
        · obtain ⟨o', ho'⟩ := esc_ref.amp c hc
          have hone : oneN escN c = escN c := by unfold oneN; rw [if_neg hc]
          rw [mapN_cons, hone, ho', List.cons_append]
          exact ahead_at 38 p _ h38
      rw [e38]
      exact ahead_all [93, 93, 62] 62 (by simp) p (fun hh => h62 (List.mem_append_left _ hh))
    have hsee : ∀ (pre : List Nat) (a : Nat), (⟨pre, p ++ mapN escN t ++ 60 :: R, ents, sp, opn, toks, [], a⟩ : RS).sees [93, 93, 62] = false := fun pre a => by
      unfold RS.sees
      simp only
      cases hh : [93, 93, 62].isPrefixOf (p ++ mapN escN t ++ 60 :: R)
      · rfl
      · exfalso
        obtain ⟨z, hz⟩ := List.isPrefixOf_iff_prefix.1 hh
        generalize p ++ mapN escN t = x at *
        match x, hz with
        | [], hz => cases hz
        | [_], hz => cases hz
        | [_, _], hz => cases hz
        | _ :: _ :: e :: x, hz =>
          cases hz
          exact h62 (by simp)
    refine ⟨n, ?_⟩
    rw [← hpp, hmap]
    rw [one_plain (d := d) (t := p' ++ mapN escN t ++ 60 :: R) (by rw [hpp]; rfl) hd1 hd2 (hsee _ _)]
    unfold RS.plain
    rw [hA]
    exact hroom _ rfl (by rw [hpp]; simp)
end Go.Proofs.YtefjfjieoiegnaaGreatDoor
