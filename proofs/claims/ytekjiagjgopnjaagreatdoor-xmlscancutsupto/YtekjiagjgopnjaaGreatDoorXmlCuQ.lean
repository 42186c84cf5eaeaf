/- A token that is cut short is none: in plain terms. -/
import Derived.Test.YtekjiagjgopnjaaGreatDoorGbl
namespace Go.Proofs.YtekjiagjgopnjaaGreatDoor
theorem split_pre {p z A B : List Nat} (h : p ++ z = A ++ B) : (∃ p', p = A ++ p' ∧ p' ++ z = B) ∨ (∃ z', z' ≠ [] ∧ p ++ z' = A) := by
  rcases List.append_eq_append_iff.1 h with ⟨u, h1, h2⟩ | ⟨u, h1, h2⟩
  · by_cases hu : u = []
    · subst hu
      exact .inl ⟨[], by rw [h1]; simp, by rw [h2]; rfl⟩
    · exact .inr ⟨u, hu, h1.symm⟩
  · exact .inl ⟨u, h1, h2.symm⟩
theorem len_one {c d : Nat} {p z : List Nat} (h : d :: p ++ z = [c]) (hz : z ≠ []) : False := by
  have h1 := congrArg List.length h
  have h2 := List.length_pos_iff.2 hz
  simp only [List.length_append, List.length_cons, List.length_nil] at h1
  omega
theorem pre_snoc {p z A : List Nat} {c : Nat} (h : p ++ z = A ++ [c]) (hz : z ≠ []) : p <+: A := by
  rcases split_pre h with ⟨p', h1, h2⟩ | ⟨z', _, h2⟩
  · cases p' with
    | nil => rw [h1, List.append_nil]; exact List.prefix_refl _
    | cons d p' =>
      exact (len_one h2 hz).elim
  · exact ⟨z', h2⟩
theorem cut_more {p q : Nat} : ∀ {l x y : List Nat} (z : List Nat), cutL [p, q] l = some (x, y) → cutL [p, q] (l ++ z) = some (x, y ++ z)
  | [], x, y, z, h => by cases h
  | c :: t, x, y, z, h => by
    rw [cutL] at h
    show cutL [p, q] (c :: (t ++ z)) = _
    rw [cutL]
    split at h
    · rename_i hp
      cases h
      have hp1 := List.isPrefixOf_iff_prefix.1 hp
      have hpz : [p, q].isPrefixOf (c :: (t ++ z)) = true := List.isPrefixOf_iff_prefix.2 (hp1.trans (List.prefix_append (c :: t) z))
      rw [if_pos hpz]
      show some ([], ((c :: t) ++ z).drop 2) = some ([], (c :: t).drop 2 ++ z)
      rw [List.drop_append_of_le_length (show 2 ≤ (c :: t).length from hp1.length_le)]
    · rename_i hp
      cases hc : cutL [p, q] t with
      | none => rw [hc] at h; cases h
      | some w =>
        obtain ⟨x', y'⟩ := w
        rw [hc] at h
        cases h
        rw [cut_more z hc, if_neg]
        · rfl
        · intro hh
          apply hp
          have he := (cutL_first p q hc).1
          refine List.isPrefixOf_iff_prefix.2 (List.prefix_of_prefix_length_le (List.isPrefixOf_iff_prefix.1 hh) (List.prefix_append (c :: t) z) ?_)
          rw [he]
          simp
          omega
theorem cut_some {p q : Nat} (v : List Nat) : ∀ u : List Nat, cutL [p, q] (u ++ p :: q :: v) ≠ none
  | [], h => by
    change cutL [p, q] (p :: q :: v) = none at h
    rw [cutL, if_pos (by simp [List.isPrefixOf])] at h
    cases h
  | c :: u, h => by
    change cutL [p, q] (c :: (u ++ p :: q :: v)) = none at h
    rw [cutL] at h
    split at h
    · cases h
    · cases hc : cutL [p, q] (u ++ p :: q :: v) with
      | none => exact cut_some v u hc
      | some w => rw [hc] at h; cases h
theorem cut_drop {p q : Nat} {l : List Nat} (h : cutL [p, q] l = none) (k : Nat) : cutL [p, q] (l.drop k) = none := by
  cases hc : cutL [p, q] (l.drop k) with
  | none => rfl
  | some w =>
    obtain ⟨x, y⟩ := w
    have he := (cutL_first p q hc).1
    have : l = (l.take k ++ x) ++ p :: q :: y := by rw [List.append_assoc, ← he, List.take_append_drop]
    rw [this] at h
    exact absurd h (cut_some _ _)
theorem cut_sees {p q : Nat} {l : List Nat} (h : cutL [p, q] l = none) : [p, q].isPrefixOf l = false := by
  cases hh : [p, q].isPrefixOf l
  · rfl
  · obtain ⟨v, rfl⟩ := List.isPrefixOf_iff_prefix.1 hh
    exact absurd h (cut_some v [])
theorem no_two {p q : Nat} {B z r : List Nat} (hpq : p ≠ q) (hB : cutL [p, q] B = none) (e : r ++ z = B ++ [p, q]) (hz : z ≠ []) : cutL [p, q] r = none := by
  cases hc : cutL [p, q] r with
  | none => rfl
  | some w =>
    obtain ⟨x, y⟩ := w
    have hm := cut_more z hc
    rw [e, cut_two p q B [] hB (fun h => absurd h hpq)] at hm
    have h2 : [] = y ++ z := (Prod.mk.inj (Option.some.inj hm)).2
    have := congrArg List.length h2
    have := List.length_pos_iff.2 hz
    simp at *
    omega
theorem cut_skip {p q c : Nat} {t : List Nat} (hc : c ≠ p) (h : cutL [p, q] t = none) : cutL [p, q] (c :: t) = none := by
  rw [cutL, if_neg, h]
  · rfl
  · intro hh
    simp [List.isPrefixOf] at hh
    exact hc hh.1.symm
theorem cut_app {p q : Nat} {t : List Nat} (h : cutL [p, q] t = none) : ∀ n : List Nat, (∀ c ∈ n, c ≠ p) → cutL [p, q] (n ++ t) = none
  | [], _ => h
  | c :: n, hn => cut_skip (hn c (by simp)) (cut_app h n (fun x hx => hn x (by simp [hx])))
theorem nm_all {n : List Nat} (h : isNm n = true) : ∀ c ∈ n, goC c = true := by
  obtain ⟨_, e⟩ := isNm_name h
  intro c hc
  rw [← e] at hc
  exact nameA_all n c hc
theorem isQ_all {n : List Nat} (h : isQ n = true) : ∀ c ∈ n, goC c = true ∨ c = 58 := by
  unfold isQ at h
  split at h
  · rename_i hc
    obtain ⟨h1, h2⟩ : isNm (n.takeWhile (· != 58)) = true ∧ isNm (n.dropWhile (· != 58)).tail = true := by simpa using h
    have e := drop58 n hc
    intro c hm
    rw [← List.takeWhile_append_dropWhile (p := (· != 58)) (l := n), e] at hm
    rcases List.mem_append.1 hm with hm | hm
    · exact .inl (nm_all h1 c hm)
    · rcases List.mem_cons.1 hm with hm | hm
      · exact .inr hm
      · exact .inl (nm_all h2 c hm)
  · exact fun c hc => .inl (nm_all h c hc)
theorem isQ_no {n : List Nat} (h : isQ n = true) (q : Nat) (hq : goC q = false) (h58 : q ≠ 58) : q ∉ n := fun hm => by
  rcases isQ_all h q hm with h1 | h1
  · rw [hq] at h1; cases h1
  · exact h58 h1
theorem quo_no (l : List Nat) : 34 ∉ mapN quoN l := by
  intro h
  obtain ⟨c, _, hc⟩ := List.mem_flatMap.1 h
  unfold oneN at hc
  split at hc
  · rename_i h0
    obtain rfl := List.mem_singleton.1 hc
    exact absurd h0 (by decide)
  · exact (quo_cases (P := fun _ o => 34 ∉ o) (by decide) (by decide) (by decide) (by decide) (by decide) (by decide) (fun c h => by cases h) c) hc
/-- Comments and processing instructions. -/
theorem comment_cut (P q : List Nat) (e : List (List Nat × List Nat)) (sp : Nat) (o : List (List Nat)) (toks : List XTok) (ru : List Nat) (n : Nat) (l z : List Nat) (h : cutL [45, 45] l = none) (h' : l.getLast? ≠ some 45) (hz : z ≠ []) (e1 : q ++ z = l ++ [45, 45, 62]) :
    (⟨P, [60, 33, 45, 45] ++ q, e, sp, o, toks, ru, n⟩ : RS).comment = none := by
  have e2 : (⟨P, [60, 33, 45, 45] ++ q, e, sp, o, toks, ru, n⟩ : RS).take [60, 33, 45, 45] = ⟨P ++ [60, 33, 45, 45], q, e, sp, o, toks, ru, n⟩ := by
    unfold RS.take
    rw [if_pos (by simp [List.isPrefixOf])]
    exact adv_app P [60, 33, 45, 45] q e sp o toks ru n
  rw [comment_eq, e2]
  split
  · rfl
  · rename_i t s1 ht
    obtain ⟨_, y, hc, rfl⟩ := Adv.takeTo ht
    have hc' : cutL [45, 45] q = some (t, y) := hc
    have he := (cutL_first 45 45 hc').1
    have hm := cut_more z hc'
    rw [e1, show l ++ [45, 45, 62] = l ++ 45 :: 45 :: [62] from rfl, cut_two 45 45 l [62] h (fun _ => h')] at hm
    have hy : [62] = y ++ z := (Prod.mk.inj (Option.some.inj hm)).2
    have hy0 : y = [] := by
      cases y with
      | nil => rfl
      | cons c y =>
        exact (len_one hy.symm hz).elim
    subst hy0
    have hr : ((⟨P ++ [60, 33, 45, 45], q, e, sp, o, toks, ru, n⟩ : RS).adv (t.length + [45, 45].length)).rest = [] := by
      show q.drop (t.length + 2) = []
      rw [he]
      simp
    rw [hr]
    rfl
theorem pi_body {n l q z : List Nat} (h : isTarget n = true) (hc : cutL [63, 62] l = none) (hz : z ≠ []) (e1 : q ++ z = n ++ ((if l = [] then [] else 32 :: l) ++ [63, 62])) : cutL [63, 62] q = none := by
  have hn : ∀ c ∈ n, c ≠ 63 := fun c hm e => by
    have := nm_all (target_name h).1 c hm
    rw [e] at this
    exact absurd this (by decide)
  have hB : cutL [63, 62] (n ++ (if l = [] then [] else 32 :: l)) = none := by
    refine cut_app ?_ n hn
    split
    · rfl
    · exact cut_skip (by decide) hc
  rw [← List.append_assoc] at e1
  exact no_two (by decide) hB e1 hz
theorem instr_cut {s : RS} {q : List Nat} (hs : s.rest = 60 :: 63 :: q) (h : cutL [63, 62] q = none) : s.instruction = none := by
  have e : (s.take [60, 63]).rest = q := by
    unfold RS.take
    rw [hs, if_pos (by simp [List.isPrefixOf])]
    show s.rest.drop 2 = q
    rw [hs]
    rfl
  have e1 : ∃ k, (s.take [60, 63]).name.rest = q.drop k := ⟨_, by show (s.take [60, 63]).rest.drop _ = _; rw [e]⟩
  obtain ⟨k, e1⟩ := e1
  have e2 : ∃ j, (s.take [60, 63]).name.blanks.rest = q.drop j := ⟨_, by show (s.take [60, 63]).name.rest.drop _ = _; rw [e1, List.drop_drop]⟩
  obtain ⟨j, e2⟩ := e2
  rw [instruction_eq]
  split
  · rfl
  · have h1 : (s.take [60, 63]).name.sees [63, 62] = false := by unfold RS.sees; rw [e1]; exact cut_sees (cut_drop h k)
    rw [h1, if_neg (by decide)]
    split
    · rfl
    · unfold RS.takeTo
      rw [e2, cut_drop h j]
      rfl
theorem settings_cut {s : RS} {q : List Nat} (hs : s.rest = 60 :: 63 :: q) (h : cutL [63, 62] q = none) : s.settings = none := by
  have key : ∀ s3 : RS, Adv (s.adv 5) s3 → s3.sees [63, 62] = false := fun s3 ⟨k, hk⟩ => by
    unfold RS.sees
    have : s3.rest = q.drop (3 + k) := by
      rw [hk]
      show (s.rest.drop 5).drop k = _
      rw [hs, List.drop_drop]
      show (60 :: 63 :: q).drop (5 + k) = _
      rw [show 5 + k = (3 + k) + 1 + 1 by omega]
      rfl
    rw [this]
    exact cut_sees (cut_drop h _)
  rw [settings_eq]
  split
  · rfl
  · split
    · rfl
    · rename_i s1 h1
      split
      · rfl
      · rename_i sp s2 h2
        split
        · rfl
        · rename_i b s3 h3
          have ha : Adv (s.adv 5) s3 := ((((Adv.blanks _).then (setting_adv h1)).then (Adv.blanks _)).then (settingIf_adv h2)).then (settingIf_adv h3)
          rw [key s3 ha]
          rfl
/-- Start tags. -/
theorem attr_head (tag g : Nat) (M : List Nat) (e : List (List Nat × List Nat)) (sp : Nat) (o : List (List Nat)) (t : List XTok) (ru : List Nat) (n : Nat) (k : List Nat) (acc : List (List Nat × List Nat)) (P : List Nat) (hk : isQ k = true) (hno : (acc.map (·.1)).contains k = false) :
    ∃ P2, RS.attrsGo tag (g + 1) ⟨P, 32 :: (k ++ 61 :: 34 :: M), e, sp, o, t, ru, n⟩ acc = match RS.valueGo 34 tag (M.length + 1) ⟨P2, M, e, sp, o, t, ru, n⟩ [] with
      | .error e => .error e
      | .ok (v, s4) => RS.attrsGo tag g s4 (acc ++ [(k, v)]) := by
  obtain ⟨c, u, hcu, hbeg⟩ := isQ_beg hk
  obtain ⟨hc1, hc2, hc3, _⟩ := beg_not hbeg
  have hrest : 32 :: (k ++ 61 :: 34 :: M) = [32] ++ (k ++ ([61] ++ ([34] ++ M))) := by simp
  have hkh : ∀ x, (k ++ ([61] ++ ([34] ++ M))).head? = some x → x = c := fun x hx => by
    rw [hcu] at hx
    cases hx
    rfl
  have b1 := blanks_at P [32] (k ++ ([61] ++ ([34] ++ M))) e sp o t ru n (fun x hx => by simp at hx; subst hx; rfl) (fun x hx => by rw [hkh x hx]; exact hc1)
  have q1 : qnameA (k ++ ([61] ++ ([34] ++ M))) = k := isQ_run hk (fun x hx => by cases hx; exact ⟨by decide, by decide⟩)
  have hh : ∀ x, x ≠ c → heads x (k ++ ([61] ++ ([34] ++ M))) = false := fun x hx => by
    rw [hcu, List.cons_append, heads_cons]
    simpa using Ne.symm hx
  have hne : k ≠ [] := by rw [hcu]; simp
  have e1 : (⟨P ++ [32], k ++ ([61] ++ ([34] ++ M)), e, sp, o, t, ru, n⟩ : RS).qname = ⟨P ++ [32] ++ k, [61] ++ ([34] ++ M), e, sp, o, t, ru, n⟩ := by
    unfold RS.qname
    simp only
    rw [q1]
    exact adv_app _ k _ e sp o t ru n
  have e2 : (⟨P ++ [32] ++ k, [61] ++ ([34] ++ M), e, sp, o, t, ru, n⟩ : RS).equals = some ⟨P ++ [32] ++ k ++ [61], [34] ++ M, e, sp, o, t, ru, n⟩ := by
    unfold RS.equals
    rw [(blanks_no (P ++ [32] ++ k) ([61] ++ ([34] ++ M)) e sp o t ru n (fun x hx => by cases hx; rfl)).1]
    rw [if_pos (show heads 61 ([61] ++ ([34] ++ M)) = true from rfl)]
    have := adv_app (P ++ [32] ++ k) [61] ([34] ++ M) e sp o t ru n
    rw [show [61].length = 1 from rfl] at this
    rw [this, (blanks_no _ ([34] ++ M) e sp o t ru n (fun x hx => by cases hx; rfl)).1]
  have e3 : (⟨P ++ [32] ++ k ++ [61], [34] ++ M, e, sp, o, t, ru, n⟩ : RS).value tag = RS.valueGo 34 tag (M.length + 1) ⟨P ++ [32] ++ k ++ [61] ++ [34], M, e, sp, o, t, ru, n⟩ [] := by
    have hq : (⟨P ++ [32] ++ k ++ [61], [34] ++ M, e, sp, o, t, ru, n⟩ : RS).quote = some (34, ⟨P ++ [32] ++ k ++ [61] ++ [34], M, e, sp, o, t, ru, n⟩) := by
      unfold RS.quote
      rw [if_pos (show heads 34 ([34] ++ M) = true from rfl)]
      exact congrArg (fun x => some (34, x)) (adv_app _ [34] _ e sp o t ru n)
    unfold RS.value
    rw [hq]
  refine ⟨P ++ [32] ++ k ++ [61] ++ [34], ?_⟩
  rw [hrest, attrsGo_eq, b1.1, b1.2, hh 47 (Ne.symm hc2), hh 62 (Ne.symm hc3), q1, e1, if_neg (by decide), if_neg (by rw [hno]; simp [hne]), e2]
  simp only
  rw [e3]
  generalize RS.valueGo 34 tag (M.length + 1) _ [] = r
  cases r with
  | error x => rfl
  | ok y => rfl
theorem attrs_cut (tag sp : Nat) (o : List (List Nat)) (t : List XTok) (ru : List Nat) (n : Nat) : ∀ (a acc : List (List Nat × List Nat)) (f : Nat) (P p z : List Nat), (∀ x ∈ a, isQ x.1 = true) → ((acc ++ a).map (·.1)).Nodup → z ≠ [] → p ++ z = a.flatMap attrL ++ [62] →
    AOk (RS.attrsGo tag f ⟨P, p, [], sp, o, t, ru, n⟩ acc)
  | [], acc, f, P, p, z, _, _, hz, hp => by
    have h0 : p <+: ([] : List Nat) := pre_snoc hp hz
    rw [List.prefix_nil.1 h0]
    exact attrs_no62 tag f _ acc rfl (fun h => by cases h)
  | (k, v) :: a, acc, f, P, p, z, hq, hd, hz, hp => by
    have hk : isQ k = true := hq (k, v) (List.mem_cons_self ..)
    have hno : (acc.map (·.1)).contains k = false := by
      rw [List.map_append, List.nodup_append] at hd
      cases hh : (acc.map (·.1)).contains k with
      | false => rfl
      | true =>
        have h1 : k ∈ acc.map (·.1) := by simpa using hh
        exact absurd rfl (hd.2.2 k h1 k (by simp))
    have hp1 : p ++ z = (32 :: (k ++ [61, 34])) ++ (mapN quoN v ++ ([34] ++ (a.flatMap attrL ++ [62]))) := by
      rw [hp]
      simp [attrL]
    rcases split_pre hp1 with ⟨m, rfl, hm⟩ | ⟨z', _, hm⟩
    · cases f with
      | zero => exact .inl ⟨_, rfl⟩
      | succ g =>
        obtain ⟨P2, e1⟩ := attr_head tag g m [] sp o t ru n k acc P hk hno
        have e0 : 32 :: (k ++ [61, 34]) ++ m = 32 :: (k ++ 61 :: 34 :: m) := by simp
        rw [e0, e1]
        rcases split_pre hm with ⟨m2, rfl, hm2⟩ | ⟨z2, _, hm2⟩
        · rcases split_pre hm2 with ⟨m3, rfl, hm3⟩ | ⟨z3, hz3, hm3⟩
          · obtain ⟨P3, h3⟩ := value_quoted tag m3 [] sp o t ru n v.length v rfl ((mapN quoN v ++ ([34] ++ m3)).length + 1) P2 [] (by simp; omega)
            rw [show mapN quoN v ++ ([34] ++ m3) = mapN quoN v ++ 34 :: m3 from rfl] at h3 ⊢
            rw [h3]
            simp only [List.nil_append]
            exact attrs_cut tag sp o t ru n a (acc ++ [(k, v)]) g P3 m3 z (fun x hx => hq x (List.mem_cons_of_mem _ hx)) (by rw [List.append_assoc]; exact hd) hz hm3
          · have h0 : m2 = [] := by
              cases m2 with
              | nil => rfl
              | cons c m2 =>
                exact (len_one hm3 hz3).elim
            subst h0
            rw [List.append_nil]
            obtain ⟨pl, h5⟩ := value_open 34 tag ((mapN quoN v).length + 1) ⟨P2, mapN quoN v, [], sp, o, t, ru, n⟩ [] rfl (quo_no v)
            rw [h5]
            exact .inl ⟨_, rfl⟩
        · obtain ⟨pl, h5⟩ := value_open 34 tag (m.length + 1) ⟨P2, m, [], sp, o, t, ru, n⟩ [] rfl (fun h => quo_no v (by rw [← hm2]; exact List.mem_append_left _ h))
          rw [h5]
          exact .inl ⟨_, rfl⟩
    · refine attrs_no62 tag f _ acc rfl (fun h => ?_)
      have h1 : 62 ∈ 32 :: (k ++ [61, 34]) := by rw [← hm]; exact List.mem_append_left _ h
      rcases List.mem_cons.1 h1 with h1 | h1
      · cases h1
      · rcases List.mem_append.1 h1 with h1 | h1
        · exact isQ_no hk 62 (by decide) (by decide) h1
        · simp at h1
theorem start_cut (P p z : List Nat) (sp : Nat) (o : List (List Nat)) (toks : List XTok) (ru : List Nat) (n : Nat) (k : List Nat) (a : List (List Nat × List Nat)) (hk : isQ k = true) (ha : ∀ x ∈ a, isQ x.1 = true) (hd : (a.map (·.1)).Nodup) (hz : z ≠ []) (hp : p ++ z = k ++ (a.flatMap attrL ++ [62])) :
    Is5 (⟨P, 60 :: p, [], sp, o, toks, ru, n⟩ : RS).startTag := by
  have short : (∀ c ∈ p, c ∈ k) → Is5 (⟨P, 60 :: p, [], sp, o, toks, ru, n⟩ : RS).startTag := fun hc => by
    refine start_no62 rfl (fun h => ?_)
    rcases List.mem_cons.1 h with h | h
    · cases h
    · exact isQ_no hk 62 (by decide) (by decide) (hc 62 h)
  rcases split_pre hp with ⟨p2, rfl, hp2⟩ | ⟨z', _, hp2⟩
  · by_cases h0 : p2 = []
    · subst h0
      exact short (fun c hc => by simpa using hc)
    · refine start_of fun tag _ => ?_
      have e1 : (⟨P, 60 :: (k ++ p2), [], sp, o, toks, ru, n⟩ : RS).take [60] = ⟨P ++ [60], k ++ p2, [], sp, o, toks, ru, n⟩ := by
        unfold RS.take
        rw [if_pos (by simp [List.isPrefixOf])]
        exact adv_app P [60] (k ++ p2) [] sp o toks ru n
      have e2 : qnameA (k ++ p2) = k := isQ_run hk (fun c hc => attrs_head a [] c (by
        rw [← hp2]
        cases p2 with
        | nil => cases hc
        | cons d p2 => exact hc))
      have e3 : (⟨P ++ [60], k ++ p2, [], sp, o, toks, ru, n⟩ : RS).qname = ⟨P ++ [60] ++ k, p2, [], sp, o, toks, ru, n⟩ := by
        unfold RS.qname
        simp only
        rw [e2]
        exact adv_app _ k p2 [] sp o toks ru n
      rw [e1, e3]
      exact attrs_cut tag sp o toks ru n a [] _ _ p2 z ha (by simpa using hd) hz hp2
  · exact short (fun c hc => by rw [← hp2]; exact List.mem_append_left _ hc)
end Go.Proofs.YtekjiagjgopnjaaGreatDoor
