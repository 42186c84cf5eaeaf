/- Several texts, laid as one. -/
import Derived.Test.YtiembljlhmgpjaaGreatDoorGbj
import Derived.Test.YtiembljlhmgpjaaGreatDoorXmlWrQ
/- Tokens in bytes are the same in characters, where they are a document's. -/
namespace Go.Proofs.YtiembljlhmgpjaaGreatDoor
def XTok.b (t : XTok) : BTok := ⟨(t.kind : Nat), T t.name, t.attrs.map fun x => (T x.1, T x.2), T t.text⟩
structure OkAll (t : XTok) : Prop where
  n : okL t.name
  a : ∀ x ∈ t.attrs, okL x.1 ∧ okL x.2
  x : okL t.text
theorem okL_nil : okL [] := fun _ h => by cases h
/-- What is written in bytes is what is written in characters. -/
theorem attr_tx {x : List Nat × List Nat} (h : okL x.2) : attrB (T x.1, T x.2) = tx (attrL x) := by
  have e : attrL x = [32] ++ (x.1 ++ ([61, 34] ++ (mapN quoN x.2 ++ [34]))) := by unfold attrL; simp
  rw [e, tx_append, tx_append, tx_append, tx_append, ← map_tx quo_both x.2 h]
  unfold attrB
  rw [T_data, T_data]
  rfl
theorem attrs_tx : ∀ {a : List (List Nat × List Nat)}, (∀ x ∈ a, okL x.1 ∧ okL x.2) → (a.map fun x => (T x.1, T x.2)).flatMap attrB = tx (a.flatMap attrL)
  | [], _ => rfl
  | x :: a, h => by
    rw [List.map_cons, List.flatMap_cons, List.flatMap_cons, tx_append, attrs_tx (fun y hy => h y (List.mem_cons_of_mem _ hy)), attr_tx (h x (List.mem_cons_self ..)).2]
theorem tok_tx {x : XTok} (h : OkAll x) (hok : OkTok x) : tokB x.b = tx (tokL x) := by
  cases hok with
  | elem n a =>
    show 60 :: ((T n).data.toList ++ ((a.map fun x => (T x.1, T x.2)).flatMap attrB ++ [62])) = tx ([60] ++ (n ++ (a.flatMap attrL ++ [62])))
    rw [tx_append, tx_append, tx_append, attrs_tx h.a, T_data]
    rfl
  | fin n =>
    show 60 :: 47 :: ((T n).data.toList ++ [62]) = tx ([60, 47] ++ (n ++ [62]))
    rw [tx_append, tx_append, T_data]
    rfl
  | text l =>
    show mapO escO (T l).data.toList = tx (mapN escN l)
    rw [T_data, map_tx esc_both l h.x]
  | comment l =>
    show 60 :: 33 :: 45 :: 45 :: ((T l).data.toList ++ [45, 45, 62]) = tx ([60, 33, 45, 45] ++ (l ++ [45, 45, 62]))
    rw [tx_append, tx_append, T_data]
    rfl
  | pi n l =>
    show 60 :: 63 :: ((T n).data.toList ++ ((if (T l).toList.isEmpty then [] else 32 :: (T l).data.toList) ++ [63, 62])) = tx ([60, 63] ++ (n ++ ((if l = [] then [] else 32 :: l) ++ [63, 62])))
    rw [tx_append, tx_append, tx_append, T_data]
    by_cases hl : l = []
    · subst hl
      rw [T_toList]
      rfl
    · rw [if_neg hl, show (T l).toList.isEmpty = false from ne_T h.x hl, T_data]
      rfl
theorem okL_attr {x : List Nat × List Nat} (h : okL x.1 ∧ okL x.2) : okL (attrL x) := by
  have e : attrL x = [32] ++ (x.1 ++ ([61, 34] ++ (mapN quoN x.2 ++ [34]))) := by unfold attrL; simp
  rw [e]
  exact okL_app (okL_of (by decide)) (okL_app h.1 (okL_app (okL_of (by decide)) (okL_app (map_ok quo_ref h.2) (okL_of (by decide)))))
theorem okL_attrs : ∀ {a : List (List Nat × List Nat)}, (∀ x ∈ a, okL x.1 ∧ okL x.2) → okL (a.flatMap attrL)
  | [], _ => okL_nil
  | x :: a, h => by
    rw [List.flatMap_cons]
    exact okL_app (okL_attr (h x (List.mem_cons_self ..))) (okL_attrs fun y hy => h y (List.mem_cons_of_mem _ hy))
theorem okL_tok {x : XTok} (h : OkAll x) (hok : OkTok x) : okL (tokL x) := by
  cases hok with
  | elem n a => exact okL_app (a := [60]) (okL_of (by decide)) (okL_app h.n (okL_app (okL_attrs h.a) (okL_of (by decide))))
  | fin n => exact okL_app (a := [60, 47]) (okL_of (by decide)) (okL_app h.n (okL_of (by decide)))
  | text l => exact map_ok esc_ref h.x
  | comment l => exact okL_app (a := [60, 33, 45, 45]) (okL_of (by decide)) (okL_app h.x (okL_of (by decide)))
  | pi n l =>
    refine okL_app (a := [60, 63]) (okL_of (by decide)) (okL_app h.n (okL_app ?_ (okL_of (by decide))))
    by_cases hl : l = []
    · simp only [hl, if_pos]; exact okL_nil
    · simp only [if_neg hl]; exact okL_app (a := [32]) (okL_of (by decide)) h.x
theorem doc_all : ∀ {xs : List XTok} {o : List (List Nat)} {r : Bool} {k : Nat}, DocT o r k xs → ∀ x ∈ xs, OkTok x
  | [], _, _, _, _ => fun _ h => by cases h
  | t :: ts, o, r, k, h => by
    have h1 : OkTok t ∧ ∃ o' r' k', DocT o' r' k' ts := by
      cases h with
      | elem m a _ _ _ _ h hr ho' ha hn => exact ⟨h, _, _, _, hn⟩
      | fin m _ _ _ _ h ho' hn => exact ⟨h, _, _, _, hn⟩
      | text l _ _ _ _ h ho' hk hn => exact ⟨h, _, _, _, hn⟩
      | comment l _ _ _ _ h hn => exact ⟨h, _, _, _, hn⟩
      | pi m l _ _ _ _ h hn => exact ⟨h, _, _, _, hn⟩
    obtain ⟨ht, o', r', k', hn⟩ := h1
    intro x hx
    rcases List.mem_cons.1 hx with rfl | hx
    · exact ht
    · exact doc_all hn x hx
theorem write_tx : ∀ {xs : List XTok}, (∀ x ∈ xs, OkAll x) → (∀ x ∈ xs, OkTok x) → writeB (xs.map XTok.b) = tx (writeX xs) ∧ okL (writeX xs)
  | [], _, _ => ⟨rfl, okL_nil⟩
  | x :: xs, h1, h2 => by
    obtain ⟨i1, i2⟩ := write_tx (fun y hy => h1 y (List.mem_cons_of_mem _ hy)) (fun y hy => h2 y (List.mem_cons_of_mem _ hy))
    have hx := h1 x (List.mem_cons_self ..)
    have hk := h2 x (List.mem_cons_self ..)
    refine ⟨?_, ?_⟩
    · show tokB x.b ++ writeB (xs.map XTok.b) = tx (tokL x ++ writeX xs)
      rw [i1, tok_tx hx hk, tx_append]
    · exact okL_app (okL_tok hx hk) i2
end Go.Proofs.YtiembljlhmgpjaaGreatDoor
/- The tokens that Scan tells are of characters that may be, and none is long: in plain terms. -/
namespace Go.Proofs.YtiembljlhmgpjaaGreatDoor
structure TokF (t : XTok) : Prop where
  ok : OkAll t
  n : (tx t.name).length ≤ 100000
  a : ∀ x ∈ t.attrs, (tx x.1).length ≤ 100000 ∧ (tx x.2).length ≤ 100000
  x : (tx t.text).length ≤ 100000
def AllF (s : RS) : Prop := ∀ t ∈ s.toks, TokF t
theorem AllF.same {s s' : RS} (h : AllF s) (e : s'.toks = s.toks) : AllF s' := by unfold AllF; rw [e]; exact h
theorem Good.runF {s : RS} (h : Good s) : TokF ⟨4, [], [], s.run⟩ := by
  have h1 := h.rl
  have h2 := h.fine.lt
  have h3 := h.sp
  exact ⟨⟨okL_nil, (fun _ hx => by cases hx), h.okr⟩, Nat.zero_le _, (fun _ hx => by cases hx), by show (tx s.run).length ≤ _; omega⟩
theorem tell_F {s s' : RS} {t : XTok} {a : Nat} (hG : Good s) (h : AllF s) (ht : TokF t) (hk : s.tell t a = .ok s') : AllF s' := by
  unfold RS.tell at hk
  split at hk
  · cases hk
  · cases hk
    intro x hx
    rcases List.mem_append.1 hx with hx | hx
    · by_cases hr : s.run = []
      · rw [(flush_eq s).1 hr] at hx; exact h x hx
      · rw [(flush_eq s).2 hr] at hx
        rcases List.mem_append.1 hx with hx | hx
        · exact h x hx
        · rw [List.mem_singleton.1 hx]; exact hG.runF
    · rw [List.mem_singleton.1 hx]; exact ht
theorem pre_F {s : RS} (hG : Good s) {x : List Nat} (h : x <+: s.rest) : okL x ∧ (tx x).length ≤ 100000 := by
  have h1 := hG.fine.lt
  have h2 := size_pre h
  rw [T_size] at h2
  exact ⟨okL_pre hG.fine.okR h, by omega⟩
theorem cut_F {s s' : RS} (hG : Good s) {a x : List Nat} (ha : ∀ c ∈ a, c < 128) (hne : a ≠ []) (h : s.takeTo a = some (x, s')) : okL x ∧ (tx x).length ≤ 100000 := by
  obtain ⟨_, y, hc, _⟩ := Adv.takeTo h
  have e := cutL_app ha hne hG.fine.okR hc
  exact pre_F hG ⟨a ++ y, by rw [e, List.append_assoc]⟩
theorem value_F (q tag : Nat) : ∀ (f : Nat) (s s' : RS) (t v : List Nat), EOk s.ents → Good s → okL t → (tx t).length ≤ 2 * s.place + s.spent → RS.valueGo q tag f s t = .ok (v, s') → okL v ∧ (tx v).length ≤ 100000
  | 0, s, s', t, v, _, _, _, _, h => by cases h
  | f + 1, s, s', t, v, hN, hG, ht, hl, h => by
    rw [valueGo_eq] at h
    have hpp : s.rest.takeWhile (plainC q) <+: s.rest := List.takeWhile_prefix _
    have hop := okL_pre hG.fine.okR hpp
    have hplc := place_pre s hpp
    have hsz := sz_space hop
    have hosp := okL_space hop
    have G1 := hG.adv (s.rest.takeWhile (plainC q)).length
    have N1 : EOk (s.adv (s.rest.takeWhile (plainC q)).length).ents := hN
    have e1 : (s.adv (s.rest.takeWhile (plainC q)).length).spent = s.spent := rfl
    generalize s.rest.takeWhile (plainC q) = p at *
    generalize s.adv p.length = s1 at *
    have hl1 : (tx (t ++ p.map spaceC)).length ≤ 2 * s1.place + s1.spent := by
      rw [tx_len_app, ← T_size (p.map spaceC), hsz]
      omega
    have ht1 := okL_app ht hosp
    have hz := G1.fine.lt
    have hsp := G1.sp
    split at h
    · cases h
      exact ⟨ht1, by omega⟩
    · split at h
      · split at h
        · cases h
        · rename_i u s2 hr
          have r1 := ref_t N1 G1.fine.okR G1.sp hr
          have r2 := ref_sum N1 G1.fine.okR G1.sp hr
          refine value_F q tag f s2 s' _ v (EOk.of r1.1.same.1 N1) (G1.t r1.1) (okL_app ht1 r1.2.1) ?_ h
          rw [tx_len_app]
          have := r1.2.2.2.1
          omega
      · cases h
theorem attrs_F (tag : Nat) : ∀ (f : Nat) (s s' : RS) (acc a : List (List Nat × List Nat)), EOk s.ents → Good s → (∀ x ∈ acc, (okL x.1 ∧ okL x.2) ∧ (tx x.1).length ≤ 100000 ∧ (tx x.2).length ≤ 100000) → RS.attrsGo tag f s acc = .ok (a, s') → ∀ x ∈ a, (okL x.1 ∧ okL x.2) ∧ (tx x.1).length ≤ 100000 ∧ (tx x.2).length ≤ 100000
  | 0, s, s', acc, a, _, _, _, h => by cases h
  | f + 1, s, s', acc, a, hN, hG, hA, h => by
    rw [RS.attrsGo] at h
    simp only at h
    split at h
    · cases h; exact hA
    · split at h
      · cases h
      · split at h
        · cases h
        · rename_i s3 heq
          split at h
          · cases h
          · rename_i v s4 hv
            have G1 := hG.to (Adv.blanks s)
            obtain ⟨n1, n2⟩ := pre_F G1 (qnameA_pre s.blanks.rest)
            have ha3 : Adv s s3 := ((Adv.blanks s).then (Adv.qname _)).then (Adv.equals heq)
            have G3 := hG.to ha3
            have N3 := EOk.of ha3.same.1 hN
            have hv' := hv
            unfold RS.value at hv
            split at hv
            · cases hv
            · rename_i q s5 hq
              have G5 := G3.to (Adv.quote hq)
              have N5 := EOk.of (Adv.quote hq).same.1 N3
              obtain ⟨v1, v2⟩ := value_F q tag _ s5 s4 [] v N5 G5 okL_nil (Nat.zero_le _) hv
              have ha4 := value_adv N3 G3.fine.okR G3.sp hv'
              refine attrs_F tag f s4 s' _ a (EOk.of ha4.same.1 N3) (G3.t ha4) (fun x hx => ?_) h
              rcases List.mem_append.1 hx with hx | hx
              · exact hA x hx
              · rw [List.mem_singleton.1 hx]; exact ⟨⟨n1, v1⟩, n2, v2⟩
end Go.Proofs.YtiembljlhmgpjaaGreatDoor
/- Every token that Scan tells is of characters that may be, and none is long. -/
namespace Go.Proofs.YtiembljlhmgpjaaGreatDoor
theorem com_F {s s' : RS} (hG : Good s) (h : AllF s) (ht : s.tellComment = .ok s') : AllF s' := by
  unfold RS.tellComment at ht
  split at ht
  · cases ht
  · rename_i t s1 hc
    have ha := Adv.comment hc
    refine tell_F (hG.to ha) (h.same ha.same.2.2.2.1) ?_ ht
    have hc' := hc
    rw [comment_eq] at hc
    split at hc
    · cases hc
    · rename_i u s2 hu
      split at hc
      · cases hc
        obtain ⟨h1, h2⟩ := cut_F (hG.to (Adv.take s [60, 33, 45, 45])) (by decide) (by simp) hu
        exact ⟨⟨okL_nil, (fun _ hx => by cases hx), h1⟩, Nat.zero_le _, (fun _ hx => by cases hx), h2⟩
      · cases hc
theorem instr_F {s s' : RS} (hG : Good s) (h : AllF s) (ht : s.tellInstruction = .ok s') : AllF s' := by
  unfold RS.tellInstruction at ht
  split at ht
  · cases ht
  · rename_i n t s1 hc
    have ha := (Adv.instruction hc).1
    refine tell_F (hG.to ha) (h.same ha.same.2.2.2.1) ?_ ht
    have G1 := hG.to (Adv.take s [60, 63])
    obtain ⟨n1, n2⟩ := pre_F G1 (nameA_pre (s.take [60, 63]).rest)
    rw [instruction_eq] at hc
    split at hc
    · cases hc
    · split at hc
      · cases hc
        exact ⟨⟨n1, (fun _ hx => by cases hx), okL_nil⟩, n2, (fun _ hx => by cases hx), Nat.zero_le _⟩
      · split at hc
        · cases hc
        · cases hx : (s.take [60, 63]).name.blanks.takeTo [63, 62] with
          | none => rw [hx] at hc; cases hc
          | some z =>
            obtain ⟨u, s2⟩ := z
            rw [hx] at hc
            cases hc
            obtain ⟨h1, h2⟩ := cut_F ((G1.to (Adv.name _)).to (Adv.blanks _)) (by decide) (by simp) hx
            exact ⟨⟨n1, (fun _ hx => by cases hx), h1⟩, n2, (fun _ hx => by cases hx), h2⟩
theorem end_F {s s' : RS} (hG : Good s) (h : AllF s) (ht : s.endTag = .ok s') : AllF s' := by
  unfold RS.endTag at ht
  simp only at ht
  split at ht
  · have ha : Adv s ((s.take [60, 47]).qname.blanks.adv 1) := (((Adv.take s _).then (Adv.qname _)).then (Adv.blanks _)).then (Adv.by _ 1)
    obtain ⟨n1, n2⟩ := pre_F (hG.to (Adv.take s [60, 47])) (qnameA_pre (s.take [60, 47]).rest)
    refine tell_F ((hG.to ha).opn s.opn.dropLast) (h.same ha.same.2.2.2.1) ?_ ht
    exact ⟨⟨n1, (fun _ hx => by cases hx), okL_nil⟩, n2, (fun _ hx => by cases hx), Nat.zero_le _⟩
  · cases ht
theorem room_F {s s' : RS} (h : AllF s) (ht : s.room = .ok s') : AllF s' := by
  unfold RS.room at ht
  split at ht
  · cases ht
  · cases ht; exact h
theorem start_F {s s' : RS} (hG : Good s) (hN : EOk s.ents) (hs : s.sees [60] = true) (hT : AllF s) (h : s.startTag = .ok s') : AllF s' := by
  rw [startTag_eq, take_adv hs] at h
  split at h
  · cases h
  · have h2 : Adv (s.adv 1) (s.adv 1).qname := Adv.qname _
    split at h
    · cases h
    · rename_i a s3 hat
      have G2 := (hG.adv 1).to h2
      have hA := attrs_F s.place _ _ _ [] a (show EOk (s.adv 1).qname.ents from hN) G2 (fun x hx => by cases hx) hat
      obtain ⟨n1, n2⟩ := pre_F (hG.adv 1) (qnameA_pre (s.adv 1).rest)
      obtain ⟨k, hk⟩ := h2
      have h3 : AdvT (s.adv 1) s3 := (Adv.qname _).t.then (attrsGo_adv s.place _ _ [] a s3 (by show EOk s.ents; exact hN) (by rw [hk]; exact okL_drop (okL_drop hG.fine.okR 1) k) hG.sp hat)
      have h5 : AdvT (s.adv 1) ((s3.take [47]).adv 1) := (h3.then (Adv.take s3 [47]).t).then (Adv.by _ 1).t
      have h5' := (Adv.by s 1).t.then h5
      have G5 := hG.t h5'
      have F5 := hT.same h5'.same.2.2.2.1
      split at h
      · cases h
      · split at h
        · cases h
        · split at h
          · cases h
          · rename_i s6 htl
            have F6 := tell_F G5 F5 ⟨⟨n1, fun x hx => (hA x hx).1, okL_nil⟩, n2, fun x hx => (hA x hx).2, Nat.zero_le _⟩ htl
            have G6 := (G5.tell htl).1
            split at h
            · exact tell_F G6 F6 ⟨⟨n1, (fun _ hx => by cases hx), okL_nil⟩, n2, (fun _ hx => by cases hx), Nat.zero_le _⟩ h
            · cases h
              exact F6
theorem one_F {s s' : RS} (hG : Good s) (hN : EOk s.ents) (hT : AllF s) (h : s.contentOne = .ok s') : AllF s' := by
  unfold RS.contentOne at h
  split at h
  · exact end_F hG hT h
  · split at h
    · exact com_F hG hT h
    · split at h
      · unfold RS.section' at h
        split at h
        · cases h
        · rename_i t s1 ht
          have ha := (Adv.take s [60, 33, 91, 67, 68, 65, 84, 65, 91]).then (Adv.takeTo ht).1
          refine room_F ?_ h
          exact hT.same (s' := _) ha.same.2.2.2.1
      · split at h
        · exact instr_F hG hT h
        · split at h
          · rename_i h1
            exact start_F hG hN h1 hT h
          · split at h
            · unfold RS.refRun at h
              split at h
              · cases h
              · rename_i t s1 ht
                have ha := (ref_t hN hG.fine.okR hG.sp ht).1
                refine room_F ?_ h
                exact hT.same (s' := _) ha.same.2.2.2.1
            · split at h
              · unfold RS.plain at h
                have ha := Adv.by s (plainA s.rest).length
                refine room_F ?_ h
                exact hT.same (s' := _) ha.same.2.2.2.1
              · cases h
theorem content_F : ∀ (f : Nat) (s s' : RS), Good s → OpnOk s → EOk s.ents → AllF s → RS.content f s = .ok s' → AllF s'
  | 0, s, s', _, _, _, hT, h => by unfold RS.content at h; cases h; exact hT
  | f + 1, s, s', hG, hO, hN, hT, h => by
    unfold RS.content at h
    split at h
    · cases h; exact hT
    · cases hc : s.contentOne with
      | error e => rw [hc] at h; cases h
      | ok s1 =>
        rw [hc] at h
        obtain ⟨k1, k2, k3, k4⟩ := contentOne_ok hG hO hN hc
        exact content_F f s1 s' k2 k3 k4 (one_F hG hN hT hc) h
theorem docGo_F : ∀ (f : Nat) (typed rooted : Bool) (s s' : RS), Good s → OpnOk s → EOk s.ents → AllF s → RS.docGo f typed rooted s = .ok s' → AllF s'
  | 0, typed, rooted, s, s', _, _, _, _, h => by cases h
  | f + 1, typed, rooted, s0, s', hG0, hO0, hN0, hT0, h => by
    rw [docGo_eq] at h
    have hG := hG0.to (Adv.blanks s0)
    have hO : OpnOk s0.blanks := hO0.to (Adv.blanks s0).same.2.1
    have hN : EOk s0.blanks.ents := hN0
    have hT : AllF s0.blanks := hT0.same (Adv.blanks s0).same.2.2.2.1
    generalize s0.blanks = s at *
    split at h
    · rename_i h1
      obtain ⟨s1, hs1, h⟩ := docMore_ok h
      obtain ⟨_, k2, k3, k4⟩ := comment_less hG hO hN h1 hs1
      exact docGo_F f _ _ s1 s' k2 k3 k4 (com_F hG hT hs1) h
    · split at h
      · rename_i h1
        obtain ⟨s1, hs1, h⟩ := docMore_ok h
        obtain ⟨_, k2, k3, k4⟩ := instruction_less hG hO hN h1 hs1
        exact docGo_F f _ _ s1 s' k2 k3 k4 (instr_F hG hT hs1) h
      · split at h
        · rename_i h1
          obtain ⟨s1, hs1, h⟩ := docMore_ok h
          have h1' : s.sees [60, 33, 68, 79, 67, 84, 89, 80, 69] = true := by simp at h1; exact h1.1
          obtain ⟨_, k2, k3, k4⟩ := doctype_less hG hO hN h1' hs1
          exact docGo_F f _ _ s1 s' k2 k3 k4 (hT.same (doctype_same hs1).1) h
        · split at h
          · rename_i h1
            obtain ⟨s2, hs2, h⟩ := docMore_ok h
            have h1' : s.sees [60] = true ∧ rooted = false := by simpa using h1
            unfold docElem at hs2
            cases hst : s.startTag with
            | error e => rw [hst] at hs2; cases hs2
            | ok s1 =>
              rw [hst] at hs2
              obtain ⟨_, k2, k3, k4⟩ := start_less hG hO hN h1'.1 hst
              obtain ⟨_, j2, j3, j4⟩ := content_ok _ s1 s2 k2 k3 k4 hs2
              exact docGo_F f _ _ s2 s' j2 j3 j4 (content_F _ s1 s2 k2 k3 k4 (start_F hG hN h1'.1 hT hst) hs2) h
          · split at h
            · cases h
            · cases h; exact hT
theorem scan_F {cs : List Nat} {ts : List XTok} (hl : okL cs) (hs : (T cs).size ≤ 32768) (h : scanX cs = .ok ts) : ∀ t ∈ ts, TokF t := by
  obtain ⟨hG, hO⟩ := start_good hl hs
  have hT : AllF (RS.start cs) := fun t ht => by cases ht
  unfold scanX at h
  split at h
  · cases h
  · rename_i s' hd
    cases h
    unfold RS.document at hd
    split at hd
    · split at hd
      · cases hd
      · rename_i s1 hst
        have ha := settings_adv hst
        exact docGo_F _ _ _ s1 s' (hG.to ha) (hO.to ha.same.2.1) (EOk.of ha.same.1 EOk.nil) (hT.same ha.same.2.2.2.1) hd
    · exact docGo_F _ _ _ (RS.start cs) s' hG hO EOk.nil hT hd
end Go.Proofs.YtiembljlhmgpjaaGreatDoor
/- A document of tokens that may stand is one for Write, too: the way of the open elements. -/
namespace Go.Proofs.YtiembljlhmgpjaaGreatDoor
theorem docB_of (leaf : ∀ x : XTok, OkTok x → OkAll x → okB x.b = true) {o : List (List Nat)} {r : Bool} {k : Nat} {ts : List XTok} (h : DocT o r k ts) : (∀ t ∈ ts, OkAll t) → docB (o.map T) r (k : Nat) (ts.map XTok.b) = true := by
  induction h with
  | done k => intro _; rfl
  | elem n a o r k ts h hr ho ha hn ih =>
    intro hA
    have h1 := leaf _ h (hA _ (by simp))
    have h2 := ih (fun t ht => hA t (by simp [ht]))
    rw [List.map_append] at h2
    rw [List.map_cons, docB, h1, Bool.true_and]
    have e : docStp (o.map T) r k (XTok.b ⟨2, n, a, []⟩) = some (o.map T ++ [T n], true) := by
      unfold docStp
      rw [if_pos (show (XTok.b ⟨2, n, a, []⟩).kind = 2 from rfl), if_neg]
      · rfl
      · cases o with
        | nil => rw [hr rfl]; decide
        | cons c o => simp
    rw [e]
    exact h2
  | fin n o r k ts h ho hn ih =>
    intro hA
    have h1 := leaf _ h (hA _ (by simp))
    have h2 := ih (fun t ht => hA t (by simp [ht]))
    rw [List.map_dropLast] at h2
    rw [List.map_cons, docB, h1, Bool.true_and]
    have hg : (o.map T).getLast? = some (T n) := by rw [List.getLast?_map, ho]; rfl
    have e : docStp (o.map T) r k (XTok.b ⟨7, n, [], []⟩) = some ((o.map T).dropLast, r) := by
      unfold docStp
      rw [if_neg (by show ¬ (7 : Int) = 2; decide), if_pos (show (XTok.b ⟨7, n, [], []⟩).kind = 7 from rfl), hg]
      simp [XTok.b]
    rw [e]
    exact h2
  | text l o r k ts h ho hk hn ih =>
    intro hA
    have h1 := leaf _ h (hA _ (by simp))
    have h2 := ih (fun t ht => hA t (by simp [ht]))
    rw [List.map_cons, docB, h1, Bool.true_and]
    have e : docStp (o.map T) r k (XTok.b ⟨4, [], [], l⟩) = some (o.map T, r) := by
      unfold docStp
      rw [if_neg (by show ¬ (4 : Int) = 2; decide), if_neg (by show ¬ (4 : Int) = 7; decide), if_pos (show (XTok.b ⟨4, [], [], l⟩).kind = 4 from rfl)]
      have h3 : (o.map T).isEmpty = false := by cases o with | nil => exact absurd rfl ho | cons c o => rfl
      have h4 : ((k : Int) == 4) = false := by simp; omega
      rw [h3, h4]
      rfl
    rw [e]
    exact h2
  | comment l o r k ts h hn ih =>
    intro hA
    have h1 := leaf _ h (hA _ (by simp))
    have h2 := ih (fun t ht => hA t (by simp [ht]))
    rw [List.map_cons, docB, h1, Bool.true_and]
    exact h2
  | pi n l o r k ts h hn ih =>
    intro hA
    have h1 := leaf _ h (hA _ (by simp))
    have h2 := ih (fun t ht => hA t (by simp [ht]))
    rw [List.map_cons, docB, h1, Bool.true_and]
    exact h2
end Go.Proofs.YtiembljlhmgpjaaGreatDoor
