/- Several texts, laid as one. -/
import Derived.Test.YtjjggncbhenffaaGreatDoorGbj
import Derived.Test.YtjjggncbhenffaaGreatDoorGbl
/- The tokens that Scan tells are of characters that may be, and none is long: in plain terms. -/
namespace Go.Proofs.YtjjggncbhenffaaGreatDoor
structure TokF (t : XTok) : Prop where
  ok : OkAll t
  n : (tx t.name).length ≤ 100000
  a : ∀ x ∈ t.attrs, (tx x.1).length ≤ 100000 ∧ (tx x.2).length ≤ 100000
  x : (tx t.text).length ≤ 100000
def AllF (s : RS) : Prop := ∀ t ∈ s.toks, TokF t
theorem AllF.same {s s' : RS} (h : AllF s) (e : s'.toks = s.toks) : AllF s' := by unfold AllF; rw [e]; exact h
theorem Good.runF {s : RS} (h : Good s) : TokF ⟨4, [], [], s.run⟩ := by
  have h1 := h.rl
  have h2 := h.fine.lt
  have h3 := h.sp
  exact ⟨⟨okL_nil, (fun _ hx => by cases hx), h.okr⟩, Nat.zero_le _, (fun _ hx => by cases hx), by show (tx s.run).length ≤ _; omega⟩
theorem tell_F {s s' : RS} {t : XTok} {a : Nat} (hG : Good s) (h : AllF s) (ht : TokF t) (hk : s.tell t a = .ok s') : AllF s' := by
  unfold RS.tell at hk
  split at hk
  · cases hk
  · cases hk
    intro x hx
    rcases List.mem_append.1 hx with hx | hx
    · by_cases hr : s.run = []
      · rw [(flush_eq s).1 hr] at hx; exact h x hx
      · rw [(flush_eq s).2 hr] at hx
        rcases List.mem_append.1 hx with hx | hx
        · exact h x hx
        · rw [List.mem_singleton.1 hx]; exact hG.runF
    · rw [List.mem_singleton.1 hx]; exact ht
theorem pre_F {s : RS} (hG : Good s) {x : List Nat} (h : x <+: s.rest) : okL x ∧ (tx x).length ≤ 100000 := by
  have h1 := hG.fine.lt
  have h2 := size_pre h
  rw [T_size] at h2
  exact ⟨okL_pre hG.fine.okR h, by omega⟩
theorem cut_F {s s' : RS} (hG : Good s) {a x : List Nat} (ha : ∀ c ∈ a, c < 128) (hne : a ≠ []) (h : s.takeTo a = some (x, s')) : okL x ∧ (tx x).length ≤ 100000 := by
  obtain ⟨_, y, hc, _⟩ := Adv.takeTo h
  have e := cutL_app ha hne hG.fine.okR hc
  exact pre_F hG ⟨a ++ y, by rw [e, List.append_assoc]⟩
theorem value_F (q tag : Nat) : ∀ (f : Nat) (s s' : RS) (t v : List Nat), EOk s.ents → Good s → okL t → (tx t).length ≤ 2 * s.place + s.spent → RS.valueGo q tag f s t = .ok (v, s') → okL v ∧ (tx v).length ≤ 100000
  | 0, s, s', t, v, _, _, _, _, h => by cases h
  | f + 1, s, s', t, v, hN, hG, ht, hl, h => by
    rw [valueGo_eq] at h
    have hpp : s.rest.takeWhile (plainC q) <+: s.rest := List.takeWhile_prefix _
    have hop := okL_pre hG.fine.okR hpp
    have hplc := place_pre s hpp
    have hsz := sz_space hop
    have hosp := okL_space hop
    have G1 := hG.adv (s.rest.takeWhile (plainC q)).length
    have N1 : EOk (s.adv (s.rest.takeWhile (plainC q)).length).ents := hN
    have e1 : (s.adv (s.rest.takeWhile (plainC q)).length).spent = s.spent := rfl
    generalize s.rest.takeWhile (plainC q) = p at *
    generalize s.adv p.length = s1 at *
    have hl1 : (tx (t ++ p.map spaceC)).length ≤ 2 * s1.place + s1.spent := by
      rw [tx_len_app, ← T_size (p.map spaceC), hsz]
      omega
    have ht1 := okL_app ht hosp
    have hz := G1.fine.lt
    have hsp := G1.sp
    split at h
    · cases h
      exact ⟨ht1, by omega⟩
    · split at h
      · split at h
        · cases h
        · rename_i u s2 hr
          have r1 := ref_t N1 G1.fine.okR G1.sp hr
          have r2 := ref_sum N1 G1.fine.okR G1.sp hr
          refine value_F q tag f s2 s' _ v (EOk.of r1.1.same.1 N1) (G1.t r1.1) (okL_app ht1 r1.2.1) ?_ h
          rw [tx_len_app]
          have := r1.2.2.2.1
          omega
      · cases h
theorem attrs_F (tag : Nat) : ∀ (f : Nat) (s s' : RS) (acc a : List (List Nat × List Nat)), EOk s.ents → Good s → (∀ x ∈ acc, (okL x.1 ∧ okL x.2) ∧ (tx x.1).length ≤ 100000 ∧ (tx x.2).length ≤ 100000) → RS.attrsGo tag f s acc = .ok (a, s') → ∀ x ∈ a, (okL x.1 ∧ okL x.2) ∧ (tx x.1).length ≤ 100000 ∧ (tx x.2).length ≤ 100000
  | 0, s, s', acc, a, _, _, _, h => by cases h
  | f + 1, s, s', acc, a, hN, hG, hA, h => by
    rw [RS.attrsGo] at h
    simp only at h
    split at h
    · cases h; exact hA
    · split at h
      · cases h
      · split at h
        · cases h
        · rename_i s3 heq
          split at h
          · cases h
          · rename_i v s4 hv
            have G1 := hG.to (Adv.blanks s)
            obtain ⟨n1, n2⟩ := pre_F G1 (qnameA_pre s.blanks.rest)
            have ha3 : Adv s s3 := ((Adv.blanks s).then (Adv.qname _)).then (Adv.equals heq)
            have G3 := hG.to ha3
            have N3 := EOk.of ha3.same.1 hN
            have hv' := hv
            unfold RS.value at hv
            split at hv
            · cases hv
            · rename_i q s5 hq
              have G5 := G3.to (Adv.quote hq)
              have N5 := EOk.of (Adv.quote hq).same.1 N3
              obtain ⟨v1, v2⟩ := value_F q tag _ s5 s4 [] v N5 G5 okL_nil (Nat.zero_le _) hv
              have ha4 := value_adv N3 G3.fine.okR G3.sp hv'
              refine attrs_F tag f s4 s' _ a (EOk.of ha4.same.1 N3) (G3.t ha4) (fun x hx => ?_) h
              rcases List.mem_append.1 hx with hx | hx
              · exact hA x hx
              · rw [List.mem_singleton.1 hx]; exact ⟨⟨n1, v1⟩, n2, v2⟩
end Go.Proofs.YtjjggncbhenffaaGreatDoor
/- Every token that Scan tells is of characters that may be, and none is long. -/
namespace Go.Proofs.YtjjggncbhenffaaGreatDoor
theorem com_F {s s' : RS} (hG : Good s) (h : AllF s) (ht : s.tellComment = .ok s') : AllF s' := by
  unfold RS.tellComment at ht
  split at ht
  · cases ht
  · rename_i t s1 hc
    have ha := Adv.comment hc
    refine tell_F (hG.to ha) (h.same ha.same.2.2.2.1) ?_ ht
    have hc' := hc
    rw [comment_eq] at hc
    split at hc
    · cases hc
    · rename_i u s2 hu
      split at hc
      · cases hc
        obtain ⟨h1, h2⟩ := cut_F (hG.to (Adv.take s [60, 33, 45, 45])) (by decide) (by simp) hu
        exact ⟨⟨okL_nil, (fun _ hx => by cases hx), h1⟩, Nat.zero_le _, (fun _ hx => by cases hx), h2⟩
      · cases hc
theorem instr_F {s s' : RS} (hG : Good s) (h : AllF s) (ht : s.tellInstruction = .ok s') : AllF s' := by
  unfold RS.tellInstruction at ht
  split at ht
  · cases ht
  · rename_i n t s1 hc
    have ha := (Adv.instruction hc).1
    refine tell_F (hG.to ha) (h.same ha.same.2.2.2.1) ?_ ht
    have G1 := hG.to (Adv.take s [60, 63])
    obtain ⟨n1, n2⟩ := pre_F G1 (nameA_pre (s.take [60, 63]).rest)
    rw [instruction_eq] at hc
    split at hc
    · cases hc
    · split at hc
      · cases hc
        exact ⟨⟨n1, (fun _ hx => by cases hx), okL_nil⟩, n2, (fun _ hx => by cases hx), Nat.zero_le _⟩
      · split at hc
        · cases hc
        · cases hx : (s.take [60, 63]).name.blanks.takeTo [63, 62] with
          | none => rw [hx] at hc; cases hc
          | some z =>
            obtain ⟨u, s2⟩ := z
            rw [hx] at hc
            cases hc
            obtain ⟨h1, h2⟩ := cut_F ((G1.to (Adv.name _)).to (Adv.blanks _)) (by decide) (by simp) hx
            exact ⟨⟨n1, (fun _ hx => by cases hx), h1⟩, n2, (fun _ hx => by cases hx), h2⟩
theorem end_F {s s' : RS} (hG : Good s) (h : AllF s) (ht : s.endTag = .ok s') : AllF s' := by
  unfold RS.endTag at ht
  simp only at ht
  split at ht
  · have ha : Adv s ((s.take [60, 47]).qname.blanks.adv 1) := (((Adv.take s _).then (Adv.qname _)).then (Adv.blanks _)).then (Adv.by _ 1)
    obtain ⟨n1, n2⟩ := pre_F (hG.to (Adv.take s [60, 47])) (qnameA_pre (s.take [60, 47]).rest)
    refine tell_F ((hG.to ha).opn s.opn.dropLast) (h.same ha.same.2.2.2.1) ?_ ht
    exact ⟨⟨n1, (fun _ hx => by cases hx), okL_nil⟩, n2, (fun _ hx => by cases hx), Nat.zero_le _⟩
  · cases ht
theorem room_F {s s' : RS} (h : AllF s) (ht : s.room = .ok s') : AllF s' := by
  unfold RS.room at ht
  split at ht
  · cases ht
  · cases ht; exact h
theorem start_F {s s' : RS} (hG : Good s) (hN : EOk s.ents) (hs : s.sees [60] = true) (hT : AllF s) (h : s.startTag = .ok s') : AllF s' := by
  rw [startTag_eq, take_adv hs] at h
  split at h
  · cases h
  · have h2 : Adv (s.adv 1) (s.adv 1).qname := Adv.qname _
    split at h
    · cases h
    · rename_i a s3 hat
      have G2 := (hG.adv 1).to h2
      have hA := attrs_F s.place _ _ _ [] a (show EOk (s.adv 1).qname.ents from hN) G2 (fun x hx => by cases hx) hat
      obtain ⟨n1, n2⟩ := pre_F (hG.adv 1) (qnameA_pre (s.adv 1).rest)
      obtain ⟨k, hk⟩ := h2
      have h3 : AdvT (s.adv 1) s3 := (Adv.qname _).t.then (attrsGo_adv s.place _ _ [] a s3 (by show EOk s.ents; exact hN) (by rw [hk]; exact okL_drop (okL_drop hG.fine.okR 1) k) hG.sp hat)
      have h5 : AdvT (s.adv 1) ((s3.take [47]).adv 1) := (h3.then (Adv.take s3 [47]).t).then (Adv.by _ 1).t
      have h5' := (Adv.by s 1).t.then h5
      have G5 := hG.t h5'
      have F5 := hT.same h5'.same.2.2.2.1
      split at h
      · cases h
      · split at h
        · cases h
        · split at h
          · cases h
          · rename_i s6 htl
            have F6 := tell_F G5 F5 ⟨⟨n1, fun x hx => (hA x hx).1, okL_nil⟩, n2, fun x hx => (hA x hx).2, Nat.zero_le _⟩ htl
            have G6 := (G5.tell htl).1
            split at h
            · exact tell_F G6 F6 ⟨⟨n1, (fun _ hx => by cases hx), okL_nil⟩, n2, (fun _ hx => by cases hx), Nat.zero_le _⟩ h
            · cases h
              exact F6
theorem one_F {s s' : RS} (hG : Good s) (hN : EOk s.ents) (hT : AllF s) (h : s.contentOne = .ok s') : AllF s' := by
  unfold RS.contentOne at h
  split at h
  · exact end_F hG hT h
  · split at h
    · exact com_F hG hT h
    · split at h
      · unfold RS.section' at h
        split at h
        · cases h
        · rename_i t s1 ht
          have ha := (Adv.take s [60, 33, 91, 67, 68, 65, 84, 65, 91]).then (Adv.takeTo ht).1
          refine room_F ?_ h
          exact hT.same (s' := _) ha.same.2.2.2.1
      · split at h
        · exact instr_F hG hT h
        · split at h
          · rename_i h1
            exact start_F hG hN h1 hT h
          · split at h
            · unfold RS.refRun at h
              split at h
              · cases h
              · rename_i t s1 ht
                have ha := (ref_t hN hG.fine.okR hG.sp ht).1
                refine room_F ?_ h
                exact hT.same (s' := _) ha.same.2.2.2.1
            · split at h
              · unfold RS.plain at h
                have ha := Adv.by s (plainA s.rest).length
                refine room_F ?_ h
                exact hT.same (s' := _) ha.same.2.2.2.1
              · cases h
theorem content_F : ∀ (f : Nat) (s s' : RS), Good s → OpnOk s → EOk s.ents → AllF s → RS.content f s = .ok s' → AllF s'
  | 0, s, s', _, _, _, hT, h => by unfold RS.content at h; cases h; exact hT
  | f + 1, s, s', hG, hO, hN, hT, h => by
    unfold RS.content at h
    split at h
    · cases h; exact hT
    · cases hc : s.contentOne with
      | error e => rw [hc] at h; cases h
      | ok s1 =>
        rw [hc] at h
        obtain ⟨k1, k2, k3, k4⟩ := contentOne_ok hG hO hN hc
        exact content_F f s1 s' k2 k3 k4 (one_F hG hN hT hc) h
theorem docGo_F : ∀ (f : Nat) (typed rooted : Bool) (s s' : RS), Good s → OpnOk s → EOk s.ents → AllF s → RS.docGo f typed rooted s = .ok s' → AllF s'
  | 0, typed, rooted, s, s', _, _, _, _, h => by cases h
  | f + 1, typed, rooted, s0, s', hG0, hO0, hN0, hT0, h => by
    rw [docGo_eq] at h
    have hG := hG0.to (Adv.blanks s0)
    have hO : OpnOk s0.blanks := hO0.to (Adv.blanks s0).same.2.1
    have hN : EOk s0.blanks.ents := hN0
    have hT : AllF s0.blanks := hT0.same (Adv.blanks s0).same.2.2.2.1
    generalize s0.blanks = s at *
    split at h
    · rename_i h1
      obtain ⟨s1, hs1, h⟩ := docMore_ok h
      obtain ⟨_, k2, k3, k4⟩ := comment_less hG hO hN h1 hs1
      exact docGo_F f _ _ s1 s' k2 k3 k4 (com_F hG hT hs1) h
    · split at h
      · rename_i h1
        obtain ⟨s1, hs1, h⟩ := docMore_ok h
        obtain ⟨_, k2, k3, k4⟩ := instruction_less hG hO hN h1 hs1
        exact docGo_F f _ _ s1 s' k2 k3 k4 (instr_F hG hT hs1) h
      · split at h
        · rename_i h1
          obtain ⟨s1, hs1, h⟩ := docMore_ok h
          have h1' : s.sees [60, 33, 68, 79, 67, 84, 89, 80, 69] = true := by simp at h1; exact h1.1
          obtain ⟨_, k2, k3, k4⟩ := doctype_less hG hO hN h1' hs1
          exact docGo_F f _ _ s1 s' k2 k3 k4 (hT.same (doctype_same hs1).1) h
        · split at h
          · rename_i h1
            obtain ⟨s2, hs2, h⟩ := docMore_ok h
            have h1' : s.sees [60] = true ∧ rooted = false := by simpa using h1
            unfold docElem at hs2
            cases hst : s.startTag with
            | error e => rw [hst] at hs2; cases hs2
            | ok s1 =>
              rw [hst] at hs2
              obtain ⟨_, k2, k3, k4⟩ := start_less hG hO hN h1'.1 hst
              obtain ⟨_, j2, j3, j4⟩ := content_ok _ s1 s2 k2 k3 k4 hs2
              exact docGo_F f _ _ s2 s' j2 j3 j4 (content_F _ s1 s2 k2 k3 k4 (start_F hG hN h1'.1 hT hst) hs2) h
          · split at h
            · cases h
            · cases h; exact hT
theorem scan_F {cs : List Nat} {ts : List XTok} (hl : okL cs) (hs : (T cs).size ≤ 32768) (h : scanX cs = .ok ts) : ∀ t ∈ ts, TokF t := by
  obtain ⟨hG, hO⟩ := start_good hl hs
  have hT : AllF (RS.start cs) := fun t ht => by cases ht
  unfold scanX at h
  split at h
  · cases h
  · rename_i s' hd
    cases h
    unfold RS.document at hd
    split at hd
    · split at hd
      · cases hd
      · rename_i s1 hst
        have ha := settings_adv hst
        exact docGo_F _ _ _ s1 s' (hG.to ha) (hO.to ha.same.2.1) (EOk.of ha.same.1 EOk.nil) (hT.same ha.same.2.2.2.1) hd
    · exact docGo_F _ _ _ (RS.start cs) s' hG hO EOk.nil hT hd
end Go.Proofs.YtjjggncbhenffaaGreatDoor
/- A document of tokens that may stand is one for Write, too: the way of the open elements. -/
namespace Go.Proofs.YtjjggncbhenffaaGreatDoor
theorem docB_of (leaf : ∀ x : XTok, OkTok x → OkAll x → okB x.b = true) {o : List (List Nat)} {r : Bool} {k : Nat} {ts : List XTok} (h : DocT o r k ts) : (∀ t ∈ ts, OkAll t) → docB (o.map T) r (k : Nat) (ts.map XTok.b) = true := by
  induction h with
  | done k => intro _; rfl
  | elem n a o r k ts h hr ho ha hn ih =>
    intro hA
    have h1 := leaf _ h (hA _ (by simp))
    have h2 := ih (fun t ht => hA t (by simp [ht]))
    rw [List.map_append] at h2
    rw [List.map_cons, docB, h1, Bool.true_and]
    have e : docStp (o.map T) r k (XTok.b ⟨2, n, a, []⟩) = some (o.map T ++ [T n], true) := by
      unfold docStp
      rw [if_pos (show (XTok.b ⟨2, n, a, []⟩).kind = 2 from rfl), if_neg]
      · rfl
      · cases o with
        | nil => rw [hr rfl]; decide
        | cons c o => simp
    rw [e]
    exact h2
  | fin n o r k ts h ho hn ih =>
    intro hA
    have h1 := leaf _ h (hA _ (by simp))
    have h2 := ih (fun t ht => hA t (by simp [ht]))
    rw [List.map_dropLast] at h2
    rw [List.map_cons, docB, h1, Bool.true_and]
    have hg : (o.map T).getLast? = some (T n) := by rw [List.getLast?_map, ho]; rfl
    have e : docStp (o.map T) r k (XTok.b ⟨7, n, [], []⟩) = some ((o.map T).dropLast, r) := by
      unfold docStp
      rw [if_neg (by show ¬ (7 : Int) = 2; decide), if_pos (show (XTok.b ⟨7, n, [], []⟩).kind = 7 from rfl), hg]
      simp [XTok.b]
    rw [e]
    exact h2
  | text l o r k ts h ho hk hn ih =>
    intro hA
    have h1 := leaf _ h (hA _ (by simp))
    have h2 := ih (fun t ht => hA t (by simp [ht]))
    rw [List.map_cons, docB, h1, Bool.true_and]
    have e : docStp (o.map T) r k (XTok.b ⟨4, [], [], l⟩) = some (o.map T, r) := by
      unfold docStp
      rw [if_neg (by show ¬ (4 : Int) = 2; decide), if_neg (by show ¬ (4 : Int) = 7; decide), if_pos (show (XTok.b ⟨4, [], [], l⟩).kind = 4 from rfl)]
      have h3 : (o.map T).isEmpty = false := by cases o with | nil => exact absurd rfl ho | cons c o => rfl
      have h4 : ((k : Int) == 4) = false := by simp; omega
      rw [h3, h4]
      rfl
    rw [e]
    exact h2
  | comment l o r k ts h hn ih =>
    intro hA
    have h1 := leaf _ h (hA _ (by simp))
    have h2 := ih (fun t ht => hA t (by simp [ht]))
    rw [List.map_cons, docB, h1, Bool.true_and]
    exact h2
  | pi n l o r k ts h hn ih =>
    intro hA
    have h1 := leaf _ h (hA _ (by simp))
    have h2 := ih (fun t ht => hA t (by simp [ht]))
    rw [List.map_cons, docB, h1, Bool.true_and]
    exact h2
end Go.Proofs.YtjjggncbhenffaaGreatDoor
/- Whether a token may stand in some document: xmlscan's areAttributes, isToken. -/
namespace Go.Proofs.YtjjggncbhenffaaGreatDoor
open Go.RowKit
abbrev PlacesB (w : World) (b n : Nat) (D : DataW Unit) : Prop := w.ownsMap Tryz.prog 9 (plainElem Tryz.prog 3) b n D
def hasB (D : DataW Unit) (names : List (List UInt8)) : Prop := ∀ x : List UInt8, Maps.has D (.string x) = names.contains x
/-- The names that were met, in their map. -/
def NamesAt (w : World) (b : Nat) (names : List (List UInt8)) : Prop := ∃ D, PlacesB w b names.length D ∧ hasB D names
theorem str_keyB (x : List UInt8) : WideAt.IsKeyLit (.string x) := by
  first | exact trivial | simp [WideAt.IsKeyLit] | rfl
theorem NamesAt.kept {w w' : World} {b : Nat} {names : List (List UInt8)} (h : NamesAt w b names) (hk : w'.heap[b]? = w.heap[b]?) : NamesAt w' b names := by
  obtain ⟨D, ⟨es, ck, h1, h2⟩, h3⟩ := h
  exact ⟨D, ⟨es, ck, by rw [hk]; exact h1, h2⟩, h3⟩
theorem NamesAt.lt {w : World} {b : Nat} {names : List (List UInt8)} (h : NamesAt w b names) : b < w.heap.size := by
  obtain ⟨D, hD, _⟩ := h
  exact hD.lt
theorem NamesAt.on {w w' : World} {b : Nat} {names : List (List UInt8)} (h : NamesAt w b names) (hb : Below w.heap.size w w') : NamesAt w' b names := h.kept (hb.block b h.lt)
theorem NamesAt.look {w : World} {b : Nat} {names : List (List UInt8)} (h : NamesAt w b names) {n : ByteArray} (hz : n.size ≤ 1048576) : ∃ c, (Instr.lookup 115 (.map (some b)) (.string n) true).run Tryz.prog w = .ok (.tuple #[.int .i64 c, .bool (names.contains n.data.toList)]) w := by
  obtain ⟨D, hD, hh⟩ := h
  have hz0 : (zeroValue 3).run Tryz.prog w = .ok (.int .i64 0) w := by kernel_rfl
  obtain ⟨v, ps, hrun, hv⟩ := hD.look_ok (Maps.string_keyed Tryz.underlying9) Tryz.underlying115 hz0 (plainElem_int Tryz.underlying3 (by decide)) (Go.WideMaps.keyOf_string_mk Tryz.underlying9 (by unfold maxLen; omega : n.size ≤ maxLen))
  obtain ⟨c, rfl, _, _⟩ := plainElem_int_inv Tryz.underlying3 hv
  rw [hh n.data.toList] at hrun
  exact ⟨c, hrun⟩
theorem NamesAt.named {w W : World} {b : Nat} {names : List (List UInt8)} {n : List UInt8} {D d : DataW Unit} (hk : WideAt.IsKeyLit (.string n)) (hD : PlacesB w b names.length D) (hh : hasB D names) (hW : PlacesB W b (names.length + 1) (D.put (.string n) d)) : NamesAt W b (names ++ [n]) := by
  refine ⟨_, by rw [List.length_append]; exact hW, fun x => ?_⟩
  by_cases e : x = n
  · subst e
    rw [Maps.has_put_same hD.isMap hk]
    simp
  · rw [Maps.has_put_other (fun e' => e (Lit.string.inj e')), hh x]
    simp [e]
theorem attrsB_cons (seen : List (List UInt8)) (x : ByteArray × ByteArray) (l : List (ByteArray × ByteArray)) : attrsB seen (x :: l) = (!seen.contains x.1.data.toList && (qB x.1 && (textB x.2 && attrsB (seen ++ [x.1.data.toList]) l))) := rfl
theorem wf_i64b {n : Nat} (h : n ≤ 1048576) : (Lit.int .i64 (n : Nat)).wf = true := by
  have h1 : IntKind.i64.min = -9223372036854775808 := by decide
  have h2 : IntKind.i64.max = 9223372036854775807 := by decide
  simp only [Lit.wf, Bool.and_eq_true, decide_eq_true_eq]
  rw [h1, h2]
  omega
structure AreInv (w : World) (l : List (ByteArray × ByteArray)) (k : Nat) (w' : World) : Prop where
  le : k ≤ l.length
  bel : Below w.heap.size w w'
  map : NamesAt w' w.heap.size ((l.take k).map (·.1.data.toList))
  spec : attrsB [] l = attrsB ((l.take k).map (·.1.data.toList)) (l.drop k)
set_option maxRecDepth 100000 in
set_option maxHeartbeats 4000000 in
theorem areAttributes_any (l : List (ByteArray × ByteArray)) (v : Value) (w : World) (hv : PairsArg w v l) (hn : l.length ≤ 1048576) (hx : ∀ x ∈ l, x.1.size ≤ 1048576 ∧ x.2.size ≤ 1048576) (B : Nat) (hB : B ≤ w.heap.size) (hE : XEnv B w) :
    Calls Tryz.prog 133 #[v] w fun e w' => e = .returned (.bool (attrsB [] l)) ∧ Below w.heap.size w w' := by
  have HV := hide hv
  have HX := hide hx
  have HE := hide hE
  obtain ⟨a, cap, rfl, _⟩ := hv
  have hmk : ∀ W : World, (Instr.makeMap 115 none).run Tryz.prog W = .ok (.map (some W.heap.size)) (W.alloc (.map #[] 0)) := fun W => rfl
  have h0 : AreInv w l 0 (w.alloc (.map #[] 0)) := ⟨Nat.zero_le _, (Below.refl _ _).alloc (Nat.le_refl _) _, ⟨.map [], World.ownsMap_made _ _ _ _, fun x => rfl⟩, rfl⟩
  have HI0 := hide h0
  clear h0 hx hE
  go_enter Tryz.func133, Tryz.ntmps133
  go_wp2_with fail
  clear hmk
  go_loopw [11] (fun i wr => ∃ k : Nat, i = .int .i64 (k : Nat) ∧ AreInv w l k wr) (fun i _ => l.length - (intOf i).toNat)
  case atStart => exact ⟨0, rfl, unhide HI0⟩
  case round =>
    clear HI0
    obtain ⟨k, rfl, hI⟩ := hrel
    have hk := hI.le
    by_cases hlt : k < l.length
    · obtain ⟨x, hx⟩ : ∃ x, l[k]? = some x := ⟨l[k], List.getElem?_eq_getElem hlt⟩
      have hxs := unhide HX x (List.mem_of_getElem? hx)
      obtain ⟨a', cap', he, hcells⟩ := (unhide HV).below hI.bel
      obtain ⟨g, o, ha, hc⟩ := hcells (by intro h0; rw [h0] at hlt; cases hlt)
      cases he
      subst ha
      obtain ⟨c0, c1⟩ := hc k x hx
      have n1 : (0 : Int) ≤ (k : Int) := by omega
      have n2 : (k : Int) < (l.length : Int) := by omega
      have hdr : l.drop k = x :: l.drop (k + 1) := by
        rw [← List.getElem_cons_drop hlt]
        congr 1
        exact (List.getElem?_eq_some_iff.1 hx).2
      have htk : (l.take (k + 1)).map (·.1.data.toList) = (l.take k).map (·.1.data.toList) ++ [x.1.data.toList] := by
        rw [List.take_succ_eq_append_getElem hlt, List.map_append, (List.getElem?_eq_some_iff.1 hx).2]
        rfl
      have hnl : ((l.take k).map (·.1.data.toList)).length = k := by rw [List.length_map, List.length_take]; omega
      have hspec := hI.spec
      rw [hdr, attrsB_cons] at hspec
      have hbA : Below wr.heap.size wr (wr.alloc (.cells #[.string x.1, .string x.2] 36 (0, 0))) := (Below.refl _ _).alloc (Nat.le_refl _) _
      have NA := hI.map.on hbA
      have hb0 := Below.then hI.bel hbA
      obtain ⟨c, hlk⟩ := NA.look hxs.1
      have HTK := hide htk
      have HNA := hide NA
      have HNL := hide hnl
      clear hc hI hcells hdr hx htk NA hnl
      generalize (l.take k).map (·.1.data.toList) = names at *
      cases htw : names.contains x.1.data.toList
      · rw [htw] at hlk hspec
        rw [Bool.not_false, Bool.true_and] at hspec
        have HSP := hide hspec
        clear htw hspec
        go_wp2_with fail
        refine (isQName_any x.1 _ hxs.1 ((unhide HE).low (hb0.mono hB)).env).mono ?_
        rintro e w1 ⟨rfl, hb1⟩
        have hb01 := Below.then hb0 hb1
        cases hq : qB x.1
        · have HQ : Hid (attrsB [] l = false) := hide (by rw [unhide HSP, hq]; rfl)
          clear HSP hq
          go_wp2
          go_ret
          exact ⟨ret_bool (unhide HQ).symm, hb01⟩
        · have HSP2 : Hid (attrsB [] l = (textB x.2 && attrsB (names ++ [x.1.data.toList]) (l.drop (k + 1)))) := hide (by rw [unhide HSP, hq, Bool.true_and])
          have c1' := keptC hb1 (show (wr.alloc (.cells #[.string x.1, .string x.2] 36 (0, 0))).cell? ⟨wr.heap.size, 1, none⟩ = some (.string x.2) by simp [go_sem])
          have c0' := keptC hb1 (show (wr.alloc (.cells #[.string x.1, .string x.2] 36 (0, 0))).cell? ⟨wr.heap.size, 0, none⟩ = some (.string x.1) by simp [go_sem])
          have HC0 := hide c0'
          clear HSP hq c0'
          go_wp2_with fail
          refine (isText_any x.2 _).mono ?_
          rintro e w2 ⟨rfl, hb2⟩
          have hb02 := Below.then hb01 hb2
          cases ht : textB x.2
          · have HQ : Hid (attrsB [] l = false) := hide (by rw [unhide HSP2, ht]; rfl)
            clear HSP2 ht
            go_wp2
            go_ret
            exact ⟨ret_bool (unhide HQ).symm, hb02⟩
          · have HSP3 : Hid (attrsB [] l = attrsB (names ++ [x.1.data.toList]) (l.drop (k + 1))) := hide (by rw [unhide HSP2, ht, Bool.true_and])
            have c0' := keptC hb2 (unhide HC0)
            obtain ⟨D, hD, hh⟩ := ((unhide HNA).on hb1).on hb2
            have hlen : names.length < maxLen := by rw [unhide HNL]; unfold maxLen; omega
            have HKY : Hid (keyOf Tryz.prog 9 (.string x.1) = some (.string x.1.data.toList)) := hide (Go.WideMaps.keyOf_string_mk Tryz.underlying9 (by unfold maxLen; omega : x.1.size ≤ maxLen))
            have HPE : Hid (plainElem (H := Unit) Tryz.prog 3 (.int .i64 (k : Nat)) = some (.lit (.int .i64 (k : Nat)), [])) := hide (plainElem_int Tryz.underlying3 (wf_i64b (by omega)))
            have HD := hide hD
            have HH := hide hh
            have hmlt : w.heap.size < w2.heap.size := hD.lt
            clear HSP2 ht hD hh HC0 hlk
            go_wp2_with (at_mapUpdate; refine wpList_mapUpdate_own _ rfl _ _ _ 115 rfl 9 3 (Maps.string_keyed Tryz.underlying9) Tryz.underlying115 (plainElem Tryz.prog 3) w.heap.size names.length D rfl (unhide HD) hlen _ _ (.string x.1.data.toList) rfl rfl (unhide HKY) (.lit (.int .i64 (k : Nat))) [] (unhide HPE) ?_; intro w6 hown6 hgrow6)
            have hb6 : Below w.heap.size w w6 := hb02.grown hgrow6 (by omega) (fun j hj => by cases hj; exact Nat.le_refl _)
            have N6 := NamesAt.named (str_keyB _) (unhide HD) (unhide HH) hown6
            have HI6 : Hid (AreInv w l (k + 1) w6) := hide ⟨by omega, hb6, by rw [unhide HTK]; exact N6, by rw [unhide HTK]; exact unhide HSP3⟩
            clear HD HH N6 hown6 hgrow6 HKY HPE
            go_round
            case measure => simp [intOf]; omega
            case rel => exact ⟨k + 1, by simp, unhide HI6⟩
      · rw [htw] at hlk hspec
        have HSP := hide hspec
        clear htw hspec
        go_wp2
        go_ret
        exact ⟨ret_bool (by rw [unhide HSP]; rfl), hb0⟩
    · have n2 : ¬ (k : Int) < (l.length : Int) := by omega
      have hkl : k = l.length := by omega
      have HI := hide hI
      clear hI
      go_wp2
      go_ret
      refine ⟨ret_bool ?_, (unhide HI).bel⟩
      rw [(unhide HI).spec, hkl, List.drop_length]
      rfl
end Go.Proofs.YtjjggncbhenffaaGreatDoor
