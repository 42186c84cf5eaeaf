/- What one step through content leaves. -/
import Derived.Test.YtkklapoceknbcaaGreatDoorXmlStart
namespace Go.Proofs.YtkklapoceknbcaaGreatDoor
theorem Adv.len {s s' : RS} (h : Adv s s') : s'.rest.length ≤ s.rest.length := by
  obtain ⟨k, rfl⟩ := h
  show (s.rest.drop k).length ≤ _
  rw [List.length_drop]; omega
theorem Adv.same {s s' : RS} (h : Adv s s') : s'.ents = s.ents ∧ s'.opn = s.opn ∧ s'.run = s.run ∧ s'.toks = s.toks ∧ s'.spent = s.spent ∧ s'.runAt = s.runAt := by
  obtain ⟨k, rfl⟩ := h
  exact ⟨rfl, rfl, rfl, rfl, rfl, rfl⟩
theorem sees_len {s : RS} {a : List Nat} (n : Nat) (hn : a.length = n) (h : s.sees a = true) : (s.adv n).rest.length + n = s.rest.length := by
  have := List.IsPrefix.length_le (List.isPrefixOf_iff_prefix.1 h)
  show (s.rest.drop _).length + _ = _
  rw [List.length_drop]; omega
/-- Less is left, and all stands as it should. -/
def Less (s s' : RS) : Prop := s'.rest.length < s.rest.length ∧ Good s' ∧ OpnOk s' ∧ EOk s'.ents
theorem OpnOk.to {s s' : RS} (h : OpnOk s) (e : s'.opn = s.opn) : OpnOk s' := by
  unfold OpnOk
  rw [e]; exact h
theorem tell_less {s s1 s' : RS} {t : XTok} {pl : Nat} (hl : s1.rest.length < s.rest.length) (hG : Good s1) (hO : OpnOk s1) (hN : EOk s1.ents) (h : s1.tell t pl = .ok s') : Less s s' := by
  obtain ⟨g, _, _, h3, h4, h5, _⟩ := hG.tell h
  exact ⟨by rw [h3]; exact hl, g, hO.to h5, by rw [h4]; exact hN⟩
theorem Good.opn {s : RS} (h : Good s) (l : List (List Nat)) : Good { s with opn := l } := ⟨⟨h.fine.ok, h.fine.le⟩, h.n1, h.n2, h.okr, h.rl, h.sp⟩
theorem endTag_less {s s' : RS} (hG : Good s) (hO : OpnOk s) (hN : EOk s.ents) (hs : s.sees [60, 47] = true) (h : s.endTag = .ok s') : Less s s' := by
  rw [endTag_eq, take_adv hs] at h
  split at h
  · have ha : Adv s ((s.adv 2).qname.blanks.adv 1) := (((Adv.by s 2).then (Adv.qname _)).then (Adv.blanks _)).then (Adv.by _ 1)
    have hl := (((Adv.qname (s.adv 2)).then (Adv.blanks _)).then (Adv.by _ 1)).len
    have hl2 := sees_len 2 rfl hs
    refine tell_less ?_ ((hG.to ha).opn _) ?_ ?_ h
    · show ((s.adv 2).qname.blanks.adv 1).rest.length < _
      omega
    · refine ⟨fun x hx => hO.1 x ((List.dropLast_prefix _).subset hx), ?_⟩
      show s.opn.dropLast.length ≤ 32
      rw [List.length_dropLast]
      have := hO.2
      omega
    · exact EOk.of ha.same.1 hN
  · cases h
theorem comment_adv {s s1 : RS} {t : List Nat} (hs : s.sees [60, 33, 45, 45] = true) (h : s.comment = some (t, s1)) : Adv (s.adv 4) s1 := by
  unfold RS.comment at h
  rw [take_adv hs] at h
  split at h
  · cases h
  · rename_i x s2 hx
    split at h
    · cases h
      exact (Adv.takeTo hx).1.then (Adv.by _ 1)
    · cases h
theorem comment_less {s s' : RS} (hG : Good s) (hO : OpnOk s) (hN : EOk s.ents) (hs : s.sees [60, 33, 45, 45] = true) (h : s.tellComment = .ok s') : Less s s' := by
  unfold RS.tellComment at h
  split at h
  · cases h
  · rename_i t s1 hc
    have ha := comment_adv hs hc
    have ha' := (Adv.by s 4).then ha
    have hl := ha.len
    have hl2 := sees_len 4 rfl hs
    exact tell_less (by omega) (hG.to ha') (hO.to ha'.same.2.1) (EOk.of ha'.same.1 hN) h
theorem instruction_adv {s s1 : RS} {n t : List Nat} (hs : s.sees [60, 63] = true) (h : s.instruction = some (n, t, s1)) : Adv (s.adv 2) s1 := by
  unfold RS.instruction at h
  rw [take_adv hs] at h
  simp only at h
  split at h
  · cases h
  · split at h
    · cases h
      exact (Adv.name _).then (Adv.by _ 2)
    · split at h
      · cases h
      · cases hx : (RS.name (s.adv ([60, 63] : List Nat).length)).blanks.takeTo [63, 62] with
        | none => rw [hx] at h; cases h
        | some x =>
          rw [hx] at h
          cases h
          exact ((Adv.name _).then (Adv.blanks _)).then (Adv.takeTo hx).1
theorem instruction_less {s s' : RS} (hG : Good s) (hO : OpnOk s) (hN : EOk s.ents) (hs : s.sees [60, 63] = true) (h : s.tellInstruction = .ok s') : Less s s' := by
  unfold RS.tellInstruction at h
  split at h
  · cases h
  · rename_i n t s1 hc
    have ha := instruction_adv hs hc
    have ha' := (Adv.by s 2).then ha
    have hl := ha.len
    have hl2 := sees_len 2 rfl hs
    exact tell_less (by omega) (hG.to ha') (hO.to ha'.same.2.1) (EOk.of ha'.same.1 hN) h
theorem section_less {s s' : RS} (hG : Good s) (hO : OpnOk s) (hN : EOk s.ents) (hs : s.sees [60, 33, 91, 67, 68, 65, 84, 65, 91] = true) (h : s.section' = .ok s') : Less s s' := by
  rw [section_eq, take_adv hs] at h
  split at h
  · cases h
  · rename_i t s1 hc
    obtain ⟨ha, y, hcut, e⟩ := Adv.takeTo hc
    have ha' := (Adv.by s _).then ha
    have G1 := hG.to ha'
    have hf := (hG.adv 9).fine
    obtain ⟨p1, p2⟩ := cut_place (by decide) (by simp) hf hcut
    have hot : okL t := okL_left (okL_left ((cutL_app (by decide) (by simp) hf.okR hcut) ▸ hf.okR))
    have hrun : s1.run = s.run := ha'.same.2.2.1
    have hspent : s1.spent = s.spent := ha'.same.2.2.2.2.1
    rw [← hrun] at h
    have hpl := place_adv s 9
    have hrl := hG.rl
    obtain ⟨g, rfl⟩ := G1.ran hot (by
      rw [hrun, hspent, e]
      simp only [List.length_cons, List.length_nil] at p1 ⊢
      rw [p1]
      omega) h
    have hl := ha.len
    have hl2 := sees_len 9 rfl hs
    have hl3 : s1.rest.length ≤ (s.adv 9).rest.length := hl
    refine ⟨?_, g, hO.to ha'.same.2.1, EOk.of ha'.same.1 hN⟩
    show s1.rest.length < _
    omega
theorem ref_less {s s' : RS} (hG : Good s) (hO : OpnOk s) (hN : EOk s.ents) (h : s.refRun = .ok s') : Less s s' := by
  unfold RS.refRun at h
  split at h
  · cases h
  · rename_i t s1 hc
    obtain ⟨r1, r2, r3, r3b, r4, r5⟩ := ref_t hN hG.fine.okR hG.sp hc
    have rs := ref_sum hN hG.fine.okR hG.sp hc
    have G1 := hG.t r1
    have hrun := r1.same.2.2.1
    rw [← hrun] at h
    have hrl := hG.rl
    have hts : (T t).size = (tx t).length := T_size _
    obtain ⟨g, rfl⟩ := G1.ran r2 (by rw [hrun]; omega) h
    exact ⟨r4, g, hO.to r1.same.2.1, EOk.of r1.same.1 hN⟩
theorem ahead_one {c : Nat} {a t : List Nat} (h : a.isPrefixOf (c :: t) = false) : ∃ x, ahead a (c :: t) = c :: x := by
  unfold ahead cutL
  rw [h]
  cases cutL a t with
  | none => exact ⟨t, rfl⟩
  | some x => exact ⟨x.1, rfl⟩
theorem heads_no {c q : Nat} {t : List Nat} (h : ([q] : List Nat).isPrefixOf (c :: t) = false) : c ≠ q := by
  rintro rfl
  simp [List.isPrefixOf] at h
theorem pre_of_head {c : Nat} {a t x : List Nat} (h : a.isPrefixOf (c :: t) = false) (hx : c :: x <+: c :: t) : a.isPrefixOf (c :: x) = false := by
  cases hh : a.isPrefixOf (c :: x)
  · rfl
  · have := (List.isPrefixOf_iff_prefix.1 hh).trans hx
    rw [List.isPrefixOf_iff_prefix.2 this] at h
    cases h
theorem plain_pos {s : RS} (hne : s.rest ≠ []) (h1 : s.sees [60] = false) (h2 : s.sees [38] = false) (h3 : s.sees [93, 93, 62] = false) : 1 ≤ (plainA s.rest).length := by
  unfold RS.sees at h1 h2 h3
  cases hr : s.rest with
  | nil => exact absurd hr hne
  | cons c t =>
    rw [hr] at h1 h2 h3
    obtain ⟨x, e1⟩ := ahead_one h1
    have p1 : c :: x <+: c :: t := e1 ▸ ahead_pre [60] (c :: t)
    obtain ⟨y, e2⟩ := ahead_one (pre_of_head h2 p1)
    have p2 : c :: y <+: c :: x := e2 ▸ ahead_pre [38] (c :: x)
    obtain ⟨z, e3⟩ := ahead_one (pre_of_head h3 (p2.trans p1))
    unfold plainA
    rw [e1, e2, e3]
    simp
theorem plain_less {s s' : RS} (hG : Good s) (hO : OpnOk s) (hN : EOk s.ents) (hne : s.rest ≠ []) (h1 : s.sees [60] = false) (h2 : s.sees [38] = false) (h3 : s.sees [93, 93, 62] = false) (h : s.plain = .ok s') : Less s s' := by
  unfold RS.plain at h
  have hp := plain_pos hne h1 h2 h3
  have hpre := plainA_pre s.rest
  have hle := List.IsPrefix.length_le hpre
  have hpl := place_pre s hpre
  have G1 := hG.adv (plainA s.rest).length
  have hrl := hG.rl
  obtain ⟨g, rfl⟩ := G1.ran (s := s.adv (plainA s.rest).length) (okL_pre hG.fine.okR hpre) (by
    rw [hpl]
    show (tx s.run).length + _ ≤ _ + s.spent
    omega) h
  refine ⟨?_, g, hO, hN⟩
  show (s.rest.drop _).length < _
  rw [List.length_drop]
  omega
theorem valueGo_adv (q tag : Nat) : ∀ (f : Nat) (s : RS) (t v : List Nat) (s' : RS), EOk s.ents → okL s.rest → s.spent ≤ 32768 → RS.valueGo q tag f s t = .ok (v, s') → AdvT s s'
  | 0, _, _, _, _, _, _, _, h => by cases h
  | f + 1, s, t, v, s', hN, hk, hs, h => by
    rw [valueGo_eq] at h
    split at h
    · cases h
      exact ((Adv.by _ _).then (Adv.by _ _)).t
    · split at h
      · split at h
        · cases h
        · rename_i u s2 hr
          have ha := Adv.by s (s.rest.takeWhile (plainC q)).length
          obtain ⟨r1, _⟩ := ref_t (EOk.of ha.same.1 hN) (okL_drop hk _) hs hr
          have hs2 : s2.spent ≤ 32768 := by
            obtain ⟨k, n, rfl, h1, h2⟩ := r1
            have h2' : n ≤ 32768 ∨ n = s.spent := h2
            show n ≤ 32768
            omega
          exact (ha.t.then r1).then (valueGo_adv q tag f s2 _ v s' (EOk.of r1.same.1 (EOk.of ha.same.1 hN)) (r1.okR (okL_drop hk _)) hs2 h)
      · cases h
theorem value_adv {tag : Nat} {s s' : RS} {v : List Nat} (hN : EOk s.ents) (hk : okL s.rest) (hs : s.spent ≤ 32768) (h : s.value tag = .ok (v, s')) : AdvT s s' := by
  unfold RS.value at h
  split at h
  · cases h
  · rename_i q s1 hq
    have ha := Adv.quote hq
    obtain ⟨k, rfl⟩ := ha
    exact (Adv.by s k).t.then (valueGo_adv q tag _ _ [] v s' hN (okL_drop hk _) hs h)
theorem attrsGo_adv (tag : Nat) : ∀ (f : Nat) (s : RS) (acc a : List (List Nat × List Nat)) (s' : RS), EOk s.ents → okL s.rest → s.spent ≤ 32768 → RS.attrsGo tag f s acc = .ok (a, s') → AdvT s s'
  | 0, _, _, _, _, _, _, _, h => by cases h
  | f + 1, s, acc, a, s', hN, hk, hs, h => by
    rw [attrsGo_eq] at h
    split at h
    · cases h
      exact (Adv.blanks s).t
    · split at h
      · cases h
      · split at h
        · cases h
        · rename_i s3 hs3
          have h3 : Adv s s3 := ((Adv.blanks s).then (Adv.qname _)).then (Adv.equals hs3)
          obtain ⟨k, rfl⟩ := h3
          split at h
          · cases h
          · rename_i v s4 hv
            have h4 := value_adv (s := s.adv k) hN (okL_drop hk k) hs hv
            have hs4 : s4.spent ≤ 32768 := by
              obtain ⟨j, n, rfl, h1, h2⟩ := h4
              have h2' : n ≤ 32768 ∨ n = s.spent := h2
              show n ≤ 32768
              omega
            exact ((Adv.by s k).t.then h4).then (attrsGo_adv tag f _ _ a s' (EOk.of h4.same.1 hN) (h4.okR (okL_drop hk k)) hs4 h)
theorem start_less {s s' : RS} (hG : Good s) (hO : OpnOk s) (hN : EOk s.ents) (hs : s.sees [60] = true) (h : s.startTag = .ok s') : Less s s' := by
  rw [startTag_eq, take_adv hs] at h
  split at h
  · cases h
  · have h2 : Adv (s.adv 1) (s.adv 1).qname := Adv.qname _
    split at h
    · cases h
    · rename_i a s3 hat
      obtain ⟨k, hk⟩ := h2
      have h3 : AdvT (s.adv 1) s3 := (Adv.qname _).t.then (attrsGo_adv s.place _ _ [] a s3 (by show EOk s.ents; exact hN) (by rw [hk]; exact okL_drop (okL_drop hG.fine.okR 1) k) hG.sp hat)
      have h5 : AdvT (s.adv 1) ((s3.take [47]).adv 1) := (h3.then (Adv.take s3 [47]).t).then (Adv.by _ 1).t
      have hl := h5.len
      have hl2 := sees_len 1 rfl hs
      have h5' := (Adv.by s 1).t.then h5
      have G5 := hG.t h5'
      have O5 := hO.to h5'.same.2.1
      have N5 := EOk.of h5'.same.1 hN
      split at h
      · cases h
      · split at h
        · cases h
        · rename_i hlim
          split at h
          · cases h
          · rename_i s6 htl
            obtain ⟨l6, g6, o6, n6⟩ := tell_less (s := s) (by omega) G5 O5 N5 htl
            split at h
            · exact tell_less l6 g6 o6 n6 h
            · cases h
              refine ⟨l6, g6.opn _, ⟨fun x hx => ?_, ?_⟩, n6⟩
              · rcases List.mem_append.1 hx with hx | hx
                · exact o6.1 x hx
                · rw [List.mem_singleton.1 hx]
                  have G1 := hG.adv 1
                  refine ⟨okL_pre G1.fine.okR (qnameA_pre _), ?_⟩
                  have := size_pre (qnameA_pre (s.adv 1).rest)
                  have h1 := G1.fine.lt
                  show (T (qnameA (s.adv 1).rest)).size ≤ _
                  omega
              · show (s6.opn ++ [_]).length ≤ 32
                obtain ⟨_, _, _, _, _, e6, _⟩ := G5.tell htl
                rw [List.length_append, e6]
                have := O5.2
                simp at hlim ⊢
                omega
theorem contentOne_ok {s s' : RS} (hG : Good s) (hO : OpnOk s) (hN : EOk s.ents) (h : s.contentOne = .ok s') : s'.rest.length < s.rest.length ∧ Good s' ∧ OpnOk s' ∧ EOk s'.ents := by
  unfold RS.contentOne at h
  split at h
  · rename_i h1; exact endTag_less hG hO hN h1 h
  · split at h
    · rename_i h1; exact comment_less hG hO hN h1 h
    · split at h
      · rename_i h1; exact section_less hG hO hN h1 h
      · split at h
        · rename_i h1; exact instruction_less hG hO hN h1 h
        · split at h
          · rename_i h1; exact start_less hG hO hN h1 h
          · rename_i h60
            split at h
            · exact ref_less hG hO hN h
            · rename_i h38
              split at h
              · rename_i h1; exact plain_less hG hO hN h1.1 (Bool.eq_false_iff.2 h60) (Bool.eq_false_iff.2 h38) h1.2 h
              · cases h
end Go.Proofs.YtkklapoceknbcaaGreatDoor
