/- Several texts, laid as one. -/
import Derived.Test.YtekjiagjgopnjaaGreatDoorGbj
import Derived.Test.YtekjiagjgopnjaaGreatDoorGbl
/- What Scan tells may be written: each step, in plain terms. -/
namespace Go.Proofs.YtekjiagjgopnjaaGreatDoor
theorem Told.same {s s' : RS} {r : Bool} (h : Told s r) (e1 : s'.toks = s.toks) (e2 : s'.opn = s.opn) (e3 : s'.run = s.run) : Told s' r := by
  obtain ⟨k, h1, h2, h3⟩ := h
  exact ⟨k, by rw [e1, e2]; exact h1, h2, by rw [e2, e3]; exact h3⟩
theorem Told.advT {s s' : RS} {r : Bool} (h : Told s r) (ha : AdvT s s') : Told s' r := h.same ha.same.2.2.2.1 ha.same.2.1 ha.same.2.2.1
theorem Told.adv {s s' : RS} {r : Bool} (h : Told s r) (ha : Adv s s') : Told s' r := h.advT ha.t
theorem flush_toks (y : RS) (o : List (List Nat)) : ({ y with opn := o } : RS).flush.toks = y.flush.toks ∧ ({ y with opn := o } : RS).flush.opn = o ∧ ({ y with opn := o } : RS).flush.run = [] := by
  unfold RS.flush
  by_cases h : y.run = []
  · rw [if_pos h, if_pos h]; exact ⟨rfl, rfl, h⟩
  · rw [if_neg h, if_neg h]; exact ⟨rfl, rfl, rfl⟩
/-- A token told by a reader whose open elements change with it. -/
theorem Told.with {y s' : RS} {r r' : Bool} {t : XTok} {a : Nat} {o' : List (List Nat)} (h : Told y r) (ht : ({ y with opn := o' } : RS).tell t a = .ok s') (hk : t.kind ≠ 4) (hs : ∀ ts k, DocS ts y.opn r k → DocS (ts ++ [t]) o' r' t.kind) : Told s' r' ∧ s'.opn = o' ∧ s'.run = [] := by
  obtain ⟨k, hf⟩ := h.flush
  obtain ⟨f1, f2, f3⟩ := flush_toks y o'
  unfold RS.tell at ht
  split at ht
  · cases ht
  · cases ht
    refine ⟨⟨t.kind, ?_, hk, fun hx => absurd f3 hx⟩, f2, f3⟩
    show DocS (({ y with opn := o' } : RS).flush.toks ++ [t]) ({ y with opn := o' } : RS).flush.opn r' t.kind
    rw [f1, f2]
    exact hs _ k hf
theorem Told.one {y s' : RS} {r : Bool} {t : XTok} {a : Nat} (h : Told y r) (ht : y.tell t a = .ok s') (hk : t.kind ≠ 4) (hs : ∀ ts k, DocS ts y.opn r k → DocS (ts ++ [t]) y.opn r t.kind) : Told s' r ∧ s'.opn = y.opn ∧ s'.run = [] :=
  h.with (o' := y.opn) ht hk hs
theorem com_told {s s' : RS} {r : Bool} (h : Told s r) (ht : s.tellComment = .ok s') : Told s' r ∧ s'.opn = s.opn := by
  unfold RS.tellComment at ht
  split at ht
  · cases ht
  · rename_i t s1 hc
    have ha := Adv.comment hc
    obtain ⟨h1, h2, _⟩ := (h.adv ha).one ht (by simp) (fun ts k hd => .comment t _ r k ts hd (comment_okT hc))
    exact ⟨h1, h2.trans ha.same.2.1⟩
theorem instr_told {s s' : RS} {r : Bool} (h : Told s r) (ht : s.tellInstruction = .ok s') : Told s' r ∧ s'.opn = s.opn := by
  unfold RS.tellInstruction at ht
  split at ht
  · cases ht
  · rename_i n t s1 hc
    have ha := (Adv.instruction hc).1
    obtain ⟨h1, h2, _⟩ := (h.adv ha).one ht (by simp) (fun ts k hd => .pi n t _ r k ts hd (instr_okT hc))
    exact ⟨h1, h2.trans ha.same.2.1⟩
theorem Told.run {s : RS} {r : Bool} (h : Told s r) (ho : s.opn ≠ []) (l : List Nat) : Told { s with run := l } r := by
  obtain ⟨k, h1, h2, _⟩ := h
  exact ⟨k, h1, h2, fun _ => ho⟩
theorem room_told {s s' : RS} {r : Bool} (h : Told s r) (ht : s.room = .ok s') : Told s' r := by
  unfold RS.room at ht
  split at ht
  · cases ht
  · cases ht; exact h
theorem end_told {s s' : RS} {r : Bool} (h : Told s r) (ht : s.endTag = .ok s') : Told s' r := by
  unfold RS.endTag at ht
  simp only at ht
  split at ht
  · rename_i hc
    have ha : Adv s ((s.take [60, 47]).qname.blanks.adv 1) := (((Adv.take s _).then (Adv.qname _)).then (Adv.blanks _)).then (Adv.by _ 1)
    refine ((h.adv ha).with ht (by simp) (fun ts k hd => ?_)).1
    rw [ha.same.2.1] at hd
    exact .fin _ _ r k ts hd (.fin _ (hd.isq _ (List.mem_of_getLast? hc.1))) hc.1
  · cases ht
theorem tell_opn {s s' : RS} {t : XTok} {a : Nat} (h : s.tell t a = .ok s') : s'.opn = s.opn := by
  unfold RS.tell at h
  split at h
  · cases h
  · cases h
    exact (flush_toks s s.opn).2.1
theorem start_told {s s' : RS} {r : Bool} (hG : Good s) (hO : OpnOk s) (hN : EOk s.ents) (hs : s.sees [60] = true) (hT : Told s r) (hr : s.opn = [] → r = false) (h : s.startTag = .ok s') : Told s' true := by
  rw [startTag_eq, take_adv hs] at h
  split at h
  · cases h
  · rename_i hne
    have h2 : Adv (s.adv 1) (s.adv 1).qname := Adv.qname _
    split at h
    · cases h
    · rename_i a s3 hat
      obtain ⟨k, hk⟩ := h2
      have h3 : AdvT (s.adv 1) s3 := (Adv.qname _).t.then (attrsGo_adv s.place _ _ [] a s3 (by show EOk s.ents; exact hN) (by rw [hk]; exact okL_drop (okL_drop hG.fine.okR 1) k) hG.sp hat)
      have h5 : AdvT (s.adv 1) ((s3.take [47]).adv 1) := (h3.then (Adv.take s3 [47]).t).then (Adv.by _ 1).t
      have h5' := (Adv.by s 1).t.then h5
      have O5 := hO.to h5'.same.2.1
      have T5 := hT.advT h5'
      have e5 := h5'.same.2.1
      have hA := attrs_okA _ _ _ _ [] a ⟨fun x hx => (by cases hx), by simp⟩ hat
      have hq := qname_isQ hne
      split at h
      · cases h
      · split at h
        · cases h
        · rename_i hlim
          have hl1 : ((s3.take [47]).adv 1).opn.length < 32 := by
            have := O5.2
            omega
          have hl2 : a.length ≤ 64 := by omega
          split at h
          · cases h
          · rename_i s6 htl
            have T6 := (T5.tell htl (((s3.take [47]).adv 1).opn ++ [qnameA (s.adv 1).rest]) (by simp) (fun ts k hd => .elem _ a _ r k ts hd (.elem _ a hq hA.1 hA.2) (by rw [e5]; exact hr) hl1 hl2)).1
            have e6 := tell_opn htl
            split at h
            · refine (T6.with (o' := s6.opn) h (by simp) (fun ts k hd => ?_)).1
              have := DocS.fin _ _ true k ts hd (.fin _ hq) (by simp)
              rw [List.dropLast_concat] at this
              rw [e6]
              exact this
            · cases h
              rw [e6]
              exact T6
theorem one_told {s s' : RS} (hG : Good s) (hO : OpnOk s) (hN : EOk s.ents) (ho : s.opn ≠ []) (hT : Told s true) (h : s.contentOne = .ok s') : Told s' true := by
  unfold RS.contentOne at h
  split at h
  · exact end_told hT h
  · split at h
    · exact (com_told hT h).1
    · split at h
      · unfold RS.section' at h
        split at h
        · cases h
        · rename_i t s1 ht
          have ha := (Adv.take s [60, 33, 91, 67, 68, 65, 84, 65, 91]).then (Adv.takeTo ht).1
          exact room_told ((hT.adv ha).run (by rw [ha.same.2.1]; exact ho) _) h
      · split at h
        · exact (instr_told hT h).1
        · split at h
          · rename_i h1
            exact start_told hG hO hN h1 hT (fun e => absurd e ho) h
          · split at h
            · unfold RS.refRun at h
              split at h
              · cases h
              · rename_i t s1 ht
                have ha := (ref_t hN hG.fine.okR hG.sp ht).1
                exact room_told ((hT.advT ha).run (by rw [ha.same.2.1]; exact ho) _) h
            · split at h
              · unfold RS.plain at h
                have ha := Adv.by s (plainA s.rest).length
                exact room_told ((hT.adv ha).run (by rw [ha.same.2.1]; exact ho) _) h
              · cases h
theorem content_told : ∀ (f : Nat) (s s' : RS), Good s → OpnOk s → EOk s.ents → Told s true → s.rest.length < f → RS.content f s = .ok s' → Told s' true ∧ s'.opn = []
  | 0, s, s', _, _, _, _, hl, _ => by omega
  | f + 1, s, s', hG, hO, hN, hT, hl, h => by
    unfold RS.content at h
    split at h
    · rename_i ho
      cases h
      exact ⟨hT, ho⟩
    · rename_i ho
      cases hc : s.contentOne with
      | error e => rw [hc] at h; cases h
      | ok s1 =>
        rw [hc] at h
        obtain ⟨k1, k2, k3, k4⟩ := contentOne_ok hG hO hN hc
        exact content_told f s1 s' k2 k3 k4 (one_told hG hO hN ho hT hc) (by omega) h
end Go.Proofs.YtekjiagjgopnjaaGreatDoor
/- What Scan tells is a document that may be written, in plain terms. -/
namespace Go.Proofs.YtekjiagjgopnjaaGreatDoor
def SameT (s s' : RS) : Prop := s'.toks = s.toks ∧ s'.opn = s.opn ∧ s'.run = s.run
theorem SameT.of {s s' : RS} (h : Adv s s') : SameT s s' := ⟨h.same.2.2.2.1, h.same.2.1, h.same.2.2.1⟩
theorem SameT.then {a b c : RS} (h : SameT a b) (g : SameT b c) : SameT a c := ⟨g.1.trans h.1, g.2.1.trans h.2.1, g.2.2.trans h.2.2⟩
theorem Told.sameT {s s' : RS} {r : Bool} (h : Told s r) (g : SameT s s') : Told s' r := h.same g.1 g.2.1 g.2.2
theorem entity_same {s s' : RS} (h : s.entity = some s') : SameT s s' := by
  rw [entity_eq] at h
  split at h
  · cases h
  · split at h
    · cases h
    · split at h
      · cases h
      · rename_i t s3 hq
        split at h
        · cases h
        · split at h
          · cases h
          · have ha : Adv s (s3.blanks.adv 1) := ((((((Adv.blanks s).then (Adv.name _)).then (Adv.blanks _)).then (Adv.quoted hq)).then (Adv.blanks _)).then (Adv.by _ 1))
            have hs := SameT.of ha
            split at h
            · cases h; exact hs
            · cases h; exact ⟨hs.1, hs.2.1, hs.2.2⟩
theorem declOne_same {s s' : RS} (h : s.declOne = some s') : SameT s s' := by
  unfold RS.declOne at h
  split at h
  · cases hc : s.comment with
    | none => rw [hc] at h; cases h
    | some x =>
      obtain ⟨t, s1⟩ := x
      rw [hc] at h
      cases h
      exact SameT.of (Adv.comment hc)
  · split at h
    · cases hc : s.instruction with
      | none => rw [hc] at h; cases h
      | some x =>
        obtain ⟨n, t, s1⟩ := x
        rw [hc] at h
        cases h
        exact SameT.of (Adv.instruction hc).1
    · split at h
      · exact (SameT.of (Adv.by s 8)).then (entity_same h)
      · cases h
theorem declGo_same : ∀ (f : Nat) (s s' : RS), RS.declGo f s = .ok s' → SameT s s'
  | 0, s, s', h => by cases h
  | f + 1, s, s', h => by
    rw [declGo_eq] at h
    split at h
    · cases h
      exact SameT.of ((Adv.blanks s).then (Adv.by _ 1))
    · split at h
      · cases h
      · rename_i s2 h2
        exact ((SameT.of (Adv.blanks s)).then (declOne_same h2)).then (declGo_same f s2 s' h)
theorem doctype_same {s s' : RS} (h : s.doctype = .ok s') : SameT s s' := by
  rw [doctype_eq] at h
  split at h
  · cases h
  · split at h
    · cases h
    · rename_i s3 h3
      have hm : SameT (s.take [60, 33, 68, 79, 67, 84, 89, 80, 69]).blanks.qname.blanks s3 := by
        unfold typeMid at h3
        split at h3
        · exact (SameT.of (Adv.by _ 1)).then (declGo_same _ _ _ h3)
        · cases h3; exact ⟨rfl, rfl, rfl⟩
      have hp := SameT.of ((((Adv.take s [60, 33, 68, 79, 67, 84, 89, 80, 69]).then (Adv.blanks _)).then (Adv.qname _)).then (Adv.blanks _))
      split at h
      · cases h
        exact (hp.then hm).then (SameT.of ((Adv.blanks s3).then (Adv.by _ 1)))
      · cases h
theorem docMore_ok {f : Nat} {typed rooted : Bool} {o : Except Er RS} {s' : RS} (h : docMore f typed rooted o = .ok s') : ∃ s1, o = .ok s1 ∧ RS.docGo f typed rooted s1 = .ok s' := by
  unfold docMore at h
  split at h
  · cases h
  · exact ⟨_, rfl, h⟩
theorem docGo_told : ∀ (f : Nat) (typed rooted : Bool) (s s' : RS), Good s → OpnOk s → EOk s.ents → Told s rooted → s.opn = [] → RS.docGo f typed rooted s = .ok s' → (∃ k, DocS s'.toks [] true k) ∧ s'.toks.length ≤ 4096
  | 0, typed, rooted, s, s', _, _, _, _, _, h => by cases h
  | f + 1, typed, rooted, s0, s', hG0, hO0, hN0, hT0, ho0, h => by
    rw [docGo_eq] at h
    have hG := hG0.to (Adv.blanks s0)
    have hO : OpnOk s0.blanks := hO0.to (Adv.blanks s0).same.2.1
    have hN : EOk s0.blanks.ents := hN0
    have hT := hT0.adv (Adv.blanks s0)
    have ho : s0.blanks.opn = [] := (Adv.blanks s0).same.2.1.trans ho0
    generalize s0.blanks = s at *
    split at h
    · rename_i h1
      obtain ⟨s1, hs1, h⟩ := docMore_ok h
      obtain ⟨_, k2, k3, k4⟩ := comment_less hG hO hN h1 hs1
      obtain ⟨t1, t2⟩ := com_told hT hs1
      exact docGo_told f _ _ s1 s' k2 k3 k4 t1 (t2.trans ho) h
    · split at h
      · rename_i h1
        obtain ⟨s1, hs1, h⟩ := docMore_ok h
        obtain ⟨_, k2, k3, k4⟩ := instruction_less hG hO hN h1 hs1
        obtain ⟨t1, t2⟩ := instr_told hT hs1
        exact docGo_told f _ _ s1 s' k2 k3 k4 t1 (t2.trans ho) h
      · split at h
        · rename_i h1
          obtain ⟨s1, hs1, h⟩ := docMore_ok h
          have h1' : s.sees [60, 33, 68, 79, 67, 84, 89, 80, 69] = true := by simp at h1; exact h1.1
          obtain ⟨_, k2, k3, k4⟩ := doctype_less hG hO hN h1' hs1
          have hsm := doctype_same hs1
          exact docGo_told f _ _ s1 s' k2 k3 k4 (hT.sameT hsm) (hsm.2.1.trans ho) h
        · split at h
          · rename_i h1
            obtain ⟨s2, hs2, h⟩ := docMore_ok h
            have h1' : s.sees [60] = true ∧ rooted = false := by simpa using h1
            unfold docElem at hs2
            cases hst : s.startTag with
            | error e => rw [hst] at hs2; cases hs2
            | ok s1 =>
              rw [hst] at hs2
              obtain ⟨_, k2, k3, k4⟩ := start_less hG hO hN h1'.1 hst
              have t1 := start_told hG hO hN h1'.1 hT (fun _ => h1'.2) hst
              obtain ⟨t2, t3⟩ := content_told _ s1 s2 k2 k3 k4 t1 (Nat.lt_succ_self _) hs2
              obtain ⟨_, j2, j3, j4⟩ := content_ok _ s1 s2 k2 k3 k4 hs2
              exact docGo_told f _ _ s2 s' j2 j3 j4 t2 t3 h
          · split at h
            · cases h
            · rename_i h1
              cases h
              have hr : rooted = true := by
                cases rooted
                · exact absurd (.inr rfl) h1
                · rfl
              obtain ⟨k, hk, _⟩ := hT
              rw [ho, hr] at hk
              exact ⟨⟨k, hk⟩, hG.n1⟩
theorem scan_docT {cs : List Nat} {ts : List XTok} (hl : okL cs) (hs : (T cs).size ≤ 32768) (h : scanX cs = .ok ts) : DocT [] false 0 ts ∧ ts.length ≤ 4096 := by
  obtain ⟨hG, hO⟩ := start_good hl hs
  have hT : Told (RS.start cs) false := ⟨0, .start, by decide, fun hx => absurd rfl hx⟩
  unfold scanX at h
  split at h
  · cases h
  · rename_i s' hd
    cases h
    unfold RS.document at hd
    split at hd
    · split at hd
      · cases hd
      · rename_i s1 hst
        have ha := settings_adv hst
        obtain ⟨⟨k, hk⟩, hn⟩ := docGo_told _ _ _ s1 s' (hG.to ha) (hO.to ha.same.2.1) (EOk.of ha.same.1 EOk.nil) (hT.adv ha) ha.same.2.1 hd
        exact ⟨hk.all, hn⟩
    · obtain ⟨⟨k, hk⟩, hn⟩ := docGo_told _ _ _ (RS.start cs) s' hG hO EOk.nil hT rfl hd
      exact ⟨hk.all, hn⟩
end Go.Proofs.YtekjiagjgopnjaaGreatDoor
/- Every error of Scan is one of two, and its place lies in the text: in plain terms. -/
namespace Go.Proofs.YtekjiagjgopnjaaGreatDoor
/-- A reader of a text of so many bytes. -/
structure Wh (N : Nat) (s : RS) : Prop where
  all : (tx (s.pre ++ s.rest)).length = N
  run : s.runAt ≤ N
def ErN (N : Nat) (x : Er) : Prop := (x.1 = 5 ∨ x.1 = 6) ∧ x.2 ≤ N
def OutN (N : Nat) (o : Except Er RS) : Prop := match o with
  | .error x => ErN N x
  | .ok s' => Wh N s'
theorem Wh.place {N : Nat} {s : RS} (h : Wh N s) : s.place ≤ N := by
  have := h.all
  rw [tx_len_app] at this
  unfold RS.place
  omega
theorem Wh.t {N : Nat} {s s' : RS} (h : Wh N s) (ha : AdvT s s') : Wh N s' := by
  obtain ⟨k, n, rfl, _, _⟩ := ha
  have e := adv_whole s k
  exact ⟨by show (tx ((s.adv k).pre ++ (s.adv k).rest)).length = N; rw [e]; exact h.all, h.run⟩
theorem Wh.to {N : Nat} {s s' : RS} (h : Wh N s) (ha : Adv s s') : Wh N s' := h.t ha.t
theorem Wh.with {N : Nat} {s : RS} (h : Wh N s) (o : List (List Nat)) (r : List Nat) : Wh N { s with opn := o, run := r } := ⟨h.all, h.run⟩
theorem tell_out {N : Nat} {s : RS} {t : XTok} {pl : Nat} (h : Wh N s) (hp : pl ≤ N) : OutN N (s.tell t pl) := by
  have hpl := h.place
  have hf : s.flush.pre = s.pre ∧ s.flush.rest = s.rest := by unfold RS.flush; split <;> exact ⟨rfl, rfl⟩
  unfold RS.tell
  split
  · exact ⟨.inr rfl, hp⟩
  · exact ⟨by show (tx (s.flush.pre ++ s.flush.rest)).length = N; rw [hf.1, hf.2]; exact h.all, hpl⟩
theorem room_out {N : Nat} {s : RS} (h : Wh N s) : OutN N s.room := by
  unfold RS.room
  split
  · exact ⟨.inr rfl, h.run⟩
  · exact h
theorem spend_er {o : List (List Nat)} {s n e : Nat} (h : spendX o s n = .error e) : e = 6 := by
  unfold spendX at h
  split at h
  · cases h
  · split at h
    · cases h; rfl
    · cases h
theorem text_er (add : Nat → Ref → Except Nat (List Nat × Nat)) (hadd : ∀ s r e, add s r = .error e → e = 5 ∨ e = 6) (flat : Bool) (opn : List (List Nat)) : ∀ (f spent : Nat) (l : List Nat) (e : Nat), textX add flat opn f spent l = .error e → e = 5 ∨ e = 6
  | 0, _, _, _, h => by cases h
  | f + 1, spent, l, e, h => by
    rw [textX] at h
    split at h
    · cases h
    · simp only at h
      split at h
      · rename_i hs; cases h; exact .inr (spend_er hs)
      · split at h
        · cases h
        · split at h
          · cases h; exact .inl rfl
          · split at h
            · rename_i ha; cases h; exact hadd _ _ _ ha
            · split at h
              · rename_i ht; cases h; exact text_er add hadd flat opn f _ _ _ ht
              · cases h
theorem add_er (ents : List (List Nat × List Nat)) (flat : Bool) : ∀ (d : Nat) (opn : List (List Nat)) (spent : Nat) (r : Ref) (e : Nat), addX ents flat d opn spent r = .error e → e = 5 ∨ e = 6
  | 0, _, _, _, _, h => by cases h; exact .inr rfl
  | d + 1, opn, spent, r, e, h => by
    rw [addX] at h
    split at h
    · split at h
      · rename_i hs; cases h; exact .inr (spend_er hs)
      · cases h
    · split at h
      · cases h; exact .inl rfl
      · split at h
        · cases h; exact .inr rfl
        · split at h
          · rename_i hs; cases h; exact .inr (spend_er hs)
          · exact text_er _ (fun s r e => add_er ents flat d _ s r e) flat _ _ _ _ _ h
theorem ref_er {N : Nat} {s : RS} {flat : Bool} {x : Er} (h : Wh N s) (hr : s.reference flat = .error x) : ErN N x := by
  unfold RS.reference at hr
  split at hr
  · cases hr; exact ⟨.inl rfl, h.place⟩
  · split at hr
    · rename_i ha
      cases hr
      exact ⟨add_er _ _ _ _ _ _ _ ha, h.place⟩
    · cases hr
theorem value_er (N q tag : Nat) (ht : tag ≤ N) : ∀ (f : Nat) (s : RS) (t : List Nat) (x : Er), EOk s.ents → Good s → Wh N s → RS.valueGo q tag f s t = .error x → ErN N x
  | 0, s, t, x, _, _, _, h => by cases h; exact ⟨.inl rfl, ht⟩
  | f + 1, s, t, x, hN, hG, hW, h => by
    rw [valueGo_eq] at h
    have ha := Adv.by s (s.rest.takeWhile (plainC q)).length
    have G1 := hG.to ha
    have W1 := hW.to ha
    have N1 : EOk (s.adv (s.rest.takeWhile (plainC q)).length).ents := hN
    generalize s.rest.takeWhile (plainC q) = p at *
    generalize s.adv p.length = s1 at *
    split at h
    · cases h
    · split at h
      · split at h
        · rename_i e hr
          cases h
          exact ref_er W1 hr
        · rename_i u s2 hr
          have r1 := ref_t N1 G1.fine.okR G1.sp hr
          exact value_er N q tag ht f s2 _ x (EOk.of r1.1.same.1 N1) (G1.t r1.1) (W1.t r1.1) h
      · cases h; exact ⟨.inl rfl, ht⟩
theorem attrs_er (N tag : Nat) (ht : tag ≤ N) : ∀ (f : Nat) (s : RS) (acc : List (List Nat × List Nat)) (x : Er), EOk s.ents → Good s → Wh N s → RS.attrsGo tag f s acc = .error x → ErN N x
  | 0, s, acc, x, _, _, _, h => by cases h; exact ⟨.inl rfl, ht⟩
  | f + 1, s, acc, x, hN, hG, hW, h => by
    rw [attrsGo_eq] at h
    split at h
    · cases h
    · split at h
      · cases h; exact ⟨.inl rfl, ht⟩
      · split at h
        · cases h; exact ⟨.inl rfl, ht⟩
        · rename_i s3 heq
          have ha3 : Adv s s3 := ((Adv.blanks s).then (Adv.qname _)).then (Adv.equals heq)
          have G3 := hG.to ha3
          have N3 := EOk.of ha3.same.1 hN
          have W3 := hW.to ha3
          split at h
          · rename_i e hv
            cases h
            unfold RS.value at hv
            split at hv
            · cases hv; exact ⟨.inl rfl, ht⟩
            · rename_i q s5 hq
              exact value_er N q tag ht _ s5 [] _ (EOk.of (Adv.quote hq).same.1 N3) (G3.to (Adv.quote hq)) (W3.to (Adv.quote hq)) hv
          · rename_i v s4 hv
            have ha4 := value_adv N3 G3.fine.okR G3.sp hv
            exact attrs_er N tag ht f s4 _ x (EOk.of ha4.same.1 N3) (G3.t ha4) (W3.t ha4) h
theorem com_out {N : Nat} {s : RS} (h : Wh N s) : OutN N s.tellComment := by
  unfold RS.tellComment
  split
  · exact ⟨.inl rfl, h.place⟩
  · rename_i t s1 hc
    exact tell_out (h.to (Adv.comment hc)) h.place
theorem instr_out {N : Nat} {s : RS} (h : Wh N s) : OutN N s.tellInstruction := by
  unfold RS.tellInstruction
  split
  · exact ⟨.inl rfl, h.place⟩
  · rename_i n t s1 hc
    exact tell_out (h.to (Adv.instruction hc).1) h.place
theorem end_out {N : Nat} {s : RS} (h : Wh N s) : OutN N s.endTag := by
  rw [endTag_eq]
  split
  · have ha : Adv s ((s.take [60, 47]).qname.blanks.adv 1) := (((Adv.take s _).then (Adv.qname _)).then (Adv.blanks _)).then (Adv.by _ 1)
    exact tell_out ((h.to ha).with _ _) h.place
  · exact ⟨.inl rfl, h.place⟩
theorem start_out {N : Nat} {s : RS} (hG : Good s) (hN : EOk s.ents) (hs : s.sees [60] = true) (h : Wh N s) : OutN N s.startTag := by
  rw [startTag_eq, take_adv hs]
  split
  · exact ⟨.inl rfl, h.place⟩
  · have h2 : Adv (s.adv 1) (s.adv 1).qname := Adv.qname _
    have h2' := (Adv.by s 1).then h2
    have G2 := hG.to h2'
    have N2 := EOk.of h2'.same.1 hN
    have W2 := h.to h2'
    split
    · rename_i e hat
      exact attrs_er N s.place h.place _ _ [] e N2 G2 W2 hat
    · rename_i a s3 hat
      have h3 : AdvT s s3 := h2'.t.then (attrsGo_adv s.place _ _ [] a s3 N2 G2.fine.okR G2.sp hat)
      have h5' : AdvT s ((s3.take [47]).adv 1) := (h3.then (Adv.take s3 [47]).t).then (Adv.by _ 1).t
      have W5 := h.t h5'
      split
      · exact ⟨.inl rfl, h.place⟩
      · split
        · exact ⟨.inr rfl, h.place⟩
        · have ho := tell_out (t := ⟨2, qnameA (s.adv [60].length).rest, a, []⟩) W5 h.place
          split
          · rename_i e htl
            rw [htl] at ho
            exact ho
          · rename_i s6 htl
            rw [htl] at ho
            split
            · exact tell_out ho h.place
            · exact Wh.with ho _ _
theorem one_out {N : Nat} {s : RS} (hG : Good s) (hN : EOk s.ents) (h : Wh N s) : OutN N s.contentOne := by
  unfold RS.contentOne
  split
  · exact end_out h
  · split
    · exact com_out h
    · split
      · unfold RS.section'
        split
        · exact ⟨.inl rfl, h.place⟩
        · rename_i t s1 ht
          have ha := (Adv.take s [60, 33, 91, 67, 68, 65, 84, 65, 91]).then (Adv.takeTo ht).1
          exact room_out ((h.to ha).with _ _)
      · split
        · exact instr_out h
        · split
          · rename_i h1
            exact start_out hG hN h1 h
          · split
            · unfold RS.refRun
              split
              · rename_i e ht
                exact ref_er h ht
              · rename_i t s1 ht
                have ha := (ref_t hN hG.fine.okR hG.sp ht).1
                exact room_out ((h.t ha).with _ _)
            · split
              · unfold RS.plain
                exact room_out ((h.to (Adv.by s (plainA s.rest).length)).with _ _)
              · exact ⟨.inl rfl, h.place⟩
theorem content_out {N : Nat} : ∀ (f : Nat) (s : RS), Good s → OpnOk s → EOk s.ents → Wh N s → OutN N (RS.content f s)
  | 0, s, _, _, _, h => by unfold RS.content; exact h
  | f + 1, s, hG, hO, hN, h => by
    unfold RS.content
    split
    · exact h
    · have ho := one_out hG hN h
      split
      · rename_i e hc
        rw [hc] at ho
        exact ho
      · rename_i s1 hc
        rw [hc] at ho
        obtain ⟨k1, k2, k3, k4⟩ := contentOne_ok hG hO hN hc
        exact content_out f s1 k2 k3 k4 ho
theorem entity_wh {N : Nat} {s s' : RS} (hW : Wh N s) (h : s.entity = some s') : Wh N s' := by
  rw [entity_eq] at h
  split at h
  · cases h
  · split at h
    · cases h
    · split at h
      · cases h
      · rename_i t s3 hq
        split at h
        · cases h
        · split at h
          · cases h
          · have ha : Adv s (s3.blanks.adv 1) := ((((((Adv.blanks s).then (Adv.name _)).then (Adv.blanks _)).then (Adv.quoted hq)).then (Adv.blanks _)).then (Adv.by _ 1))
            have W1 := hW.to ha
            split at h
            · cases h; exact W1
            · cases h; exact ⟨W1.all, W1.run⟩
theorem declOne_wh {N : Nat} {s s' : RS} (hW : Wh N s) (h : s.declOne = some s') : Wh N s' := by
  unfold RS.declOne at h
  split at h
  · cases hc : s.comment with
    | none => rw [hc] at h; cases h
    | some x =>
      obtain ⟨t, s1⟩ := x
      rw [hc] at h
      cases h
      exact hW.to (Adv.comment hc)
  · split at h
    · cases hc : s.instruction with
      | none => rw [hc] at h; cases h
      | some x =>
        obtain ⟨n, t, s1⟩ := x
        rw [hc] at h
        cases h
        exact hW.to (Adv.instruction hc).1
    · split at h
      · exact entity_wh (hW.to (Adv.by s 8)) h
      · cases h
theorem declGo_out {N : Nat} : ∀ (f : Nat) (s : RS), Wh N s → OutN N (RS.declGo f s)
  | 0, s, h => ⟨.inl rfl, h.place⟩
  | f + 1, s, h => by
    rw [declGo_eq]
    split
    · exact h.to ((Adv.blanks s).then (Adv.by _ 1))
    · split
      · exact ⟨.inl rfl, (h.to (Adv.blanks s)).place⟩
      · rename_i s2 h2
        exact declGo_out f s2 (declOne_wh (h.to (Adv.blanks s)) h2)
theorem doctype_out {N : Nat} {s : RS} (h : Wh N s) : OutN N s.doctype := by
  rw [doctype_eq]
  split
  · exact ⟨.inl rfl, h.place⟩
  · have hp := (((Adv.take s [60, 33, 68, 79, 67, 84, 89, 80, 69]).then (Adv.blanks _)).then (Adv.qname _)).then (Adv.blanks _)
    have W2 := h.to hp
    have hm : OutN N (typeMid (s.take [60, 33, 68, 79, 67, 84, 89, 80, 69]).blanks.qname.blanks) := by
      unfold typeMid
      split
      · exact declGo_out _ _ (W2.to (Adv.by _ 1))
      · exact W2
    split
    · rename_i e h3
      rw [h3] at hm
      exact hm
    · rename_i s3 h3
      rw [h3] at hm
      have hm' : Wh N s3 := hm
      split
      · exact hm'.to ((Adv.blanks s3).then (Adv.by _ 1))
      · exact ⟨.inl rfl, h.place⟩
theorem more_out {N f : Nat} {typed rooted : Bool} {o : Except Er RS} (h : OutN N o) (hn : ∀ s1, o = .ok s1 → Wh N s1 → OutN N (RS.docGo f typed rooted s1)) : OutN N (docMore f typed rooted o) := by
  cases o with
  | error e => exact h
  | ok s1 => exact hn s1 rfl h
theorem docGo_out {N : Nat} : ∀ (f : Nat) (typed rooted : Bool) (s : RS), Good s → OpnOk s → EOk s.ents → Wh N s → OutN N (RS.docGo f typed rooted s)
  | 0, typed, rooted, s, _, _, _, hW => ⟨.inl rfl, hW.place⟩
  | f + 1, typed, rooted, s0, hG0, hO0, hN0, hW0 => by
    rw [docGo_eq]
    have hG := hG0.to (Adv.blanks s0)
    have hO : OpnOk s0.blanks := hO0.to (Adv.blanks s0).same.2.1
    have hN : EOk s0.blanks.ents := hN0
    have hW := hW0.to (Adv.blanks s0)
    generalize s0.blanks = s at *
    split
    · rename_i h1
      refine more_out (com_out hW) fun s1 hs1 hw1 => ?_
      obtain ⟨_, k2, k3, k4⟩ := comment_less hG hO hN h1 hs1
      exact docGo_out f _ _ s1 k2 k3 k4 hw1
    · split
      · rename_i h1
        refine more_out (instr_out hW) fun s1 hs1 hw1 => ?_
        obtain ⟨_, k2, k3, k4⟩ := instruction_less hG hO hN h1 hs1
        exact docGo_out f _ _ s1 k2 k3 k4 hw1
      · split
        · rename_i h1
          refine more_out (doctype_out hW) fun s1 hs1 hw1 => ?_
          have h1' : s.sees [60, 33, 68, 79, 67, 84, 89, 80, 69] = true := by simp at h1; exact h1.1
          obtain ⟨_, k2, k3, k4⟩ := doctype_less hG hO hN h1' hs1
          exact docGo_out f _ _ s1 k2 k3 k4 hw1
        · split
          · rename_i h1
            have h1' : s.sees [60] = true ∧ rooted = false := by simpa using h1
            have ho := start_out hG hN h1'.1 hW
            have he : OutN N (docElem s) := by
              unfold docElem
              split
              · rename_i e hst
                rw [hst] at ho
                exact ho
              · rename_i s1 hst
                rw [hst] at ho
                obtain ⟨_, k2, k3, k4⟩ := start_less hG hO hN h1'.1 hst
                exact content_out _ s1 k2 k3 k4 ho
            refine more_out he fun s2 hs2 hw2 => ?_
            unfold docElem at hs2
            split at hs2
            · cases hs2
            · rename_i s1 hst
              obtain ⟨_, k2, k3, k4⟩ := start_less hG hO hN h1'.1 hst
              obtain ⟨_, j2, j3, j4⟩ := content_ok _ s1 s2 k2 k3 k4 hs2
              exact docGo_out f _ _ s2 j2 j3 j4 hw2
          · split
            · exact ⟨.inl rfl, hW.place⟩
            · exact hW
/-- An error is of the form or of the limits, and lies in the text. -/
theorem scan_er {cs : List Nat} {x : Er} (hl : okL cs) (hs : (T cs).size ≤ 32768) (h : scanX cs = .error x) : (x.1 = 5 ∨ x.1 = 6) ∧ x.2 ≤ (T cs).size := by
  obtain ⟨hG, hO⟩ := start_good hl hs
  have hW : Wh (T cs).size (RS.start cs) := ⟨rfl, Nat.zero_le _⟩
  have main : OutN (T cs).size (RS.start cs).document := by
    unfold RS.document
    split
    · split
      · exact ⟨.inl rfl, Nat.zero_le _⟩
      · rename_i s1 hst
        have ha := settings_adv hst
        exact docGo_out _ _ _ s1 (hG.to ha) (hO.to ha.same.2.1) (EOk.of ha.same.1 EOk.nil) (hW.to ha)
    · exact docGo_out _ _ _ (RS.start cs) hG hO EOk.nil hW
  unfold scanX at h
  split at h
  · rename_i e hd
    cases h
    rw [hd] at main
    exact main
  · cases h
end Go.Proofs.YtekjiagjgopnjaaGreatDoor
