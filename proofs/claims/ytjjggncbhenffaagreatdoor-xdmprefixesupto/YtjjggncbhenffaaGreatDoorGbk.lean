/- Several texts, laid as one. -/
import Derived.Test.YtjjggncbhenffaaGreatDoorGbj
import Derived.Test.YtjjggncbhenffaaGreatDoorXmlDoc
import Derived.Test.YtjjggncbhenffaaGreatDoorGan
import Derived.Test.YtjjggncbhenffaaGreatDoorGao
import Derived.Test.YtjjggncbhenffaaGreatDoorGbi
/- What Scan tells may be written: each step, in plain terms. -/
namespace Go.Proofs.YtjjggncbhenffaaGreatDoor
theorem Told.same {s s' : RS} {r : Bool} (h : Told s r) (e1 : s'.toks = s.toks) (e2 : s'.opn = s.opn) (e3 : s'.run = s.run) : Told s' r := by
  obtain ⟨k, h1, h2, h3⟩ := h
  exact ⟨k, by rw [e1, e2]; exact h1, h2, by rw [e2, e3]; exact h3⟩
theorem Told.advT {s s' : RS} {r : Bool} (h : Told s r) (ha : AdvT s s') : Told s' r := h.same ha.same.2.2.2.1 ha.same.2.1 ha.same.2.2.1
theorem Told.adv {s s' : RS} {r : Bool} (h : Told s r) (ha : Adv s s') : Told s' r := h.advT ha.t
theorem flush_toks (y : RS) (o : List (List Nat)) : ({ y with opn := o } : RS).flush.toks = y.flush.toks ∧ ({ y with opn := o } : RS).flush.opn = o ∧ ({ y with opn := o } : RS).flush.run = [] := by
  unfold RS.flush
  by_cases h : y.run = []
  · rw [if_pos h, if_pos h]; exact ⟨rfl, rfl, h⟩
  · rw [if_neg h, if_neg h]; exact ⟨rfl, rfl, rfl⟩
/-- A token told by a reader whose open elements change with it. -/
theorem Told.with {y s' : RS} {r r' : Bool} {t : XTok} {a : Nat} {o' : List (List Nat)} (h : Told y r) (ht : ({ y with opn := o' } : RS).tell t a = .ok s') (hk : t.kind ≠ 4) (hs : ∀ ts k, DocS ts y.opn r k → DocS (ts ++ [t]) o' r' t.kind) : Told s' r' ∧ s'.opn = o' ∧ s'.run = [] := by
  obtain ⟨k, hf⟩ := h.flush
  obtain ⟨f1, f2, f3⟩ := flush_toks y o'
  unfold RS.tell at ht
  split at ht
  · cases ht
  · cases ht
    refine ⟨⟨t.kind, ?_, hk, fun hx => absurd f3 hx⟩, f2, f3⟩
    show DocS (({ y with opn := o' } : RS).flush.toks ++ [t]) ({ y with opn := o' } : RS).flush.opn r' t.kind
    rw [f1, f2]
    exact hs _ k hf
theorem Told.one {y s' : RS} {r : Bool} {t : XTok} {a : Nat} (h : Told y r) (ht : y.tell t a = .ok s') (hk : t.kind ≠ 4) (hs : ∀ ts k, DocS ts y.opn r k → DocS (ts ++ [t]) y.opn r t.kind) : Told s' r ∧ s'.opn = y.opn ∧ s'.run = [] :=
  h.with (o' := y.opn) ht hk hs
theorem com_told {s s' : RS} {r : Bool} (h : Told s r) (ht : s.tellComment = .ok s') : Told s' r ∧ s'.opn = s.opn := by
  unfold RS.tellComment at ht
  split at ht
  · cases ht
  · rename_i t s1 hc
    have ha := Adv.comment hc
    obtain ⟨h1, h2, _⟩ := (h.adv ha).one ht (by simp) (fun ts k hd => .comment t _ r k ts hd (comment_okT hc))
    exact ⟨h1, h2.trans ha.same.2.1⟩
theorem instr_told {s s' : RS} {r : Bool} (h : Told s r) (ht : s.tellInstruction = .ok s') : Told s' r ∧ s'.opn = s.opn := by
  unfold RS.tellInstruction at ht
  split at ht
  · cases ht
  · rename_i n t s1 hc
    have ha := (Adv.instruction hc).1
    obtain ⟨h1, h2, _⟩ := (h.adv ha).one ht (by simp) (fun ts k hd => .pi n t _ r k ts hd (instr_okT hc))
    exact ⟨h1, h2.trans ha.same.2.1⟩
theorem Told.run {s : RS} {r : Bool} (h : Told s r) (ho : s.opn ≠ []) (l : List Nat) : Told { s with run := l } r := by
  obtain ⟨k, h1, h2, _⟩ := h
  exact ⟨k, h1, h2, fun _ => ho⟩
theorem room_told {s s' : RS} {r : Bool} (h : Told s r) (ht : s.room = .ok s') : Told s' r := by
  unfold RS.room at ht
  split at ht
  · cases ht
  · cases ht; exact h
theorem end_told {s s' : RS} {r : Bool} (h : Told s r) (ht : s.endTag = .ok s') : Told s' r := by
  unfold RS.endTag at ht
  simp only at ht
  split at ht
  · rename_i hc
    have ha : Adv s ((s.take [60, 47]).qname.blanks.adv 1) := (((Adv.take s _).then (Adv.qname _)).then (Adv.blanks _)).then (Adv.by _ 1)
    refine ((h.adv ha).with ht (by simp) (fun ts k hd => ?_)).1
    rw [ha.same.2.1] at hd
    exact .fin _ _ r k ts hd (.fin _ (hd.isq _ (List.mem_of_getLast? hc.1))) hc.1
  · cases ht
theorem tell_opn {s s' : RS} {t : XTok} {a : Nat} (h : s.tell t a = .ok s') : s'.opn = s.opn := by
  unfold RS.tell at h
  split at h
  · cases h
  · cases h
    exact (flush_toks s s.opn).2.1
theorem start_told {s s' : RS} {r : Bool} (hG : Good s) (hO : OpnOk s) (hN : EOk s.ents) (hs : s.sees [60] = true) (hT : Told s r) (hr : s.opn = [] → r = false) (h : s.startTag = .ok s') : Told s' true := by
  rw [startTag_eq, take_adv hs] at h
  split at h
  · cases h
  · rename_i hne
    have h2 : Adv (s.adv 1) (s.adv 1).qname := Adv.qname _
    split at h
    · cases h
    · rename_i a s3 hat
      obtain ⟨k, hk⟩ := h2
      have h3 : AdvT (s.adv 1) s3 := (Adv.qname _).t.then (attrsGo_adv s.place _ _ [] a s3 (by show EOk s.ents; exact hN) (by rw [hk]; exact okL_drop (okL_drop hG.fine.okR 1) k) hG.sp hat)
      have h5 : AdvT (s.adv 1) ((s3.take [47]).adv 1) := (h3.then (Adv.take s3 [47]).t).then (Adv.by _ 1).t
      have h5' := (Adv.by s 1).t.then h5
      have O5 := hO.to h5'.same.2.1
      have T5 := hT.advT h5'
      have e5 := h5'.same.2.1
      have hA := attrs_okA _ _ _ _ [] a ⟨fun x hx => (by cases hx), by simp⟩ hat
      have hq := qname_isQ hne
      split at h
      · cases h
      · split at h
        · cases h
        · rename_i hlim
          have hl1 : ((s3.take [47]).adv 1).opn.length < 32 := by
            have := O5.2
            omega
          have hl2 : a.length ≤ 64 := by omega
          split at h
          · cases h
          · rename_i s6 htl
            have T6 := (T5.tell htl (((s3.take [47]).adv 1).opn ++ [qnameA (s.adv 1).rest]) (by simp) (fun ts k hd => .elem _ a _ r k ts hd (.elem _ a hq hA.1 hA.2) (by rw [e5]; exact hr) hl1 hl2)).1
            have e6 := tell_opn htl
            split at h
            · refine (T6.with (o' := s6.opn) h (by simp) (fun ts k hd => ?_)).1
              have := DocS.fin _ _ true k ts hd (.fin _ hq) (by simp)
              rw [List.dropLast_concat] at this
              rw [e6]
              exact this
            · cases h
              rw [e6]
              exact T6
theorem one_told {s s' : RS} (hG : Good s) (hO : OpnOk s) (hN : EOk s.ents) (ho : s.opn ≠ []) (hT : Told s true) (h : s.contentOne = .ok s') : Told s' true := by
  unfold RS.contentOne at h
  split at h
  · exact end_told hT h
  · split at h
    · exact (com_told hT h).1
    · split at h
      · unfold RS.section' at h
        split at h
        · cases h
        · rename_i t s1 ht
          have ha := (Adv.take s [60, 33, 91, 67, 68, 65, 84, 65, 91]).then (Adv.takeTo ht).1
          exact room_told ((hT.adv ha).run (by rw [ha.same.2.1]; exact ho) _) h
      · split at h
        · exact (instr_told hT h).1
        · split at h
          · rename_i h1
            exact start_told hG hO hN h1 hT (fun e => absurd e ho) h
          · split at h
            · unfold RS.refRun at h
              split at h
              · cases h
              · rename_i t s1 ht
                have ha := (ref_t hN hG.fine.okR hG.sp ht).1
                exact room_told ((hT.advT ha).run (by rw [ha.same.2.1]; exact ho) _) h
            · split at h
              · unfold RS.plain at h
                have ha := Adv.by s (plainA s.rest).length
                exact room_told ((hT.adv ha).run (by rw [ha.same.2.1]; exact ho) _) h
              · cases h
theorem content_told : ∀ (f : Nat) (s s' : RS), Good s → OpnOk s → EOk s.ents → Told s true → s.rest.length < f → RS.content f s = .ok s' → Told s' true ∧ s'.opn = []
  | 0, s, s', _, _, _, _, hl, _ => by omega
  | f + 1, s, s', hG, hO, hN, hT, hl, h => by
    unfold RS.content at h
    split at h
    · rename_i ho
      cases h
      exact ⟨hT, ho⟩
    · rename_i ho
      cases hc : s.contentOne with
      | error e => rw [hc] at h; cases h
      | ok s1 =>
        rw [hc] at h
        obtain ⟨k1, k2, k3, k4⟩ := contentOne_ok hG hO hN hc
        exact content_told f s1 s' k2 k3 k4 (one_told hG hO hN ho hT hc) (by omega) h
end Go.Proofs.YtjjggncbhenffaaGreatDoor
/- A text's tokens: xmlscan's Scan. -/
namespace Go.Proofs.YtjjggncbhenffaaGreatDoor
open Go.RowKit
/-- What Scan tells. -/
def scanP (o : Except Er (List XTok)) (B : Nat) (e : Ending) (w' : World) : Prop := match o with
  | .error x => e = .returned (.tuple #[.slice none 0 0, .int .i64 (x.1 : Nat), .int .i64 (x.2 : Nat)])
  | .ok ts => ∃ vt, e = .returned (.tuple #[vt, .int .i64 0, .int .i64 0]) ∧ Toks w' B vt ts
theorem scan_long (s : ByteArray) (w : World) (hs : 32768 < s.size) :
    Calls Tryz.prog 46 #[.string s] w fun e w' => e = .returned (.tuple #[.slice none 0 0, .int .i64 6, .int .i64 0]) ∧ w' = w := by
  have h1 : decide ((32768 : Int) < (s.size : Int)) = true := decide_eq_true (by omega)
  clear hs
  go_enter Tryz.func46, Tryz.ntmps46
  go_wp2
  go_ret3
  exact ⟨rfl, rfl⟩
theorem scan_bad (s : ByteArray) (w : World) (hs : s.size ≤ 32768) (hE : Env w) (hT : ¬ Txt s.data.toList) :
    Calls Tryz.prog 46 #[.string s] w fun e w' => (∃ at' : Nat, at' < s.size ∧ e = .returned (.tuple #[.slice none 0 0, .int .i64 4, .int .i64 (at' : Nat)])) ∧ Below w.heap.size w w' := by
  have h1 : decide ((32768 : Int) < (s.size : Int)) = false := decide_eq_false (by omega)
  have HB := hide (firstBad_any s w hs hE)
  clear hs
  go_enter Tryz.func46, Tryz.ntmps46
  go_wp2_with fail
  refine (unhide HB).mono ?_
  rintro e w1 ⟨hbad, hb1⟩
  rcases hbad with ⟨h, _⟩ | ⟨_, at', hat, rfl⟩
  · exact absurd h hT
  · go_wp2
    go_ret3
    exact ⟨⟨at', hat, rfl⟩, hb1⟩
theorem start_good {cs : List Nat} (hl : okL cs) (hs : (T cs).size ≤ 32768) : Good (RS.start cs) ∧ OpnOk (RS.start cs) := by
  refine ⟨⟨⟨hl, hs⟩, Nat.zero_le _, fun h => absurd rfl h, ?_, Nat.zero_le _, Nat.zero_le _⟩, ?_, Nat.zero_le _⟩
  · intro c hc
    cases hc
  · intro x hx
    cases hx
theorem start_rd (cs : List Nat) (w : World) (B p m : Nat) (hB : B ≤ p) (hm : B ≤ m) (hp : w.heap[p]? = some (.cells (rdArr (RS.start cs) m (.slice none 0 0) (.slice none 0 0) (.slice none 0 0)) 131 (0, 0)))
    (hmm : w.heap[m]? = some (.map #[] 0)) : Rd w B p m (.slice none 0 0) (.slice none 0 0) (.slice none 0 0) (RS.start cs) := by
  refine ⟨hp, hB, ⟨hm, (fun _ h => by cases h), ?_⟩, World.ownsRow_nil _ _ _ _, ⟨[], rfl, World.ownsRow_nil _ _ _ _, (fun i t v h => by cases i <;> cases h)⟩, World.ownsRow_nil _ _ _ _⟩
  exact ⟨#[], 0, hmm, ⟨by simp, Go.MapKept.stamped_empty 0, by simp⟩, Nat.le_refl _, rfl⟩
set_option maxRecDepth 100000 in
set_option maxHeartbeats 4000000 in
theorem scan_any (cs : List Nat) (w : World) (hl : okL cs) (hs : (T cs).size ≤ 32768) (hE : XEnv w.heap.size w) :
    Calls Tryz.prog 46 #[.string (T cs)] w fun e w' => scanP (scanX cs) w.heap.size e w' ∧ Below w.heap.size w w' := by
  have h1 : decide ((32768 : Int) < ((T cs).size : Int)) = false := decide_eq_false (by omega)
  have HB := hide (firstBad_any (T cs) w hs hE.env)
  have HTX := hide (T_txt hl)
  obtain ⟨hG, hO⟩ := start_good hl hs
  have hmk : ∀ W : World, (Instr.makeMap 129 none).run Tryz.prog W = .ok (.map (some W.heap.size)) (W.alloc (.map #[] 0)) := fun W => rfl
  go_enter Tryz.func46, Tryz.ntmps46
  go_wp2_with fail
  refine (unhide HB).mono ?_
  rintro e w1 ⟨hbad, hb1⟩
  rcases hbad with ⟨_, rfl⟩ | ⟨h, _⟩
  · go_wp2_with fail
    have hbA : Below w1.heap.size w1 ((w1.alloc (.map #[] 0)).alloc (.cells #[.string (T cs), .int .i64 0, .map (some w1.heap.size), .int .i64 0, .slice none 0 0, .slice none 0 0, .slice none 0 0, .int .i64 0, .int .i64 0, .int .i64 0] 131)) := ((Below.refl _ _).alloc (Nat.le_refl _) _).alloc (by simp) _
    have hsz1 := hb1.size
    have hR : Rd ((w1.alloc (.map #[] 0)).alloc (.cells #[.string (T cs), .int .i64 0, .map (some w1.heap.size), .int .i64 0, .slice none 0 0, .slice none 0 0, .slice none 0 0, .int .i64 0, .int .i64 0, .int .i64 0] 131)) w.heap.size (w1.heap.size + 1) w1.heap.size (.slice none 0 0) (.slice none 0 0) (.slice none 0 0) (RS.start cs) := by
      refine start_rd cs _ _ _ _ (by omega) (by omega) ?_ ?_
      · show ((w1.heap.push _).push _)[w1.heap.size + 1]? = _
        rw [Array.getElem?_push, if_pos (by simp)]
        rfl
      · show ((w1.heap.push _).push _)[w1.heap.size]? = _
        rw [Array.getElem?_push, if_neg (by simp), Array.getElem?_push, if_pos rfl]
    have hbB : Below w.heap.size w _ := hb1.trans (hbA.mono hsz1)
    refine (document_any w.heap.size (w1.heap.size + 1) w1.heap.size _ _ _ (RS.start cs) _ hR hG hO (hE.low hbB) rfl rfl).mono ?_
    intro e w2 ho
    obtain ⟨b, rfl, ho⟩ := outP_form ho
    obtain ⟨hb2, ho⟩ := ho
    have hb02 : Below w.heap.size w w2 := hbB.trans hb2
    cases hd : (RS.start cs).document with
    | error x =>
      obtain ⟨c, pl⟩ := x
      rw [hd] at ho
      obtain ⟨hb', hw⟩ := ho
      cases hb'
      obtain ⟨c8, c9⟩ := hw
      have HO : Hid (scanX cs = .error (c, pl)) := hide (by unfold scanX; rw [hd])
      clear hd
      go_wp2_with fail
      go_region
      all_goals go_wp2_with fail
      all_goals go_ret3
      all_goals exact ⟨by rw [unhide HO]; rfl, by (repeat first | exact hb02 | refine Below.drew ?_)⟩
    | ok s' =>
      rw [hd] at ho
      obtain ⟨hb', vo, vt, vr, R2⟩ := ho
      cases hb'
      have HO : Hid (scanX cs = .ok s'.toks) := hide (by unfold scanX; rw [hd])
      have c5 : w2.cell? ⟨w1.heap.size + 1, 5, none⟩ = some vt := blk_cell R2.blk 5
      have HTK := hide R2.toks
      clear hd R2
      go_wp2_with fail
      go_ret3
      exact ⟨by rw [unhide HO]; exact ⟨_, rfl, unhide HTK⟩, hb02⟩
  · exact absurd (unhide HTX) h
end Go.Proofs.YtjjggncbhenffaaGreatDoor
/- What Scan tells is a document that may be written, in plain terms. -/
namespace Go.Proofs.YtjjggncbhenffaaGreatDoor
def SameT (s s' : RS) : Prop := s'.toks = s.toks ∧ s'.opn = s.opn ∧ s'.run = s.run
theorem SameT.of {s s' : RS} (h : Adv s s') : SameT s s' := ⟨h.same.2.2.2.1, h.same.2.1, h.same.2.2.1⟩
theorem SameT.then {a b c : RS} (h : SameT a b) (g : SameT b c) : SameT a c := ⟨g.1.trans h.1, g.2.1.trans h.2.1, g.2.2.trans h.2.2⟩
theorem Told.sameT {s s' : RS} {r : Bool} (h : Told s r) (g : SameT s s') : Told s' r := h.same g.1 g.2.1 g.2.2
theorem entity_same {s s' : RS} (h : s.entity = some s') : SameT s s' := by
  rw [entity_eq] at h
  split at h
  · cases h
  · split at h
    · cases h
    · split at h
      · cases h
      · rename_i t s3 hq
        split at h
        · cases h
        · split at h
          · cases h
          · have ha : Adv s (s3.blanks.adv 1) := ((((((Adv.blanks s).then (Adv.name _)).then (Adv.blanks _)).then (Adv.quoted hq)).then (Adv.blanks _)).then (Adv.by _ 1))
            have hs := SameT.of ha
            split at h
            · cases h; exact hs
            · cases h; exact ⟨hs.1, hs.2.1, hs.2.2⟩
theorem declOne_same {s s' : RS} (h : s.declOne = some s') : SameT s s' := by
  unfold RS.declOne at h
  split at h
  · cases hc : s.comment with
    | none => rw [hc] at h; cases h
    | some x =>
      obtain ⟨t, s1⟩ := x
      rw [hc] at h
      cases h
      exact SameT.of (Adv.comment hc)
  · split at h
    · cases hc : s.instruction with
      | none => rw [hc] at h; cases h
      | some x =>
        obtain ⟨n, t, s1⟩ := x
        rw [hc] at h
        cases h
        exact SameT.of (Adv.instruction hc).1
    · split at h
      · exact (SameT.of (Adv.by s 8)).then (entity_same h)
      · cases h
theorem declGo_same : ∀ (f : Nat) (s s' : RS), RS.declGo f s = .ok s' → SameT s s'
  | 0, s, s', h => by cases h
  | f + 1, s, s', h => by
    rw [declGo_eq] at h
    split at h
    · cases h
      exact SameT.of ((Adv.blanks s).then (Adv.by _ 1))
    · split at h
      · cases h
      · rename_i s2 h2
        exact ((SameT.of (Adv.blanks s)).then (declOne_same h2)).then (declGo_same f s2 s' h)
theorem doctype_same {s s' : RS} (h : s.doctype = .ok s') : SameT s s' := by
  rw [doctype_eq] at h
  split at h
  · cases h
  · split at h
    · cases h
    · rename_i s3 h3
      have hm : SameT (s.take [60, 33, 68, 79, 67, 84, 89, 80, 69]).blanks.qname.blanks s3 := by
        unfold typeMid at h3
        split at h3
        · exact (SameT.of (Adv.by _ 1)).then (declGo_same _ _ _ h3)
        · cases h3; exact ⟨rfl, rfl, rfl⟩
      have hp := SameT.of ((((Adv.take s [60, 33, 68, 79, 67, 84, 89, 80, 69]).then (Adv.blanks _)).then (Adv.qname _)).then (Adv.blanks _))
      split at h
      · cases h
        exact (hp.then hm).then (SameT.of ((Adv.blanks s3).then (Adv.by _ 1)))
      · cases h
theorem docMore_ok {f : Nat} {typed rooted : Bool} {o : Except Er RS} {s' : RS} (h : docMore f typed rooted o = .ok s') : ∃ s1, o = .ok s1 ∧ RS.docGo f typed rooted s1 = .ok s' := by
  unfold docMore at h
  split at h
  · cases h
  · exact ⟨_, rfl, h⟩
theorem docGo_told : ∀ (f : Nat) (typed rooted : Bool) (s s' : RS), Good s → OpnOk s → EOk s.ents → Told s rooted → s.opn = [] → RS.docGo f typed rooted s = .ok s' → (∃ k, DocS s'.toks [] true k) ∧ s'.toks.length ≤ 4096
  | 0, typed, rooted, s, s', _, _, _, _, _, h => by cases h
  | f + 1, typed, rooted, s0, s', hG0, hO0, hN0, hT0, ho0, h => by
    rw [docGo_eq] at h
    have hG := hG0.to (Adv.blanks s0)
    have hO : OpnOk s0.blanks := hO0.to (Adv.blanks s0).same.2.1
    have hN : EOk s0.blanks.ents := hN0
    have hT := hT0.adv (Adv.blanks s0)
    have ho : s0.blanks.opn = [] := (Adv.blanks s0).same.2.1.trans ho0
    generalize s0.blanks = s at *
    split at h
    · rename_i h1
      obtain ⟨s1, hs1, h⟩ := docMore_ok h
      obtain ⟨_, k2, k3, k4⟩ := comment_less hG hO hN h1 hs1
      obtain ⟨t1, t2⟩ := com_told hT hs1
      exact docGo_told f _ _ s1 s' k2 k3 k4 t1 (t2.trans ho) h
    · split at h
      · rename_i h1
        obtain ⟨s1, hs1, h⟩ := docMore_ok h
        obtain ⟨_, k2, k3, k4⟩ := instruction_less hG hO hN h1 hs1
        obtain ⟨t1, t2⟩ := instr_told hT hs1
        exact docGo_told f _ _ s1 s' k2 k3 k4 t1 (t2.trans ho) h
      · split at h
        · rename_i h1
          obtain ⟨s1, hs1, h⟩ := docMore_ok h
          have h1' : s.sees [60, 33, 68, 79, 67, 84, 89, 80, 69] = true := by simp at h1; exact h1.1
          obtain ⟨_, k2, k3, k4⟩ := doctype_less hG hO hN h1' hs1
          have hsm := doctype_same hs1
          exact docGo_told f _ _ s1 s' k2 k3 k4 (hT.sameT hsm) (hsm.2.1.trans ho) h
        · split at h
          · rename_i h1
            obtain ⟨s2, hs2, h⟩ := docMore_ok h
            have h1' : s.sees [60] = true ∧ rooted = false := by simpa using h1
            unfold docElem at hs2
            cases hst : s.startTag with
            | error e => rw [hst] at hs2; cases hs2
            | ok s1 =>
              rw [hst] at hs2
              obtain ⟨_, k2, k3, k4⟩ := start_less hG hO hN h1'.1 hst
              have t1 := start_told hG hO hN h1'.1 hT (fun _ => h1'.2) hst
              obtain ⟨t2, t3⟩ := content_told _ s1 s2 k2 k3 k4 t1 (Nat.lt_succ_self _) hs2
              obtain ⟨_, j2, j3, j4⟩ := content_ok _ s1 s2 k2 k3 k4 hs2
              exact docGo_told f _ _ s2 s' j2 j3 j4 t2 t3 h
          · split at h
            · cases h
            · rename_i h1
              cases h
              have hr : rooted = true := by
                cases rooted
                · exact absurd (.inr rfl) h1
                · rfl
              obtain ⟨k, hk, _⟩ := hT
              rw [ho, hr] at hk
              exact ⟨⟨k, hk⟩, hG.n1⟩
theorem scan_docT {cs : List Nat} {ts : List XTok} (hl : okL cs) (hs : (T cs).size ≤ 32768) (h : scanX cs = .ok ts) : DocT [] false 0 ts ∧ ts.length ≤ 4096 := by
  obtain ⟨hG, hO⟩ := start_good hl hs
  have hT : Told (RS.start cs) false := ⟨0, .start, by decide, fun hx => absurd rfl hx⟩
  unfold scanX at h
  split at h
  · cases h
  · rename_i s' hd
    cases h
    unfold RS.document at hd
    split at hd
    · split at hd
      · cases hd
      · rename_i s1 hst
        have ha := settings_adv hst
        obtain ⟨⟨k, hk⟩, hn⟩ := docGo_told _ _ _ s1 s' (hG.to ha) (hO.to ha.same.2.1) (EOk.of ha.same.1 EOk.nil) (hT.adv ha) ha.same.2.1 hd
        exact ⟨hk.all, hn⟩
    · obtain ⟨⟨k, hk⟩, hn⟩ := docGo_told _ _ _ (RS.start cs) s' hG hO EOk.nil hT rfl hd
      exact ⟨hk.all, hn⟩
end Go.Proofs.YtjjggncbhenffaaGreatDoor
/- Tokens in bytes: which are a document's, and what they are as a text. -/
namespace Go.Proofs.YtjjggncbhenffaaGreatDoor
def attrsB : List (List UInt8) → List (ByteArray × ByteArray) → Bool
  | _, [] => true
  | seen, x :: l => !seen.contains x.1.data.toList && (qB x.1 && (textB x.2 && attrsB (seen ++ [x.1.data.toList]) l))
/-- May it stand in some document? -/
def okB (t : BTok) : Bool :=
  if t.kind = 2 then t.text.toList.isEmpty && (qB t.name && attrsB [] t.attrs) else
  if t.kind = 7 then t.text.toList.isEmpty && (t.attrs.isEmpty && qB t.name) else
  if t.kind = 4 then t.name.toList.isEmpty && (t.attrs.isEmpty && (!t.text.toList.isEmpty && textB t.text)) else
  if t.kind = 5 then t.name.toList.isEmpty && (t.attrs.isEmpty && comB t.text) else
  if t.kind = 6 then t.attrs.isEmpty && (tarB t.name && insB t.text) else false
/-- What stands open behind a token, and whether there was an element; none: it may not stand there. -/
def docStp (o : List ByteArray) (r : Bool) (last : Int) (t : BTok) : Option (List ByteArray × Bool) :=
  if t.kind = 2 then (if o.isEmpty && r then none else some (o ++ [t.name], true)) else
  if t.kind = 7 then (match o.getLast? with
    | none => none
    | some x => if x.toList == t.name.toList then some (o.dropLast, r) else none) else
  if t.kind = 4 then (if o.isEmpty || last == 4 then none else some (o, r)) else some (o, r)
def docB : List ByteArray → Bool → Int → List BTok → Bool
  | o, r, _, [] => r && o.isEmpty
  | o, r, last, t :: ts => okB t && (match docStp o r last t with
    | none => false
    | some x => docB x.1 x.2 t.kind ts)
def deepGo : Int → Int → List BTok → Int
  | _, m, [] => m
  | d, m, t :: ts => if t.kind = 2 then deepGo (d + 1) (max m (d + 1)) ts else if t.kind = 7 then deepGo (d - 1) m ts else deepGo d m ts
def pastB (ts : List BTok) : Bool := decide (4096 < ts.length) || (decide (32 < deepGo 0 0 ts) || ts.any fun t => decide (64 < t.attrs.length))
def attrB (x : ByteArray × ByteArray) : List UInt8 := 32 :: (x.1.data.toList ++ 61 :: 34 :: (mapO quoO x.2.data.toList ++ [34]))
def tokB (t : BTok) : List UInt8 :=
  if t.kind = 2 then 60 :: (t.name.data.toList ++ (t.attrs.flatMap attrB ++ [62])) else
  if t.kind = 7 then 60 :: 47 :: (t.name.data.toList ++ [62]) else
  if t.kind = 4 then mapO escO t.text.data.toList else
  if t.kind = 5 then 60 :: 33 :: 45 :: 45 :: (t.text.data.toList ++ [45, 45, 62]) else
  if t.kind = 6 then 60 :: 63 :: (t.name.data.toList ++ ((if t.text.toList.isEmpty then [] else 32 :: t.text.data.toList) ++ [63, 62])) else []
def writeB (ts : List BTok) : List UInt8 := ts.flatMap tokB
/-- What Write tells: an error's number, or a text. -/
def writeR (ts : List BTok) : ByteArray × Nat :=
  if docB [] false 0 ts = false then (⟨#[]⟩, 5) else if pastB ts = true then (⟨#[]⟩, 6) else if 32768 < (writeB ts).length then (⟨#[]⟩, 6) else (⟨(writeB ts).toArray⟩, 0)
end Go.Proofs.YtjjggncbhenffaaGreatDoor
