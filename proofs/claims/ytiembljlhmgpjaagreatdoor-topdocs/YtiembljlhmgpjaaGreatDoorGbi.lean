/- Several texts, laid as one. -/
import Derived.Test.YtiembljlhmgpjaaGreatDoorGam
import Derived.Test.YtiembljlhmgpjaaGreatDoorXmlDoc
import Derived.Test.YtiembljlhmgpjaaGreatDoorGbh
import Derived.Test.YtiembljlhmgpjaaGreatDoorGao
import Derived.Test.YtiembljlhmgpjaaGreatDoorGak
import Derived.Test.YtiembljlhmgpjaaGreatDoorGbf
/- The first character that may not be: xmlscan's firstBad. -/
namespace Go.Proofs.YtiembljlhmgpjaaGreatDoor
open Go.RowKit
theorem txt_app {a b : List UInt8} (ha : Txt a) (hb : Txt b) : Txt (a ++ b) := by
  obtain ⟨r, h1, rfl⟩ := ha
  obtain ⟨t, h2, rfl⟩ := hb
  refine ⟨r ++ t, fun c hc => ?_, by rw [List.flatMap_append]⟩
  rcases List.mem_append.1 hc with h | h
  · exact h1 c h
  · exact h2 c h
theorem textB_txt (s : ByteArray) : textB s = true ↔ Txt s.data.toList := by
  have h := fault_txt s (s.size + 1) 0 (by omega)
  unfold textB
  rw [List.drop_zero] at h
  constructor
  · intro e
    exact h.1 (by simpa [fault] using e)
  · intro e
    have := h.2 e
    simpa [fault] using this
/-- Where a text goes on: its next character is decoded as it is. -/
theorem txt_step (s : ByteArray) (pos : Nat) (hp : pos < s.size) (h1 : Txt (s.data.toList.take pos)) (h2 : Txt (s.data.toList.drop pos)) :
    Txt ((s.data.toList.drop pos).take (Utf8.decode s pos).2) ∧ Txt (s.data.toList.drop (pos + (Utf8.decode s pos).2)) := by
  obtain ⟨p, hp1, hp2⟩ := h1
  obtain ⟨q, hq1, hq2⟩ := h2
  have hsz : s.data.toList.length = s.size := rfl
  cases q with
  | nil =>
    have := congrArg List.length hq2
    simp at this
    omega
  | cons c t =>
    have e : s.data.toList = tx (p ++ c :: t) := by
      rw [tx_append, ← List.take_append_drop pos s.data.toList, hp2, hq2]
      rfl
    have es : s = T (p ++ c :: t) := by
      apply ByteArray.ext
      apply Array.toList_inj.1
      rw [e, T_data]
    have hpl : (tx p).length = pos := by
      have := congrArg List.length hp2
      rw [List.length_take, Nat.min_eq_left (by omega)] at this
      exact this.symm
    have hd := (dec_T p c t (hq1 c (List.mem_cons_self ..))).1
    rw [← es, hpl] at hd
    rw [hd]
    have e2 : s.data.toList.drop pos = runeB c ++ tx t := by rw [hq2]; rfl
    refine ⟨?_, ?_⟩
    · rw [e2, List.take_left]
      exact ⟨[c], fun x hx => by rw [List.mem_singleton.1 hx]; exact hq1 c (List.mem_cons_self ..), by simp⟩
    · rw [← List.drop_drop, e2, List.drop_left]
      exact ⟨t, fun x hx => hq1 x (List.mem_cons_of_mem _ hx), rfl⟩
theorem piece_data (s : ByteArray) (a b : Nat) : (s.extract a (a + b)).data.toList = (s.data.toList.drop a).take b := by
  rw [ByteArray.data_extract, Array.toList_extract, List.extract_eq_take_drop]
  congr 1
  omega
/-- What firstBad tells: no place of a text, some place of what is none. -/
def badP (s : ByteArray) (e : Ending) : Prop := (Txt s.data.toList ∧ e = .returned (.tuple #[.int .i64 0, .bool false])) ∨ (¬ Txt s.data.toList ∧ ∃ at' : Nat, at' < s.size ∧ e = .returned (.tuple #[.int .i64 (at' : Nat), .bool true]))
set_option maxHeartbeats 1000000 in
theorem firstBad_any (s : ByteArray) (w : World) (hs : s.size ≤ 32768) (hE : Env w) :
    Calls Tryz.prog 14 #[.string s] w fun e w' => badP s e ∧ Below w.heap.size w w' := by
  have HE := hide hE
  clear hE
  go_enter Tryz.func14, Tryz.ntmps14
  go_wp2_with fail
  go_loopw [4, 5, 6] (fun _ _ _ wr => ∃ pos : Nat, pos ≤ s.size ∧ Txt (s.data.toList.take pos) ∧ (Txt s.data.toList → Txt (s.data.toList.drop pos)) ∧ wr.heap[w.heap.size]? = some (.stringIter s pos) ∧ Below w.heap.size w wr) (fun _ _ _ wr => s.size - wr.iterPos w.heap.size)
  case atStart =>
    refine ⟨0, Nat.zero_le _, ⟨[], (fun _ h => by cases h), rfl⟩, fun h => h, ?_, ?_⟩
    · exact World.iter_heap w s 0
    · exact (Below.refl _ _).alloc (Nat.le_refl _) _
  case round =>
    obtain ⟨pos, hps, h1, h2, hk, hbr⟩ := hrel
    by_cases hp : pos < s.size
    · have hwd := width_pos s pos hp
      obtain ⟨_, _, hwe⟩ := decode_bytes s pos hp
      have hnx := fun ty => Lib.run_next_any_at (P := Tryz.prog) wr w.heap.size s pos ty hk hp
      have HK := hide hk
      have hbl : w.heap.size < wr.heap.size := (Array.getElem?_eq_some_iff.1 hk).1
      have HST := hide (fun h => txt_step s pos hp h1 (h2 h))
      have HT := hide h1
      have HD := hide (decodeRune_at s pos)
      generalize hd : Utf8.decode s pos = d at *
      have hbI : Below w.heap.size w (wr.iterAt w.heap.size s (pos + d.2)) := Lib.below_iterAt hbr (by omega) _ _
      have hszI : w.heap.size ≤ (wr.iterAt w.heap.size s (pos + d.2)).heap.size := by rw [Lib.iterAt_size]; omega
      have HKI : Hid ((wr.iterAt w.heap.size s (pos + d.2)).heap[w.heap.size]? = some (.stringIter s (pos + d.2))) := hide (Lib.iterAt_heap wr _ _ _ _ (unhide HK))
      have hw1 : wrap64 ((pos : Int) + (d.2 : Int)) = ((pos + d.2 : Nat) : Int) := by unfold wrap64; omega
      have HPD := hide (piece_data s pos d.2)
      clear hd hk h1 h2
      go_wp2_with fail
      refine (unhide HD _ hp ((unhide HE).below hbI)).mono ?_
      rintro e w1 ⟨rfl, hb1⟩
      go_wp2_with fail
      refine (isText_any _ _).mono ?_
      rintro e w2 ⟨rfl, hb2⟩
      have hb12 : Below w.heap.size w w2 := (hbI.trans (hb1.mono hszI)).trans (hb2.mono (Nat.le_trans hszI hb1.size))
      have hbw2 := hb1.trans (hb2.mono hb1.size)
      have HTB := hide (textB_txt (s.extract pos (pos + d.2)))
      rw [unhide HPD] at HTB
      cases htb : textB (s.extract pos (pos + d.2))
      · have HN : Hid (¬ Txt s.data.toList) := hide (fun h => by
          have := (unhide HTB).2 (unhide HST h).1
          rw [htb] at this
          cases this)
        go_wp2
        go_ret2
        exact ⟨.inr ⟨unhide HN, pos, hp, rfl⟩, hb12⟩
      · have HTT : Hid (Txt (s.data.toList.take (pos + d.2))) := hide (by
          have h := txt_app (unhide HT) ((unhide HTB).1 htb)
          rwa [← List.take_add] at h)
        go_wp2
        refine ⟨⟨pos + d.2, hwe, unhide HTT, fun h => (unhide HST h).2, block_below (unhide HKI) hbw2, hb12⟩, ?_⟩
        rw [iterPos_of (block_below (unhide HKI) hbw2), iterPos_of (unhide HK)]
        omega
    · have hnx := fun ty => Lib.run_next_end_at (P := Tryz.prog) wr w.heap.size s pos ty hk hp
      have HA : Hid (Txt s.data.toList) := by
        rw [List.take_of_length_le (show s.data.toList.length ≤ pos by show s.size ≤ pos; omega)] at h1
        exact hide h1
      clear hk h1 h2
      go_wp2
      go_ret2
      exact ⟨.inl ⟨unhide HA, rfl⟩, hbr⟩
end Go.Proofs.YtiembljlhmgpjaaGreatDoor
/- A text's tokens: xmlscan's Scan. -/
namespace Go.Proofs.YtiembljlhmgpjaaGreatDoor
open Go.RowKit
/-- What Scan tells. -/
def scanP (o : Except Er (List XTok)) (B : Nat) (e : Ending) (w' : World) : Prop := match o with
  | .error x => e = .returned (.tuple #[.slice none 0 0, .int .i64 (x.1 : Nat), .int .i64 (x.2 : Nat)])
  | .ok ts => ∃ vt, e = .returned (.tuple #[vt, .int .i64 0, .int .i64 0]) ∧ Toks w' B vt ts
theorem scan_long (s : ByteArray) (w : World) (hs : 32768 < s.size) :
    Calls Tryz.prog 6 #[.string s] w fun e w' => e = .returned (.tuple #[.slice none 0 0, .int .i64 6, .int .i64 0]) ∧ w' = w := by
  have h1 : decide ((32768 : Int) < (s.size : Int)) = true := decide_eq_true (by omega)
  clear hs
  go_enter Tryz.func6, Tryz.ntmps6
  go_wp2
  go_ret3
  exact ⟨rfl, rfl⟩
theorem scan_bad (s : ByteArray) (w : World) (hs : s.size ≤ 32768) (hE : Env w) (hT : ¬ Txt s.data.toList) :
    Calls Tryz.prog 6 #[.string s] w fun e w' => (∃ at' : Nat, at' < s.size ∧ e = .returned (.tuple #[.slice none 0 0, .int .i64 4, .int .i64 (at' : Nat)])) ∧ Below w.heap.size w w' := by
  have h1 : decide ((32768 : Int) < (s.size : Int)) = false := decide_eq_false (by omega)
  have HB := hide (firstBad_any s w hs hE)
  clear hs
  go_enter Tryz.func6, Tryz.ntmps6
  go_wp2_with fail
  refine (unhide HB).mono ?_
  rintro e w1 ⟨hbad, hb1⟩
  rcases hbad with ⟨h, _⟩ | ⟨_, at', hat, rfl⟩
  · exact absurd h hT
  · go_wp2
    go_ret3
    exact ⟨⟨at', hat, rfl⟩, hb1⟩
theorem start_good {cs : List Nat} (hl : okL cs) (hs : (T cs).size ≤ 32768) : Good (RS.start cs) ∧ OpnOk (RS.start cs) := by
  refine ⟨⟨⟨hl, hs⟩, Nat.zero_le _, fun h => absurd rfl h, ?_, Nat.zero_le _, Nat.zero_le _⟩, ?_, Nat.zero_le _⟩
  · intro c hc
    cases hc
  · intro x hx
    cases hx
theorem start_rd (cs : List Nat) (w : World) (B p m : Nat) (hB : B ≤ p) (hm : B ≤ m) (hp : w.heap[p]? = some (.cells (rdArr (RS.start cs) m (.slice none 0 0) (.slice none 0 0) (.slice none 0 0)) 47 (0, 0)))
    (hmm : w.heap[m]? = some (.map #[] 0)) : Rd w B p m (.slice none 0 0) (.slice none 0 0) (.slice none 0 0) (RS.start cs) := by
  refine ⟨hp, hB, ⟨hm, (fun _ h => by cases h), ?_⟩, World.ownsRow_nil _ _ _ _, ⟨[], rfl, World.ownsRow_nil _ _ _ _, (fun i t v h => by cases i <;> cases h)⟩, World.ownsRow_nil _ _ _ _⟩
  exact ⟨#[], 0, hmm, ⟨by simp, Go.MapKept.stamped_empty 0, by simp⟩, Nat.le_refl _, rfl⟩
set_option maxRecDepth 100000 in
set_option maxHeartbeats 4000000 in
theorem scan_any (cs : List Nat) (w : World) (hl : okL cs) (hs : (T cs).size ≤ 32768) (hE : XEnv w.heap.size w) :
    Calls Tryz.prog 6 #[.string (T cs)] w fun e w' => scanP (scanX cs) w.heap.size e w' ∧ Below w.heap.size w w' := by
  have h1 : decide ((32768 : Int) < ((T cs).size : Int)) = false := decide_eq_false (by omega)
  have HB := hide (firstBad_any (T cs) w hs hE.env)
  have HTX := hide (T_txt hl)
  obtain ⟨hG, hO⟩ := start_good hl hs
  have hmk : ∀ W : World, (Instr.makeMap 44 none).run Tryz.prog W = .ok (.map (some W.heap.size)) (W.alloc (.map #[] 0)) := fun W => rfl
  go_enter Tryz.func6, Tryz.ntmps6
  go_wp2_with fail
  refine (unhide HB).mono ?_
  rintro e w1 ⟨hbad, hb1⟩
  rcases hbad with ⟨_, rfl⟩ | ⟨h, _⟩
  · go_wp2_with fail
    have hbA : Below w1.heap.size w1 ((w1.alloc (.map #[] 0)).alloc (.cells #[.string (T cs), .int .i64 0, .map (some w1.heap.size), .int .i64 0, .slice none 0 0, .slice none 0 0, .slice none 0 0, .int .i64 0, .int .i64 0, .int .i64 0] 47)) := ((Below.refl _ _).alloc (Nat.le_refl _) _).alloc (by simp) _
    have hsz1 := hb1.size
    have hR : Rd ((w1.alloc (.map #[] 0)).alloc (.cells #[.string (T cs), .int .i64 0, .map (some w1.heap.size), .int .i64 0, .slice none 0 0, .slice none 0 0, .slice none 0 0, .int .i64 0, .int .i64 0, .int .i64 0] 47)) w.heap.size (w1.heap.size + 1) w1.heap.size (.slice none 0 0) (.slice none 0 0) (.slice none 0 0) (RS.start cs) := by
      refine start_rd cs _ _ _ _ (by omega) (by omega) ?_ ?_
      · show ((w1.heap.push _).push _)[w1.heap.size + 1]? = _
        rw [Array.getElem?_push, if_pos (by simp)]
        rfl
      · show ((w1.heap.push _).push _)[w1.heap.size]? = _
        rw [Array.getElem?_push, if_neg (by simp), Array.getElem?_push, if_pos rfl]
    have hbB : Below w.heap.size w _ := hb1.trans (hbA.mono hsz1)
    refine (document_any w.heap.size (w1.heap.size + 1) w1.heap.size _ _ _ (RS.start cs) _ hR hG hO (hE.low hbB) rfl rfl).mono ?_
    intro e w2 ho
    obtain ⟨b, rfl, ho⟩ := outP_form ho
    obtain ⟨hb2, ho⟩ := ho
    have hb02 : Below w.heap.size w w2 := hbB.trans hb2
    cases hd : (RS.start cs).document with
    | error x =>
      obtain ⟨c, pl⟩ := x
      rw [hd] at ho
      obtain ⟨hb', hw⟩ := ho
      cases hb'
      obtain ⟨c8, c9⟩ := hw
      have HO : Hid (scanX cs = .error (c, pl)) := hide (by unfold scanX; rw [hd])
      clear hd
      go_wp2_with fail
      go_region
      all_goals go_wp2_with fail
      all_goals go_ret3
      all_goals exact ⟨by rw [unhide HO]; rfl, by (repeat first | exact hb02 | refine Below.drew ?_)⟩
    | ok s' =>
      rw [hd] at ho
      obtain ⟨hb', vo, vt, vr, R2⟩ := ho
      cases hb'
      have HO : Hid (scanX cs = .ok s'.toks) := hide (by unfold scanX; rw [hd])
      have c5 : w2.cell? ⟨w1.heap.size + 1, 5, none⟩ = some vt := blk_cell R2.blk 5
      have HTK := hide R2.toks
      clear hd R2
      go_wp2_with fail
      go_ret3
      exact ⟨by rw [unhide HO]; exact ⟨_, rfl, unhide HTK⟩, hb02⟩
  · exact absurd (unhide HTX) h
end Go.Proofs.YtiembljlhmgpjaaGreatDoor
/- What Scan tells is a document that may be written, in plain terms. -/
namespace Go.Proofs.YtiembljlhmgpjaaGreatDoor
def SameT (s s' : RS) : Prop := s'.toks = s.toks ∧ s'.opn = s.opn ∧ s'.run = s.run
theorem SameT.of {s s' : RS} (h : Adv s s') : SameT s s' := ⟨h.same.2.2.2.1, h.same.2.1, h.same.2.2.1⟩
theorem SameT.then {a b c : RS} (h : SameT a b) (g : SameT b c) : SameT a c := ⟨g.1.trans h.1, g.2.1.trans h.2.1, g.2.2.trans h.2.2⟩
theorem Told.sameT {s s' : RS} {r : Bool} (h : Told s r) (g : SameT s s') : Told s' r := h.same g.1 g.2.1 g.2.2
theorem entity_same {s s' : RS} (h : s.entity = some s') : SameT s s' := by
  rw [entity_eq] at h
  split at h
  · cases h
  · split at h
    · cases h
    · split at h
      · cases h
      · rename_i t s3 hq
        split at h
        · cases h
        · split at h
          · cases h
          · have ha : Adv s (s3.blanks.adv 1) := ((((((Adv.blanks s).then (Adv.name _)).then (Adv.blanks _)).then (Adv.quoted hq)).then (Adv.blanks _)).then (Adv.by _ 1))
            have hs := SameT.of ha
            split at h
            · cases h; exact hs
            · cases h; exact ⟨hs.1, hs.2.1, hs.2.2⟩
theorem declOne_same {s s' : RS} (h : s.declOne = some s') : SameT s s' := by
  unfold RS.declOne at h
  split at h
  · cases hc : s.comment with
    | none => rw [hc] at h; cases h
    | some x =>
      obtain ⟨t, s1⟩ := x
      rw [hc] at h
      cases h
      exact SameT.of (Adv.comment hc)
  · split at h
    · cases hc : s.instruction with
      | none => rw [hc] at h; cases h
      | some x =>
        obtain ⟨n, t, s1⟩ := x
        rw [hc] at h
        cases h
        exact SameT.of (Adv.instruction hc).1
    · split at h
      · exact (SameT.of (Adv.by s 8)).then (entity_same h)
      · cases h
theorem declGo_same : ∀ (f : Nat) (s s' : RS), RS.declGo f s = .ok s' → SameT s s'
  | 0, s, s', h => by cases h
  | f + 1, s, s', h => by
    rw [declGo_eq] at h
    split at h
    · cases h
      exact SameT.of ((Adv.blanks s).then (Adv.by _ 1))
    · split at h
      · cases h
      · rename_i s2 h2
        exact ((SameT.of (Adv.blanks s)).then (declOne_same h2)).then (declGo_same f s2 s' h)
theorem doctype_same {s s' : RS} (h : s.doctype = .ok s') : SameT s s' := by
  rw [doctype_eq] at h
  split at h
  · cases h
  · split at h
    · cases h
    · rename_i s3 h3
      have hm : SameT (s.take [60, 33, 68, 79, 67, 84, 89, 80, 69]).blanks.qname.blanks s3 := by
        unfold typeMid at h3
        split at h3
        · exact (SameT.of (Adv.by _ 1)).then (declGo_same _ _ _ h3)
        · cases h3; exact ⟨rfl, rfl, rfl⟩
      have hp := SameT.of ((((Adv.take s [60, 33, 68, 79, 67, 84, 89, 80, 69]).then (Adv.blanks _)).then (Adv.qname _)).then (Adv.blanks _))
      split at h
      · cases h
        exact (hp.then hm).then (SameT.of ((Adv.blanks s3).then (Adv.by _ 1)))
      · cases h
theorem docMore_ok {f : Nat} {typed rooted : Bool} {o : Except Er RS} {s' : RS} (h : docMore f typed rooted o = .ok s') : ∃ s1, o = .ok s1 ∧ RS.docGo f typed rooted s1 = .ok s' := by
  unfold docMore at h
  split at h
  · cases h
  · exact ⟨_, rfl, h⟩
theorem docGo_told : ∀ (f : Nat) (typed rooted : Bool) (s s' : RS), Good s → OpnOk s → EOk s.ents → Told s rooted → s.opn = [] → RS.docGo f typed rooted s = .ok s' → (∃ k, DocS s'.toks [] true k) ∧ s'.toks.length ≤ 4096
  | 0, typed, rooted, s, s', _, _, _, _, _, h => by cases h
  | f + 1, typed, rooted, s0, s', hG0, hO0, hN0, hT0, ho0, h => by
    rw [docGo_eq] at h
    have hG := hG0.to (Adv.blanks s0)
    have hO : OpnOk s0.blanks := hO0.to (Adv.blanks s0).same.2.1
    have hN : EOk s0.blanks.ents := hN0
    have hT := hT0.adv (Adv.blanks s0)
    have ho : s0.blanks.opn = [] := (Adv.blanks s0).same.2.1.trans ho0
    generalize s0.blanks = s at *
    split at h
    · rename_i h1
      obtain ⟨s1, hs1, h⟩ := docMore_ok h
      obtain ⟨_, k2, k3, k4⟩ := comment_less hG hO hN h1 hs1
      obtain ⟨t1, t2⟩ := com_told hT hs1
      exact docGo_told f _ _ s1 s' k2 k3 k4 t1 (t2.trans ho) h
    · split at h
      · rename_i h1
        obtain ⟨s1, hs1, h⟩ := docMore_ok h
        obtain ⟨_, k2, k3, k4⟩ := instruction_less hG hO hN h1 hs1
        obtain ⟨t1, t2⟩ := instr_told hT hs1
        exact docGo_told f _ _ s1 s' k2 k3 k4 t1 (t2.trans ho) h
      · split at h
        · rename_i h1
          obtain ⟨s1, hs1, h⟩ := docMore_ok h
          have h1' : s.sees [60, 33, 68, 79, 67, 84, 89, 80, 69] = true := by simp at h1; exact h1.1
          obtain ⟨_, k2, k3, k4⟩ := doctype_less hG hO hN h1' hs1
          have hsm := doctype_same hs1
          exact docGo_told f _ _ s1 s' k2 k3 k4 (hT.sameT hsm) (hsm.2.1.trans ho) h
        · split at h
          · rename_i h1
            obtain ⟨s2, hs2, h⟩ := docMore_ok h
            have h1' : s.sees [60] = true ∧ rooted = false := by simpa using h1
            unfold docElem at hs2
            cases hst : s.startTag with
            | error e => rw [hst] at hs2; cases hs2
            | ok s1 =>
              rw [hst] at hs2
              obtain ⟨_, k2, k3, k4⟩ := start_less hG hO hN h1'.1 hst
              have t1 := start_told hG hO hN h1'.1 hT (fun _ => h1'.2) hst
              obtain ⟨t2, t3⟩ := content_told _ s1 s2 k2 k3 k4 t1 (Nat.lt_succ_self _) hs2
              obtain ⟨_, j2, j3, j4⟩ := content_ok _ s1 s2 k2 k3 k4 hs2
              exact docGo_told f _ _ s2 s' j2 j3 j4 t2 t3 h
          · split at h
            · cases h
            · rename_i h1
              cases h
              have hr : rooted = true := by
                cases rooted
                · exact absurd (.inr rfl) h1
                · rfl
              obtain ⟨k, hk, _⟩ := hT
              rw [ho, hr] at hk
              exact ⟨⟨k, hk⟩, hG.n1⟩
theorem scan_docT {cs : List Nat} {ts : List XTok} (hl : okL cs) (hs : (T cs).size ≤ 32768) (h : scanX cs = .ok ts) : DocT [] false 0 ts ∧ ts.length ≤ 4096 := by
  obtain ⟨hG, hO⟩ := start_good hl hs
  have hT : Told (RS.start cs) false := ⟨0, .start, by decide, fun hx => absurd rfl hx⟩
  unfold scanX at h
  split at h
  · cases h
  · rename_i s' hd
    cases h
    unfold RS.document at hd
    split at hd
    · split at hd
      · cases hd
      · rename_i s1 hst
        have ha := settings_adv hst
        obtain ⟨⟨k, hk⟩, hn⟩ := docGo_told _ _ _ s1 s' (hG.to ha) (hO.to ha.same.2.1) (EOk.of ha.same.1 EOk.nil) (hT.adv ha) ha.same.2.1 hd
        exact ⟨hk.all, hn⟩
    · obtain ⟨⟨k, hk⟩, hn⟩ := docGo_told _ _ _ (RS.start cs) s' hG hO EOk.nil hT rfl hd
      exact ⟨hk.all, hn⟩
end Go.Proofs.YtiembljlhmgpjaaGreatDoor
/- Tokens in bytes, as they may be handed in, and whether one may stand in a document: xmlscan's isQName, isComment, isInstruction, isTarget. -/
namespace Go.Proofs.YtiembljlhmgpjaaGreatDoor
open Go.RowKit
structure BTok where
  kind : Int
  name : ByteArray
  attrs : List (ByteArray × ByteArray)
  text : ByteArray
/-- Pairs in memory: a row that was handed in, or one of one's own. -/
def PairsArg (w : World) (v : Value) (l : List (ByteArray × ByteArray)) : Prop := ∃ a cap, v = .slice a l.length cap ∧ (l ≠ [] → ∃ g o, a = some ⟨g, o, none⟩ ∧
  ∀ i x, l[i]? = some x → w.cell? ⟨g, o + i * 2, none⟩ = some (.string x.1) ∧ w.cell? ⟨g, o + i * 2 + 1, none⟩ = some (.string x.2))
structure TokArg (w : World) (g o : Nat) (t : BTok) : Prop where
  k : w.cell? ⟨g, o, none⟩ = some (.int .i64 t.kind)
  n : w.cell? ⟨g, o + 1, none⟩ = some (.string t.name)
  a : ∃ v, w.cell? ⟨g, o + 2, none⟩ = some v ∧ PairsArg w v t.attrs
  x : w.cell? ⟨g, o + 3, none⟩ = some (.string t.text)
def ToksArg (w : World) (a : Option Addr) (ts : List BTok) : Prop := ts ≠ [] → ∃ g o, a = some ⟨g, o, none⟩ ∧ ∀ i t, ts[i]? = some t → TokArg w g (o + i * 4) t
theorem PairsArg.below {w w' : World} {v : Value} {l : List (ByteArray × ByteArray)} (h : PairsArg w v l) (hb : Below w.heap.size w w') : PairsArg w' v l := by
  obtain ⟨a, cap, h1, h2⟩ := h
  refine ⟨a, cap, h1, fun hl => ?_⟩
  obtain ⟨g, o, h3, h4⟩ := h2 hl
  exact ⟨g, o, h3, fun i x hx => ⟨keptC hb (h4 i x hx).1, keptC hb (h4 i x hx).2⟩⟩
theorem TokArg.below {w w' : World} {g o : Nat} {t : BTok} (h : TokArg w g o t) (hb : Below w.heap.size w w') : TokArg w' g o t := by
  obtain ⟨h1, h2, ⟨v, h3, h4⟩, h5⟩ := h
  exact ⟨keptC hb h1, keptC hb h2, ⟨v, keptC hb h3, h4.below hb⟩, keptC hb h5⟩
theorem ToksArg.below {w w' : World} {a : Option Addr} {ts : List BTok} (h : ToksArg w a ts) (hb : Below w.heap.size w w') : ToksArg w' a ts := fun hl => by
  obtain ⟨g, o, h1, h2⟩ := h hl
  exact ⟨g, o, h1, fun i t ht => (h2 i t ht).below hb⟩
def qB (s : ByteArray) : Bool := splitB s.data.toList
def lowB (s : ByteArray) : Bool := s.data.toList.map (fun b => lowC b.toNat) == [120, 109, 108]
def tarB (s : ByteArray) : Bool := nameB s && !lowB s
def comB (s : ByteArray) : Bool := textB s && (!Lib.contains s.data.toList [45, 45] && !Lib.hasSuffix s.data.toList [45])
def insB (s : ByteArray) : Bool := textB s && (!Lib.contains s.data.toList [63, 62] && ((Lib.trimLeftF blankN s).toList == s.toList))
theorem nameB_txt {s : ByteArray} (h : nameB s = true) : ∃ l, okL l ∧ s = T l := by
  have h1 : textB s = true := by
    rw [textB_eq]
    rw [nameB_eq] at h
    simp only [Bool.and_eq_true] at h
    exact h.1.1
  exact txt_T ((textB_txt s).1 h1)
theorem low_tx {l : List Nat} (h : okL l) : ((tx l).map (fun b => lowC b.toNat) == [120, 109, 108]) = (l.map lowC == [120, 109, 108]) := by
  by_cases hh : ∃ c ∈ l, 128 ≤ c
  · obtain ⟨c, hc, h128⟩ := hh
    have e1 : (l.map lowC == [120, 109, 108]) = false := by
      apply beq_eq_false_iff_ne.2
      intro hx
      have h1 : lowC c ∈ l.map lowC := List.mem_map.2 ⟨c, hc, rfl⟩
      rw [hx] at h1
      have h2 : lowC c = c := by unfold lowC; rw [if_neg (by omega)]
      rw [h2] at h1
      simp at h1
      omega
    have e2 : ((tx l).map (fun b => lowC b.toNat) == [120, 109, 108]) = false := by
      apply beq_eq_false_iff_ne.2
      intro hx
      obtain ⟨b, hb⟩ : ∃ b, b ∈ runeB c := by
        have := runeB_pos (h c hc)
        cases hr : runeB c with
        | nil => rw [hr] at this; simp at this
        | cons b t => exact ⟨b, by simp⟩
      have hb1 := runeB_high (charR_ok (h c hc)) h128 b hb
      have hb2 : b ∈ tx l := List.mem_flatMap.2 ⟨c, hc, hb⟩
      have h1 : lowC b.toNat ∈ (tx l).map (fun b => lowC b.toNat) := List.mem_map.2 ⟨b, hb2, rfl⟩
      rw [hx] at h1
      have h2 : lowC b.toNat = b.toNat := by unfold lowC; rw [if_neg (by omega)]
      rw [h2] at h1
      simp at h1
      omega
    rw [e1, e2]
  · have ha : ∀ c ∈ l, c < 128 := fun c hc => by
      by_cases h : c < 128
      · exact h
      · exact absurd ⟨c, hc, by omega⟩ hh
    rw [sign_len_tx ha, List.map_map]
    have : l.map ((fun b : UInt8 => lowC b.toNat) ∘ UInt8.ofNat) = l.map lowC := List.map_congr_left fun c hc => by
      show lowC (UInt8.ofNat c).toNat = lowC c
      rw [asc_toNat (ha c hc)]
    rw [this]
theorem tarB_T {l : List Nat} (h : okL l) : tarB (T l) = isTarget l := by
  unfold tarB lowB isTarget
  rw [nameB_T h, T_data, low_tx h]
set_option maxHeartbeats 1000000 in
theorem isQName_any (s : ByteArray) (w : World) (hs : s.size ≤ 1048576) (hE : Env w) :
    Calls Tryz.prog 78 #[.string s] w fun e w' => e = .returned (.bool (qB s)) ∧ Below w.heap.size w w' := by
  obtain ⟨p, n, hv⟩ := splitV_cases s.data.toList
  have HV := hide hv
  have HS := hide (split_any s w (by omega) hE)
  clear hv hE
  go_enter Tryz.func78, Tryz.ntmps78
  go_wp2_with fail
  refine (unhide HS).mono ?_
  rintro e w1 ⟨rfl, hb1⟩
  rw [unhide HV]
  go_wp2
  go_ret
  exact ⟨rfl, hb1⟩
set_option maxHeartbeats 1000000 in
theorem isTargetB_any (s : ByteArray) (w : World) (hs : s.size ≤ 1048576) (B : Nat) (hB : B ≤ w.heap.size) (hE : XEnv B w) :
    Calls Tryz.prog 81 #[.string s] w fun e w' => e = .returned (.bool (tarB s)) ∧ Below w.heap.size w w' := by
  have HE := hide hE
  have HN := hide (isName_any s w (by unfold maxLen; omega) hE.env)
  have HD : Hid (tarB s = (nameB s && !lowB s)) := hide rfl
  cases hn : nameB s
  · rw [hn] at HN HD
    clear hE hn
    go_enter Tryz.func81, Tryz.ntmps81
    go_wp2_with (go_at_call 116; refine (unhide HN).mono ?_; rintro e w1 ⟨rfl, hb1⟩)
    go_ret
    exact ⟨ret_bool (by rw [unhide HD]; rfl), hb1⟩
  · obtain ⟨l, hl, hT⟩ := nameB_txt hn
    rw [hn] at HN HD
    have HL : Hid (lowB s = (l.map lowC == [120, 109, 108])) := hide (by unfold lowB; rw [hT, T_data, low_tx hl])
    have HF : Hid (∀ W, XEnv B W → B ≤ W.heap.size → Calls Tryz.prog 117 #[.string s, .string ⟨#[120, 109, 108]⟩] W fun e w' => e = .returned (.bool (l.map lowC == [120, 109, 108])) ∧ Below W.heap.size W w') := hide fun W hW hBW => by
      rw [hT] at hs ⊢
      exact foldXml_big l W hl hs B hW hBW
    clear hE hn hT
    go_enter Tryz.func81, Tryz.ntmps81
    go_wp2_with (first | (go_at_call 116; refine (unhide HN).mono ?_; rintro e w1 ⟨rfl, hb1⟩) | (go_at_call 117; refine (unhide HF _ ((unhide HE).on hB hb1) (Nat.le_trans hB hb1.size)).mono ?_; rintro e w2 ⟨rfl, hb2⟩))
    go_ret
    exact ⟨ret_bool (by rw [unhide HD, unhide HL, Bool.true_and]), Below.then hb1 hb2⟩
set_option maxHeartbeats 1000000 in
theorem isComment_any (s : ByteArray) (w : World) (hs : s.size ≤ 1048576) (B : Nat) (hB : B ≤ w.heap.size) (hE : XEnv B w) :
    Calls Tryz.prog 80 #[.string s] w fun e w' => e = .returned (.bool (comB s)) ∧ Below w.heap.size w w' := by
  have HE := hide hE
  have HT := hide (isText_any s w)
  have HX := hide (fun W => Tryz.strings_HasSuffix s ⟨#[45]⟩ W (by omega))
  have HD : Hid (comB s = (textB s && (!Lib.contains s.data.toList [45, 45] && !Lib.hasSuffix s.data.toList [45]))) := hide rfl
  have hcd : ∃ b, Lib.contains s.data.toList (⟨#[45, 45]⟩ : ByteArray).data.toList = b := ⟨_, rfl⟩
  obtain ⟨b, hc⟩ := hcd
  have HC := hide hc
  have HD2 : Hid (comB s = (textB s && (!b && !Lib.hasSuffix s.data.toList [45]))) := hide (by rw [← hc]; rfl)
  clear hE hc HD
  go_enter Tryz.func80, Tryz.ntmps80
  go_wp2_with fail
  refine (unhide HT).mono ?_
  rintro e w1 ⟨rfl, hb1⟩
  obtain ⟨m, hm⟩ := ((unhide HE).on hB hb1).env.1
  have HM := hide hm
  clear hm
  cases ht : textB s
  · rw [ht] at HD2
    clear ht
    go_wp2
    go_ret
    exact ⟨ret_bool (by rw [unhide HD2]; rfl), hb1⟩
  · rw [ht] at HD2
    clear ht
    go_wp2_with fail
    refine (Tryz.strings_Contains s ⟨#[45, 45]⟩ m _ (by omega) (unhide HM)).mono ?_
    rintro e w2 ⟨rfl, rfl⟩
    rw [unhide HC]
    cases b
    · go_wp2_with fail
      refine (unhide HX _).mono ?_
      rintro e w2 ⟨rfl, rfl⟩
      go_wp2
      go_ret
      exact ⟨ret_bool (by rw [unhide HD2]; rfl), hb1⟩
    · go_wp2
      go_ret
      exact ⟨ret_bool (by rw [unhide HD2]; rfl), hb1⟩
set_option maxHeartbeats 1000000 in
theorem isInstruction_any (s : ByteArray) (w : World) (hs : s.size ≤ 1048576) (B : Nat) (hB : B ≤ w.heap.size) (hE : XEnv B w) :
    Calls Tryz.prog 82 #[.string s] w fun e w' => e = .returned (.bool (insB s)) ∧ Below w.heap.size w w' := by
  have HE := hide hE
  have HT := hide (isText_any s w)
  have HX := hide (fun W => Tryz.strings_TrimLeftFunc_runes 65 #[] isBlank_enters blankN s W (isBlank_runes _))
  have hcd : ∃ b, Lib.contains s.data.toList (⟨#[63, 62]⟩ : ByteArray).data.toList = b := ⟨_, rfl⟩
  obtain ⟨b, hc⟩ := hcd
  have HC := hide hc
  have HD2 : Hid (insB s = (textB s && (!b && ((Lib.trimLeftF blankN s).toList == s.toList)))) := hide (by rw [← hc]; rfl)
  clear hE hc
  go_enter Tryz.func82, Tryz.ntmps82
  go_wp2_with fail
  refine (unhide HT).mono ?_
  rintro e w1 ⟨rfl, hb1⟩
  obtain ⟨m, hm⟩ := ((unhide HE).on hB hb1).env.1
  have HM := hide hm
  clear hm
  cases ht : textB s
  · rw [ht] at HD2
    clear ht
    go_wp2
    go_ret
    exact ⟨ret_bool (by rw [unhide HD2]; rfl), hb1⟩
  · rw [ht] at HD2
    clear ht
    go_wp2_with fail
    refine (Tryz.strings_Contains s ⟨#[63, 62]⟩ m _ (by omega) (unhide HM)).mono ?_
    rintro e w2 ⟨rfl, rfl⟩
    rw [unhide HC]
    cases b
    · go_wp2_with fail
      refine (unhide HX _).mono ?_
      rintro e w2 ⟨rfl, hb2⟩
      generalize Lib.trimLeftF blankN s = u at *
      go_wp2
      go_ret
      exact ⟨ret_bool (by rw [unhide HD2]; rfl), Below.then hb1 hb2⟩
    · go_wp2
      go_ret
      exact ⟨ret_bool (by rw [unhide HD2]; rfl), hb1⟩
end Go.Proofs.YtiembljlhmgpjaaGreatDoor
/- Tokens in bytes: which are a document's, and what they are as a text. -/
namespace Go.Proofs.YtiembljlhmgpjaaGreatDoor
def attrsB : List (List UInt8) → List (ByteArray × ByteArray) → Bool
  | _, [] => true
  | seen, x :: l => !seen.contains x.1.data.toList && (qB x.1 && (textB x.2 && attrsB (seen ++ [x.1.data.toList]) l))
/-- May it stand in some document? -/
def okB (t : BTok) : Bool :=
  if t.kind = 2 then t.text.toList.isEmpty && (qB t.name && attrsB [] t.attrs) else
  if t.kind = 7 then t.text.toList.isEmpty && (t.attrs.isEmpty && qB t.name) else
  if t.kind = 4 then t.name.toList.isEmpty && (t.attrs.isEmpty && (!t.text.toList.isEmpty && textB t.text)) else
  if t.kind = 5 then t.name.toList.isEmpty && (t.attrs.isEmpty && comB t.text) else
  if t.kind = 6 then t.attrs.isEmpty && (tarB t.name && insB t.text) else false
/-- What stands open behind a token, and whether there was an element; none: it may not stand there. -/
def docStp (o : List ByteArray) (r : Bool) (last : Int) (t : BTok) : Option (List ByteArray × Bool) :=
  if t.kind = 2 then (if o.isEmpty && r then none else some (o ++ [t.name], true)) else
  if t.kind = 7 then (match o.getLast? with
    | none => none
    | some x => if x.toList == t.name.toList then some (o.dropLast, r) else none) else
  if t.kind = 4 then (if o.isEmpty || last == 4 then none else some (o, r)) else some (o, r)
def docB : List ByteArray → Bool → Int → List BTok → Bool
  | o, r, _, [] => r && o.isEmpty
  | o, r, last, t :: ts => okB t && (match docStp o r last t with
    | none => false
    | some x => docB x.1 x.2 t.kind ts)
def deepGo : Int → Int → List BTok → Int
  | _, m, [] => m
  | d, m, t :: ts => if t.kind = 2 then deepGo (d + 1) (max m (d + 1)) ts else if t.kind = 7 then deepGo (d - 1) m ts else deepGo d m ts
def pastB (ts : List BTok) : Bool := decide (4096 < ts.length) || (decide (32 < deepGo 0 0 ts) || ts.any fun t => decide (64 < t.attrs.length))
def attrB (x : ByteArray × ByteArray) : List UInt8 := 32 :: (x.1.data.toList ++ 61 :: 34 :: (mapO quoO x.2.data.toList ++ [34]))
def tokB (t : BTok) : List UInt8 :=
  if t.kind = 2 then 60 :: (t.name.data.toList ++ (t.attrs.flatMap attrB ++ [62])) else
  if t.kind = 7 then 60 :: 47 :: (t.name.data.toList ++ [62]) else
  if t.kind = 4 then mapO escO t.text.data.toList else
  if t.kind = 5 then 60 :: 33 :: 45 :: 45 :: (t.text.data.toList ++ [45, 45, 62]) else
  if t.kind = 6 then 60 :: 63 :: (t.name.data.toList ++ ((if t.text.toList.isEmpty then [] else 32 :: t.text.data.toList) ++ [63, 62])) else []
def writeB (ts : List BTok) : List UInt8 := ts.flatMap tokB
/-- What Write tells: an error's number, or a text. -/
def writeR (ts : List BTok) : ByteArray × Nat :=
  if docB [] false 0 ts = false then (⟨#[]⟩, 5) else if pastB ts = true then (⟨#[]⟩, 6) else if 32768 < (writeB ts).length then (⟨#[]⟩, 6) else (⟨(writeB ts).toArray⟩, 0)
end Go.Proofs.YtiembljlhmgpjaaGreatDoor
