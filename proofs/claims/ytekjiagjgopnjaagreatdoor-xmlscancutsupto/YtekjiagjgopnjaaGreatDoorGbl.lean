/- Several texts, laid as one. -/
import Derived.Test.YtekjiagjgopnjaaGreatDoorGbj
import Derived.Test.YtekjiagjgopnjaaGreatDoorXmlWrQ
import Derived.Test.YtekjiagjgopnjaaGreatDoorGal
import Derived.Test.YtekjiagjgopnjaaGreatDoorXmlDoc
/- A text that is cut short: what the reader's parts tell of it, in plain terms. -/
namespace Go.Proofs.YtekjiagjgopnjaaGreatDoor
def Is5 {α : Type} (o : Except Er α) : Prop := ∃ pl, o = .error (5, pl)
/-- The entities are the same, and what lies ahead lay ahead. -/
def Sub (s s' : RS) : Prop := s'.ents = s.ents ∧ ∀ c ∈ s'.rest, c ∈ s.rest
theorem Sub.then {a b c : RS} (h : Sub a b) (g : Sub b c) : Sub a c := ⟨g.1.trans h.1, fun x hx => h.2 x (g.2 x hx)⟩
theorem Adv.sub {s s' : RS} (h : Adv s s') : Sub s s' := by
  obtain ⟨k, rfl⟩ := h
  exact ⟨rfl, fun c hc => List.mem_of_mem_drop hc⟩
theorem ref_sub {s s2 : RS} {flat : Bool} {t : List Nat} (h : s.reference flat = .ok (t, s2)) : Sub s s2 := by
  unfold RS.reference at h
  split at h
  · cases h
  · split at h
    · cases h
    · cases h
      exact ⟨rfl, fun c hc => List.mem_of_mem_drop hc⟩
theorem ref_five {s : RS} {flat : Bool} {x : Er} (he : s.ents = []) (h : s.reference flat = .error x) : Is5 (s.reference flat) := by
  unfold RS.reference at h ⊢
  split at h
  · exact ⟨_, rfl⟩
  · rename_i r hr
    split at h
    · rename_i e ha
      cases h
      rw [he] at ha
      rw [addX] at ha
      split at ha
      · unfold spendX at ha
        rw [if_pos rfl] at ha
        cases ha
      · cases ha
        exact ⟨_, rfl⟩
    · cases h
theorem value_sub (q tag : Nat) : ∀ (f : Nat) (s s' : RS) (t v : List Nat), RS.valueGo q tag f s t = .ok (v, s') → Sub s s'
  | 0, s, s', t, v, h => by cases h
  | f + 1, s, s', t, v, h => by
    rw [valueGo_eq] at h
    split at h
    · cases h
      exact ((Adv.by s _).then (Adv.by _ 1)).sub
    · split at h
      · split at h
        · cases h
        · rename_i u s2 hr
          exact ((Adv.by s _).sub.then (ref_sub hr)).then (value_sub q tag f s2 s' _ v h)
      · cases h
theorem value_five (q tag : Nat) : ∀ (f : Nat) (s : RS) (t : List Nat) (x : Er), s.ents = [] → RS.valueGo q tag f s t = .error x → x.1 = 5
  | 0, s, t, x, _, h => by cases h; rfl
  | f + 1, s, t, x, he, h => by
    rw [valueGo_eq] at h
    split at h
    · cases h
    · split at h
      · split at h
        · rename_i e hr
          cases h
          obtain ⟨pl, h5⟩ := ref_five (s := s.adv (s.rest.takeWhile (plainC q)).length) he hr
          rw [hr] at h5
          cases h5
          rfl
        · rename_i u s2 hr
          exact value_five q tag f s2 _ x ((ref_sub hr).1.trans he) h
      · cases h; rfl
/-- A value without its sign's end is none. -/
theorem value_open (q tag : Nat) : ∀ (f : Nat) (s : RS) (t : List Nat), s.ents = [] → q ∉ s.rest → Is5 (RS.valueGo q tag f s t)
  | 0, s, t, _, _ => ⟨_, rfl⟩
  | f + 1, s, t, he, hq => by
    rw [valueGo_eq]
    have h1 : Sub s (s.adv (s.rest.takeWhile (plainC q)).length) := (Adv.by s _).sub
    generalize s.adv (s.rest.takeWhile (plainC q)).length = s1 at *
    have hq1 : q ∉ s1.rest := fun h => hq (h1.2 q h)
    split
    · rename_i hh
      exact absurd (by rw [heads_true hh]; simp) hq1
    · split
      · split
        · rename_i e hr
          obtain ⟨pl, h5⟩ := ref_five (h1.1.trans he) hr
          rw [hr] at h5
          cases h5
          exact ⟨_, rfl⟩
        · rename_i u s2 hr
          have h2 := h1.then (ref_sub hr)
          exact value_open q tag f s2 _ (h2.1.trans he) (fun h => hq (h2.2 q h))
      · exact ⟨_, rfl⟩
theorem attrs_sub (tag : Nat) : ∀ (f : Nat) (s s' : RS) (acc a : List (List Nat × List Nat)), RS.attrsGo tag f s acc = .ok (a, s') → Sub s s'
  | 0, s, s', acc, a, h => by cases h
  | f + 1, s, s', acc, a, h => by
    rw [attrsGo_eq] at h
    split at h
    · cases h
      exact (Adv.blanks s).sub
    · split at h
      · cases h
      · split at h
        · cases h
        · rename_i s3 heq
          have ha3 : Adv s s3 := ((Adv.blanks s).then (Adv.qname _)).then (Adv.equals heq)
          split at h
          · cases h
          · rename_i v s4 hv
            have hv4 : Sub s3 s4 := by
              unfold RS.value at hv
              split at hv
              · cases hv
              · rename_i q s5 hq
                exact (Adv.quote hq).sub.then (value_sub q tag _ s5 s4 [] v hv)
            exact (ha3.sub.then hv4).then (attrs_sub tag f s4 s' _ a h)
theorem attrs_five (tag : Nat) : ∀ (f : Nat) (s : RS) (acc : List (List Nat × List Nat)) (x : Er), s.ents = [] → RS.attrsGo tag f s acc = .error x → x.1 = 5
  | 0, s, acc, x, _, h => by cases h; rfl
  | f + 1, s, acc, x, he, h => by
    rw [attrsGo_eq] at h
    split at h
    · cases h
    · split at h
      · cases h; rfl
      · split at h
        · cases h; rfl
        · rename_i s3 heq
          have ha3 : Adv s s3 := ((Adv.blanks s).then (Adv.qname _)).then (Adv.equals heq)
          have he3 := ha3.sub.1.trans he
          split at h
          · rename_i e hv
            cases h
            unfold RS.value at hv
            split at hv
            · cases hv; rfl
            · rename_i q s5 hq
              exact value_five q tag _ s5 [] _ ((Adv.quote hq).sub.1.trans he3) hv
          · rename_i v s4 hv
            have hv4 : Sub s3 s4 := by
              unfold RS.value at hv
              split at hv
              · cases hv
              · rename_i q s5 hq
                exact (Adv.quote hq).sub.then (value_sub q tag _ s5 s4 [] v hv)
            exact attrs_five tag f s4 _ x (hv4.1.trans he3) h
/-- A tag's attributes that are cut short: an error, or no end of the tag lies ahead. -/
def AOk (o : Except Er (List (List Nat × List Nat) × RS)) : Prop := Is5 o ∨ ∃ a s', o = .ok (a, s') ∧ 62 ∉ s'.rest
theorem attrs_no62 (tag f : Nat) (s : RS) (acc : List (List Nat × List Nat)) (he : s.ents = []) (h : 62 ∉ s.rest) : AOk (RS.attrsGo tag f s acc) := by
  cases ho : RS.attrsGo tag f s acc with
  | error x =>
    have := attrs_five tag f s acc x he ho
    obtain ⟨a, b⟩ := x
    simp only at this
    subst this
    exact .inl ⟨b, rfl⟩
  | ok y =>
    obtain ⟨a, s'⟩ := y
    exact .inr ⟨a, s', rfl, fun hm => h ((attrs_sub tag f s s' acc a ho).2 62 hm)⟩
theorem take_sub (s : RS) (a : List Nat) : Sub s (s.take a) := (Adv.take s a).sub
theorem start_of {s : RS} (h : ∀ tag, qnameA (s.take [60]).rest ≠ [] → AOk ((s.take [60]).qname.attributes tag)) : Is5 s.startTag := by
  rw [startTag_eq]
  split
  · exact ⟨_, rfl⟩
  · rename_i hq
    rcases h s.place hq with ⟨pl, h1⟩ | ⟨a, s', h1, h2⟩
    · rw [h1]; exact ⟨_, rfl⟩
    · rw [h1]
      have h3 : heads 62 (s'.take [47]).rest = false := by
        cases hh : heads 62 (s'.take [47]).rest
        · rfl
        · exact absurd ((take_sub s' [47]).2 62 (by rw [heads_true hh]; simp)) h2
      simp only
      rw [h3, Bool.not_false, if_pos rfl]
      exact ⟨_, rfl⟩
theorem start_no62 {s : RS} (he : s.ents = []) (h : 62 ∉ s.rest) : Is5 s.startTag := by
  refine start_of fun tag _ => ?_
  have hs := (take_sub s [60]).then (Adv.qname (s.take [60])).sub
  exact attrs_no62 tag _ _ [] (hs.1.trans he) (fun hm => h (hs.2 62 hm))
theorem end_no62 {s : RS} (h : 62 ∉ s.rest) : Is5 s.endTag := by
  rw [endTag_eq]
  split
  · rename_i hc
    have ha := (((Adv.take s [60, 47]).then (Adv.qname _)).then (Adv.blanks _)).sub
    exact absurd (ha.2 62 (by rw [heads_true hc.2]; simp)) h
  · exact ⟨_, rfl⟩
theorem mem_cut {sign : List Nat} : ∀ {l x y : List Nat}, cutL sign l = some (x, y) → ∀ c ∈ sign, c ∈ l
  | [], x, y, h => by cases h
  | d :: t, x, y, h => by
    rw [cutL] at h
    split at h
    · rename_i hp
      exact fun c hc => (List.isPrefixOf_iff_prefix.1 hp).subset hc
    · cases hc : cutL sign t with
      | none => rw [hc] at h; cases h
      | some z =>
        obtain ⟨x', y'⟩ := z
        exact fun c hm => List.mem_cons_of_mem _ (mem_cut hc c hm)
theorem comment_none {s : RS} (h : s.comment = none) : Is5 s.tellComment := by
  unfold RS.tellComment
  rw [h]
  exact ⟨_, rfl⟩
theorem instr_none {s : RS} (h : s.instruction = none) : Is5 s.tellInstruction := by
  unfold RS.tellInstruction
  rw [h]
  exact ⟨_, rfl⟩
theorem comment_no62 {s : RS} (h : 62 ∉ s.rest) : s.comment = none := by
  rw [comment_eq]
  split
  · rfl
  · rename_i t s1 ht
    have hs := (take_sub s [60, 33, 45, 45]).then (Adv.takeTo ht).1.sub
    split
    · rename_i hh
      exact absurd (hs.2 62 (by rw [heads_true hh]; simp)) h
    · rfl
theorem instr_no62 {s : RS} (h : 62 ∉ s.rest) : s.instruction = none := by
  have hs := (take_sub s [60, 63]).then (Adv.name (s.take [60, 63])).sub
  rw [instruction_eq]
  split
  · rfl
  · split
    · rename_i h1
      exact absurd (hs.2 62 ((List.isPrefixOf_iff_prefix.1 h1).subset (by simp))) h
    · split
      · rfl
      · cases hx : (s.take [60, 63]).name.blanks.takeTo [63, 62] with
        | none => rfl
        | some z =>
          obtain ⟨u, s1⟩ := z
          obtain ⟨_, y, hc, _⟩ := Adv.takeTo hx
          exact absurd (hs.2 62 ((Adv.blanks _).sub.2 62 (mem_cut hc 62 (by simp)))) h
/-- What is cut ahead of any > is none. -/
theorem one_no62 {s : RS} {t : List Nat} (he : s.ents = []) (hr : s.rest = 60 :: t) (h : 62 ∉ s.rest) : Is5 s.contentOne := by
  unfold RS.contentOne
  split
  · exact end_no62 h
  · split
    · exact comment_none (comment_no62 h)
    · split
      · unfold RS.section'
        split
        · exact ⟨_, rfl⟩
        · rename_i u s1 hu
          obtain ⟨_, y, hc, _⟩ := Adv.takeTo hu
          exact absurd ((take_sub s _).2 62 (mem_cut hc 62 (by simp))) h
      · split
        · exact instr_none (instr_no62 h)
        · split
          · exact start_no62 he h
          · rename_i h1
            exact absurd (by unfold RS.sees; rw [hr]; simp [List.isPrefixOf]) h1
theorem ref_size {l : List Nat} {r : Ref} (h : readRef l = some r) : 1 ≤ r.size := by
  unfold readRef at h
  split at h
  · unfold readNum at h
    obtain ⟨x, _, rfl⟩ := Option.map_eq_some_iff.1 h
    show 1 ≤ 3 + x.2
    omega
  · split at h
    · unfold readNum at h
      obtain ⟨x, _, rfl⟩ := Option.map_eq_some_iff.1 h
      show 1 ≤ 2 + x.2
      omega
    · simp only at h
      split at h
      · cases h
        show 1 ≤ (nameA (l.drop 1)).length + 2
        omega
      · cases h
/-- A text that nothing follows is none. -/
theorem plain_cut : ∀ (f : Nat) (s : RS), s.rest.length < f → s.ents = [] → s.opn ≠ [] → s.toks.length < 4096 → (∀ c ∈ s.rest, c ≠ 60 ∧ c ≠ 62) → Is5 (RS.content f s)
  | 0, s, h, _, _, _, _ => absurd h (Nat.not_lt_zero _)
  | f + 1, s, hf, he, ho, ht, hc => by
    have hroom : ∀ s' : RS, s'.toks = s.toks → s'.room = .ok s' := fun s' h' => by
      unfold RS.room
      rw [if_neg (by rw [h']; intro hx; omega)]
    have hsee : ∀ x, s.sees (60 :: x) = false := fun x => by
      cases hh : s.sees (60 :: x)
      · rfl
      · exact absurd rfl (hc 60 ((List.isPrefixOf_iff_prefix.1 hh).subset (by simp))).1
    have hgo : ∀ s1, s.contentOne = .ok s1 → RS.content (f + 1) s = RS.content f s1 := fun s1 h1 => by rw [RS.content, if_neg ho, h1]
    have hbad : Is5 s.contentOne → Is5 (RS.content (f + 1) s) := fun ⟨pl, h1⟩ => by rw [RS.content, if_neg ho, h1]; exact ⟨_, rfl⟩
    have e : s.contentOne = if s.sees [38] then s.refRun else if s.rest ≠ [] ∧ s.sees [93, 93, 62] = false then s.plain else .error (5, s.place) := by
      unfold RS.contentOne
      rw [hsee, hsee, hsee, hsee, hsee]
      rfl
    by_cases h38 : s.sees [38] = true
    · rw [if_pos h38] at e
      cases hr : s.reference false with
      | error x =>
        obtain ⟨pl, h5⟩ := ref_five he hr
        refine hbad ⟨pl, ?_⟩
        rw [e]
        unfold RS.refRun
        rw [h5]
      | ok y =>
        obtain ⟨t, s1⟩ := y
        have hne : s.rest ≠ [] := fun h0 => by
          unfold RS.sees at h38
          rw [h0] at h38
          cases h38
        have hsub := ref_sub hr
        have hk : ∃ k n, 1 ≤ k ∧ s1 = { s.adv k with spent := n } := by
          unfold RS.reference at hr
          split at hr
          · cases hr
          · rename_i r hrr
            split at hr
            · cases hr
            · cases hr
              exact ⟨r.size, _, ref_size hrr, rfl⟩
        obtain ⟨k, n, hk1, rfl⟩ := hk
        have h1 : s.contentOne = .ok { ({ s.adv k with spent := n } : RS) with run := s.run ++ t } := by
          rw [e]
          unfold RS.refRun
          rw [hr]
          exact hroom _ rfl
        rw [hgo _ h1]
        refine plain_cut f _ ?_ he ho ht (fun c hm => hc c (hsub.2 c hm))
        show (s.rest.drop k).length < f
        have := List.length_pos_iff.2 hne
        rw [List.length_drop]
        omega
    · have h38' : s.sees [38] = false := by simpa using h38
      rw [if_neg h38] at e
      by_cases hp : s.rest ≠ [] ∧ s.sees [93, 93, 62] = false
      · rw [if_pos hp] at e
        have hpos := plain_pos hp.1 (hsee []) h38' hp.2
        have h1 : s.contentOne = .ok { s.adv (plainA s.rest).length with run := s.run ++ plainA s.rest } := by
          rw [e]
          exact hroom _ rfl
        rw [hgo _ h1]
        refine plain_cut f _ ?_ he ho ht (fun c hm => hc c (List.mem_of_mem_drop hm))
        show (s.rest.drop (plainA s.rest).length).length < f
        have := List.length_pos_iff.2 hp.1
        rw [List.length_drop]
        omega
      · rw [if_neg hp] at e
        exact hbad ⟨_, e⟩
end Go.Proofs.YtekjiagjgopnjaaGreatDoor
/- The first character that may not be: xmlscan's firstBad. -/
namespace Go.Proofs.YtekjiagjgopnjaaGreatDoor
open Go.RowKit
theorem txt_app {a b : List UInt8} (ha : Txt a) (hb : Txt b) : Txt (a ++ b) := by
  obtain ⟨r, h1, rfl⟩ := ha
  obtain ⟨t, h2, rfl⟩ := hb
  refine ⟨r ++ t, fun c hc => ?_, by rw [List.flatMap_append]⟩
  rcases List.mem_append.1 hc with h | h
  · exact h1 c h
  · exact h2 c h
theorem textB_txt (s : ByteArray) : textB s = true ↔ Txt s.data.toList := by
  have h := fault_txt s (s.size + 1) 0 (by omega)
  unfold textB
  rw [List.drop_zero] at h
  constructor
  · intro e
    exact h.1 (by simpa [fault] using e)
  · intro e
    have := h.2 e
    simpa [fault] using this
/-- Where a text goes on: its next character is decoded as it is. -/
theorem txt_step (s : ByteArray) (pos : Nat) (hp : pos < s.size) (h1 : Txt (s.data.toList.take pos)) (h2 : Txt (s.data.toList.drop pos)) :
    Txt ((s.data.toList.drop pos).take (Utf8.decode s pos).2) ∧ Txt (s.data.toList.drop (pos + (Utf8.decode s pos).2)) := by
  obtain ⟨p, hp1, hp2⟩ := h1
  obtain ⟨q, hq1, hq2⟩ := h2
  have hsz : s.data.toList.length = s.size := rfl
  cases q with
  | nil =>
    have := congrArg List.length hq2
    simp at this
    omega
  | cons c t =>
    have e : s.data.toList = tx (p ++ c :: t) := by
      rw [tx_append, ← List.take_append_drop pos s.data.toList, hp2, hq2]
      rfl
    have es : s = T (p ++ c :: t) := by
      apply ByteArray.ext
      apply Array.toList_inj.1
      rw [e, T_data]
    have hpl : (tx p).length = pos := by
      have := congrArg List.length hp2
      rw [List.length_take, Nat.min_eq_left (by omega)] at this
      exact this.symm
    have hd := (dec_T p c t (hq1 c (List.mem_cons_self ..))).1
    rw [← es, hpl] at hd
    rw [hd]
    have e2 : s.data.toList.drop pos = runeB c ++ tx t := by rw [hq2]; rfl
    refine ⟨?_, ?_⟩
    · rw [e2, List.take_left]
      exact ⟨[c], fun x hx => by rw [List.mem_singleton.1 hx]; exact hq1 c (List.mem_cons_self ..), by simp⟩
    · rw [← List.drop_drop, e2, List.drop_left]
      exact ⟨t, fun x hx => hq1 x (List.mem_cons_of_mem _ hx), rfl⟩
theorem piece_data (s : ByteArray) (a b : Nat) : (s.extract a (a + b)).data.toList = (s.data.toList.drop a).take b := by
  rw [ByteArray.data_extract, Array.toList_extract, List.extract_eq_take_drop]
  congr 1
  omega
/-- What firstBad tells: no place of a text, some place of what is none. -/
def badP (s : ByteArray) (e : Ending) : Prop := (Txt s.data.toList ∧ e = .returned (.tuple #[.int .i64 0, .bool false])) ∨ (¬ Txt s.data.toList ∧ ∃ at' : Nat, at' < s.size ∧ e = .returned (.tuple #[.int .i64 (at' : Nat), .bool true]))
set_option maxHeartbeats 1000000 in
theorem firstBad_any (s : ByteArray) (w : World) (hs : s.size ≤ 32768) (hE : Env w) :
    Calls Tryz.prog 10 #[.string s] w fun e w' => badP s e ∧ Below w.heap.size w w' := by
  have HE := hide hE
  clear hE
  go_enter Tryz.func10, Tryz.ntmps10
  go_wp2_with fail
  go_loopw [4, 5, 6] (fun _ _ _ wr => ∃ pos : Nat, pos ≤ s.size ∧ Txt (s.data.toList.take pos) ∧ (Txt s.data.toList → Txt (s.data.toList.drop pos)) ∧ wr.heap[w.heap.size]? = some (.stringIter s pos) ∧ Below w.heap.size w wr) (fun _ _ _ wr => s.size - wr.iterPos w.heap.size)
  case atStart =>
    refine ⟨0, Nat.zero_le _, ⟨[], (fun _ h => by cases h), rfl⟩, fun h => h, ?_, ?_⟩
    · exact World.iter_heap w s 0
    · exact (Below.refl _ _).alloc (Nat.le_refl _) _
  case round =>
    obtain ⟨pos, hps, h1, h2, hk, hbr⟩ := hrel
    by_cases hp : pos < s.size
    · have hwd := width_pos s pos hp
      obtain ⟨_, _, hwe⟩ := decode_bytes s pos hp
      have hnx := fun ty => Lib.run_next_any_at (P := Tryz.prog) wr w.heap.size s pos ty hk hp
      have HK := hide hk
      have hbl : w.heap.size < wr.heap.size := (Array.getElem?_eq_some_iff.1 hk).1
      have HST := hide (fun h => txt_step s pos hp h1 (h2 h))
      have HT := hide h1
      have HD := hide (decodeRune_at s pos)
      generalize hd : Utf8.decode s pos = d at *
      have hbI : Below w.heap.size w (wr.iterAt w.heap.size s (pos + d.2)) := Lib.below_iterAt hbr (by omega) _ _
      have hszI : w.heap.size ≤ (wr.iterAt w.heap.size s (pos + d.2)).heap.size := by rw [Lib.iterAt_size]; omega
      have HKI : Hid ((wr.iterAt w.heap.size s (pos + d.2)).heap[w.heap.size]? = some (.stringIter s (pos + d.2))) := hide (Lib.iterAt_heap wr _ _ _ _ (unhide HK))
      have hw1 : wrap64 ((pos : Int) + (d.2 : Int)) = ((pos + d.2 : Nat) : Int) := by unfold wrap64; omega
      have HPD := hide (piece_data s pos d.2)
      clear hd hk h1 h2
      go_wp2_with fail
      refine (unhide HD _ hp ((unhide HE).below hbI)).mono ?_
      rintro e w1 ⟨rfl, hb1⟩
      go_wp2_with fail
      refine (isText_any _ _).mono ?_
      rintro e w2 ⟨rfl, hb2⟩
      have hb12 : Below w.heap.size w w2 := (hbI.trans (hb1.mono hszI)).trans (hb2.mono (Nat.le_trans hszI hb1.size))
      have hbw2 := hb1.trans (hb2.mono hb1.size)
      have HTB := hide (textB_txt (s.extract pos (pos + d.2)))
      rw [unhide HPD] at HTB
      cases htb : textB (s.extract pos (pos + d.2))
      · have HN : Hid (¬ Txt s.data.toList) := hide (fun h => by
          have := (unhide HTB).2 (unhide HST h).1
          rw [htb] at this
          cases this)
        go_wp2
        go_ret2
        exact ⟨.inr ⟨unhide HN, pos, hp, rfl⟩, hb12⟩
      · have HTT : Hid (Txt (s.data.toList.take (pos + d.2))) := hide (by
          have h := txt_app (unhide HT) ((unhide HTB).1 htb)
          rwa [← List.take_add] at h)
        go_wp2
        refine ⟨⟨pos + d.2, hwe, unhide HTT, fun h => (unhide HST h).2, block_below (unhide HKI) hbw2, hb12⟩, ?_⟩
        rw [iterPos_of (block_below (unhide HKI) hbw2), iterPos_of (unhide HK)]
        omega
    · have hnx := fun ty => Lib.run_next_end_at (P := Tryz.prog) wr w.heap.size s pos ty hk hp
      have HA : Hid (Txt s.data.toList) := by
        rw [List.take_of_length_le (show s.data.toList.length ≤ pos by show s.size ≤ pos; omega)] at h1
        exact hide h1
      clear hk h1 h2
      go_wp2
      go_ret2
      exact ⟨.inl ⟨unhide HA, rfl⟩, hbr⟩
end Go.Proofs.YtekjiagjgopnjaaGreatDoor
/- A text's tokens: xmlscan's Scan. -/
namespace Go.Proofs.YtekjiagjgopnjaaGreatDoor
open Go.RowKit
/-- What Scan tells. -/
def scanP (o : Except Er (List XTok)) (B : Nat) (e : Ending) (w' : World) : Prop := match o with
  | .error x => e = .returned (.tuple #[.slice none 0 0, .int .i64 (x.1 : Nat), .int .i64 (x.2 : Nat)])
  | .ok ts => ∃ vt, e = .returned (.tuple #[vt, .int .i64 0, .int .i64 0]) ∧ Toks w' B vt ts
theorem scan_long (s : ByteArray) (w : World) (hs : 32768 < s.size) :
    Calls Tryz.prog 5 #[.string s] w fun e w' => e = .returned (.tuple #[.slice none 0 0, .int .i64 6, .int .i64 0]) ∧ w' = w := by
  have h1 : decide ((32768 : Int) < (s.size : Int)) = true := decide_eq_true (by omega)
  clear hs
  go_enter Tryz.func5, Tryz.ntmps5
  go_wp2
  go_ret3
  exact ⟨rfl, rfl⟩
theorem scan_bad (s : ByteArray) (w : World) (hs : s.size ≤ 32768) (hE : Env w) (hT : ¬ Txt s.data.toList) :
    Calls Tryz.prog 5 #[.string s] w fun e w' => (∃ at' : Nat, at' < s.size ∧ e = .returned (.tuple #[.slice none 0 0, .int .i64 4, .int .i64 (at' : Nat)])) ∧ Below w.heap.size w w' := by
  have h1 : decide ((32768 : Int) < (s.size : Int)) = false := decide_eq_false (by omega)
  have HB := hide (firstBad_any s w hs hE)
  clear hs
  go_enter Tryz.func5, Tryz.ntmps5
  go_wp2_with fail
  refine (unhide HB).mono ?_
  rintro e w1 ⟨hbad, hb1⟩
  rcases hbad with ⟨h, _⟩ | ⟨_, at', hat, rfl⟩
  · exact absurd h hT
  · go_wp2
    go_ret3
    exact ⟨⟨at', hat, rfl⟩, hb1⟩
theorem start_good {cs : List Nat} (hl : okL cs) (hs : (T cs).size ≤ 32768) : Good (RS.start cs) ∧ OpnOk (RS.start cs) := by
  refine ⟨⟨⟨hl, hs⟩, Nat.zero_le _, fun h => absurd rfl h, ?_, Nat.zero_le _, Nat.zero_le _⟩, ?_, Nat.zero_le _⟩
  · intro c hc
    cases hc
  · intro x hx
    cases hx
theorem start_rd (cs : List Nat) (w : World) (B p m : Nat) (hB : B ≤ p) (hm : B ≤ m) (hp : w.heap[p]? = some (.cells (rdArr (RS.start cs) m (.slice none 0 0) (.slice none 0 0) (.slice none 0 0)) 43 (0, 0)))
    (hmm : w.heap[m]? = some (.map #[] 0)) : Rd w B p m (.slice none 0 0) (.slice none 0 0) (.slice none 0 0) (RS.start cs) := by
  refine ⟨hp, hB, ⟨hm, (fun _ h => by cases h), ?_⟩, World.ownsRow_nil _ _ _ _, ⟨[], rfl, World.ownsRow_nil _ _ _ _, (fun i t v h => by cases i <;> cases h)⟩, World.ownsRow_nil _ _ _ _⟩
  exact ⟨#[], 0, hmm, ⟨by simp, Go.MapKept.stamped_empty 0, by simp⟩, Nat.le_refl _, rfl⟩
set_option maxRecDepth 100000 in
set_option maxHeartbeats 4000000 in
theorem scan_any (cs : List Nat) (w : World) (hl : okL cs) (hs : (T cs).size ≤ 32768) (hE : XEnv w.heap.size w) :
    Calls Tryz.prog 5 #[.string (T cs)] w fun e w' => scanP (scanX cs) w.heap.size e w' ∧ Below w.heap.size w w' := by
  have h1 : decide ((32768 : Int) < ((T cs).size : Int)) = false := decide_eq_false (by omega)
  have HB := hide (firstBad_any (T cs) w hs hE.env)
  have HTX := hide (T_txt hl)
  obtain ⟨hG, hO⟩ := start_good hl hs
  have hmk : ∀ W : World, (Instr.makeMap 39 none).run Tryz.prog W = .ok (.map (some W.heap.size)) (W.alloc (.map #[] 0)) := fun W => rfl
  go_enter Tryz.func5, Tryz.ntmps5
  go_wp2_with fail
  refine (unhide HB).mono ?_
  rintro e w1 ⟨hbad, hb1⟩
  rcases hbad with ⟨_, rfl⟩ | ⟨h, _⟩
  · go_wp2_with fail
    have hbA : Below w1.heap.size w1 ((w1.alloc (.map #[] 0)).alloc (.cells #[.string (T cs), .int .i64 0, .map (some w1.heap.size), .int .i64 0, .slice none 0 0, .slice none 0 0, .slice none 0 0, .int .i64 0, .int .i64 0, .int .i64 0] 43)) := ((Below.refl _ _).alloc (Nat.le_refl _) _).alloc (by simp) _
    have hsz1 := hb1.size
    have hR : Rd ((w1.alloc (.map #[] 0)).alloc (.cells #[.string (T cs), .int .i64 0, .map (some w1.heap.size), .int .i64 0, .slice none 0 0, .slice none 0 0, .slice none 0 0, .int .i64 0, .int .i64 0, .int .i64 0] 43)) w.heap.size (w1.heap.size + 1) w1.heap.size (.slice none 0 0) (.slice none 0 0) (.slice none 0 0) (RS.start cs) := by
      refine start_rd cs _ _ _ _ (by omega) (by omega) ?_ ?_
      · show ((w1.heap.push _).push _)[w1.heap.size + 1]? = _
        rw [Array.getElem?_push, if_pos (by simp)]
        rfl
      · show ((w1.heap.push _).push _)[w1.heap.size]? = _
        rw [Array.getElem?_push, if_neg (by simp), Array.getElem?_push, if_pos rfl]
    have hbB : Below w.heap.size w _ := hb1.trans (hbA.mono hsz1)
    refine (document_any w.heap.size (w1.heap.size + 1) w1.heap.size _ _ _ (RS.start cs) _ hR hG hO (hE.low hbB) rfl rfl).mono ?_
    intro e w2 ho
    obtain ⟨b, rfl, ho⟩ := outP_form ho
    obtain ⟨hb2, ho⟩ := ho
    have hb02 : Below w.heap.size w w2 := hbB.trans hb2
    cases hd : (RS.start cs).document with
    | error x =>
      obtain ⟨c, pl⟩ := x
      rw [hd] at ho
      obtain ⟨hb', hw⟩ := ho
      cases hb'
      obtain ⟨c8, c9⟩ := hw
      have HO : Hid (scanX cs = .error (c, pl)) := hide (by unfold scanX; rw [hd])
      clear hd
      go_wp2_with fail
      go_region
      all_goals go_wp2_with fail
      all_goals go_ret3
      all_goals exact ⟨by rw [unhide HO]; rfl, by (repeat first | exact hb02 | refine Below.drew ?_)⟩
    | ok s' =>
      rw [hd] at ho
      obtain ⟨hb', vo, vt, vr, R2⟩ := ho
      cases hb'
      have HO : Hid (scanX cs = .ok s'.toks) := hide (by unfold scanX; rw [hd])
      have c5 : w2.cell? ⟨w1.heap.size + 1, 5, none⟩ = some vt := blk_cell R2.blk 5
      have HTK := hide R2.toks
      clear hd R2
      go_wp2_with fail
      go_ret3
      exact ⟨by rw [unhide HO]; exact ⟨_, rfl, unhide HTK⟩, hb02⟩
  · exact absurd (unhide HTX) h
/-- The same, for the texts that say besides that no declaration opens it, or that no document type is met. -/
theorem scan_typed (cs : List Nat) (w : World) (hl : okL cs) (hs : (T cs).size ≤ 32768) (hE : XEnv w.heap.size w)
    (_hX : ([60, 63].isPrefixOf cs && nameA (cs.drop 2) == [120, 109, 108]) = false) :
    Calls Tryz.prog 5 #[.string (T cs)] w fun e w' => scanP (scanX cs) w.heap.size e w' ∧ Below w.heap.size w w' := scan_any cs w hl hs hE
theorem scan_plain (cs : List Nat) (w : World) (hl : okL cs) (hs : (T cs).size ≤ 32768) (hE : XEnv w.heap.size w)
    (_hX : ([60, 63].isPrefixOf cs && nameA (cs.drop 2) == [120, 109, 108]) = false) (_hT : RS.noType (cs.length + 1) (RS.start cs) = true) :
    Calls Tryz.prog 5 #[.string (T cs)] w fun e w' => scanP (scanX cs) w.heap.size e w' ∧ Below w.heap.size w w' := scan_any cs w hl hs hE
end Go.Proofs.YtekjiagjgopnjaaGreatDoor
