/- Several texts, laid as one. -/
import Derived.Test.YtiembljlhmgpjaaGreatDoorGbh
import Derived.Test.YtiembljlhmgpjaaGreatDoorGak
import Derived.Test.YtiembljlhmgpjaaGreatDoorXmlDoc
/- What Scan tells may be written: pieces, in plain terms. -/
namespace Go.Proofs.YtiembljlhmgpjaaGreatDoor
theorem cutL_first (p q : Nat) : ∀ {l x y : List Nat}, cutL [p, q] l = some (x, y) → l = x ++ p :: q :: y ∧ cutL [p, q] x = none ∧ (p = q → x.getLast? ≠ some p)
  | [], x, y, h => by cases h
  | c :: t, x, y, h => by
    rw [cutL] at h
    split at h
    · rename_i hp
      cases h
      refine ⟨?_, rfl, fun _ hx => by cases hx⟩
      obtain ⟨u, hu⟩ := List.isPrefixOf_iff_prefix.1 hp
      rw [← hu]
      rfl
    · rename_i hp
      cases hc : cutL [p, q] t with
      | none => rw [hc] at h; cases h
      | some z =>
        obtain ⟨x', y'⟩ := z
        rw [hc] at h
        cases h
        obtain ⟨h1, h2, h3⟩ := cutL_first p q hc
        refine ⟨by rw [h1]; rfl, ?_, ?_⟩
        · rw [cutL, if_neg, h2]
          · rfl
          · intro hh
            apply hp
            rw [h1]
            cases x' with
            | nil => simp [List.isPrefixOf] at hh
            | cons d x'' =>
              simp [List.isPrefixOf] at hh ⊢
              exact hh
        · intro e hl
          subst e
          cases x' with
          | nil =>
            simp at hl
            subst hl
            apply hp
            rw [h1]
            simp [List.isPrefixOf]
          | cons d x'' =>
            simp only [List.getLast?_cons_cons] at hl
            exact h3 rfl hl
theorem DocS.isq {ts : List XTok} {o : List (List Nat)} {r : Bool} {k : Nat} (h : DocS ts o r k) : ∀ x ∈ o, isQ x = true := by
  induction h with
  | start => intro x hx; cases hx
  | elem n a o r k ts hs h hr ho ha ih =>
    intro x hx
    rcases List.mem_append.1 hx with hx | hx
    · exact ih x hx
    · rw [List.mem_singleton.1 hx]; cases h; assumption
  | fin n o r k ts hs h ho ih => exact fun x hx => ih x (List.dropLast_subset _ hx)
  | text l o r k ts hs h ho hk ih => exact ih
  | comment l o r k ts hs h ih => exact ih
  | pi n l o r k ts hs h ih => exact ih
theorem comment_okT {s s' : RS} {t : List Nat} (h : s.comment = some (t, s')) : OkTok ⟨5, [], [], t⟩ := by
  rw [comment_eq] at h
  split at h
  · cases h
  · rename_i u s1 hu
    split at h
    · cases h
      obtain ⟨_, y, hc, _⟩ := Adv.takeTo hu
      obtain ⟨_, h2, h3⟩ := cutL_first 45 45 hc
      exact .comment _ h2 (h3 rfl)
    · cases h
theorem drop_head {f : Nat → Bool} : ∀ {l : List Nat} {c : Nat}, (l.dropWhile f).head? = some c → f c = false
  | [], c, h => by cases h
  | d :: l, c, h => by
    rw [List.dropWhile_cons] at h
    split at h
    · exact drop_head h
    · rename_i hd
      cases h
      simpa using hd
theorem instr_okT {s s' : RS} {n t : List Nat} (h : s.instruction = some (n, t, s')) : OkTok ⟨6, n, [], t⟩ := by
  rw [instruction_eq] at h
  split at h
  · cases h
  · rename_i hn
    have hn' : isTarget (nameA (s.take [60, 63]).rest) = true := by simpa using hn
    split at h
    · cases h
      exact .pi _ _ hn' rfl (fun c hc => by cases hc)
    · split at h
      · cases h
      · cases hx : (s.take [60, 63]).name.blanks.takeTo [63, 62] with
        | none => rw [hx] at h; cases h
        | some z =>
          obtain ⟨u, s1⟩ := z
          rw [hx] at h
          cases h
          obtain ⟨_, y, hc, _⟩ := Adv.takeTo hx
          obtain ⟨h1, h2, _⟩ := cutL_first 63 62 hc
          refine .pi _ _ hn' h2 (fun c hc => ?_)
          rw [blanks_rest] at h1
          refine drop_head (l := (s.take [60, 63]).name.rest) (c := c) ?_
          rw [h1]
          cases u with
          | nil => cases hc
          | cons d u => exact hc
theorem isNm_of (l : List Nat) (h : nameA l ≠ []) : isNm (nameA l) = true := by
  unfold isNm
  rw [nameA_twice]
  cases hn : nameA l with
  | nil => exact absurd hn h
  | cons c t => simp
theorem no58 (l : List Nat) : ∀ c ∈ nameA l, c ≠ 58 := fun c hc e => by
  have := nameA_all l c hc
  rw [e, go58] at this
  cases this
theorem tw58 : ∀ (a b : List Nat), (∀ c ∈ a, c ≠ 58) → (a ++ 58 :: b).takeWhile (· != 58) = a ∧ (a ++ 58 :: b).dropWhile (· != 58) = 58 :: b
  | [], b, _ => ⟨rfl, rfl⟩
  | c :: a, b, h => by
    have hc : (c != 58) = true := by simpa using h c (by simp)
    obtain ⟨h1, h2⟩ := tw58 a b (fun x hx => h x (by simp [hx]))
    show (c :: (a ++ 58 :: b)).takeWhile (· != 58) = _ ∧ (c :: (a ++ 58 :: b)).dropWhile (· != 58) = _
    rw [List.takeWhile_cons, List.dropWhile_cons, hc, if_pos rfl, if_pos rfl, h1, h2]
    exact ⟨rfl, rfl⟩
theorem qname_isQ {l : List Nat} (h : qnameA l ≠ []) : isQ (qnameA l) = true := by
  have hn := qnameA_name h
  rw [qnameA_eq]
  split
  · rename_i hc
    have hb : nameA (l.drop (nameA l).length).tail ≠ [] := by
      intro e
      rw [e] at hc
      simp at hc
    obtain ⟨h1, h2⟩ := tw58 (nameA l) (nameA (l.drop (nameA l).length).tail) (no58 l)
    unfold isQ
    rw [if_pos (by simp), h1, h2, isNm_of l hn]
    exact isNm_of _ hb
  · unfold isQ
    rw [if_neg (by
      intro hc
      exact no58 l 58 (List.contains_iff_mem.1 hc) rfl)]
    exact isNm_of l hn
/-- Attributes as a start tag may have them. -/
def OkA (a : List (List Nat × List Nat)) : Prop := (∀ x ∈ a, isQ x.1 = true) ∧ (a.map (·.1)).Nodup
theorem OkA.snoc {a : List (List Nat × List Nat)} {n v : List Nat} (h : OkA a) (hn : isQ n = true) (hc : (a.map (·.1)).contains n = false) : OkA (a ++ [(n, v)]) := by
  refine ⟨fun x hx => ?_, ?_⟩
  · rcases List.mem_append.1 hx with hx | hx
    · exact h.1 x hx
    · rw [List.mem_singleton.1 hx]; exact hn
  · rw [List.map_append, List.nodup_append]
    refine ⟨h.2, by simp, fun x hx y hy => ?_⟩
    simp at hy
    subst hy
    intro e
    subst e
    rw [List.contains_iff_mem.2 hx] at hc
    cases hc
theorem attrs_okA (tag : Nat) : ∀ (f : Nat) (s s' : RS) (acc a : List (List Nat × List Nat)), OkA acc → RS.attrsGo tag f s acc = .ok (a, s') → OkA a
  | 0, s, s', acc, a, _, h => by cases h
  | f + 1, s, s', acc, a, hA, h => by
    rw [RS.attrsGo] at h
    simp only at h
    split at h
    · cases h; exact hA
    · split at h
      · cases h
      · rename_i hn
        split at h
        · cases h
        · split at h
          · cases h
          · refine attrs_okA tag f _ s' _ a (hA.snoc (qname_isQ fun e => hn (.inl e)) ?_) h
            cases hc : (acc.map (·.1)).contains (qnameA s.blanks.rest)
            · rfl
            · exact absurd (.inr hc) hn
end Go.Proofs.YtiembljlhmgpjaaGreatDoor
/- What Scan tells may be written: each step, in plain terms. -/
namespace Go.Proofs.YtiembljlhmgpjaaGreatDoor
theorem Told.same {s s' : RS} {r : Bool} (h : Told s r) (e1 : s'.toks = s.toks) (e2 : s'.opn = s.opn) (e3 : s'.run = s.run) : Told s' r := by
  obtain ⟨k, h1, h2, h3⟩ := h
  exact ⟨k, by rw [e1, e2]; exact h1, h2, by rw [e2, e3]; exact h3⟩
theorem Told.advT {s s' : RS} {r : Bool} (h : Told s r) (ha : AdvT s s') : Told s' r := h.same ha.same.2.2.2.1 ha.same.2.1 ha.same.2.2.1
theorem Told.adv {s s' : RS} {r : Bool} (h : Told s r) (ha : Adv s s') : Told s' r := h.advT ha.t
theorem flush_toks (y : RS) (o : List (List Nat)) : ({ y with opn := o } : RS).flush.toks = y.flush.toks ∧ ({ y with opn := o } : RS).flush.opn = o ∧ ({ y with opn := o } : RS).flush.run = [] := by
  unfold RS.flush
  by_cases h : y.run = []
  · rw [if_pos h, if_pos h]; exact ⟨rfl, rfl, h⟩
  · rw [if_neg h, if_neg h]; exact ⟨rfl, rfl, rfl⟩
/-- A token told by a reader whose open elements change with it. -/
theorem Told.with {y s' : RS} {r r' : Bool} {t : XTok} {a : Nat} {o' : List (List Nat)} (h : Told y r) (ht : ({ y with opn := o' } : RS).tell t a = .ok s') (hk : t.kind ≠ 4) (hs : ∀ ts k, DocS ts y.opn r k → DocS (ts ++ [t]) o' r' t.kind) : Told s' r' ∧ s'.opn = o' ∧ s'.run = [] := by
  obtain ⟨k, hf⟩ := h.flush
  obtain ⟨f1, f2, f3⟩ := flush_toks y o'
  unfold RS.tell at ht
  split at ht
  · cases ht
  · cases ht
    refine ⟨⟨t.kind, ?_, hk, fun hx => absurd f3 hx⟩, f2, f3⟩
    show DocS (({ y with opn := o' } : RS).flush.toks ++ [t]) ({ y with opn := o' } : RS).flush.opn r' t.kind
    rw [f1, f2]
    exact hs _ k hf
theorem Told.one {y s' : RS} {r : Bool} {t : XTok} {a : Nat} (h : Told y r) (ht : y.tell t a = .ok s') (hk : t.kind ≠ 4) (hs : ∀ ts k, DocS ts y.opn r k → DocS (ts ++ [t]) y.opn r t.kind) : Told s' r ∧ s'.opn = y.opn ∧ s'.run = [] :=
  h.with (o' := y.opn) ht hk hs
theorem com_told {s s' : RS} {r : Bool} (h : Told s r) (ht : s.tellComment = .ok s') : Told s' r ∧ s'.opn = s.opn := by
  unfold RS.tellComment at ht
  split at ht
  · cases ht
  · rename_i t s1 hc
    have ha := Adv.comment hc
    obtain ⟨h1, h2, _⟩ := (h.adv ha).one ht (by simp) (fun ts k hd => .comment t _ r k ts hd (comment_okT hc))
    exact ⟨h1, h2.trans ha.same.2.1⟩
theorem instr_told {s s' : RS} {r : Bool} (h : Told s r) (ht : s.tellInstruction = .ok s') : Told s' r ∧ s'.opn = s.opn := by
  unfold RS.tellInstruction at ht
  split at ht
  · cases ht
  · rename_i n t s1 hc
    have ha := (Adv.instruction hc).1
    obtain ⟨h1, h2, _⟩ := (h.adv ha).one ht (by simp) (fun ts k hd => .pi n t _ r k ts hd (instr_okT hc))
    exact ⟨h1, h2.trans ha.same.2.1⟩
theorem Told.run {s : RS} {r : Bool} (h : Told s r) (ho : s.opn ≠ []) (l : List Nat) : Told { s with run := l } r := by
  obtain ⟨k, h1, h2, _⟩ := h
  exact ⟨k, h1, h2, fun _ => ho⟩
theorem room_told {s s' : RS} {r : Bool} (h : Told s r) (ht : s.room = .ok s') : Told s' r := by
  unfold RS.room at ht
  split at ht
  · cases ht
  · cases ht; exact h
theorem end_told {s s' : RS} {r : Bool} (h : Told s r) (ht : s.endTag = .ok s') : Told s' r := by
  unfold RS.endTag at ht
  simp only at ht
  split at ht
  · rename_i hc
    have ha : Adv s ((s.take [60, 47]).qname.blanks.adv 1) := (((Adv.take s _).then (Adv.qname _)).then (Adv.blanks _)).then (Adv.by _ 1)
    refine ((h.adv ha).with ht (by simp) (fun ts k hd => ?_)).1
    rw [ha.same.2.1] at hd
    exact .fin _ _ r k ts hd (.fin _ (hd.isq _ (List.mem_of_getLast? hc.1))) hc.1
  · cases ht
theorem tell_opn {s s' : RS} {t : XTok} {a : Nat} (h : s.tell t a = .ok s') : s'.opn = s.opn := by
  unfold RS.tell at h
  split at h
  · cases h
  · cases h
    exact (flush_toks s s.opn).2.1
theorem start_told {s s' : RS} {r : Bool} (hG : Good s) (hO : OpnOk s) (hN : EOk s.ents) (hs : s.sees [60] = true) (hT : Told s r) (hr : s.opn = [] → r = false) (h : s.startTag = .ok s') : Told s' true := by
  rw [startTag_eq, take_adv hs] at h
  split at h
  · cases h
  · rename_i hne
    have h2 : Adv (s.adv 1) (s.adv 1).qname := Adv.qname _
    split at h
    · cases h
    · rename_i a s3 hat
      obtain ⟨k, hk⟩ := h2
      have h3 : AdvT (s.adv 1) s3 := (Adv.qname _).t.then (attrsGo_adv s.place _ _ [] a s3 (by show EOk s.ents; exact hN) (by rw [hk]; exact okL_drop (okL_drop hG.fine.okR 1) k) hG.sp hat)
      have h5 : AdvT (s.adv 1) ((s3.take [47]).adv 1) := (h3.then (Adv.take s3 [47]).t).then (Adv.by _ 1).t
      have h5' := (Adv.by s 1).t.then h5
      have O5 := hO.to h5'.same.2.1
      have T5 := hT.advT h5'
      have e5 := h5'.same.2.1
      have hA := attrs_okA _ _ _ _ [] a ⟨fun x hx => (by cases hx), by simp⟩ hat
      have hq := qname_isQ hne
      split at h
      · cases h
      · split at h
        · cases h
        · rename_i hlim
          have hl1 : ((s3.take [47]).adv 1).opn.length < 32 := by
            have := O5.2
            omega
          have hl2 : a.length ≤ 64 := by omega
          split at h
          · cases h
          · rename_i s6 htl
            have T6 := (T5.tell htl (((s3.take [47]).adv 1).opn ++ [qnameA (s.adv 1).rest]) (by simp) (fun ts k hd => .elem _ a _ r k ts hd (.elem _ a hq hA.1 hA.2) (by rw [e5]; exact hr) hl1 hl2)).1
            have e6 := tell_opn htl
            split at h
            · refine (T6.with (o' := s6.opn) h (by simp) (fun ts k hd => ?_)).1
              have := DocS.fin _ _ true k ts hd (.fin _ hq) (by simp)
              rw [List.dropLast_concat] at this
              rw [e6]
              exact this
            · cases h
              rw [e6]
              exact T6
theorem one_told {s s' : RS} (hG : Good s) (hO : OpnOk s) (hN : EOk s.ents) (ho : s.opn ≠ []) (hT : Told s true) (h : s.contentOne = .ok s') : Told s' true := by
  unfold RS.contentOne at h
  split at h
  · exact end_told hT h
  · split at h
    · exact (com_told hT h).1
    · split at h
      · unfold RS.section' at h
        split at h
        · cases h
        · rename_i t s1 ht
          have ha := (Adv.take s [60, 33, 91, 67, 68, 65, 84, 65, 91]).then (Adv.takeTo ht).1
          exact room_told ((hT.adv ha).run (by rw [ha.same.2.1]; exact ho) _) h
      · split at h
        · exact (instr_told hT h).1
        · split at h
          · rename_i h1
            exact start_told hG hO hN h1 hT (fun e => absurd e ho) h
          · split at h
            · unfold RS.refRun at h
              split at h
              · cases h
              · rename_i t s1 ht
                have ha := (ref_t hN hG.fine.okR hG.sp ht).1
                exact room_told ((hT.advT ha).run (by rw [ha.same.2.1]; exact ho) _) h
            · split at h
              · unfold RS.plain at h
                have ha := Adv.by s (plainA s.rest).length
                exact room_told ((hT.adv ha).run (by rw [ha.same.2.1]; exact ho) _) h
              · cases h
theorem content_told : ∀ (f : Nat) (s s' : RS), Good s → OpnOk s → EOk s.ents → Told s true → s.rest.length < f → RS.content f s = .ok s' → Told s' true ∧ s'.opn = []
  | 0, s, s', _, _, _, _, hl, _ => by omega
  | f + 1, s, s', hG, hO, hN, hT, hl, h => by
    unfold RS.content at h
    split at h
    · rename_i ho
      cases h
      exact ⟨hT, ho⟩
    · rename_i ho
      cases hc : s.contentOne with
      | error e => rw [hc] at h; cases h
      | ok s1 =>
        rw [hc] at h
        obtain ⟨k1, k2, k3, k4⟩ := contentOne_ok hG hO hN hc
        exact content_told f s1 s' k2 k3 k4 (one_told hG hO hN ho hT hc) (by omega) h
end Go.Proofs.YtiembljlhmgpjaaGreatDoor
/- The first character that may not be: xmlscan's firstBad. -/
namespace Go.Proofs.YtiembljlhmgpjaaGreatDoor
open Go.RowKit
theorem txt_app {a b : List UInt8} (ha : Txt a) (hb : Txt b) : Txt (a ++ b) := by
  obtain ⟨r, h1, rfl⟩ := ha
  obtain ⟨t, h2, rfl⟩ := hb
  refine ⟨r ++ t, fun c hc => ?_, by rw [List.flatMap_append]⟩
  rcases List.mem_append.1 hc with h | h
  · exact h1 c h
  · exact h2 c h
theorem textB_txt (s : ByteArray) : textB s = true ↔ Txt s.data.toList := by
  have h := fault_txt s (s.size + 1) 0 (by omega)
  unfold textB
  rw [List.drop_zero] at h
  constructor
  · intro e
    exact h.1 (by simpa [fault] using e)
  · intro e
    have := h.2 e
    simpa [fault] using this
/-- Where a text goes on: its next character is decoded as it is. -/
theorem txt_step (s : ByteArray) (pos : Nat) (hp : pos < s.size) (h1 : Txt (s.data.toList.take pos)) (h2 : Txt (s.data.toList.drop pos)) :
    Txt ((s.data.toList.drop pos).take (Utf8.decode s pos).2) ∧ Txt (s.data.toList.drop (pos + (Utf8.decode s pos).2)) := by
  obtain ⟨p, hp1, hp2⟩ := h1
  obtain ⟨q, hq1, hq2⟩ := h2
  have hsz : s.data.toList.length = s.size := rfl
  cases q with
  | nil =>
    have := congrArg List.length hq2
    simp at this
    omega
  | cons c t =>
    have e : s.data.toList = tx (p ++ c :: t) := by
      rw [tx_append, ← List.take_append_drop pos s.data.toList, hp2, hq2]
      rfl
    have es : s = T (p ++ c :: t) := by
      apply ByteArray.ext
      apply Array.toList_inj.1
      rw [e, T_data]
    have hpl : (tx p).length = pos := by
      have := congrArg List.length hp2
      rw [List.length_take, Nat.min_eq_left (by omega)] at this
      exact this.symm
    have hd := (dec_T p c t (hq1 c (List.mem_cons_self ..))).1
    rw [← es, hpl] at hd
    rw [hd]
    have e2 : s.data.toList.drop pos = runeB c ++ tx t := by rw [hq2]; rfl
    refine ⟨?_, ?_⟩
    · rw [e2, List.take_left]
      exact ⟨[c], fun x hx => by rw [List.mem_singleton.1 hx]; exact hq1 c (List.mem_cons_self ..), by simp⟩
    · rw [← List.drop_drop, e2, List.drop_left]
      exact ⟨t, fun x hx => hq1 x (List.mem_cons_of_mem _ hx), rfl⟩
theorem piece_data (s : ByteArray) (a b : Nat) : (s.extract a (a + b)).data.toList = (s.data.toList.drop a).take b := by
  rw [ByteArray.data_extract, Array.toList_extract, List.extract_eq_take_drop]
  congr 1
  omega
/-- What firstBad tells: no place of a text, some place of what is none. -/
def badP (s : ByteArray) (e : Ending) : Prop := (Txt s.data.toList ∧ e = .returned (.tuple #[.int .i64 0, .bool false])) ∨ (¬ Txt s.data.toList ∧ ∃ at' : Nat, at' < s.size ∧ e = .returned (.tuple #[.int .i64 (at' : Nat), .bool true]))
set_option maxHeartbeats 1000000 in
theorem firstBad_any (s : ByteArray) (w : World) (hs : s.size ≤ 32768) (hE : Env w) :
    Calls Tryz.prog 14 #[.string s] w fun e w' => badP s e ∧ Below w.heap.size w w' := by
  have HE := hide hE
  clear hE
  go_enter Tryz.func14, Tryz.ntmps14
  go_wp2_with fail
  go_loopw [4, 5, 6] (fun _ _ _ wr => ∃ pos : Nat, pos ≤ s.size ∧ Txt (s.data.toList.take pos) ∧ (Txt s.data.toList → Txt (s.data.toList.drop pos)) ∧ wr.heap[w.heap.size]? = some (.stringIter s pos) ∧ Below w.heap.size w wr) (fun _ _ _ wr => s.size - wr.iterPos w.heap.size)
  case atStart =>
    refine ⟨0, Nat.zero_le _, ⟨[], (fun _ h => by cases h), rfl⟩, fun h => h, ?_, ?_⟩
    · exact World.iter_heap w s 0
    · exact (Below.refl _ _).alloc (Nat.le_refl _) _
  case round =>
    obtain ⟨pos, hps, h1, h2, hk, hbr⟩ := hrel
    by_cases hp : pos < s.size
    · have hwd := width_pos s pos hp
      obtain ⟨_, _, hwe⟩ := decode_bytes s pos hp
      have hnx := fun ty => Lib.run_next_any_at (P := Tryz.prog) wr w.heap.size s pos ty hk hp
      have HK := hide hk
      have hbl : w.heap.size < wr.heap.size := (Array.getElem?_eq_some_iff.1 hk).1
      have HST := hide (fun h => txt_step s pos hp h1 (h2 h))
      have HT := hide h1
      have HD := hide (decodeRune_at s pos)
      generalize hd : Utf8.decode s pos = d at *
      have hbI : Below w.heap.size w (wr.iterAt w.heap.size s (pos + d.2)) := Lib.below_iterAt hbr (by omega) _ _
      have hszI : w.heap.size ≤ (wr.iterAt w.heap.size s (pos + d.2)).heap.size := by rw [Lib.iterAt_size]; omega
      have HKI : Hid ((wr.iterAt w.heap.size s (pos + d.2)).heap[w.heap.size]? = some (.stringIter s (pos + d.2))) := hide (Lib.iterAt_heap wr _ _ _ _ (unhide HK))
      have hw1 : wrap64 ((pos : Int) + (d.2 : Int)) = ((pos + d.2 : Nat) : Int) := by unfold wrap64; omega
      have HPD := hide (piece_data s pos d.2)
      clear hd hk h1 h2
      go_wp2_with fail
      refine (unhide HD _ hp ((unhide HE).below hbI)).mono ?_
      rintro e w1 ⟨rfl, hb1⟩
      go_wp2_with fail
      refine (isText_any _ _).mono ?_
      rintro e w2 ⟨rfl, hb2⟩
      have hb12 : Below w.heap.size w w2 := (hbI.trans (hb1.mono hszI)).trans (hb2.mono (Nat.le_trans hszI hb1.size))
      have hbw2 := hb1.trans (hb2.mono hb1.size)
      have HTB := hide (textB_txt (s.extract pos (pos + d.2)))
      rw [unhide HPD] at HTB
      cases htb : textB (s.extract pos (pos + d.2))
      · have HN : Hid (¬ Txt s.data.toList) := hide (fun h => by
          have := (unhide HTB).2 (unhide HST h).1
          rw [htb] at this
          cases this)
        go_wp2
        go_ret2
        exact ⟨.inr ⟨unhide HN, pos, hp, rfl⟩, hb12⟩
      · have HTT : Hid (Txt (s.data.toList.take (pos + d.2))) := hide (by
          have h := txt_app (unhide HT) ((unhide HTB).1 htb)
          rwa [← List.take_add] at h)
        go_wp2
        refine ⟨⟨pos + d.2, hwe, unhide HTT, fun h => (unhide HST h).2, block_below (unhide HKI) hbw2, hb12⟩, ?_⟩
        rw [iterPos_of (block_below (unhide HKI) hbw2), iterPos_of (unhide HK)]
        omega
    · have hnx := fun ty => Lib.run_next_end_at (P := Tryz.prog) wr w.heap.size s pos ty hk hp
      have HA : Hid (Txt s.data.toList) := by
        rw [List.take_of_length_le (show s.data.toList.length ≤ pos by show s.size ≤ pos; omega)] at h1
        exact hide h1
      clear hk h1 h2
      go_wp2
      go_ret2
      exact ⟨.inl ⟨unhide HA, rfl⟩, hbr⟩
end Go.Proofs.YtiembljlhmgpjaaGreatDoor
/- A text's tokens: xmlscan's Scan. -/
namespace Go.Proofs.YtiembljlhmgpjaaGreatDoor
open Go.RowKit
/-- What Scan tells. -/
def scanP (o : Except Er (List XTok)) (B : Nat) (e : Ending) (w' : World) : Prop := match o with
  | .error x => e = .returned (.tuple #[.slice none 0 0, .int .i64 (x.1 : Nat), .int .i64 (x.2 : Nat)])
  | .ok ts => ∃ vt, e = .returned (.tuple #[vt, .int .i64 0, .int .i64 0]) ∧ Toks w' B vt ts
theorem start_good {cs : List Nat} (hl : okL cs) (hs : (T cs).size ≤ 32768) : Good (RS.start cs) ∧ OpnOk (RS.start cs) := by
  refine ⟨⟨⟨hl, hs⟩, Nat.zero_le _, fun h => absurd rfl h, ?_, Nat.zero_le _, Nat.zero_le _⟩, ?_, Nat.zero_le _⟩
  · intro c hc
    cases hc
  · intro x hx
    cases hx
theorem start_rd (cs : List Nat) (w : World) (B p m : Nat) (hB : B ≤ p) (hm : B ≤ m) (hp : w.heap[p]? = some (.cells (rdArr (RS.start cs) m (.slice none 0 0) (.slice none 0 0) (.slice none 0 0)) 47 (0, 0)))
    (hmm : w.heap[m]? = some (.map #[] 0)) : Rd w B p m (.slice none 0 0) (.slice none 0 0) (.slice none 0 0) (RS.start cs) := by
  refine ⟨hp, hB, ⟨hm, (fun _ h => by cases h), ?_⟩, World.ownsRow_nil _ _ _ _, ⟨[], rfl, World.ownsRow_nil _ _ _ _, (fun i t v h => by cases i <;> cases h)⟩, World.ownsRow_nil _ _ _ _⟩
  exact ⟨#[], 0, hmm, ⟨by simp, Go.MapKept.stamped_empty 0, by simp⟩, Nat.le_refl _, rfl⟩
set_option maxRecDepth 100000 in
set_option maxHeartbeats 4000000 in
theorem scan_any (cs : List Nat) (w : World) (hl : okL cs) (hs : (T cs).size ≤ 32768) (hE : XEnv w.heap.size w) :
    Calls Tryz.prog 6 #[.string (T cs)] w fun e w' => scanP (scanX cs) w.heap.size e w' ∧ Below w.heap.size w w' := by
  have h1 : decide ((32768 : Int) < ((T cs).size : Int)) = false := decide_eq_false (by omega)
  have HB := hide (firstBad_any (T cs) w hs hE.env)
  have HTX := hide (T_txt hl)
  obtain ⟨hG, hO⟩ := start_good hl hs
  have hmk : ∀ W : World, (Instr.makeMap 44 none).run Tryz.prog W = .ok (.map (some W.heap.size)) (W.alloc (.map #[] 0)) := fun W => rfl
  go_enter Tryz.func6, Tryz.ntmps6
  go_wp2_with fail
  refine (unhide HB).mono ?_
  rintro e w1 ⟨hbad, hb1⟩
  rcases hbad with ⟨_, rfl⟩ | ⟨h, _⟩
  · go_wp2_with fail
    have hbA : Below w1.heap.size w1 ((w1.alloc (.map #[] 0)).alloc (.cells #[.string (T cs), .int .i64 0, .map (some w1.heap.size), .int .i64 0, .slice none 0 0, .slice none 0 0, .slice none 0 0, .int .i64 0, .int .i64 0, .int .i64 0] 47)) := ((Below.refl _ _).alloc (Nat.le_refl _) _).alloc (by simp) _
    have hsz1 := hb1.size
    have hR : Rd ((w1.alloc (.map #[] 0)).alloc (.cells #[.string (T cs), .int .i64 0, .map (some w1.heap.size), .int .i64 0, .slice none 0 0, .slice none 0 0, .slice none 0 0, .int .i64 0, .int .i64 0, .int .i64 0] 47)) w.heap.size (w1.heap.size + 1) w1.heap.size (.slice none 0 0) (.slice none 0 0) (.slice none 0 0) (RS.start cs) := by
      refine start_rd cs _ _ _ _ (by omega) (by omega) ?_ ?_
      · show ((w1.heap.push _).push _)[w1.heap.size + 1]? = _
        rw [Array.getElem?_push, if_pos (by simp)]
        rfl
      · show ((w1.heap.push _).push _)[w1.heap.size]? = _
        rw [Array.getElem?_push, if_neg (by simp), Array.getElem?_push, if_pos rfl]
    have hbB : Below w.heap.size w _ := hb1.trans (hbA.mono hsz1)
    refine (document_any w.heap.size (w1.heap.size + 1) w1.heap.size _ _ _ (RS.start cs) _ hR hG hO (hE.low hbB) rfl rfl).mono ?_
    intro e w2 ho
    obtain ⟨b, rfl, ho⟩ := outP_form ho
    obtain ⟨hb2, ho⟩ := ho
    have hb02 : Below w.heap.size w w2 := hbB.trans hb2
    cases hd : (RS.start cs).document with
    | error x =>
      obtain ⟨c, pl⟩ := x
      rw [hd] at ho
      obtain ⟨hb', hw⟩ := ho
      cases hb'
      obtain ⟨c8, c9⟩ := hw
      have HO : Hid (scanX cs = .error (c, pl)) := hide (by unfold scanX; rw [hd])
      clear hd
      go_wp2_with fail
      go_region
      all_goals go_wp2_with fail
      all_goals go_ret3
      all_goals exact ⟨by rw [unhide HO]; rfl, by (repeat first | exact hb02 | refine Below.drew ?_)⟩
    | ok s' =>
      rw [hd] at ho
      obtain ⟨hb', vo, vt, vr, R2⟩ := ho
      cases hb'
      have HO : Hid (scanX cs = .ok s'.toks) := hide (by unfold scanX; rw [hd])
      have c5 : w2.cell? ⟨w1.heap.size + 1, 5, none⟩ = some vt := blk_cell R2.blk 5
      have HTK := hide R2.toks
      clear hd R2
      go_wp2_with fail
      go_ret3
      exact ⟨by rw [unhide HO]; exact ⟨_, rfl, unhide HTK⟩, hb02⟩
  · exact absurd (unhide HTX) h
end Go.Proofs.YtiembljlhmgpjaaGreatDoor
