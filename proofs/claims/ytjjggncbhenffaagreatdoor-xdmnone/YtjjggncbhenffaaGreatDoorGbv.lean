/- Several texts, laid as one. -/
import Derived.Test.YtjjggncbhenffaaGreatDoorGbm
import Derived.Test.YtjjggncbhenffaaGreatDoorGbo
import Derived.Test.YtjjggncbhenffaaGreatDoorGap
import Derived.BigQuiet
import Derived.Test.YtjjggncbhenffaaGreatDoorGbs
/- What must be whatever is asked: stencillaw03's live; tokens in memory, read. -/
namespace Go.Proofs.YtjjggncbhenffaaGreatDoor
open Go.RowKit
theorem tokRow_get : ∀ (ts : List XTok) (vs : List Value) (i j : Nat) (t : XTok) (v : Value), ts[i]? = some t → vs[i]? = some v → j < 4 → (tokRow ts vs)[i * 4 + j]? = (tokCells t v)[j]?
  | [], _, i, _, _, _, h, _, _ => by cases h
  | _ :: _, [], i, _, _, _, _, h, _ => by cases h
  | x :: ts, y :: vs, 0, j, t, v, h1, h2, hj => by
    cases h1
    cases h2
    show (tokCells x y ++ tokRow ts vs)[0 * 4 + j]? = _
    rw [Nat.zero_mul, Nat.zero_add, List.getElem?_append_left (by show j < 4; exact hj)]
  | x :: ts, y :: vs, i + 1, j, t, v, h1, h2, hj => by
    have ih := tokRow_get ts vs i j t v h1 h2 hj
    show (tokCells x y ++ tokRow ts vs)[(i + 1) * 4 + j]? = _
    rw [List.getElem?_append_right (by show 4 ≤ _; omega), ← ih]
    congr 1
    show (i + 1) * 4 + j - 4 = _
    omega
/-- Where a row's cells lie. -/
theorem owns_at {w : World} {B : Nat} {e : TypeId} {size : Nat} {v : Value} {n : Nat} {xs : List Value} (h : w.ownsRow B e size v n xs) (hn : 0 < n) : ∃ g cap, v = .slice (some ⟨g, 0, none⟩) n cap ∧ n ≤ cap ∧ B ≤ g ∧ g < w.heap.size ∧ ∀ j x, xs[j]? = some x → w.cell? ⟨g, j, none⟩ = some x := by
  have h' := h
  rcases h.2 with ⟨_, h0⟩ | ⟨g, cap, cur, rfl, h2, h3, h4⟩
  · omega
  · refine ⟨g, cap, rfl, h4.1, h2, (Array.getElem?_eq_some_iff.1 h3).1, fun j x hx => ?_⟩
    have hj : j < n * size := by
      have := (List.getElem?_eq_some_iff.1 hx).1
      rw [h.1] at this
      exact this
    have hc := h'.cellAt j hj
    rw [hc]
    exact hx
/-- A token in memory. -/
structure TokAt (w : World) (B g i : Nat) (t : XTok) : Prop where
  k : w.cell? ⟨g, i * 4, none⟩ = some (.int .i64 (t.kind : Nat))
  n : w.cell? ⟨g, i * 4 + 1, none⟩ = some (.string (T t.name))
  a : ∃ v, w.cell? ⟨g, i * 4 + 2, none⟩ = some v ∧ AttrsAt w B v t.attrs
  x : w.cell? ⟨g, i * 4 + 3, none⟩ = some (.string (T t.text))
theorem toks_at {w : World} {B : Nat} {vt : Value} {ts : List XTok} (h : Toks w B vt ts) (hn : 0 < ts.length) : ∃ g cap, vt = .slice (some ⟨g, 0, none⟩) ts.length cap ∧ ts.length ≤ cap ∧ B ≤ g ∧ g < w.heap.size ∧ ∀ (i : Nat) (t : XTok), ts[i]? = some t → TokAt w B g i t := by
  obtain ⟨vs, h1, h2, h3⟩ := h
  obtain ⟨g, cap, rfl, hc, hB, hg, hx⟩ := owns_at h2 hn
  refine ⟨g, cap, rfl, hc, hB, hg, fun i t ht => ?_⟩
  have hi : i < vs.length := by
    rw [h1]
    exact (List.getElem?_eq_some_iff.1 ht).1
  obtain ⟨v, hv⟩ : ∃ v, vs[i]? = some v := ⟨vs[i], List.getElem?_eq_getElem hi⟩
  refine ⟨?_, ?_, ⟨v, ?_, h3 i t v ht hv⟩, ?_⟩
  · exact hx (i * 4 + 0) _ (tokRow_get ts vs i 0 t v ht hv (by decide))
  · exact hx (i * 4 + 1) _ (tokRow_get ts vs i 1 t v ht hv (by decide))
  · exact hx (i * 4 + 2) _ (tokRow_get ts vs i 2 t v ht hv (by decide))
  · exact hx (i * 4 + 3) _ (tokRow_get ts vs i 3 t v ht hv (by decide))
end Go.Proofs.YtjjggncbhenffaaGreatDoor
/- A text, escaped, is read as itself: the law XmlscanTexts. -/
namespace Go.Proofs.YtjjggncbhenffaaGreatDoor
open Go.RowKit
theorem XEnv.up {B B' : Nat} {w : World} (h : XEnv B w) (hb : B ≤ B') : XEnv B' w := ⟨h.env, h.x, h.m, h.l, h.X, h.M, h.L, Nat.lt_of_lt_of_le h.g1 hb, Nat.lt_of_lt_of_le h.g2 hb, Nat.lt_of_lt_of_le h.g3 hb, Nat.lt_of_lt_of_le h.g4 hb⟩
theorem XEnv.at {w w' : World} (h : XEnv w.heap.size w) (hb : Below w.heap.size w w') : XEnv w'.heap.size w' := (h.low hb).up hb.size
end Go.Proofs.YtjjggncbhenffaaGreatDoor
/- Tokens that are the same: the reference's SameTokens. -/
namespace Go.Proofs.YtjjggncbhenffaaGreatDoor
open Go.RowKit
end Go.Proofs.YtjjggncbhenffaaGreatDoor
/- What is written is scanned as it was: the law XmlscanBack. -/
namespace Go.Proofs.YtjjggncbhenffaaGreatDoor
open Go.RowKit
theorem pairRow_get : ∀ (l : List (List Nat × List Nat)) (i : Nat) (x : List Nat × List Nat), l[i]? = some x → (pairRow l)[i * 2]? = some (.string (T x.1)) ∧ (pairRow l)[i * 2 + 1]? = some (.string (T x.2))
  | [], i, _, h => by cases h
  | y :: l, 0, x, h => by
    cases h
    exact ⟨rfl, rfl⟩
  | y :: l, i + 1, x, h => by
    have ih := pairRow_get l i x h
    have e : pairRow (y :: l) = .string (T y.1) :: .string (T y.2) :: pairRow l := rfl
    rw [e, show (i + 1) * 2 = i * 2 + 1 + 1 by omega]
    exact ih
theorem attrs_arg {w : World} {B : Nat} {v : Value} {l : List (List Nat × List Nat)} (h : AttrsAt w B v l) : PairsArg w v (l.map fun x => (T x.1, T x.2)) := by
  obtain ⟨a, c, rfl⟩ := owns_slice h
  refine ⟨a, c, by rw [List.length_map], fun hl => ?_⟩
  have hl0 : 0 < l.length := by
    cases l with
    | nil => exact absurd rfl hl
    | cons _ _ => simp
  obtain ⟨g, cap, he, _, _, _, hc⟩ := owns_at h hl0
  cases he
  refine ⟨g, 0, rfl, fun i x hx => ?_⟩
  rw [List.getElem?_map] at hx
  obtain ⟨y, hy, rfl⟩ := Option.map_eq_some_iff.1 hx
  obtain ⟨h1, h2⟩ := pairRow_get l i y hy
  rw [Nat.zero_add]
  exact ⟨hc _ _ h1, hc _ _ h2⟩
theorem tok_arg {w : World} {B g i : Nat} {t : XTok} (h : TokAt w B g i t) : TokArg w g (0 + i * 4) t.b := by
  rw [Nat.zero_add]
  obtain ⟨v, h1, h2⟩ := h.a
  exact ⟨h.k, h.n, ⟨v, h1, attrs_arg h2⟩, h.x⟩
theorem toks_arg {w : World} {B : Nat} {vt : Value} {xs : List XTok} (h : Toks w B vt xs) (hn : 0 < xs.length) : ∃ a cap, vt = .slice a (xs.map XTok.b).length cap ∧ ToksArg w a (xs.map XTok.b) := by
  obtain ⟨g, cap, rfl, _, _, _, ht⟩ := toks_at h hn
  refine ⟨some ⟨g, 0, none⟩, cap, by rw [List.length_map], fun _ => ⟨g, 0, rfl, fun i t hi => ?_⟩⟩
  rw [List.getElem?_map] at hi
  obtain ⟨x, hx, rfl⟩ := Option.map_eq_some_iff.1 hi
  exact tok_arg (ht i x hx)
theorem doc_pos {o : List (List Nat)} {k : Nat} {xs : List XTok} (h : DocT o false k xs) : 0 < xs.length := by
  cases h <;> simp
end Go.Proofs.YtjjggncbhenffaaGreatDoor
/- Every error of Scan is one of two, and its place lies in the text: in plain terms. -/
namespace Go.Proofs.YtjjggncbhenffaaGreatDoor
/-- A reader of a text of so many bytes. -/
structure Wh (N : Nat) (s : RS) : Prop where
  all : (tx (s.pre ++ s.rest)).length = N
  run : s.runAt ≤ N
def ErN (N : Nat) (x : Er) : Prop := (x.1 = 5 ∨ x.1 = 6) ∧ x.2 ≤ N
def OutN (N : Nat) (o : Except Er RS) : Prop := match o with
  | .error x => ErN N x
  | .ok s' => Wh N s'
theorem Wh.place {N : Nat} {s : RS} (h : Wh N s) : s.place ≤ N := by
  have := h.all
  rw [tx_len_app] at this
  unfold RS.place
  omega
theorem Wh.t {N : Nat} {s s' : RS} (h : Wh N s) (ha : AdvT s s') : Wh N s' := by
  obtain ⟨k, n, rfl, _, _⟩ := ha
  have e := adv_whole s k
  exact ⟨by show (tx ((s.adv k).pre ++ (s.adv k).rest)).length = N; rw [e]; exact h.all, h.run⟩
theorem Wh.to {N : Nat} {s s' : RS} (h : Wh N s) (ha : Adv s s') : Wh N s' := h.t ha.t
theorem Wh.with {N : Nat} {s : RS} (h : Wh N s) (o : List (List Nat)) (r : List Nat) : Wh N { s with opn := o, run := r } := ⟨h.all, h.run⟩
theorem tell_out {N : Nat} {s : RS} {t : XTok} {pl : Nat} (h : Wh N s) (hp : pl ≤ N) : OutN N (s.tell t pl) := by
  have hpl := h.place
  have hf : s.flush.pre = s.pre ∧ s.flush.rest = s.rest := by unfold RS.flush; split <;> exact ⟨rfl, rfl⟩
  unfold RS.tell
  split
  · exact ⟨.inr rfl, hp⟩
  · exact ⟨by show (tx (s.flush.pre ++ s.flush.rest)).length = N; rw [hf.1, hf.2]; exact h.all, hpl⟩
theorem room_out {N : Nat} {s : RS} (h : Wh N s) : OutN N s.room := by
  unfold RS.room
  split
  · exact ⟨.inr rfl, h.run⟩
  · exact h
theorem spend_er {o : List (List Nat)} {s n e : Nat} (h : spendX o s n = .error e) : e = 6 := by
  unfold spendX at h
  split at h
  · cases h
  · split at h
    · cases h; rfl
    · cases h
theorem text_er (add : Nat → Ref → Except Nat (List Nat × Nat)) (hadd : ∀ s r e, add s r = .error e → e = 5 ∨ e = 6) (flat : Bool) (opn : List (List Nat)) : ∀ (f spent : Nat) (l : List Nat) (e : Nat), textX add flat opn f spent l = .error e → e = 5 ∨ e = 6
  | 0, _, _, _, h => by cases h
  | f + 1, spent, l, e, h => by
    rw [textX] at h
    split at h
    · cases h
    · simp only at h
      split at h
      · rename_i hs; cases h; exact .inr (spend_er hs)
      · split at h
        · cases h
        · split at h
          · cases h; exact .inl rfl
          · split at h
            · rename_i ha; cases h; exact hadd _ _ _ ha
            · split at h
              · rename_i ht; cases h; exact text_er add hadd flat opn f _ _ _ ht
              · cases h
theorem add_er (ents : List (List Nat × List Nat)) (flat : Bool) : ∀ (d : Nat) (opn : List (List Nat)) (spent : Nat) (r : Ref) (e : Nat), addX ents flat d opn spent r = .error e → e = 5 ∨ e = 6
  | 0, _, _, _, _, h => by cases h; exact .inr rfl
  | d + 1, opn, spent, r, e, h => by
    rw [addX] at h
    split at h
    · split at h
      · rename_i hs; cases h; exact .inr (spend_er hs)
      · cases h
    · split at h
      · cases h; exact .inl rfl
      · split at h
        · cases h; exact .inr rfl
        · split at h
          · rename_i hs; cases h; exact .inr (spend_er hs)
          · exact text_er _ (fun s r e => add_er ents flat d _ s r e) flat _ _ _ _ _ h
theorem ref_er {N : Nat} {s : RS} {flat : Bool} {x : Er} (h : Wh N s) (hr : s.reference flat = .error x) : ErN N x := by
  unfold RS.reference at hr
  split at hr
  · cases hr; exact ⟨.inl rfl, h.place⟩
  · split at hr
    · rename_i ha
      cases hr
      exact ⟨add_er _ _ _ _ _ _ _ ha, h.place⟩
    · cases hr
theorem value_er (N q tag : Nat) (ht : tag ≤ N) : ∀ (f : Nat) (s : RS) (t : List Nat) (x : Er), EOk s.ents → Good s → Wh N s → RS.valueGo q tag f s t = .error x → ErN N x
  | 0, s, t, x, _, _, _, h => by cases h; exact ⟨.inl rfl, ht⟩
  | f + 1, s, t, x, hN, hG, hW, h => by
    rw [valueGo_eq] at h
    have ha := Adv.by s (s.rest.takeWhile (plainC q)).length
    have G1 := hG.to ha
    have W1 := hW.to ha
    have N1 : EOk (s.adv (s.rest.takeWhile (plainC q)).length).ents := hN
    generalize s.rest.takeWhile (plainC q) = p at *
    generalize s.adv p.length = s1 at *
    split at h
    · cases h
    · split at h
      · split at h
        · rename_i e hr
          cases h
          exact ref_er W1 hr
        · rename_i u s2 hr
          have r1 := ref_t N1 G1.fine.okR G1.sp hr
          exact value_er N q tag ht f s2 _ x (EOk.of r1.1.same.1 N1) (G1.t r1.1) (W1.t r1.1) h
      · cases h; exact ⟨.inl rfl, ht⟩
theorem attrs_er (N tag : Nat) (ht : tag ≤ N) : ∀ (f : Nat) (s : RS) (acc : List (List Nat × List Nat)) (x : Er), EOk s.ents → Good s → Wh N s → RS.attrsGo tag f s acc = .error x → ErN N x
  | 0, s, acc, x, _, _, _, h => by cases h; exact ⟨.inl rfl, ht⟩
  | f + 1, s, acc, x, hN, hG, hW, h => by
    rw [attrsGo_eq] at h
    split at h
    · cases h
    · split at h
      · cases h; exact ⟨.inl rfl, ht⟩
      · split at h
        · cases h; exact ⟨.inl rfl, ht⟩
        · rename_i s3 heq
          have ha3 : Adv s s3 := ((Adv.blanks s).then (Adv.qname _)).then (Adv.equals heq)
          have G3 := hG.to ha3
          have N3 := EOk.of ha3.same.1 hN
          have W3 := hW.to ha3
          split at h
          · rename_i e hv
            cases h
            unfold RS.value at hv
            split at hv
            · cases hv; exact ⟨.inl rfl, ht⟩
            · rename_i q s5 hq
              exact value_er N q tag ht _ s5 [] _ (EOk.of (Adv.quote hq).same.1 N3) (G3.to (Adv.quote hq)) (W3.to (Adv.quote hq)) hv
          · rename_i v s4 hv
            have ha4 := value_adv N3 G3.fine.okR G3.sp hv
            exact attrs_er N tag ht f s4 _ x (EOk.of ha4.same.1 N3) (G3.t ha4) (W3.t ha4) h
theorem com_out {N : Nat} {s : RS} (h : Wh N s) : OutN N s.tellComment := by
  unfold RS.tellComment
  split
  · exact ⟨.inl rfl, h.place⟩
  · rename_i t s1 hc
    exact tell_out (h.to (Adv.comment hc)) h.place
theorem instr_out {N : Nat} {s : RS} (h : Wh N s) : OutN N s.tellInstruction := by
  unfold RS.tellInstruction
  split
  · exact ⟨.inl rfl, h.place⟩
  · rename_i n t s1 hc
    exact tell_out (h.to (Adv.instruction hc).1) h.place
theorem end_out {N : Nat} {s : RS} (h : Wh N s) : OutN N s.endTag := by
  rw [endTag_eq]
  split
  · have ha : Adv s ((s.take [60, 47]).qname.blanks.adv 1) := (((Adv.take s _).then (Adv.qname _)).then (Adv.blanks _)).then (Adv.by _ 1)
    exact tell_out ((h.to ha).with _ _) h.place
  · exact ⟨.inl rfl, h.place⟩
theorem start_out {N : Nat} {s : RS} (hG : Good s) (hN : EOk s.ents) (hs : s.sees [60] = true) (h : Wh N s) : OutN N s.startTag := by
  rw [startTag_eq, take_adv hs]
  split
  · exact ⟨.inl rfl, h.place⟩
  · have h2 : Adv (s.adv 1) (s.adv 1).qname := Adv.qname _
    have h2' := (Adv.by s 1).then h2
    have G2 := hG.to h2'
    have N2 := EOk.of h2'.same.1 hN
    have W2 := h.to h2'
    split
    · rename_i e hat
      exact attrs_er N s.place h.place _ _ [] e N2 G2 W2 hat
    · rename_i a s3 hat
      have h3 : AdvT s s3 := h2'.t.then (attrsGo_adv s.place _ _ [] a s3 N2 G2.fine.okR G2.sp hat)
      have h5' : AdvT s ((s3.take [47]).adv 1) := (h3.then (Adv.take s3 [47]).t).then (Adv.by _ 1).t
      have W5 := h.t h5'
      split
      · exact ⟨.inl rfl, h.place⟩
      · split
        · exact ⟨.inr rfl, h.place⟩
        · have ho := tell_out (t := ⟨2, qnameA (s.adv [60].length).rest, a, []⟩) W5 h.place
          split
          · rename_i e htl
            rw [htl] at ho
            exact ho
          · rename_i s6 htl
            rw [htl] at ho
            split
            · exact tell_out ho h.place
            · exact Wh.with ho _ _
theorem one_out {N : Nat} {s : RS} (hG : Good s) (hN : EOk s.ents) (h : Wh N s) : OutN N s.contentOne := by
  unfold RS.contentOne
  split
  · exact end_out h
  · split
    · exact com_out h
    · split
      · unfold RS.section'
        split
        · exact ⟨.inl rfl, h.place⟩
        · rename_i t s1 ht
          have ha := (Adv.take s [60, 33, 91, 67, 68, 65, 84, 65, 91]).then (Adv.takeTo ht).1
          exact room_out ((h.to ha).with _ _)
      · split
        · exact instr_out h
        · split
          · rename_i h1
            exact start_out hG hN h1 h
          · split
            · unfold RS.refRun
              split
              · rename_i e ht
                exact ref_er h ht
              · rename_i t s1 ht
                have ha := (ref_t hN hG.fine.okR hG.sp ht).1
                exact room_out ((h.t ha).with _ _)
            · split
              · unfold RS.plain
                exact room_out ((h.to (Adv.by s (plainA s.rest).length)).with _ _)
              · exact ⟨.inl rfl, h.place⟩
theorem content_out {N : Nat} : ∀ (f : Nat) (s : RS), Good s → OpnOk s → EOk s.ents → Wh N s → OutN N (RS.content f s)
  | 0, s, _, _, _, h => by unfold RS.content; exact h
  | f + 1, s, hG, hO, hN, h => by
    unfold RS.content
    split
    · exact h
    · have ho := one_out hG hN h
      split
      · rename_i e hc
        rw [hc] at ho
        exact ho
      · rename_i s1 hc
        rw [hc] at ho
        obtain ⟨k1, k2, k3, k4⟩ := contentOne_ok hG hO hN hc
        exact content_out f s1 k2 k3 k4 ho
theorem entity_wh {N : Nat} {s s' : RS} (hW : Wh N s) (h : s.entity = some s') : Wh N s' := by
  rw [entity_eq] at h
  split at h
  · cases h
  · split at h
    · cases h
    · split at h
      · cases h
      · rename_i t s3 hq
        split at h
        · cases h
        · split at h
          · cases h
          · have ha : Adv s (s3.blanks.adv 1) := ((((((Adv.blanks s).then (Adv.name _)).then (Adv.blanks _)).then (Adv.quoted hq)).then (Adv.blanks _)).then (Adv.by _ 1))
            have W1 := hW.to ha
            split at h
            · cases h; exact W1
            · cases h; exact ⟨W1.all, W1.run⟩
theorem declOne_wh {N : Nat} {s s' : RS} (hW : Wh N s) (h : s.declOne = some s') : Wh N s' := by
  unfold RS.declOne at h
  split at h
  · cases hc : s.comment with
    | none => rw [hc] at h; cases h
    | some x =>
      obtain ⟨t, s1⟩ := x
      rw [hc] at h
      cases h
      exact hW.to (Adv.comment hc)
  · split at h
    · cases hc : s.instruction with
      | none => rw [hc] at h; cases h
      | some x =>
        obtain ⟨n, t, s1⟩ := x
        rw [hc] at h
        cases h
        exact hW.to (Adv.instruction hc).1
    · split at h
      · exact entity_wh (hW.to (Adv.by s 8)) h
      · cases h
theorem declGo_out {N : Nat} : ∀ (f : Nat) (s : RS), Wh N s → OutN N (RS.declGo f s)
  | 0, s, h => ⟨.inl rfl, h.place⟩
  | f + 1, s, h => by
    rw [declGo_eq]
    split
    · exact h.to ((Adv.blanks s).then (Adv.by _ 1))
    · split
      · exact ⟨.inl rfl, (h.to (Adv.blanks s)).place⟩
      · rename_i s2 h2
        exact declGo_out f s2 (declOne_wh (h.to (Adv.blanks s)) h2)
theorem doctype_out {N : Nat} {s : RS} (h : Wh N s) : OutN N s.doctype := by
  rw [doctype_eq]
  split
  · exact ⟨.inl rfl, h.place⟩
  · have hp := (((Adv.take s [60, 33, 68, 79, 67, 84, 89, 80, 69]).then (Adv.blanks _)).then (Adv.qname _)).then (Adv.blanks _)
    have W2 := h.to hp
    have hm : OutN N (typeMid (s.take [60, 33, 68, 79, 67, 84, 89, 80, 69]).blanks.qname.blanks) := by
      unfold typeMid
      split
      · exact declGo_out _ _ (W2.to (Adv.by _ 1))
      · exact W2
    split
    · rename_i e h3
      rw [h3] at hm
      exact hm
    · rename_i s3 h3
      rw [h3] at hm
      have hm' : Wh N s3 := hm
      split
      · exact hm'.to ((Adv.blanks s3).then (Adv.by _ 1))
      · exact ⟨.inl rfl, h.place⟩
theorem more_out {N f : Nat} {typed rooted : Bool} {o : Except Er RS} (h : OutN N o) (hn : ∀ s1, o = .ok s1 → Wh N s1 → OutN N (RS.docGo f typed rooted s1)) : OutN N (docMore f typed rooted o) := by
  cases o with
  | error e => exact h
  | ok s1 => exact hn s1 rfl h
theorem docGo_out {N : Nat} : ∀ (f : Nat) (typed rooted : Bool) (s : RS), Good s → OpnOk s → EOk s.ents → Wh N s → OutN N (RS.docGo f typed rooted s)
  | 0, typed, rooted, s, _, _, _, hW => ⟨.inl rfl, hW.place⟩
  | f + 1, typed, rooted, s0, hG0, hO0, hN0, hW0 => by
    rw [docGo_eq]
    have hG := hG0.to (Adv.blanks s0)
    have hO : OpnOk s0.blanks := hO0.to (Adv.blanks s0).same.2.1
    have hN : EOk s0.blanks.ents := hN0
    have hW := hW0.to (Adv.blanks s0)
    generalize s0.blanks = s at *
    split
    · rename_i h1
      refine more_out (com_out hW) fun s1 hs1 hw1 => ?_
      obtain ⟨_, k2, k3, k4⟩ := comment_less hG hO hN h1 hs1
      exact docGo_out f _ _ s1 k2 k3 k4 hw1
    · split
      · rename_i h1
        refine more_out (instr_out hW) fun s1 hs1 hw1 => ?_
        obtain ⟨_, k2, k3, k4⟩ := instruction_less hG hO hN h1 hs1
        exact docGo_out f _ _ s1 k2 k3 k4 hw1
      · split
        · rename_i h1
          refine more_out (doctype_out hW) fun s1 hs1 hw1 => ?_
          have h1' : s.sees [60, 33, 68, 79, 67, 84, 89, 80, 69] = true := by simp at h1; exact h1.1
          obtain ⟨_, k2, k3, k4⟩ := doctype_less hG hO hN h1' hs1
          exact docGo_out f _ _ s1 k2 k3 k4 hw1
        · split
          · rename_i h1
            have h1' : s.sees [60] = true ∧ rooted = false := by simpa using h1
            have ho := start_out hG hN h1'.1 hW
            have he : OutN N (docElem s) := by
              unfold docElem
              split
              · rename_i e hst
                rw [hst] at ho
                exact ho
              · rename_i s1 hst
                rw [hst] at ho
                obtain ⟨_, k2, k3, k4⟩ := start_less hG hO hN h1'.1 hst
                exact content_out _ s1 k2 k3 k4 ho
            refine more_out he fun s2 hs2 hw2 => ?_
            unfold docElem at hs2
            split at hs2
            · cases hs2
            · rename_i s1 hst
              obtain ⟨_, k2, k3, k4⟩ := start_less hG hO hN h1'.1 hst
              obtain ⟨_, j2, j3, j4⟩ := content_ok _ s1 s2 k2 k3 k4 hs2
              exact docGo_out f _ _ s2 j2 j3 j4 hw2
          · split
            · exact ⟨.inl rfl, hW.place⟩
            · exact hW
/-- An error is of the form or of the limits, and lies in the text. -/
theorem scan_er {cs : List Nat} {x : Er} (hl : okL cs) (hs : (T cs).size ≤ 32768) (h : scanX cs = .error x) : (x.1 = 5 ∨ x.1 = 6) ∧ x.2 ≤ (T cs).size := by
  obtain ⟨hG, hO⟩ := start_good hl hs
  have hW : Wh (T cs).size (RS.start cs) := ⟨rfl, Nat.zero_le _⟩
  have main : OutN (T cs).size (RS.start cs).document := by
    unfold RS.document
    split
    · split
      · exact ⟨.inl rfl, Nat.zero_le _⟩
      · rename_i s1 hst
        have ha := settings_adv hst
        exact docGo_out _ _ _ s1 (hG.to ha) (hO.to ha.same.2.1) (EOk.of ha.same.1 EOk.nil) (hW.to ha)
    · exact docGo_out _ _ _ (RS.start cs) hG hO EOk.nil hW
  unfold scanX at h
  split at h
  · rename_i e hd
    cases h
    rw [hd] at main
    exact main
  · cases h
end Go.Proofs.YtjjggncbhenffaaGreatDoor
