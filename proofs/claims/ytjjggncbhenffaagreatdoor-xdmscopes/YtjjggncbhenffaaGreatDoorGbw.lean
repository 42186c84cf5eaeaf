/- Two texts, laid as one. -/
import Derived.Test.YtjjggncbhenffaaGreatDoorGbm
import Derived.Test.YtjjggncbhenffaaGreatDoorGbo
import Derived.Test.YtjjggncbhenffaaGreatDoorGap
import Derived.BigQuiet
import Derived.Test.YtjjggncbhenffaaGreatDoorGbs
import Derived.Test.YtjjggncbhenffaaGreatDoorGbu
import Derived.Shelf.SlIterI.Nil
import Derived.Shelf.SlIter.Nil
import Derived.Shelf.SortM.Plain
import Derived.Shelf.SortM.SortNone
import Derived.Test.YtjjggncbhenffaaGreatDoorProg
import Derived.Test.YtjjggncbhenffaaGreatDoorGak
import Derived.Lib.LaidU8
import Derived.HandedShaped
import Derived.WalkKit
import Derived.ProofKit
import Derived.OpenShut
import Derived.ShutString
import Derived.Deep.DeepHandedRow
import Derived.Lib.LaidTab
/- Several texts, laid as one. -/
/- What must be whatever is asked: stencillaw03's live; tokens in memory, read. -/
namespace Go.Proofs.YtjjggncbhenffaaGreatDoor
open Go.RowKit
theorem tokRow_get : ∀ (ts : List XTok) (vs : List Value) (i j : Nat) (t : XTok) (v : Value), ts[i]? = some t → vs[i]? = some v → j < 4 → (tokRow ts vs)[i * 4 + j]? = (tokCells t v)[j]?
  | [], _, i, _, _, _, h, _, _ => by cases h
  | _ :: _, [], i, _, _, _, _, h, _ => by cases h
  | x :: ts, y :: vs, 0, j, t, v, h1, h2, hj => by
    cases h1
    cases h2
    show (tokCells x y ++ tokRow ts vs)[0 * 4 + j]? = _
    rw [Nat.zero_mul, Nat.zero_add, List.getElem?_append_left (by show j < 4; exact hj)]
  | x :: ts, y :: vs, i + 1, j, t, v, h1, h2, hj => by
    have ih := tokRow_get ts vs i j t v h1 h2 hj
    show (tokCells x y ++ tokRow ts vs)[(i + 1) * 4 + j]? = _
    rw [List.getElem?_append_right (by show 4 ≤ _; omega), ← ih]
    congr 1
    show (i + 1) * 4 + j - 4 = _
    omega
/-- Where a row's cells lie. -/
theorem owns_at {w : World} {B : Nat} {e : TypeId} {size : Nat} {v : Value} {n : Nat} {xs : List Value} (h : w.ownsRow B e size v n xs) (hn : 0 < n) : ∃ g cap, v = .slice (some ⟨g, 0, none⟩) n cap ∧ n ≤ cap ∧ B ≤ g ∧ g < w.heap.size ∧ ∀ j x, xs[j]? = some x → w.cell? ⟨g, j, none⟩ = some x := by
  have h' := h
  rcases h.2 with ⟨_, h0⟩ | ⟨g, cap, cur, rfl, h2, h3, h4⟩
  · omega
  · refine ⟨g, cap, rfl, h4.1, h2, (Array.getElem?_eq_some_iff.1 h3).1, fun j x hx => ?_⟩
    have hj : j < n * size := by
      have := (List.getElem?_eq_some_iff.1 hx).1
      rw [h.1] at this
      exact this
    have hc := h'.cellAt j hj
    rw [hc]
    exact hx
/-- A token in memory. -/
structure TokAt (w : World) (B g i : Nat) (t : XTok) : Prop where
  k : w.cell? ⟨g, i * 4, none⟩ = some (.int .i64 (t.kind : Nat))
  n : w.cell? ⟨g, i * 4 + 1, none⟩ = some (.string (T t.name))
  a : ∃ v, w.cell? ⟨g, i * 4 + 2, none⟩ = some v ∧ AttrsAt w B v t.attrs
  x : w.cell? ⟨g, i * 4 + 3, none⟩ = some (.string (T t.text))
theorem toks_at {w : World} {B : Nat} {vt : Value} {ts : List XTok} (h : Toks w B vt ts) (hn : 0 < ts.length) : ∃ g cap, vt = .slice (some ⟨g, 0, none⟩) ts.length cap ∧ ts.length ≤ cap ∧ B ≤ g ∧ g < w.heap.size ∧ ∀ (i : Nat) (t : XTok), ts[i]? = some t → TokAt w B g i t := by
  obtain ⟨vs, h1, h2, h3⟩ := h
  obtain ⟨g, cap, rfl, hc, hB, hg, hx⟩ := owns_at h2 hn
  refine ⟨g, cap, rfl, hc, hB, hg, fun i t ht => ?_⟩
  have hi : i < vs.length := by
    rw [h1]
    exact (List.getElem?_eq_some_iff.1 ht).1
  obtain ⟨v, hv⟩ : ∃ v, vs[i]? = some v := ⟨vs[i], List.getElem?_eq_getElem hi⟩
  refine ⟨?_, ?_, ⟨v, ?_, h3 i t v ht hv⟩, ?_⟩
  · exact hx (i * 4 + 0) _ (tokRow_get ts vs i 0 t v ht hv (by decide))
  · exact hx (i * 4 + 1) _ (tokRow_get ts vs i 1 t v ht hv (by decide))
  · exact hx (i * 4 + 2) _ (tokRow_get ts vs i 2 t v ht hv (by decide))
  · exact hx (i * 4 + 3) _ (tokRow_get ts vs i 3 t v ht hv (by decide))
end Go.Proofs.YtjjggncbhenffaaGreatDoor
/- A text, escaped, is read as itself: the law XmlscanTexts. -/
namespace Go.Proofs.YtjjggncbhenffaaGreatDoor
open Go.RowKit
theorem XEnv.up {B B' : Nat} {w : World} (h : XEnv B w) (hb : B ≤ B') : XEnv B' w := ⟨h.env, h.x, h.m, h.l, h.X, h.M, h.L, Nat.lt_of_lt_of_le h.g1 hb, Nat.lt_of_lt_of_le h.g2 hb, Nat.lt_of_lt_of_le h.g3 hb, Nat.lt_of_lt_of_le h.g4 hb⟩
theorem XEnv.at {w w' : World} (h : XEnv w.heap.size w) (hb : Below w.heap.size w w') : XEnv w'.heap.size w' := (h.low hb).up hb.size
end Go.Proofs.YtjjggncbhenffaaGreatDoor
/- Tokens that are the same: the reference's SameTokens. -/
namespace Go.Proofs.YtjjggncbhenffaaGreatDoor
open Go.RowKit
end Go.Proofs.YtjjggncbhenffaaGreatDoor
/- What is written is scanned as it was: the law XmlscanBack. -/
namespace Go.Proofs.YtjjggncbhenffaaGreatDoor
open Go.RowKit
theorem pairRow_get : ∀ (l : List (List Nat × List Nat)) (i : Nat) (x : List Nat × List Nat), l[i]? = some x → (pairRow l)[i * 2]? = some (.string (T x.1)) ∧ (pairRow l)[i * 2 + 1]? = some (.string (T x.2))
  | [], i, _, h => by cases h
  | y :: l, 0, x, h => by
    cases h
    exact ⟨rfl, rfl⟩
  | y :: l, i + 1, x, h => by
    have ih := pairRow_get l i x h
    have e : pairRow (y :: l) = .string (T y.1) :: .string (T y.2) :: pairRow l := rfl
    rw [e, show (i + 1) * 2 = i * 2 + 1 + 1 by omega]
    exact ih
theorem attrs_arg {w : World} {B : Nat} {v : Value} {l : List (List Nat × List Nat)} (h : AttrsAt w B v l) : PairsArg w v (l.map fun x => (T x.1, T x.2)) := by
  obtain ⟨a, c, rfl⟩ := owns_slice h
  refine ⟨a, c, by rw [List.length_map], fun hl => ?_⟩
  have hl0 : 0 < l.length := by
    cases l with
    | nil => exact absurd rfl hl
    | cons _ _ => simp
  obtain ⟨g, cap, he, _, _, _, hc⟩ := owns_at h hl0
  cases he
  refine ⟨g, 0, rfl, fun i x hx => ?_⟩
  rw [List.getElem?_map] at hx
  obtain ⟨y, hy, rfl⟩ := Option.map_eq_some_iff.1 hx
  obtain ⟨h1, h2⟩ := pairRow_get l i y hy
  rw [Nat.zero_add]
  exact ⟨hc _ _ h1, hc _ _ h2⟩
theorem tok_arg {w : World} {B g i : Nat} {t : XTok} (h : TokAt w B g i t) : TokArg w g (0 + i * 4) t.b := by
  rw [Nat.zero_add]
  obtain ⟨v, h1, h2⟩ := h.a
  exact ⟨h.k, h.n, ⟨v, h1, attrs_arg h2⟩, h.x⟩
theorem toks_arg {w : World} {B : Nat} {vt : Value} {xs : List XTok} (h : Toks w B vt xs) (hn : 0 < xs.length) : ∃ a cap, vt = .slice a (xs.map XTok.b).length cap ∧ ToksArg w a (xs.map XTok.b) := by
  obtain ⟨g, cap, rfl, _, _, _, ht⟩ := toks_at h hn
  refine ⟨some ⟨g, 0, none⟩, cap, by rw [List.length_map], fun _ => ⟨g, 0, rfl, fun i t hi => ?_⟩⟩
  rw [List.getElem?_map] at hi
  obtain ⟨x, hx, rfl⟩ := Option.map_eq_some_iff.1 hi
  exact tok_arg (ht i x hx)
theorem doc_pos {o : List (List Nat)} {k : Nat} {xs : List XTok} (h : DocT o false k xs) : 0 < xs.length := by
  cases h <;> simp
end Go.Proofs.YtjjggncbhenffaaGreatDoor
/- Every error of Scan is one of two, and its place lies in the text: in plain terms. -/
namespace Go.Proofs.YtjjggncbhenffaaGreatDoor
/-- A reader of a text of so many bytes. -/
structure Wh (N : Nat) (s : RS) : Prop where
  all : (tx (s.pre ++ s.rest)).length = N
  run : s.runAt ≤ N
def ErN (N : Nat) (x : Er) : Prop := (x.1 = 5 ∨ x.1 = 6) ∧ x.2 ≤ N
def OutN (N : Nat) (o : Except Er RS) : Prop := match o with
  | .error x => ErN N x
  | .ok s' => Wh N s'
theorem Wh.place {N : Nat} {s : RS} (h : Wh N s) : s.place ≤ N := by
  have := h.all
  rw [tx_len_app] at this
  unfold RS.place
  omega
theorem Wh.t {N : Nat} {s s' : RS} (h : Wh N s) (ha : AdvT s s') : Wh N s' := by
  obtain ⟨k, n, rfl, _, _⟩ := ha
  have e := adv_whole s k
  exact ⟨by show (tx ((s.adv k).pre ++ (s.adv k).rest)).length = N; rw [e]; exact h.all, h.run⟩
theorem Wh.to {N : Nat} {s s' : RS} (h : Wh N s) (ha : Adv s s') : Wh N s' := h.t ha.t
theorem Wh.with {N : Nat} {s : RS} (h : Wh N s) (o : List (List Nat)) (r : List Nat) : Wh N { s with opn := o, run := r } := ⟨h.all, h.run⟩
theorem tell_out {N : Nat} {s : RS} {t : XTok} {pl : Nat} (h : Wh N s) (hp : pl ≤ N) : OutN N (s.tell t pl) := by
  have hpl := h.place
  have hf : s.flush.pre = s.pre ∧ s.flush.rest = s.rest := by unfold RS.flush; split <;> exact ⟨rfl, rfl⟩
  unfold RS.tell
  split
  · exact ⟨.inr rfl, hp⟩
  · exact ⟨by show (tx (s.flush.pre ++ s.flush.rest)).length = N; rw [hf.1, hf.2]; exact h.all, hpl⟩
theorem room_out {N : Nat} {s : RS} (h : Wh N s) : OutN N s.room := by
  unfold RS.room
  split
  · exact ⟨.inr rfl, h.run⟩
  · exact h
theorem spend_er {o : List (List Nat)} {s n e : Nat} (h : spendX o s n = .error e) : e = 6 := by
  unfold spendX at h
  split at h
  · cases h
  · split at h
    · cases h; rfl
    · cases h
theorem text_er (add : Nat → Ref → Except Nat (List Nat × Nat)) (hadd : ∀ s r e, add s r = .error e → e = 5 ∨ e = 6) (flat : Bool) (opn : List (List Nat)) : ∀ (f spent : Nat) (l : List Nat) (e : Nat), textX add flat opn f spent l = .error e → e = 5 ∨ e = 6
  | 0, _, _, _, h => by cases h
  | f + 1, spent, l, e, h => by
    rw [textX] at h
    split at h
    · cases h
    · simp only at h
      split at h
      · rename_i hs; cases h; exact .inr (spend_er hs)
      · split at h
        · cases h
        · split at h
          · cases h; exact .inl rfl
          · split at h
            · rename_i ha; cases h; exact hadd _ _ _ ha
            · split at h
              · rename_i ht; cases h; exact text_er add hadd flat opn f _ _ _ ht
              · cases h
theorem add_er (ents : List (List Nat × List Nat)) (flat : Bool) : ∀ (d : Nat) (opn : List (List Nat)) (spent : Nat) (r : Ref) (e : Nat), addX ents flat d opn spent r = .error e → e = 5 ∨ e = 6
  | 0, _, _, _, _, h => by cases h; exact .inr rfl
  | d + 1, opn, spent, r, e, h => by
    rw [addX] at h
    split at h
    · split at h
      · rename_i hs; cases h; exact .inr (spend_er hs)
      · cases h
    · split at h
      · cases h; exact .inl rfl
      · split at h
        · cases h; exact .inr rfl
        · split at h
          · rename_i hs; cases h; exact .inr (spend_er hs)
          · exact text_er _ (fun s r e => add_er ents flat d _ s r e) flat _ _ _ _ _ h
theorem ref_er {N : Nat} {s : RS} {flat : Bool} {x : Er} (h : Wh N s) (hr : s.reference flat = .error x) : ErN N x := by
  unfold RS.reference at hr
  split at hr
  · cases hr; exact ⟨.inl rfl, h.place⟩
  · split at hr
    · rename_i ha
      cases hr
      exact ⟨add_er _ _ _ _ _ _ _ ha, h.place⟩
    · cases hr
theorem value_er (N q tag : Nat) (ht : tag ≤ N) : ∀ (f : Nat) (s : RS) (t : List Nat) (x : Er), EOk s.ents → Good s → Wh N s → RS.valueGo q tag f s t = .error x → ErN N x
  | 0, s, t, x, _, _, _, h => by cases h; exact ⟨.inl rfl, ht⟩
  | f + 1, s, t, x, hN, hG, hW, h => by
    rw [valueGo_eq] at h
    have ha := Adv.by s (s.rest.takeWhile (plainC q)).length
    have G1 := hG.to ha
    have W1 := hW.to ha
    have N1 : EOk (s.adv (s.rest.takeWhile (plainC q)).length).ents := hN
    generalize s.rest.takeWhile (plainC q) = p at *
    generalize s.adv p.length = s1 at *
    split at h
    · cases h
    · split at h
      · split at h
        · rename_i e hr
          cases h
          exact ref_er W1 hr
        · rename_i u s2 hr
          have r1 := ref_t N1 G1.fine.okR G1.sp hr
          exact value_er N q tag ht f s2 _ x (EOk.of r1.1.same.1 N1) (G1.t r1.1) (W1.t r1.1) h
      · cases h; exact ⟨.inl rfl, ht⟩
theorem attrs_er (N tag : Nat) (ht : tag ≤ N) : ∀ (f : Nat) (s : RS) (acc : List (List Nat × List Nat)) (x : Er), EOk s.ents → Good s → Wh N s → RS.attrsGo tag f s acc = .error x → ErN N x
  | 0, s, acc, x, _, _, _, h => by cases h; exact ⟨.inl rfl, ht⟩
  | f + 1, s, acc, x, hN, hG, hW, h => by
    rw [attrsGo_eq] at h
    split at h
    · cases h
    · split at h
      · cases h; exact ⟨.inl rfl, ht⟩
      · split at h
        · cases h; exact ⟨.inl rfl, ht⟩
        · rename_i s3 heq
          have ha3 : Adv s s3 := ((Adv.blanks s).then (Adv.qname _)).then (Adv.equals heq)
          have G3 := hG.to ha3
          have N3 := EOk.of ha3.same.1 hN
          have W3 := hW.to ha3
          split at h
          · rename_i e hv
            cases h
            unfold RS.value at hv
            split at hv
            · cases hv; exact ⟨.inl rfl, ht⟩
            · rename_i q s5 hq
              exact value_er N q tag ht _ s5 [] _ (EOk.of (Adv.quote hq).same.1 N3) (G3.to (Adv.quote hq)) (W3.to (Adv.quote hq)) hv
          · rename_i v s4 hv
            have ha4 := value_adv N3 G3.fine.okR G3.sp hv
            exact attrs_er N tag ht f s4 _ x (EOk.of ha4.same.1 N3) (G3.t ha4) (W3.t ha4) h
theorem com_out {N : Nat} {s : RS} (h : Wh N s) : OutN N s.tellComment := by
  unfold RS.tellComment
  split
  · exact ⟨.inl rfl, h.place⟩
  · rename_i t s1 hc
    exact tell_out (h.to (Adv.comment hc)) h.place
theorem instr_out {N : Nat} {s : RS} (h : Wh N s) : OutN N s.tellInstruction := by
  unfold RS.tellInstruction
  split
  · exact ⟨.inl rfl, h.place⟩
  · rename_i n t s1 hc
    exact tell_out (h.to (Adv.instruction hc).1) h.place
theorem end_out {N : Nat} {s : RS} (h : Wh N s) : OutN N s.endTag := by
  rw [endTag_eq]
  split
  · have ha : Adv s ((s.take [60, 47]).qname.blanks.adv 1) := (((Adv.take s _).then (Adv.qname _)).then (Adv.blanks _)).then (Adv.by _ 1)
    exact tell_out ((h.to ha).with _ _) h.place
  · exact ⟨.inl rfl, h.place⟩
theorem start_out {N : Nat} {s : RS} (hG : Good s) (hN : EOk s.ents) (hs : s.sees [60] = true) (h : Wh N s) : OutN N s.startTag := by
  rw [startTag_eq, take_adv hs]
  split
  · exact ⟨.inl rfl, h.place⟩
  · have h2 : Adv (s.adv 1) (s.adv 1).qname := Adv.qname _
    have h2' := (Adv.by s 1).then h2
    have G2 := hG.to h2'
    have N2 := EOk.of h2'.same.1 hN
    have W2 := h.to h2'
    split
    · rename_i e hat
      exact attrs_er N s.place h.place _ _ [] e N2 G2 W2 hat
    · rename_i a s3 hat
      have h3 : AdvT s s3 := h2'.t.then (attrsGo_adv s.place _ _ [] a s3 N2 G2.fine.okR G2.sp hat)
      have h5' : AdvT s ((s3.take [47]).adv 1) := (h3.then (Adv.take s3 [47]).t).then (Adv.by _ 1).t
      have W5 := h.t h5'
      split
      · exact ⟨.inl rfl, h.place⟩
      · split
        · exact ⟨.inr rfl, h.place⟩
        · have ho := tell_out (t := ⟨2, qnameA (s.adv [60].length).rest, a, []⟩) W5 h.place
          split
          · rename_i e htl
            rw [htl] at ho
            exact ho
          · rename_i s6 htl
            rw [htl] at ho
            split
            · exact tell_out ho h.place
            · exact Wh.with ho _ _
theorem one_out {N : Nat} {s : RS} (hG : Good s) (hN : EOk s.ents) (h : Wh N s) : OutN N s.contentOne := by
  unfold RS.contentOne
  split
  · exact end_out h
  · split
    · exact com_out h
    · split
      · unfold RS.section'
        split
        · exact ⟨.inl rfl, h.place⟩
        · rename_i t s1 ht
          have ha := (Adv.take s [60, 33, 91, 67, 68, 65, 84, 65, 91]).then (Adv.takeTo ht).1
          exact room_out ((h.to ha).with _ _)
      · split
        · exact instr_out h
        · split
          · rename_i h1
            exact start_out hG hN h1 h
          · split
            · unfold RS.refRun
              split
              · rename_i e ht
                exact ref_er h ht
              · rename_i t s1 ht
                have ha := (ref_t hN hG.fine.okR hG.sp ht).1
                exact room_out ((h.t ha).with _ _)
            · split
              · unfold RS.plain
                exact room_out ((h.to (Adv.by s (plainA s.rest).length)).with _ _)
              · exact ⟨.inl rfl, h.place⟩
theorem content_out {N : Nat} : ∀ (f : Nat) (s : RS), Good s → OpnOk s → EOk s.ents → Wh N s → OutN N (RS.content f s)
  | 0, s, _, _, _, h => by unfold RS.content; exact h
  | f + 1, s, hG, hO, hN, h => by
    unfold RS.content
    split
    · exact h
    · have ho := one_out hG hN h
      split
      · rename_i e hc
        rw [hc] at ho
        exact ho
      · rename_i s1 hc
        rw [hc] at ho
        obtain ⟨k1, k2, k3, k4⟩ := contentOne_ok hG hO hN hc
        exact content_out f s1 k2 k3 k4 ho
theorem entity_wh {N : Nat} {s s' : RS} (hW : Wh N s) (h : s.entity = some s') : Wh N s' := by
  rw [entity_eq] at h
  split at h
  · cases h
  · split at h
    · cases h
    · split at h
      · cases h
      · rename_i t s3 hq
        split at h
        · cases h
        · split at h
          · cases h
          · have ha : Adv s (s3.blanks.adv 1) := ((((((Adv.blanks s).then (Adv.name _)).then (Adv.blanks _)).then (Adv.quoted hq)).then (Adv.blanks _)).then (Adv.by _ 1))
            have W1 := hW.to ha
            split at h
            · cases h; exact W1
            · cases h; exact ⟨W1.all, W1.run⟩
theorem declOne_wh {N : Nat} {s s' : RS} (hW : Wh N s) (h : s.declOne = some s') : Wh N s' := by
  unfold RS.declOne at h
  split at h
  · cases hc : s.comment with
    | none => rw [hc] at h; cases h
    | some x =>
      obtain ⟨t, s1⟩ := x
      rw [hc] at h
      cases h
      exact hW.to (Adv.comment hc)
  · split at h
    · cases hc : s.instruction with
      | none => rw [hc] at h; cases h
      | some x =>
        obtain ⟨n, t, s1⟩ := x
        rw [hc] at h
        cases h
        exact hW.to (Adv.instruction hc).1
    · split at h
      · exact entity_wh (hW.to (Adv.by s 8)) h
      · cases h
theorem declGo_out {N : Nat} : ∀ (f : Nat) (s : RS), Wh N s → OutN N (RS.declGo f s)
  | 0, s, h => ⟨.inl rfl, h.place⟩
  | f + 1, s, h => by
    rw [declGo_eq]
    split
    · exact h.to ((Adv.blanks s).then (Adv.by _ 1))
    · split
      · exact ⟨.inl rfl, (h.to (Adv.blanks s)).place⟩
      · rename_i s2 h2
        exact declGo_out f s2 (declOne_wh (h.to (Adv.blanks s)) h2)
theorem doctype_out {N : Nat} {s : RS} (h : Wh N s) : OutN N s.doctype := by
  rw [doctype_eq]
  split
  · exact ⟨.inl rfl, h.place⟩
  · have hp := (((Adv.take s [60, 33, 68, 79, 67, 84, 89, 80, 69]).then (Adv.blanks _)).then (Adv.qname _)).then (Adv.blanks _)
    have W2 := h.to hp
    have hm : OutN N (typeMid (s.take [60, 33, 68, 79, 67, 84, 89, 80, 69]).blanks.qname.blanks) := by
      unfold typeMid
      split
      · exact declGo_out _ _ (W2.to (Adv.by _ 1))
      · exact W2
    split
    · rename_i e h3
      rw [h3] at hm
      exact hm
    · rename_i s3 h3
      rw [h3] at hm
      have hm' : Wh N s3 := hm
      split
      · exact hm'.to ((Adv.blanks s3).then (Adv.by _ 1))
      · exact ⟨.inl rfl, h.place⟩
theorem more_out {N f : Nat} {typed rooted : Bool} {o : Except Er RS} (h : OutN N o) (hn : ∀ s1, o = .ok s1 → Wh N s1 → OutN N (RS.docGo f typed rooted s1)) : OutN N (docMore f typed rooted o) := by
  cases o with
  | error e => exact h
  | ok s1 => exact hn s1 rfl h
theorem docGo_out {N : Nat} : ∀ (f : Nat) (typed rooted : Bool) (s : RS), Good s → OpnOk s → EOk s.ents → Wh N s → OutN N (RS.docGo f typed rooted s)
  | 0, typed, rooted, s, _, _, _, hW => ⟨.inl rfl, hW.place⟩
  | f + 1, typed, rooted, s0, hG0, hO0, hN0, hW0 => by
    rw [docGo_eq]
    have hG := hG0.to (Adv.blanks s0)
    have hO : OpnOk s0.blanks := hO0.to (Adv.blanks s0).same.2.1
    have hN : EOk s0.blanks.ents := hN0
    have hW := hW0.to (Adv.blanks s0)
    generalize s0.blanks = s at *
    split
    · rename_i h1
      refine more_out (com_out hW) fun s1 hs1 hw1 => ?_
      obtain ⟨_, k2, k3, k4⟩ := comment_less hG hO hN h1 hs1
      exact docGo_out f _ _ s1 k2 k3 k4 hw1
    · split
      · rename_i h1
        refine more_out (instr_out hW) fun s1 hs1 hw1 => ?_
        obtain ⟨_, k2, k3, k4⟩ := instruction_less hG hO hN h1 hs1
        exact docGo_out f _ _ s1 k2 k3 k4 hw1
      · split
        · rename_i h1
          refine more_out (doctype_out hW) fun s1 hs1 hw1 => ?_
          have h1' : s.sees [60, 33, 68, 79, 67, 84, 89, 80, 69] = true := by simp at h1; exact h1.1
          obtain ⟨_, k2, k3, k4⟩ := doctype_less hG hO hN h1' hs1
          exact docGo_out f _ _ s1 k2 k3 k4 hw1
        · split
          · rename_i h1
            have h1' : s.sees [60] = true ∧ rooted = false := by simpa using h1
            have ho := start_out hG hN h1'.1 hW
            have he : OutN N (docElem s) := by
              unfold docElem
              split
              · rename_i e hst
                rw [hst] at ho
                exact ho
              · rename_i s1 hst
                rw [hst] at ho
                obtain ⟨_, k2, k3, k4⟩ := start_less hG hO hN h1'.1 hst
                exact content_out _ s1 k2 k3 k4 ho
            refine more_out he fun s2 hs2 hw2 => ?_
            unfold docElem at hs2
            split at hs2
            · cases hs2
            · rename_i s1 hst
              obtain ⟨_, k2, k3, k4⟩ := start_less hG hO hN h1'.1 hst
              obtain ⟨_, j2, j3, j4⟩ := content_ok _ s1 s2 k2 k3 k4 hs2
              exact docGo_out f _ _ s2 j2 j3 j4 hw2
          · split
            · exact ⟨.inl rfl, hW.place⟩
            · exact hW
/-- An error is of the form or of the limits, and lies in the text. -/
theorem scan_er {cs : List Nat} {x : Er} (hl : okL cs) (hs : (T cs).size ≤ 32768) (h : scanX cs = .error x) : (x.1 = 5 ∨ x.1 = 6) ∧ x.2 ≤ (T cs).size := by
  obtain ⟨hG, hO⟩ := start_good hl hs
  have hW : Wh (T cs).size (RS.start cs) := ⟨rfl, Nat.zero_le _⟩
  have main : OutN (T cs).size (RS.start cs).document := by
    unfold RS.document
    split
    · split
      · exact ⟨.inl rfl, Nat.zero_le _⟩
      · rename_i s1 hst
        have ha := settings_adv hst
        exact docGo_out _ _ _ s1 (hG.to ha) (hO.to ha.same.2.1) (EOk.of ha.same.1 EOk.nil) (hW.to ha)
    · exact docGo_out _ _ _ (RS.start cs) hG hO EOk.nil hW
  unfold scanX at h
  split at h
  · rename_i e hd
    cases h
    rw [hd] at main
    exact main
  · cases h
end Go.Proofs.YtjjggncbhenffaaGreatDoor
/- Several texts, laid as one. -/
/- The tree of a text: xdm's Parse. -/
namespace Go.Proofs.YtjjggncbhenffaaGreatDoor
open Go.RowKit Go.Maps
theorem doc_ok {cs : List Nat} {ts : List XTok} (hl : okL cs) (hs : (T cs).size ≤ 32768) (h : scanX cs = .ok ts) : DocOk ts := by
  obtain ⟨h1, h2, h3, _⟩ := write_told hl hs h
  exact ⟨h1, h2, fun x hx => (scan_F hl hs h x hx).ok, h3⟩
theorem adds_errs : ∀ {ts : List XTok} {s : BS} {n : Nat}, s.adds ts = .error n → n = 7 ∨ n = 8
  | [], s, n, h => by cases h
  | t :: ts, s, n, h => by
    rw [adds_cons] at h
    split at h
    · rename_i ha
      cases h
      exact add_errs ha
    · exact adds_errs h
theorem tree_errs {ts : List XTok} {n : Nat} (h : treeD ts = .error n) : n = 7 ∨ n = 8 := by
  unfold treeD at h
  split at h
  · rename_i ha
    cases h
    exact adds_errs ha
  · cases h
set_option maxRecDepth 100000 in
set_option maxHeartbeats 4000000 in
theorem parse_T (cs : List Nat) (w : World) (hl : okL cs) (hs : (T cs).size ≤ 32768) (hE : XEnv w.heap.size w) :
    Calls Tryz.prog 14 #[.string (T cs)] w fun e w' => TreeOut w' w.heap.size (parseD cs) e ∧ Below w.heap.size w w' := by
  have HE := hide hE
  have HS := hide (scan_any cs w hl hs hE)
  cases hsc : scanX cs with
  | error x =>
    rw [hsc] at HS
    have her := (scan_er hl hs hsc).1
    have HEQ : Hid (parseD cs = .error x.1) := hide (by unfold parseD; rw [hsc])
    obtain ⟨n, pl⟩ := x
    simp only at her HEQ
    clear hsc hE
    rcases her with rfl | rfl
    all_goals
      go_enter Tryz.func14, Tryz.ntmps14
      go_wp2_with fail
      refine (unhide HS).mono ?_
      rintro e w1 ⟨hp, hb1⟩
      have hp' := hp
      unfold scanP at hp'
      subst hp'
      go_wp2
      go_returns
      rw [unhide HEQ]
      exact ⟨rfl, hb1⟩
  | ok ts =>
    rw [hsc] at HS
    have hdk := doc_ok hl hs hsc
    have HEQ : Hid (parseD cs = treeD ts) := hide (by unfold parseD; rw [hsc])
    have hpos := doc_pos hdk.doc
    have HBU := hide (fun W a cap (hb : Below w.heap.size w W) (hv : ToksArg W a (ts.map XTok.b)) => build_any ts a cap W hdk hv ((unhide HE).at hb))
    have HTA := hide (fun (W : World) (B : Nat) (v : Value) (h : Toks W B v ts) => toks_arg h hpos)
    have hml : (ts.map XTok.b).length = ts.length := List.length_map ..
    clear hsc hE hdk
    go_enter Tryz.func14, Tryz.ntmps14
    go_wp2_with fail
    refine (unhide HS).mono ?_
    rintro e w1 ⟨hp, hb1⟩
    obtain ⟨vt, he, hT⟩ := hp
    subst he
    obtain ⟨a, cap, hvt, hA⟩ := unhide HTA _ _ _ hT
    rw [hml] at hvt
    subst hvt
    have HB2 := hide (unhide HBU w1 a cap hb1 hA)
    clear hT hA HBU HTA HS
    go_wp2_with fail
    refine (unhide HB2).mono ?_
    rintro e w2 ⟨hO, hb2⟩
    have hb02 := Below.then hb1 hb2
    cases htr : treeD ts with
    | error n =>
      rw [htr] at hO
      have hO' : e = .returned (.tuple #[.pointer none, .int .i64 (n : Nat)]) := hO
      subst hO'
      rw [htr] at HEQ
      rcases tree_errs htr with rfl | rfl
      all_goals
        clear hO htr
        go_wp2
        go_returns
        rw [unhide HEQ]
        exact ⟨rfl, hb02⟩
    | ok ns =>
      rw [htr] at hO HEQ
      obtain ⟨q, he, hq⟩ := hO
      subst he
      have HQ : Hid (TreeAt w2 w.heap.size q ns) := hide (by
        obtain ⟨h1, vn, h2, vs, h3, h4, h5⟩ := hq
        have hle := hb1.size
        refine ⟨by omega, vn, h2, vs, h3, ?_, fun i x v hx hv => (h5 i x v hx hv).low hle⟩
        exact owns_lower h4 hle)
      clear hq htr
      go_wp2
      go_returns
      rw [unhide HEQ]
      exact ⟨⟨q, rfl, unhide HQ⟩, hb02⟩
end Go.Proofs.YtjjggncbhenffaaGreatDoor
/- What must be whatever is asked: stencillaw04's live. -/
namespace Go.Proofs.YtjjggncbhenffaaGreatDoor
open Go.RowKit Go.Maps
def liveY : List Nat := [60, 97, 32, 120, 109, 108, 110, 115, 61, 34, 117, 34, 62, 60, 98, 32, 99, 61, 34, 49, 34, 62, 120, 60, 47, 98, 62, 60, 47, 97, 62]
theorem liveY_T : (⟨#[60, 97, 32, 120, 109, 108, 110, 115, 61, 34, 117, 34, 62, 60, 98, 32, 99, 61, 34, 49, 34, 62, 120, 60, 47, 98, 62, 60, 47, 97, 62]⟩ : ByteArray) = T liveY := by
  have : tx liveY = [60, 97, 32, 120, 109, 108, 110, 115, 61, 34, 117, 34, 62, 60, 98, 32, 99, 61, 34, 49, 34, 62, 120, 60, 47, 98, 62, 60, 47, 97, 62] := by decide +kernel
  unfold T
  rw [this]
theorem liveY_ok : okL liveY := by
  unfold okL
  decide +kernel
def liveN : List XNode := match parseD liveY with
  | .ok ns => ns
  | .error _ => []
theorem liveY_parse : parseD liveY = .ok liveN := by kernel_rfl
theorem liveN_len : liveN.length = 5 := by kernel_rfl
theorem liveN_1 : nmV (nodeD liveN 1).name = .agg #[.string ⟨#[117]⟩, .string ⟨#[]⟩, .string ⟨#[97]⟩] := by kernel_rfl
theorem liveN_3k : (nodeD liveN 3).kind = 3 := by kernel_rfl
theorem liveN_3 : nmV (nodeD liveN 3).name = .agg #[.string ⟨#[]⟩, .string ⟨#[]⟩, .string ⟨#[99]⟩] := by kernel_rfl
theorem liveN_s : T (strD liveN 0) = ⟨#[120]⟩ := by kernel_rfl
theorem liveN_4 : (nodeD liveN 4).parent = 2 := by kernel_rfl
theorem parse_ok {cs : List Nat} {ns : List XNode} (hl : okL cs) (hs : (T cs).size ≤ 32768) (h : parseD cs = .ok ns) : TreeOk ns := by
  unfold parseD at h
  split at h
  · cases h
  · rename_i ts hts
    exact (doc_ok hl hs hts).tree h
theorem fldNm0 (a b c : Value) (W : World) : (Instr.field 47 (.agg #[a, b, c]) 0).run Tryz.prog W = .ok a W := by kernel_rfl
set_option maxRecDepth 100000 in
set_option maxHeartbeats 2000000 in
theorem live4_any (w : World) (hE : XEnv w.heap.size w) :
    Calls Tryz.prog 12 #[] w fun e w' => e = .returned (.bool true) ∧ Below w.heap.size w w' := by
  have hz : (T liveY).size ≤ 32768 := by rw [← liveY_T]; decide
  have HS := hide (parse_T liveY w liveY_ok hz hE)
  have HOK := hide (parse_ok liveY_ok hz liveY_parse)
  rw [liveY_parse, ← liveY_T] at HS
  clear hE hz
  have hfd := fldNm0
  go_enter Tryz.func12, Tryz.ntmps12
  go_wp2_with fail
  refine (unhide HS).mono ?_
  rintro e w1 ⟨⟨q, rfl, hT⟩, hb⟩
  have hTV : TreeV w1 w.heap.size (.pointer (some ⟨q, 0, none⟩)) liveN := .inr ⟨q, rfl, hT⟩
  have HL := hide (fun W (hb : Below w1.heap.size w1 W) => len_any _ _ _ W (hTV.on hb))
  have HN := hide (fun n W (hb : Below w1.heap.size w1 W) => trName_any _ _ _ n W (hTV.on hb))
  have HK := hide (fun n W (hb : Below w1.heap.size w1 W) => trKind_any _ _ _ n W (hTV.on hb))
  have HP := hide (fun n W (hb : Below w1.heap.size w1 W) => trParent_any _ _ _ n W (hTV.on hb))
  have HST := hide (fun n W (hb : Below w1.heap.size w1 W) => string_any _ _ _ n W (hTV.on hb) (unhide HOK).fin (unhide HOK).len (unhide HOK).txt)
  clear hT hTV HS
  have h0 := unhide HL w1 (Below.refl _ _)
  rw [liveN_len] at h0
  go_wp2_with fail
  refine h0.mono ?_
  rintro e w2 ⟨rfl, hb2⟩
  clear h0
  have h0 := unhide HN 1 w2 hb2
  rw [liveN_1] at h0
  go_wp2_with fail
  refine h0.mono ?_
  rintro e w3 ⟨rfl, hb3⟩
  clear h0
  have hb3 := Below.then hb2 hb3
  have h0 := unhide HK 3 w3 hb3
  rw [liveN_3k] at h0
  go_wp2_with fail
  refine h0.mono ?_
  rintro e w4 ⟨rfl, hb4⟩
  clear h0
  have hb4 := Below.then hb3 hb4
  have h0 := unhide HN 3 w4 hb4
  rw [liveN_3] at h0
  go_wp2_with fail
  refine h0.mono ?_
  rintro e w5 ⟨rfl, hb5⟩
  clear h0
  have hb5 := Below.then hb4 hb5
  have h0 := unhide HST 0 w5 hb5
  rw [liveN_s] at h0
  go_wp2_with fail
  refine h0.mono ?_
  rintro e w6 ⟨rfl, hb6⟩
  clear h0
  have hb6 := Below.then hb5 hb6
  have h0 := unhide HP 4 w6 hb6
  rw [liveN_4] at h0
  go_wp2_with fail
  refine h0.mono ?_
  rintro e w7 ⟨rfl, hb7⟩
  clear h0
  have hb7 := Below.then hb6 hb7
  go_wp2
  go_returns
  exact ⟨rfl, Below.then hb hb7⟩
end Go.Proofs.YtjjggncbhenffaaGreatDoor
/- A tree that is none: xdm's Nodes and Strip. -/
namespace Go.Proofs.YtjjggncbhenffaaGreatDoor
open Go.RowKit Go.Maps
end Go.Proofs.YtjjggncbhenffaaGreatDoor
/-
  DERIVED: THE SHELF's CONTRACTS AT THIS DUMP, IN PLAIN WORDS (tools/lay-plain.mjs out of 'YtjjggncbhenffaaGreatDoorXdmShTry.lean', which tools/lay-shelf.mjs wrote): THE SAME DECLARATIONS UNDER THE SAME NAMES: 'import', 'namespace', 'open', 'def', 'theorem' AND NOTHING ELSE: no command of the shelf's: FOR A HAND-IN. Each laying: the table of numbers ('.._ren') and one theorem, a field a fact of the dump's own or the kernel's comparison; each contract: ONE APPLICATION.
-/
namespace Go.Proofs
open Go.Shelf
def Tryz.keysS_ren : Go.Shelf.Ren := ⟨fun | 7 => 49 | 10 => 88 | n => n, fun | 23 => 67 | 26 => 9 | 3 => 95 | 28 => 92 | 0 => 0 | 27 => 91 | 33 => 44 | 4 => 4 | n => n, fun | n => n⟩
theorem Tryz.keysS : Go.Proofs.SlLaysZ.n7 Tryz.prog Tryz.keysS_ren := {
  mixed := by kernel_rfl
  f7 := ⟨Tryz.f49.name, by decide, Tryz.func49.trans (congrArg some (by kernel_rfl))⟩
  f10 := ⟨Tryz.f88.name, by decide, Tryz.func88.trans (congrArg some (by kernel_rfl))⟩
  t0 := Tryz.underlying0
  a0 := Tryz.isAgg0
  z0 := Tryz.sizeOf0
  v0 := Tryz.zeroValue0
  t4 := Tryz.underlying4
  a4 := Tryz.isAgg4
  z4 := Tryz.sizeOf4
  v4 := Tryz.zeroValue4
  t23 := Tryz.underlying67
  a23 := Tryz.isAgg67
  z23 := Tryz.sizeOf67
  v23 := Tryz.zeroValue67
  t26 := Tryz.underlying9
  a26 := Tryz.isAgg9
  z26 := Tryz.sizeOf9
  v26 := Tryz.zeroValue9
  t27 := Tryz.underlying91
  a27 := Tryz.isAgg91
  z27 := Tryz.sizeOf91
  v27 := Tryz.zeroValue91
  t28 := Tryz.underlying92
  a28 := Tryz.isAgg92
  z28 := Tryz.sizeOf92
  v28 := Tryz.zeroValue92
  t33 := Tryz.underlying44
  a33 := Tryz.isAgg44
  z33 := Tryz.sizeOf44
  v33 := Tryz.zeroValue44 }
def Tryz.sortedS_ren : Go.Shelf.Ren := ⟨fun | 6 => 48 | 8 => 86 | 9 => 87 | 11 => 124 | 13 => 126 | 12 => 125 | 23 => 177 | 24 => 178 | 14 => 168 | 15 => 169 | 16 => 170 | 17 => 171 | 18 => 172 | 19 => 173 | 20 => 174 | 21 => 175 | 22 => 176 | 25 => 201 | 26 => 202 | 27 => 203 | 28 => 204 | 29 => 205 | 30 => 206 | 31 => 225 | n => n, fun | 26 => 9 | 28 => 92 | 24 => 89 | 0 => 0 | 3 => 3 | 37 => 152 | 48 => 187 | 50 => 189 | 4 => 4 | 40 => 181 | 39 => 180 | 45 => 113 | 5 => 5 | 9 => 9 | 51 => 209 | 55 => 213 | 57 => 228 | 58 => 229 | 33 => 44 | n => n, fun | n => n⟩
theorem Tryz.sortedS : Go.Proofs.SlLaysZ.n6 Tryz.prog Tryz.sortedS_ren := {
  mixed := by kernel_rfl
  f6 := ⟨Tryz.f48.name, by decide, Tryz.func48.trans (congrArg some (by kernel_rfl))⟩
  f8 := ⟨Tryz.f86.name, by decide, Tryz.func86.trans (congrArg some (by kernel_rfl))⟩
  f11 := ⟨Tryz.f124.name, by decide, Tryz.func124.trans (congrArg some (by kernel_rfl))⟩
  t0 := Tryz.underlying0
  a0 := Tryz.isAgg0
  z0 := Tryz.sizeOf0
  v0 := Tryz.zeroValue0
  t24 := Tryz.underlying89
  a24 := Tryz.isAgg89
  z24 := Tryz.sizeOf89
  v24 := Tryz.zeroValue89
  t26 := Tryz.underlying9
  a26 := Tryz.isAgg9
  z26 := Tryz.sizeOf9
  v26 := Tryz.zeroValue9
  t28 := Tryz.underlying92
  a28 := Tryz.isAgg92
  z28 := Tryz.sizeOf92
  v28 := Tryz.zeroValue92
  i26 := by kernel_rfl }
def Tryz.sortS_ren : Go.Shelf.Ren := ⟨fun | 6 => 87 | 8 => 126 | 9 => 125 | 19 => 177 | 20 => 178 | 21 => 168 | 22 => 169 | 23 => 170 | 24 => 171 | 25 => 172 | 26 => 173 | 27 => 174 | 28 => 175 | 29 => 176 | 36 => 201 | 31 => 202 | 32 => 203 | 37 => 204 | 38 => 205 | 39 => 206 | 41 => 225 | n => n, fun | 27 => 89 | 29 => 9 | 3 => 3 | 32 => 152 | 26 => 89 | 0 => 0 | 44 => 187 | 46 => 189 | 4 => 4 | 36 => 181 | 35 => 180 | 41 => 113 | 5 => 5 | 9 => 9 | 53 => 209 | 57 => 213 | 63 => 228 | 64 => 229 | n => n, fun | n => n⟩
theorem Tryz.sortS : Go.Proofs.SlLaysM.n6 Tryz.prog Tryz.sortS_ren := {
  mixed := by kernel_rfl
  f6 := ⟨Tryz.f87.name, by decide, Tryz.func87.trans (congrArg some (by kernel_rfl))⟩
  f8 := Tryz.func126.trans (congrArg some (by kernel_rfl))
  f9 := ⟨Tryz.f125.name, by decide, Tryz.func125.trans (congrArg some (by kernel_rfl))⟩
  f19 := Tryz.func177.trans (congrArg some (by kernel_rfl))
  f20 := Tryz.func178.trans (congrArg some (by kernel_rfl))
  f21 := ⟨Tryz.f168.name, by decide, Tryz.func168.trans (congrArg some (by kernel_rfl))⟩
  f22 := ⟨Tryz.f169.name, by decide, Tryz.func169.trans (congrArg some (by kernel_rfl))⟩
  f23 := ⟨Tryz.f170.name, by decide, Tryz.func170.trans (congrArg some (by kernel_rfl))⟩
  f24 := ⟨Tryz.f171.name, by decide, Tryz.func171.trans (congrArg some (by kernel_rfl))⟩
  f25 := ⟨Tryz.f172.name, by decide, Tryz.func172.trans (congrArg some (by kernel_rfl))⟩
  f26 := ⟨Tryz.f173.name, by decide, Tryz.func173.trans (congrArg some (by kernel_rfl))⟩
  f27 := ⟨Tryz.f174.name, by decide, Tryz.func174.trans (congrArg some (by kernel_rfl))⟩
  f28 := ⟨Tryz.f175.name, by decide, Tryz.func175.trans (congrArg some (by kernel_rfl))⟩
  f29 := ⟨Tryz.f176.name, by decide, Tryz.func176.trans (congrArg some (by kernel_rfl))⟩
  f31 := Tryz.func202.trans (congrArg some (by kernel_rfl))
  f32 := Tryz.func203.trans (congrArg some (by kernel_rfl))
  f36 := ⟨Tryz.f201.name, by decide, Tryz.func201.trans (congrArg some (by kernel_rfl))⟩
  f37 := ⟨Tryz.f204.name, by decide, Tryz.func204.trans (congrArg some (by kernel_rfl))⟩
  f38 := ⟨Tryz.f205.name, by decide, Tryz.func205.trans (congrArg some (by kernel_rfl))⟩
  f39 := ⟨Tryz.f206.name, by decide, Tryz.func206.trans (congrArg some (by kernel_rfl))⟩
  f41 := ⟨Tryz.f225.name, by decide, Tryz.func225.trans (congrArg some (by kernel_rfl))⟩
  t0 := Tryz.underlying0
  a0 := Tryz.isAgg0
  z0 := Tryz.sizeOf0
  v0 := Tryz.zeroValue0
  t3 := Tryz.underlying3
  a3 := Tryz.isAgg3
  z3 := Tryz.sizeOf3
  v3 := Tryz.zeroValue3
  t4 := Tryz.underlying4
  a4 := Tryz.isAgg4
  z4 := Tryz.sizeOf4
  v4 := Tryz.zeroValue4
  t5 := Tryz.underlying5
  a5 := Tryz.isAgg5
  z5 := Tryz.sizeOf5
  v5 := Tryz.zeroValue5
  t9 := Tryz.underlying9
  a9 := Tryz.isAgg9
  z9 := Tryz.sizeOf9
  v9 := Tryz.zeroValue9
  t26 := Tryz.underlying89
  a26 := Tryz.isAgg89
  z26 := Tryz.sizeOf89
  v26 := Tryz.zeroValue89
  t27 := Tryz.underlying89
  a27 := Tryz.isAgg89
  z27 := Tryz.sizeOf89
  v27 := Tryz.zeroValue89
  t29 := Tryz.underlying9
  a29 := Tryz.isAgg9
  z29 := Tryz.sizeOf9
  v29 := Tryz.zeroValue9
  t32 := Tryz.underlying152
  a32 := Tryz.isAgg152
  z32 := Tryz.sizeOf152
  v32 := Tryz.zeroValue152
  t35 := Tryz.underlying180
  a35 := Tryz.isAgg180
  z35 := Tryz.sizeOf180
  v35 := Tryz.zeroValue180
  t36 := Tryz.underlying181
  a36 := Tryz.isAgg181
  z36 := Tryz.sizeOf181
  v36 := Tryz.zeroValue181
  t41 := Tryz.underlying113
  a41 := Tryz.isAgg113
  z41 := Tryz.sizeOf113
  v41 := Tryz.zeroValue113
  t44 := Tryz.underlying187
  a44 := Tryz.isAgg187
  z44 := Tryz.sizeOf187
  v44 := Tryz.zeroValue187
  t46 := Tryz.underlying189
  a46 := Tryz.isAgg189
  z46 := Tryz.sizeOf189
  v46 := Tryz.zeroValue189
  t53 := Tryz.underlying209
  a53 := Tryz.isAgg209
  z53 := Tryz.sizeOf209
  v53 := Tryz.zeroValue209
  t57 := Tryz.underlying213
  a57 := Tryz.isAgg213
  z57 := Tryz.sizeOf213
  v57 := Tryz.zeroValue213
  t63 := Tryz.underlying228
  a63 := Tryz.isAgg228
  z63 := Tryz.sizeOf228
  v63 := Tryz.zeroValue228
  t64 := Tryz.underlying229
  a64 := Tryz.isAgg229
  z64 := Tryz.sizeOf229
  v64 := Tryz.zeroValue229 }
end Go.Proofs
/- A tree that is none: xdm's Kids and Attrs. -/
namespace Go.Proofs.YtjjggncbhenffaaGreatDoor
open Go.RowKit Go.Maps Go.Sort Go.Shelf
end Go.Proofs.YtjjggncbhenffaaGreatDoor
/- The prefixes of a scope in their order: slices.Sorted(maps.Keys(..)). -/
namespace Go.Proofs.YtjjggncbhenffaaGreatDoor
open Go.RowKit Go.Maps Go.Sort Go.Shelf
theorem sortsS (m : Nat) : AnyZ.SortsIn Tryz.prog Tryz.sortedS_ren Fence.wide m :=
  ⟨fun blk off cap ss W hH hblk hsz => callsIn_wide.2 (AnyM.slices_Sort_string Tryz.sortS blk off cap ss W hH hblk hsz),
   fun p cap W => callsIn_wide.2 (AnyM.slices_Sort_string_none Tryz.sortS p cap W)⟩
theorem keys_any (mb : Option Nat) (w : World) :
    Calls Tryz.prog 49 #[.map mb] w fun e w' => e = .returned (.func (.func 88) #[] #[.pointer (some ⟨w.heap.size, 0, none⟩)]) ∧ w' = w.alloc (.cells #[.map mb] 67) :=
  callsIn_wide.1 (AnyZ.keys_in Tryz.keysS Fence.wide 5 trivial rfl mb w)
def keysL (s : Sc) : List (List UInt8) := s.map fun x => tx x.1
theorem sorted_any (B : Nat) (mb : Option Nat) (s : Sc) (w : World) (h : ScV w B (.map mb) s) (hl : s.length ≤ 1048576) :
    Calls Tryz.prog 48 #[.func (.func 88) #[] #[.pointer (some ⟨w.heap.size, 0, none⟩)]] (w.alloc (.cells #[.map mb] 67)) fun e w' => ∃ v ss, e = .returned v ∧ ss.Perm (keysL s) ∧
      w'.ownsRow (w.heap.size + 1) 9 1 v ss.length ((ss.mergeSort (fun x y => decide (x ≤ y))).map encStr) ∧ (v = .slice none 0 0 ↔ ss = []) ∧ Below (w.heap.size + 1) (w.alloc (.cells #[.map mb] 67)) w' := by
  have e1 : (w.alloc (.cells #[.map mb] 67)).heap.size = w.heap.size + 1 := by simp
  rcases h.2 with ⟨h1, rfl⟩ | ⟨b, h1, _, hown⟩
  · cases h1
    have hseq : SeqGives Fence.wide 2 Tryz.prog 88 #[.pointer (some ⟨w.heap.size, 0, none⟩)] encStr (fun ss : List (List UInt8) => ss = []) 0 (w.alloc (.cells #[.map none] 67)) :=
      AnyZ.keys_gives_nil (ρ := Tryz.keysS_ren) { Tryz.keysS with } Fence.wide _ trivial rfl w.heap.size _ (by simp) (by simp)
    have cS := AnyZ.sorted_in Tryz.sortedS Fence.wide 5 trivial trivial trivial trivial rfl (by omega) (sortsS _) (enters_of Tryz.func87 (by kernel_rfl) rfl) 88 #[.pointer (some ⟨w.heap.size, 0, none⟩)] trivial (enters_of Tryz.func88 (by kernel_rfl) rfl) _ 0 (Nat.zero_le _) (by omega) _ hseq
    refine (callsIn_wide.1 cS).mono ?_
    rintro e w' ⟨v, ss, rfl, rfl, hrow, hnil, hb⟩
    rw [e1] at hrow hb
    exact ⟨v, [], rfl, List.Perm.refl _, hrow, hnil, hb⟩
  · cases h1
    have hbl := hown.lt
    have hsz : Maps.size (scD s) = s.length := by show (s.map _).length = _; rw [List.length_map]
    have hky : strKeys (scD s) = keysL s := by
      show (s.map _).map _ = _
      rw [List.map_map]
      rfl
    have hseq : SeqGives Fence.wide 2 Tryz.prog 88 #[.pointer (some ⟨w.heap.size, 0, none⟩)] encStr (fun ss => ss.Perm (strKeys (scD s))) (Maps.size (scD s)) (w.alloc (.cells #[.map (some b)] 67)) :=
      AnyZ.keys_gives (ρ := Tryz.keysS_ren) { Tryz.keysS with } Fence.wide _ trivial rfl (by omega) w.heap.size b s.length (scD s) _ (by simp) (by simp) (by
        obtain ⟨es, clock, hb, Ft, hs, hD⟩ := hown
        exact ⟨es, clock, (Below.heap_alloc _ _ b hbl).trans hb, Ft, hs, hD⟩)
    have cS := AnyZ.sorted_in Tryz.sortedS Fence.wide 5 trivial trivial trivial trivial rfl (by omega) (sortsS _) (enters_of Tryz.func87 (by kernel_rfl) rfl) 88 #[.pointer (some ⟨w.heap.size, 0, none⟩)] trivial (enters_of Tryz.func88 (by kernel_rfl) rfl) _ _ (by rw [hsz]; unfold maxLen; omega) (by rw [hsz]; omega) _ hseq
    refine (callsIn_wide.1 cS).mono ?_
    rintro e w' ⟨v, ss, rfl, hp, hrow, hnil, hb⟩
    rw [e1] at hrow hb
    rw [hky] at hp
    exact ⟨v, ss, rfl, hp, hrow, hnil, hb⟩
end Go.Proofs.YtjjggncbhenffaaGreatDoor
/- A tree that is none: xdm's Scope. -/
namespace Go.Proofs.YtjjggncbhenffaaGreatDoor
open Go.RowKit Go.Maps
end Go.Proofs.YtjjggncbhenffaaGreatDoor
/- From what a row lists of the library's tables, and from the world's shape, to what the walks of layer 3 ask. -/
namespace Go.Proofs.YtjjggncbhenffaaGreatDoor
open Go.ChangeShapes Go.WideShapes Go.ChangeAt Go.RowKit
theorem u8extra : U8Extra Tryz.prog Tryz.lays260_ren where
  n3 := by kernel_rfl
  n4 := by kernel_rfl
  y3 := by kernel_rfl
  y4 := by kernel_rfl
  c5 := by kernel_rfl
  c119 := by kernel_rfl
  c138 := by kernel_rfl
theorem first_data : Rows.laid_unicode_utf8_first = Lib.firstData := by kernel_rfl
theorem accept_data : Rows.laid_unicode_utf8_acceptRanges = Lib.acceptData := by kernel_rfl
def foldTab : List Int := [0, 1, 2, 3, 4, 5, 6, 7, 8, 9, 10, 11, 12, 13, 14, 15, 16, 17, 18, 19, 20, 21, 22, 23, 24, 25, 26, 27, 28, 29, 30, 31, 32, 33, 34, 35, 36, 37, 38, 39, 40, 41, 42, 43, 44, 45, 46, 47, 48, 49, 50, 51, 52, 53, 54, 55, 56, 57, 58, 59, 60, 61, 62, 63, 64, 97, 98, 99, 100, 101, 102, 103, 104, 105, 106, 107, 108, 109, 110, 111, 112, 113, 114, 115, 116, 117, 118, 119, 120, 121, 122, 91, 92, 93, 94, 95, 96, 65, 66, 67, 68, 69, 70, 71, 72, 73, 74, 8490, 76, 77, 78, 79, 80, 81, 82, 383, 84, 85, 86, 87, 88, 89, 90, 123, 124, 125, 126, 127]
theorem fold_data : (Rows.laid_unicode_asciiFold : DataW Unit) = Lib.tabData .u16 foldTab := by kernel_rfl
theorem xTab_of {P : Program} {W : World} {name : String} {k : IntKind} {zs : List Int} {g : Nat} {t e : TypeId} {n : Nat} (hg : P.globalNamed name = some g) (hty : (P.globals[g]?).map (·.type) = some t) (ht : P.underlying t = some (.array n e)) (he : P.underlying e = some (.int k)) (hce : P.cellsOf e = 1) (hct : P.cellsOf t = n) (h : Lib.VarReads P W name (Lib.tabData k zs)) (j : Nat) : W.cell? ⟨g, j, none⟩ = (zs.map fun z => Value.int k z)[j]? := by
  obtain ⟨g', t', cs, fuel, p, hg', ht', hvar, hd⟩ := h
  obtain rfl := Option.some.inj (hg.symm.trans hg')
  obtain rfl := Option.some.inj (hty.symm.trans ht')
  rw [World.var?_cell hg hvar j, ← Lib.cells_of_tab ht he hce hct hd]
  simp
theorem env_of {W : World} (hM : laidMet Tryz.prog [("unicode/utf8.acceptRanges", Rows.laid_unicode_utf8_acceptRanges), ("unicode.asciiFold", Rows.laid_unicode_asciiFold), ("unicode.caseOrbit", Rows.laid_unicode_caseOrbit), ("unicode.CaseRanges", Rows.laid_unicode_CaseRanges), ("unicode/utf8.first", Rows.laid_unicode_utf8_first)] W) (hs : W.ShapedOpen Tryz.prog) : XEnv W.heap.size W := by
  have h3 := Lib.laidMet.reads hM (n := "unicode/utf8.first") (d := Rows.laid_unicode_utf8_first) (by simp)
  have h4 := Lib.laidMet.reads hM (n := "unicode/utf8.acceptRanges") (d := Rows.laid_unicode_utf8_acceptRanges) (by simp)
  have h5 := Lib.laidMet.reads hM (n := "unicode.asciiFold") (d := Rows.laid_unicode_asciiFold) (by simp)
  rw [first_data] at h3
  rw [accept_data] at h4
  rw [fold_data] at h5
  have ht := utf8Tabs_of_reads Tryz.lays260 u8extra h3 h4
  have hf := xTab_of (g := 2) (t := 234) (e := 233) (n := 128) (by kernel_rfl) (by kernel_rfl) (by kernel_rfl) Tryz.underlying233 (by kernel_rfl) (by kernel_rfl) h5
  obtain ⟨m, hm⟩ : ∃ m, W.cell? ⟨5, 0, none⟩ = some (.int .i64 m) := cell_of_shapedOpen_int (zero := #[.int .i64 0]) (t := 3) hs (of_decide_eq_true (by kernel_rfl)) (by kernel_rfl) rfl (by kernel_rfl) (by kernel_rfl) Tryz.underlying3
  have fx : W.cell? ⟨2, 120, none⟩ = some (.int .u16 88) := (hf 120).trans rfl
  refine ⟨⟨⟨m, hm⟩, ht⟩, fx, (hf 109).trans rfl, (hf 108).trans rfl, (hf 88).trans rfl, (hf 77).trans rfl, (hf 76).trans rfl, block_lt_of_cell hm, ?_, ?_, block_lt_of_cell fx⟩
  · exact block_lt_of_cell (ht.1 0 (by decide))
  · exact block_lt_of_cell (ht.2 0 (by decide)).1
theorem own : ownKnob Tryz.prog.godebug = none := by kernel_rfl
end Go.Proofs.YtjjggncbhenffaaGreatDoor
