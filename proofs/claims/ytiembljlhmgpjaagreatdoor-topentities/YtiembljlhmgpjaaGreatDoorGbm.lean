/- Several texts, laid as one. -/
import Derived.Test.YtiembljlhmgpjaaGreatDoorGbl
import Derived.Test.YtiembljlhmgpjaaGreatDoorGbh
/- Line ends of a written document: what is decoded is a written document, too; plain. -/
namespace Go.Proofs.YtiembljlhmgpjaaGreatDoor
def oneE (c : Nat) : Nat := if c = 13 then 10 else c
def endsN : List Nat → List Nat
  | [] => []
  | [c] => [oneE c]
  | c :: d :: t => if c = 13 ∧ d = 10 then endsN (d :: t) else oneE c :: endsN (d :: t)
theorem endsN_cons {c : Nat} (hc : c ≠ 13) (t : List Nat) : endsN (c :: t) = c :: endsN t := by
  cases t with
  | nil => simp [endsN, oneE, hc]
  | cons d u => rw [endsN, if_neg (fun h => hc h.1)]; simp [oneE, hc]
theorem endsN_13 (t : List Nat) : endsN (13 :: t) = if t.head? = some 10 then endsN t else 10 :: endsN t := by
  cases t with
  | nil => rfl
  | cons d u =>
    rw [endsN]
    by_cases h : d = 10
    · subst h
      rw [if_pos ⟨rfl, rfl⟩, if_pos (by rfl)]
    · rw [if_neg (fun x => h x.2), List.head?_cons, if_neg (fun x => h (Option.some.inj x))]
      rfl
theorem endsN_no : ∀ {a : List Nat} (b : List Nat), 13 ∉ a → endsN (a ++ b) = a ++ endsN b
  | [], _, _ => rfl
  | c :: a, b, h => by
    rw [List.cons_append, endsN_cons (fun e => h (by rw [e]; simp)), endsN_no b (fun x => h (List.mem_cons_of_mem _ x))]
    rfl
theorem endsN_app : ∀ (a : List Nat) (x : Nat) (y : List Nat), x ≠ 10 → endsN (a ++ x :: y) = endsN a ++ endsN (x :: y)
  | [], _, _, _ => rfl
  | c :: a, x, y, hx => by
    have ih := endsN_app a x y hx
    by_cases hc : c = 13
    · subst hc
      rw [List.cons_append, endsN_13, endsN_13, ih]
      cases a with
      | nil =>
        rw [if_neg (by simpa using hx), if_neg (by simp)]
        rfl
      | cons d u =>
        rw [List.cons_append, List.head?_cons, List.head?_cons]
        split <;> rfl
    · rw [List.cons_append, endsN_cons hc, endsN_cons hc, ih]
      rfl
theorem endsN_mem : ∀ (l : List Nat), ∀ c ∈ endsN l, c = 10 ∨ c ∈ l
  | [], c, h => by cases h
  | d :: t, c, h => by
    by_cases hd : d = 13
    · subst hd
      rw [endsN_13] at h
      split at h
      · exact (endsN_mem t c h).imp id (List.mem_cons_of_mem _)
      · rcases List.mem_cons.1 h with rfl | h
        · exact .inl rfl
        · exact (endsN_mem t c h).imp id (List.mem_cons_of_mem _)
    · rw [endsN_cons hd] at h
      rcases List.mem_cons.1 h with rfl | h
      · exact .inr (List.mem_cons_self ..)
      · exact (endsN_mem t c h).imp id (List.mem_cons_of_mem _)
theorem endsN_ok {l : List Nat} (h : okL l) : okL (endsN l) := fun c hc => by
  rcases endsN_mem l c hc with rfl | hm
  · decide
  · exact h c hm
theorem endsN_head {l : List Nat} {b : Nat} (hb : b ≠ 10) (h : (endsN l).head? = some b) : l.head? = some b := by
  cases l with
  | nil => cases h
  | cons c t =>
    by_cases hc : c = 13
    · subst hc
      rw [endsN_13] at h
      split at h
      · rename_i ht
        cases t with
        | nil => cases ht
        | cons d u =>
          have : d = 10 := Option.some.inj ht
          subst this
          rw [endsN_cons (by decide)] at h
          exact absurd (Option.some.inj h) (Ne.symm hb)
      · exact absurd (Option.some.inj h) (Ne.symm hb)
    · rw [endsN_cons hc] at h
      exact h
theorem endsN_nil {l : List Nat} : endsN l = [] ↔ l = [] := by
  constructor
  · intro h
    cases l with
    | nil => rfl
    | cons c t =>
      by_cases hc : c = 13
      · subst hc
        rw [endsN_13] at h
        split at h
        · rename_i ht
          cases t with
          | nil => cases ht
          | cons d u =>
            have : d = 10 := Option.some.inj ht
            subst this
            rw [endsN_cons (by decide)] at h
            cases h
        · cases h
      · rw [endsN_cons hc] at h
        cases h
  · rintro rfl
    rfl
theorem endsN_cut {a b : Nat} (ha : a ≠ 10) (hb : b ≠ 10) : ∀ (l : List Nat), cutL [a, b] l = none → cutL [a, b] (endsN l) = none
  | [], _ => rfl
  | c :: t, h => by
    rw [cutL] at h
    split at h
    · cases h
    · rename_i hp
      have h2 : cutL [a, b] t = none := by simpa using h
      have ih := endsN_cut ha hb t h2
      by_cases hc : c = 13
      · subst hc
        rw [endsN_13]
        split
        · exact ih
        · rw [cutL, if_neg (by simp [List.isPrefixOf]; intro e; exact absurd e ha), ih]
          rfl
      · rw [endsN_cons hc, cutL, if_neg ?_, ih]
        · rfl
        · intro hq
          apply hp
          obtain ⟨r, hr⟩ := List.isPrefixOf_iff_prefix.1 hq
          have e1 : a = c := (List.cons.inj hr).1
          have e2 : b :: r = endsN t := (List.cons.inj hr).2
          have e3 := endsN_head hb (l := t) (by rw [← e2]; rfl)
          cases t with
          | nil => cases e3
          | cons d u =>
            have : d = b := Option.some.inj e3
            subst e1 this
            simp [List.isPrefixOf]
theorem endsN_last {a : Nat} (ha : a ≠ 10) : ∀ (l : List Nat), (endsN l).getLast? = some a → l.getLast? = some a
  | [], h => by cases h
  | c :: t, h => by
    by_cases ht : t = []
    · subst ht
      by_cases hc : c = 13
      · subst hc
        exact absurd (Option.some.inj h) (Ne.symm ha)
      · rw [endsN_cons hc] at h
        exact h
    · have hne : endsN t ≠ [] := fun e => ht (endsN_nil.1 e)
      have hcons : ∀ x, (x :: endsN t).getLast? = (endsN t).getLast? := fun x => by
        rw [List.getLast?_cons, List.getLast?_eq_some_getLast hne]
        rfl
      have : (endsN t).getLast? = some a := by
        by_cases hc : c = 13
        · subst hc
          rw [endsN_13] at h
          split at h
          · exact h
          · rw [hcons] at h
            exact h
        · rw [endsN_cons hc, hcons] at h
          exact h
      have := endsN_last ha t this
      rw [List.getLast?_cons, this]
      rfl
theorem endsN_tx : ∀ {l : List Nat}, okL l → endsR (tx l) = tx (endsN l)
  | [], _ => rfl
  | c :: t, h => by
    have hc := h c (List.mem_cons_self ..)
    have ht : okL t := fun x hx => h x (List.mem_cons_of_mem _ hx)
    have ih := endsN_tx ht
    by_cases h13 : c = 13
    · subst h13
      rw [tx_cons, show runeB 13 = [13] from by decide +kernel, endsN_13]
      cases t with
      | nil => rfl
      | cons d u =>
        have hd := charR_ok (h d (by simp))
        rw [List.head?_cons]
        by_cases h10 : d = 10
        · subst h10
          rw [if_pos rfl, ← ih, tx_cons, show runeB 10 = [10] from by decide +kernel]
          show endsR (13 :: 10 :: tx u) = endsR (10 :: tx u)
          rw [endsR, if_pos ⟨rfl, rfl⟩]
        · rw [if_neg (fun e => h10 (Option.some.inj e)), tx_cons 10, ← ih, show runeB 10 = [10] from by decide +kernel]
          obtain ⟨b, r, hb⟩ : ∃ b r, tx (d :: u) = b :: r ∧ b ≠ 10 := by
            rw [tx_cons]
            by_cases hl : d < 128
            · rw [runeB_one hl]
              refine ⟨_, _, rfl, fun e => h10 ?_⟩
              have := congrArg UInt8.toNat e
              simp at this
              omega
            · have hp := runeB_high hd (by omega)
              have hpos := runeB_pos (h d (by simp))
              match hr : runeB d with
              | [] => rw [hr] at hpos; cases hpos
              | b :: r =>
                refine ⟨b, _, rfl, fun e => ?_⟩
                have := hp b (by rw [hr]; simp)
                rw [e] at this
                exact absurd this (by decide)
          rw [hb.1]
          show endsR (13 :: b :: r) = 10 :: endsR (b :: r)
          rw [endsR, if_neg (fun x => hb.2 x.2)]
          rfl
    · rw [tx_cons, endsR_app _ _ (runeB_no (charR_ok hc) h13), ih, endsN_cons h13, tx_cons]
/-- A token whose text's lines end by line feeds. -/
def normT (t : XTok) : XTok := if t.kind = 5 ∨ t.kind = 6 then { t with text := endsN t.text } else t
theorem ins13 (c : Nat) : 13 ∉ (if insN c = [] then [c] else insN c) :=
  ins_cases (P := fun c e => 13 ∉ (if e = [] then [c] else e)) (by decide) (by decide) (by decide) (fun c _ _ h => by simpa using Ne.symm h) c
theorem esc13 (l : List Nat) : 13 ∉ mapN escN l := by
  intro h
  obtain ⟨c, _, hc⟩ := List.mem_flatMap.1 h
  unfold oneN escN at hc
  by_cases a : c = 62
  · rw [if_pos a] at hc
    revert hc
    simp
  · rw [if_neg a] at hc
    exact ins13 c hc
theorem quo13 (l : List Nat) : 13 ∉ mapN quoN l := by
  intro h
  obtain ⟨c, _, hc⟩ := List.mem_flatMap.1 h
  unfold oneN quoN at hc
  by_cases a : c = 34
  · rw [if_pos a] at hc
    revert hc
    simp
  · rw [if_neg a] at hc
    by_cases b : c = 9
    · rw [if_pos b] at hc
      revert hc
      simp
    · rw [if_neg b] at hc
      by_cases d : c = 10
      · rw [if_pos d] at hc
        revert hc
        simp
      · rw [if_neg d] at hc
        exact ins13 c hc
theorem nm13 {n : List Nat} (h : isNm n = true) : 13 ∉ n := fun hm => by
  obtain ⟨_, e⟩ := isNm_name h
  rw [← e] at hm
  exact absurd (nameA_all n 13 hm) (by decide)
theorem q13 {n : List Nat} (h : isQ n = true) : 13 ∉ n := fun hm => by
  unfold isQ at h
  split at h
  · rename_i hc
    simp only [Bool.and_eq_true] at h
    have e := List.takeWhile_append_dropWhile (p := (· != 58)) (l := n)
    rw [← e] at hm
    rcases List.mem_append.1 hm with hm | hm
    · exact nm13 h.1 hm
    · rw [drop58 n hc] at hm
      rcases List.mem_cons.1 hm with hm | hm
      · cases hm
      · exact nm13 h.2 hm
  · exact nm13 h hm
theorem attrs13 {a : List (List Nat × List Nat)} (h : ∀ x ∈ a, isQ x.1 = true) : 13 ∉ a.flatMap attrL := fun hm => by
  obtain ⟨x, hx, hc⟩ := List.mem_flatMap.1 hm
  have h1 := q13 (h x hx)
  have h2 := quo13 x.2
  unfold attrL at hc
  simp [h1, h2] at hc
theorem endsN_tok {t : XTok} (h : OkTok t) (R : List Nat) : endsN (tokL t ++ R) = tokL (normT t) ++ endsN R := by
  cases h with
  | elem n a hq ha _ =>
    have h1 := q13 hq
    have h2 := attrs13 ha
    refine endsN_no R ?_
    show 13 ∉ 60 :: (n ++ (a.flatMap attrL ++ [62]))
    simp only [List.mem_cons, List.mem_append, not_or]
    exact ⟨by decide, h1, h2, by decide, by simp⟩
  | fin n hq =>
    have h1 := q13 hq
    refine endsN_no R ?_
    show 13 ∉ 60 :: 47 :: (n ++ [62])
    simp only [List.mem_cons, List.mem_append, not_or]
    exact ⟨by decide, by decide, h1, by decide, by simp⟩
  | text l _ => exact endsN_no R (esc13 l)
  | comment l _ _ =>
    show endsN (60 :: 33 :: 45 :: 45 :: (l ++ [45, 45, 62]) ++ R) = 60 :: 33 :: 45 :: 45 :: (endsN l ++ [45, 45, 62]) ++ endsN R
    have e := endsN_no (a := [60, 33, 45, 45]) ((l ++ [45, 45, 62]) ++ R) (by decide)
    have e2 := endsN_app l 45 ([45, 62] ++ R) (by decide)
    have e3 := endsN_no (a := [45, 45, 62]) R (by decide)
    have e4 : (l ++ [45, 45, 62]) ++ R = l ++ 45 :: ([45, 62] ++ R) := by simp
    rw [e4, e2] at e
    have e5 : 45 :: ([45, 62] ++ R) = [45, 45, 62] ++ R := rfl
    rw [e5, e3] at e
    have e6 : 60 :: 33 :: 45 :: 45 :: (l ++ [45, 45, 62]) ++ R = [60, 33, 45, 45] ++ (l ++ ([45, 45, 62] ++ R)) := by simp
    rw [e6, e]
    simp
  | pi n l hn _ _ =>
    have h1 := nm13 (target_name hn).1
    show endsN (60 :: 63 :: (n ++ ((if l = [] then [] else 32 :: l) ++ [63, 62])) ++ R) = 60 :: 63 :: (n ++ ((if endsN l = [] then [] else 32 :: endsN l) ++ [63, 62])) ++ endsN R
    by_cases hl : l = []
    · subst hl
      rw [if_pos rfl, if_pos (show endsN [] = [] from rfl)]
      refine endsN_no R ?_
      simp only [List.mem_cons, List.mem_append, not_or]
      exact ⟨by decide, by decide, h1, by simp, by decide, by decide, by simp⟩
    · rw [if_neg hl, if_neg (fun e => hl (endsN_nil.1 e))]
      have e := endsN_no (a := 60 :: 63 :: (n ++ [32])) (l ++ 63 :: (62 :: R)) (by
        simp only [List.mem_cons, List.mem_append, not_or]
        exact ⟨by decide, by decide, h1, by decide, by simp⟩)
      rw [endsN_app l 63 (62 :: R) (by decide), show 63 :: 62 :: R = [63, 62] ++ R from rfl, endsN_no (a := [63, 62]) R (by decide)] at e
      have e6 : 60 :: 63 :: (n ++ ((32 :: l) ++ [63, 62])) ++ R = (60 :: 63 :: (n ++ [32])) ++ (l ++ ([63, 62] ++ R)) := by simp
      rw [e6, e]
      simp
theorem normT_ok {t : XTok} (h : OkTok t) : OkTok (normT t) := by
  cases h with
  | elem n a h1 h2 h3 => exact .elem n a h1 h2 h3
  | fin n h1 => exact .fin n h1
  | text l h1 => exact .text l h1
  | comment l h1 h2 => exact .comment (endsN l) (endsN_cut (by decide) (by decide) l h1) (fun e => h2 (endsN_last (by decide) l e))
  | pi n l h1 h2 h3 =>
    refine .pi n (endsN l) h1 (endsN_cut (by decide) (by decide) l h2) fun c hc => ?_
    by_cases h10 : c = 10
    · exfalso
      subst h10
      cases l with
      | nil => cases hc
      | cons d u =>
        have hd := h3 d rfl
        have h13 : d ≠ 13 := fun e => by rw [e] at hd; exact absurd hd (by decide)
        rw [endsN_cons h13] at hc
        have : d = 10 := Option.some.inj hc
        rw [this] at hd
        exact absurd hd (by decide)
    · exact h3 c (endsN_head h10 hc)
theorem norm_docT : ∀ {ts : List XTok} {o : List (List Nat)} {r : Bool} {k : Nat}, DocT o r k ts → DocT o r k (ts.map normT)
  | [], _, _, _, h => by cases h; exact .done _
  | t :: ts, o, r, k, h => by
    cases h with
    | elem n a _ _ _ _ h hr ho ha hn => exact .elem n a o r k _ h hr ho ha (norm_docT hn)
    | fin n _ _ _ _ h ho hn => exact .fin n o r k _ h ho (norm_docT hn)
    | text l _ _ _ _ h ho hk hn => exact .text l o r k _ h ho hk (norm_docT hn)
    | comment l _ _ _ _ h hn => exact .comment (endsN l) o r k _ (normT_ok h) (norm_docT hn)
    | pi n l _ _ _ _ h hn => exact .pi n (endsN l) o r k _ (normT_ok h) (norm_docT hn)
theorem endsN_write : ∀ {ts : List XTok}, (∀ t ∈ ts, OkTok t) → endsN (writeX ts) = writeX (ts.map normT)
  | [], _ => rfl
  | t :: ts, h => by
    rw [writeX_cons, endsN_tok (h t (List.mem_cons_self ..)), endsN_write (fun x hx => h x (List.mem_cons_of_mem _ hx))]
    rfl
/-- Nodes without their texts. -/
def noTx (x : XNode) : XNode := { x with text := [] }
structure SameB (s s' : BS) : Prop where
  n : s.nodes.map noTx = s'.nodes.map noTx
  o : s.opn = s'.opn
theorem SameB.len {s s' : BS} (h : SameB s s') : s.nodes.length = s'.nodes.length := by
  have := congrArg List.length h.n
  simpa using this
theorem SameB.inner {s s' : BS} (h : SameB s s') : s.inner = s'.inner := by unfold BS.inner; rw [h.o]
theorem SameB.begin {s s' : BS} (h : SameB s s') {x y : XNode} (hx : noTx x = noTx y) : SameB (s.begin x) (s'.begin y) := by
  refine ⟨?_, ?_⟩
  · show (s.nodes ++ [x]).map noTx = (s'.nodes ++ [y]).map noTx
    rw [List.map_append, List.map_append, h.n]
    show _ ++ [noTx x] = _ ++ [noTx y]
    rw [hx]
  · show s.opn ++ [s.nodes.length] = s'.opn ++ [s'.nodes.length]
    rw [h.o, h.len]
theorem modify_noTx (l : List XNode) (i n : Nat) : (l.modify i fun x => { x with fin := n }).map noTx = (l.map noTx).modify i fun x => { x with fin := n } := by
  apply List.ext_getElem?
  intro j
  rw [List.getElem?_map, List.getElem?_modify, List.getElem?_modify, List.getElem?_map]
  cases l[j]? with
  | none => rfl
  | some _ =>
    simp only [Option.map_some]
    split <;> rfl
theorem SameB.finish {s s' : BS} (h : SameB s s') : SameB s.finish s'.finish := by
  refine ⟨?_, ?_⟩
  · show (s.nodes.modify _ _).map noTx = (s'.nodes.modify _ _).map noTx
    rw [modify_noTx, modify_noTx, h.n, h.inner, h.len]
  · show s.opn.dropLast = s'.opn.dropLast
    rw [h.o]
theorem SameB.leaf {s s' : BS} (h : SameB s s') {x y : XNode} (hx : noTx x = noTx y) : SameB (s.leaf x) (s'.leaf y) := by
  refine (h.begin ?_).finish
  have h1 : x.kind = y.kind := show (noTx x).kind = (noTx y).kind by rw [hx]
  have h2 : x.name = y.name := show (noTx x).name = (noTx y).name by rw [hx]
  have h3 : x.fin = y.fin := show (noTx x).fin = (noTx y).fin by rw [hx]
  have h4 : x.scope = y.scope := show (noTx x).scope = (noTx y).scope by rw [hx]
  unfold BS.placed noTx
  rw [h.inner, h.o]
  simp only
  rw [h1, h2, h3, h4]
theorem SameB.leafs : ∀ (l : List XNode) {s s' : BS}, SameB s s' → SameB (l.foldl BS.leaf s) (l.foldl BS.leaf s')
  | [], _, _, h => h
  | _ :: l, _, _, h => SameB.leafs l (h.leaf rfl)
theorem SameB.scope {s s' : BS} (h : SameB s s') : s.scope = s'.scope := by
  have hn : (s.nodes.map noTx)[s.inner]? = (s'.nodes.map noTx)[s'.inner]? := by rw [h.n, h.inner]
  rw [List.getElem?_map, List.getElem?_map] at hn
  unfold BS.scope
  cases h1 : s.nodes[s.inner]? with
  | none =>
    rw [h1] at hn
    cases h2 : s'.nodes[s'.inner]? with
    | none => rfl
    | some y => rw [h2] at hn; cases hn
  | some x =>
    rw [h1] at hn
    cases h2 : s'.nodes[s'.inner]? with
    | none => rw [h2] at hn; cases hn
    | some y =>
      rw [h2] at hn
      have hs := Option.some.inj hn
      show (noTx x).scope = (noTx y).scope
      rw [hs]
theorem normT_kind (t : XTok) : (normT t).kind = t.kind := by unfold normT; split <;> rfl
theorem SameB.add {s s' s1 : BS} {t : XTok} (h : SameB s s') (ha : s.add t = .ok s1) : ∃ s2, s'.add (normT t) = .ok s2 ∧ SameB s1 s2 := by
  by_cases h2 : t.kind = 2
  · have e : normT t = t := by unfold normT; rw [if_neg (by omega)]
    rw [e]
    unfold BS.add at ha ⊢
    rw [if_pos h2] at ha ⊢
    unfold BS.element at ha ⊢
    rw [← h.scope]
    unfold BS.elementAt at ha ⊢
    split at ha
    · cases ha
    · split at ha
      · cases ha
      · split at ha
        · cases ha
        · cases ha
          refine ⟨_, rfl, SameB.leafs _ (h.begin ?_)⟩
          unfold BS.placed noTx
          rw [h.inner, h.o]
  · unfold BS.add at ha ⊢
    rw [normT_kind]
    rw [if_neg h2] at ha ⊢
    by_cases h7 : t.kind = 7
    · rw [if_pos h7] at ha ⊢
      cases ha
      exact ⟨_, rfl, h.finish⟩
    · rw [if_neg h7] at ha ⊢
      have hname : (normT t).name = t.name := by unfold normT; split <;> rfl
      by_cases h6 : t.kind = 6
      · rw [if_pos h6] at ha ⊢
        cases ha
        refine ⟨_, rfl, h.leaf ?_⟩
        unfold noTx
        rw [hname]
      · rw [if_neg h6] at ha ⊢
        cases ha
        exact ⟨_, rfl, h.leaf rfl⟩
theorem adds_same : ∀ (ts : List XTok) {s s' s1 : BS}, SameB s s' → s.adds ts = .ok s1 → ∃ s2, s'.adds (ts.map normT) = .ok s2
  | [], s, s', s1, _, _ => ⟨s', rfl⟩
  | t :: ts, s, s', s1, h, ha => by
    unfold BS.adds at ha
    split at ha
    · cases ha
    · rename_i s3 h3
      obtain ⟨s4, h4, h5⟩ := h.add h3
      obtain ⟨s2, h6⟩ := adds_same ts h5 ha
      refine ⟨s2, ?_⟩
      rw [List.map_cons, BS.adds, h4]
      exact h6
theorem tree_norm {ts : List XTok} {ns : List XNode} (h : treeD ts = .ok ns) : ∃ ns', treeD (ts.map normT) = .ok ns' := by
  unfold treeD at h ⊢
  split at h
  · cases h
  · rename_i s hs
    obtain ⟨s2, h2⟩ := adds_same ts ⟨rfl, rfl⟩ hs
    rw [h2]
    exact ⟨_, rfl⟩
/-- What is decoded of a written document: it has a tree, too. -/
theorem ends_parse {ts : List XTok} {ns : List XNode} (hD : DocT [] false 0 ts) (hn : ts.length ≤ 4096) (ht : treeD ts = .ok ns) : ∃ ns', parseD (endsN (writeX ts)) = .ok ns' := by
  obtain ⟨ns', h⟩ := tree_norm ht
  refine ⟨ns', ?_⟩
  unfold parseD
  rw [endsN_write (doc_all hD), (back_plain (norm_docT hD) (by rw [List.length_map]; exact hn)).1]
  exact h
theorem same_parse {ts : List XTok} {ns : List XNode} (hD : DocT [] false 0 ts) (hn : ts.length ≤ 4096) (ht : treeD ts = .ok ns) : parseD (writeX ts) = .ok ns := by
  unfold parseD
  rw [(back_plain hD hn).1]
  exact ht
end Go.Proofs.YtiembljlhmgpjaaGreatDoor
/- What is encoded of a text without a mark is decoded as it was, but for line ends. -/
namespace Go.Proofs.YtiembljlhmgpjaaGreatDoor
open Go.RowKit
theorem mark_T {l : List Nat} : Lib.hasPrefix (tx (60 :: l)) [239, 187, 191] = false := by
  rw [tx_cons, show runeB 60 = [60] from by decide +kernel]
  rfl
theorem encT {l : List Nat} (hl : okL l) (hs : (T l).size ≤ 32768) (wide : Bool) : (encV (T l) wide).2 = 0 := by
  unfold encV
  rw [show Lib.validD (T l).data.toList = true by rw [T_data]; exact valid_T hl]
  simp only [Bool.not_true, Bool.false_eq_true, if_false]
  rw [if_neg (by omega)]
  cases wide <;> rfl
theorem decT {l : List Nat} (hl : okL (60 :: l)) (hs : (T (60 :: l)).size ≤ 32768) (wide : Bool) :
    decodeAll (encV (T (60 :: l)) wide).1 = .tuple #[.string ⟨#[]⟩, .int .i64 6, .int .i64 0] ∨ decodeAll (encV (T (60 :: l)) wide).1 = .tuple #[.string (T (endsN (60 :: l))), .int .i64 0, .int .i64 0] := by
  have ht : Txt (T (60 :: l)).data.toList := T_txt hl
  have he : (encV (T (60 :: l)) wide).1 = if wide then ⟨(encW (T (60 :: l))).toArray⟩ else T (60 :: l) := by
    unfold encV
    rw [show Lib.validD (T (60 :: l)).data.toList = true by rw [T_data]; exact valid_T hl]
    simp only [Bool.not_true, Bool.false_eq_true, if_false]
    rw [if_neg (by omega)]
    cases wide <;> rfl
  rw [he]
  cases wide
  · right
    rw [if_neg (by decide)]
    unfold decodeAll
    rw [if_neg (by omega), if_neg (by rw [txt_first ht 254 255 (by decide)]; decide), if_neg (by rw [txt_first ht 255 254 (by decide)]; decide)]
    have hn : narrowL (T (60 :: l)).data.toList = tx (60 :: l) := by
      rw [T_data]
      unfold narrowL Lib.trimPrefix
      rw [if_neg (by rw [mark_T]; decide)]
    rw [hn]
    unfold decodedV
    rw [if_pos (fault_of_txt _ (by rw [← T_data]; exact ht)), endsL_is, endsN_tx hl]
    rfl
  · rw [if_pos rfl]
    by_cases hb : 32768 < (⟨(encW (T (60 :: l))).toArray⟩ : ByteArray).size
    · left
      unfold decodeAll
      rw [if_pos hb]
    · right
      have hw := wide_txt (T (60 :: l)) (60 :: l) ((T (60 :: l)).size + 1) 0 (by omega) (by rw [List.drop_zero, T_data]; rfl) hl
      have hew : encW (T (60 :: l)) = [254, 255] ++ (60 :: l).flatMap wideR := by unfold encW; rw [hw]
      rw [hew] at hb ⊢
      unfold decodeAll
      rw [if_neg hb, if_pos (by simp [Lib.hasPrefix])]
      have hd : decW ⟨([254, 255] ++ (60 :: l).flatMap wideR).toArray⟩ false = ((60 :: l).flatMap runeB, 0, 0) := by
        unfold decW
        rw [dec_back _ (60 :: l) _ 2 [] (by omega) (by simp) hl]
        rfl
      rw [hd]
      unfold decEnd
      simp only [if_true]
      rw [endsL_is, show (60 :: l).flatMap runeB = tx (60 :: l) from rfl, endsN_tx hl]
      rfl
theorem write_head {ts : List XTok} (h : DocT [] false 0 ts) : ∃ l, writeX ts = 60 :: l := by
  cases h with
  | elem n a _ _ _ ts h hr ho ha hn => exact ⟨_, rfl⟩
  | fin n _ _ _ _ h ho hn => cases ho
  | text l _ _ _ _ h ho hk hn => exact absurd rfl ho
  | comment l _ _ _ _ h hn => exact ⟨_, rfl⟩
  | pi n l _ _ _ _ h hn => exact ⟨_, rfl⟩
theorem ends_same {l : List Nat} (h : ∀ b ∈ tx l, b ≠ 13) : endsN l = l := by
  have h13 : 13 ∉ l := fun hm => by
    have : (13 : UInt8) ∈ tx l := by
      unfold tx
      exact List.mem_flatMap.2 ⟨13, hm, by rw [show runeB 13 = [13] from by decide +kernel]; simp⟩
    exact h 13 this rfl
  have := endsN_no (a := l) [] h13
  rw [List.append_nil] at this
  rw [this]
  simp [endsN]
end Go.Proofs.YtiembljlhmgpjaaGreatDoor
