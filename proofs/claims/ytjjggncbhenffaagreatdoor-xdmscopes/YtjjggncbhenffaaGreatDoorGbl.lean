/- Several texts, laid as one. -/
import Derived.Test.YtjjggncbhenffaaGreatDoorGbk
/- Tokens as a text, in plain terms: what is written is scanned as it was. -/
namespace Go.Proofs.YtjjggncbhenffaaGreatDoor
def attrL (x : List Nat × List Nat) : List Nat := 32 :: (x.1 ++ 61 :: 34 :: (mapN quoN x.2 ++ [34]))
def tokL (t : XTok) : List Nat :=
  if t.kind = 2 then 60 :: (t.name ++ (t.attrs.flatMap attrL ++ [62])) else
  if t.kind = 7 then 60 :: 47 :: (t.name ++ [62]) else
  if t.kind = 4 then mapN escN t.text else
  if t.kind = 5 then 60 :: 33 :: 45 :: 45 :: (t.text ++ [45, 45, 62]) else
  if t.kind = 6 then 60 :: 63 :: (t.name ++ ((if t.text = [] then [] else 32 :: t.text) ++ [63, 62])) else []
def writeX (ts : List XTok) : List Nat := ts.flatMap tokL
/-- A token that may stand in some document. -/
inductive OkTok : XTok → Prop
  | elem (n : List Nat) (a : List (List Nat × List Nat)) (h : isQ n = true) (ha : ∀ x ∈ a, isQ x.1 = true) (hd : (a.map (·.1)).Nodup) : OkTok ⟨2, n, a, []⟩
  | fin (n : List Nat) (h : isQ n = true) : OkTok ⟨7, n, [], []⟩
  | text (l : List Nat) (h : l ≠ []) : OkTok ⟨4, [], [], l⟩
  | comment (l : List Nat) (h : cutL [45, 45] l = none) (h' : l.getLast? ≠ some 45) : OkTok ⟨5, [], [], l⟩
  | pi (n l : List Nat) (h : isTarget n = true) (hc : cutL [63, 62] l = none) (hb : ∀ c, l.head? = some c → blankC c = false) : OkTok ⟨6, n, [], l⟩
/-- Tokens that end a document: what is open, whether there was an element, the last token's kind, the tokens. -/
inductive DocT : List (List Nat) → Bool → Nat → List XTok → Prop
  | done (k : Nat) : DocT [] true k []
  | elem (n : List Nat) (a : List (List Nat × List Nat)) (o : List (List Nat)) (r : Bool) (k : Nat) (ts : List XTok) (h : OkTok ⟨2, n, a, []⟩) (hr : o = [] → r = false) (ho : o.length < 32) (ha : a.length ≤ 64) (hn : DocT (o ++ [n]) true 2 ts) : DocT o r k (⟨2, n, a, []⟩ :: ts)
  | fin (n : List Nat) (o : List (List Nat)) (r : Bool) (k : Nat) (ts : List XTok) (h : OkTok ⟨7, n, [], []⟩) (ho : o.getLast? = some n) (hn : DocT o.dropLast r 7 ts) : DocT o r k (⟨7, n, [], []⟩ :: ts)
  | text (l : List Nat) (o : List (List Nat)) (r : Bool) (k : Nat) (ts : List XTok) (h : OkTok ⟨4, [], [], l⟩) (ho : o ≠ []) (hk : k ≠ 4) (hn : DocT o r 4 ts) : DocT o r k (⟨4, [], [], l⟩ :: ts)
  | comment (l : List Nat) (o : List (List Nat)) (r : Bool) (k : Nat) (ts : List XTok) (h : OkTok ⟨5, [], [], l⟩) (hn : DocT o r 5 ts) : DocT o r k (⟨5, [], [], l⟩ :: ts)
  | pi (n l : List Nat) (o : List (List Nat)) (r : Bool) (k : Nat) (ts : List XTok) (h : OkTok ⟨6, n, [], l⟩) (hn : DocT o r 6 ts) : DocT o r k (⟨6, n, [], l⟩ :: ts)
end Go.Proofs.YtjjggncbhenffaaGreatDoor
/- Tokens that lead somewhere from a document's beginning, in plain terms: for the law XmlscanAgain. -/
namespace Go.Proofs.YtjjggncbhenffaaGreatDoor
/-- Tokens read from the beginning: what is open behind them, whether there was an element, the last one's kind. -/
inductive DocS : List XTok → List (List Nat) → Bool → Nat → Prop
  | start : DocS [] [] false 0
  | elem (n : List Nat) (a : List (List Nat × List Nat)) (o : List (List Nat)) (r : Bool) (k : Nat) (ts : List XTok) (hs : DocS ts o r k) (h : OkTok ⟨2, n, a, []⟩) (hr : o = [] → r = false) (ho : o.length < 32) (ha : a.length ≤ 64) : DocS (ts ++ [⟨2, n, a, []⟩]) (o ++ [n]) true 2
  | fin (n : List Nat) (o : List (List Nat)) (r : Bool) (k : Nat) (ts : List XTok) (hs : DocS ts o r k) (h : OkTok ⟨7, n, [], []⟩) (ho : o.getLast? = some n) : DocS (ts ++ [⟨7, n, [], []⟩]) o.dropLast r 7
  | text (l : List Nat) (o : List (List Nat)) (r : Bool) (k : Nat) (ts : List XTok) (hs : DocS ts o r k) (h : OkTok ⟨4, [], [], l⟩) (ho : o ≠ []) (hk : k ≠ 4) : DocS (ts ++ [⟨4, [], [], l⟩]) o r 4
  | comment (l : List Nat) (o : List (List Nat)) (r : Bool) (k : Nat) (ts : List XTok) (hs : DocS ts o r k) (h : OkTok ⟨5, [], [], l⟩) : DocS (ts ++ [⟨5, [], [], l⟩]) o r 5
  | pi (n l : List Nat) (o : List (List Nat)) (r : Bool) (k : Nat) (ts : List XTok) (hs : DocS ts o r k) (h : OkTok ⟨6, n, [], l⟩) : DocS (ts ++ [⟨6, n, [], l⟩]) o r 6
theorem DocS.on {ts : List XTok} {o : List (List Nat)} {r : Bool} {k : Nat} (h : DocS ts o r k) : ∀ us, DocT o r k us → DocT [] false 0 (ts ++ us) := by
  induction h with
  | start => exact fun us h => h
  | elem n a o r k ts hs h hr ho ha ih => intro us hu; rw [List.append_assoc]; exact ih _ (.elem n a o r k us h hr ho ha hu)
  | fin n o r k ts hs h ho ih => intro us hu; rw [List.append_assoc]; exact ih _ (.fin n o r k us h ho hu)
  | text l o r k ts hs h ho hk ih => intro us hu; rw [List.append_assoc]; exact ih _ (.text l o r k us h ho hk hu)
  | comment l o r k ts hs h ih => intro us hu; rw [List.append_assoc]; exact ih _ (.comment l o r k us h hu)
  | pi n l o r k ts hs h ih => intro us hu; rw [List.append_assoc]; exact ih _ (.pi n l o r k us h hu)
theorem DocS.all {ts : List XTok} {k : Nat} (h : DocS ts [] true k) : DocT [] false 0 ts := by
  have := h.on [] (.done k)
  rwa [List.append_nil] at this
/-- What a reader has told leads to where it stands. -/
def Told (s : RS) (r : Bool) : Prop := ∃ k, DocS s.toks s.opn r k ∧ k ≠ 4 ∧ (s.run ≠ [] → s.opn ≠ [])
theorem Told.flush {s : RS} {r : Bool} (h : Told s r) : ∃ k, DocS s.flush.toks s.opn r k := by
  obtain ⟨k, h1, h2, h3⟩ := h
  by_cases hr : s.run = []
  · rw [(flush_eq s).1 hr]; exact ⟨k, h1⟩
  · rw [(flush_eq s).2 hr]
    exact ⟨4, .text s.run s.opn r k s.toks h1 (.text _ hr) (h3 hr) h2⟩
/-- A token told, where it may stand. -/
theorem Told.tell {s s' : RS} {r r' : Bool} {t : XTok} {at' : Nat} (h : Told s r) (ht : s.tell t at' = .ok s') (o' : List (List Nat)) (hk : t.kind ≠ 4) (hs : ∀ ts k, DocS ts s.opn r k → DocS (ts ++ [t]) o' r' t.kind) :
    Told { s' with opn := o' } r' ∧ s'.run = [] := by
  obtain ⟨k, hf⟩ := h.flush
  unfold RS.tell at ht
  split at ht
  · cases ht
  · cases ht
    have hrun : s.flush.run = [] := by
      by_cases hr : s.run = []
      · rw [(flush_eq s).1 hr]; exact hr
      · rw [(flush_eq s).2 hr]
    exact ⟨⟨t.kind, hs _ k hf, hk, fun hx => absurd hrun hx⟩, hrun⟩
end Go.Proofs.YtjjggncbhenffaaGreatDoor
/- What Scan tells may be written: pieces, in plain terms. -/
namespace Go.Proofs.YtjjggncbhenffaaGreatDoor
theorem cutL_first (p q : Nat) : ∀ {l x y : List Nat}, cutL [p, q] l = some (x, y) → l = x ++ p :: q :: y ∧ cutL [p, q] x = none ∧ (p = q → x.getLast? ≠ some p)
  | [], x, y, h => by cases h
  | c :: t, x, y, h => by
    rw [cutL] at h
    split at h
    · rename_i hp
      cases h
      refine ⟨?_, rfl, fun _ hx => by cases hx⟩
      obtain ⟨u, hu⟩ := List.isPrefixOf_iff_prefix.1 hp
      rw [← hu]
      rfl
    · rename_i hp
      cases hc : cutL [p, q] t with
      | none => rw [hc] at h; cases h
      | some z =>
        obtain ⟨x', y'⟩ := z
        rw [hc] at h
        cases h
        obtain ⟨h1, h2, h3⟩ := cutL_first p q hc
        refine ⟨by rw [h1]; rfl, ?_, ?_⟩
        · rw [cutL, if_neg, h2]
          · rfl
          · intro hh
            apply hp
            rw [h1]
            cases x' with
            | nil => simp [List.isPrefixOf] at hh
            | cons d x'' =>
              simp [List.isPrefixOf] at hh ⊢
              exact hh
        · intro e hl
          subst e
          cases x' with
          | nil =>
            simp at hl
            subst hl
            apply hp
            rw [h1]
            simp [List.isPrefixOf]
          | cons d x'' =>
            simp only [List.getLast?_cons_cons] at hl
            exact h3 rfl hl
theorem DocS.isq {ts : List XTok} {o : List (List Nat)} {r : Bool} {k : Nat} (h : DocS ts o r k) : ∀ x ∈ o, isQ x = true := by
  induction h with
  | start => intro x hx; cases hx
  | elem n a o r k ts hs h hr ho ha ih =>
    intro x hx
    rcases List.mem_append.1 hx with hx | hx
    · exact ih x hx
    · rw [List.mem_singleton.1 hx]; cases h; assumption
  | fin n o r k ts hs h ho ih => exact fun x hx => ih x (List.dropLast_subset _ hx)
  | text l o r k ts hs h ho hk ih => exact ih
  | comment l o r k ts hs h ih => exact ih
  | pi n l o r k ts hs h ih => exact ih
theorem comment_okT {s s' : RS} {t : List Nat} (h : s.comment = some (t, s')) : OkTok ⟨5, [], [], t⟩ := by
  rw [comment_eq] at h
  split at h
  · cases h
  · rename_i u s1 hu
    split at h
    · cases h
      obtain ⟨_, y, hc, _⟩ := Adv.takeTo hu
      obtain ⟨_, h2, h3⟩ := cutL_first 45 45 hc
      exact .comment _ h2 (h3 rfl)
    · cases h
theorem drop_head {f : Nat → Bool} : ∀ {l : List Nat} {c : Nat}, (l.dropWhile f).head? = some c → f c = false
  | [], c, h => by cases h
  | d :: l, c, h => by
    rw [List.dropWhile_cons] at h
    split at h
    · exact drop_head h
    · rename_i hd
      cases h
      simpa using hd
theorem instr_okT {s s' : RS} {n t : List Nat} (h : s.instruction = some (n, t, s')) : OkTok ⟨6, n, [], t⟩ := by
  rw [instruction_eq] at h
  split at h
  · cases h
  · rename_i hn
    have hn' : isTarget (nameA (s.take [60, 63]).rest) = true := by simpa using hn
    split at h
    · cases h
      exact .pi _ _ hn' rfl (fun c hc => by cases hc)
    · split at h
      · cases h
      · cases hx : (s.take [60, 63]).name.blanks.takeTo [63, 62] with
        | none => rw [hx] at h; cases h
        | some z =>
          obtain ⟨u, s1⟩ := z
          rw [hx] at h
          cases h
          obtain ⟨_, y, hc, _⟩ := Adv.takeTo hx
          obtain ⟨h1, h2, _⟩ := cutL_first 63 62 hc
          refine .pi _ _ hn' h2 (fun c hc => ?_)
          rw [blanks_rest] at h1
          refine drop_head (l := (s.take [60, 63]).name.rest) (c := c) ?_
          rw [h1]
          cases u with
          | nil => cases hc
          | cons d u => exact hc
theorem isNm_of (l : List Nat) (h : nameA l ≠ []) : isNm (nameA l) = true := by
  unfold isNm
  rw [nameA_twice]
  cases hn : nameA l with
  | nil => exact absurd hn h
  | cons c t => simp
theorem no58 (l : List Nat) : ∀ c ∈ nameA l, c ≠ 58 := fun c hc e => by
  have := nameA_all l c hc
  rw [e, go58] at this
  cases this
theorem tw58 : ∀ (a b : List Nat), (∀ c ∈ a, c ≠ 58) → (a ++ 58 :: b).takeWhile (· != 58) = a ∧ (a ++ 58 :: b).dropWhile (· != 58) = 58 :: b
  | [], b, _ => ⟨rfl, rfl⟩
  | c :: a, b, h => by
    have hc : (c != 58) = true := by simpa using h c (by simp)
    obtain ⟨h1, h2⟩ := tw58 a b (fun x hx => h x (by simp [hx]))
    show (c :: (a ++ 58 :: b)).takeWhile (· != 58) = _ ∧ (c :: (a ++ 58 :: b)).dropWhile (· != 58) = _
    rw [List.takeWhile_cons, List.dropWhile_cons, hc, if_pos rfl, if_pos rfl, h1, h2]
    exact ⟨rfl, rfl⟩
theorem qname_isQ {l : List Nat} (h : qnameA l ≠ []) : isQ (qnameA l) = true := by
  have hn := qnameA_name h
  rw [qnameA_eq]
  split
  · rename_i hc
    have hb : nameA (l.drop (nameA l).length).tail ≠ [] := by
      intro e
      rw [e] at hc
      simp at hc
    obtain ⟨h1, h2⟩ := tw58 (nameA l) (nameA (l.drop (nameA l).length).tail) (no58 l)
    unfold isQ
    rw [if_pos (by simp), h1, h2, isNm_of l hn]
    exact isNm_of _ hb
  · unfold isQ
    rw [if_neg (by
      intro hc
      exact no58 l 58 (List.contains_iff_mem.1 hc) rfl)]
    exact isNm_of l hn
/-- Attributes as a start tag may have them. -/
def OkA (a : List (List Nat × List Nat)) : Prop := (∀ x ∈ a, isQ x.1 = true) ∧ (a.map (·.1)).Nodup
theorem OkA.snoc {a : List (List Nat × List Nat)} {n v : List Nat} (h : OkA a) (hn : isQ n = true) (hc : (a.map (·.1)).contains n = false) : OkA (a ++ [(n, v)]) := by
  refine ⟨fun x hx => ?_, ?_⟩
  · rcases List.mem_append.1 hx with hx | hx
    · exact h.1 x hx
    · rw [List.mem_singleton.1 hx]; exact hn
  · rw [List.map_append, List.nodup_append]
    refine ⟨h.2, by simp, fun x hx y hy => ?_⟩
    simp at hy
    subst hy
    intro e
    subst e
    rw [List.contains_iff_mem.2 hx] at hc
    cases hc
theorem attrs_okA (tag : Nat) : ∀ (f : Nat) (s s' : RS) (acc a : List (List Nat × List Nat)), OkA acc → RS.attrsGo tag f s acc = .ok (a, s') → OkA a
  | 0, s, s', acc, a, _, h => by cases h
  | f + 1, s, s', acc, a, hA, h => by
    rw [RS.attrsGo] at h
    simp only at h
    split at h
    · cases h; exact hA
    · split at h
      · cases h
      · rename_i hn
        split at h
        · cases h
        · split at h
          · cases h
          · refine attrs_okA tag f _ s' _ a (hA.snoc (qname_isQ fun e => hn (.inl e)) ?_) h
            cases hc : (acc.map (·.1)).contains (qnameA s.blanks.rest)
            · rfl
            · exact absurd (.inr hc) hn
end Go.Proofs.YtjjggncbhenffaaGreatDoor
