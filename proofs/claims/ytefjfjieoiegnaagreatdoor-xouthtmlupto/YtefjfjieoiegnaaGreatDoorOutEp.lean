/- A tree's tokens by xml, where an element that ends at once is one tag: the whole document is read as it was, or is past a limit. -/
import Derived.Test.YtefjfjieoiegnaaGreatDoorOutEl
namespace Go.Proofs.YtefjfjieoiegnaaGreatDoor
/-- Tokens that end a document, whatever the limits. -/
inductive DocU : List (List Nat) → Bool → Nat → List XTok → Prop
  | done (k : Nat) : DocU [] true k []
  | elem (n : List Nat) (a : List (List Nat × List Nat)) (o : List (List Nat)) (r : Bool) (k : Nat) (ts : List XTok) (h : OkTok ⟨2, n, a, []⟩) (hr : o = [] → r = false) (ha : a.length ≤ 64) (hn : DocU (o ++ [n]) true 2 ts) : DocU o r k (⟨2, n, a, []⟩ :: ts)
  | fin (n : List Nat) (o : List (List Nat)) (r : Bool) (k : Nat) (ts : List XTok) (h : OkTok ⟨7, n, [], []⟩) (ho : o.getLast? = some n) (hn : DocU o.dropLast r 7 ts) : DocU o r k (⟨7, n, [], []⟩ :: ts)
  | text (l : List Nat) (o : List (List Nat)) (r : Bool) (k : Nat) (ts : List XTok) (h : OkTok ⟨4, [], [], l⟩) (ho : o ≠ []) (hk : k ≠ 4) (hn : DocU o r 4 ts) : DocU o r k (⟨4, [], [], l⟩ :: ts)
  | comment (l : List Nat) (o : List (List Nat)) (r : Bool) (k : Nat) (ts : List XTok) (h : OkTok ⟨5, [], [], l⟩) (hn : DocU o r 5 ts) : DocU o r k (⟨5, [], [], l⟩ :: ts)
  | pi (n l : List Nat) (o : List (List Nat)) (r : Bool) (k : Nat) (ts : List XTok) (h : OkTok ⟨6, n, [], l⟩) (hn : DocU o r 6 ts) : DocU o r k (⟨6, n, [], l⟩ :: ts)
theorem DocT.u {o : List (List Nat)} {r : Bool} {k : Nat} {ts : List XTok} (h : DocT o r k ts) : DocU o r k ts := by
  induction h with
  | done k => exact .done k
  | elem n a o r k ts h hr ho ha _ ih => exact .elem n a o r k ts h hr ha ih
  | fin n o r k ts h ho _ ih => exact .fin n o r k ts h ho ih
  | text l o r k ts h ho hk _ ih => exact .text l o r k ts h ho hk ih
  | comment l o r k ts h _ ih => exact .comment l o r k ts h ih
  | pi n l o r k ts h _ ih => exact .pi n l o r k ts h ih
def emptyL (t : XTok) : List Nat := 60 :: (t.name ++ (t.attrs.flatMap attrL ++ [47, 62]))
/-- Tokens by xml. -/
def writeE : List XTok → List Nat
  | [] => []
  | [t] => tokL t
  | t :: u :: ts => if t.kind = 2 ∧ u.kind = 7 then emptyL t ++ writeE ts else tokL t ++ writeE (u :: ts)
theorem writeE_not {t : XTok} (h : t.kind ≠ 2) (ts : List XTok) : writeE (t :: ts) = tokL t ++ writeE ts := by
  cases ts with
  | nil => show tokL t = tokL t ++ []; rw [List.append_nil]
  | cons u ts => rw [writeE, if_neg (fun e => h e.1)]
theorem writeE_elem (t u : XTok) (ts : List XTok) (h : u.kind ≠ 7) : writeE (t :: u :: ts) = tokL t ++ writeE (u :: ts) := by
  rw [writeE, if_neg (fun e => h e.2)]
theorem writeE_pair (t u : XTok) (ts : List XTok) (h : t.kind = 2) (h' : u.kind = 7) : writeE (t :: u :: ts) = emptyL t ++ writeE ts := by
  rw [writeE, if_pos ⟨h, h'⟩]
/-- An element is followed by something. -/
theorem elem_next {o : List (List Nat)} {m : List Nat} {r : Bool} {k : Nat} {ts : List XTok} (h : DocU (o ++ [m]) r k ts) : ∃ u us, ts = u :: us := by
  cases ts with
  | nil =>
    exfalso
    generalize ho : o ++ [m] = o' at h
    cases h
    simp at ho
  | cons u us => exact ⟨u, us, rfl⟩
theorem elem_head (n : List Nat) (a : List (List Nat × List Nat)) (ts : List XTok) : ∃ R, writeE (⟨2, n, a, []⟩ :: ts) = 60 :: R := by
  cases ts with
  | nil => exact ⟨_, rfl⟩
  | cons u us =>
    by_cases h : u.kind = 7
    · exact ⟨_, writeE_pair _ u us rfl h⟩
    · exact ⟨_, writeE_elem _ u us h⟩
theorem tok_headE {o : List (List Nat)} {r : Bool} {ts : List XTok} (h : DocU o r 4 ts) (ho : o ≠ []) : ∃ R, writeE ts = 60 :: R := by
  cases h with
  | done => exact absurd rfl ho
  | elem n a o r k ts h hr ha hn => exact elem_head n a ts
  | fin n o r k ts h ho' hn => exact ⟨_, writeE_not (by simp) ts⟩
  | text l o r k ts h ho' hk hn => exact absurd rfl hk
  | comment l o r k ts h hn => exact ⟨_, writeE_not (by simp) ts⟩
  | pi n l o r k ts h hn => exact ⟨_, writeE_not (by simp) ts⟩
def OkE (ts : List XTok) (o : List (List Nat)) (k : Nat) (P : List Nat) (toks : List XTok) (ru : List Nat) (n : Nat) : Prop :=
  ∃ ts1 ts2 j P' n', ts = ts1 ++ ts2 ∧ (DocU [] true 7 ts2 ∧ (DocT o true k ts → DocT [] true 7 ts2)) ∧ (flushT toks ru).length + ts1.length ≤ 4096 ∧ j + (writeE ts2).length ≤ (writeE ts).length ∧ ∀ f, RS.content (f + j) ⟨P, writeE ts, [], 0, o, toks, ru, n⟩ = .ok ⟨P', writeE ts2, [], 0, [], flushT toks ru ++ ts1, [], n'⟩
def ErE (ts : List XTok) (o : List (List Nat)) (P : List Nat) (toks : List XTok) (ru : List Nat) (n : Nat) : Prop :=
  ∃ j pl, j ≤ (writeE ts).length + 1 ∧ ∀ f, RS.content (f + j) ⟨P, writeE ts, [], 0, o, toks, ru, n⟩ = .error (6, pl)
def InnR (ts : List XTok) (o : List (List Nat)) (k : Nat) (P : List Nat) (toks : List XTok) (ru : List Nat) (n : Nat) : Prop :=
  OkE ts o k P toks ru n ∨ (ErE ts o P toks ru n ∧ ¬ (DocT o true k ts ∧ (flushT toks ru).length + ts.length ≤ 4096))
theorem content_err {s : RS} {e : Er} (h : s.opn ≠ []) (h1 : s.contentOne = .error e) (f : Nat) : RS.content (f + 1) s = .error e := by
  rw [RS.content, if_neg h, h1]
/-- A step that reads some tokens. -/
theorem stepE {t1 ts' : List XTok} {pre : List Nat} {o o' : List (List Nat)} {k k' : Nat} {P P' : List Nat} {toks : List XTok} {ru : List Nat} {n n' : Nat} (ho : o ≠ []) (hw : writeE (t1 ++ ts') = pre ++ writeE ts') (hlen : 1 ≤ pre.length)
    (h1 : (⟨P, pre ++ writeE ts', [], 0, o, toks, ru, n⟩ : RS).contentOne = .ok ⟨P', writeE ts', [], 0, o', flushT toks ru ++ t1, [], n'⟩) (ht : DocT o true k (t1 ++ ts') → DocT o' true k' ts')
    (ih : InnR ts' o' k' P' (flushT toks ru ++ t1) [] n') : InnR (t1 ++ ts') o k P toks ru n := by
  rcases ih with ⟨ts1, ts2, j, P2, n2, rfl, ⟨hd, hdt⟩, hl, hj, hc⟩ | ⟨⟨j, pl, hj, hc⟩, hp⟩
  · left
    rw [flushT_nil, List.length_append] at hl
    refine ⟨t1 ++ ts1, ts2, j + 1, P2, n2, (List.append_assoc ..).symm, ⟨hd, fun h2 => hdt (ht h2)⟩, ?_, ?_, fun f => ?_⟩
    · rw [List.length_append]; omega
    · rw [hw, List.length_append]; omega
    · rw [hw, ← Nat.add_assoc, content_step ho h1, hc f, flushT_nil, List.append_assoc]
  · right
    refine ⟨⟨j + 1, pl, ?_, fun f => ?_⟩, fun ⟨h2, h3⟩ => hp ⟨ht h2, ?_⟩⟩
    · rw [hw, List.length_append]; omega
    · rw [hw, ← Nat.add_assoc, content_step ho h1, hc f]
    · rw [flushT_nil, List.length_append]
      rw [List.length_append] at h3
      omega
theorem stopE {ts : List XTok} {o : List (List Nat)} {k : Nat} {P : List Nat} {toks : List XTok} {ru : List Nat} {n : Nat} (ho : o ≠ []) (h1 : ∃ pl, (⟨P, writeE ts, [], 0, o, toks, ru, n⟩ : RS).contentOne = .error (6, pl)) (hp : ¬ (DocT o true k ts ∧ (flushT toks ru).length + ts.length ≤ 4096)) : InnR ts o k P toks ru n := by
  obtain ⟨pl, h1⟩ := h1
  exact .inr ⟨⟨1, pl, by omega, fun f => content_err ho h1 f⟩, hp⟩
theorem DocT.deep {o : List (List Nat)} {k : Nat} {m : List Nat} {a : List (List Nat × List Nat)} {ts : List XTok} (h : DocT o true k (⟨2, m, a, []⟩ :: ts)) : o.length < 32 ∧ DocT (o ++ [m]) true 2 ts := by
  cases h with
  | elem _ _ _ _ _ _ h hr ho ha hn => exact ⟨ho, hn⟩
theorem DocT.out {o : List (List Nat)} {r : Bool} {k : Nat} {m : List Nat} {ts : List XTok} (h : DocT o r k (⟨7, m, [], []⟩ :: ts)) : DocT o.dropLast r 7 ts := by
  cases h with
  | fin _ _ _ _ _ h ho hn => exact hn
theorem DocT.txt {o : List (List Nat)} {r : Bool} {k : Nat} {l : List Nat} {ts : List XTok} (h : DocT o r k (⟨4, [], [], l⟩ :: ts)) : DocT o r 4 ts := by
  cases h with
  | text _ _ _ _ _ h ho hk hn => exact hn
theorem DocT.com {o : List (List Nat)} {r : Bool} {k : Nat} {l : List Nat} {ts : List XTok} (h : DocT o r k (⟨5, [], [], l⟩ :: ts)) : DocT o r 5 ts := by
  cases h with
  | comment _ _ _ _ _ h hn => exact hn
theorem DocT.ins {o : List (List Nat)} {r : Bool} {k : Nat} {m l : List Nat} {ts : List XTok} (h : DocT o r k (⟨6, m, [], l⟩ :: ts)) : DocT o r 6 ts := by
  cases h with
  | pi _ _ _ _ _ _ h hn => exact hn
theorem fin_is {o : List (List Nat)} {m : List Nat} {u : XTok} {us : List XTok} (h : DocU (o ++ [m]) true 2 (u :: us)) (hu : u.kind = 7) : u = ⟨7, m, [], []⟩ ∧ DocU o true 7 us := by
  generalize ho : o ++ [m] = o' at h
  cases h with
  | fin m' _ _ _ _ h ho' hn =>
    subst ho
    rw [List.getLast?_concat] at ho'
    cases ho'
    rw [List.dropLast_concat] at hn
    exact ⟨rfl, hn⟩
  | elem => cases hu
  | text => cases hu
  | comment => cases hu
  | pi => cases hu
theorem innerE : ∀ (N : Nat) (ts : List XTok), ts.length ≤ N → ∀ (o : List (List Nat)) (k : Nat) (P : List Nat) (toks : List XTok) (ru : List Nat) (n : Nat), o ≠ [] → o.length ≤ 32 → DocU o true k ts → (ru ≠ [] → k = 4) → (flushT toks ru).length ≤ 4096 → InnR ts o k P toks ru n
  | _, [], _, o, k, P, toks, ru, n, ho, _, h, _, _ => by
    cases h
    exact absurd rfl ho
  | 0, t :: ts, hN, _, _, _, _, _, _, _, _, _, _, _ => by simp at hN
  | N + 1, t :: ts, hN, o, k, P, toks, ru, n, ho, h32, h, hru, hl => by
    have hN' : ts.length ≤ N := by simpa using hN
    cases h with
    | elem m a _ _ _ _ h hr ha hn =>
      cases h with | elem _ _ hq hqa hnd =>
      obtain ⟨c, u, hcu, hbeg⟩ := isQ_beg hq
      obtain ⟨_, hc1, _, hc2, hc3⟩ := beg_not hbeg
      obtain ⟨v, vs, rfl⟩ := elem_next hn
      by_cases hv : v.kind = 7
      · obtain ⟨rfl, hn'⟩ := fin_is hn hv
        have hw : writeE (⟨2, m, a, []⟩ :: ⟨7, m, [], []⟩ :: vs) = 60 :: (m ++ (a.flatMap attrL ++ [47, 62])) ++ writeE vs := writeE_pair _ _ vs rfl rfl
        have hone : (⟨P, 60 :: (m ++ (a.flatMap attrL ++ [47, 62])) ++ writeE vs, [], 0, o, toks, ru, n⟩ : RS).contentOne = (⟨P, 60 :: (m ++ (a.flatMap attrL ++ [47, 62])) ++ writeE vs, [], 0, o, toks, ru, n⟩ : RS).startTag := one_start (c := c) (t := u ++ (a.flatMap attrL ++ [47, 62]) ++ writeE vs) (by rw [hcu]; simp) hc1 hc2 hc3
        by_cases hz : o.length = 32 ∨ 4096 ≤ (flushT toks ru).length + 1
        · obtain ⟨pl, h1⟩ := startO_lim P (writeE vs) [] 0 o toks ru n m a hq hqa hnd ha hz hl
          refine stopE ho ⟨pl, by rw [hw, hone, h1]⟩ ?_
          rintro ⟨h2, h3⟩
          have := h2.deep.1
          simp at h3
          omega
        · obtain ⟨P1, n1, h1⟩ := start_backO P (writeE vs) [] 0 o toks ru n m a hq hqa hnd (by omega) ha (by omega)
          exact stepE (t1 := [⟨2, m, a, []⟩, ⟨7, m, [], []⟩]) ho hw (by simp) (by rw [hone, h1, List.append_assoc]; rfl) (fun h2 => by
            have h3 := h2.deep.2.out
            rw [List.dropLast_concat] at h3
            exact h3) (innerE N vs (by simp at hN'; omega) o 7 P1 (flushT toks ru ++ [⟨2, m, a, []⟩, ⟨7, m, [], []⟩]) [] n1 ho h32 hn' (fun h => absurd rfl h) (by rw [flushT_nil, List.length_append]; show _ + 2 ≤ _; omega))
      · have hw : writeE (⟨2, m, a, []⟩ :: v :: vs) = 60 :: (m ++ (a.flatMap attrL ++ [62])) ++ writeE (v :: vs) := writeE_elem _ v vs hv
        have hone : (⟨P, 60 :: (m ++ (a.flatMap attrL ++ [62])) ++ writeE (v :: vs), [], 0, o, toks, ru, n⟩ : RS).contentOne = (⟨P, 60 :: (m ++ (a.flatMap attrL ++ [62])) ++ writeE (v :: vs), [], 0, o, toks, ru, n⟩ : RS).startTag := one_start (c := c) (t := u ++ (a.flatMap attrL ++ [62]) ++ writeE (v :: vs)) (by rw [hcu]; simp) hc1 hc2 hc3
        by_cases hz : o.length = 32 ∨ (flushT toks ru).length = 4096
        · obtain ⟨pl, h1⟩ := start_lim P (writeE (v :: vs)) [] 0 o toks ru n m a hq hqa hnd ha hz
          refine stopE ho ⟨pl, by rw [hw, hone, h1]⟩ ?_
          rintro ⟨h2, h3⟩
          have := h2.deep.1
          simp at h3
          omega
        · obtain ⟨P1, n1, h1⟩ := start_back P (writeE (v :: vs)) [] 0 o toks ru n m a hq hqa hnd (by omega) ha (by omega)
          exact stepE (t1 := [⟨2, m, a, []⟩]) ho hw (by simp) (by rw [hone, h1]) (fun h2 => h2.deep.2) (innerE N (v :: vs) hN' (o ++ [m]) 2 P1 (flushT toks ru ++ [⟨2, m, a, []⟩]) [] n1 (by simp) (by rw [List.length_append]; show _ + 1 ≤ _; omega) hn (fun h => absurd rfl h) (by rw [flushT_nil, List.length_append]; show _ + 1 ≤ _; omega))
    | fin m _ _ _ _ h ho' hn =>
      cases h with | fin _ hq =>
      have hw : writeE (⟨7, m, [], []⟩ :: ts) = 60 :: 47 :: (m ++ [62]) ++ writeE ts := writeE_not (by simp) ts
      have hone : (⟨P, 60 :: 47 :: (m ++ [62]) ++ writeE ts, [], 0, o, toks, ru, n⟩ : RS).contentOne = (⟨P, 60 :: 47 :: (m ++ [62]) ++ writeE ts, [], 0, o, toks, ru, n⟩ : RS).endTag := one_end (t := m ++ [62] ++ writeE ts) rfl
      by_cases hz : (flushT toks ru).length = 4096
      · obtain ⟨pl, h1⟩ := end_lim P (writeE ts) [] 0 o toks ru n m hq ho' hz
        refine stopE ho ⟨pl, by rw [hw, hone, h1]⟩ ?_
        rintro ⟨h2, h3⟩
        simp at h3
        omega
      · obtain ⟨P1, n1, h1⟩ := end_back P (writeE ts) [] 0 o toks ru n m hq ho' (by omega)
        have hone' := hone.trans h1
        by_cases hd : o.dropLast = []
        · rw [hd] at hone' hn
          left
          refine ⟨[⟨7, m, [], []⟩], ts, 1, P1, n1, rfl, ⟨hn, fun h2 => hd ▸ h2.out⟩, ?_, ?_, fun f => ?_⟩
          · show _ + 1 ≤ _; omega
          · rw [hw, List.length_append]; simp
          · rw [hw, content_step ho hone', content_nil f _ rfl]
        · exact stepE (t1 := [⟨7, m, [], []⟩]) ho hw (by simp) hone' (fun h2 => h2.out) (innerE N ts hN' o.dropLast 7 P1 (flushT toks ru ++ [⟨7, m, [], []⟩]) [] n1 hd (by rw [List.length_dropLast]; omega) hn (fun h => absurd rfl h) (by rw [flushT_nil, List.length_append]; show _ + 1 ≤ _; omega))
    | text l _ _ _ _ h ho' hk hn =>
      cases h with | text _ hne =>
      have hr0 : ru = [] := by
        by_cases hr : ru = []
        · exact hr
        · exact absurd (hru hr) hk
      subst hr0
      rw [flushT_nil] at hl
      have hw : writeE (⟨4, [], [], l⟩ :: ts) = mapN escN l ++ writeE ts := writeE_not (by simp) ts
      obtain ⟨R, hR⟩ := tok_headE hn ho
      by_cases hz : toks.length = 4096
      · obtain ⟨pl, h1⟩ := text_lim R [] 0 o toks n hz l hne P
        refine stopE ho ⟨pl, by rw [hw, hR, h1]⟩ ?_
        rintro ⟨h2, h3⟩
        rw [flushT_nil] at h3
        simp at h3
        omega
      · obtain ⟨j, P1, hj, h1⟩ := content_escaped R [] 0 o toks n ho (by omega) l.length l rfl P []
        rw [List.nil_append, ← hR] at h1
        have hf : (flushT toks l).length = toks.length + 1 := by rw [flushT_run _ hne, List.length_append]; rfl
        rcases innerE N ts hN' o 4 P1 toks l n ho h32 hn (fun _ => rfl) (by omega) with ⟨ts1, ts2, j2, P2, n2, rfl, ⟨hd, hdt⟩, hl2, hj2, hc⟩ | ⟨⟨j2, pl, hj2, hc⟩, hp⟩
        · left
          refine ⟨⟨4, [], [], l⟩ :: ts1, ts2, j2 + j, P2, n2, rfl, ⟨hd, fun h2 => hdt h2.txt⟩, ?_, ?_, fun f => ?_⟩
          · rw [flushT_nil]; rw [hf] at hl2; show _ + (ts1.length + 1) ≤ _; omega
          · rw [hw, List.length_append]; omega
          · rw [hw, ← Nat.add_assoc, h1, hc f, flushT_run _ hne, flushT_nil, List.append_assoc]
            rfl
        · right
          refine ⟨⟨j2 + j, pl, ?_, fun f => ?_⟩, fun ⟨h2, h3⟩ => hp ⟨h2.txt, ?_⟩⟩
          · rw [hw, List.length_append]; omega
          · rw [hw, ← Nat.add_assoc, h1, hc f]
          · rw [hf]; rw [flushT_nil] at h3; simp at h3; omega
    | comment l _ _ _ _ h hn =>
      cases h with | comment _ h1 h2 =>
      have hw : writeE (⟨5, [], [], l⟩ :: ts) = 60 :: 33 :: 45 :: 45 :: (l ++ [45, 45, 62]) ++ writeE ts := writeE_not (by simp) ts
      have hone : (⟨P, 60 :: 33 :: 45 :: 45 :: (l ++ [45, 45, 62]) ++ writeE ts, [], 0, o, toks, ru, n⟩ : RS).contentOne = (⟨P, 60 :: 33 :: 45 :: 45 :: (l ++ [45, 45, 62]) ++ writeE ts, [], 0, o, toks, ru, n⟩ : RS).tellComment := one_comment (t := l ++ [45, 45, 62] ++ writeE ts) rfl
      by_cases hz : (flushT toks ru).length = 4096
      · obtain ⟨pl, h3⟩ := comment_lim P (writeE ts) [] 0 o toks ru n l h1 h2 hz
        refine stopE ho ⟨pl, by rw [hw, hone, h3]⟩ ?_
        rintro ⟨h2, h3⟩
        simp at h3
        omega
      · obtain ⟨P1, n1, h3⟩ := comment_back P (writeE ts) [] 0 o toks ru n l h1 h2 (by omega)
        exact stepE (t1 := [⟨5, [], [], l⟩]) ho hw (by simp) (hone.trans h3) (fun h2 => h2.com) (innerE N ts hN' o 5 P1 (flushT toks ru ++ [⟨5, [], [], l⟩]) [] n1 ho h32 hn (fun h => absurd rfl h) (by rw [flushT_nil, List.length_append]; show _ + 1 ≤ _; omega))
    | pi m l _ _ _ _ h hn =>
      cases h with | pi _ _ h1 h2 h3 =>
      have hw : writeE (⟨6, m, [], l⟩ :: ts) = 60 :: 63 :: (m ++ ((if l = [] then [] else 32 :: l) ++ [63, 62])) ++ writeE ts := writeE_not (by simp) ts
      have hone : (⟨P, 60 :: 63 :: (m ++ ((if l = [] then [] else 32 :: l) ++ [63, 62])) ++ writeE ts, [], 0, o, toks, ru, n⟩ : RS).contentOne = (⟨P, 60 :: 63 :: (m ++ ((if l = [] then [] else 32 :: l) ++ [63, 62])) ++ writeE ts, [], 0, o, toks, ru, n⟩ : RS).tellInstruction := one_pi (t := m ++ ((if l = [] then [] else 32 :: l) ++ [63, 62]) ++ writeE ts) rfl
      by_cases hz : (flushT toks ru).length = 4096
      · obtain ⟨pl, h4⟩ := pi_lim P (writeE ts) [] 0 o toks ru n m l h1 h2 h3 hz
        refine stopE ho ⟨pl, by rw [hw, hone, h4]⟩ ?_
        rintro ⟨h2, h3⟩
        simp at h3
        omega
      · obtain ⟨P1, n1, h4⟩ := pi_back P (writeE ts) [] 0 o toks ru n m l h1 h2 h3 (by omega)
        exact stepE (t1 := [⟨6, m, [], l⟩]) ho hw (by simp) (hone.trans h4) (fun h2 => h2.ins) (innerE N ts hN' o 6 P1 (flushT toks ru ++ [⟨6, m, [], l⟩]) [] n1 ho h32 hn (fun h => absurd rfl h) (by rw [flushT_nil, List.length_append]; show _ + 1 ≤ _; omega))
/-- Comments and processing instructions at the top. -/
theorem docE_comment (f : Nat) (typed r : Bool) (P R : List Nat) (toks : List XTok) (n : Nat) (l : List Nat) :
    RS.docGo (f + 1) typed r ⟨P, 60 :: 33 :: 45 :: 45 :: (l ++ [45, 45, 62]) ++ R, [], 0, [], toks, [], n⟩ = docMore f typed r (⟨P, 60 :: 33 :: 45 :: 45 :: (l ++ [45, 45, 62]) ++ R, [], 0, [], toks, [], n⟩ : RS).tellComment := by
  rw [docGo_eq, (blanks_no P (60 :: 33 :: 45 :: 45 :: (l ++ [45, 45, 62]) ++ R) [] 0 [] toks [] n (fun c hc => by cases hc; rfl)).1, if_pos (by simp [RS.sees, List.isPrefixOf])]
theorem docE_pi (f : Nat) (typed r : Bool) (P R : List Nat) (toks : List XTok) (n : Nat) (k l : List Nat) :
    RS.docGo (f + 1) typed r ⟨P, 60 :: 63 :: (k ++ ((if l = [] then [] else 32 :: l) ++ [63, 62])) ++ R, [], 0, [], toks, [], n⟩ = docMore f typed r (⟨P, 60 :: 63 :: (k ++ ((if l = [] then [] else 32 :: l) ++ [63, 62])) ++ R, [], 0, [], toks, [], n⟩ : RS).tellInstruction := by
  rw [docGo_eq, (blanks_no P (60 :: 63 :: (k ++ ((if l = [] then [] else 32 :: l) ++ [63, 62])) ++ R) [] 0 [] toks [] n (fun c hc => by cases hc; rfl)).1, if_neg (by simp [RS.sees, List.isPrefixOf]), if_pos (by simp [RS.sees, List.isPrefixOf])]
def TopR (r : Bool) (ts : List XTok) (k : Nat) (P : List Nat) (toks : List XTok) (n f : Nat) (typed : Bool) : Prop :=
  (∃ P' n', RS.docGo f typed r ⟨P, writeE ts, [], 0, [], toks, [], n⟩ = .ok ⟨P', [], [], 0, [], toks ++ ts, [], n'⟩) ∨ ((∃ pl, RS.docGo f typed r ⟨P, writeE ts, [], 0, [], toks, [], n⟩ = .error (6, pl)) ∧ ¬ (DocT [] r k ts ∧ toks.length + ts.length ≤ 4096))
/-- A step at the top. -/
theorem topE {r : Bool} {t : XTok} {ts : List XTok} {k k' : Nat} {P P1 : List Nat} {toks : List XTok} {n n1 f : Nat} {typed : Bool} {pre : List Nat} (hw : writeE (t :: ts) = pre ++ writeE ts) (h1 : RS.docGo (f + 1) typed r ⟨P, pre ++ writeE ts, [], 0, [], toks, [], n⟩ = RS.docGo f typed r ⟨P1, writeE ts, [], 0, [], toks ++ [t], [], n1⟩) (ht : DocT [] r k (t :: ts) → DocT [] r k' ts) (ih : TopR r ts k' P1 (toks ++ [t]) n1 f typed) : TopR r (t :: ts) k P toks n (f + 1) typed := by
  rcases ih with ⟨P2, n2, h2⟩ | ⟨⟨pl, h2⟩, hp⟩
  · exact .inl ⟨P2, n2, by rw [hw, h1, h2, List.append_assoc]; rfl⟩
  · refine .inr ⟨⟨pl, by rw [hw, h1, h2]⟩, fun ⟨h3, h4⟩ => hp ⟨ht h3, ?_⟩⟩
    rw [List.length_append]
    rw [List.length_cons] at h4
    show toks.length + 1 + ts.length ≤ 4096
    omega
theorem topE_lim {r : Bool} {t : XTok} {ts : List XTok} {k : Nat} {P : List Nat} {toks : List XTok} {n f : Nat} {typed : Bool} (h1 : ∃ pl, RS.docGo (f + 1) typed r ⟨P, writeE (t :: ts), [], 0, [], toks, [], n⟩ = .error (6, pl)) (hz : toks.length = 4096) : TopR r (t :: ts) k P toks n (f + 1) typed :=
  .inr ⟨h1, fun ⟨_, h⟩ => by rw [List.length_cons] at h; omega⟩
theorem top_com {r : Bool} {l : List Nat} {ts : List XTok} {k : Nat} {P : List Nat} {toks : List XTok} {n f : Nat} {typed : Bool} (h : OkTok ⟨5, [], [], l⟩) (hl : toks.length ≤ 4096) (ih : toks.length < 4096 → ∀ P1 n1, TopR r ts 5 P1 (toks ++ [⟨5, [], [], l⟩]) n1 f typed) : TopR r (⟨5, [], [], l⟩ :: ts) k P toks n (f + 1) typed := by
  cases h with | comment _ h1 h2 =>
  have hw : writeE (⟨5, [], [], l⟩ :: ts) = 60 :: 33 :: 45 :: 45 :: (l ++ [45, 45, 62]) ++ writeE ts := writeE_not (by simp) ts
  by_cases hz : toks.length = 4096
  · obtain ⟨pl, h3⟩ := comment_lim P (writeE ts) [] 0 [] toks [] n l h1 h2 hz
    exact topE_lim ⟨pl, by rw [hw, docE_comment, h3]; rfl⟩ hz
  · obtain ⟨P1, n1, h3⟩ := comment_back P (writeE ts) [] 0 [] toks [] n l h1 h2 (by rw [flushT_nil]; omega)
    exact topE hw (by rw [docE_comment, h3]; rfl) (fun h2 => h2.com) (ih (by omega) P1 n1)
theorem top_ins {r : Bool} {m l : List Nat} {ts : List XTok} {k : Nat} {P : List Nat} {toks : List XTok} {n f : Nat} {typed : Bool} (h : OkTok ⟨6, m, [], l⟩) (hl : toks.length ≤ 4096) (ih : toks.length < 4096 → ∀ P1 n1, TopR r ts 6 P1 (toks ++ [⟨6, m, [], l⟩]) n1 f typed) : TopR r (⟨6, m, [], l⟩ :: ts) k P toks n (f + 1) typed := by
  cases h with | pi _ _ h1 h2 h3 =>
  have hw : writeE (⟨6, m, [], l⟩ :: ts) = 60 :: 63 :: (m ++ ((if l = [] then [] else 32 :: l) ++ [63, 62])) ++ writeE ts := writeE_not (by simp) ts
  by_cases hz : toks.length = 4096
  · obtain ⟨pl, h4⟩ := pi_lim P (writeE ts) [] 0 [] toks [] n m l h1 h2 h3 hz
    exact topE_lim ⟨pl, by rw [hw, docE_pi, h4]; rfl⟩ hz
  · obtain ⟨P1, n1, h4⟩ := pi_back P (writeE ts) [] 0 [] toks [] n m l h1 h2 h3 (by rw [flushT_nil]; omega)
    exact topE hw (by rw [docE_pi, h4]; rfl) (fun h2 => h2.ins) (ih (by omega) P1 n1)
theorem afterE : ∀ (ts : List XTok) (k : Nat) (P : List Nat) (toks : List XTok) (n f : Nat) (typed : Bool), DocU [] true k ts → toks.length ≤ 4096 → ts.length < f → TopR true ts k P toks n f typed
  | [], k, P, toks, n, f, typed, _, _, hf => by
    obtain ⟨g, rfl⟩ : ∃ g, f = g + 1 := ⟨f - 1, by simp at hf; omega⟩
    refine .inl ⟨P, n, ?_⟩
    show RS.docGo (g + 1) typed true ⟨P, [], [], 0, [], toks, [], n⟩ = _
    rw [docGo_eq, (blanks_no P [] [] 0 [] toks [] n (fun c hc => by cases hc)).1, List.append_nil]
    cases typed <;> rfl
  | t :: ts, k, P, toks, n, f, typed, h, hl, hf => by
    rw [List.length_cons] at hf
    obtain ⟨g, rfl⟩ : ∃ g, f = g + 1 := ⟨f - 1, by omega⟩
    cases h with
    | elem m a _ _ _ _ h hr ha hn => exact absurd (hr rfl) (by decide)
    | fin m _ _ _ _ h ho' hn => cases ho'
    | text l _ _ _ _ h ho' hk hn => exact absurd rfl ho'
    | comment l _ _ _ _ h hn => exact top_com h hl (fun hz P1 n1 => afterE ts 5 P1 _ n1 g typed hn (by rw [List.length_append]; show _ + 1 ≤ _; omega) (by omega))
    | pi m l _ _ _ _ h hn => exact top_ins h hl (fun hz P1 n1 => afterE ts 6 P1 _ n1 g typed hn (by rw [List.length_append]; show _ + 1 ≤ _; omega) (by omega))
/-- An element at the top. -/
theorem docE_elem (f : Nat) (P R : List Nat) (toks : List XTok) (n c : Nat) (hc1 : c ≠ 33) (hc2 : c ≠ 63) :
    RS.docGo (f + 1) false false ⟨P, 60 :: c :: R, [], 0, [], toks, [], n⟩ = docMore f false true (docElem ⟨P, 60 :: c :: R, [], 0, [], toks, [], n⟩) := by
  have hsee : ∀ z x, z ≠ c → (⟨P, 60 :: c :: R, [], 0, [], toks, [], n⟩ : RS).sees (60 :: z :: x) = false := fun z x hz => by
    unfold RS.sees
    simp [List.isPrefixOf, hz]
  have s4 : (⟨P, 60 :: c :: R, [], 0, [], toks, [], n⟩ : RS).sees [60] = true := by simp [RS.sees, List.isPrefixOf]
  rw [docGo_eq, (blanks_no P (60 :: c :: R) [] 0 [] toks [] n (fun c hc => by cases hc; rfl)).1, hsee 33 _ (Ne.symm hc1), hsee 63 _ (Ne.symm hc2), hsee 33 _ (Ne.symm hc1), s4, if_neg (by decide), if_neg (by decide), if_neg (by decide), if_pos (by decide)]
theorem DocT.top {k : Nat} {m : List Nat} {a : List (List Nat × List Nat)} {ts : List XTok} (h : DocT [] false k (⟨2, m, a, []⟩ :: ts)) : DocT [m] true 2 ts := by
  cases h with
  | elem _ _ _ _ _ _ h hr ho ha hn => exact hn
theorem beforeE : ∀ (ts : List XTok) (k : Nat) (P : List Nat) (toks : List XTok) (n f : Nat), DocU [] false k ts → toks.length ≤ 4096 → ts.length < f → TopR false ts k P toks n f false
  | [], k, P, toks, n, f, h, _, hf => by cases h
  | t :: ts, k, P, toks, n, f, h, hl, hf => by
    rw [List.length_cons] at hf
    obtain ⟨g, rfl⟩ : ∃ g, f = g + 1 := ⟨f - 1, by omega⟩
    cases h with
    | elem m a _ _ _ _ h hr ha hn =>
      cases h with | elem _ _ hq hqa hnd =>
      obtain ⟨c, u, hcu, hbeg⟩ := isQ_beg hq
      obtain ⟨_, hc1, _, hc2, hc3⟩ := beg_not hbeg
      obtain ⟨v, vs, rfl⟩ := elem_next hn
      have htop : ∀ X Y, RS.docGo (g + 1) false false ⟨P, 60 :: (m ++ X) ++ Y, [], 0, [], toks, [], n⟩ = docMore g false true (docElem ⟨P, 60 :: (m ++ X) ++ Y, [], 0, [], toks, [], n⟩) := fun X Y => by
        have e : 60 :: (m ++ X) ++ Y = 60 :: c :: (u ++ X ++ Y) := by rw [hcu]; simp
        rw [e]
        exact docE_elem g P _ toks n c hc2 hc3
      by_cases hv : v.kind = 7
      · obtain ⟨rfl, hn'⟩ := fin_is hn hv
        have hw : writeE (⟨2, m, a, []⟩ :: ⟨7, m, [], []⟩ :: vs) = 60 :: (m ++ (a.flatMap attrL ++ [47, 62])) ++ writeE vs := writeE_pair _ _ vs rfl rfl
        by_cases hz : 4096 ≤ toks.length + 1
        · obtain ⟨pl, h1⟩ := startO_lim P (writeE vs) [] 0 [] toks [] n m a hq hqa hnd ha (.inr hz) hl
          refine .inr ⟨⟨pl, ?_⟩, fun ⟨_, h3⟩ => by simp at h3; omega⟩
          rw [hw, htop]
          unfold docElem
          rw [h1]
          rfl
        · obtain ⟨P1, n1, h1⟩ := start_backO P (writeE vs) [] 0 [] toks [] n m a hq hqa hnd (by decide) ha (by rw [flushT_nil]; omega)
          rw [flushT_nil] at h1
          have hgo : RS.docGo (g + 1) false false ⟨P, writeE (⟨2, m, a, []⟩ :: ⟨7, m, [], []⟩ :: vs), [], 0, [], toks, [], n⟩ = RS.docGo g false true ⟨P1, writeE vs, [], 0, [], toks ++ [⟨2, m, a, []⟩] ++ [⟨7, m, [], []⟩], [], n1⟩ := by
            rw [hw, htop]
            unfold docElem
            rw [h1]
            simp only
            rw [content_nil _ _ rfl]
            rfl
          rcases afterE vs 7 P1 (toks ++ [⟨2, m, a, []⟩] ++ [⟨7, m, [], []⟩]) n1 g false hn' (by rw [List.length_append, List.length_append]; show _ + 1 + 1 ≤ _; omega) (by simp at hf; omega) with ⟨P2, n2, h2⟩ | ⟨⟨pl, h2⟩, hp⟩
          · exact .inl ⟨P2, n2, by rw [hgo, h2, List.append_assoc, List.append_assoc]; rfl⟩
          · refine .inr ⟨⟨pl, by rw [hgo, h2]⟩, fun ⟨h3, h4⟩ => hp ⟨h3.top.out, ?_⟩⟩
            rw [List.length_append, List.length_append]
            simp at h4
            show toks.length + 1 + 1 + vs.length ≤ 4096
            omega
      · have hw : writeE (⟨2, m, a, []⟩ :: v :: vs) = 60 :: (m ++ (a.flatMap attrL ++ [62])) ++ writeE (v :: vs) := writeE_elem _ v vs hv
        by_cases hz : toks.length = 4096
        · obtain ⟨pl, h1⟩ := start_lim P (writeE (v :: vs)) [] 0 [] toks [] n m a hq hqa hnd ha (.inr hz)
          refine .inr ⟨⟨pl, ?_⟩, fun ⟨_, h3⟩ => by simp at h3; omega⟩
          rw [hw, htop]
          unfold docElem
          rw [h1]
          rfl
        · obtain ⟨P1, n1, h1⟩ := start_back P (writeE (v :: vs)) [] 0 [] toks [] n m a hq hqa hnd (by decide) ha (by rw [flushT_nil]; omega)
          rw [flushT_nil] at h1
          have hgo : RS.docGo (g + 1) false false ⟨P, writeE (⟨2, m, a, []⟩ :: v :: vs), [], 0, [], toks, [], n⟩ = docMore g false true (RS.content ((writeE (v :: vs)).length + 1) ⟨P1, writeE (v :: vs), [], 0, [] ++ [m], toks ++ [⟨2, m, a, []⟩], [], n1⟩) := by
            rw [hw, htop]
            unfold docElem
            rw [h1]
          have hlen : (flushT (toks ++ [⟨2, m, a, []⟩]) []).length = toks.length + 1 := by rw [flushT_nil, List.length_append]; rfl
          rcases innerE (v :: vs).length (v :: vs) (Nat.le_refl _) ([] ++ [m]) 2 P1 (toks ++ [⟨2, m, a, []⟩]) [] n1 (by simp) (by show 1 ≤ 32; decide) hn (fun h => absurd rfl h) (by omega) with ⟨ts1, ts2, j, P2, n2, he, ⟨hd, hdt⟩, hl2, hj, hc⟩ | ⟨⟨j, pl, hj, hc⟩, hp⟩
          · have hcont : RS.content ((writeE (v :: vs)).length + 1) ⟨P1, writeE (v :: vs), [], 0, [] ++ [m], toks ++ [⟨2, m, a, []⟩], [], n1⟩ = .ok ⟨P2, writeE ts2, [], 0, [], toks ++ [⟨2, m, a, []⟩] ++ ts1, [], n2⟩ := by
              have e : (writeE (v :: vs)).length + 1 = ((writeE (v :: vs)).length + 1 - j) + j := by omega
              rw [e]
              exact hc _
            rw [hlen] at hl2
            have hln : (v :: vs).length = ts1.length + ts2.length := by rw [he, List.length_append]
            rcases afterE ts2 7 P2 (toks ++ [⟨2, m, a, []⟩] ++ ts1) n2 g false hd (by rw [List.length_append, List.length_append]; show toks.length + 1 + ts1.length ≤ 4096; omega) (by omega) with ⟨P3, n3, h2⟩ | ⟨⟨pl, h2⟩, hp⟩
            · refine .inl ⟨P3, n3, ?_⟩
              rw [hgo, hcont]
              show RS.docGo g false true _ = _
              rw [h2, he, List.append_assoc, List.append_assoc]
              rfl
            · refine .inr ⟨⟨pl, ?_⟩, fun ⟨h3, h4⟩ => hp ⟨hdt h3.top, ?_⟩⟩
              · rw [hgo, hcont]
                exact h2
              · rw [List.length_append, List.length_append]
                rw [List.length_cons, hln] at h4
                show toks.length + 1 + ts1.length + ts2.length ≤ 4096
                omega
          · refine .inr ⟨⟨pl, ?_⟩, fun ⟨h3, h4⟩ => hp ⟨h3.top, ?_⟩⟩
            · rw [hgo]
              have e : (writeE (v :: vs)).length + 1 = ((writeE (v :: vs)).length + 1 - j) + j := by omega
              rw [e, hc]
              rfl
            · rw [hlen]
              rw [List.length_cons] at h4
              omega
    | fin m _ _ _ _ h ho' hn => cases ho'
    | text l _ _ _ _ h ho' hk hn => exact absurd rfl ho'
    | comment l _ _ _ _ h hn => exact top_com h hl (fun hz P1 n1 => beforeE ts 5 P1 _ n1 g hn (by rw [List.length_append]; show _ + 1 ≤ _; omega) (by omega))
    | pi m l _ _ _ _ h hn => exact top_ins h hl (fun hz P1 n1 => beforeE ts 6 P1 _ n1 g hn (by rw [List.length_append]; show _ + 1 ≤ _; omega) (by omega))
theorem lenE : ∀ (N : Nat) (ts : List XTok), ts.length ≤ N → ∀ (o : List (List Nat)) (r : Bool) (k : Nat), DocU o r k ts → ts.length ≤ (writeE ts).length
  | _, [], _, _, _, _, _ => Nat.zero_le _
  | 0, t :: ts, hN, _, _, _, _ => by simp at hN
  | N + 1, t :: ts, hN, o, r, k, h => by
    have hN' : ts.length ≤ N := by simpa using hN
    cases h with
    | elem m a _ _ _ _ h hr ha hn =>
      obtain ⟨v, vs, rfl⟩ := elem_next hn
      by_cases hv : v.kind = 7
      · have hn2 : ∃ o' r' k', DocU o' r' k' vs := by
          generalize ho : o ++ [m] = o' at hn
          cases hn with
          | fin m' _ _ _ _ h ho' hn => exact ⟨_, _, _, hn⟩
          | elem => cases hv
          | text => cases hv
          | comment => cases hv
          | pi => cases hv
        obtain ⟨o', r', k', hn2⟩ := hn2
        have ih := lenE N vs (by simp at hN'; omega) o' r' k' hn2
        rw [writeE_pair _ v vs rfl hv, List.length_append]
        have : 3 ≤ (emptyL ⟨2, m, a, []⟩).length := by unfold emptyL; simp; omega
        rw [List.length_cons, List.length_cons]
        omega
      · have ih := lenE N (v :: vs) hN' _ _ _ hn
        rw [writeE_elem _ v vs hv, List.length_append, List.length_cons]
        have := tok_len h
        omega
    | fin m _ _ _ _ h ho' hn =>
      have ih := lenE N ts hN' _ _ _ hn
      have := tok_len h
      rw [writeE_not (by simp), List.length_append, List.length_cons]
      omega
    | text l _ _ _ _ h ho' hk hn =>
      have ih := lenE N ts hN' _ _ _ hn
      have := tok_len h
      rw [writeE_not (by simp), List.length_append, List.length_cons]
      omega
    | comment l _ _ _ _ h hn =>
      have ih := lenE N ts hN' _ _ _ hn
      have := tok_len h
      rw [writeE_not (by simp), List.length_append, List.length_cons]
      omega
    | pi m l _ _ _ _ h hn =>
      have ih := lenE N ts hN' _ _ _ hn
      have := tok_len h
      rw [writeE_not (by simp), List.length_append, List.length_cons]
      omega
theorem beginE {ts : List XTok} (h : DocU [] false 0 ts) : ([60, 63].isPrefixOf (writeE ts) && nameA ((writeE ts).drop 2) == [120, 109, 108]) = false := by
  cases h with
  | elem m a _ _ _ ts h hr ha hn =>
    cases h with | elem _ _ hq hqa hnd =>
    obtain ⟨c, u, hcu, hbeg⟩ := isQ_beg hq
    obtain ⟨_, _, _, _, hc3⟩ := beg_not hbeg
    have hh : ∃ X, writeE (⟨2, m, a, []⟩ :: ts) = 60 :: c :: X := by
      obtain ⟨v, vs, rfl⟩ := elem_next hn
      by_cases hv : v.kind = 7
      · exact ⟨u ++ (a.flatMap attrL ++ [47, 62]) ++ writeE vs, by rw [writeE_pair _ v vs rfl hv]; show 60 :: (m ++ _) ++ _ = _; rw [hcu]; simp⟩
      · exact ⟨u ++ (a.flatMap attrL ++ [62]) ++ writeE (v :: vs), by rw [writeE_elem _ v vs hv]; show 60 :: (m ++ _) ++ _ = _; rw [hcu]; simp⟩
    obtain ⟨X, hX⟩ := hh
    have : [60, 63].isPrefixOf (writeE (⟨2, m, a, []⟩ :: ts)) = false := by
      rw [hX]
      simp [List.isPrefixOf, Ne.symm hc3]
    rw [this]
    rfl
  | fin m _ _ _ _ h ho' hn => cases ho'
  | text l _ _ _ _ h ho' hk hn => exact absurd rfl ho'
  | comment l _ _ _ ts h hn =>
    rw [writeE_not (by simp)]
    rfl
  | pi m l _ _ _ ts h hn =>
    cases h with | pi _ _ h1 h2 h3 =>
    obtain ⟨t1, t2⟩ := target_name h1
    have e : (writeE (⟨6, m, [], l⟩ :: ts)).drop 2 = m ++ (((if l = [] then [] else 32 :: l) ++ [63, 62]) ++ writeE ts) := by
      rw [writeE_not (by simp)]
      show (60 :: 63 :: (m ++ ((if l = [] then [] else 32 :: l) ++ [63, 62])) ++ writeE ts).drop 2 = _
      simp
    rw [e, name_run t1 (fun c hc => by
      by_cases hl : l = []
      · rw [if_pos hl] at hc; cases hc; decide
      · rw [if_neg hl] at hc; cases hc; decide)]
    have : (m == [120, 109, 108]) = false := by
      cases hh : m == [120, 109, 108]
      · rfl
      · have := eq_of_beq hh
        subst this
        exact absurd rfl t2
    rw [this, Bool.and_false]
/-- What is written by xml is scanned as it was, or is past a limit. -/
theorem scanE {ts : List XTok} (h : DocU [] false 0 ts) : scanX (writeE ts) = .ok ts ∨ ((∃ pl, scanX (writeE ts) = .error (6, pl)) ∧ ¬ (DocT [] false 0 ts ∧ ts.length ≤ 4096)) := by
  have hx := beginE h
  have hlen := lenE ts.length ts (Nat.le_refl _) _ _ _ h
  have hd : (RS.start (writeE ts)).document = RS.docGo ((writeE ts).length + 1) false false ⟨[], writeE ts, [], 0, [], [], [], 0⟩ := by
    unfold RS.document
    rw [if_neg (show ¬ ([60, 63].isPrefixOf (RS.start (writeE ts)).rest && nameA ((RS.start (writeE ts)).rest.drop 2) == [120, 109, 108]) = true from fun h => by
      rw [show (RS.start (writeE ts)).rest = writeE ts from rfl, hx] at h
      cases h)]
    rfl
  unfold scanX
  rw [hd]
  rcases beforeE ts 0 [] [] 0 ((writeE ts).length + 1) h (by decide) (by omega) with ⟨P', n', h1⟩ | ⟨⟨pl, h1⟩, hp⟩
  · left
    rw [h1]
    rfl
  · right
    refine ⟨⟨pl, by rw [h1]⟩, fun ⟨h2, h3⟩ => hp ⟨h2, by simpa using h3⟩⟩
end Go.Proofs.YtefjfjieoiegnaaGreatDoor
