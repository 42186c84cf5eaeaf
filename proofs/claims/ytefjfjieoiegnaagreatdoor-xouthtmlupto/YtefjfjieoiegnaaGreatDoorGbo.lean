/- Several texts, laid as one. -/
import Derived.Test.YtefjfjieoiegnaaGreatDoorOutEp
import Derived.Test.YtefjfjieoiegnaaGreatDoorGbn
import Derived.Test.YtefjfjieoiegnaaGreatDoorGbm
import Derived.Test.YtefjfjieoiegnaaGreatDoorGaa
/- A tree's tokens by xml: bytes and characters. -/
namespace Go.Proofs.YtefjfjieoiegnaaGreatDoor
open Go.RowKit
theorem doc_U : ∀ (ts : List BTok) (o : List (List Nat)) (r : Bool) (k : Nat), (∀ x ∈ o, okL x) → docB (o.map T) r (k : Nat) ts = true → (∀ t ∈ ts, t.attrs.length ≤ 64) →
    ∃ xs : List XTok, ts = xs.map XTok.b ∧ (∀ x ∈ xs, OkAll x) ∧ DocU o r k xs
  | [], o, r, k, _, h, _ => by
    unfold docB at h
    simp only [Bool.and_eq_true] at h
    obtain ⟨h1, h2⟩ := h
    have h3 := isEmpty_of h2
    rw [List.map_eq_nil_iff] at h3
    subst h3 h1
    exact ⟨[], rfl, (fun _ h => by cases h), .done k⟩
  | t :: ts, o, r, k, ho, h, ha => by
    unfold docB at h
    simp only [Bool.and_eq_true] at h
    obtain ⟨h1, h2⟩ := h
    obtain ⟨x, rfl, hx, hok⟩ := ok_T h1
    have ha' : ∀ t ∈ ts, t.attrs.length ≤ 64 := fun t ht => ha t (List.mem_cons_of_mem _ ht)
    have hax := ha _ (List.mem_cons_self ..)
    cases hok with
    | elem n a h3 h4 h5 =>
      by_cases hr : ((o.map T).isEmpty && r) = true
      · have : docStp (o.map T) r (k : Nat) (XTok.b ⟨2, n, a, []⟩) = none := by
          show (if ((o.map T).isEmpty && r) = true then none else some (o.map T ++ [T n], true)) = _
          rw [if_pos hr]
        rw [this] at h2
        cases h2
      · have e : docStp (o.map T) r (k : Nat) (XTok.b ⟨2, n, a, []⟩) = some ((o ++ [n]).map T, true) := by
          show (if ((o.map T).isEmpty && r) = true then none else some (o.map T ++ [T n], true)) = _
          rw [if_neg hr, List.map_append]
          rfl
        rw [e] at h2
        obtain ⟨xs, rfl, q1, q2⟩ := doc_U ts (o ++ [n]) true 2 (fun y hy => by
          rcases List.mem_append.1 hy with hy | hy
          · exact ho y hy
          · rw [List.mem_singleton.1 hy]; exact hx.n) h2 ha'
        refine ⟨⟨2, n, a, []⟩ :: xs, rfl, fun y hy => ?_, .elem n a o r k xs (.elem n a h3 h4 h5) (fun h0 => ?_) (by simpa [XTok.b] using hax) q2⟩
        · rcases List.mem_cons.1 hy with rfl | hy
          · exact hx
          · exact q1 y hy
        · subst h0
          simpa using hr
    | fin n h3 =>
      cases hg : o.getLast? with
      | none =>
        have : docStp (o.map T) r (k : Nat) (XTok.b ⟨7, n, [], []⟩) = none := by
          show (match (o.map T).getLast? with | none => none | some x => _) = _
          rw [List.getLast?_map, hg]
          rfl
        rw [this] at h2
        cases h2
      | some y =>
        have hy : okL y := ho y (List.mem_of_getLast? hg)
        have e0 : docStp (o.map T) r (k : Nat) (XTok.b ⟨7, n, [], []⟩) = if (T y).toList == (T n).toList then some ((o.map T).dropLast, r) else none := by
          show (match (o.map T).getLast? with | none => none | some x => if x.toList == (T n).toList then some ((o.map T).dropLast, r) else none) = _
          rw [List.getLast?_map, hg]
          rfl
        rw [e0] at h2
        by_cases hs : ((T y).toList == (T n).toList) = true
        · rw [if_pos hs] at h2
          have hyn := T_same hy hx.n hs
          subst hyn
          have hlen : o.length = o.dropLast.length + 1 := by
            rw [List.length_dropLast]
            have : o ≠ [] := fun h0 => by rw [h0] at hg; cases hg
            have := List.length_pos_iff.2 this
            omega
          rw [show (o.map T).dropLast = o.dropLast.map T by rw [List.map_dropLast]] at h2
          obtain ⟨xs, rfl, q1, q2⟩ := doc_U ts o.dropLast r 7 (fun z hz => ho z ((List.dropLast_sublist o).subset hz)) h2 ha'
          refine ⟨⟨7, y, [], []⟩ :: xs, rfl, fun z hz => ?_, .fin y o r k xs (.fin y h3) hg q2⟩
          rcases List.mem_cons.1 hz with rfl | hz
          · exact hx
          · exact q1 z hz
        · rw [if_neg hs] at h2
          cases h2
    | text l h3 =>
      by_cases hr : ((o.map T).isEmpty || ((k : Nat) : Int) == 4) = true
      · have : docStp (o.map T) r (k : Nat) (XTok.b ⟨4, [], [], l⟩) = none := by
          show (if (o.map T).isEmpty || ((k : Nat) : Int) == 4 then none else _) = _
          rw [if_pos hr]
        rw [this] at h2
        cases h2
      · have e : docStp (o.map T) r (k : Nat) (XTok.b ⟨4, [], [], l⟩) = some (o.map T, r) := by
          show (if (o.map T).isEmpty || ((k : Nat) : Int) == 4 then none else some (o.map T, r)) = _
          rw [if_neg hr]
        rw [e] at h2
        obtain ⟨xs, rfl, q1, q2⟩ := doc_U ts o r 4 ho h2 ha'
        refine ⟨⟨4, [], [], l⟩ :: xs, rfl, fun y hy => ?_, .text l o r k xs (.text l h3) (fun h0 => ?_) (fun h0 => ?_) q2⟩
        · rcases List.mem_cons.1 hy with rfl | hy
          · exact hx
          · exact q1 y hy
        · subst h0; exact hr rfl
        · subst h0; exact hr (by simp)
    | comment l h3 h4 =>
      obtain ⟨xs, rfl, q1, q2⟩ := doc_U ts o r 5 ho h2 ha'
      refine ⟨⟨5, [], [], l⟩ :: xs, rfl, fun y hy => ?_, .comment l o r k xs (.comment l h3 h4) q2⟩
      rcases List.mem_cons.1 hy with rfl | hy
      · exact hx
      · exact q1 y hy
    | pi n l h3 h4 h5 =>
      obtain ⟨xs, rfl, q1, q2⟩ := doc_U ts o r 6 ho h2 ha'
      refine ⟨⟨6, n, [], l⟩ :: xs, rfl, fun y hy => ?_, .pi n l o r k xs (.pi n l h3 h4 h5) q2⟩
      rcases List.mem_cons.1 hy with rfl | hy
      · exact hx
      · exact q1 y hy
theorem docU_all : ∀ {xs : List XTok} {o : List (List Nat)} {r : Bool} {k : Nat}, DocU o r k xs → ∀ x ∈ xs, OkTok x
  | [], _, _, _, _ => fun _ h => by cases h
  | t :: ts, o, r, k, h => by
    have h1 : OkTok t ∧ ∃ o' r' k', DocU o' r' k' ts := by
      cases h with
      | elem m a _ _ _ _ h hr ha hn => exact ⟨h, _, _, _, hn⟩
      | fin m _ _ _ _ h ho' hn => exact ⟨h, _, _, _, hn⟩
      | text l _ _ _ _ h ho' hk hn => exact ⟨h, _, _, _, hn⟩
      | comment l _ _ _ _ h hn => exact ⟨h, _, _, _, hn⟩
      | pi m l _ _ _ _ h hn => exact ⟨h, _, _, _, hn⟩
    obtain ⟨ht, o', r', k', hn⟩ := h1
    intro x hx
    rcases List.mem_cons.1 hx with rfl | hx
    · exact ht
    · exact docU_all hn x hx
def emptyB (t : BTok) : List UInt8 := 60 :: (t.name.data.toList ++ (t.attrs.flatMap attrB ++ [47, 62]))
def writeEB : List BTok → List UInt8
  | [] => []
  | [t] => tokB t
  | t :: u :: ts => if t.kind = 2 ∧ u.kind = 7 then emptyB t ++ writeEB ts else tokB t ++ writeEB (u :: ts)
theorem xml_tok {t a c : BTok} (h1 : ¬ (t.kind = 2 ∧ c.kind = 7)) (h2 : ¬ (t.kind = 7 ∧ a.kind = 2)) : xmlO t a c = tokB t := by
  unfold xmlO
  rw [if_neg h1, if_neg h2]
  unfold bothB tokB instrO
  by_cases k2 : t.kind = 2
  · rw [if_neg (by omega), if_pos k2, if_pos k2]
  · by_cases k7 : t.kind = 7
    · rw [if_neg (by omega), if_neg k2, if_pos k7, if_neg k2, if_pos k7]
    · by_cases k4 : t.kind = 4
      · rw [if_neg (by omega), if_neg k2, if_neg k7, if_pos k4, if_neg k2, if_neg k7, if_pos k4]
      · by_cases k5 : t.kind = 5
        · rw [if_neg (by omega), if_neg k2, if_neg k7, if_neg k4, if_pos k5, if_neg k2, if_neg k7, if_neg k4, if_pos k5]
        · by_cases k6 : t.kind = 6
          · rw [if_pos k6, if_neg k2, if_neg k7, if_neg k4, if_neg k5, if_pos k6]
          · rw [if_neg k6, if_neg k2, if_neg k7, if_neg k4, if_neg k5, if_neg k2, if_neg k7, if_neg k4, if_neg k5, if_neg k6]
/-- Tokens one behind the other, each with those next to it. -/
def seqG (g : BTok → BTok → BTok → List UInt8) : BTok → List BTok → List UInt8
  | _, [] => []
  | a, t :: ts => g t a (tkAt ts 0) ++ seqG g t ts
theorem range_seq (g : BTok → BTok → BTok → List UInt8) : ∀ (ts : List BTok) (a : BTok), (List.range ts.length).flatMap (fun i => g (tkAt ts i) (if i = 0 then a else tkAt ts (i - 1)) (tkAt ts (i + 1))) = seqG g a ts
  | [], _ => rfl
  | t :: ts, a => by
    rw [List.length_cons, List.range_succ_eq_map, List.flatMap_cons, List.flatMap_map]
    show g t a (tkAt ts 0) ++ _ = g t a (tkAt ts 0) ++ seqG g t ts
    rw [← range_seq g ts t]
    congr 1
    refine flat_congr _ (fun i _ => ?_)
    show g (tkAt ts i) (if i + 1 = 0 then a else tkAt (t :: ts) (i + 1 - 1)) (tkAt ts (i + 1)) = _
    rw [if_neg (by omega)]
    cases i with
    | zero => rfl
    | succ i => rw [if_neg (by omega)]; rfl
theorem text_seq (m : Int) (ts : List BTok) : textO m ts = seqG (spotG m) zB ts := by
  rw [← range_seq]
  unfold textO
  exact flat_congr _ (fun i _ => spotO_G m ts i)
theorem seq_E : ∀ (N : Nat) (ts : List BTok), ts.length ≤ N → ∀ a : BTok, ¬ (a.kind = 2 ∧ (tkAt ts 0).kind = 7) → seqG xmlO a ts = writeEB ts
  | _, [], _, _, _ => rfl
  | 0, t :: ts, hN, _, _ => by simp at hN
  | N + 1, [t], _, a, h => by
    show xmlO t a zB ++ [] = tokB t
    rw [List.append_nil]
    exact xml_tok (fun e => absurd e.2 (by decide)) (fun e => h ⟨e.2, e.1⟩)
  | N + 1, t :: u :: ts, hN, a, h => by
    show xmlO t a u ++ seqG xmlO t (u :: ts) = _
    by_cases hp : t.kind = 2 ∧ u.kind = 7
    · have h1 : seqG xmlO t (u :: ts) = seqG xmlO u ts := by
        show xmlO u t (tkAt ts 0) ++ seqG xmlO u ts = _
        have : xmlO u t (tkAt ts 0) = [] := by
          unfold xmlO
          rw [if_neg (by omega), if_pos ⟨hp.2, hp.1⟩]
        rw [this, List.nil_append]
      rw [h1, seq_E N ts (by simp at hN; omega) u (fun e => by omega)]
      rw [writeEB, if_pos hp]
      congr 1
      unfold xmlO
      rw [if_pos hp]
      rfl
    · rw [seq_E N (u :: ts) (by simp at hN ⊢; omega) t hp, xml_tok hp (fun e => h ⟨e.2, e.1⟩)]
      rw [writeEB, if_neg hp]
theorem text_E (ts : List BTok) : textO 0 ts = writeEB ts := by
  rw [text_seq]
  exact seq_E ts.length ts (Nat.le_refl _) zB (fun e => absurd e.1 (by decide))
theorem kind_b (x : XTok) (n : Nat) : x.b.kind = (n : Int) ↔ x.kind = n := by
  show ((x.kind : Nat) : Int) = n ↔ _
  omega
theorem empty_tx {x : XTok} (h : OkAll x) : emptyB x.b = tx (emptyL x) := by
  show 60 :: ((T x.name).data.toList ++ ((x.attrs.map fun x => (T x.1, T x.2)).flatMap attrB ++ [47, 62])) = tx ([60] ++ (x.name ++ (x.attrs.flatMap attrL ++ [47, 62])))
  rw [tx_append, tx_append, tx_append, attrs_tx h.a, T_data]
  rfl
theorem okL_empty {x : XTok} (h : OkAll x) : okL (emptyL x) := okL_app (a := [60]) (okL_of (by decide)) (okL_app h.n (okL_app (okL_attrs h.a) (okL_of (by decide))))
theorem writeE_tx : ∀ (N : Nat) (xs : List XTok), xs.length ≤ N → (∀ x ∈ xs, OkAll x) → (∀ x ∈ xs, OkTok x) → writeEB (xs.map XTok.b) = tx (writeE xs) ∧ okL (writeE xs)
  | _, [], _, _, _ => ⟨rfl, okL_nil⟩
  | 0, x :: xs, hN, _, _ => by simp at hN
  | N + 1, [x], _, h1, h2 => ⟨tok_tx (h1 x (List.mem_cons_self ..)) (h2 x (List.mem_cons_self ..)), okL_tok (h1 x (List.mem_cons_self ..)) (h2 x (List.mem_cons_self ..))⟩
  | N + 1, x :: y :: xs, hN, h1, h2 => by
    have hx := h1 x (List.mem_cons_self ..)
    have hk := h2 x (List.mem_cons_self ..)
    show writeEB (x.b :: y.b :: xs.map XTok.b) = _ ∧ _
    rw [writeEB, writeE]
    by_cases hp : x.kind = 2 ∧ y.kind = 7
    · rw [if_pos hp, if_pos ⟨(kind_b x 2).2 hp.1, (kind_b y 7).2 hp.2⟩]
      obtain ⟨i1, i2⟩ := writeE_tx N xs (by simp at hN; omega) (fun z hz => h1 z (List.mem_cons_of_mem _ (List.mem_cons_of_mem _ hz))) (fun z hz => h2 z (List.mem_cons_of_mem _ (List.mem_cons_of_mem _ hz)))
      exact ⟨by rw [i1, empty_tx hx, tx_append], okL_app (okL_empty hx) i2⟩
    · rw [if_neg hp, if_neg (fun e => hp ⟨(kind_b x 2).1 e.1, (kind_b y 7).1 e.2⟩)]
      obtain ⟨i1, i2⟩ := writeE_tx N (y :: xs) (by simp at hN ⊢; omega) (fun z hz => h1 z (List.mem_cons_of_mem _ hz)) (fun z hz => h2 z (List.mem_cons_of_mem _ hz))
      exact ⟨by rw [← List.map_cons, i1, tok_tx hx hk, tx_append], okL_app (okL_tok hx hk) i2⟩
end Go.Proofs.YtefjfjieoiegnaaGreatDoor
/- A tree within an element, told plainly: what Scan makes of what Write wrote. -/
namespace Go.Proofs.YtefjfjieoiegnaaGreatDoor
open Go.RowKit
theorem docRun_nil : ∀ (ts : List BTok) (k : Int) (x : List ByteArray × Bool × Int), docRun [] true k ts = some x → x.1 = []
  | [], k, x, h => by cases h; rfl
  | t :: ts, k, x, h => by
    rw [docRun_cons] at h
    cases hk : okB t with
    | false => rw [hk] at h; cases h
    | true =>
      rw [hk] at h
      cases hs : docStp [] true k t with
      | none => rw [hs] at h; cases h
      | some y =>
        rw [hs] at h
        have h' : docRun y.1 y.2 t.kind ts = some x := h
        have hy : y = ([], true) := by
          unfold docStp at hs
          by_cases k2 : t.kind = 2
          · rw [if_pos k2, if_pos (by rfl)] at hs
            cases hs
          · by_cases k7 : t.kind = 7
            · rw [if_neg k2, if_pos k7] at hs
              cases hs
            · by_cases k4 : t.kind = 4
              · rw [if_neg k2, if_neg k7, if_pos k4, if_pos (by rfl)] at hs
                cases hs
              · rw [if_neg k2, if_neg k7, if_neg k4] at hs
                cases hs
                rfl
        rw [hy] at h'
        exact docRun_nil ts _ x h'
/-- What lies at the bottom does not matter, if it stays. -/
theorem docRun_base (c : ByteArray) : ∀ (ts : List BTok) (b : ByteArray) (o : List ByteArray) (k : Int) (b' : ByteArray) (o' : List ByteArray) (k' : Int), docRun (b :: o) true k ts = some (b' :: o', true, k') → docRun (c :: o) true k ts = some (c :: o', true, k')
  | [], b, o, k, b', o', k', h => by cases h; rfl
  | t :: ts, b, o, k, b', o', k', h => by
    rw [docRun_cons] at h ⊢
    cases hk : okB t with
    | false => rw [hk] at h; cases h
    | true =>
      rw [hk] at h
      by_cases k2 : t.kind = 2
      · have e : ∀ d : ByteArray, docStp (d :: o) true k t = some (d :: (o ++ [t.name]), true) := fun d => by
          unfold docStp
          rw [if_pos k2, if_neg (by simp)]
          rfl
        rw [e b] at h
        rw [e c]
        exact docRun_base c ts b (o ++ [t.name]) _ b' o' k' h
      · by_cases k7 : t.kind = 7
        · have e : ∀ d : ByteArray, docStp (d :: o) true k t = match (d :: o).getLast? with
              | none => none
              | some x => if x.toList == t.name.toList then some ((d :: o).dropLast, true) else none := fun d => by
            unfold docStp
            rw [if_neg k2, if_pos k7]
            rfl
          rw [e b] at h
          rw [e c]
          cases o with
          | nil =>
            exfalso
            have h' : (match (if b.toList == t.name.toList then some (([] : List ByteArray), true) else none) with
              | some x => docRun x.1 x.2 t.kind ts
              | none => none) = some (b' :: o', true, k') := by
              cases hb : (b.toList == t.name.toList) with
              | true =>
                have h2 := h
                simp only [List.getLast?_singleton, hb] at h2
                simpa using h2
              | false =>
                have h2 := h
                simp only [List.getLast?_singleton, hb] at h2
                simp at h2
            split at h'
            · rename_i x hx
              split at hx
              · cases hx
                have := docRun_nil ts _ _ h'
                cases this
              · cases hx
            · cases h'
          | cons y o =>
            have g : ∀ d : ByteArray, (d :: y :: o).getLast? = (y :: o).getLast? := fun d => by rw [List.getLast?_cons_cons]
            have dl : ∀ d : ByteArray, (d :: y :: o).dropLast = d :: (y :: o).dropLast := fun d => rfl
            rw [g, dl] at h ⊢
            cases hg : (y :: o).getLast? with
            | none => simp at hg
            | some z =>
              rw [hg] at h
              dsimp only at h ⊢
              by_cases hz : (z.toList == t.name.toList) = true
              · rw [if_pos hz] at h ⊢
                exact docRun_base c ts b (y :: o).dropLast _ b' o' k' h
              · rw [if_neg hz] at h
                cases h
        · by_cases k4 : t.kind = 4
          · have e : ∀ d : ByteArray, docStp (d :: o) true k t = if (k == 4) = true then none else some (d :: o, true) := fun d => by
              unfold docStp
              rw [if_neg k2, if_neg k7, if_pos k4]
              rfl
            rw [e b] at h
            rw [e c]
            by_cases hq : (k == 4) = true
            · rw [if_pos hq] at h; cases h
            · rw [if_neg hq] at h ⊢
              exact docRun_base c ts b o _ b' o' k' h
          · have e : ∀ d : ByteArray, docStp (d :: o) true k t = some (d :: o, true) := fun d => by
              unfold docStp
              rw [if_neg k2, if_neg k7, if_neg k4]
            rw [e b] at h
            rw [e c]
            exact docRun_base c ts b o _ b' o' k' h
def rE : XTok := ⟨2, [114], [], []⟩
def rF : XTok := ⟨7, [114], [], []⟩
theorem rE_ok : okB rE.b = true := by kernel_rfl
theorem rF_ok : okB rF.b = true := by kernel_rfl
theorem wrap_doc {ts : List BTok} (h : forB ts = true) : docB [] false 0 (rE.b :: (ts ++ [rF.b])) = true := by
  obtain ⟨k, hr⟩ := forB_run h
  have h1 := docRun_base (T [114]) ts aroS [] 2 aroS [] k hr
  have e : docB [] false 0 (rE.b :: (ts ++ [rF.b])) = docB [T [114]] true 2 (ts ++ [rF.b]) := by
    rw [docB_step, rE_ok, Bool.true_and]
    rfl
  rw [e, docB_app, h1]
  show docB [T [114]] true k [rF.b] = true
  rw [docB_step, rF_ok, Bool.true_and]
  unfold docStp
  rw [if_neg (by decide), if_pos (by rfl)]
  show (match (if ((T [114]).toList == (T [114]).toList) = true then some (([] : List ByteArray), true) else none) with
    | none => false
    | some x => docB x.1 x.2 rF.b.kind []) = true
  rw [if_pos (beq_self_eq_true _)]
  rfl
theorem first_no {t : BTok} {ts : List BTok} (h : forB (t :: ts) = true) : t.kind ≠ 7 := by
  intro h7
  obtain ⟨k, hr⟩ := forB_run h
  rw [docRun_cons] at hr
  cases hk : okB t with
  | false => rw [hk] at hr; cases hr
  | true =>
    rw [hk] at hr
    have e : docStp [aroS] true 2 t = if (aroS.toList == t.name.toList) = true then some (([] : List ByteArray), true) else none := by
      unfold docStp
      rw [if_neg (by omega), if_pos h7]
      rfl
    rw [e] at hr
    by_cases hz : (aroS.toList == t.name.toList) = true
    · rw [if_pos hz] at hr
      have := docRun_nil ts _ _ hr
      cases this
    · rw [if_neg hz] at hr
      cases hr
theorem wrap_text {ts : List BTok} (h : forB ts = true) (hne : ts ≠ []) : textO 0 (rE.b :: (ts ++ [rF.b])) = [60, 114, 62] ++ textO 0 ts ++ [60, 47, 114, 62] := by
  cases ts with
  | nil => exact absurd rfl hne
  | cons t ts =>
    have h7 := first_no h
    have hl : ∀ u, (rE.b :: t :: ts).getLast? = some u → u.kind ≠ 2 := fun u hu => last_no h (by rw [List.getLast?_cons_cons] at hu; exact hu)
    have e : rE.b :: (t :: ts ++ [rF.b]) = (rE.b :: t :: ts) ++ [rF.b] := rfl
    have e2 : writeEB (rE.b :: t :: ts) = tokB rE.b ++ writeEB (t :: ts) := by rw [writeEB, if_neg (fun e => h7 e.2)]
    rw [e, join_text 0 hl, text_E, text_E, text_E, e2]
    rfl
theorem docRun_all : ∀ (ts : List BTok) (o : List ByteArray) (r : Bool) (k : Int) (x : List ByteArray × Bool × Int), docRun o r k ts = some x → ∀ t ∈ ts, okB t = true
  | [], _, _, _, _, _ => fun _ h => by cases h
  | t :: ts, o, r, k, x, h => by
    rw [docRun_cons] at h
    cases hk : okB t with
    | false => rw [hk] at h; cases h
    | true =>
      rw [hk] at h
      cases hs : docStp o r k t with
      | none => rw [hs] at h; cases h
      | some y =>
        rw [hs] at h
        have h' : docRun y.1 y.2 t.kind ts = some x := h
        intro u hu
        rcases List.mem_cons.1 hu with rfl | hu
        · exact hk
        · exact docRun_all ts _ _ _ _ h' u hu
theorem forB_all {ts : List BTok} (h : forB ts = true) : ∀ t ∈ ts, okB t = true := by
  obtain ⟨k, hr⟩ := forB_run h
  exact docRun_all _ _ _ _ _ hr
theorem ok_few {t : BTok} (h : okB t = true) (hk : t.kind ≠ 2) : t.attrs.length ≤ 64 := by
  have : t.attrs = [] := by
    unfold okB at h
    rw [if_neg hk] at h
    repeat' split at h
    all_goals (first | cases h | (simp only [Bool.and_eq_true] at h; first | exact isEmpty_of h.2.1 | exact isEmpty_of h.1))
  rw [this]
  exact Nat.zero_le _
/-- What Scan makes of it. -/
theorem wrap_E {ts : List BTok} {x : ByteArray} (h : writeO 0 ts = (x, 0)) : ∃ (ys : List XTok) (cs : List Nat), rE.b :: (ts ++ [rF.b]) = ys.map XTok.b ∧ (⟨#[60, 114, 62]⟩ ++ x ++ ⟨#[60, 47, 114, 62]⟩ : ByteArray) = T cs ∧ okL cs ∧ (scanX cs = .ok ys ∨ ∃ pl, scanX cs = .error (6, pl)) := by
  obtain ⟨_, h2, _, h4, h5⟩ := write_ok h
  have hf := right_forB h2
  have hpp := right_past h2
  by_cases hne : ts = []
  · subst hne
    refine ⟨[rE, rF], [60, 114, 62, 60, 47, 114, 62], rfl, ?_, ?_, .inl (by kernel_rfl)⟩
    · rw [h5]
      show _ = _
      kernel_rfl
    · unfold okL
      decide +kernel
  · have hd := wrap_doc hf
    have ha : ∀ t ∈ rE.b :: (ts ++ [rF.b]), t.attrs.length ≤ 64 := by
      intro t ht
      rcases List.mem_cons.1 ht with rfl | ht
      · exact Nat.zero_le _
      · rcases List.mem_append.1 ht with ht | ht
        · by_cases hk : t.kind = 2
          · exact (past_few hpp).2 t ht hk
          · have hok := forB_all hf t ht
            exact ok_few hok hk
        · rw [List.mem_singleton.1 ht]; exact Nat.zero_le _
    obtain ⟨ys, hy, q1, q2⟩ := doc_U (rE.b :: (ts ++ [rF.b])) [] false 0 (fun _ h => by cases h) hd ha
    obtain ⟨e1, e2⟩ := writeE_tx ys.length ys (Nat.le_refl _) q1 (docU_all q2)
    have ht : tx (writeE ys) = [60, 114, 62] ++ textO 0 ts ++ [60, 47, 114, 62] := by
      rw [← e1, ← hy, ← text_E, wrap_text hf hne]
    refine ⟨ys, writeE ys, hy, ?_, e2, ?_⟩
    · rw [h5]
      apply ByteArray.ext
      rw [ByteArray.data_append, ByteArray.data_append]
      show _ = (tx (writeE ys)).toArray
      rw [ht]
      simp
    · rcases scanE q2 with h | ⟨h, _⟩
      · exact .inl h
      · exact .inr h
end Go.Proofs.YtefjfjieoiegnaaGreatDoor
/- Tokens as a text: xout's Write. -/
namespace Go.Proofs.YtefjfjieoiegnaaGreatDoor
open Go.RowKit
theorem right_of (ts : List BTok) : rightO ts = 0 ∨ rightO ts = 5 ∨ rightO ts = 6 := by
  unfold rightO
  split
  · split
    · exact .inr (.inr rfl)
    · exact .inl rfl
  · exact .inr (.inl rfl)
theorem byW_any (b : Nat) (m : Int) (w : World) :
    Calls Tryz.prog 26 #[.pointer (some ⟨b, 0, none⟩), .int .i64 m] w fun e w' => e = .returned (.func (.func (wayF m)) #[.pointer (some ⟨b, 0, none⟩)] #[]) ∧ w' = w := by_any b m w
set_option maxRecDepth 100000 in
set_option maxHeartbeats 8000000 in
theorem outWrite_any (m : Int) (ts : List BTok) (a : Option Addr) (cap : Nat) (w : World) (hv : ToksArg w a ts) (hn : ts.length ≤ 1048576) (hs : ∀ t ∈ ts, Small t) (B : Nat) (hB : B ≤ w.heap.size) (hE : XEnv B w) :
    Calls Tryz.prog 16 #[.int .i64 m, .slice a ts.length cap] w fun e w' => e = .returned (.tuple #[.string (writeO m ts).1, .int .i64 ((writeO m ts).2 : Nat)]) ∧ Below w.heap.size w w' := by
  have HV := hide hv
  have HS := hide hs
  have HE := hide hE
  have HR := hide (outRight_any ts a cap w hv hn hs B hB hE)
  have HW : Hid (writeO m ts = if m < 0 ∨ 2 < m then (⟨#[]⟩, 2) else if rightO ts ≠ 0 then (⟨#[]⟩, rightO ts) else if m = 1 ∧ htmlOk ts = false then (⟨#[]⟩, 5) else if 32768 < (textO m ts).length then (⟨#[]⟩, 6) else (⟨(textO m ts).toArray⟩, 0)) := hide rfl
  clear hv hs hE
  by_cases h0 : m < 0
  · have HX : Hid (writeO m ts = (⟨#[]⟩, 2)) := hide (by rw [unhide HW, if_pos (.inl h0)])
    clear HW HR
    go_enter Tryz.func16, Tryz.ntmps16
    go_wp2
    go_ret2
    rw [unhide HX]
    exact ⟨rfl, Below.refl _ _⟩
  by_cases h2 : 2 < m
  · have HX : Hid (writeO m ts = (⟨#[]⟩, 2)) := hide (by rw [unhide HW, if_pos (.inr h2)])
    clear HW HR
    go_enter Tryz.func16, Tryz.ntmps16
    go_wp2
    go_ret2
    rw [unhide HX]
    exact ⟨rfl, Below.refl _ _⟩
  have HNO : Hid (¬ (m < 0 ∨ 2 < m)) := hide (by omega)
  have HRO := hide (right_of ts)
  have HR0 : Hid (rightO ts = rightO ts) := hide rfl
  generalize hr : rightO ts = r at HR HW HRO
  rw [hr] at HR0
  clear HR0
  have HR0 := hide hr
  clear hr
  rcases unhide HRO with rfl | rfl | rfl
  rotate_left 1
  · have HX : Hid (writeO m ts = (⟨#[]⟩, 5)) := hide (by rw [unhide HW, if_neg (unhide HNO), if_pos (by decide)])
    clear HW HRO HR0
    go_enter Tryz.func16, Tryz.ntmps16
    go_wp2_with fail
    refine (unhide HR).mono ?_
    rintro e w1 ⟨rfl, hb1⟩
    go_wp2
    go_ret2
    rw [unhide HX]
    exact ⟨rfl, hb1⟩
  · have HX : Hid (writeO m ts = (⟨#[]⟩, 6)) := hide (by rw [unhide HW, if_neg (unhide HNO), if_pos (by decide)])
    clear HW HRO HR0
    go_enter Tryz.func16, Tryz.ntmps16
    go_wp2_with fail
    refine (unhide HR).mono ?_
    rintro e w1 ⟨rfl, hb1⟩
    go_wp2
    go_ret2
    rw [unhide HX]
    exact ⟨rfl, hb1⟩
  by_cases h1 : m = 1
  · subst h1
    go_enter Tryz.func16, Tryz.ntmps16
    go_wp2_with fail
    refine (unhide HR).mono ?_
    rintro e w1 ⟨rfl, hb1⟩
    have HH := hide (isHtml_any ts a cap w1 ((unhide HV).below hb1) hn (unhide HS) ((unhide HE).low (hb1.mono hB)).env)
    cases hh : htmlOk ts with
    | false =>
      have HX : Hid (writeO 1 ts = (⟨#[]⟩, 5)) := hide (by rw [unhide HW, if_neg (unhide HNO), if_neg (by decide), if_pos ⟨by first | rfl | trivial, hh⟩])
      rw [hh] at HH
      clear HW hh
      go_wp2_with fail
      refine (unhide HH).mono ?_
      rintro e w2 ⟨rfl, hb2⟩
      go_wp2
      go_ret2
      rw [unhide HX]
      exact ⟨rfl, Below.then hb1 hb2⟩
    | true =>
      have HX : Hid (writeO 1 ts = if 32768 < (textO 1 ts).length then (⟨#[]⟩, 6) else (⟨(textO 1 ts).toArray⟩, 0)) := hide (by rw [unhide HW, if_neg (unhide HNO), if_neg (by decide), if_neg (by rw [hh]; simp)])
      rw [hh] at HH
      clear HW hh
      go_wp2_with fail
      refine (unhide HH).mono ?_
      rintro e w2 ⟨rfl, hb2⟩
      have hb02 := Below.then hb1 hb2
      have HI0 : Hid (IsW w2.heap.size w2.heap.size (Lib.byteCells []) (w2.alloc (.cells #[.pointer none, .slice none 0 0] 52))) := hide (Lib.IsBuilderF.of (.inl ⟨Nat.le_refl _, .slice none 0 0, alloc_newO _ _, World.ownsRow_nil _ _ _ _, (by intro h; cases h)⟩))
      have HBW : Hid (Below w2.heap.size w2 (w2.alloc (.cells #[.pointer none, .slice none 0 0] 52))) := hide ((Below.refl _ _).alloc (Nat.le_refl _) _)
      have HALL : Hid (∀ W, Below w2.heap.size w2 W → IsW w2.heap.size w2.heap.size (Lib.byteCells []) W → Calls Tryz.prog 25 #[.pointer (some ⟨w2.heap.size, 0, none⟩), .slice a ts.length cap, .func (.func (wayF 1)) #[.pointer (some ⟨w2.heap.size, 0, none⟩)] #[]] W fun e W' => e = .returned (.tuple #[]) ∧ WOut w2.heap.size w2.heap.size (textO 1 ts) W W') := hide fun W hb hI => all_any 1 w2 w2.heap.size ts a cap W ((unhide HV).below hb02) hb hI (unhide HS) (unhide HR0) (((unhide HE).low (hb02.mono hB)).up (Nat.le_trans hB hb02.size) |>.low hb)
      clear HR HRO HNO HH
      go_wp2_with fail
      refine (byW_any _ 1 _).mono ?_
      rintro e w5 ⟨rfl, rfl⟩
      go_wp2_with fail
      refine (unhide HALL _ (unhide HBW) (unhide HI0)).mono ?_
      rintro e w6 ⟨rfl, hO⟩
      have hb6 := Below.then hb02 ((unhide HBW).trans hO.bel)
      have HLn := hide (wrLen_any w2.heap.size w2.heap.size _ w6 hO.bld)
      have HSt := hide (wrStr_any w2.heap.size w2.heap.size _ w6 hO.bld (Nat.le_trans (unhide HBW).size hO.bel.size))
      have HB6 := hide ((unhide HBW).trans hO.bel)
      rw [Lib.byteCells_length] at HLn
      clear hO HALL
      go_wp2_with fail
      refine (unhide HLn).mono ?_
      rintro e w7 ⟨rfl, rfl⟩
      by_cases hz : 32768 < (textO 1 ts).length
      · have hz' : (32768 : Int) < ((textO 1 ts).length : Int) := by omega
        have HX2 : Hid (writeO 1 ts = (⟨#[]⟩, 6)) := hide (by rw [unhide HX, if_pos hz])
        clear hz
        go_wp2
        go_ret2
        rw [unhide HX2]
        exact ⟨rfl, hb6⟩
      · have hz' : ¬ (32768 : Int) < ((textO 1 ts).length : Int) := by omega
        have HX2 : Hid (writeO 1 ts = (⟨(textO 1 ts).toArray⟩, 0)) := hide (by rw [unhide HX, if_neg hz])
        clear hz
        go_wp2_with fail
        refine (unhide HSt).mono ?_
        rintro e w8 ⟨rfl, hb8⟩
        go_wp2
        go_ret2
        rw [unhide HX2]
        exact ⟨rfl, Below.then hb02 ((unhide HB6).trans hb8)⟩
  · have HX : Hid (writeO m ts = if 32768 < (textO m ts).length then (⟨#[]⟩, 6) else (⟨(textO m ts).toArray⟩, 0)) := hide (by rw [unhide HW, if_neg (unhide HNO), if_neg (by decide), if_neg (fun e => h1 e.1)])
    clear HW
    go_enter Tryz.func16, Tryz.ntmps16
    go_wp2_with fail
    refine (unhide HR).mono ?_
    rintro e w1 ⟨rfl, hb1⟩
    have HI0 : Hid (IsW w1.heap.size w1.heap.size (Lib.byteCells []) (w1.alloc (.cells #[.pointer none, .slice none 0 0] 52))) := hide (Lib.IsBuilderF.of (.inl ⟨Nat.le_refl _, .slice none 0 0, alloc_newO _ _, World.ownsRow_nil _ _ _ _, (by intro h; cases h)⟩))
    have HBW : Hid (Below w1.heap.size w1 (w1.alloc (.cells #[.pointer none, .slice none 0 0] 52))) := hide ((Below.refl _ _).alloc (Nat.le_refl _) _)
    have HALL : Hid (∀ W, Below w1.heap.size w1 W → IsW w1.heap.size w1.heap.size (Lib.byteCells []) W → Calls Tryz.prog 25 #[.pointer (some ⟨w1.heap.size, 0, none⟩), .slice a ts.length cap, .func (.func (wayF m)) #[.pointer (some ⟨w1.heap.size, 0, none⟩)] #[]] W fun e W' => e = .returned (.tuple #[]) ∧ WOut w1.heap.size w1.heap.size (textO m ts) W W') := hide fun W hb hI => all_any m w1 w1.heap.size ts a cap W ((unhide HV).below hb1) hb hI (unhide HS) (unhide HR0) (((unhide HE).low (hb1.mono hB)).up (Nat.le_trans hB hb1.size) |>.low hb)
    clear HR HRO HNO 
    go_wp2_with fail
    refine (byW_any _ m _).mono ?_
    rintro e w5 ⟨rfl, rfl⟩
    go_wp2_with fail
    refine (unhide HALL _ (unhide HBW) (unhide HI0)).mono ?_
    rintro e w6 ⟨rfl, hO⟩
    have hb6 := Below.then hb1 ((unhide HBW).trans hO.bel)
    have HLn := hide (wrLen_any w1.heap.size w1.heap.size _ w6 hO.bld)
    have HSt := hide (wrStr_any w1.heap.size w1.heap.size _ w6 hO.bld (Nat.le_trans (unhide HBW).size hO.bel.size))
    have HB6 := hide ((unhide HBW).trans hO.bel)
    rw [Lib.byteCells_length] at HLn
    clear hO HALL
    go_wp2_with fail
    refine (unhide HLn).mono ?_
    rintro e w7 ⟨rfl, rfl⟩
    by_cases hz : 32768 < (textO m ts).length
    · have hz' : (32768 : Int) < ((textO m ts).length : Int) := by omega
      have HX2 : Hid (writeO m ts = (⟨#[]⟩, 6)) := hide (by rw [unhide HX, if_pos hz])
      clear hz
      go_wp2
      go_ret2
      rw [unhide HX2]
      exact ⟨rfl, hb6⟩
    · have hz' : ¬ (32768 : Int) < ((textO m ts).length : Int) := by omega
      have HX2 : Hid (writeO m ts = (⟨(textO m ts).toArray⟩, 0)) := hide (by rw [unhide HX, if_neg hz])
      clear hz
      go_wp2_with fail
      refine (unhide HSt).mono ?_
      rintro e w8 ⟨rfl, hb8⟩
      go_wp2
      go_ret2
      rw [unhide HX2]
      exact ⟨rfl, Below.then hb1 ((unhide HB6).trans hb8)⟩
end Go.Proofs.YtefjfjieoiegnaaGreatDoor
/- Which characters are blanks: the reference's IsBlank. -/
namespace Go.Proofs.YtefjfjieoiegnaaGreatDoor
open Go.RowKit
theorem refIsBlank_any (r : Int) (w : World) :
    Calls Tryz.prog 50 #[.int .i32 r] w fun e w' => e = .returned (.bool (blankB r)) ∧ w' = w := by
  go_enter Tryz.func50, Tryz.ntmps50
  go_wp2
  all_goals
    go_ret
    exact ⟨by simp [blankB, *], rfl⟩
end Go.Proofs.YtefjfjieoiegnaaGreatDoor
