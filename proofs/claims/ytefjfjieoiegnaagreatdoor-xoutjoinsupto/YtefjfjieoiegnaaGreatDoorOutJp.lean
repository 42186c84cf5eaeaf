/- Trees one behind the other, told plainly: what xout's Write answers of both together. -/
import Derived.Test.YtefjfjieoiegnaaGreatDoorGbt
namespace Go.Proofs.YtefjfjieoiegnaaGreatDoor
open Go.RowKit
/-- Where tokens of a document lead to. -/
def docRun : List ByteArray → Bool → Int → List BTok → Option (List ByteArray × Bool × Int)
  | o, r, k, [] => some (o, r, k)
  | o, r, k, t :: ts => match okB t, docStp o r k t with
    | true, some x => docRun x.1 x.2 t.kind ts
    | _, _ => none
theorem docRun_cons (o : List ByteArray) (r : Bool) (k : Int) (t : BTok) (ts : List BTok) : docRun o r k (t :: ts) = match okB t, docStp o r k t with
    | true, some x => docRun x.1 x.2 t.kind ts
    | _, _ => none := rfl
theorem docB_step (o : List ByteArray) (r : Bool) (k : Int) (t : BTok) (ts : List BTok) : docB o r k (t :: ts) = (okB t && (match docStp o r k t with
    | none => false
    | some x => docB x.1 x.2 t.kind ts)) := rfl
theorem docB_app : ∀ (ts us : List BTok) (o : List ByteArray) (r : Bool) (k : Int), docB o r k (ts ++ us) = match docRun o r k ts with
    | none => false
    | some x => docB x.1 x.2.1 x.2.2 us
  | [], us, o, r, k => rfl
  | t :: ts, us, o, r, k => by
    rw [List.cons_append, docB_step, docRun_cons]
    cases okB t with
    | false => rfl
    | true =>
      cases docStp o r k t with
      | none => rfl
      | some x =>
        rw [Bool.true_and]
        exact docB_app ts us x.1 x.2 t.kind
theorem docRun_app : ∀ (ts us : List BTok) (o : List ByteArray) (r : Bool) (k : Int), docRun o r k (ts ++ us) = (docRun o r k ts).bind fun x => docRun x.1 x.2.1 x.2.2 us
  | [], us, o, r, k => rfl
  | t :: ts, us, o, r, k => by
    rw [List.cons_append, docRun_cons, docRun_cons]
    cases okB t with
    | false => rfl
    | true =>
      cases docStp o r k t with
      | none => rfl
      | some x => exact docRun_app ts us x.1 x.2 t.kind
theorem stp_true {o : List ByteArray} {k : Int} {t : BTok} {x : List ByteArray × Bool} (h : docStp o true k t = some x) : x.2 = true := by
  unfold docStp at h
  repeat' split at h
  all_goals (first | cases h; rfl | cases h)
theorem docRun_r : ∀ (ts : List BTok) (o : List ByteArray) (k : Int) (x : List ByteArray × Bool × Int), docRun o true k ts = some x → x.2.1 = true
  | [], o, k, x, h => by cases h; rfl
  | t :: ts, o, k, x, h => by
    rw [docRun_cons] at h
    cases hk : okB t with
    | false => rw [hk] at h; cases h
    | true =>
      rw [hk] at h
      cases hs : docStp o true k t with
      | none => rw [hs] at h; cases h
      | some y =>
        rw [hs] at h
        have h' : docRun y.1 y.2 t.kind ts = some x := h
        rw [stp_true hs] at h'
        exact docRun_r ts y.1 t.kind x h'
/-- How much deeper tokens lead. -/
def dl : List BTok → Int
  | [] => 0
  | t :: ts => (if t.kind = 2 then 1 else if t.kind = 7 then -1 else 0) + dl ts
theorem stp_len {o : List ByteArray} {r : Bool} {k : Int} {t : BTok} {x : List ByteArray × Bool} (h : docStp o r k t = some x) : (x.1.length : Int) = o.length + (if t.kind = 2 then 1 else if t.kind = 7 then -1 else 0) := by
  unfold docStp at h
  split at h
  · rename_i h2
    rw [if_pos h2]
    split at h
    · cases h
    · cases h; simp
  · rename_i h2
    rw [if_neg h2]
    split at h
    · rename_i h7
      rw [if_pos h7]
      split at h
      · cases h
      · rename_i y hy
        split at h
        · cases h
          cases o with
          | nil => cases hy
          | cons a o => simp [List.length_dropLast]; omega
        · cases h
    · rename_i h7
      rw [if_neg h7]
      split at h
      · split at h
        · cases h
        · cases h; simp
      · cases h; simp
theorem docRun_d : ∀ (ts : List BTok) (o : List ByteArray) (r : Bool) (k : Int) (x : List ByteArray × Bool × Int), docRun o r k ts = some x → (x.1.length : Int) = o.length + dl ts
  | [], o, r, k, x, h => by cases h; simp [dl]
  | t :: ts, o, r, k, x, h => by
    rw [docRun_cons] at h
    cases hk : okB t with
    | false => rw [hk] at h; cases h
    | true =>
      rw [hk] at h
      cases hs : docStp o r k t with
      | none => rw [hs] at h; cases h
      | some y =>
        rw [hs] at h
        have h' : docRun y.1 y.2 t.kind ts = some x := h
        have h1 := docRun_d ts _ _ _ _ h'
        have h2 := stp_len hs
        rw [h1, h2]
        show _ = (o.length : Int) + ((if t.kind = 2 then 1 else if t.kind = 7 then -1 else 0) + dl ts)
        omega
theorem pastGo_app : ∀ (ts us : List BTok) (d : Int) (p : Bool), pastGo d p (ts ++ us) = pastGo (d + dl ts) (pastGo d p ts) us
  | [], us, d, p => by
    show _ = pastGo (d + 0) p us
    rw [Int.add_zero]
    rfl
  | t :: ts, us, d, p => by
    rw [List.cons_append, pastGo_cons, pastGo_cons]
    show _ = pastGo (d + ((if t.kind = 2 then 1 else if t.kind = 7 then -1 else 0) + dl ts)) _ us
    split
    · rw [pastGo_app ts us]
      congr 1
      omega
    · split
      · rw [pastGo_app ts us]
        congr 1
        omega
      · rw [pastGo_app ts us]
        congr 1
        omega
theorem aroE_ok : okB aroE = true := by kernel_rfl
theorem aroF_ok : okB aroF = true := by kernel_rfl
theorem forB_doc (ts : List BTok) : forB ts = docB [aroS] true 2 (ts ++ [aroF]) := by
  have h : docB [] false 0 (aroE :: (ts ++ [aroF])) = docB [aroS] true 2 (ts ++ [aroF]) := by
    rw [docB_step, aroE_ok, Bool.true_and]
    rfl
  unfold forB writeR
  rw [h]
  cases docB [aroS] true 2 (ts ++ [aroF]) with
  | false => rfl
  | true =>
    rw [if_neg (by decide)]
    split
    · rfl
    · split
      · rfl
      · rfl
theorem bytes_same {a b : ByteArray} (h : (a.toList == b.toList) = true) : a = b := by
  have h1 := eq_of_beq h
  rw [ByteArray.toList_eq, ByteArray.toList_eq] at h1
  cases a
  cases b
  congr 1
  exact Array.toList_inj.1 h1
theorem forB_run {ts : List BTok} (h : forB ts = true) : ∃ k, docRun [aroS] true 2 ts = some ([aroS], true, k) := by
  rw [forB_doc, docB_app] at h
  cases hr : docRun [aroS] true 2 ts with
  | none => rw [hr] at h; cases h
  | some x =>
    obtain ⟨o, r, k⟩ := x
    obtain rfl : r = true := docRun_r ts _ _ _ hr
    rw [hr] at h
    have h' : docB o true k [aroF] = true := h
    rw [docB_step, aroF_ok, Bool.true_and] at h'
    refine ⟨k, ?_⟩
    unfold docStp at h'
    rw [if_neg (by decide), if_pos (by rfl)] at h'
    cases hg : o.getLast? with
    | none => rw [hg] at h'; cases h'
    | some y =>
      rw [hg] at h'
      dsimp only at h'
      by_cases hy : (y.toList == aroF.name.toList) = true
      · rw [if_pos hy] at h'
        have h2 : (true && o.dropLast.isEmpty) = true := h'
        rw [Bool.true_and, List.isEmpty_iff] at h2
        have h3 : o = [aroS] := by
          obtain ⟨l, rfl⟩ := List.getLast?_eq_some_iff.1 hg
          rw [List.dropLast_concat] at h2
          rw [h2, bytes_same hy]
          rfl
        rw [h3]
      · rw [if_neg hy] at h'
        cases h'
theorem run_forB {ts : List BTok} {k : Int} (h : docRun [aroS] true 2 ts = some ([aroS], true, k)) : forB ts = true := by
  rw [forB_doc, docB_app, h]
  show docB [aroS] true k [aroF] = true
  rw [docB_step, aroF_ok, Bool.true_and]
  unfold docStp
  rw [if_neg (by decide), if_pos (by rfl)]
  show (match (if (aroS.toList == aroS.toList) = true then some (([] : List ByteArray), true) else none) with
    | none => false
    | some x => docB x.1 x.2 aroF.kind []) = true
  rw [if_pos (beq_self_eq_true _)]
  rfl
theorem docRun_k : ∀ (ts : List BTok) (o : List ByteArray) (r : Bool) (k : Int) (x : List ByteArray × Bool × Int), docRun o r k ts = some x → x.2.2 = (match ts.getLast? with
    | none => k
    | some t => t.kind)
  | [], o, r, k, x, h => by cases h; rfl
  | t :: ts, o, r, k, x, h => by
    rw [docRun_cons] at h
    cases hk : okB t with
    | false => rw [hk] at h; cases h
    | true =>
      rw [hk] at h
      cases hs : docStp o r k t with
      | none => rw [hs] at h; cases h
      | some y =>
        rw [hs] at h
        have h' : docRun y.1 y.2 t.kind ts = some x := h
        have h1 := docRun_k ts _ _ _ _ h'
        rw [h1]
        cases ts with
        | nil => rfl
        | cons u ts => rw [List.getLast?_cons_cons]; cases hg : (u :: ts).getLast? with
          | none => simp at hg
          | some z => rfl
/-- The last of a tree's tokens begins no element. -/
theorem last_no {ts : List BTok} (h : forB ts = true) {t : BTok} (ht : ts.getLast? = some t) : t.kind ≠ 2 := by
  intro hk
  obtain ⟨k, hr⟩ := forB_run h
  obtain ⟨l, rfl⟩ := List.getLast?_eq_some_iff.1 ht
  rw [docRun_app] at hr
  cases hl : docRun [aroS] true 2 l with
  | none => rw [hl] at hr; cases hr
  | some x =>
    obtain ⟨o, r, k2⟩ := x
    obtain rfl : r = true := docRun_r l _ _ _ hl
    rw [hl] at hr
    have hr' : docRun o true k2 [t] = some ([aroS], true, k) := hr
    rw [docRun_cons] at hr'
    cases ho : okB t with
    | false => rw [ho] at hr'; cases hr'
    | true =>
      rw [ho] at hr'
      unfold docStp at hr'
      rw [if_pos hk] at hr'
      cases o with
      | nil => cases hr'
      | cons a o =>
        have h3 : some (a :: o ++ [t.name], true, t.kind) = some ([aroS], true, k) := hr'
        injection h3 with h4
        have h5 := congrArg (fun x => x.1.length) h4
        simp at h5
/-- Two texts that meet. -/
def meets (xs ys : List BTok) : Prop := ∃ t u, xs.getLast? = some t ∧ ys.head? = some u ∧ t.kind = 4 ∧ u.kind = 4
theorem join_run {xs ys : List BTok} {k : Int} (h : docRun [aroS] true 2 xs = some ([aroS], true, k)) : docRun [aroS] true 2 (xs ++ ys) = docRun [aroS] true k ys := by
  rw [docRun_app, h]
  rfl
theorem join_meet {xs ys : List BTok} (h : forB xs = true) (hm : meets xs ys) : forB (xs ++ ys) = false := by
  obtain ⟨t, u, h1, h2, h3, h4⟩ := hm
  obtain ⟨k, hr⟩ := forB_run h
  have hk := docRun_k _ _ _ _ _ hr
  rw [h1] at hk
  have hk' : k = 4 := hk.trans h3
  subst hk'
  cases hf : forB (xs ++ ys) with
  | false => rfl
  | true =>
    obtain ⟨k2, h5⟩ := forB_run hf
    rw [join_run hr] at h5
    cases ys with
    | nil => cases h2
    | cons v ys =>
      cases h2
      rw [docRun_cons] at h5
      have hs : docStp [aroS] true 4 u = none := by
        unfold docStp
        rw [if_neg (by rw [h4]; decide), if_neg (by rw [h4]; decide), if_pos h4]
        rfl
      rw [hs] at h5
      cases hko : okB u with
      | false => rw [hko] at h5; cases h5
      | true => rw [hko] at h5; cases h5
theorem join_for {xs ys : List BTok} (ha : forB xs = true) (hb : forB ys = true) (hm : ¬ meets xs ys) : forB (xs ++ ys) = true := by
  obtain ⟨k, hr⟩ := forB_run ha
  obtain ⟨k2, hr2⟩ := forB_run hb
  have hk := docRun_k _ _ _ _ _ hr
  cases ys with
  | nil => rw [List.append_nil]; exact ha
  | cons u ys =>
    refine run_forB (k := k2) ?_
    rw [join_run hr, ← hr2, docRun_cons, docRun_cons]
    have hs : docStp [aroS] true k u = docStp [aroS] true 2 u := by
      unfold docStp
      by_cases h4 : u.kind = 4
      · have h5 : k ≠ 4 := by
          intro e
          cases hg : xs.getLast? with
          | none => rw [hg] at hk; have : k = 2 := hk; omega
          | some t => rw [hg] at hk; exact hm ⟨t, u, hg, rfl, hk.symm.trans e, h4⟩
        have h6 : (k == 4) = false := beq_eq_false_iff_ne.2 h5
        rw [h6]
        rfl
      · rw [if_neg h4, if_neg h4]
    rw [hs]
theorem forB_dl {ts : List BTok} (h : forB ts = true) : dl ts = 0 := by
  obtain ⟨k, hr⟩ := forB_run h
  have h1 := docRun_d _ _ _ _ _ hr
  simp at h1
  omega
theorem right_forB {ts : List BTok} (h : rightO ts = 0) : forB ts = true := by
  unfold rightO at h
  split at h
  · assumption
  · cases h
theorem join_past {xs ys : List BTok} (ha : rightO xs = 0) (hb : rightO ys = 0) : pastD (xs ++ ys) = decide (4096 < xs.length + ys.length) := by
  have h1 := right_past ha
  have h2 := right_past hb
  have h3 := (past_few h1).1
  have h4 := (past_few h2).1
  have hd := forB_dl (right_forB ha)
  unfold pastD at h1 h2 ⊢
  rw [decide_eq_false (by omega)] at h1 h2
  rw [pastGo_app, hd, List.length_append, Int.add_zero]
  by_cases h : 4096 < xs.length + ys.length
  · rw [decide_eq_true h, pastGo_true, pastGo_true]
  · rw [decide_eq_false h, h1, h2]
theorem join_right {xs ys : List BTok} (ha : rightO xs = 0) (hb : rightO ys = 0) (hm : ¬ meets xs ys) : rightO (xs ++ ys) = if 4096 < xs.length + ys.length then 6 else 0 := by
  unfold rightO
  rw [join_for (right_forB ha) (right_forB hb) hm, join_past ha hb, if_pos rfl]
  by_cases h : 4096 < xs.length + ys.length
  · rw [decide_eq_true h, if_pos rfl, if_pos h]
  · rw [decide_eq_false h, if_neg (by decide), if_neg h]
theorem join_right5 {xs ys : List BTok} (ha : rightO xs = 0) (hm : meets xs ys) : rightO (xs ++ ys) = 5 := by
  unfold rightO
  rw [join_meet (right_forB ha) hm, if_neg (by decide)]
/-- What is written of a token among its neighbours. -/
def spotG (m : Int) (t a c : BTok) : List UInt8 := if m = 1 then htmlO t a else if m = 2 then plainO t else xmlO t a c
theorem spotO_G (m : Int) (ts : List BTok) (i : Nat) : spotO m ts i = spotG m (tkAt ts i) (ahT ts i) (tkAt ts (i + 1)) := by
  unfold spotO spotG
  split
  · rfl
  · split
    · rfl
    · rfl
theorem spotG_c (m : Int) {t : BTok} (a c c' : BTok) (h : t.kind ≠ 2) : spotG m t a c = spotG m t a c' := by
  unfold spotG xmlO
  rw [if_neg (show ¬ (t.kind = 2 ∧ c.kind = 7) from fun e => h e.1), if_neg (show ¬ (t.kind = 2 ∧ c'.kind = 7) from fun e => h e.1)]
theorem rawS_no {a : BTok} (h : a.kind ≠ 2) : rawS a = false := by
  unfold rawS
  rw [decide_eq_false h]
  rfl
theorem spotG_a (m : Int) (t : BTok) {a a' : BTok} (c : BTok) (h : a.kind ≠ 2) (h' : a'.kind ≠ 2) : spotG m t a c = spotG m t a' c := by
  unfold spotG xmlO htmlO
  rw [rawS_no h, rawS_no h', if_neg (show ¬ (t.kind = 7 ∧ a.kind = 2) from fun e => h e.2), if_neg (show ¬ (t.kind = 7 ∧ a'.kind = 2) from fun e => h' e.2)]
theorem tk_left {xs ys : List BTok} {i : Nat} (h : i < xs.length) : tkAt (xs ++ ys) i = tkAt xs i := by
  unfold tkAt
  rw [List.getElem?_append_left h]
theorem tk_right (xs ys : List BTok) (i : Nat) : tkAt (xs ++ ys) (xs.length + i) = tkAt ys i := by
  unfold tkAt
  rw [List.getElem?_append_right (by omega)]
  congr 2
  omega
theorem ah_left {xs ys : List BTok} {i : Nat} (h : i < xs.length) : ahT (xs ++ ys) i = ahT xs i := by
  unfold ahT
  split
  · rfl
  · exact tk_left (by omega)
theorem tk_last {xs : List BTok} {i : Nat} (h : i + 1 = xs.length) : xs.getLast? = some (tkAt xs i) := by
  rw [List.getLast?_eq_getElem?]
  have hi : i < xs.length := by omega
  unfold tkAt
  rw [show xs.length - 1 = i by omega, List.getElem?_eq_getElem hi]
  rfl
/-- What lies ahead of the first of the second: nothing, or no beginning of an element. -/
theorem ah_right {xs ys : List BTok} (hl : ∀ t, xs.getLast? = some t → t.kind ≠ 2) (i : Nat) : ahT (xs ++ ys) (xs.length + i) = ahT ys i ∨ ((ahT (xs ++ ys) (xs.length + i)).kind ≠ 2 ∧ (ahT ys i).kind ≠ 2) := by
  cases i with
  | succ i =>
    left
    unfold ahT
    rw [if_neg (by omega), if_neg (by omega)]
    exact tk_right xs ys i
  | zero =>
    by_cases h0 : xs.length = 0
    · left
      unfold ahT
      rw [if_pos (by omega), if_pos rfl]
    · right
      unfold ahT
      rw [if_neg (by omega), if_pos rfl]
      refine ⟨?_, by decide⟩
      rw [tk_left (by omega)]
      exact hl _ (tk_last (by omega))
theorem spot_left (m : Int) {xs ys : List BTok} (hl : ∀ t, xs.getLast? = some t → t.kind ≠ 2) {i : Nat} (h : i < xs.length) : spotO m (xs ++ ys) i = spotO m xs i := by
  rw [spotO_G, spotO_G, tk_left h, ah_left h]
  by_cases hi : i + 1 < xs.length
  · rw [tk_left hi]
  · exact spotG_c m _ _ _ (hl _ (tk_last (by omega)))
theorem spot_right (m : Int) {xs ys : List BTok} (hl : ∀ t, xs.getLast? = some t → t.kind ≠ 2) (i : Nat) : spotO m (xs ++ ys) (xs.length + i) = spotO m ys i := by
  rw [spotO_G, spotO_G, tk_right, show xs.length + i + 1 = xs.length + (i + 1) by omega, tk_right]
  rcases ah_right (ys := ys) hl i with h | ⟨h, h'⟩
  · rw [h]
  · exact spotG_a m _ _ h h'
theorem flat_congr {f g : Nat → List UInt8} : ∀ (l : List Nat), (∀ x ∈ l, f x = g x) → l.flatMap f = l.flatMap g
  | [], _ => rfl
  | x :: l, h => by
    rw [List.flatMap_cons, List.flatMap_cons, h x (List.mem_cons_self ..), flat_congr l (fun y hy => h y (List.mem_cons_of_mem _ hy))]
theorem join_text (m : Int) {xs ys : List BTok} (hl : ∀ t, xs.getLast? = some t → t.kind ≠ 2) : textO m (xs ++ ys) = textO m xs ++ textO m ys := by
  unfold textO
  rw [List.length_append, List.range_add, List.flatMap_append, List.flatMap_map]
  rw [flat_congr (List.range xs.length) (fun x hx => spot_left m hl (List.mem_range.1 hx)), flat_congr (List.range ys.length) (fun x _ => spot_right m hl x)]
theorem lost_c {t a c : BTok} (h : t.kind ≠ 2) (hz : lostB t a zB = false) : lostB t a c = false := by
  unfold lostB at hz ⊢
  rw [if_neg h] at hz ⊢
  by_cases h4 : t.kind = 4
  · rw [if_pos h4] at hz ⊢
    cases hr : rawS a with
    | false => rfl
    | true => rw [hr] at hz; cases hz
  · rw [if_neg h4] at hz ⊢
    exact hz
theorem lost_a {t a a' c : BTok} (h : a.kind ≠ 2) (h' : a'.kind ≠ 2) : lostB t a c = lostB t a' c := by
  unfold lostB
  rw [rawS_no h, rawS_no h']
theorem join_html {xs ys : List BTok} (hl : ∀ t, xs.getLast? = some t → t.kind ≠ 2) (ha : htmlOk xs = true) (hb : htmlOk ys = true) : htmlOk (xs ++ ys) = true := by
  unfold htmlOk at *
  rw [List.all_eq_true] at *
  intro i hi
  have hi' := List.mem_range.1 hi
  rw [List.length_append] at hi'
  by_cases h : i < xs.length
  · have h1 := ha i (List.mem_range.2 h)
    rw [Bool.not_eq_true'] at h1 ⊢
    unfold lostAt at h1 ⊢
    rw [tk_left h, ah_left h]
    by_cases h2 : i + 1 < xs.length
    · rw [tk_left h2]; exact h1
    · have hz : tkAt xs (i + 1) = zB := tk_no (by omega)
      rw [hz] at h1
      exact lost_c (hl _ (tk_last (by omega))) h1
  · obtain ⟨j, rfl⟩ : ∃ j, i = xs.length + j := ⟨i - xs.length, by omega⟩
    have h1 := hb j (List.mem_range.2 (by omega))
    rw [Bool.not_eq_true'] at h1 ⊢
    unfold lostAt at h1 ⊢
    rw [tk_right, show xs.length + j + 1 = xs.length + (j + 1) by omega, tk_right]
    rcases ah_right (ys := ys) hl j with h2 | ⟨h2, h3⟩
    · rw [h2]; exact h1
    · rw [lost_a h2 h3]; exact h1
theorem write_ok {m : Int} {ts : List BTok} {x : ByteArray} (h : writeO m ts = (x, 0)) : ¬ (m < 0 ∨ 2 < m) ∧ rightO ts = 0 ∧ (m = 1 → htmlOk ts = true) ∧ (textO m ts).length ≤ 32768 ∧ x = ⟨(textO m ts).toArray⟩ := by
  unfold writeO at h
  split at h
  · cases h
  · rename_i h1
    split at h
    · rename_i h2
      injection h with _ h3
      exact absurd h3 h2
    · rename_i h2
      split at h
      · cases h
      · rename_i h3
        split at h
        · cases h
        · rename_i h4
          injection h with h5
          refine ⟨h1, by simpa using h2, fun e => ?_, by omega, h5.symm⟩
          cases hh : htmlOk ts with
          | true => rfl
          | false => exact absurd ⟨e, hh⟩ h3
theorem join_plain {m : Int} {xs ys : List BTok} {x y : ByteArray} (h1 : writeO m xs = (x, 0)) (h2 : writeO m ys = (y, 0)) :
    (meets xs ys → writeO m (xs ++ ys) = (⟨#[]⟩, 5)) ∧ (¬ meets xs ys → (32768 < x.size + y.size ∨ 4096 < xs.length + ys.length) → writeO m (xs ++ ys) = (⟨#[]⟩, 6)) ∧ (¬ meets xs ys → ¬ (32768 < x.size + y.size ∨ 4096 < xs.length + ys.length) → writeO m (xs ++ ys) = (x ++ y, 0)) := by
  obtain ⟨a1, a2, a3, a4, rfl⟩ := write_ok h1
  obtain ⟨_, b2, b3, b4, rfl⟩ := write_ok h2
  have hl : ∀ t, xs.getLast? = some t → t.kind ≠ 2 := fun t ht => last_no (right_forB a2) ht
  have e1 : (⟨(textO m xs).toArray⟩ : ByteArray).size = (textO m xs).length := by show (textO m xs).toArray.size = _; simp
  have e2 : (⟨(textO m ys).toArray⟩ : ByteArray).size = (textO m ys).length := by show (textO m ys).toArray.size = _; simp
  have ht := join_text m (ys := ys) hl
  have hh : ¬ (m = 1 ∧ htmlOk (xs ++ ys) = false) := fun e => by
    rw [join_html hl (a3 e.1) (b3 e.1)] at e
    cases e.2
  refine ⟨fun hm => ?_, fun hm hc => ?_, fun hm hc => ?_⟩
  · unfold writeO
    rw [if_neg a1, join_right5 a2 hm, if_pos (by decide)]
  · unfold writeO
    rw [if_neg a1, join_right a2 b2 hm]
    by_cases h : 4096 < xs.length + ys.length
    · rw [if_pos h, if_pos (by decide)]
    · rw [if_neg h, if_neg (by decide), if_neg hh, if_pos (by rw [ht, List.length_append]; omega)]
  · have hr : rightO (xs ++ ys) = 0 := by rw [join_right a2 b2 hm, if_neg (by omega)]
    unfold writeO
    rw [if_neg a1, hr, if_neg (by decide), if_neg hh, if_neg (by rw [ht, List.length_append]; omega), ht]
    congr 1
end Go.Proofs.YtefjfjieoiegnaaGreatDoor
