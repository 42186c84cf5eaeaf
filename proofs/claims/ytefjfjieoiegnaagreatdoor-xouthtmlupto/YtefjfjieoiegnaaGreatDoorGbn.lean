/- Several texts, laid as one. -/
import Derived.Test.YtefjfjieoiegnaaGreatDoorGbm
import Derived.Test.YtefjfjieoiegnaaGreatDoorGbd
import Derived.Test.YtefjfjieoiegnaaGreatDoorXmlWrQ
import Derived.Test.YtefjfjieoiegnaaGreatDoorGbl
/- Trees one behind the other, told plainly: what xout's Write answers of both together. -/
namespace Go.Proofs.YtefjfjieoiegnaaGreatDoor
open Go.RowKit
/-- Where tokens of a document lead to. -/
def docRun : List ByteArray → Bool → Int → List BTok → Option (List ByteArray × Bool × Int)
  | o, r, k, [] => some (o, r, k)
  | o, r, k, t :: ts => match okB t, docStp o r k t with
    | true, some x => docRun x.1 x.2 t.kind ts
    | _, _ => none
theorem docRun_cons (o : List ByteArray) (r : Bool) (k : Int) (t : BTok) (ts : List BTok) : docRun o r k (t :: ts) = match okB t, docStp o r k t with
    | true, some x => docRun x.1 x.2 t.kind ts
    | _, _ => none := rfl
theorem docB_step (o : List ByteArray) (r : Bool) (k : Int) (t : BTok) (ts : List BTok) : docB o r k (t :: ts) = (okB t && (match docStp o r k t with
    | none => false
    | some x => docB x.1 x.2 t.kind ts)) := rfl
theorem docB_app : ∀ (ts us : List BTok) (o : List ByteArray) (r : Bool) (k : Int), docB o r k (ts ++ us) = match docRun o r k ts with
    | none => false
    | some x => docB x.1 x.2.1 x.2.2 us
  | [], us, o, r, k => rfl
  | t :: ts, us, o, r, k => by
    rw [List.cons_append, docB_step, docRun_cons]
    cases okB t with
    | false => rfl
    | true =>
      cases docStp o r k t with
      | none => rfl
      | some x =>
        rw [Bool.true_and]
        exact docB_app ts us x.1 x.2 t.kind
theorem docRun_app : ∀ (ts us : List BTok) (o : List ByteArray) (r : Bool) (k : Int), docRun o r k (ts ++ us) = (docRun o r k ts).bind fun x => docRun x.1 x.2.1 x.2.2 us
  | [], us, o, r, k => rfl
  | t :: ts, us, o, r, k => by
    rw [List.cons_append, docRun_cons, docRun_cons]
    cases okB t with
    | false => rfl
    | true =>
      cases docStp o r k t with
      | none => rfl
      | some x => exact docRun_app ts us x.1 x.2 t.kind
theorem stp_true {o : List ByteArray} {k : Int} {t : BTok} {x : List ByteArray × Bool} (h : docStp o true k t = some x) : x.2 = true := by
  unfold docStp at h
  repeat' split at h
  all_goals (first | cases h; rfl | cases h)
theorem docRun_r : ∀ (ts : List BTok) (o : List ByteArray) (k : Int) (x : List ByteArray × Bool × Int), docRun o true k ts = some x → x.2.1 = true
  | [], o, k, x, h => by cases h; rfl
  | t :: ts, o, k, x, h => by
    rw [docRun_cons] at h
    cases hk : okB t with
    | false => rw [hk] at h; cases h
    | true =>
      rw [hk] at h
      cases hs : docStp o true k t with
      | none => rw [hs] at h; cases h
      | some y =>
        rw [hs] at h
        have h' : docRun y.1 y.2 t.kind ts = some x := h
        rw [stp_true hs] at h'
        exact docRun_r ts y.1 t.kind x h'
/-- How much deeper tokens lead. -/
def dl : List BTok → Int
  | [] => 0
  | t :: ts => (if t.kind = 2 then 1 else if t.kind = 7 then -1 else 0) + dl ts
theorem stp_len {o : List ByteArray} {r : Bool} {k : Int} {t : BTok} {x : List ByteArray × Bool} (h : docStp o r k t = some x) : (x.1.length : Int) = o.length + (if t.kind = 2 then 1 else if t.kind = 7 then -1 else 0) := by
  unfold docStp at h
  split at h
  · rename_i h2
    rw [if_pos h2]
    split at h
    · cases h
    · cases h; simp
  · rename_i h2
    rw [if_neg h2]
    split at h
    · rename_i h7
      rw [if_pos h7]
      split at h
      · cases h
      · rename_i y hy
        split at h
        · cases h
          cases o with
          | nil => cases hy
          | cons a o => simp [List.length_dropLast]; omega
        · cases h
    · rename_i h7
      rw [if_neg h7]
      split at h
      · split at h
        · cases h
        · cases h; simp
      · cases h; simp
theorem docRun_d : ∀ (ts : List BTok) (o : List ByteArray) (r : Bool) (k : Int) (x : List ByteArray × Bool × Int), docRun o r k ts = some x → (x.1.length : Int) = o.length + dl ts
  | [], o, r, k, x, h => by cases h; simp [dl]
  | t :: ts, o, r, k, x, h => by
    rw [docRun_cons] at h
    cases hk : okB t with
    | false => rw [hk] at h; cases h
    | true =>
      rw [hk] at h
      cases hs : docStp o r k t with
      | none => rw [hs] at h; cases h
      | some y =>
        rw [hs] at h
        have h' : docRun y.1 y.2 t.kind ts = some x := h
        have h1 := docRun_d ts _ _ _ _ h'
        have h2 := stp_len hs
        rw [h1, h2]
        show _ = (o.length : Int) + ((if t.kind = 2 then 1 else if t.kind = 7 then -1 else 0) + dl ts)
        omega
theorem pastGo_app : ∀ (ts us : List BTok) (d : Int) (p : Bool), pastGo d p (ts ++ us) = pastGo (d + dl ts) (pastGo d p ts) us
  | [], us, d, p => by
    show _ = pastGo (d + 0) p us
    rw [Int.add_zero]
    rfl
  | t :: ts, us, d, p => by
    rw [List.cons_append, pastGo_cons, pastGo_cons]
    show _ = pastGo (d + ((if t.kind = 2 then 1 else if t.kind = 7 then -1 else 0) + dl ts)) _ us
    split
    · rw [pastGo_app ts us]
      congr 1
      omega
    · split
      · rw [pastGo_app ts us]
        congr 1
        omega
      · rw [pastGo_app ts us]
        congr 1
        omega
theorem aroE_ok : okB aroE = true := by kernel_rfl
theorem aroF_ok : okB aroF = true := by kernel_rfl
theorem forB_doc (ts : List BTok) : forB ts = docB [aroS] true 2 (ts ++ [aroF]) := by
  have h : docB [] false 0 (aroE :: (ts ++ [aroF])) = docB [aroS] true 2 (ts ++ [aroF]) := by
    rw [docB_step, aroE_ok, Bool.true_and]
    rfl
  unfold forB writeR
  rw [h]
  cases docB [aroS] true 2 (ts ++ [aroF]) with
  | false => rfl
  | true =>
    rw [if_neg (by decide)]
    split
    · rfl
    · split
      · rfl
      · rfl
theorem bytes_same {a b : ByteArray} (h : (a.toList == b.toList) = true) : a = b := by
  have h1 := eq_of_beq h
  rw [ByteArray.toList_eq, ByteArray.toList_eq] at h1
  cases a
  cases b
  congr 1
  exact Array.toList_inj.1 h1
theorem forB_run {ts : List BTok} (h : forB ts = true) : ∃ k, docRun [aroS] true 2 ts = some ([aroS], true, k) := by
  rw [forB_doc, docB_app] at h
  cases hr : docRun [aroS] true 2 ts with
  | none => rw [hr] at h; cases h
  | some x =>
    obtain ⟨o, r, k⟩ := x
    obtain rfl : r = true := docRun_r ts _ _ _ hr
    rw [hr] at h
    have h' : docB o true k [aroF] = true := h
    rw [docB_step, aroF_ok, Bool.true_and] at h'
    refine ⟨k, ?_⟩
    unfold docStp at h'
    rw [if_neg (by decide), if_pos (by rfl)] at h'
    cases hg : o.getLast? with
    | none => rw [hg] at h'; cases h'
    | some y =>
      rw [hg] at h'
      dsimp only at h'
      by_cases hy : (y.toList == aroF.name.toList) = true
      · rw [if_pos hy] at h'
        have h2 : (true && o.dropLast.isEmpty) = true := h'
        rw [Bool.true_and, List.isEmpty_iff] at h2
        have h3 : o = [aroS] := by
          obtain ⟨l, rfl⟩ := List.getLast?_eq_some_iff.1 hg
          rw [List.dropLast_concat] at h2
          rw [h2, bytes_same hy]
          rfl
        rw [h3]
      · rw [if_neg hy] at h'
        cases h'
theorem run_forB {ts : List BTok} {k : Int} (h : docRun [aroS] true 2 ts = some ([aroS], true, k)) : forB ts = true := by
  rw [forB_doc, docB_app, h]
  show docB [aroS] true k [aroF] = true
  rw [docB_step, aroF_ok, Bool.true_and]
  unfold docStp
  rw [if_neg (by decide), if_pos (by rfl)]
  show (match (if (aroS.toList == aroS.toList) = true then some (([] : List ByteArray), true) else none) with
    | none => false
    | some x => docB x.1 x.2 aroF.kind []) = true
  rw [if_pos (beq_self_eq_true _)]
  rfl
theorem docRun_k : ∀ (ts : List BTok) (o : List ByteArray) (r : Bool) (k : Int) (x : List ByteArray × Bool × Int), docRun o r k ts = some x → x.2.2 = (match ts.getLast? with
    | none => k
    | some t => t.kind)
  | [], o, r, k, x, h => by cases h; rfl
  | t :: ts, o, r, k, x, h => by
    rw [docRun_cons] at h
    cases hk : okB t with
    | false => rw [hk] at h; cases h
    | true =>
      rw [hk] at h
      cases hs : docStp o r k t with
      | none => rw [hs] at h; cases h
      | some y =>
        rw [hs] at h
        have h' : docRun y.1 y.2 t.kind ts = some x := h
        have h1 := docRun_k ts _ _ _ _ h'
        rw [h1]
        cases ts with
        | nil => rfl
        | cons u ts => rw [List.getLast?_cons_cons]; cases hg : (u :: ts).getLast? with
          | none => simp at hg
          | some z => rfl
/-- The last of a tree's tokens begins no element. -/
theorem last_no {ts : List BTok} (h : forB ts = true) {t : BTok} (ht : ts.getLast? = some t) : t.kind ≠ 2 := by
  intro hk
  obtain ⟨k, hr⟩ := forB_run h
  obtain ⟨l, rfl⟩ := List.getLast?_eq_some_iff.1 ht
  rw [docRun_app] at hr
  cases hl : docRun [aroS] true 2 l with
  | none => rw [hl] at hr; cases hr
  | some x =>
    obtain ⟨o, r, k2⟩ := x
    obtain rfl : r = true := docRun_r l _ _ _ hl
    rw [hl] at hr
    have hr' : docRun o true k2 [t] = some ([aroS], true, k) := hr
    rw [docRun_cons] at hr'
    cases ho : okB t with
    | false => rw [ho] at hr'; cases hr'
    | true =>
      rw [ho] at hr'
      unfold docStp at hr'
      rw [if_pos hk] at hr'
      cases o with
      | nil => cases hr'
      | cons a o =>
        have h3 : some (a :: o ++ [t.name], true, t.kind) = some ([aroS], true, k) := hr'
        injection h3 with h4
        have h5 := congrArg (fun x => x.1.length) h4
        simp at h5
/-- Two texts that meet. -/
def meets (xs ys : List BTok) : Prop := ∃ t u, xs.getLast? = some t ∧ ys.head? = some u ∧ t.kind = 4 ∧ u.kind = 4
theorem join_run {xs ys : List BTok} {k : Int} (h : docRun [aroS] true 2 xs = some ([aroS], true, k)) : docRun [aroS] true 2 (xs ++ ys) = docRun [aroS] true k ys := by
  rw [docRun_app, h]
  rfl
theorem join_meet {xs ys : List BTok} (h : forB xs = true) (hm : meets xs ys) : forB (xs ++ ys) = false := by
  obtain ⟨t, u, h1, h2, h3, h4⟩ := hm
  obtain ⟨k, hr⟩ := forB_run h
  have hk := docRun_k _ _ _ _ _ hr
  rw [h1] at hk
  have hk' : k = 4 := hk.trans h3
  subst hk'
  cases hf : forB (xs ++ ys) with
  | false => rfl
  | true =>
    obtain ⟨k2, h5⟩ := forB_run hf
    rw [join_run hr] at h5
    cases ys with
    | nil => cases h2
    | cons v ys =>
      cases h2
      rw [docRun_cons] at h5
      have hs : docStp [aroS] true 4 u = none := by
        unfold docStp
        rw [if_neg (by rw [h4]; decide), if_neg (by rw [h4]; decide), if_pos h4]
        rfl
      rw [hs] at h5
      cases hko : okB u with
      | false => rw [hko] at h5; cases h5
      | true => rw [hko] at h5; cases h5
theorem join_for {xs ys : List BTok} (ha : forB xs = true) (hb : forB ys = true) (hm : ¬ meets xs ys) : forB (xs ++ ys) = true := by
  obtain ⟨k, hr⟩ := forB_run ha
  obtain ⟨k2, hr2⟩ := forB_run hb
  have hk := docRun_k _ _ _ _ _ hr
  cases ys with
  | nil => rw [List.append_nil]; exact ha
  | cons u ys =>
    refine run_forB (k := k2) ?_
    rw [join_run hr, ← hr2, docRun_cons, docRun_cons]
    have hs : docStp [aroS] true k u = docStp [aroS] true 2 u := by
      unfold docStp
      by_cases h4 : u.kind = 4
      · have h5 : k ≠ 4 := by
          intro e
          cases hg : xs.getLast? with
          | none => rw [hg] at hk; have : k = 2 := hk; omega
          | some t => rw [hg] at hk; exact hm ⟨t, u, hg, rfl, hk.symm.trans e, h4⟩
        have h6 : (k == 4) = false := beq_eq_false_iff_ne.2 h5
        rw [h6]
        rfl
      · rw [if_neg h4, if_neg h4]
    rw [hs]
theorem forB_dl {ts : List BTok} (h : forB ts = true) : dl ts = 0 := by
  obtain ⟨k, hr⟩ := forB_run h
  have h1 := docRun_d _ _ _ _ _ hr
  simp at h1
  omega
theorem right_forB {ts : List BTok} (h : rightO ts = 0) : forB ts = true := by
  unfold rightO at h
  split at h
  · assumption
  · cases h
theorem join_past {xs ys : List BTok} (ha : rightO xs = 0) (hb : rightO ys = 0) : pastD (xs ++ ys) = decide (4096 < xs.length + ys.length) := by
  have h1 := right_past ha
  have h2 := right_past hb
  have h3 := (past_few h1).1
  have h4 := (past_few h2).1
  have hd := forB_dl (right_forB ha)
  unfold pastD at h1 h2 ⊢
  rw [decide_eq_false (by omega)] at h1 h2
  rw [pastGo_app, hd, List.length_append, Int.add_zero]
  by_cases h : 4096 < xs.length + ys.length
  · rw [decide_eq_true h, pastGo_true, pastGo_true]
  · rw [decide_eq_false h, h1, h2]
theorem join_right {xs ys : List BTok} (ha : rightO xs = 0) (hb : rightO ys = 0) (hm : ¬ meets xs ys) : rightO (xs ++ ys) = if 4096 < xs.length + ys.length then 6 else 0 := by
  unfold rightO
  rw [join_for (right_forB ha) (right_forB hb) hm, join_past ha hb, if_pos rfl]
  by_cases h : 4096 < xs.length + ys.length
  · rw [decide_eq_true h, if_pos rfl, if_pos h]
  · rw [decide_eq_false h, if_neg (by decide), if_neg h]
theorem join_right5 {xs ys : List BTok} (ha : rightO xs = 0) (hm : meets xs ys) : rightO (xs ++ ys) = 5 := by
  unfold rightO
  rw [join_meet (right_forB ha) hm, if_neg (by decide)]
/-- What is written of a token among its neighbours. -/
def spotG (m : Int) (t a c : BTok) : List UInt8 := if m = 1 then htmlO t a else if m = 2 then plainO t else xmlO t a c
theorem spotO_G (m : Int) (ts : List BTok) (i : Nat) : spotO m ts i = spotG m (tkAt ts i) (ahT ts i) (tkAt ts (i + 1)) := by
  unfold spotO spotG
  split
  · rfl
  · split
    · rfl
    · rfl
theorem spotG_c (m : Int) {t : BTok} (a c c' : BTok) (h : t.kind ≠ 2) : spotG m t a c = spotG m t a c' := by
  unfold spotG xmlO
  rw [if_neg (show ¬ (t.kind = 2 ∧ c.kind = 7) from fun e => h e.1), if_neg (show ¬ (t.kind = 2 ∧ c'.kind = 7) from fun e => h e.1)]
theorem rawS_no {a : BTok} (h : a.kind ≠ 2) : rawS a = false := by
  unfold rawS
  rw [decide_eq_false h]
  rfl
theorem spotG_a (m : Int) (t : BTok) {a a' : BTok} (c : BTok) (h : a.kind ≠ 2) (h' : a'.kind ≠ 2) : spotG m t a c = spotG m t a' c := by
  unfold spotG xmlO htmlO
  rw [rawS_no h, rawS_no h', if_neg (show ¬ (t.kind = 7 ∧ a.kind = 2) from fun e => h e.2), if_neg (show ¬ (t.kind = 7 ∧ a'.kind = 2) from fun e => h' e.2)]
theorem tk_left {xs ys : List BTok} {i : Nat} (h : i < xs.length) : tkAt (xs ++ ys) i = tkAt xs i := by
  unfold tkAt
  rw [List.getElem?_append_left h]
theorem tk_right (xs ys : List BTok) (i : Nat) : tkAt (xs ++ ys) (xs.length + i) = tkAt ys i := by
  unfold tkAt
  rw [List.getElem?_append_right (by omega)]
  congr 2
  omega
theorem ah_left {xs ys : List BTok} {i : Nat} (h : i < xs.length) : ahT (xs ++ ys) i = ahT xs i := by
  unfold ahT
  split
  · rfl
  · exact tk_left (by omega)
theorem tk_last {xs : List BTok} {i : Nat} (h : i + 1 = xs.length) : xs.getLast? = some (tkAt xs i) := by
  rw [List.getLast?_eq_getElem?]
  have hi : i < xs.length := by omega
  unfold tkAt
  rw [show xs.length - 1 = i by omega, List.getElem?_eq_getElem hi]
  rfl
/-- What lies ahead of the first of the second: nothing, or no beginning of an element. -/
theorem ah_right {xs ys : List BTok} (hl : ∀ t, xs.getLast? = some t → t.kind ≠ 2) (i : Nat) : ahT (xs ++ ys) (xs.length + i) = ahT ys i ∨ ((ahT (xs ++ ys) (xs.length + i)).kind ≠ 2 ∧ (ahT ys i).kind ≠ 2) := by
  cases i with
  | succ i =>
    left
    unfold ahT
    rw [if_neg (by omega), if_neg (by omega)]
    exact tk_right xs ys i
  | zero =>
    by_cases h0 : xs.length = 0
    · left
      unfold ahT
      rw [if_pos (by omega), if_pos rfl]
    · right
      unfold ahT
      rw [if_neg (by omega), if_pos rfl]
      refine ⟨?_, by decide⟩
      rw [tk_left (by omega)]
      exact hl _ (tk_last (by omega))
theorem spot_left (m : Int) {xs ys : List BTok} (hl : ∀ t, xs.getLast? = some t → t.kind ≠ 2) {i : Nat} (h : i < xs.length) : spotO m (xs ++ ys) i = spotO m xs i := by
  rw [spotO_G, spotO_G, tk_left h, ah_left h]
  by_cases hi : i + 1 < xs.length
  · rw [tk_left hi]
  · exact spotG_c m _ _ _ (hl _ (tk_last (by omega)))
theorem spot_right (m : Int) {xs ys : List BTok} (hl : ∀ t, xs.getLast? = some t → t.kind ≠ 2) (i : Nat) : spotO m (xs ++ ys) (xs.length + i) = spotO m ys i := by
  rw [spotO_G, spotO_G, tk_right, show xs.length + i + 1 = xs.length + (i + 1) by omega, tk_right]
  rcases ah_right (ys := ys) hl i with h | ⟨h, h'⟩
  · rw [h]
  · exact spotG_a m _ _ h h'
theorem flat_congr {f g : Nat → List UInt8} : ∀ (l : List Nat), (∀ x ∈ l, f x = g x) → l.flatMap f = l.flatMap g
  | [], _ => rfl
  | x :: l, h => by
    rw [List.flatMap_cons, List.flatMap_cons, h x (List.mem_cons_self ..), flat_congr l (fun y hy => h y (List.mem_cons_of_mem _ hy))]
theorem join_text (m : Int) {xs ys : List BTok} (hl : ∀ t, xs.getLast? = some t → t.kind ≠ 2) : textO m (xs ++ ys) = textO m xs ++ textO m ys := by
  unfold textO
  rw [List.length_append, List.range_add, List.flatMap_append, List.flatMap_map]
  rw [flat_congr (List.range xs.length) (fun x hx => spot_left m hl (List.mem_range.1 hx)), flat_congr (List.range ys.length) (fun x _ => spot_right m hl x)]
theorem lost_c {t a c : BTok} (h : t.kind ≠ 2) (hz : lostB t a zB = false) : lostB t a c = false := by
  unfold lostB at hz ⊢
  rw [if_neg h] at hz ⊢
  by_cases h4 : t.kind = 4
  · rw [if_pos h4] at hz ⊢
    cases hr : rawS a with
    | false => rfl
    | true => rw [hr] at hz; cases hz
  · rw [if_neg h4] at hz ⊢
    exact hz
theorem lost_a {t a a' c : BTok} (h : a.kind ≠ 2) (h' : a'.kind ≠ 2) : lostB t a c = lostB t a' c := by
  unfold lostB
  rw [rawS_no h, rawS_no h']
theorem join_html {xs ys : List BTok} (hl : ∀ t, xs.getLast? = some t → t.kind ≠ 2) (ha : htmlOk xs = true) (hb : htmlOk ys = true) : htmlOk (xs ++ ys) = true := by
  unfold htmlOk at *
  rw [List.all_eq_true] at *
  intro i hi
  have hi' := List.mem_range.1 hi
  rw [List.length_append] at hi'
  by_cases h : i < xs.length
  · have h1 := ha i (List.mem_range.2 h)
    rw [Bool.not_eq_true'] at h1 ⊢
    unfold lostAt at h1 ⊢
    rw [tk_left h, ah_left h]
    by_cases h2 : i + 1 < xs.length
    · rw [tk_left h2]; exact h1
    · have hz : tkAt xs (i + 1) = zB := tk_no (by omega)
      rw [hz] at h1
      exact lost_c (hl _ (tk_last (by omega))) h1
  · obtain ⟨j, rfl⟩ : ∃ j, i = xs.length + j := ⟨i - xs.length, by omega⟩
    have h1 := hb j (List.mem_range.2 (by omega))
    rw [Bool.not_eq_true'] at h1 ⊢
    unfold lostAt at h1 ⊢
    rw [tk_right, show xs.length + j + 1 = xs.length + (j + 1) by omega, tk_right]
    rcases ah_right (ys := ys) hl j with h2 | ⟨h2, h3⟩
    · rw [h2]; exact h1
    · rw [lost_a h2 h3]; exact h1
theorem write_ok {m : Int} {ts : List BTok} {x : ByteArray} (h : writeO m ts = (x, 0)) : ¬ (m < 0 ∨ 2 < m) ∧ rightO ts = 0 ∧ (m = 1 → htmlOk ts = true) ∧ (textO m ts).length ≤ 32768 ∧ x = ⟨(textO m ts).toArray⟩ := by
  unfold writeO at h
  split at h
  · cases h
  · rename_i h1
    split at h
    · rename_i h2
      injection h with _ h3
      exact absurd h3 h2
    · rename_i h2
      split at h
      · cases h
      · rename_i h3
        split at h
        · cases h
        · rename_i h4
          injection h with h5
          refine ⟨h1, by simpa using h2, fun e => ?_, by omega, h5.symm⟩
          cases hh : htmlOk ts with
          | true => rfl
          | false => exact absurd ⟨e, hh⟩ h3
theorem join_plain {m : Int} {xs ys : List BTok} {x y : ByteArray} (h1 : writeO m xs = (x, 0)) (h2 : writeO m ys = (y, 0)) :
    (meets xs ys → writeO m (xs ++ ys) = (⟨#[]⟩, 5)) ∧ (¬ meets xs ys → (32768 < x.size + y.size ∨ 4096 < xs.length + ys.length) → writeO m (xs ++ ys) = (⟨#[]⟩, 6)) ∧ (¬ meets xs ys → ¬ (32768 < x.size + y.size ∨ 4096 < xs.length + ys.length) → writeO m (xs ++ ys) = (x ++ y, 0)) := by
  obtain ⟨a1, a2, a3, a4, rfl⟩ := write_ok h1
  obtain ⟨_, b2, b3, b4, rfl⟩ := write_ok h2
  have hl : ∀ t, xs.getLast? = some t → t.kind ≠ 2 := fun t ht => last_no (right_forB a2) ht
  have e1 : (⟨(textO m xs).toArray⟩ : ByteArray).size = (textO m xs).length := by show (textO m xs).toArray.size = _; simp
  have e2 : (⟨(textO m ys).toArray⟩ : ByteArray).size = (textO m ys).length := by show (textO m ys).toArray.size = _; simp
  have ht := join_text m (ys := ys) hl
  have hh : ¬ (m = 1 ∧ htmlOk (xs ++ ys) = false) := fun e => by
    rw [join_html hl (a3 e.1) (b3 e.1)] at e
    cases e.2
  refine ⟨fun hm => ?_, fun hm hc => ?_, fun hm hc => ?_⟩
  · unfold writeO
    rw [if_neg a1, join_right5 a2 hm, if_pos (by decide)]
  · unfold writeO
    rw [if_neg a1, join_right a2 b2 hm]
    by_cases h : 4096 < xs.length + ys.length
    · rw [if_pos h, if_pos (by decide)]
    · rw [if_neg h, if_neg (by decide), if_neg hh, if_pos (by rw [ht, List.length_append]; omega)]
  · have hr : rightO (xs ++ ys) = 0 := by rw [join_right a2 b2 hm, if_neg (by omega)]
    unfold writeO
    rw [if_neg a1, hr, if_neg (by decide), if_neg hh, if_neg (by rw [ht, List.length_append]; omega), ht]
    congr 1
end Go.Proofs.YtefjfjieoiegnaaGreatDoor
/- Tokens in bytes are the same in characters, where they are a document's. -/
namespace Go.Proofs.YtefjfjieoiegnaaGreatDoor
def XTok.b (t : XTok) : BTok := ⟨(t.kind : Nat), T t.name, t.attrs.map fun x => (T x.1, T x.2), T t.text⟩
structure OkAll (t : XTok) : Prop where
  n : okL t.name
  a : ∀ x ∈ t.attrs, okL x.1 ∧ okL x.2
  x : okL t.text
theorem okL_nil : okL [] := fun _ h => by cases h
theorem T_nil : T [] = ⟨#[]⟩ := rfl
theorem empty_T {s : ByteArray} (h : s.toList.isEmpty = true) : s = T [] := by
  have h1 : s.data.toList = [] := by rw [← toList_data]; simpa using h
  rw [T_nil]
  cases s with | mk d => cases d with | mk l => simp at h1; subst h1; rfl
theorem of_data {s : ByteArray} {l : List Nat} (h : s.data.toList = tx l) : s = T l := by
  rw [← mk_data s, h]
  rfl
theorem qB_T {s : ByteArray} (h : qB s = true) : ∃ l, okL l ∧ s = T l ∧ isQ l = true := by
  have key : ∃ l, okL l ∧ s = T l := by
    by_cases h58 : (58 : UInt8) ∈ s.data.toList
    · obtain ⟨p, r, e, hp⟩ := List.eq_append_cons_of_mem h58
      have hc := cut_first p r 58 hp
      unfold qB splitB splitP splitN at h
      rw [e, hc] at h
      simp only [if_pos, Bool.not_true, Bool.false_or, Bool.and_eq_true] at h
      obtain ⟨a, ha, ea⟩ := nameB_txt h.1
      obtain ⟨b, hb, eb⟩ := nameB_txt h.2
      have ea' : p = tx a := by have := congrArg (fun x : ByteArray => x.data.toList) ea; rw [T_data] at this; simpa using this
      have eb' : r = tx b := by have := congrArg (fun x : ByteArray => x.data.toList) eb; rw [T_data] at this; simpa using this
      refine ⟨a ++ ([58] ++ b), okL_app ha (okL_app (okL_of (by decide)) hb), of_data ?_⟩
      rw [e, ea', eb', tx_append, tx_append]
      rfl
    · have hc := cut_none s.data.toList 58 h58
      unfold qB splitB splitP splitN at h
      rw [hc] at h
      simp only [Bool.not_false, Bool.true_or, Bool.true_and, if_neg, Bool.false_eq_true, not_false_eq_true, mk_data] at h
      exact nameB_txt h
  obtain ⟨l, hl, rfl⟩ := key
  exact ⟨l, hl, rfl, by rw [← splitB_T hl]; exact h⟩
theorem textB_T {s : ByteArray} (h : textB s = true) : ∃ l, okL l ∧ s = T l := txt_T ((textB_txt s).1 h)
theorem attrs_T : ∀ (l : List (ByteArray × ByteArray)) (seen : List (List Nat)), (∀ x ∈ seen, okL x) → attrsB (seen.map tx) l = true →
    ∃ a : List (List Nat × List Nat), l = a.map (fun x => (T x.1, T x.2)) ∧ (∀ x ∈ a, okL x.1 ∧ okL x.2) ∧ (∀ x ∈ a, isQ x.1 = true) ∧ (a.map (·.1)).Nodup ∧ ∀ x ∈ a, x.1 ∉ seen
  | [], _, _, _ => ⟨[], rfl, (fun _ h => by cases h), (fun _ h => by cases h), List.nodup_nil, (fun _ h => by cases h)⟩
  | (k, v) :: l, seen, hs, h => by
    simp only [attrsB, Bool.and_eq_true, Bool.not_eq_true'] at h
    obtain ⟨h1, h2, h3, h4⟩ := h
    obtain ⟨n, hn, rfl, hq⟩ := qB_T h2
    obtain ⟨x, hx, rfl⟩ := textB_T h3
    rw [T_data] at h1 h4
    have hns : n ∉ seen := fun hm => by
      have : (seen.map tx).contains (tx n) = true := by simpa using ⟨n, hm, rfl⟩
      rw [h1] at this
      cases this
    obtain ⟨a, rfl, e1, e2, e3, e4⟩ := attrs_T l (seen ++ [n]) (fun y hy => by
      rcases List.mem_append.1 hy with hy | hy
      · exact hs y hy
      · rw [List.mem_singleton.1 hy]; exact hn) (by rw [List.map_append]; exact h4)
    refine ⟨(n, x) :: a, rfl, fun y hy => ?_, fun y hy => ?_, ?_, fun y hy => ?_⟩
    · rcases List.mem_cons.1 hy with rfl | hy
      · exact ⟨hn, hx⟩
      · exact e1 y hy
    · rcases List.mem_cons.1 hy with rfl | hy
      · exact hq
      · exact e2 y hy
    · rw [List.map_cons, List.nodup_cons]
      refine ⟨fun hm => ?_, e3⟩
      obtain ⟨z, hz, hzn⟩ := List.mem_map.1 hm
      exact e4 z hz (by rw [hzn]; simp)
    · rcases List.mem_cons.1 hy with rfl | hy
      · exact hns
      · exact fun hm => e4 y hy (List.mem_append_left _ hm)
theorem isEmpty_of {α : Type} {l : List α} (h : l.isEmpty = true) : l = [] := by simpa using h
theorem contains_cut {sign : List Nat} (hs : ∀ c ∈ sign, c < 128) (hne : sign ≠ []) {l : List Nat} (hl : okL l) (h : Lib.contains (tx l) (sign.map UInt8.ofNat) = false) : cutL sign l = none := by
  cases hc : cutL sign l with
  | none => rfl
  | some x =>
    have := ((index_tx sign hs hne l hl).1 x.1 x.2 hc).1
    unfold Lib.contains at h
    rw [this] at h
    simp at h
theorem suffix_last {l : List Nat} (hl : okL l) (h : Lib.hasSuffix (tx l) [45] = false) : l.getLast? ≠ some 45 := by
  intro hx
  obtain ⟨p, rfl⟩ : ∃ p, l = p ++ [45] := List.getLast?_eq_some_iff.1 hx
  have : Lib.hasSuffix (tx (p ++ [45])) [45] = true := by
    unfold Lib.hasSuffix
    rw [tx_append]
    exact List.isSuffixOf_iff_suffix.2 ⟨tx p, rfl⟩
  rw [h] at this
  cases this
theorem trim_head {l : List Nat} (hl : okL l) (h : ((Lib.trimLeftF blankN (T l)).toList == (T l).toList) = true) : ∀ c, l.head? = some c → blankC c = false := by
  intro c hc
  rw [trim_T hl] at h
  have h1 : tx (l.dropWhile blankC) = tx l := by
    rw [← T_toList, ← T_toList l]
    exact eq_of_beq h
  have h2 := tx_inj (fun x hx => hl x ((List.dropWhile_sublist _).subset hx)) hl h1
  cases l with
  | nil => cases hc
  | cons d l =>
    obtain rfl : d = c := by simpa using hc
    cases hb : blankC d
    · rfl
    · exfalso
      rw [List.dropWhile_cons, if_pos hb] at h2
      have := congrArg List.length h2
      have h3 : (l.dropWhile blankC).length ≤ l.length := (List.dropWhile_sublist _).length_le
      rw [List.length_cons] at this
      omega
/-- A token that may stand somewhere is one of characters. -/
theorem ok_T {t : BTok} (h : okB t = true) : ∃ x : XTok, t = x.b ∧ OkAll x ∧ OkTok x := by
  obtain ⟨k, n, a, x⟩ := t
  unfold okB at h
  simp only at h
  split at h
  · rename_i hk
    subst hk
    simp only [Bool.and_eq_true] at h
    obtain ⟨h1, h2, h3⟩ := h
    obtain ⟨m, hm, rfl, hq⟩ := qB_T h2
    obtain ⟨b, rfl, e1, e2, e3, _⟩ := attrs_T a [] (fun _ h => by cases h) h3
    exact ⟨⟨2, m, b, []⟩, by rw [empty_T h1]; rfl, ⟨hm, e1, okL_nil⟩, .elem m b hq e2 e3⟩
  · split at h
    · rename_i hk
      subst hk
      simp only [Bool.and_eq_true] at h
      obtain ⟨h1, h2, h3⟩ := h
      obtain ⟨m, hm, rfl, hq⟩ := qB_T h3
      exact ⟨⟨7, m, [], []⟩, by rw [empty_T h1, isEmpty_of h2]; rfl, ⟨hm, (fun _ h => by cases h), okL_nil⟩, .fin m hq⟩
    · split at h
      · rename_i hk
        subst hk
        simp only [Bool.and_eq_true, Bool.not_eq_true'] at h
        obtain ⟨h1, h2, h3, h4⟩ := h
        obtain ⟨l, hl, rfl⟩ := textB_T h4
        refine ⟨⟨4, [], [], l⟩, by rw [empty_T h1, isEmpty_of h2]; rfl, ⟨okL_nil, (fun _ h => by cases h), hl⟩, .text l ?_⟩
        intro h0
        rw [h0, T_toList] at h3
        cases h3
      · split at h
        · rename_i hk
          subst hk
          simp only [Bool.and_eq_true] at h
          obtain ⟨h1, h2, h3⟩ := h
          unfold comB at h3
          simp only [Bool.and_eq_true, Bool.not_eq_true'] at h3
          obtain ⟨h4, h5, h6⟩ := h3
          obtain ⟨l, hl, rfl⟩ := textB_T h4
          rw [T_data] at h5 h6
          exact ⟨⟨5, [], [], l⟩, by rw [empty_T h1, isEmpty_of h2]; rfl, ⟨okL_nil, (fun _ h => by cases h), hl⟩, .comment l (contains_cut (sign := [45, 45]) (by decide) (by decide) hl h5) (suffix_last hl h6)⟩
        · split at h
          · rename_i hk
            subst hk
            simp only [Bool.and_eq_true] at h
            obtain ⟨h1, h2, h3⟩ := h
            unfold insB at h3
            simp only [Bool.and_eq_true, Bool.not_eq_true'] at h3
            obtain ⟨h4, h5, h6⟩ := h3
            obtain ⟨l, hl, rfl⟩ := textB_T h4
            have h7 : nameB n = true := by unfold tarB at h2; simp only [Bool.and_eq_true] at h2; exact h2.1
            obtain ⟨m, hm, rfl⟩ := nameB_txt h7
            rw [tarB_T hm] at h2
            rw [T_data] at h5
            exact ⟨⟨6, m, [], l⟩, by rw [isEmpty_of h1]; rfl, ⟨hm, (fun _ h => by cases h), hl⟩, .pi m l h2 (contains_cut (sign := [63, 62]) (by decide) (by decide) hl h5) (trim_head hl h6)⟩
          · cases h
theorem deep_ge : ∀ (ts : List BTok) (d m : Int), m ≤ deepGo d m ts
  | [], _, _ => Int.le_refl _
  | t :: ts, d, m => by
    unfold deepGo
    split
    · have := deep_ge ts (d + 1) (max m (d + 1))
      omega
    · split
      · exact deep_ge ts (d - 1) m
      · exact deep_ge ts d m
theorem T_same {a b : List Nat} (ha : okL a) (hb : okL b) (h : ((T a).toList == (T b).toList) = true) : a = b := by
  have := eq_of_beq h
  rw [T_toList, T_toList] at this
  exact tx_inj ha hb this
/-- Tokens of a document are ones of characters, and a document's. -/
theorem doc_T : ∀ (ts : List BTok) (o : List (List Nat)) (r : Bool) (k : Nat) (m : Int), (∀ x ∈ o, okL x) → docB (o.map T) r (k : Nat) ts = true → deepGo o.length m ts ≤ 32 → (∀ t ∈ ts, t.attrs.length ≤ 64) →
    ∃ xs : List XTok, ts = xs.map XTok.b ∧ (∀ x ∈ xs, OkAll x) ∧ DocT o r k xs
  | [], o, r, k, m, _, h, _, _ => by
    unfold docB at h
    simp only [Bool.and_eq_true] at h
    obtain ⟨h1, h2⟩ := h
    have h3 := isEmpty_of h2
    rw [List.map_eq_nil_iff] at h3
    subst h3 h1
    exact ⟨[], rfl, (fun _ h => by cases h), .done k⟩
  | t :: ts, o, r, k, m, ho, h, hd, ha => by
    unfold docB at h
    simp only [Bool.and_eq_true] at h
    obtain ⟨h1, h2⟩ := h
    obtain ⟨x, rfl, hx, hok⟩ := ok_T h1
    have ha' : ∀ t ∈ ts, t.attrs.length ≤ 64 := fun t ht => ha t (List.mem_cons_of_mem _ ht)
    have hax := ha _ (List.mem_cons_self ..)
    cases hok with
    | elem n a h3 h4 h5 =>
      by_cases hr : ((o.map T).isEmpty && r) = true
      · have : docStp (o.map T) r (k : Nat) (XTok.b ⟨2, n, a, []⟩) = none := by
          show (if ((o.map T).isEmpty && r) = true then none else some (o.map T ++ [T n], true)) = _
          rw [if_pos hr]
        rw [this] at h2
        cases h2
      · have e : docStp (o.map T) r (k : Nat) (XTok.b ⟨2, n, a, []⟩) = some ((o ++ [n]).map T, true) := by
          show (if ((o.map T).isEmpty && r) = true then none else some (o.map T ++ [T n], true)) = _
          rw [if_neg hr, List.map_append]
          rfl
        rw [e] at h2
        have hd2 : deepGo ((o ++ [n]).length) (max m ((o.length : Int) + 1)) ts ≤ 32 := by
          have e2 : deepGo o.length m (XTok.b ⟨2, n, a, []⟩ :: ts) = deepGo ((o.length : Int) + 1) (max m ((o.length : Int) + 1)) ts := rfl
          rw [e2] at hd
          rw [List.length_append]
          exact hd
        have hdep := deep_ge ts (((o ++ [n]).length : Nat) : Int) (max m ((o.length : Int) + 1))
        obtain ⟨xs, rfl, q1, q2⟩ := doc_T ts (o ++ [n]) true 2 _ (fun y hy => by
          rcases List.mem_append.1 hy with hy | hy
          · exact ho y hy
          · rw [List.mem_singleton.1 hy]; exact hx.n) h2 hd2 ha'
        refine ⟨⟨2, n, a, []⟩ :: xs, rfl, fun y hy => ?_, .elem n a o r k xs (.elem n a h3 h4 h5) (fun h0 => ?_) (by omega) (by simpa [XTok.b] using hax) q2⟩
        · rcases List.mem_cons.1 hy with rfl | hy
          · exact hx
          · exact q1 y hy
        · subst h0
          simpa using hr
    | fin n h3 =>
      cases hg : o.getLast? with
      | none =>
        have : docStp (o.map T) r (k : Nat) (XTok.b ⟨7, n, [], []⟩) = none := by
          show (match (o.map T).getLast? with | none => none | some x => _) = _
          rw [List.getLast?_map, hg]
          rfl
        rw [this] at h2
        cases h2
      | some y =>
        have hy : okL y := ho y (List.mem_of_getLast? hg)
        have e0 : docStp (o.map T) r (k : Nat) (XTok.b ⟨7, n, [], []⟩) = if (T y).toList == (T n).toList then some ((o.map T).dropLast, r) else none := by
          show (match (o.map T).getLast? with | none => none | some x => if x.toList == (T n).toList then some ((o.map T).dropLast, r) else none) = _
          rw [List.getLast?_map, hg]
          rfl
        rw [e0] at h2
        by_cases hs : ((T y).toList == (T n).toList) = true
        · rw [if_pos hs] at h2
          have hyn := T_same hy hx.n hs
          subst hyn
          have hlen : o.length = o.dropLast.length + 1 := by
            rw [List.length_dropLast]
            have : o ≠ [] := fun h0 => by rw [h0] at hg; cases hg
            have := List.length_pos_iff.2 this
            omega
          rw [show (o.map T).dropLast = o.dropLast.map T by rw [List.map_dropLast]] at h2
          have hd2 : deepGo o.dropLast.length m ts ≤ 32 := by
            have e2 : deepGo o.length m (XTok.b ⟨7, y, [], []⟩ :: ts) = deepGo ((o.length : Int) - 1) m ts := rfl
            rw [e2, hlen] at hd
            have e3 : ((o.dropLast.length + 1 : Nat) : Int) - 1 = (o.dropLast.length : Nat) := by omega
            rw [e3] at hd
            exact hd
          obtain ⟨xs, rfl, q1, q2⟩ := doc_T ts o.dropLast r 7 m (fun z hz => ho z ((List.dropLast_sublist o).subset hz)) h2 hd2 ha'
          refine ⟨⟨7, y, [], []⟩ :: xs, rfl, fun z hz => ?_, .fin y o r k xs (.fin y h3) hg q2⟩
          rcases List.mem_cons.1 hz with rfl | hz
          · exact hx
          · exact q1 z hz
        · rw [if_neg hs] at h2
          cases h2
    | text l h3 =>
      by_cases hr : ((o.map T).isEmpty || ((k : Nat) : Int) == 4) = true
      · have : docStp (o.map T) r (k : Nat) (XTok.b ⟨4, [], [], l⟩) = none := by
          show (if (o.map T).isEmpty || ((k : Nat) : Int) == 4 then none else _) = _
          rw [if_pos hr]
        rw [this] at h2
        cases h2
      · have e : docStp (o.map T) r (k : Nat) (XTok.b ⟨4, [], [], l⟩) = some (o.map T, r) := by
          show (if (o.map T).isEmpty || ((k : Nat) : Int) == 4 then none else some (o.map T, r)) = _
          rw [if_neg hr]
        rw [e] at h2
        have hd2 : deepGo o.length m ts ≤ 32 := hd
        obtain ⟨xs, rfl, q1, q2⟩ := doc_T ts o r 4 m ho h2 hd2 ha'
        refine ⟨⟨4, [], [], l⟩ :: xs, rfl, fun y hy => ?_, .text l o r k xs (.text l h3) (fun h0 => ?_) (fun h0 => ?_) q2⟩
        · rcases List.mem_cons.1 hy with rfl | hy
          · exact hx
          · exact q1 y hy
        · subst h0; exact hr rfl
        · subst h0; exact hr (by simp)
    | comment l h3 h4 =>
      obtain ⟨xs, rfl, q1, q2⟩ := doc_T ts o r 5 m ho h2 hd ha'
      refine ⟨⟨5, [], [], l⟩ :: xs, rfl, fun y hy => ?_, .comment l o r k xs (.comment l h3 h4) q2⟩
      rcases List.mem_cons.1 hy with rfl | hy
      · exact hx
      · exact q1 y hy
    | pi n l h3 h4 h5 =>
      obtain ⟨xs, rfl, q1, q2⟩ := doc_T ts o r 6 m ho h2 hd ha'
      refine ⟨⟨6, n, [], l⟩ :: xs, rfl, fun y hy => ?_, .pi n l o r k xs (.pi n l h3 h4 h5) q2⟩
      rcases List.mem_cons.1 hy with rfl | hy
      · exact hx
      · exact q1 y hy
/-- What is written in bytes is what is written in characters. -/
theorem attr_tx {x : List Nat × List Nat} (h : okL x.2) : attrB (T x.1, T x.2) = tx (attrL x) := by
  have e : attrL x = [32] ++ (x.1 ++ ([61, 34] ++ (mapN quoN x.2 ++ [34]))) := by unfold attrL; simp
  rw [e, tx_append, tx_append, tx_append, tx_append, ← map_tx quo_both x.2 h]
  unfold attrB
  rw [T_data, T_data]
  rfl
theorem attrs_tx : ∀ {a : List (List Nat × List Nat)}, (∀ x ∈ a, okL x.1 ∧ okL x.2) → (a.map fun x => (T x.1, T x.2)).flatMap attrB = tx (a.flatMap attrL)
  | [], _ => rfl
  | x :: a, h => by
    rw [List.map_cons, List.flatMap_cons, List.flatMap_cons, tx_append, attrs_tx (fun y hy => h y (List.mem_cons_of_mem _ hy)), attr_tx (h x (List.mem_cons_self ..)).2]
theorem tok_tx {x : XTok} (h : OkAll x) (hok : OkTok x) : tokB x.b = tx (tokL x) := by
  cases hok with
  | elem n a =>
    show 60 :: ((T n).data.toList ++ ((a.map fun x => (T x.1, T x.2)).flatMap attrB ++ [62])) = tx ([60] ++ (n ++ (a.flatMap attrL ++ [62])))
    rw [tx_append, tx_append, tx_append, attrs_tx h.a, T_data]
    rfl
  | fin n =>
    show 60 :: 47 :: ((T n).data.toList ++ [62]) = tx ([60, 47] ++ (n ++ [62]))
    rw [tx_append, tx_append, T_data]
    rfl
  | text l =>
    show mapO escO (T l).data.toList = tx (mapN escN l)
    rw [T_data, map_tx esc_both l h.x]
  | comment l =>
    show 60 :: 33 :: 45 :: 45 :: ((T l).data.toList ++ [45, 45, 62]) = tx ([60, 33, 45, 45] ++ (l ++ [45, 45, 62]))
    rw [tx_append, tx_append, T_data]
    rfl
  | pi n l =>
    show 60 :: 63 :: ((T n).data.toList ++ ((if (T l).toList.isEmpty then [] else 32 :: (T l).data.toList) ++ [63, 62])) = tx ([60, 63] ++ (n ++ ((if l = [] then [] else 32 :: l) ++ [63, 62])))
    rw [tx_append, tx_append, tx_append, T_data]
    by_cases hl : l = []
    · subst hl
      rw [T_toList]
      rfl
    · rw [if_neg hl, show (T l).toList.isEmpty = false from ne_T h.x hl, T_data]
      rfl
theorem okL_attr {x : List Nat × List Nat} (h : okL x.1 ∧ okL x.2) : okL (attrL x) := by
  have e : attrL x = [32] ++ (x.1 ++ ([61, 34] ++ (mapN quoN x.2 ++ [34]))) := by unfold attrL; simp
  rw [e]
  exact okL_app (okL_of (by decide)) (okL_app h.1 (okL_app (okL_of (by decide)) (okL_app (map_ok quo_ref h.2) (okL_of (by decide)))))
theorem okL_attrs : ∀ {a : List (List Nat × List Nat)}, (∀ x ∈ a, okL x.1 ∧ okL x.2) → okL (a.flatMap attrL)
  | [], _ => okL_nil
  | x :: a, h => by
    rw [List.flatMap_cons]
    exact okL_app (okL_attr (h x (List.mem_cons_self ..))) (okL_attrs fun y hy => h y (List.mem_cons_of_mem _ hy))
theorem okL_tok {x : XTok} (h : OkAll x) (hok : OkTok x) : okL (tokL x) := by
  cases hok with
  | elem n a => exact okL_app (a := [60]) (okL_of (by decide)) (okL_app h.n (okL_app (okL_attrs h.a) (okL_of (by decide))))
  | fin n => exact okL_app (a := [60, 47]) (okL_of (by decide)) (okL_app h.n (okL_of (by decide)))
  | text l => exact map_ok esc_ref h.x
  | comment l => exact okL_app (a := [60, 33, 45, 45]) (okL_of (by decide)) (okL_app h.x (okL_of (by decide)))
  | pi n l =>
    refine okL_app (a := [60, 63]) (okL_of (by decide)) (okL_app h.n (okL_app ?_ (okL_of (by decide))))
    by_cases hl : l = []
    · simp only [hl, if_pos]; exact okL_nil
    · simp only [if_neg hl]; exact okL_app (a := [32]) (okL_of (by decide)) h.x
theorem doc_all : ∀ {xs : List XTok} {o : List (List Nat)} {r : Bool} {k : Nat}, DocT o r k xs → ∀ x ∈ xs, OkTok x
  | [], _, _, _, _ => fun _ h => by cases h
  | t :: ts, o, r, k, h => by
    have h1 : OkTok t ∧ ∃ o' r' k', DocT o' r' k' ts := by
      cases h with
      | elem m a _ _ _ _ h hr ho' ha hn => exact ⟨h, _, _, _, hn⟩
      | fin m _ _ _ _ h ho' hn => exact ⟨h, _, _, _, hn⟩
      | text l _ _ _ _ h ho' hk hn => exact ⟨h, _, _, _, hn⟩
      | comment l _ _ _ _ h hn => exact ⟨h, _, _, _, hn⟩
      | pi m l _ _ _ _ h hn => exact ⟨h, _, _, _, hn⟩
    obtain ⟨ht, o', r', k', hn⟩ := h1
    intro x hx
    rcases List.mem_cons.1 hx with rfl | hx
    · exact ht
    · exact doc_all hn x hx
theorem write_tx : ∀ {xs : List XTok}, (∀ x ∈ xs, OkAll x) → (∀ x ∈ xs, OkTok x) → writeB (xs.map XTok.b) = tx (writeX xs) ∧ okL (writeX xs)
  | [], _, _ => ⟨rfl, okL_nil⟩
  | x :: xs, h1, h2 => by
    obtain ⟨i1, i2⟩ := write_tx (fun y hy => h1 y (List.mem_cons_of_mem _ hy)) (fun y hy => h2 y (List.mem_cons_of_mem _ hy))
    have hx := h1 x (List.mem_cons_self ..)
    have hk := h2 x (List.mem_cons_self ..)
    refine ⟨?_, ?_⟩
    · show tokB x.b ++ writeB (xs.map XTok.b) = tx (tokL x ++ writeX xs)
      rw [i1, tok_tx hx hk, tx_append]
    · exact okL_app (okL_tok hx hk) i2
/-- Either Write tells an error, or its tokens are a document's, and its text is theirs. -/
theorem write_cases (ts : List BTok) : ((writeR ts).1 = ⟨#[]⟩ ∧ ((writeR ts).2 = 5 ∨ (writeR ts).2 = 6)) ∨
    ∃ xs : List XTok, ts = xs.map XTok.b ∧ (∀ x ∈ xs, OkAll x) ∧ DocT [] false 0 xs ∧ xs.length ≤ 4096 ∧ writeR ts = (T (writeX xs), 0) ∧ okL (writeX xs) ∧ (T (writeX xs)).size ≤ 32768 := by
  cases hd : docB [] false 0 ts
  · left
    have : writeR ts = (⟨#[]⟩, 5) := by unfold writeR; rw [if_pos hd]
    rw [this]
    exact ⟨rfl, .inl rfl⟩
  · cases hp : pastB ts
    · unfold pastB at hp
      simp only [Bool.or_eq_false_iff, decide_eq_false_iff_not, List.any_eq_false, decide_eq_true_eq] at hp
      obtain ⟨p1, p2, p3⟩ := hp
      have hdp : deepGo ((([] : List (List Nat)).length : Nat) : Int) 0 ts ≤ 32 := by
        show deepGo 0 0 ts ≤ 32
        omega
      obtain ⟨xs, rfl, q1, q2⟩ := doc_T ts [] false 0 0 (fun _ h => by cases h) hd hdp (fun t ht => by have := p3 t ht; omega)
      obtain ⟨w1, w2⟩ := write_tx q1 (doc_all q2)
      have hp' : pastB (xs.map XTok.b) = false := by
        unfold pastB
        simp only [Bool.or_eq_false_iff, decide_eq_false_iff_not, List.any_eq_false, decide_eq_true_eq]
        exact ⟨p1, p2, p3⟩
      by_cases hz : 32768 < (writeB (xs.map XTok.b)).length
      · left
        have : writeR (xs.map XTok.b) = (⟨#[]⟩, 6) := by unfold writeR; rw [if_neg (by rw [hd]; decide), if_neg (by rw [hp']; decide), if_pos hz]
        rw [this]
        exact ⟨rfl, .inr rfl⟩
      · right
        refine ⟨xs, rfl, q1, q2, by rw [List.length_map] at p1; omega, ?_, w2, ?_⟩
        · unfold writeR
          rw [if_neg (by rw [hd]; decide), if_neg (by rw [hp']; decide), if_neg hz, w1]
          rfl
        · rw [T_size, ← w1]
          omega
    · left
      have : writeR ts = (⟨#[]⟩, 6) := by unfold writeR; rw [if_neg (by rw [hd]; decide), if_pos hp]
      rw [this]
      exact ⟨rfl, .inr rfl⟩
end Go.Proofs.YtefjfjieoiegnaaGreatDoor
