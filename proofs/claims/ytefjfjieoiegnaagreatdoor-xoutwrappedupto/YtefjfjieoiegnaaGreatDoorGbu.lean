/- Several texts, laid as one. -/
import Derived.Test.YtefjfjieoiegnaaGreatDoorGbt
import Derived.Test.YtefjfjieoiegnaaGreatDoorGbk
import Derived.Test.YtefjfjieoiegnaaGreatDoorXmlWrQ
import Derived.Test.YtefjfjieoiegnaaGreatDoorGbs
/- Trees one behind the other, told plainly: what xout's Write answers of both together. -/
namespace Go.Proofs.YtefjfjieoiegnaaGreatDoor
open Go.RowKit
/-- Where tokens of a document lead to. -/
def docRun : List ByteArray → Bool → Int → List BTok → Option (List ByteArray × Bool × Int)
  | o, r, k, [] => some (o, r, k)
  | o, r, k, t :: ts => match okB t, docStp o r k t with
    | true, some x => docRun x.1 x.2 t.kind ts
    | _, _ => none
theorem docRun_cons (o : List ByteArray) (r : Bool) (k : Int) (t : BTok) (ts : List BTok) : docRun o r k (t :: ts) = match okB t, docStp o r k t with
    | true, some x => docRun x.1 x.2 t.kind ts
    | _, _ => none := rfl
theorem docB_step (o : List ByteArray) (r : Bool) (k : Int) (t : BTok) (ts : List BTok) : docB o r k (t :: ts) = (okB t && (match docStp o r k t with
    | none => false
    | some x => docB x.1 x.2 t.kind ts)) := rfl
theorem docB_app : ∀ (ts us : List BTok) (o : List ByteArray) (r : Bool) (k : Int), docB o r k (ts ++ us) = match docRun o r k ts with
    | none => false
    | some x => docB x.1 x.2.1 x.2.2 us
  | [], us, o, r, k => rfl
  | t :: ts, us, o, r, k => by
    rw [List.cons_append, docB_step, docRun_cons]
    cases okB t with
    | false => rfl
    | true =>
      cases docStp o r k t with
      | none => rfl
      | some x =>
        rw [Bool.true_and]
        exact docB_app ts us x.1 x.2 t.kind
theorem docRun_app : ∀ (ts us : List BTok) (o : List ByteArray) (r : Bool) (k : Int), docRun o r k (ts ++ us) = (docRun o r k ts).bind fun x => docRun x.1 x.2.1 x.2.2 us
  | [], us, o, r, k => rfl
  | t :: ts, us, o, r, k => by
    rw [List.cons_append, docRun_cons, docRun_cons]
    cases okB t with
    | false => rfl
    | true =>
      cases docStp o r k t with
      | none => rfl
      | some x => exact docRun_app ts us x.1 x.2 t.kind
theorem stp_true {o : List ByteArray} {k : Int} {t : BTok} {x : List ByteArray × Bool} (h : docStp o true k t = some x) : x.2 = true := by
  unfold docStp at h
  repeat' split at h
  all_goals (first | cases h; rfl | cases h)
theorem docRun_r : ∀ (ts : List BTok) (o : List ByteArray) (k : Int) (x : List ByteArray × Bool × Int), docRun o true k ts = some x → x.2.1 = true
  | [], o, k, x, h => by cases h; rfl
  | t :: ts, o, k, x, h => by
    rw [docRun_cons] at h
    cases hk : okB t with
    | false => rw [hk] at h; cases h
    | true =>
      rw [hk] at h
      cases hs : docStp o true k t with
      | none => rw [hs] at h; cases h
      | some y =>
        rw [hs] at h
        have h' : docRun y.1 y.2 t.kind ts = some x := h
        rw [stp_true hs] at h'
        exact docRun_r ts y.1 t.kind x h'
/-- How much deeper tokens lead. -/
def dl : List BTok → Int
  | [] => 0
  | t :: ts => (if t.kind = 2 then 1 else if t.kind = 7 then -1 else 0) + dl ts
theorem aroE_ok : okB aroE = true := by kernel_rfl
theorem aroF_ok : okB aroF = true := by kernel_rfl
theorem forB_doc (ts : List BTok) : forB ts = docB [aroS] true 2 (ts ++ [aroF]) := by
  have h : docB [] false 0 (aroE :: (ts ++ [aroF])) = docB [aroS] true 2 (ts ++ [aroF]) := by
    rw [docB_step, aroE_ok, Bool.true_and]
    rfl
  unfold forB writeR
  rw [h]
  cases docB [aroS] true 2 (ts ++ [aroF]) with
  | false => rfl
  | true =>
    rw [if_neg (by decide)]
    split
    · rfl
    · split
      · rfl
      · rfl
theorem bytes_same {a b : ByteArray} (h : (a.toList == b.toList) = true) : a = b := by
  have h1 := eq_of_beq h
  rw [ByteArray.toList_eq, ByteArray.toList_eq] at h1
  cases a
  cases b
  congr 1
  exact Array.toList_inj.1 h1
theorem forB_run {ts : List BTok} (h : forB ts = true) : ∃ k, docRun [aroS] true 2 ts = some ([aroS], true, k) := by
  rw [forB_doc, docB_app] at h
  cases hr : docRun [aroS] true 2 ts with
  | none => rw [hr] at h; cases h
  | some x =>
    obtain ⟨o, r, k⟩ := x
    obtain rfl : r = true := docRun_r ts _ _ _ hr
    rw [hr] at h
    have h' : docB o true k [aroF] = true := h
    rw [docB_step, aroF_ok, Bool.true_and] at h'
    refine ⟨k, ?_⟩
    unfold docStp at h'
    rw [if_neg (by decide), if_pos (by rfl)] at h'
    cases hg : o.getLast? with
    | none => rw [hg] at h'; cases h'
    | some y =>
      rw [hg] at h'
      dsimp only at h'
      by_cases hy : (y.toList == aroF.name.toList) = true
      · rw [if_pos hy] at h'
        have h2 : (true && o.dropLast.isEmpty) = true := h'
        rw [Bool.true_and, List.isEmpty_iff] at h2
        have h3 : o = [aroS] := by
          obtain ⟨l, rfl⟩ := List.getLast?_eq_some_iff.1 hg
          rw [List.dropLast_concat] at h2
          rw [h2, bytes_same hy]
          rfl
        rw [h3]
      · rw [if_neg hy] at h'
        cases h'
/-- The last of a tree's tokens begins no element. -/
theorem last_no {ts : List BTok} (h : forB ts = true) {t : BTok} (ht : ts.getLast? = some t) : t.kind ≠ 2 := by
  intro hk
  obtain ⟨k, hr⟩ := forB_run h
  obtain ⟨l, rfl⟩ := List.getLast?_eq_some_iff.1 ht
  rw [docRun_app] at hr
  cases hl : docRun [aroS] true 2 l with
  | none => rw [hl] at hr; cases hr
  | some x =>
    obtain ⟨o, r, k2⟩ := x
    obtain rfl : r = true := docRun_r l _ _ _ hl
    rw [hl] at hr
    have hr' : docRun o true k2 [t] = some ([aroS], true, k) := hr
    rw [docRun_cons] at hr'
    cases ho : okB t with
    | false => rw [ho] at hr'; cases hr'
    | true =>
      rw [ho] at hr'
      unfold docStp at hr'
      rw [if_pos hk] at hr'
      cases o with
      | nil => cases hr'
      | cons a o =>
        have h3 : some (a :: o ++ [t.name], true, t.kind) = some ([aroS], true, k) := hr'
        injection h3 with h4
        have h5 := congrArg (fun x => x.1.length) h4
        simp at h5
theorem right_forB {ts : List BTok} (h : rightO ts = 0) : forB ts = true := by
  unfold rightO at h
  split at h
  · assumption
  · cases h
/-- What is written of a token among its neighbours. -/
def spotG (m : Int) (t a c : BTok) : List UInt8 := if m = 1 then htmlO t a else if m = 2 then plainO t else xmlO t a c
theorem spotO_G (m : Int) (ts : List BTok) (i : Nat) : spotO m ts i = spotG m (tkAt ts i) (ahT ts i) (tkAt ts (i + 1)) := by
  unfold spotO spotG
  split
  · rfl
  · split
    · rfl
    · rfl
theorem spotG_c (m : Int) {t : BTok} (a c c' : BTok) (h : t.kind ≠ 2) : spotG m t a c = spotG m t a c' := by
  unfold spotG xmlO
  rw [if_neg (show ¬ (t.kind = 2 ∧ c.kind = 7) from fun e => h e.1), if_neg (show ¬ (t.kind = 2 ∧ c'.kind = 7) from fun e => h e.1)]
theorem rawS_no {a : BTok} (h : a.kind ≠ 2) : rawS a = false := by
  unfold rawS
  rw [decide_eq_false h]
  rfl
theorem spotG_a (m : Int) (t : BTok) {a a' : BTok} (c : BTok) (h : a.kind ≠ 2) (h' : a'.kind ≠ 2) : spotG m t a c = spotG m t a' c := by
  unfold spotG xmlO htmlO
  rw [rawS_no h, rawS_no h', if_neg (show ¬ (t.kind = 7 ∧ a.kind = 2) from fun e => h e.2), if_neg (show ¬ (t.kind = 7 ∧ a'.kind = 2) from fun e => h' e.2)]
theorem tk_left {xs ys : List BTok} {i : Nat} (h : i < xs.length) : tkAt (xs ++ ys) i = tkAt xs i := by
  unfold tkAt
  rw [List.getElem?_append_left h]
theorem tk_right (xs ys : List BTok) (i : Nat) : tkAt (xs ++ ys) (xs.length + i) = tkAt ys i := by
  unfold tkAt
  rw [List.getElem?_append_right (by omega)]
  congr 2
  omega
theorem ah_left {xs ys : List BTok} {i : Nat} (h : i < xs.length) : ahT (xs ++ ys) i = ahT xs i := by
  unfold ahT
  split
  · rfl
  · exact tk_left (by omega)
theorem tk_last {xs : List BTok} {i : Nat} (h : i + 1 = xs.length) : xs.getLast? = some (tkAt xs i) := by
  rw [List.getLast?_eq_getElem?]
  have hi : i < xs.length := by omega
  unfold tkAt
  rw [show xs.length - 1 = i by omega, List.getElem?_eq_getElem hi]
  rfl
/-- What lies ahead of the first of the second: nothing, or no beginning of an element. -/
theorem ah_right {xs ys : List BTok} (hl : ∀ t, xs.getLast? = some t → t.kind ≠ 2) (i : Nat) : ahT (xs ++ ys) (xs.length + i) = ahT ys i ∨ ((ahT (xs ++ ys) (xs.length + i)).kind ≠ 2 ∧ (ahT ys i).kind ≠ 2) := by
  cases i with
  | succ i =>
    left
    unfold ahT
    rw [if_neg (by omega), if_neg (by omega)]
    exact tk_right xs ys i
  | zero =>
    by_cases h0 : xs.length = 0
    · left
      unfold ahT
      rw [if_pos (by omega), if_pos rfl]
    · right
      unfold ahT
      rw [if_neg (by omega), if_pos rfl]
      refine ⟨?_, by decide⟩
      rw [tk_left (by omega)]
      exact hl _ (tk_last (by omega))
theorem spot_left (m : Int) {xs ys : List BTok} (hl : ∀ t, xs.getLast? = some t → t.kind ≠ 2) {i : Nat} (h : i < xs.length) : spotO m (xs ++ ys) i = spotO m xs i := by
  rw [spotO_G, spotO_G, tk_left h, ah_left h]
  by_cases hi : i + 1 < xs.length
  · rw [tk_left hi]
  · exact spotG_c m _ _ _ (hl _ (tk_last (by omega)))
theorem spot_right (m : Int) {xs ys : List BTok} (hl : ∀ t, xs.getLast? = some t → t.kind ≠ 2) (i : Nat) : spotO m (xs ++ ys) (xs.length + i) = spotO m ys i := by
  rw [spotO_G, spotO_G, tk_right, show xs.length + i + 1 = xs.length + (i + 1) by omega, tk_right]
  rcases ah_right (ys := ys) hl i with h | ⟨h, h'⟩
  · rw [h]
  · exact spotG_a m _ _ h h'
theorem flat_congr {f g : Nat → List UInt8} : ∀ (l : List Nat), (∀ x ∈ l, f x = g x) → l.flatMap f = l.flatMap g
  | [], _ => rfl
  | x :: l, h => by
    rw [List.flatMap_cons, List.flatMap_cons, h x (List.mem_cons_self ..), flat_congr l (fun y hy => h y (List.mem_cons_of_mem _ hy))]
theorem join_text (m : Int) {xs ys : List BTok} (hl : ∀ t, xs.getLast? = some t → t.kind ≠ 2) : textO m (xs ++ ys) = textO m xs ++ textO m ys := by
  unfold textO
  rw [List.length_append, List.range_add, List.flatMap_append, List.flatMap_map]
  rw [flat_congr (List.range xs.length) (fun x hx => spot_left m hl (List.mem_range.1 hx)), flat_congr (List.range ys.length) (fun x _ => spot_right m hl x)]
theorem write_ok {m : Int} {ts : List BTok} {x : ByteArray} (h : writeO m ts = (x, 0)) : ¬ (m < 0 ∨ 2 < m) ∧ rightO ts = 0 ∧ (m = 1 → htmlOk ts = true) ∧ (textO m ts).length ≤ 32768 ∧ x = ⟨(textO m ts).toArray⟩ := by
  unfold writeO at h
  split at h
  · cases h
  · rename_i h1
    split at h
    · rename_i h2
      injection h with _ h3
      exact absurd h3 h2
    · rename_i h2
      split at h
      · cases h
      · rename_i h3
        split at h
        · cases h
        · rename_i h4
          injection h with h5
          refine ⟨h1, by simpa using h2, fun e => ?_, by omega, h5.symm⟩
          cases hh : htmlOk ts with
          | true => rfl
          | false => exact absurd ⟨e, hh⟩ h3
end Go.Proofs.YtefjfjieoiegnaaGreatDoor
/- Tokens in bytes are the same in characters, where they are a document's. -/
namespace Go.Proofs.YtefjfjieoiegnaaGreatDoor
def XTok.b (t : XTok) : BTok := ⟨(t.kind : Nat), T t.name, t.attrs.map fun x => (T x.1, T x.2), T t.text⟩
structure OkAll (t : XTok) : Prop where
  n : okL t.name
  a : ∀ x ∈ t.attrs, okL x.1 ∧ okL x.2
  x : okL t.text
theorem okL_nil : okL [] := fun _ h => by cases h
theorem T_nil : T [] = ⟨#[]⟩ := rfl
theorem empty_T {s : ByteArray} (h : s.toList.isEmpty = true) : s = T [] := by
  have h1 : s.data.toList = [] := by rw [← toList_data]; simpa using h
  rw [T_nil]
  cases s with | mk d => cases d with | mk l => simp at h1; subst h1; rfl
theorem of_data {s : ByteArray} {l : List Nat} (h : s.data.toList = tx l) : s = T l := by
  rw [← mk_data s, h]
  rfl
theorem qB_T {s : ByteArray} (h : qB s = true) : ∃ l, okL l ∧ s = T l ∧ isQ l = true := by
  have key : ∃ l, okL l ∧ s = T l := by
    by_cases h58 : (58 : UInt8) ∈ s.data.toList
    · obtain ⟨p, r, e, hp⟩ := List.eq_append_cons_of_mem h58
      have hc := cut_first p r 58 hp
      unfold qB splitB splitP splitN at h
      rw [e, hc] at h
      simp only [if_pos, Bool.not_true, Bool.false_or, Bool.and_eq_true] at h
      obtain ⟨a, ha, ea⟩ := nameB_txt h.1
      obtain ⟨b, hb, eb⟩ := nameB_txt h.2
      have ea' : p = tx a := by have := congrArg (fun x : ByteArray => x.data.toList) ea; rw [T_data] at this; simpa using this
      have eb' : r = tx b := by have := congrArg (fun x : ByteArray => x.data.toList) eb; rw [T_data] at this; simpa using this
      refine ⟨a ++ ([58] ++ b), okL_app ha (okL_app (okL_of (by decide)) hb), of_data ?_⟩
      rw [e, ea', eb', tx_append, tx_append]
      rfl
    · have hc := cut_none s.data.toList 58 h58
      unfold qB splitB splitP splitN at h
      rw [hc] at h
      simp only [Bool.not_false, Bool.true_or, Bool.true_and, if_neg, Bool.false_eq_true, not_false_eq_true, mk_data] at h
      exact nameB_txt h
  obtain ⟨l, hl, rfl⟩ := key
  exact ⟨l, hl, rfl, by rw [← splitB_T hl]; exact h⟩
theorem textB_T {s : ByteArray} (h : textB s = true) : ∃ l, okL l ∧ s = T l := txt_T ((textB_txt s).1 h)
theorem attrs_T : ∀ (l : List (ByteArray × ByteArray)) (seen : List (List Nat)), (∀ x ∈ seen, okL x) → attrsB (seen.map tx) l = true →
    ∃ a : List (List Nat × List Nat), l = a.map (fun x => (T x.1, T x.2)) ∧ (∀ x ∈ a, okL x.1 ∧ okL x.2) ∧ (∀ x ∈ a, isQ x.1 = true) ∧ (a.map (·.1)).Nodup ∧ ∀ x ∈ a, x.1 ∉ seen
  | [], _, _, _ => ⟨[], rfl, (fun _ h => by cases h), (fun _ h => by cases h), List.nodup_nil, (fun _ h => by cases h)⟩
  | (k, v) :: l, seen, hs, h => by
    simp only [attrsB, Bool.and_eq_true, Bool.not_eq_true'] at h
    obtain ⟨h1, h2, h3, h4⟩ := h
    obtain ⟨n, hn, rfl, hq⟩ := qB_T h2
    obtain ⟨x, hx, rfl⟩ := textB_T h3
    rw [T_data] at h1 h4
    have hns : n ∉ seen := fun hm => by
      have : (seen.map tx).contains (tx n) = true := by simpa using ⟨n, hm, rfl⟩
      rw [h1] at this
      cases this
    obtain ⟨a, rfl, e1, e2, e3, e4⟩ := attrs_T l (seen ++ [n]) (fun y hy => by
      rcases List.mem_append.1 hy with hy | hy
      · exact hs y hy
      · rw [List.mem_singleton.1 hy]; exact hn) (by rw [List.map_append]; exact h4)
    refine ⟨(n, x) :: a, rfl, fun y hy => ?_, fun y hy => ?_, ?_, fun y hy => ?_⟩
    · rcases List.mem_cons.1 hy with rfl | hy
      · exact ⟨hn, hx⟩
      · exact e1 y hy
    · rcases List.mem_cons.1 hy with rfl | hy
      · exact hq
      · exact e2 y hy
    · rw [List.map_cons, List.nodup_cons]
      refine ⟨fun hm => ?_, e3⟩
      obtain ⟨z, hz, hzn⟩ := List.mem_map.1 hm
      exact e4 z hz (by rw [hzn]; simp)
    · rcases List.mem_cons.1 hy with rfl | hy
      · exact hns
      · exact fun hm => e4 y hy (List.mem_append_left _ hm)
theorem isEmpty_of {α : Type} {l : List α} (h : l.isEmpty = true) : l = [] := by simpa using h
theorem contains_cut {sign : List Nat} (hs : ∀ c ∈ sign, c < 128) (hne : sign ≠ []) {l : List Nat} (hl : okL l) (h : Lib.contains (tx l) (sign.map UInt8.ofNat) = false) : cutL sign l = none := by
  cases hc : cutL sign l with
  | none => rfl
  | some x =>
    have := ((index_tx sign hs hne l hl).1 x.1 x.2 hc).1
    unfold Lib.contains at h
    rw [this] at h
    simp at h
theorem suffix_last {l : List Nat} (hl : okL l) (h : Lib.hasSuffix (tx l) [45] = false) : l.getLast? ≠ some 45 := by
  intro hx
  obtain ⟨p, rfl⟩ : ∃ p, l = p ++ [45] := List.getLast?_eq_some_iff.1 hx
  have : Lib.hasSuffix (tx (p ++ [45])) [45] = true := by
    unfold Lib.hasSuffix
    rw [tx_append]
    exact List.isSuffixOf_iff_suffix.2 ⟨tx p, rfl⟩
  rw [h] at this
  cases this
theorem trim_head {l : List Nat} (hl : okL l) (h : ((Lib.trimLeftF blankN (T l)).toList == (T l).toList) = true) : ∀ c, l.head? = some c → blankC c = false := by
  intro c hc
  rw [trim_T hl] at h
  have h1 : tx (l.dropWhile blankC) = tx l := by
    rw [← T_toList, ← T_toList l]
    exact eq_of_beq h
  have h2 := tx_inj (fun x hx => hl x ((List.dropWhile_sublist _).subset hx)) hl h1
  cases l with
  | nil => cases hc
  | cons d l =>
    obtain rfl : d = c := by simpa using hc
    cases hb : blankC d
    · rfl
    · exfalso
      rw [List.dropWhile_cons, if_pos hb] at h2
      have := congrArg List.length h2
      have h3 : (l.dropWhile blankC).length ≤ l.length := (List.dropWhile_sublist _).length_le
      rw [List.length_cons] at this
      omega
/-- A token that may stand somewhere is one of characters. -/
theorem ok_T {t : BTok} (h : okB t = true) : ∃ x : XTok, t = x.b ∧ OkAll x ∧ OkTok x := by
  obtain ⟨k, n, a, x⟩ := t
  unfold okB at h
  simp only at h
  split at h
  · rename_i hk
    subst hk
    simp only [Bool.and_eq_true] at h
    obtain ⟨h1, h2, h3⟩ := h
    obtain ⟨m, hm, rfl, hq⟩ := qB_T h2
    obtain ⟨b, rfl, e1, e2, e3, _⟩ := attrs_T a [] (fun _ h => by cases h) h3
    exact ⟨⟨2, m, b, []⟩, by rw [empty_T h1]; rfl, ⟨hm, e1, okL_nil⟩, .elem m b hq e2 e3⟩
  · split at h
    · rename_i hk
      subst hk
      simp only [Bool.and_eq_true] at h
      obtain ⟨h1, h2, h3⟩ := h
      obtain ⟨m, hm, rfl, hq⟩ := qB_T h3
      exact ⟨⟨7, m, [], []⟩, by rw [empty_T h1, isEmpty_of h2]; rfl, ⟨hm, (fun _ h => by cases h), okL_nil⟩, .fin m hq⟩
    · split at h
      · rename_i hk
        subst hk
        simp only [Bool.and_eq_true, Bool.not_eq_true'] at h
        obtain ⟨h1, h2, h3, h4⟩ := h
        obtain ⟨l, hl, rfl⟩ := textB_T h4
        refine ⟨⟨4, [], [], l⟩, by rw [empty_T h1, isEmpty_of h2]; rfl, ⟨okL_nil, (fun _ h => by cases h), hl⟩, .text l ?_⟩
        intro h0
        rw [h0, T_toList] at h3
        cases h3
      · split at h
        · rename_i hk
          subst hk
          simp only [Bool.and_eq_true] at h
          obtain ⟨h1, h2, h3⟩ := h
          unfold comB at h3
          simp only [Bool.and_eq_true, Bool.not_eq_true'] at h3
          obtain ⟨h4, h5, h6⟩ := h3
          obtain ⟨l, hl, rfl⟩ := textB_T h4
          rw [T_data] at h5 h6
          exact ⟨⟨5, [], [], l⟩, by rw [empty_T h1, isEmpty_of h2]; rfl, ⟨okL_nil, (fun _ h => by cases h), hl⟩, .comment l (contains_cut (sign := [45, 45]) (by decide) (by decide) hl h5) (suffix_last hl h6)⟩
        · split at h
          · rename_i hk
            subst hk
            simp only [Bool.and_eq_true] at h
            obtain ⟨h1, h2, h3⟩ := h
            unfold insB at h3
            simp only [Bool.and_eq_true, Bool.not_eq_true'] at h3
            obtain ⟨h4, h5, h6⟩ := h3
            obtain ⟨l, hl, rfl⟩ := textB_T h4
            have h7 : nameB n = true := by unfold tarB at h2; simp only [Bool.and_eq_true] at h2; exact h2.1
            obtain ⟨m, hm, rfl⟩ := nameB_txt h7
            rw [tarB_T hm] at h2
            rw [T_data] at h5
            exact ⟨⟨6, m, [], l⟩, by rw [isEmpty_of h1]; rfl, ⟨hm, (fun _ h => by cases h), hl⟩, .pi m l h2 (contains_cut (sign := [63, 62]) (by decide) (by decide) hl h5) (trim_head hl h6)⟩
          · cases h
theorem T_same {a b : List Nat} (ha : okL a) (hb : okL b) (h : ((T a).toList == (T b).toList) = true) : a = b := by
  have := eq_of_beq h
  rw [T_toList, T_toList] at this
  exact tx_inj ha hb this
/-- What is written in bytes is what is written in characters. -/
theorem attr_tx {x : List Nat × List Nat} (h : okL x.2) : attrB (T x.1, T x.2) = tx (attrL x) := by
  have e : attrL x = [32] ++ (x.1 ++ ([61, 34] ++ (mapN quoN x.2 ++ [34]))) := by unfold attrL; simp
  rw [e, tx_append, tx_append, tx_append, tx_append, ← map_tx quo_both x.2 h]
  unfold attrB
  rw [T_data, T_data]
  rfl
theorem attrs_tx : ∀ {a : List (List Nat × List Nat)}, (∀ x ∈ a, okL x.1 ∧ okL x.2) → (a.map fun x => (T x.1, T x.2)).flatMap attrB = tx (a.flatMap attrL)
  | [], _ => rfl
  | x :: a, h => by
    rw [List.map_cons, List.flatMap_cons, List.flatMap_cons, tx_append, attrs_tx (fun y hy => h y (List.mem_cons_of_mem _ hy)), attr_tx (h x (List.mem_cons_self ..)).2]
theorem tok_tx {x : XTok} (h : OkAll x) (hok : OkTok x) : tokB x.b = tx (tokL x) := by
  cases hok with
  | elem n a =>
    show 60 :: ((T n).data.toList ++ ((a.map fun x => (T x.1, T x.2)).flatMap attrB ++ [62])) = tx ([60] ++ (n ++ (a.flatMap attrL ++ [62])))
    rw [tx_append, tx_append, tx_append, attrs_tx h.a, T_data]
    rfl
  | fin n =>
    show 60 :: 47 :: ((T n).data.toList ++ [62]) = tx ([60, 47] ++ (n ++ [62]))
    rw [tx_append, tx_append, T_data]
    rfl
  | text l =>
    show mapO escO (T l).data.toList = tx (mapN escN l)
    rw [T_data, map_tx esc_both l h.x]
  | comment l =>
    show 60 :: 33 :: 45 :: 45 :: ((T l).data.toList ++ [45, 45, 62]) = tx ([60, 33, 45, 45] ++ (l ++ [45, 45, 62]))
    rw [tx_append, tx_append, T_data]
    rfl
  | pi n l =>
    show 60 :: 63 :: ((T n).data.toList ++ ((if (T l).toList.isEmpty then [] else 32 :: (T l).data.toList) ++ [63, 62])) = tx ([60, 63] ++ (n ++ ((if l = [] then [] else 32 :: l) ++ [63, 62])))
    rw [tx_append, tx_append, tx_append, T_data]
    by_cases hl : l = []
    · subst hl
      rw [T_toList]
      rfl
    · rw [if_neg hl, show (T l).toList.isEmpty = false from ne_T h.x hl, T_data]
      rfl
theorem okL_attr {x : List Nat × List Nat} (h : okL x.1 ∧ okL x.2) : okL (attrL x) := by
  have e : attrL x = [32] ++ (x.1 ++ ([61, 34] ++ (mapN quoN x.2 ++ [34]))) := by unfold attrL; simp
  rw [e]
  exact okL_app (okL_of (by decide)) (okL_app h.1 (okL_app (okL_of (by decide)) (okL_app (map_ok quo_ref h.2) (okL_of (by decide)))))
theorem okL_attrs : ∀ {a : List (List Nat × List Nat)}, (∀ x ∈ a, okL x.1 ∧ okL x.2) → okL (a.flatMap attrL)
  | [], _ => okL_nil
  | x :: a, h => by
    rw [List.flatMap_cons]
    exact okL_app (okL_attr (h x (List.mem_cons_self ..))) (okL_attrs fun y hy => h y (List.mem_cons_of_mem _ hy))
theorem okL_tok {x : XTok} (h : OkAll x) (hok : OkTok x) : okL (tokL x) := by
  cases hok with
  | elem n a => exact okL_app (a := [60]) (okL_of (by decide)) (okL_app h.n (okL_app (okL_attrs h.a) (okL_of (by decide))))
  | fin n => exact okL_app (a := [60, 47]) (okL_of (by decide)) (okL_app h.n (okL_of (by decide)))
  | text l => exact map_ok esc_ref h.x
  | comment l => exact okL_app (a := [60, 33, 45, 45]) (okL_of (by decide)) (okL_app h.x (okL_of (by decide)))
  | pi n l =>
    refine okL_app (a := [60, 63]) (okL_of (by decide)) (okL_app h.n (okL_app ?_ (okL_of (by decide))))
    by_cases hl : l = []
    · simp only [hl, if_pos]; exact okL_nil
    · simp only [if_neg hl]; exact okL_app (a := [32]) (okL_of (by decide)) h.x
end Go.Proofs.YtefjfjieoiegnaaGreatDoor
