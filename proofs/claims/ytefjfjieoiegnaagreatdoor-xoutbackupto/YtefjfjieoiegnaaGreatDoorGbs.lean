/- Several texts, laid as one. -/
import Derived.Test.YtefjfjieoiegnaaGreatDoorGbr
import Derived.Test.YtefjfjieoiegnaaGreatDoorGbi
import Derived.Test.YtefjfjieoiegnaaGreatDoorXmlWrQ
import Derived.Test.YtefjfjieoiegnaaGreatDoorGbq
/- Trees one behind the other, told plainly: what xout's Write answers of both together. -/
namespace Go.Proofs.YtefjfjieoiegnaaGreatDoor
open Go.RowKit
/-- What is written of a token among its neighbours. -/
def spotG (m : Int) (t a c : BTok) : List UInt8 := if m = 1 then htmlO t a else if m = 2 then plainO t else xmlO t a c
theorem spotO_G (m : Int) (ts : List BTok) (i : Nat) : spotO m ts i = spotG m (tkAt ts i) (ahT ts i) (tkAt ts (i + 1)) := by
  unfold spotO spotG
  split
  · rfl
  · split
    · rfl
    · rfl
theorem flat_congr {f g : Nat → List UInt8} : ∀ (l : List Nat), (∀ x ∈ l, f x = g x) → l.flatMap f = l.flatMap g
  | [], _ => rfl
  | x :: l, h => by
    rw [List.flatMap_cons, List.flatMap_cons, h x (List.mem_cons_self ..), flat_congr l (fun y hy => h y (List.mem_cons_of_mem _ hy))]
theorem write_ok {m : Int} {ts : List BTok} {x : ByteArray} (h : writeO m ts = (x, 0)) : ¬ (m < 0 ∨ 2 < m) ∧ rightO ts = 0 ∧ (m = 1 → htmlOk ts = true) ∧ (textO m ts).length ≤ 32768 ∧ x = ⟨(textO m ts).toArray⟩ := by
  unfold writeO at h
  split at h
  · cases h
  · rename_i h1
    split at h
    · rename_i h2
      injection h with _ h3
      exact absurd h3 h2
    · rename_i h2
      split at h
      · cases h
      · rename_i h3
        split at h
        · cases h
        · rename_i h4
          injection h with h5
          refine ⟨h1, by simpa using h2, fun e => ?_, by omega, h5.symm⟩
          cases hh : htmlOk ts with
          | true => rfl
          | false => exact absurd ⟨e, hh⟩ h3
end Go.Proofs.YtefjfjieoiegnaaGreatDoor
/- Tokens in bytes are the same in characters, where they are a document's. -/
namespace Go.Proofs.YtefjfjieoiegnaaGreatDoor
def XTok.b (t : XTok) : BTok := ⟨(t.kind : Nat), T t.name, t.attrs.map fun x => (T x.1, T x.2), T t.text⟩
structure OkAll (t : XTok) : Prop where
  n : okL t.name
  a : ∀ x ∈ t.attrs, okL x.1 ∧ okL x.2
  x : okL t.text
theorem okL_nil : okL [] := fun _ h => by cases h
theorem T_nil : T [] = ⟨#[]⟩ := rfl
theorem empty_T {s : ByteArray} (h : s.toList.isEmpty = true) : s = T [] := by
  have h1 : s.data.toList = [] := by rw [← toList_data]; simpa using h
  rw [T_nil]
  cases s with | mk d => cases d with | mk l => simp at h1; subst h1; rfl
theorem of_data {s : ByteArray} {l : List Nat} (h : s.data.toList = tx l) : s = T l := by
  rw [← mk_data s, h]
  rfl
theorem qB_T {s : ByteArray} (h : qB s = true) : ∃ l, okL l ∧ s = T l ∧ isQ l = true := by
  have key : ∃ l, okL l ∧ s = T l := by
    by_cases h58 : (58 : UInt8) ∈ s.data.toList
    · obtain ⟨p, r, e, hp⟩ := List.eq_append_cons_of_mem h58
      have hc := cut_first p r 58 hp
      unfold qB splitB splitP splitN at h
      rw [e, hc] at h
      simp only [if_pos, Bool.not_true, Bool.false_or, Bool.and_eq_true] at h
      obtain ⟨a, ha, ea⟩ := nameB_txt h.1
      obtain ⟨b, hb, eb⟩ := nameB_txt h.2
      have ea' : p = tx a := by have := congrArg (fun x : ByteArray => x.data.toList) ea; rw [T_data] at this; simpa using this
      have eb' : r = tx b := by have := congrArg (fun x : ByteArray => x.data.toList) eb; rw [T_data] at this; simpa using this
      refine ⟨a ++ ([58] ++ b), okL_app ha (okL_app (okL_of (by decide)) hb), of_data ?_⟩
      rw [e, ea', eb', tx_append, tx_append]
      rfl
    · have hc := cut_none s.data.toList 58 h58
      unfold qB splitB splitP splitN at h
      rw [hc] at h
      simp only [Bool.not_false, Bool.true_or, Bool.true_and, if_neg, Bool.false_eq_true, not_false_eq_true, mk_data] at h
      exact nameB_txt h
  obtain ⟨l, hl, rfl⟩ := key
  exact ⟨l, hl, rfl, by rw [← splitB_T hl]; exact h⟩
theorem textB_T {s : ByteArray} (h : textB s = true) : ∃ l, okL l ∧ s = T l := txt_T ((textB_txt s).1 h)
theorem attrs_T : ∀ (l : List (ByteArray × ByteArray)) (seen : List (List Nat)), (∀ x ∈ seen, okL x) → attrsB (seen.map tx) l = true →
    ∃ a : List (List Nat × List Nat), l = a.map (fun x => (T x.1, T x.2)) ∧ (∀ x ∈ a, okL x.1 ∧ okL x.2) ∧ (∀ x ∈ a, isQ x.1 = true) ∧ (a.map (·.1)).Nodup ∧ ∀ x ∈ a, x.1 ∉ seen
  | [], _, _, _ => ⟨[], rfl, (fun _ h => by cases h), (fun _ h => by cases h), List.nodup_nil, (fun _ h => by cases h)⟩
  | (k, v) :: l, seen, hs, h => by
    simp only [attrsB, Bool.and_eq_true, Bool.not_eq_true'] at h
    obtain ⟨h1, h2, h3, h4⟩ := h
    obtain ⟨n, hn, rfl, hq⟩ := qB_T h2
    obtain ⟨x, hx, rfl⟩ := textB_T h3
    rw [T_data] at h1 h4
    have hns : n ∉ seen := fun hm => by
      have : (seen.map tx).contains (tx n) = true := by simpa using ⟨n, hm, rfl⟩
      rw [h1] at this
      cases this
    obtain ⟨a, rfl, e1, e2, e3, e4⟩ := attrs_T l (seen ++ [n]) (fun y hy => by
      rcases List.mem_append.1 hy with hy | hy
      · exact hs y hy
      · rw [List.mem_singleton.1 hy]; exact hn) (by rw [List.map_append]; exact h4)
    refine ⟨(n, x) :: a, rfl, fun y hy => ?_, fun y hy => ?_, ?_, fun y hy => ?_⟩
    · rcases List.mem_cons.1 hy with rfl | hy
      · exact ⟨hn, hx⟩
      · exact e1 y hy
    · rcases List.mem_cons.1 hy with rfl | hy
      · exact hq
      · exact e2 y hy
    · rw [List.map_cons, List.nodup_cons]
      refine ⟨fun hm => ?_, e3⟩
      obtain ⟨z, hz, hzn⟩ := List.mem_map.1 hm
      exact e4 z hz (by rw [hzn]; simp)
    · rcases List.mem_cons.1 hy with rfl | hy
      · exact hns
      · exact fun hm => e4 y hy (List.mem_append_left _ hm)
theorem isEmpty_of {α : Type} {l : List α} (h : l.isEmpty = true) : l = [] := by simpa using h
theorem contains_cut {sign : List Nat} (hs : ∀ c ∈ sign, c < 128) (hne : sign ≠ []) {l : List Nat} (hl : okL l) (h : Lib.contains (tx l) (sign.map UInt8.ofNat) = false) : cutL sign l = none := by
  cases hc : cutL sign l with
  | none => rfl
  | some x =>
    have := ((index_tx sign hs hne l hl).1 x.1 x.2 hc).1
    unfold Lib.contains at h
    rw [this] at h
    simp at h
theorem suffix_last {l : List Nat} (hl : okL l) (h : Lib.hasSuffix (tx l) [45] = false) : l.getLast? ≠ some 45 := by
  intro hx
  obtain ⟨p, rfl⟩ : ∃ p, l = p ++ [45] := List.getLast?_eq_some_iff.1 hx
  have : Lib.hasSuffix (tx (p ++ [45])) [45] = true := by
    unfold Lib.hasSuffix
    rw [tx_append]
    exact List.isSuffixOf_iff_suffix.2 ⟨tx p, rfl⟩
  rw [h] at this
  cases this
theorem trim_head {l : List Nat} (hl : okL l) (h : ((Lib.trimLeftF blankN (T l)).toList == (T l).toList) = true) : ∀ c, l.head? = some c → blankC c = false := by
  intro c hc
  rw [trim_T hl] at h
  have h1 : tx (l.dropWhile blankC) = tx l := by
    rw [← T_toList, ← T_toList l]
    exact eq_of_beq h
  have h2 := tx_inj (fun x hx => hl x ((List.dropWhile_sublist _).subset hx)) hl h1
  cases l with
  | nil => cases hc
  | cons d l =>
    obtain rfl : d = c := by simpa using hc
    cases hb : blankC d
    · rfl
    · exfalso
      rw [List.dropWhile_cons, if_pos hb] at h2
      have := congrArg List.length h2
      have h3 : (l.dropWhile blankC).length ≤ l.length := (List.dropWhile_sublist _).length_le
      rw [List.length_cons] at this
      omega
/-- A token that may stand somewhere is one of characters. -/
theorem ok_T {t : BTok} (h : okB t = true) : ∃ x : XTok, t = x.b ∧ OkAll x ∧ OkTok x := by
  obtain ⟨k, n, a, x⟩ := t
  unfold okB at h
  simp only at h
  split at h
  · rename_i hk
    subst hk
    simp only [Bool.and_eq_true] at h
    obtain ⟨h1, h2, h3⟩ := h
    obtain ⟨m, hm, rfl, hq⟩ := qB_T h2
    obtain ⟨b, rfl, e1, e2, e3, _⟩ := attrs_T a [] (fun _ h => by cases h) h3
    exact ⟨⟨2, m, b, []⟩, by rw [empty_T h1]; rfl, ⟨hm, e1, okL_nil⟩, .elem m b hq e2 e3⟩
  · split at h
    · rename_i hk
      subst hk
      simp only [Bool.and_eq_true] at h
      obtain ⟨h1, h2, h3⟩ := h
      obtain ⟨m, hm, rfl, hq⟩ := qB_T h3
      exact ⟨⟨7, m, [], []⟩, by rw [empty_T h1, isEmpty_of h2]; rfl, ⟨hm, (fun _ h => by cases h), okL_nil⟩, .fin m hq⟩
    · split at h
      · rename_i hk
        subst hk
        simp only [Bool.and_eq_true, Bool.not_eq_true'] at h
        obtain ⟨h1, h2, h3, h4⟩ := h
        obtain ⟨l, hl, rfl⟩ := textB_T h4
        refine ⟨⟨4, [], [], l⟩, by rw [empty_T h1, isEmpty_of h2]; rfl, ⟨okL_nil, (fun _ h => by cases h), hl⟩, .text l ?_⟩
        intro h0
        rw [h0, T_toList] at h3
        cases h3
      · split at h
        · rename_i hk
          subst hk
          simp only [Bool.and_eq_true] at h
          obtain ⟨h1, h2, h3⟩ := h
          unfold comB at h3
          simp only [Bool.and_eq_true, Bool.not_eq_true'] at h3
          obtain ⟨h4, h5, h6⟩ := h3
          obtain ⟨l, hl, rfl⟩ := textB_T h4
          rw [T_data] at h5 h6
          exact ⟨⟨5, [], [], l⟩, by rw [empty_T h1, isEmpty_of h2]; rfl, ⟨okL_nil, (fun _ h => by cases h), hl⟩, .comment l (contains_cut (sign := [45, 45]) (by decide) (by decide) hl h5) (suffix_last hl h6)⟩
        · split at h
          · rename_i hk
            subst hk
            simp only [Bool.and_eq_true] at h
            obtain ⟨h1, h2, h3⟩ := h
            unfold insB at h3
            simp only [Bool.and_eq_true, Bool.not_eq_true'] at h3
            obtain ⟨h4, h5, h6⟩ := h3
            obtain ⟨l, hl, rfl⟩ := textB_T h4
            have h7 : nameB n = true := by unfold tarB at h2; simp only [Bool.and_eq_true] at h2; exact h2.1
            obtain ⟨m, hm, rfl⟩ := nameB_txt h7
            rw [tarB_T hm] at h2
            rw [T_data] at h5
            exact ⟨⟨6, m, [], l⟩, by rw [isEmpty_of h1]; rfl, ⟨hm, (fun _ h => by cases h), hl⟩, .pi m l h2 (contains_cut (sign := [63, 62]) (by decide) (by decide) hl h5) (trim_head hl h6)⟩
          · cases h
theorem deep_ge : ∀ (ts : List BTok) (d m : Int), m ≤ deepGo d m ts
  | [], _, _ => Int.le_refl _
  | t :: ts, d, m => by
    unfold deepGo
    split
    · have := deep_ge ts (d + 1) (max m (d + 1))
      omega
    · split
      · exact deep_ge ts (d - 1) m
      · exact deep_ge ts d m
theorem T_same {a b : List Nat} (ha : okL a) (hb : okL b) (h : ((T a).toList == (T b).toList) = true) : a = b := by
  have := eq_of_beq h
  rw [T_toList, T_toList] at this
  exact tx_inj ha hb this
/-- Tokens of a document are ones of characters, and a document's. -/
theorem doc_T : ∀ (ts : List BTok) (o : List (List Nat)) (r : Bool) (k : Nat) (m : Int), (∀ x ∈ o, okL x) → docB (o.map T) r (k : Nat) ts = true → deepGo o.length m ts ≤ 32 → (∀ t ∈ ts, t.attrs.length ≤ 64) →
    ∃ xs : List XTok, ts = xs.map XTok.b ∧ (∀ x ∈ xs, OkAll x) ∧ DocT o r k xs
  | [], o, r, k, m, _, h, _, _ => by
    unfold docB at h
    simp only [Bool.and_eq_true] at h
    obtain ⟨h1, h2⟩ := h
    have h3 := isEmpty_of h2
    rw [List.map_eq_nil_iff] at h3
    subst h3 h1
    exact ⟨[], rfl, (fun _ h => by cases h), .done k⟩
  | t :: ts, o, r, k, m, ho, h, hd, ha => by
    unfold docB at h
    simp only [Bool.and_eq_true] at h
    obtain ⟨h1, h2⟩ := h
    obtain ⟨x, rfl, hx, hok⟩ := ok_T h1
    have ha' : ∀ t ∈ ts, t.attrs.length ≤ 64 := fun t ht => ha t (List.mem_cons_of_mem _ ht)
    have hax := ha _ (List.mem_cons_self ..)
    cases hok with
    | elem n a h3 h4 h5 =>
      by_cases hr : ((o.map T).isEmpty && r) = true
      · have : docStp (o.map T) r (k : Nat) (XTok.b ⟨2, n, a, []⟩) = none := by
          show (if ((o.map T).isEmpty && r) = true then none else some (o.map T ++ [T n], true)) = _
          rw [if_pos hr]
        rw [this] at h2
        cases h2
      · have e : docStp (o.map T) r (k : Nat) (XTok.b ⟨2, n, a, []⟩) = some ((o ++ [n]).map T, true) := by
          show (if ((o.map T).isEmpty && r) = true then none else some (o.map T ++ [T n], true)) = _
          rw [if_neg hr, List.map_append]
          rfl
        rw [e] at h2
        have hd2 : deepGo ((o ++ [n]).length) (max m ((o.length : Int) + 1)) ts ≤ 32 := by
          have e2 : deepGo o.length m (XTok.b ⟨2, n, a, []⟩ :: ts) = deepGo ((o.length : Int) + 1) (max m ((o.length : Int) + 1)) ts := rfl
          rw [e2] at hd
          rw [List.length_append]
          exact hd
        have hdep := deep_ge ts (((o ++ [n]).length : Nat) : Int) (max m ((o.length : Int) + 1))
        obtain ⟨xs, rfl, q1, q2⟩ := doc_T ts (o ++ [n]) true 2 _ (fun y hy => by
          rcases List.mem_append.1 hy with hy | hy
          · exact ho y hy
          · rw [List.mem_singleton.1 hy]; exact hx.n) h2 hd2 ha'
        refine ⟨⟨2, n, a, []⟩ :: xs, rfl, fun y hy => ?_, .elem n a o r k xs (.elem n a h3 h4 h5) (fun h0 => ?_) (by omega) (by simpa [XTok.b] using hax) q2⟩
        · rcases List.mem_cons.1 hy with rfl | hy
          · exact hx
          · exact q1 y hy
        · subst h0
          simpa using hr
    | fin n h3 =>
      cases hg : o.getLast? with
      | none =>
        have : docStp (o.map T) r (k : Nat) (XTok.b ⟨7, n, [], []⟩) = none := by
          show (match (o.map T).getLast? with | none => none | some x => _) = _
          rw [List.getLast?_map, hg]
          rfl
        rw [this] at h2
        cases h2
      | some y =>
        have hy : okL y := ho y (List.mem_of_getLast? hg)
        have e0 : docStp (o.map T) r (k : Nat) (XTok.b ⟨7, n, [], []⟩) = if (T y).toList == (T n).toList then some ((o.map T).dropLast, r) else none := by
          show (match (o.map T).getLast? with | none => none | some x => if x.toList == (T n).toList then some ((o.map T).dropLast, r) else none) = _
          rw [List.getLast?_map, hg]
          rfl
        rw [e0] at h2
        by_cases hs : ((T y).toList == (T n).toList) = true
        · rw [if_pos hs] at h2
          have hyn := T_same hy hx.n hs
          subst hyn
          have hlen : o.length = o.dropLast.length + 1 := by
            rw [List.length_dropLast]
            have : o ≠ [] := fun h0 => by rw [h0] at hg; cases hg
            have := List.length_pos_iff.2 this
            omega
          rw [show (o.map T).dropLast = o.dropLast.map T by rw [List.map_dropLast]] at h2
          have hd2 : deepGo o.dropLast.length m ts ≤ 32 := by
            have e2 : deepGo o.length m (XTok.b ⟨7, y, [], []⟩ :: ts) = deepGo ((o.length : Int) - 1) m ts := rfl
            rw [e2, hlen] at hd
            have e3 : ((o.dropLast.length + 1 : Nat) : Int) - 1 = (o.dropLast.length : Nat) := by omega
            rw [e3] at hd
            exact hd
          obtain ⟨xs, rfl, q1, q2⟩ := doc_T ts o.dropLast r 7 m (fun z hz => ho z ((List.dropLast_sublist o).subset hz)) h2 hd2 ha'
          refine ⟨⟨7, y, [], []⟩ :: xs, rfl, fun z hz => ?_, .fin y o r k xs (.fin y h3) hg q2⟩
          rcases List.mem_cons.1 hz with rfl | hz
          · exact hx
          · exact q1 z hz
        · rw [if_neg hs] at h2
          cases h2
    | text l h3 =>
      by_cases hr : ((o.map T).isEmpty || ((k : Nat) : Int) == 4) = true
      · have : docStp (o.map T) r (k : Nat) (XTok.b ⟨4, [], [], l⟩) = none := by
          show (if (o.map T).isEmpty || ((k : Nat) : Int) == 4 then none else _) = _
          rw [if_pos hr]
        rw [this] at h2
        cases h2
      · have e : docStp (o.map T) r (k : Nat) (XTok.b ⟨4, [], [], l⟩) = some (o.map T, r) := by
          show (if (o.map T).isEmpty || ((k : Nat) : Int) == 4 then none else some (o.map T, r)) = _
          rw [if_neg hr]
        rw [e] at h2
        have hd2 : deepGo o.length m ts ≤ 32 := hd
        obtain ⟨xs, rfl, q1, q2⟩ := doc_T ts o r 4 m ho h2 hd2 ha'
        refine ⟨⟨4, [], [], l⟩ :: xs, rfl, fun y hy => ?_, .text l o r k xs (.text l h3) (fun h0 => ?_) (fun h0 => ?_) q2⟩
        · rcases List.mem_cons.1 hy with rfl | hy
          · exact hx
          · exact q1 y hy
        · subst h0; exact hr rfl
        · subst h0; exact hr (by simp)
    | comment l h3 h4 =>
      obtain ⟨xs, rfl, q1, q2⟩ := doc_T ts o r 5 m ho h2 hd ha'
      refine ⟨⟨5, [], [], l⟩ :: xs, rfl, fun y hy => ?_, .comment l o r k xs (.comment l h3 h4) q2⟩
      rcases List.mem_cons.1 hy with rfl | hy
      · exact hx
      · exact q1 y hy
    | pi n l h3 h4 h5 =>
      obtain ⟨xs, rfl, q1, q2⟩ := doc_T ts o r 6 m ho h2 hd ha'
      refine ⟨⟨6, n, [], l⟩ :: xs, rfl, fun y hy => ?_, .pi n l o r k xs (.pi n l h3 h4 h5) q2⟩
      rcases List.mem_cons.1 hy with rfl | hy
      · exact hx
      · exact q1 y hy
/-- What is written in bytes is what is written in characters. -/
theorem attr_tx {x : List Nat × List Nat} (h : okL x.2) : attrB (T x.1, T x.2) = tx (attrL x) := by
  have e : attrL x = [32] ++ (x.1 ++ ([61, 34] ++ (mapN quoN x.2 ++ [34]))) := by unfold attrL; simp
  rw [e, tx_append, tx_append, tx_append, tx_append, ← map_tx quo_both x.2 h]
  unfold attrB
  rw [T_data, T_data]
  rfl
theorem attrs_tx : ∀ {a : List (List Nat × List Nat)}, (∀ x ∈ a, okL x.1 ∧ okL x.2) → (a.map fun x => (T x.1, T x.2)).flatMap attrB = tx (a.flatMap attrL)
  | [], _ => rfl
  | x :: a, h => by
    rw [List.map_cons, List.flatMap_cons, List.flatMap_cons, tx_append, attrs_tx (fun y hy => h y (List.mem_cons_of_mem _ hy)), attr_tx (h x (List.mem_cons_self ..)).2]
theorem tok_tx {x : XTok} (h : OkAll x) (hok : OkTok x) : tokB x.b = tx (tokL x) := by
  cases hok with
  | elem n a =>
    show 60 :: ((T n).data.toList ++ ((a.map fun x => (T x.1, T x.2)).flatMap attrB ++ [62])) = tx ([60] ++ (n ++ (a.flatMap attrL ++ [62])))
    rw [tx_append, tx_append, tx_append, attrs_tx h.a, T_data]
    rfl
  | fin n =>
    show 60 :: 47 :: ((T n).data.toList ++ [62]) = tx ([60, 47] ++ (n ++ [62]))
    rw [tx_append, tx_append, T_data]
    rfl
  | text l =>
    show mapO escO (T l).data.toList = tx (mapN escN l)
    rw [T_data, map_tx esc_both l h.x]
  | comment l =>
    show 60 :: 33 :: 45 :: 45 :: ((T l).data.toList ++ [45, 45, 62]) = tx ([60, 33, 45, 45] ++ (l ++ [45, 45, 62]))
    rw [tx_append, tx_append, T_data]
    rfl
  | pi n l =>
    show 60 :: 63 :: ((T n).data.toList ++ ((if (T l).toList.isEmpty then [] else 32 :: (T l).data.toList) ++ [63, 62])) = tx ([60, 63] ++ (n ++ ((if l = [] then [] else 32 :: l) ++ [63, 62])))
    rw [tx_append, tx_append, tx_append, T_data]
    by_cases hl : l = []
    · subst hl
      rw [T_toList]
      rfl
    · rw [if_neg hl, show (T l).toList.isEmpty = false from ne_T h.x hl, T_data]
      rfl
theorem okL_attr {x : List Nat × List Nat} (h : okL x.1 ∧ okL x.2) : okL (attrL x) := by
  have e : attrL x = [32] ++ (x.1 ++ ([61, 34] ++ (mapN quoN x.2 ++ [34]))) := by unfold attrL; simp
  rw [e]
  exact okL_app (okL_of (by decide)) (okL_app h.1 (okL_app (okL_of (by decide)) (okL_app (map_ok quo_ref h.2) (okL_of (by decide)))))
theorem okL_attrs : ∀ {a : List (List Nat × List Nat)}, (∀ x ∈ a, okL x.1 ∧ okL x.2) → okL (a.flatMap attrL)
  | [], _ => okL_nil
  | x :: a, h => by
    rw [List.flatMap_cons]
    exact okL_app (okL_attr (h x (List.mem_cons_self ..))) (okL_attrs fun y hy => h y (List.mem_cons_of_mem _ hy))
theorem okL_tok {x : XTok} (h : OkAll x) (hok : OkTok x) : okL (tokL x) := by
  cases hok with
  | elem n a => exact okL_app (a := [60]) (okL_of (by decide)) (okL_app h.n (okL_app (okL_attrs h.a) (okL_of (by decide))))
  | fin n => exact okL_app (a := [60, 47]) (okL_of (by decide)) (okL_app h.n (okL_of (by decide)))
  | text l => exact map_ok esc_ref h.x
  | comment l => exact okL_app (a := [60, 33, 45, 45]) (okL_of (by decide)) (okL_app h.x (okL_of (by decide)))
  | pi n l =>
    refine okL_app (a := [60, 63]) (okL_of (by decide)) (okL_app h.n (okL_app ?_ (okL_of (by decide))))
    by_cases hl : l = []
    · simp only [hl, if_pos]; exact okL_nil
    · simp only [if_neg hl]; exact okL_app (a := [32]) (okL_of (by decide)) h.x
theorem doc_all : ∀ {xs : List XTok} {o : List (List Nat)} {r : Bool} {k : Nat}, DocT o r k xs → ∀ x ∈ xs, OkTok x
  | [], _, _, _, _ => fun _ h => by cases h
  | t :: ts, o, r, k, h => by
    have h1 : OkTok t ∧ ∃ o' r' k', DocT o' r' k' ts := by
      cases h with
      | elem m a _ _ _ _ h hr ho' ha hn => exact ⟨h, _, _, _, hn⟩
      | fin m _ _ _ _ h ho' hn => exact ⟨h, _, _, _, hn⟩
      | text l _ _ _ _ h ho' hk hn => exact ⟨h, _, _, _, hn⟩
      | comment l _ _ _ _ h hn => exact ⟨h, _, _, _, hn⟩
      | pi m l _ _ _ _ h hn => exact ⟨h, _, _, _, hn⟩
    obtain ⟨ht, o', r', k', hn⟩ := h1
    intro x hx
    rcases List.mem_cons.1 hx with rfl | hx
    · exact ht
    · exact doc_all hn x hx
end Go.Proofs.YtefjfjieoiegnaaGreatDoor
