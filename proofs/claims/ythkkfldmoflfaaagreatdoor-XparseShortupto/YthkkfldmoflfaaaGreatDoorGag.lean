/- Several texts, laid as one. -/
import Derived.Test.YthkkfldmoflfaaaGreatDoorGaf
/- Texts as lists of characters: their bytes, what is cut off them, what is decoded at a place: plain lemmas. -/
namespace Go.Proofs.YthkkfldmoflfaaaGreatDoor
open Go.RowKit
/-- A list of characters as bytes, as a text. -/
def tx (l : List Nat) : List UInt8 := l.flatMap runeB
def T (l : List Nat) : ByteArray := ⟨(tx l).toArray⟩
def okL (l : List Nat) : Prop := ∀ c ∈ l, charR (c : Int) = true
theorem tx_nil : tx [] = [] := rfl
theorem tx_cons (c : Nat) (l : List Nat) : tx (c :: l) = runeB c ++ tx l := rfl
theorem tx_append (a b : List Nat) : tx (a ++ b) = tx a ++ tx b := by unfold tx; rw [List.flatMap_append]
theorem T_data (l : List Nat) : (T l).data.toList = tx l := by unfold T; simp
theorem T_toList (l : List Nat) : (T l).toList = tx l := by rw [toList_data, T_data]
theorem T_size (l : List Nat) : (T l).size = (tx l).length := rfl
theorem okL_left {a b : List Nat} (h : okL (a ++ b)) : okL a := fun c hc => h c (List.mem_append_left _ hc)
theorem okL_right {a b : List Nat} (h : okL (a ++ b)) : okL b := fun c hc => h c (List.mem_append_right _ hc)
theorem okL_tail {c : Nat} {l : List Nat} (h : okL (c :: l)) : okL l := fun x hx => h x (List.mem_cons_of_mem _ hx)
theorem okL_drop {l : List Nat} (h : okL l) (n : Nat) : okL (l.drop n) := fun c hc => h c (List.mem_of_mem_drop hc)
theorem okL_pre {a l : List Nat} (h : okL l) (hp : a <+: l) : okL a := fun c hc => h c (hp.subset hc)
theorem okL_app {a b : List Nat} (ha : okL a) (hb : okL b) : okL (a ++ b) := fun c hc => by
  rcases List.mem_append.1 hc with h | h
  · exact ha c h
  · exact hb c h
theorem runeB_pos {c : Nat} (h : charR (c : Int) = true) : 1 ≤ (runeB c).length := by
  obtain ⟨x, t, e, _⟩ := runeB_first (charR_ok h)
  rw [e]; simp
theorem tx_len_cons {c : Nat} {l : List Nat} (h : okL (c :: l)) : (tx l).length < (tx (c :: l)).length := by
  have := runeB_pos (h c (by simp))
  rw [tx_cons, List.length_append]; omega
theorem tx_len_ge : ∀ {l : List Nat}, okL l → l.length ≤ (tx l).length
  | [], _ => Nat.zero_le _
  | c :: l, h => by
    have h1 := tx_len_cons h
    have h2 := tx_len_ge (okL_tail h)
    simp only [List.length_cons]; omega
theorem tx_len_zero {l : List Nat} (h : okL l) (h0 : (tx l).length = 0) : l = [] := by
  have := tx_len_ge h
  exact List.length_eq_zero_iff.1 (by omega)
theorem tx_snoc (p : List Nat) (c : Nat) : (tx (p ++ [c])).length = (tx p).length + (runeB c).length := by
  rw [tx_append, List.length_append]; simp [tx]
theorem tx_len_app (p t : List Nat) : (tx (p ++ t)).length = (tx p).length + (tx t).length := by rw [tx_append, List.length_append]
/-- What is decoded at a character's place. -/
theorem dec_T (p : List Nat) (c : Nat) (t : List Nat) (h : charR (c : Int) = true) : Utf8.decode (T (p ++ c :: t)) (tx p).length = (c, (runeB c).length) ∧ (tx p).length < (T (p ++ c :: t)).size := by
  have hd : (T (p ++ c :: t)).data.toList.drop (tx p).length = runeB c ++ tx t := by
    rw [T_data, tx_append, List.drop_left, tx_cons]
  refine ⟨?_, ?_⟩
  · rw [← Lib.decodeL_drop, hd]
    exact dec_rune c (charR_ok h) _
  · have := runeB_pos h
    rw [T_size, tx_len_app, tx_cons, List.length_append]; omega
theorem dec_at {l p t : List Nat} {c : Nat} (e : l = p ++ c :: t) (h : okL l) : Utf8.decode (T l) (tx p).length = (c, (runeB c).length) ∧ (tx p).length < (T l).size ∧ charR (c : Int) = true ∧ 1 ≤ (runeB c).length := by
  subst e
  have hc := h c (by simp)
  exact ⟨(dec_T p c t hc).1, (dec_T p c t hc).2, hc, runeB_pos hc⟩
theorem end_at {l p : List Nat} (e : l = p ++ []) : ¬ (tx p).length < (T l).size := by
  subst e; rw [T_size, List.append_nil]; omega
theorem T_pre (p t : List Nat) : (T (p ++ t)).extract 0 (tx p).length = T p := by
  unfold T
  apply ByteArray.ext
  rw [ByteArray.data_extract, tx_append]
  simp
theorem pre_at {l p t : List Nat} (e : l = p ++ t) : (T l).extract 0 (tx p).length = T p := by subst e; exact T_pre p t
theorem T_suf (p t : List Nat) : (T (p ++ t)).extract (tx p).length (T (p ++ t)).size = T t := by
  rw [T_size]
  unfold T
  apply ByteArray.ext
  rw [ByteArray.data_extract, tx_append]
  simp
theorem suf_at {l p t : List Nat} (e : l = p ++ t) : (T l).extract (tx p).length (T l).size = T t := by subst e; exact T_suf p t
theorem T_mid (p m t : List Nat) : (T (p ++ m ++ t)).extract (tx p).length ((tx p).length + (tx m).length) = T m := by
  unfold T
  apply ByteArray.ext
  rw [ByteArray.data_extract, tx_append, tx_append]
  simp
theorem T_app (a b : List Nat) : T a ++ T b = T (a ++ b) := by
  unfold T
  apply ByteArray.ext
  rw [ByteArray.data_append, tx_append]
  simp
theorem T_empty {l : List Nat} (h : okL l) : ((T l).toList = [] ↔ l = []) := by
  rw [T_toList]
  constructor
  · intro h0; exact tx_len_zero h (by rw [h0]; rfl)
  · rintro rfl; rfl
/-- A text that begins with signs below 128. -/
theorem pre_tx : ∀ (a l : List Nat), (∀ c ∈ a, c < 128) → okL l → Lib.hasPrefix (tx l) (a.map UInt8.ofNat) = a.isPrefixOf l
  | [], l, _, _ => by unfold Lib.hasPrefix; cases tx l <;> rfl
  | x :: a, [], _, _ => rfl
  | x :: a, c :: l, ha, hl => by
    have hx := ha x (by simp)
    have ih := pre_tx a l (fun c hc => ha c (by simp [hc])) (okL_tail hl)
    have hc := charR_ok (hl c (by simp))
    unfold Lib.hasPrefix at ih ⊢
    rw [tx_cons, List.map_cons]
    show _ = (x == c && a.isPrefixOf l)
    by_cases h1 : c < 128
    · rw [runeB_one h1, List.singleton_append]
      show (UInt8.ofNat x == UInt8.ofNat c && (a.map UInt8.ofNat).isPrefixOf (tx l)) = _
      rw [ih]
      congr 1
      rw [Bool.eq_iff_iff, beq_iff_eq, beq_iff_eq]
      constructor
      · intro e
        have := congrArg UInt8.toNat e
        rwa [u8_nat (by omega), u8_nat (by omega)] at this
      · rintro rfl; rfl
    · have hne : (x == c) = false := by simp; omega
      rw [hne, Bool.false_and]
      have key : ∀ (n : Nat) (r : List UInt8), 128 ≤ n → n < 256 → (UInt8.ofNat x :: a.map UInt8.ofNat).isPrefixOf (UInt8.ofNat n :: r) = false := by
        intro n r h2 h3
        show (UInt8.ofNat x == UInt8.ofNat n && _) = false
        have : (UInt8.ofNat x == UInt8.ofNat n) = false := by
          rw [beq_eq_false_iff_ne]
          intro e
          have := congrArg UInt8.toNat e
          rw [u8_nat (by omega), u8_nat h3] at this
          omega
        rw [this, Bool.false_and]
      unfold okR at hc
      by_cases h2 : c < 2048
      · rw [runeB_two (by omega) h2]; exact key _ _ (by omega) (by omega)
      · by_cases h3 : c < 65536
        · rw [runeB_three (by omega) h3 (by unfold okR; omega)]; exact key _ _ (by omega) (by omega)
        · rw [runeB_four (by omega) (by omega)]; exact key _ _ (by omega) (by omega)
theorem isPre_one (q : Nat) (l : List Nat) : [q].isPrefixOf l = heads q l := by
  cases l with
  | nil => rfl
  | cons c t =>
    show (q == c && [].isPrefixOf t) = _
    rw [show ([] : List Nat).isPrefixOf t = true by cases t <;> rfl, Bool.and_true]
    unfold heads
    simp only [List.head?_cons]
    rw [Bool.eq_iff_iff]; simp; exact eq_comm
theorem pre_one {q : Nat} {l : List Nat} (hq : q < 128) (hl : okL l) : Lib.hasPrefix (tx l) [UInt8.ofNat q] = heads q l := by
  have := pre_tx [q] l (fun c hc => by rw [List.mem_singleton.1 hc]; exact hq) hl
  rw [isPre_one] at this
  exact this
theorem cut_one {q : Nat} {l : List Nat} (hq : q < 128) (hl : okL l) : Lib.trimPrefix (tx l) [UInt8.ofNat q] = tx (if heads q l then l.tail else l) := by
  unfold Lib.trimPrefix
  rw [pre_one hq hl]
  by_cases h : heads q l = true
  · rw [if_pos h, if_pos h]
    cases l with
    | nil => cases h
    | cons c t =>
      have hc : c = q := by unfold heads at h; simpa using h
      subst hc
      rw [tx_cons, runeB_one hq]
      rfl
  · rw [if_neg h, if_neg h]
theorem digC_lt {c : Nat} (h : digC c = true) : 48 ≤ c ∧ c ≤ 57 := by simpa [digC] using h
theorem digC_ge {c : Nat} (h : digC c = false) : c < 48 ∨ 57 < c := by simp [digC] at h; omega
theorem begC_eq (c : Nat) (h : charR (c : Int) = true) : beginB (c : Int) = begC c := beginB_eq _ (by have := charR_ok h; unfold okR at this; omega)
theorem goC_eq (c : Nat) (h : charR (c : Int) = true) : goesB (c : Int) = goC c := goesB_eq _ (by have := charR_ok h; unfold okR at this; omega)
theorem blankC_eq (c : Nat) : blankB (c : Int) = blankC c := by
  unfold blankB blankC
  rw [Bool.eq_iff_iff]
  simp
  omega
/-- A text of characters that may be is one of a list of such. -/
theorem txt_T {s : ByteArray} (h : Txt s.data.toList) : ∃ l, okL l ∧ s = T l := by
  obtain ⟨rs, h1, h2⟩ := h
  refine ⟨rs, h1, ?_⟩
  unfold T tx
  rw [← h2]
theorem T_txt {l : List Nat} (h : okL l) : Txt (T l).data.toList := ⟨l, h, T_data l⟩
end Go.Proofs.YthkkfldmoflfaaaGreatDoor
/- Expressions: what xparse's parser tells of tokens, in plain terms. -/
namespace Go.Proofs.YthkkfldmoflfaaaGreatDoor
inductive Ex where
  | mk (op : Nat) (text : List Nat) (num : Int) (axis test : Nat) (kids : List Ex)
namespace Ex
def op : Ex → Nat | mk o _ _ _ _ _ => o
def text : Ex → List Nat | mk _ t _ _ _ _ => t
def num : Ex → Int | mk _ _ n _ _ _ => n
def axis : Ex → Nat | mk _ _ _ a _ _ => a
def test : Ex → Nat | mk _ _ _ _ t _ => t
def kids : Ex → List Ex | mk _ _ _ _ _ k => k
end Ex
/-- Where a parser stands: the tokens that are left (kind, text), how many ( ) are open, and were at most. -/
structure PS where
  left : List (Nat × List Nat)
  opn : Nat
  dp : Nat
inductive PR (α : Type) where
  | out | fail | ok (a : α) (s : PS)
def PR.bind {α β : Type} (r : PR α) (f : α → PS → PR β) : PR β := match r with | .out => .out | .fail => .fail | .ok a s => f a s
@[simp] theorem PR.bind_ok {α β : Type} (a : α) (s : PS) (f : α → PS → PR β) : (PR.ok a s).bind f = f a s := rfl
@[simp] theorem PR.bind_fail {α β : Type} (f : α → PS → PR β) : (PR.fail : PR α).bind f = .fail := rfl
@[simp] theorem PR.bind_out {α β : Type} (f : α → PS → PR β) : (PR.out : PR α).bind f = .out := rfl
def headIs (k : Nat) (t : List Nat) (s : PS) : Bool := match s.left with | [] => false | x :: _ => x.1 == k && x.2 == t
def seesK (k : Nat) (s : PS) : Bool := match s.left with | [] => false | x :: _ => x.1 == k
def headT (s : PS) : List Nat := match s.left with | [] => [] | x :: _ => x.2
def PS.pop (s : PS) : PS := ⟨s.left.tail, s.opn, s.dp⟩
/-- The operators with two Kids: sign, Op, grammar. -/
def opTab : List (List Nat × Nat × Nat) := [([111, 114], 1, 0), ([97, 110, 100], 2, 1), ([61], 3, 2), ([33, 61], 4, 2), ([60], 5, 3), ([60, 61], 6, 3), ([62], 7, 3), ([62, 61], 8, 3), ([43], 9, 4), ([45], 10, 4), ([42], 11, 5), ([100, 105, 118], 12, 5), ([109, 111, 100], 13, 5), ([124], 15, 7)]
def operOf (g : Nat) (s : PS) : Option Nat := (opTab.find? fun o => o.2.2 == g && headIs 8 o.1 s).map (·.2.1)
def axisL : List (List Nat) := [[99, 104, 105, 108, 100], [100, 101, 115, 99, 101, 110, 100, 97, 110, 116], [112, 97, 114, 101, 110, 116], [97, 110, 99, 101, 115, 116, 111, 114],
  [102, 111, 108, 108, 111, 119, 105, 110, 103, 45, 115, 105, 98, 108, 105, 110, 103], [112, 114, 101, 99, 101, 100, 105, 110, 103, 45, 115, 105, 98, 108, 105, 110, 103], [102, 111, 108, 108, 111, 119, 105, 110, 103], [112, 114, 101, 99, 101, 100, 105, 110, 103], [97, 116, 116, 114, 105, 98, 117, 116, 101], [115, 101, 108, 102],
  [100, 101, 115, 99, 101, 110, 100, 97, 110, 116, 45, 111, 114, 45, 115, 101, 108, 102], [97, 110, 99, 101, 115, 116, 111, 114, 45, 111, 114, 45, 115, 101, 108, 102]]
def typeL : List (List Nat) := [[110, 111, 100, 101], [116, 101, 120, 116], [99, 111, 109, 109, 101, 110, 116], [112, 114, 111, 99, 101, 115, 115, 105, 110, 103, 45, 105, 110, 115, 116, 114, 117, 99, 116, 105, 111, 110]]
def axisNo (t : List Nat) : Option Nat := axisL.findIdx? (· == t)
def typeNo (t : List Nat) : Option Nat := typeL.findIdx? (· == t)
def begStep (s : PS) : Bool := headIs 9 [46] s || headIs 9 [46, 46] s || headIs 9 [64] s || seesK 3 s || seesK 5 s || seesK 6 s
def topX : Ex := .mk 22 [] 0 0 0 []
def noX : Ex := .mk 0 [] 0 0 0 []
def belowX : Ex := .mk 23 [] 0 10 3 []
def pathX (ks : List Ex) : Ex := .mk 21 [] 0 0 0 ks
def axisP (s : PS) : Option (Nat × PS) :=
  if headIs 9 [64] s then some (8, s.pop) else
  if seesK 6 s then (if headIs 9 [58, 58] s.pop then (axisNo (headT s)).map (fun a => (a, s.pop.pop)) else none) else some (0, s)
def allSuf (t : List Nat) : Bool := [58, 42].isSuffixOf t
def typeP (s : PS) : Option (Nat × List Nat × PS) :=
  if seesK 5 s then
    match typeNo (headT s) with
    | none => none
    | some k =>
      if headIs 9 [40] s.pop then
        if k == 3 && seesK 2 s.pop.pop then (if headIs 9 [41] s.pop.pop.pop then some (6, headT s.pop.pop, s.pop.pop.pop.pop) else none)
        else (if headIs 9 [41] s.pop.pop then some (3 + k, [], s.pop.pop.pop) else none)
      else none
  else none
def testP (s : PS) : Option (Nat × List Nat × PS) :=
  if seesK 3 s then
    (if headT s == [42] then some (0, [], s.pop) else if allSuf (headT s) then some (1, (headT s).dropLast.dropLast, s.pop) else some (2, headT s, s.pop))
  else typeP s
mutual
def exprP (num : List Nat → Option Int) : Nat → Nat → PS → PR Ex
  | 0, _, _ => .out
  | n + 1, g, s => if g = 6 then negP num n s else if g = 8 then pathP num n s else (exprP num n (g + 1) s).bind fun e s => opsP num n g e s
def opsP (num : List Nat → Option Int) : Nat → Nat → Ex → PS → PR Ex
  | 0, _, _, _ => .out
  | n + 1, g, e, s =>
    match operOf g s with
    | none => .ok e s
    | some op => (exprP num n (g + 1) s.pop).bind fun e2 s2 => opsP num n g (.mk op [] 0 0 0 [e, e2]) s2
def negP (num : List Nat → Option Int) : Nat → PS → PR Ex
  | 0, _ => .out
  | n + 1, s => if headIs 8 [45] s then (negP num n s.pop).bind fun e s => .ok (.mk 14 [] 0 0 0 [e]) s else exprP num n 7 s
def pathP (num : List Nat → Option Int) : Nat → PS → PR Ex
  | 0, _ => .out
  | n + 1, s =>
    if headIs 8 [47] s then
      (if begStep s.pop then (stepP num n s.pop).bind fun e s => (moreP num n [topX, e] s).bind fun ks s => .ok (pathX ks) s else .ok (pathX [topX]) s.pop)
    else if headIs 8 [47, 47] s then (stepP num n s.pop).bind fun e s => (moreP num n [topX, belowX, e] s).bind fun ks s => .ok (pathX ks) s
    else if begStep s then (stepP num n s).bind fun e s => (moreP num n [noX, e] s).bind fun ks s => .ok (pathX ks) s
    else (filtP num n s).bind fun e s => (moreP num n [e] s).bind fun ks s => .ok (if ks.length = 1 then ks.headD noX else pathX ks) s
def moreP (num : List Nat → Option Int) : Nat → List Ex → PS → PR (List Ex)
  | 0, _, _ => .out
  | n + 1, ks, s =>
    if headIs 8 [47] s then (stepP num n s.pop).bind fun e s => moreP num n (ks ++ [e]) s
    else if headIs 8 [47, 47] s then (stepP num n s.pop).bind fun e s => moreP num n (ks ++ [belowX] ++ [e]) s
    else .ok ks s
def stepP (num : List Nat → Option Int) : Nat → PS → PR Ex
  | 0, _ => .out
  | n + 1, s =>
    if headIs 9 [46] s then .ok (.mk 23 [] 0 9 3 []) s.pop
    else if headIs 9 [46, 46] s then .ok (.mk 23 [] 0 2 3 []) s.pop
    else match axisP s with
      | none => .fail
      | some (a, s1) => match testP s1 with
        | none => .fail
        | some (t, tt, s2) => (predsP num n [] s2).bind fun ks s => .ok (.mk 23 tt 0 a t ks) s
def predsP (num : List Nat → Option Int) : Nat → List Ex → PS → PR (List Ex)
  | 0, _, _ => .out
  | n + 1, ks, s =>
    if headIs 9 [91] s then (exprP num n 0 s.pop).bind fun e s => if headIs 9 [93] s then predsP num n (ks ++ [e]) s.pop else .fail
    else .ok ks s
def filtP (num : List Nat → Option Int) : Nat → PS → PR Ex
  | 0, _ => .out
  | n + 1, s => (primP num n s).bind fun e s =>
    if e.op = 20 then (predsP num n e.kids s).bind fun ks s => .ok (.mk 20 e.text e.num e.axis e.test ks) s
    else (predsP num n [e] s).bind fun ks s => .ok (if ks.length = 1 then e else .mk 20 [] 0 0 0 ks) s
def primP (num : List Nat → Option Int) : Nat → PS → PR Ex
  | 0, _ => .out
  | n + 1, s =>
    if headIs 9 [40] s then brP num n s.pop
    else if seesK 1 s then (match num (headT s) with | none => .fail | some v => .ok (.mk 16 [] v 0 0 []) s.pop)
    else if seesK 2 s then .ok (.mk 17 (headT s) 0 0 0 []) s.pop
    else if seesK 7 s then .ok (.mk 18 (headT s) 0 0 0 []) s.pop
    else if seesK 4 s then (argsP num n s.pop).bind fun ks s' => .ok (.mk 19 (headT s) 0 0 0 ks) s'
    else .fail
def brP (num : List Nat → Option Int) : Nat → PS → PR Ex
  | 0, _ => .out
  | n + 1, s => (exprP num n 0 ⟨s.left, s.opn + 1, max s.dp (s.opn + 1)⟩).bind fun e s => if headIs 9 [41] s then .ok e ⟨s.left.tail, s.opn - 1, s.dp⟩ else .fail
def argsP (num : List Nat → Option Int) : Nat → PS → PR (List Ex)
  | 0, _ => .out
  | n + 1, s => if headIs 9 [40] s then (if headIs 9 [41] s.pop then .ok [] s.pop.pop else argsGoP num n [] s.pop) else .fail
def argsGoP (num : List Nat → Option Int) : Nat → List Ex → PS → PR (List Ex)
  | 0, _, _ => .out
  | n + 1, ks, s => (exprP num n 0 s).bind fun e s => if headIs 9 [44] s then argsGoP num n (ks ++ [e]) s.pop else if headIs 9 [41] s then .ok (ks ++ [e]) s.pop else .fail
end
end Go.Proofs.YthkkfldmoflfaaaGreatDoor
