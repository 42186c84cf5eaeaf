/- What the library's functions tell of a text, in terms of its characters: plain lemmas. -/
import Derived.Test.YtgabgeadeeaihaaDoorLexAhead
import Derived.Test.YtgabgeadeeaihaaDoorJoinPlain
import Derived.Test.YtgabgeadeeaihaaDoorNamePlain
namespace Go.Proofs.YtgabgeadeeaihaaDoor
open Go.RowKit
theorem runeB_high {c : Nat} (h : okR c) (hc : 128 ≤ c) : ∀ b ∈ runeB c, 128 ≤ b.toNat := by
  unfold okR at h
  by_cases h2 : c < 2048
  · rw [runeB_two hc h2]; intro b hb; simp only [List.mem_cons, List.not_mem_nil, or_false] at hb
    rcases hb with rfl | rfl <;> (rw [u8_nat (by omega)]; omega)
  · by_cases h3 : c < 65536
    · rw [runeB_three (by omega) h3 (by unfold okR; omega)]; intro b hb; simp only [List.mem_cons, List.not_mem_nil, or_false] at hb
      rcases hb with rfl | rfl | rfl <;> (rw [u8_nat (by omega)]; omega)
    · rw [runeB_four (by omega) (by omega)]; intro b hb; simp only [List.mem_cons, List.not_mem_nil, or_false] at hb
      rcases hb with rfl | rfl | rfl | rfl <;> (rw [u8_nat (by omega)]; omega)
theorem mem_tx {q : Nat} (hq : q < 128) : ∀ {l : List Nat}, okL l → (UInt8.ofNat q ∈ tx l ↔ q ∈ l)
  | [], _ => by simp [tx]
  | c :: l, h => by
    have hc := charR_ok (h c (by simp))
    rw [tx_cons, List.mem_append, mem_tx hq (okL_tail h), List.mem_cons]
    by_cases h1 : c < 128
    · rw [runeB_one h1, List.mem_singleton]
      constructor
      · rintro (e | e)
        · have := congrArg UInt8.toNat e
          rw [u8_nat (by omega), u8_nat (by omega)] at this
          exact .inl this
        · exact .inr e
      · rintro (e | e)
        · exact .inl (by rw [e])
        · exact .inr e
    · constructor
      · rintro (e | e)
        · have := runeB_high hc (by omega) _ e
          rw [u8_nat (by omega)] at this
          omega
        · exact .inr e
      · rintro (e | e)
        · omega
        · exact .inr e
theorem indexByte_none : ∀ (l : List UInt8) (c : UInt8), c ∉ l → Lib.indexByte l c = -1
  | [], _, _ => rfl
  | x :: l, c, h => by
    have hx : ¬ (x == c) = true := fun e => h (by rw [beq_iff_eq.1 e]; simp)
    have ih := indexByte_none l c (fun hm => h (List.mem_cons_of_mem _ hm))
    simp only [Lib.indexByte, hx, ih]
    simp
theorem cut_none (l : List UInt8) (c : UInt8) (h : c ∉ l) : Lib.cut l [c] = (l, [], false) := by
  unfold Lib.cut
  rw [Lib.index_one, indexByte_none l c h, if_neg (by decide)]
theorem contains_tx {q : Nat} (hq : q < 128) {l : List Nat} (h : okL l) : decide (0 ≤ Lib.indexByte (tx l) (UInt8.ofNat q)) = l.contains q := by
  by_cases hm : q ∈ l
  · have hb := (mem_tx hq h).2 hm
    have : 0 ≤ Lib.indexByte (tx l) (UInt8.ofNat q) := by
      obtain ⟨a, b, e, hn⟩ := List.eq_append_cons_of_mem hb
      rw [e, indexByte_first _ _ _ hn]; omega
    rw [decide_eq_true this]
    exact (List.contains_iff_mem.2 hm).symm
  · have hb : UInt8.ofNat q ∉ tx l := fun h' => hm ((mem_tx hq h).1 h')
    rw [indexByte_none _ _ hb]
    have : l.contains q = false := by
      cases hx : l.contains q
      · rfl
      · exact absurd (List.contains_iff_mem.1 hx) hm
    rw [this]; rfl
/-- A text that is cut at a sign below 128. -/
theorem cut_tx {q : Nat} (hq : q < 128) {l : List Nat} (h : okL l) : Lib.cut (tx l) [UInt8.ofNat q] =
    if l.contains q then (tx (l.takeWhile (· != q)), tx (l.dropWhile (· != q)).tail, true) else (tx l, [], false) := by
  by_cases hm : q ∈ l
  · rw [if_pos (List.contains_iff_mem.2 hm)]
    have e := List.takeWhile_append_dropWhile (p := (· != q)) (l := l)
    have hno : q ∉ l.takeWhile (· != q) := fun hx => by have := all_takeWhile (· != q) l q hx; simp at this
    obtain ⟨u, hu⟩ : ∃ u, l.dropWhile (· != q) = q :: u := by
      cases hx : l.dropWhile (· != q) with
      | nil => rw [hx, List.append_nil] at e; rw [← e] at hm; exact absurd hm hno
      | cons c u =>
        have := List.head_dropWhile_not (l := l) (· != q) (by rw [hx]; simp)
        simp only [hx, List.head_cons] at this
        have hc : c = q := by simpa using this
        exact ⟨u, by rw [hc]⟩
    rw [hu, List.tail_cons]
    have e2 : tx l = tx (l.takeWhile (· != q)) ++ UInt8.ofNat q :: tx u := by
      conv => lhs; rw [← e, hu, tx_append, tx_cons, runeB_one hq]
      rfl
    rw [e2]
    exact cut_first _ _ _ (fun hx => hno ((mem_tx hq (okL_pre h (List.takeWhile_prefix _))).1 hx))
  · rw [if_neg (fun hx => hm (List.contains_iff_mem.1 hx))]
    exact cut_none _ _ (fun hx => hm ((mem_tx hq h).1 hx))
theorem valid_T {l : List Nat} (h : okL l) : Lib.validD (tx l) = true := by
  have key : ∀ (t p : List Nat), l = p ++ t → Lib.validD ((T l).data.toList.drop (tx p).length) = true := by
    intro t
    induction t with
    | nil =>
      intro p e
      rw [drop_nil _ _ (end_at e)]
      rfl
    | cons c t ih =>
      intro p e
      obtain ⟨hd, hlt, hc, hpos⟩ := dec_at e h
      rw [validD_at _ _ hlt, hd, if_neg]
      · have := ih (p ++ [c]) (by rw [e]; simp)
        rw [tx_snoc] at this
        exact this
      · rintro ⟨h1, h2⟩
        simp only at h1 h2
        subst h1
        rw [show (runeB 65533).length = 3 from by decide +kernel] at h2
        cases h2
  have := key l [] rfl
  rw [T_data] at this
  simpa [tx] using this
theorem nameFrom_T {l : List Nat} (h : okL l) : ∀ (t p : List Nat) (f : Nat), l = p ++ t → (T l).size < (tx p).length + f →
    nameFrom (T l) f (tx p).length = (if p = [] then (t.isEmpty || (match t with | [] => true | c :: u => begC c && u.all goC)) else t.all goC)
  | [], p, f, e, hf => by
    rw [nameFrom_end _ _ _ (end_at e)]
    split <;> rfl
  | c :: t, p, f, e, hf => by
    obtain ⟨hd, hlt, hc, hpos⟩ := dec_at e h
    obtain ⟨g, rfl, hg⟩ := nameFrom_step (T l) f (tx p).length hlt hf
    have ih := nameFrom_T h t (p ++ [c]) g (by rw [e]; simp) (by rw [tx_snoc]; omega)
    rw [tx_snoc, if_neg (by simp)] at ih
    rw [hg, hd]
    simp only
    rw [ih, begC_eq c hc, goC_eq c hc]
    by_cases hp : p = []
    · rw [if_pos hp, hp]
      cases hb : begC c
      · simp [tx]
      · simp [tx, goC_of_beg hb]
    · rw [if_neg hp]
      have : (((tx p).length : Int) == 0) = false := by
        have := tx_len_zero (okL_left (e ▸ h))
        simp
        intro h0
        exact hp (this (by simpa using h0))
      rw [this, Bool.false_and, Bool.false_or, List.all_cons]
      cases goC c <;> rfl
theorem nameB_T {l : List Nat} (h : okL l) : nameB (T l) = isNm l := by
  unfold nameB isNm
  rw [T_data, valid_T h, Bool.and_true]
  have := nameFrom_T h l [] ((T l).size + 1) rfl (by omega)
  rw [if_pos rfl] at this
  rw [show nameFrom (T l) ((T l).size + 1) 0 = _ from this]
  cases l with
  | nil => rfl
  | cons c t =>
    have e0 : (tx (c :: t)).isEmpty = false := by
      cases hx : tx (c :: t) with
      | nil => have := tx_len_zero h (by rw [hx]; rfl); cases this
      | cons _ _ => rfl
    rw [e0]
    simp only [List.isEmpty_cons, Bool.not_false, Bool.true_and, Bool.false_or]
    rw [nameA]
    cases hb : begC c
    · rfl
    · rw [if_pos rfl, Bool.true_and]
      rw [Bool.eq_iff_iff]
      simp only [List.all_eq_true, beq_iff_eq, List.cons.injEq, true_and]
      constructor
      · intro ha
        have := takeWhile_run goC t [] ha (fun _ hx => by cases hx)
        simpa using this
      · intro ha x hx
        exact all_takeWhile goC t x (by rw [ha]; exact hx)
theorem splitB_T {l : List Nat} (h : okL l) : splitB (T l).data.toList = isQ l := by
  have hc := cut_tx (q := 58) (by decide) h
  rw [show UInt8.ofNat 58 = 58 from rfl] at hc
  unfold splitB splitP splitN isQ
  rw [T_data, hc]
  cases hm : l.contains 58
  · simp only [Bool.false_eq_true, if_false, Bool.not_false, Bool.true_or, Bool.true_and]
    exact nameB_T h
  · simp only [if_true, Bool.not_true, Bool.false_or]
    have h1 : okL (l.takeWhile (· != 58)) := okL_pre h (List.takeWhile_prefix _)
    have h2 : okL (l.dropWhile (· != 58)).tail := fun c hx => h c ((List.dropWhile_sublist _).subset (List.mem_of_mem_tail hx))
    rw [show (⟨(tx (l.takeWhile (· != 58))).toArray⟩ : ByteArray) = T (l.takeWhile (· != 58)) from rfl, show (⟨(tx (l.dropWhile (· != 58)).tail).toArray⟩ : ByteArray) = T (l.dropWhile (· != 58)).tail from rfl, nameB_T h1, nameB_T h2]
def blankN (x : Nat) : Bool := blankB x
theorem idx_T {l : List Nat} (h : okL l) : ∀ (t p : List Nat) (f : Nat), l = p ++ t → (T l).size ≤ (tx p).length + f →
    Lib.idxFuncFrom blankN false (T l) f (tx p).length = if t.dropWhile blankC = [] then -1 else ((tx (p ++ t.takeWhile blankC)).length : Int)
  | [], p, f, e, hf => by rw [Lib.idxFuncFrom_end _ _ _ _ _ (end_at e)]; rfl
  | c :: t, p, f, e, hf => by
    obtain ⟨hd, hlt, hc, hpos⟩ := dec_at e h
    cases f with
    | zero => omega
    | succ f =>
      have ih := idx_T h t (p ++ [c]) f (by rw [e]; simp) (by rw [tx_snoc]; omega)
      rw [tx_snoc] at ih
      rw [Lib.idxFuncFrom, if_pos hlt, hd]
      simp only
      rw [ih]
      have hb : blankN c = blankC c := blankC_eq c
      rw [hb]
      cases hbc : blankC c
      · rw [if_pos rfl, List.dropWhile_cons_of_neg (by rw [hbc]; decide), if_neg (by simp), List.takeWhile_cons_of_neg (by rw [hbc]; decide), List.append_nil]
      · rw [if_neg (by decide), List.dropWhile_cons_of_pos hbc, List.takeWhile_cons_of_pos hbc, List.append_assoc]
        rfl
theorem trim_T {l : List Nat} (h : okL l) : Lib.trimLeftF blankN (T l) = T (l.dropWhile blankC) := by
  have := idx_T h l [] (T l).size rfl (by omega)
  unfold Lib.trimLeftF Lib.idxFunc
  rw [show Lib.idxFuncFrom blankN false (T l) (T l).size 0 = _ from this]
  by_cases hd : l.dropWhile blankC = []
  · rw [if_pos hd, if_pos rfl, hd]; rfl
  · rw [if_neg hd, if_neg (by omega)]
    rw [List.nil_append, Int.toNat_natCast]
    exact suf_at (List.takeWhile_append_dropWhile).symm
theorem isBlank_runes (w : World) : PredAtRunes Tryd.prog 39 #[] blankN w := fun W x _ _ => by
  refine (isBlank_any x W).mono ?_
  rintro e w' ⟨rfl, rfl⟩
  exact ⟨rfl, 0, rfl⟩
theorem isBlank_enters : ∀ args w, (callFunc 39 args).run Tryd.prog w = .ok (.enter 39 args) w := fun _ _ => by kernel_rfl
/-- Equal texts are of equal characters. -/
theorem tx_inj : ∀ {a b : List Nat}, okL a → okL b → tx a = tx b → a = b
  | [], b, _, hb, e => (tx_len_zero hb (by rw [← e]; rfl)).symm
  | x :: a, [], ha, _, e => by have := tx_len_zero ha (by rw [e]; rfl); exact this
  | x :: a, y :: b, ha, hb, e => by
    have h1 := dec_rune x (charR_ok (ha x (by simp))) (tx a)
    have h2 := dec_rune y (charR_ok (hb y (by simp))) (tx b)
    rw [tx_cons, tx_cons] at e
    rw [e, h2] at h1
    have hxy : y = x := congrArg Prod.fst h1
    subst hxy
    rw [tx_inj (okL_tail ha) (okL_tail hb) (List.append_cancel_left e)]
theorem eq_T {a b : List Nat} (ha : okL a) (hb : okL b) : ((T a).toList == tx b) = (a == b) := by
  rw [T_toList, Bool.eq_iff_iff, beq_iff_eq, beq_iff_eq]
  exact ⟨tx_inj ha hb, fun e => by rw [e]⟩
end Go.Proofs.YtgabgeadeeaihaaDoor
