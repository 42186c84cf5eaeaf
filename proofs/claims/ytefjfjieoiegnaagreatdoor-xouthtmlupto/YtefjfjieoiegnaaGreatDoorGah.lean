/- Several texts, laid as one. -/
import Derived.Test.YtefjfjieoiegnaaGreatDoorGag
import Derived.Test.YtefjfjieoiegnaaGreatDoorGae
import Derived.Test.YtefjfjieoiegnaaGreatDoorGad
import Derived.Deep.RegionHeld3
/- What the library's functions tell of a text, in terms of its characters: plain lemmas. -/
namespace Go.Proofs.YtefjfjieoiegnaaGreatDoor
open Go.RowKit
theorem runeB_high {c : Nat} (h : okR c) (hc : 128 ≤ c) : ∀ b ∈ runeB c, 128 ≤ b.toNat := by
  unfold okR at h
  by_cases h2 : c < 2048
  · rw [runeB_two hc h2]; intro b hb; simp only [List.mem_cons, List.not_mem_nil, or_false] at hb
    rcases hb with rfl | rfl <;> (rw [u8_nat (by omega)]; omega)
  · by_cases h3 : c < 65536
    · rw [runeB_three (by omega) h3 (by unfold okR; omega)]; intro b hb; simp only [List.mem_cons, List.not_mem_nil, or_false] at hb
      rcases hb with rfl | rfl | rfl <;> (rw [u8_nat (by omega)]; omega)
    · rw [runeB_four (by omega) (by omega)]; intro b hb; simp only [List.mem_cons, List.not_mem_nil, or_false] at hb
      rcases hb with rfl | rfl | rfl | rfl <;> (rw [u8_nat (by omega)]; omega)
theorem mem_tx {q : Nat} (hq : q < 128) : ∀ {l : List Nat}, okL l → (UInt8.ofNat q ∈ tx l ↔ q ∈ l)
  | [], _ => by simp [tx]
  | c :: l, h => by
    have hc := charR_ok (h c (by simp))
    rw [tx_cons, List.mem_append, mem_tx hq (okL_tail h), List.mem_cons]
    by_cases h1 : c < 128
    · rw [runeB_one h1, List.mem_singleton]
      constructor
      · rintro (e | e)
        · have := congrArg UInt8.toNat e
          rw [u8_nat (by omega), u8_nat (by omega)] at this
          exact .inl this
        · exact .inr e
      · rintro (e | e)
        · exact .inl (by rw [e])
        · exact .inr e
    · constructor
      · rintro (e | e)
        · have := runeB_high hc (by omega) _ e
          rw [u8_nat (by omega)] at this
          omega
        · exact .inr e
      · rintro (e | e)
        · omega
        · exact .inr e
theorem indexByte_none : ∀ (l : List UInt8) (c : UInt8), c ∉ l → Lib.indexByte l c = -1
  | [], _, _ => rfl
  | x :: l, c, h => by
    have hx : ¬ (x == c) = true := fun e => h (by rw [beq_iff_eq.1 e]; simp)
    have ih := indexByte_none l c (fun hm => h (List.mem_cons_of_mem _ hm))
    simp only [Lib.indexByte, hx, ih]
    simp
theorem cut_none (l : List UInt8) (c : UInt8) (h : c ∉ l) : Lib.cut l [c] = (l, [], false) := by
  unfold Lib.cut
  rw [Lib.index_one, indexByte_none l c h, if_neg (by decide)]
theorem contains_tx {q : Nat} (hq : q < 128) {l : List Nat} (h : okL l) : decide (0 ≤ Lib.indexByte (tx l) (UInt8.ofNat q)) = l.contains q := by
  by_cases hm : q ∈ l
  · have hb := (mem_tx hq h).2 hm
    have : 0 ≤ Lib.indexByte (tx l) (UInt8.ofNat q) := by
      obtain ⟨a, b, e, hn⟩ := List.eq_append_cons_of_mem hb
      rw [e, indexByte_first _ _ _ hn]; omega
    rw [decide_eq_true this]
    exact (List.contains_iff_mem.2 hm).symm
  · have hb : UInt8.ofNat q ∉ tx l := fun h' => hm ((mem_tx hq h).1 h')
    rw [indexByte_none _ _ hb]
    have : l.contains q = false := by
      cases hx : l.contains q
      · rfl
      · exact absurd (List.contains_iff_mem.1 hx) hm
    rw [this]; rfl
/-- A text that is cut at a sign below 128. -/
theorem cut_tx {q : Nat} (hq : q < 128) {l : List Nat} (h : okL l) : Lib.cut (tx l) [UInt8.ofNat q] =
    if l.contains q then (tx (l.takeWhile (· != q)), tx (l.dropWhile (· != q)).tail, true) else (tx l, [], false) := by
  by_cases hm : q ∈ l
  · rw [if_pos (List.contains_iff_mem.2 hm)]
    have e := List.takeWhile_append_dropWhile (p := (· != q)) (l := l)
    have hno : q ∉ l.takeWhile (· != q) := fun hx => by have := all_takeWhile (· != q) l q hx; simp at this
    obtain ⟨u, hu⟩ : ∃ u, l.dropWhile (· != q) = q :: u := by
      cases hx : l.dropWhile (· != q) with
      | nil => rw [hx, List.append_nil] at e; rw [← e] at hm; exact absurd hm hno
      | cons c u =>
        have := List.head_dropWhile_not (l := l) (· != q) (by rw [hx]; simp)
        simp only [hx, List.head_cons] at this
        have hc : c = q := by simpa using this
        exact ⟨u, by rw [hc]⟩
    rw [hu, List.tail_cons]
    have e2 : tx l = tx (l.takeWhile (· != q)) ++ UInt8.ofNat q :: tx u := by
      conv => lhs; rw [← e, hu, tx_append, tx_cons, runeB_one hq]
      rfl
    rw [e2]
    exact cut_first _ _ _ (fun hx => hno ((mem_tx hq (okL_pre h (List.takeWhile_prefix _))).1 hx))
  · rw [if_neg (fun hx => hm (List.contains_iff_mem.1 hx))]
    exact cut_none _ _ (fun hx => hm ((mem_tx hq h).1 hx))
theorem valid_T {l : List Nat} (h : okL l) : Lib.validD (tx l) = true := by
  have key : ∀ (t p : List Nat), l = p ++ t → Lib.validD ((T l).data.toList.drop (tx p).length) = true := by
    intro t
    induction t with
    | nil =>
      intro p e
      rw [drop_nil _ _ (end_at e)]
      rfl
    | cons c t ih =>
      intro p e
      obtain ⟨hd, hlt, hc, hpos⟩ := dec_at e h
      rw [validD_at _ _ hlt, hd, if_neg]
      · have := ih (p ++ [c]) (by rw [e]; simp)
        rw [tx_snoc] at this
        exact this
      · rintro ⟨h1, h2⟩
        simp only at h1 h2
        subst h1
        rw [show (runeB 65533).length = 3 from by decide +kernel] at h2
        cases h2
  have := key l [] rfl
  rw [T_data] at this
  simpa [tx] using this
theorem nameFrom_T {l : List Nat} (h : okL l) : ∀ (t p : List Nat) (f : Nat), l = p ++ t → (T l).size < (tx p).length + f →
    nameFrom (T l) f (tx p).length = (if p = [] then (t.isEmpty || (match t with | [] => true | c :: u => begC c && u.all goC)) else t.all goC)
  | [], p, f, e, hf => by
    rw [nameFrom_end _ _ _ (end_at e)]
    split <;> rfl
  | c :: t, p, f, e, hf => by
    obtain ⟨hd, hlt, hc, hpos⟩ := dec_at e h
    obtain ⟨g, rfl, hg⟩ := nameFrom_step (T l) f (tx p).length hlt hf
    have ih := nameFrom_T h t (p ++ [c]) g (by rw [e]; simp) (by rw [tx_snoc]; omega)
    rw [tx_snoc, if_neg (by simp)] at ih
    rw [hg, hd]
    simp only
    rw [ih, begC_eq c hc, goC_eq c hc]
    by_cases hp : p = []
    · rw [if_pos hp, hp]
      cases hb : begC c
      · simp [tx]
      · simp [tx, goC_of_beg hb]
    · rw [if_neg hp]
      have : (((tx p).length : Int) == 0) = false := by
        have := tx_len_zero (okL_left (e ▸ h))
        simp
        intro h0
        exact hp (this (by simpa using h0))
      rw [this, Bool.false_and, Bool.false_or, List.all_cons]
      cases goC c <;> rfl
theorem nameB_T {l : List Nat} (h : okL l) : nameB (T l) = isNm l := by
  unfold nameB isNm
  rw [T_data, valid_T h, Bool.and_true]
  have := nameFrom_T h l [] ((T l).size + 1) rfl (by omega)
  rw [if_pos rfl] at this
  rw [show nameFrom (T l) ((T l).size + 1) 0 = _ from this]
  cases l with
  | nil => rfl
  | cons c t =>
    have e0 : (tx (c :: t)).isEmpty = false := by
      cases hx : tx (c :: t) with
      | nil => have := tx_len_zero h (by rw [hx]; rfl); cases this
      | cons _ _ => rfl
    rw [e0]
    simp only [List.isEmpty_cons, Bool.not_false, Bool.true_and, Bool.false_or]
    rw [nameA]
    cases hb : begC c
    · rfl
    · rw [if_pos rfl, Bool.true_and]
      rw [Bool.eq_iff_iff]
      simp only [List.all_eq_true, beq_iff_eq, List.cons.injEq, true_and]
      constructor
      · intro ha
        have := takeWhile_run goC t [] ha (fun _ hx => by cases hx)
        simpa using this
      · intro ha x hx
        exact all_takeWhile goC t x (by rw [ha]; exact hx)
theorem splitB_T {l : List Nat} (h : okL l) : splitB (T l).data.toList = isQ l := by
  have hc := cut_tx (q := 58) (by decide) h
  rw [show UInt8.ofNat 58 = 58 from rfl] at hc
  unfold splitB splitP splitN isQ
  rw [T_data, hc]
  cases hm : l.contains 58
  · simp only [Bool.false_eq_true, if_false, Bool.not_false, Bool.true_or, Bool.true_and]
    exact nameB_T h
  · simp only [if_true, Bool.not_true, Bool.false_or]
    have h1 : okL (l.takeWhile (· != 58)) := okL_pre h (List.takeWhile_prefix _)
    have h2 : okL (l.dropWhile (· != 58)).tail := fun c hx => h c ((List.dropWhile_sublist _).subset (List.mem_of_mem_tail hx))
    rw [show (⟨(tx (l.takeWhile (· != 58))).toArray⟩ : ByteArray) = T (l.takeWhile (· != 58)) from rfl, show (⟨(tx (l.dropWhile (· != 58)).tail).toArray⟩ : ByteArray) = T (l.dropWhile (· != 58)).tail from rfl, nameB_T h1, nameB_T h2]
def blankN (x : Nat) : Bool := blankB x
theorem idx_T {l : List Nat} (h : okL l) : ∀ (t p : List Nat) (f : Nat), l = p ++ t → (T l).size ≤ (tx p).length + f →
    Lib.idxFuncFrom blankN false (T l) f (tx p).length = if t.dropWhile blankC = [] then -1 else ((tx (p ++ t.takeWhile blankC)).length : Int)
  | [], p, f, e, hf => by rw [Lib.idxFuncFrom_end _ _ _ _ _ (end_at e)]; rfl
  | c :: t, p, f, e, hf => by
    obtain ⟨hd, hlt, hc, hpos⟩ := dec_at e h
    cases f with
    | zero => omega
    | succ f =>
      have ih := idx_T h t (p ++ [c]) f (by rw [e]; simp) (by rw [tx_snoc]; omega)
      rw [tx_snoc] at ih
      rw [Lib.idxFuncFrom, if_pos hlt, hd]
      simp only
      rw [ih]
      have hb : blankN c = blankC c := blankC_eq c
      rw [hb]
      cases hbc : blankC c
      · rw [if_pos rfl, List.dropWhile_cons_of_neg (by rw [hbc]; decide), if_neg (by simp), List.takeWhile_cons_of_neg (by rw [hbc]; decide), List.append_nil]
      · rw [if_neg (by decide), List.dropWhile_cons_of_pos hbc, List.takeWhile_cons_of_pos hbc, List.append_assoc]
        rfl
theorem trim_T {l : List Nat} (h : okL l) : Lib.trimLeftF blankN (T l) = T (l.dropWhile blankC) := by
  have := idx_T h l [] (T l).size rfl (by omega)
  unfold Lib.trimLeftF Lib.idxFunc
  rw [show Lib.idxFuncFrom blankN false (T l) (T l).size 0 = _ from this]
  by_cases hd : l.dropWhile blankC = []
  · rw [if_pos hd, if_pos rfl, hd]; rfl
  · rw [if_neg hd, if_neg (by omega)]
    rw [List.nil_append, Int.toNat_natCast]
    exact suf_at (List.takeWhile_append_dropWhile).symm
theorem isBlank_runes (w : World) : PredAtRunes Tryz.prog 96 #[] blankN w := fun W x _ _ => by
  refine (isBlank_any x W).mono ?_
  rintro e w' ⟨rfl, rfl⟩
  exact ⟨rfl, 0, rfl⟩
theorem isBlank_enters : ∀ args w, (callFunc 96 args).run Tryz.prog w = .ok (.enter 96 args) w := fun _ _ => by kernel_rfl
/-- Equal texts are of equal characters. -/
theorem tx_inj : ∀ {a b : List Nat}, okL a → okL b → tx a = tx b → a = b
  | [], b, _, hb, e => (tx_len_zero hb (by rw [← e]; rfl)).symm
  | x :: a, [], ha, _, e => by have := tx_len_zero ha (by rw [e]; rfl); exact this
  | x :: a, y :: b, ha, hb, e => by
    have h1 := dec_rune x (charR_ok (ha x (by simp))) (tx a)
    have h2 := dec_rune y (charR_ok (hb y (by simp))) (tx b)
    rw [tx_cons, tx_cons] at e
    rw [e, h2] at h1
    have hxy : y = x := congrArg Prod.fst h1
    subst hxy
    rw [tx_inj (okL_tail ha) (okL_tail hb) (List.append_cancel_left e)]
theorem eq_T {a b : List Nat} (ha : okL a) (hb : okL b) : ((T a).toList == tx b) = (a == b) := by
  rw [T_toList, Bool.eq_iff_iff, beq_iff_eq, beq_iff_eq]
  exact ⟨tx_inj ha hb, fun e => by rw [e]⟩
end Go.Proofs.YtefjfjieoiegnaaGreatDoor
/- Texts that are cut at some signs, told over lists of characters: plain lemmas. -/
namespace Go.Proofs.YtefjfjieoiegnaaGreatDoor
open Go.RowKit
/-- Bytes above 127 begin no sign below 128. -/
theorem index_high (x : UInt8) (s : List UInt8) (hx : x.toNat < 128) : ∀ (m r : List UInt8), (∀ b ∈ m, 128 ≤ b.toNat) → Lib.index (m ++ r) (x :: s) = if Lib.index r (x :: s) = -1 then -1 else Lib.index r (x :: s) + (m.length : Nat)
  | [], r, _ => by
    rw [List.nil_append]
    split
    · assumption
    · simp
  | b :: m, r, h => by
    have ih := index_high x s hx m r (fun c hc => h c (List.mem_cons_of_mem _ hc))
    have hb := h b (by simp)
    have hne : (x == b) = false := by
      rw [beq_eq_false_iff_ne]
      rintro rfl
      omega
    have hp : (x :: s).isPrefixOf (b :: (m ++ r)) = false := by
      show (x == b && s.isPrefixOf (m ++ r)) = false
      rw [hne, Bool.false_and]
    rw [List.cons_append, Lib.index, hp, ih]
    by_cases h1 : Lib.index r (x :: s) = -1
    · simp [h1]
    · have hg := Lib.index_ge r (x :: s)
      have : ¬ (Lib.index r (x :: s) + (m.length : Nat)) = -1 := by omega
      simp [h1, this]
      omega
theorem asc_toNat {c : Nat} (h : c < 128) : (UInt8.ofNat c).toNat = c := u8_nat (by omega)
theorem index_tx (sign : List Nat) (hs : ∀ c ∈ sign, c < 128) (hne : sign ≠ []) : ∀ l : List Nat, okL l →
    (∀ a b, cutL sign l = some (a, b) → Lib.index (tx l) (sign.map UInt8.ofNat) = ((tx a).length : Nat) ∧ l = a ++ sign ++ b) ∧ (cutL sign l = none → Lib.index (tx l) (sign.map UInt8.ofNat) = -1)
  | [], _ => by
    refine ⟨fun a b h => (by rw [cutL] at h; cases h), fun _ => ?_⟩
    rw [tx_nil, Lib.index]
    cases sign with
    | nil => exact absurd rfl hne
    | cons _ _ => rfl
  | c :: t, hl => by
    have hp := pre_tx sign (c :: t) hs hl
    unfold Lib.hasPrefix at hp
    obtain ⟨x, m, hx, _⟩ := runeB_first (charR_ok (hl c (by simp)))
    have ht : tx (c :: t) = x :: (m ++ tx t) := by rw [tx_cons, hx]; rfl
    rw [ht] at hp
    have ih := index_tx sign hs hne t (okL_tail hl)
    by_cases hh : sign.isPrefixOf (c :: t) = true
    · rw [hh] at hp
      rw [cutL, if_pos hh, ht, Lib.index, if_pos hp]
      refine ⟨?_, fun h => by cases h⟩
      intro a b h
      cases h
      refine ⟨rfl, ?_⟩
      obtain ⟨u, hu⟩ := List.isPrefixOf_iff_prefix.1 hh
      rw [← hu, List.drop_left]
      rfl
    · have hf : sign.isPrefixOf (c :: t) = false := Bool.eq_false_iff.2 hh
      rw [hf] at hp
      have hm : Lib.index (m ++ tx t) (sign.map UInt8.ofNat) = if Lib.index (tx t) (sign.map UInt8.ofNat) = -1 then -1 else Lib.index (tx t) (sign.map UInt8.ofNat) + (m.length : Nat) := by
        cases sign with
        | nil => exact absurd rfl hne
        | cons y s =>
          have hy := hs y (by simp)
          rw [List.map_cons]
          refine index_high _ _ (by rw [asc_toNat hy]; exact hy) m _ ?_
          intro b hb
          by_cases h1 : c < 128
          · rw [runeB_one h1] at hx
            cases hx
            cases hb
          · exact runeB_high (charR_ok (hl c (by simp))) (by omega) b (by rw [hx]; simp [hb])
      have hlen : (runeB c).length = m.length + 1 := by rw [hx]; rfl
      rw [cutL, if_neg hh, ht, Lib.index, if_neg (by rw [hp]; decide), hm]
      refine ⟨?_, ?_⟩
      · intro a b h
        cases hc : cutL sign t with
        | none => rw [hc] at h; cases h
        | some ab =>
          obtain ⟨a', b'⟩ := ab
          rw [hc] at h
          cases h
          obtain ⟨e1, e2⟩ := ih.1 a' b' hc
          rw [e1]
          have n1 : ¬ (((tx a').length : Nat) : Int) = -1 := by omega
          have n2 : ¬ ((((tx a').length : Nat) : Int) + (m.length : Nat)) = -1 := by omega
          refine ⟨?_, by rw [e2]; rfl⟩
          rw [if_neg n1, if_neg (by simpa using n2)]
          show _ = (((tx (c :: a')).length : Nat) : Int)
          rw [tx_cons, List.length_append, hlen]
          omega
      · intro h
        cases hc : cutL sign t with
        | none => rw [ih.2 hc]; rfl
        | some ab => rw [hc] at h; cases h
theorem cutL_app {sign l a b : List Nat} (hs : ∀ c ∈ sign, c < 128) (hne : sign ≠ []) (hl : okL l) (h : cutL sign l = some (a, b)) : l = a ++ sign ++ b := ((index_tx sign hs hne l hl).1 a b h).2
theorem sign_len_tx {sign : List Nat} (hs : ∀ c ∈ sign, c < 128) : tx sign = sign.map UInt8.ofNat := by
  induction sign with
  | nil => rfl
  | cons c t ih => rw [tx_cons, runeB_one (hs c (by simp)), ih (fun x hx => hs x (by simp [hx]))]; rfl
/-- A text that is cut at signs below 128. -/
theorem cut_txs (sign : List Nat) (hs : ∀ c ∈ sign, c < 128) (hne : sign ≠ []) (l : List Nat) (hl : okL l) : Lib.cut (tx l) (sign.map UInt8.ofNat) =
    match cutL sign l with | some (a, b) => (tx a, tx b, true) | none => (tx l, [], false) := by
  have h := index_tx sign hs hne l hl
  unfold Lib.cut
  cases hc : cutL sign l with
  | none => rw [h.2 hc]; rfl
  | some ab =>
    obtain ⟨a, b⟩ := ab
    obtain ⟨e1, e2⟩ := h.1 a b hc
    rw [e1, if_pos (by omega)]
    have e3 : tx l = tx a ++ (sign.map UInt8.ofNat ++ tx b) := by
      conv => lhs; rw [e2, tx_append, tx_append, sign_len_tx hs]
      rw [List.append_assoc]
    simp only [Int.toNat_natCast]
    rw [e3, List.take_left, ← List.drop_drop, List.drop_left, List.drop_left]
theorem cutL_len {sign : List Nat} (hne : sign ≠ []) : ∀ {l a b : List Nat}, cutL sign l = some (a, b) → a.length + sign.length ≤ l.length
  | [], a, b, h => by rw [cutL] at h; cases h
  | c :: t, a, b, h => by
    rw [cutL] at h
    split at h
    · rename_i hp
      cases h
      have := (List.isPrefixOf_iff_prefix.1 hp).length_le
      simpa using this
    · cases hc : cutL sign t with
      | none => rw [hc] at h; cases h
      | some ab =>
        rw [hc] at h
        cases h
        have := cutL_len hne (a := ab.1) (b := ab.2) (l := t) (by rw [hc])
        simp only [List.length_cons]
        omega
end Go.Proofs.YtefjfjieoiegnaaGreatDoor
/- Where a reader of XML stands, in memory: its text and its place. -/
namespace Go.Proofs.YtefjfjieoiegnaaGreatDoor
open Go.RowKit
theorem keptC {w w' : World} {p : Addr} {v : Value} (hb : Below w.heap.size w w') (h : w.cell? p = some v) : w'.cell? p = some v := by
  rw [hb.cell (block_lt_of_cell h)]; exact h
theorem keptO {w w' : World} {p : Addr} {v : Value} (hb : Below w.heap.size w w') (h : w.cell? p = some v) (o : w.frozen? p = false) : w'.frozen? p = false := by
  rw [hb.frozen (block_lt_of_cell h)]; exact o
theorem blk_cell {w : World} {p : Nat} {c : Array Value} {t : TypeId} {z : Nat × Nat} (h : w.heap[p]? = some (.cells c t z)) (i : Nat) : w.cell? ⟨p, i, none⟩ = c[i]? := by simp [World.cell?, h]
theorem blk_open {w : World} {p : Nat} {c : Array Value} {t : TypeId} (h : w.heap[p]? = some (.cells c t (0, 0))) (i : Nat) : w.frozen? ⟨p, i, none⟩ = false := by simp [World.frozen?, h]
theorem blk_set {w : World} {p : Nat} {c : Array Value} {t : TypeId} {z : Nat × Nat} (h : w.heap[p]? = some (.cells c t z)) (i : Nat) (v : Value) :
    (w.setCell ⟨p, i, none⟩ v).heap[p]? = some (.cells (c.setIfInBounds i v) t z) := by simp [World.setCell, Array.getElem?_modify, h]
theorem blk_other {w : World} {p k : Nat} (h : k ≠ p) (i : Nat) (v : Value) : (w.setCell ⟨p, i, none⟩ v).heap[k]? = w.heap[k]? := by
  simp [World.setCell, Array.getElem?_modify, Ne.symm h]
theorem blk_size (w : World) (a : Addr) (v : Value) : (w.setCell a v).heap.size = w.heap.size := by simp [World.setCell]
theorem cell_blk {w : World} {p i : Nat} {v : Value} (h : w.cell? ⟨p, i, none⟩ = some v) : ∃ c t z, w.heap[p]? = some (.cells c t z) ∧ c[i]? = some v := by
  unfold World.cell? at h
  split at h
  · rename_i c t z hc
    exact ⟨c, t, z, hc, by simpa using h⟩
  · cases h
/-- A cell that is written with what it holds. -/
theorem set_same {w : World} {p i : Nat} {v : Value} (h : w.cell? ⟨p, i, none⟩ = some v) (k : Nat) : (w.setCell ⟨p, i, none⟩ v).heap[k]? = w.heap[k]? := by
  by_cases hk : k = p
  · subst hk
    obtain ⟨c, t, z, hc, hv⟩ := cell_blk h
    rw [blk_set hc, hc]
    congr 2
    apply Array.ext_getElem?
    intro j
    rw [Array.getElem?_setIfInBounds]
    split
    · rename_i hj; subst hj; rw [hv]; simp [(Array.getElem?_eq_some_iff.1 hv).1]
    · rfl
  · exact blk_other hk i v
theorem set_twice (w : World) (p i : Nat) (u v : Value) (k : Nat) : ((w.setCell ⟨p, i, none⟩ u).setCell ⟨p, i, none⟩ v).heap[k]? = (w.setCell ⟨p, i, none⟩ v).heap[k]? := by
  by_cases hk : k = p
  · subst hk
    cases h : w.heap[k]? with
    | none => simp [World.setCell, Array.getElem?_modify, h]
    | some o =>
      cases o <;> simp [World.setCell, Array.getElem?_modify, h]
  · rw [blk_other hk, blk_other hk, blk_other hk]
/-- The world is the old one, but for the place of the reader p, and new blocks. -/
def Moves (p n : Nat) (w w' : World) : Prop := Below w.heap.size (w.setCell ⟨p, 1, none⟩ (.int .i64 (n : Nat))) w'
/-- A reader's text, and its place in it. -/
structure AtR (w : World) (p : Nat) (pre rest : List Nat) : Prop where
  txt : w.cell? ⟨p, 0, none⟩ = some (.string (T (pre ++ rest)))
  pos : w.cell? ⟨p, 1, none⟩ = some (.int .i64 ((tx pre).length : Nat))
  thaw : w.frozen? ⟨p, 1, none⟩ = false
theorem Moves.below {p n : Nat} {w w' : World} (h : Moves p n w w') : Below (w.setCell ⟨p, 1, none⟩ (.int .i64 (n : Nat))).heap.size (w.setCell ⟨p, 1, none⟩ (.int .i64 (n : Nat))) w' := by
  rw [blk_size]; exact h
theorem Moves.size {p n : Nat} {w w' : World} (h : Moves p n w w') : w.heap.size ≤ w'.heap.size := by
  have := Below.size h
  rwa [blk_size] at this
theorem Moves.block {p n : Nat} {w w' : World} (h : Moves p n w w') {k : Nat} (hk : k < w.heap.size) (hp : k ≠ p) : w'.heap[k]? = w.heap[k]? := by
  rw [Below.block h k hk, blk_other hp]
theorem Moves.own {p n : Nat} {w w' : World} (h : Moves p n w w') {c : Array Value} {t : TypeId} {z : Nat × Nat} (hp : w.heap[p]? = some (.cells c t z)) : w'.heap[p]? = some (.cells (c.setIfInBounds 1 (.int .i64 (n : Nat))) t z) := by
  rw [Below.block h p (Array.getElem?_eq_some_iff.1 hp).1, blk_set hp]
theorem Moves.low {p n B : Nat} {w w' : World} (h : Moves p n w w') (hp : B ≤ p) (hB : B ≤ w.heap.size) : Below B w w' :=
  Below.trans ((Below.refl B w).setCell (p := ⟨p, 1, none⟩) hp _) (Below.mono h hB)
theorem AtR.stay {w w' : World} {p : Nat} {pre rest : List Nat} (h : AtR w p pre rest) (hb : Below w.heap.size w w') : Moves p (tx pre).length w w' :=
  ⟨hb.os, hb.tape, hb.output, by rw [blk_size]; exact hb.size, fun k hk => by rw [hb.block k hk, set_same h.pos]⟩
theorem Moves.then {p n k : Nat} {a b c : World} (h : Moves p n a b) (g : Moves p k b c) : Moves p k a c := by
  refine ⟨g.os.trans h.os, g.tape.trans h.tape, g.output.trans h.output, by rw [blk_size]; exact Nat.le_trans h.size g.size, fun j hj => ?_⟩
  rw [Below.block g j (Nat.lt_of_lt_of_le hj h.size)]
  by_cases hp : j = p
  · subst hp
    have e := Below.block h j hj
    rw [← set_twice a j 1 (.int .i64 (n : Nat)) (.int .i64 (k : Nat)) j]
    unfold World.setCell at e ⊢
    simp only [Array.getElem?_modify, if_true] at e ⊢
    rw [e]
  · rw [blk_other hp, blk_other hp, h.block hj hp]
theorem Moves.still {p n : Nat} {a b c : World} (h : Moves p n a b) (g : Below b.heap.size b c) : Moves p n a c :=
  Below.trans h (Below.mono g h.size)
theorem AtR.moved {w w' : World} {p : Nat} {pre rest pre' rest' : List Nat} (h : AtR w p pre rest) (hm : Moves p (tx pre').length w w') (e : pre' ++ rest' = pre ++ rest) : AtR w' p pre' rest' := by
  obtain ⟨c, t, z, hc, h1⟩ := cell_blk h.pos
  have h0 := h.txt
  have hf := h.thaw
  rw [blk_cell hc] at h0
  have hw := hm.own hc
  have hs : 1 < c.size := (Array.getElem?_eq_some_iff.1 h1).1
  refine ⟨?_, ?_, ?_⟩
  · rw [blk_cell hw, Array.getElem?_setIfInBounds_ne (by decide), h0, e]
  · rw [blk_cell hw, Array.getElem?_setIfInBounds_self_of_lt hs]
  · unfold World.frozen? at hf ⊢
    rw [hc] at hf
    rw [hw]
    exact hf
theorem AtR.keep {w w' : World} {p : Nat} {pre rest : List Nat} (h : AtR w p pre rest) (hb : Below w.heap.size w w') : AtR w' p pre rest := h.moved (h.stay hb) rfl
theorem AtR.lt {w : World} {p : Nat} {pre rest : List Nat} (h : AtR w p pre rest) : p < w.heap.size := block_lt_of_cell h.pos
/-- Behind a store into the place itself. -/
theorem AtR.put {w : World} {p : Nat} {pre rest pre' : List Nat} {n : Nat} (_ : AtR w p pre rest) (e : n = (tx pre').length) : Moves p (tx pre').length w (w.setCell ⟨p, 1, none⟩ (.int .i64 (n : Nat))) := by
  subst e
  exact Below.refl _ _
end Go.Proofs.YtefjfjieoiegnaaGreatDoor
/- The name, the string, the variable, the word that a text begins with, and which word is what: xplex's functions. -/
namespace Go.Proofs.YtefjfjieoiegnaaGreatDoor
open Go.RowKit
theorem okL_tl {l : List Nat} (h : okL l) : okL l.tail := fun c hc => h c (List.mem_of_mem_tail hc)
end Go.Proofs.YtefjfjieoiegnaaGreatDoor
/- The reference's IsName and Split give what the program's give. -/
namespace Go.Proofs.YtefjfjieoiegnaaGreatDoor
open Go.RowKit
theorem refBegins_at (r : Nat) (hr : r ≤ 2147483647) (w : World) :
    Calls Tryz.prog 86 #[.int .i32 r] w fun e w' => e = .returned (.bool (beginB r)) ∧ Below w.heap.size w w' := by
  rw [beginB_eq r (by omega)]; exact refBegins_any r w
theorem refGoesOn_at (r : Nat) (hr : r ≤ 2147483647) (w : World) :
    Calls Tryz.prog 87 #[.int .i32 r] w fun e w' => e = .returned (.bool (goesB r)) ∧ Below w.heap.size w w' := by
  rw [goesB_eq r (by omega)]; exact refGoesOn_any r w
set_option maxHeartbeats 1000000 in
theorem refIsName_any (s : ByteArray) (w : World) (hs : s.size ≤ 4294967280) (hE : Env w) :
    Calls Tryz.prog 48 #[.string s] w fun e w' => e = .returned (.bool (nameB s)) ∧ Below w.heap.size w w' := by
  have HE := hide hE
  clear hE
  have HN := hide (nameB_eq s)
  cases ht : textR s
  · have HT := hide ht
    clear ht
    go_enter Tryz.func48, Tryz.ntmps48
    go_wp2_with fail
    refine (refIsText_any s _ hs (unhide HE)).mono ?_
    rintro e w' ⟨rfl, hb⟩
    rw [unhide HT]
    go_wp2
    go_ret
    exact ⟨ret_bool (by rw [unhide HN, unhide HT]; rfl), hb⟩
  · have HT := hide ht
    clear ht
    by_cases h0 : s.toList = []
    · go_enter Tryz.func48, Tryz.ntmps48
      go_wp2_with fail
      refine (refIsText_any s _ hs (unhide HE)).mono ?_
      rintro e w' ⟨rfl, hb⟩
      rw [unhide HT]
      go_wp2
      go_ret
      have e0 : s.data.toList.isEmpty = true := by rw [← toList_data, h0]; rfl
      exact ⟨ret_bool (by rw [unhide HN, unhide HT, e0]; rfl), hb⟩
    · have h0' : s.toList.isEmpty = false := by cases h : s.toList with | nil => exact absurd h h0 | cons _ _ => rfl
      go_enter Tryz.func48, Tryz.ntmps48
      go_wp2_with fail
      refine (refIsText_any s _ hs (unhide HE)).mono ?_
      rintro e w' ⟨rfl, hb⟩
      rw [unhide HT]
      go_wp2_with fail
      go_loopw [3] (fun i wr => ∃ (pos f : Nat), i = .int .i64 pos ∧ pos ≤ s.size ∧ Below w'.heap.size w' wr ∧ nameFrom s (s.size + 1) 0 = nameFrom s f pos ∧ s.size < pos + f) (fun i wr => s.size - (intOf i).toNat)
      case atStart => exact ⟨0, s.size + 1, rfl, Nat.zero_le _, Below.refl _ _, rfl, by omega⟩
      case round =>
        obtain ⟨pos, f, rfl, hps, hbr, hf, hfu⟩ := hrel
        by_cases hp : pos < s.size
        · have hwd := width_pos s pos hp
          have hdl := decode_le s pos
          obtain ⟨_, _, hwe⟩ := decode_bytes s pos hp
          obtain ⟨g, rfl, hg⟩ := nameFrom_step s f pos hp hfu
          have HF := hide (hf.trans hg)
          clear hf hg
          go_wp2_with fail
          refine (decodeRune_at s pos _ hp (((unhide HE).below hb).below hbr)).mono ?_
          rintro e w1 ⟨rfl, hb1⟩
          generalize hd : Utf8.decode s pos = d at *
          clear hd
          by_cases hz : pos = 0
          · subst hz
            go_wp2_with (first | (go_at_call 86; refine (refBegins_at _ hdl _).mono ?_; rintro e w2 ⟨rfl, hb2⟩) | (go_at_call 87; refine (refGoesOn_at _ hdl _).mono ?_; rintro e w3 ⟨rfl, hb3⟩))
            all_goals first
              | (go_ret
                 refine ⟨ret_bool ?_, Below.then hb (Below.then hbr (Below.then hb1 (by first | exact Below.then hb2 hb3 | exact hb2 | exact hb3)))⟩
                 have key : nameFrom s (s.size + 1) 0 = false := by rw [unhide HF]; simp [*]
                 simp [nameB, key])
              | (exact ⟨⟨0 + d.2, g, by go_num, hwe, Below.then hbr (Below.then hb1 (by first | exact Below.then hb2 hb3 | exact hb2 | exact hb3)), by rw [unhide HF]; simp_all, by omega⟩, by simp [intOf]; omega⟩)
          · have hz' : ((pos : Int) == 0) = false := by simpa using hz
            go_wp2_with (first | (go_at_call 86; refine (refBegins_at _ hdl _).mono ?_; rintro e w2 ⟨rfl, hb2⟩) | (go_at_call 87; refine (refGoesOn_at _ hdl _).mono ?_; rintro e w3 ⟨rfl, hb3⟩))
            all_goals first
              | (go_ret
                 refine ⟨ret_bool ?_, Below.then hb (Below.then hbr (Below.then hb1 (by first | exact Below.then hb2 hb3 | exact hb2 | exact hb3)))⟩
                 have key : nameFrom s (s.size + 1) 0 = false := by rw [unhide HF]; simp [*]
                 simp [nameB, key])
              | (exact ⟨⟨pos + d.2, g, by go_num, hwe, Below.then hbr (Below.then hb1 (by first | exact Below.then hb2 hb3 | exact hb2 | exact hb3)), by rw [unhide HF]; simp_all, by omega⟩, by simp [intOf]; omega⟩)
        · have HF := hide (hf.trans (nameFrom_end s f pos hp))
          clear hf
          go_wp2
          go_ret
          refine ⟨ret_bool ?_, Below.then hb hbr⟩
          have e0 : s.data.toList.isEmpty = false := by rw [← toList_data]; exact h0'
          rw [unhide HN, unhide HT, unhide HF, e0]; rfl
theorem splitV_at (s : ByteArray) (k : Nat) (hk : k < s.size) (hc : (s.get! k).toNat = 58) (hno : ∀ j, j < k → (s.get! j).toNat ≠ 58) :
    splitP s.data.toList = s.data.toList.take k ∧ splitN s.data.toList = s.data.toList.drop (k + 1) ∧ splitB s.data.toList = (nameB ⟨(s.data.toList.take k).toArray⟩ && nameB ⟨(s.data.toList.drop (k + 1)).toArray⟩) := by
  have hl : s.data.toList.length = s.size := rfl
  have h58 : s.data.toList[k]'hk = 58 := by
    rw [get_data s k hk] at hc
    exact UInt8.toNat_inj.1 (show _ = (58 : UInt8).toNat from hc)
  have hn : 58 ∉ s.data.toList.take k := by
    intro hm
    obtain ⟨j, hj, he⟩ := List.getElem_of_mem hm
    rw [List.length_take] at hj
    have := hno j (by omega)
    rw [get_data s j (by omega)] at this
    rw [List.getElem_take] at he
    rw [he] at this
    exact this rfl
  have e : s.data.toList = s.data.toList.take k ++ 58 :: s.data.toList.drop (k + 1) := by
    conv => lhs; rw [← List.take_append_drop k s.data.toList]
    rw [List.drop_eq_getElem_cons (by omega), h58]
  have c := cut_first (s.data.toList.take k) (s.data.toList.drop (k + 1)) 58 hn
  rw [← e] at c
  unfold splitB splitP splitN
  rw [c]
  simp
theorem splitV_none (s : ByteArray) (hno : ∀ j, j < s.size → (s.get! j).toNat ≠ 58) : splitP s.data.toList = [] ∧ splitN s.data.toList = s.data.toList ∧ splitB s.data.toList = nameB s := by
  have hl : s.data.toList.length = s.size := rfl
  have hn : 58 ∉ s.data.toList := by
    intro hm
    obtain ⟨j, hj, he⟩ := List.getElem_of_mem hm
    have := hno j hj
    rw [get_data s j hj, he] at this
    exact this rfl
  have hi : ∀ l : List UInt8, 58 ∉ l → Lib.indexByte l 58 = -1 := by
    intro l
    induction l with
    | nil => intro _; rfl
    | cons x l ih =>
      intro h
      have hx : ¬ (x == 58) = true := fun e => h (by rw [beq_iff_eq.1 e]; simp)
      have := ih (fun hm => h (List.mem_cons_of_mem _ hm))
      simp only [Lib.indexByte, hx, this]
      simp
  have c : Lib.cut s.data.toList [58] = (s.data.toList, [], false) := by
    unfold Lib.cut
    rw [Lib.index_one, hi _ hn, if_neg (by decide)]
  unfold splitB splitP splitN
  rw [c]
  simp
theorem take_extract (s : ByteArray) (k : Nat) : (⟨(s.data.toList.take k).toArray⟩ : ByteArray) = s.extract 0 k := by
  apply ByteArray.ext
  rw [ByteArray.data_extract]
  apply Array.ext'
  simp
theorem drop_extract (s : ByteArray) (k : Nat) : (⟨(s.data.toList.drop k).toArray⟩ : ByteArray) = s.extract k s.size := by
  apply ByteArray.ext
  rw [ByteArray.data_extract]
  apply Array.ext'
  simp [List.take_of_length_le]
set_option maxHeartbeats 1000000 in
theorem refSplit_any (s : ByteArray) (w : World) (hs : s.size ≤ 4294967280) (hE : Env w) :
    Calls Tryz.prog 85 #[.string s] w fun e w' => e = .returned (splitV s.data.toList) ∧ Below w.heap.size w w' := by
  have HE := hide hE
  clear hE
  go_enter Tryz.func85, Tryz.ntmps85
  go_wp2_with fail
  go_loop [5] (fun i => ∃ k : Nat, k ≤ s.size ∧ i = .int .i64 k ∧ ∀ j, j < k → (s.get! j).toNat ≠ 58) (fun i => s.size - (intOf i).toNat)
  case atStart => exact ⟨0, Nat.zero_le _, rfl, fun j hj => by omega⟩
  case round =>
    obtain ⟨k, hk, rfl, hno⟩ := hrel
    by_cases hlt : k < s.size
    · have hg : s.get! k = s[k] := by rw [get_data s k hlt]; rfl
      by_cases hc : (s.get! k).toNat = 58
      · obtain ⟨hsp, hsn, hsb⟩ := splitV_at s k hlt hc hno
        have HP := hide hsp
        have HN := hide hsn
        have HB := hide hsb
        clear hsp hsn hsb hno
        have hc' : ((s[k].toNat : Int) == 58) = true := by rw [← hg, hc]; rfl
        have hlt' : (k : Int) < s.size := by omega
        clear hg hc
        have z1 : (s.extract 0 k).size ≤ 4294967280 := by rw [ByteArray.size_extract]; omega
        have z2 : (s.extract (k + 1) s.size).size ≤ 4294967280 := by rw [ByteArray.size_extract]; omega
        go_wp2_with fail
        refine (refIsName_any (s.extract 0 k) _ z1 (unhide HE)).mono ?_
        rintro e w1 ⟨rfl, hb1⟩
        cases hn : nameB (s.extract 0 k)
        · have HN1 := hide hn
          clear hn
          go_wp2
          go_ret3
          exact ⟨splitV_no (by rw [unhide HB, take_extract, unhide HN1]; rfl), hb1⟩
        · have HN1 := hide hn
          clear hn
          go_wp2_with fail
          refine (refIsName_any (s.extract (k + 1) s.size) _ z2 ((unhide HE).below hb1)).mono ?_
          rintro e w2 ⟨rfl, hb2⟩
          cases hn : nameB (s.extract (k + 1) s.size)
          · have HN2 := hide hn
            clear hn
            go_wp2
            go_ret3
            exact ⟨splitV_no (by rw [unhide HB, take_extract, drop_extract, unhide HN1, unhide HN2]; rfl), Below.then hb1 hb2⟩
          · have HN2 := hide hn
            clear hn
            go_wp2
            go_region
            go_wp2
            go_ret3
            refine ⟨?_, by first | exact (Below.then hb1 hb2).drew | exact Below.then (Below.then hb1 hb2) (below_drewN _ _)⟩
            rw [← splitV_of (unhide HP) (unhide HN) (by rw [unhide HB, take_extract, drop_extract, unhide HN1, unhide HN2]; rfl), take_extract, drop_extract]
            rfl
      · have hc' : ((s[k].toNat : Int) == 58) = false := by rw [← hg]; simp; omega
        have HNO := hide hno
        clear hno
        go_wp2
        go_round
        case rel =>
          refine ⟨k + 1, by omega, by go_num, fun j hj => ?_⟩
          rcases Nat.lt_or_ge j k with h | h
          · exact unhide HNO j h
          · rw [show j = k by omega]; exact hc
        case measure => simp [intOf]; omega
    · have hno' := splitV_none s (fun j hj => hno j (by omega))
      obtain ⟨hsp, hsn, hsb⟩ := hno'
      have HP := hide hsp
      have HN := hide hsn
      have HB := hide hsb
      clear hsp hsn hsb hno
      go_wp2_with fail
      refine (refIsName_any s _ hs (unhide HE)).mono ?_
      rintro e w1 ⟨rfl, hb1⟩
      cases hn : nameB s
      · have HN1 := hide hn
        clear hn
        go_wp2
        go_ret3
        exact ⟨splitV_no (by rw [unhide HB]; exact unhide HN1), hb1⟩
      · have HN1 := hide hn
        clear hn
        go_wp2
        go_ret3
        refine ⟨?_, hb1⟩
        rw [← splitV_of (unhide HP) (unhide HN) (by rw [unhide HB]; exact unhide HN1), mk_data]
        rfl
theorem name_split (s : ByteArray) (h : nameB s = true) : splitB s.data.toList = true := by
  have hn := name_colon s h
  have hno : ∀ j, j < s.size → (s.get! j).toNat ≠ 58 := fun j hj hc => by
    rw [get_data s j hj] at hc
    exact hn (by rw [← UInt8.toNat_inj.1 (show _ = (58 : UInt8).toNat from hc)]; exact List.getElem_mem _)
  rw [(splitV_none s hno).2.2]; exact h
theorem splitV_cases (l : List UInt8) : ∃ p n : ByteArray, splitV l = .tuple #[.string p, .string n, .bool (splitB l)] := by
  unfold splitV
  cases h : splitB l
  · exact ⟨_, _, rfl⟩
  · exact ⟨_, _, rfl⟩
theorem refIsText_same (s : ByteArray) (w : World) (hs : s.size ≤ 4294967280) (hE : Env w) :
    Calls Tryz.prog 45 #[.string s] w fun e w' => e = .returned (.bool (textB s)) ∧ Below w.heap.size w w' := by
  rw [textB_eq]; exact refIsText_any s w hs hE
end Go.Proofs.YtefjfjieoiegnaaGreatDoor
/- The string, the word that a text begins with, and which word is what: xplex's functions. -/
namespace Go.Proofs.YtefjfjieoiegnaaGreatDoor
open Go.RowKit
def strAny (l : List Nat) : Option (List Nat) := match strAt 34 l with | some t => some t | none => strAt 39 l
/-- What stringAhead tells: a text, and whether it is ended. -/
def strV (o : Option (List Nat)) (e : Ending) : Prop := ∃ x b, e = .returned (.tuple #[.string x, .bool b]) ∧ ((∃ t, o = some t ∧ x = T t ∧ b = true) ∨ (o = none ∧ b = false))
theorem strAt_of {q : Nat} {l : List Nat} : strAt q l = if heads q l && l.tail.contains q then some (l.tail.takeWhile (· != q)) else none := rfl
theorem strAt_none {q : Nat} {l : List Nat} (h : heads q l = false) : strAt q l = none := by rw [strAt_of, h, Bool.false_and, if_neg (by decide)]
theorem heads_one {q r : Nat} {l : List Nat} (h : heads q l = true) (hq : r ≠ q) : heads r l = false := by
  rw [heads_true h, heads_cons]; simpa using hq.symm
def cutB (q : Nat) (l : List Nat) : Bool := l.contains q
def cutW (q : Nat) (l : List Nat) : List Nat := if l.contains q then l.takeWhile (· != q) else l
theorem cut_sign (q : Nat) (u : UInt8) (hu : u = UInt8.ofNat q) (hq : q < 128) (l : List Nat) (hl : okL l) (hs : (T l).size ≤ 512) (w : World) (hE : Env w) :
    Calls Tryz.prog 141 #[.string (T l), .string ⟨#[u]⟩] w fun e w' => (∃ y, e = .returned (.tuple #[.string (T (cutW q l)), .string y, .bool (cutB q l)])) ∧ Below w.heap.size w w' := by
  subst hu
  obtain ⟨m, hm⟩ := hE.len
  refine (Tryz.strings_Cut (T l) ⟨#[UInt8.ofNat q]⟩ m w (by omega) hm).mono ?_
  rintro e w' ⟨rfl, nd, rfl⟩
  refine ⟨?_, below_drewN w nd⟩
  rw [T_data, show (⟨#[UInt8.ofNat q]⟩ : ByteArray).data.toList = [UInt8.ofNat q] from rfl, cut_tx hq hl]
  unfold cutW cutB
  cases l.contains q
  · exact ⟨_, rfl⟩
  · exact ⟨_, rfl⟩
theorem hasPrefix_T (a : List Nat) (u : ByteArray) (hu : u.data.toList = a.map UInt8.ofNat) (ha : ∀ c ∈ a, c < 128) (l : List Nat) (hl : okL l) (w : World) :
    Calls Tryz.prog 97 #[.string (T l), .string u] w fun e w' => e = .returned (.bool (a.isPrefixOf l)) ∧ w' = w := by
  refine (Tryz.strings_HasPrefix (T l) u w).mono ?_
  rintro e w' ⟨rfl, rfl⟩
  refine ⟨ret_bool ?_, rfl⟩
  rw [T_data, hu, pre_tx a l ha hl]
theorem isName_T (l : List Nat) (hl : okL l) (hs : (T l).size ≤ 4096) (w : World) (hE : Env w) :
    Calls Tryz.prog 157 #[.string (T l)] w fun e w' => e = .returned (.bool (isNm l)) ∧ Below w.heap.size w w' := by
  rw [← nameB_T hl]
  exact isName_any (T l) w (by unfold maxLen; omega) hE
end Go.Proofs.YtefjfjieoiegnaaGreatDoor
/- A reader's small steps: what it sees, takes, passes by: xmlscan's rest, sees, take, takeTo, blanks, name. -/
namespace Go.Proofs.YtefjfjieoiegnaaGreatDoor
open Go.RowKit
abbrev AtS (w : World) (p : Nat) (s : RS) : Prop := AtR w p s.pre s.rest
/-- A reader of a text of characters that may be, that is not too long. -/
structure Fine (s : RS) : Prop where
  ok : okL (s.pre ++ s.rest)
  le : (T (s.pre ++ s.rest)).size ≤ 32768
theorem adv_whole (s : RS) (n : Nat) : (s.adv n).pre ++ (s.adv n).rest = s.pre ++ s.rest := by
  unfold RS.adv
  simp only
  rw [List.append_assoc, List.take_append_drop]
theorem Fine.adv {s : RS} (h : Fine s) (n : Nat) : Fine (s.adv n) := ⟨by rw [adv_whole]; exact h.ok, by rw [adv_whole]; exact h.le⟩
theorem Fine.okR {s : RS} (h : Fine s) : okL s.rest := okL_right h.ok
theorem Fine.sum {s : RS} (_ : Fine s) : s.place + (T s.rest).size = (T (s.pre ++ s.rest)).size := by
  unfold RS.place
  rw [T_size, T_size, tx_len_app]
theorem Fine.lt {s : RS} (h : Fine s) : s.place + (T s.rest).size ≤ 32768 := by rw [h.sum]; exact h.le
theorem place_adv (s : RS) (n : Nat) : (s.adv n).place = s.place + (T (s.rest.take n)).size := by
  unfold RS.place RS.adv
  simp only
  rw [tx_len_app, T_size]
theorem place_pre (s : RS) {a : List Nat} (h : a <+: s.rest) : (s.adv a.length).place = s.place + (T a).size := by
  rw [place_adv, (List.prefix_iff_eq_take.1 h).symm]
theorem AtR.to {w w' : World} {p : Nat} {s : RS} {n : Nat} (h : AtS w p s) (hm : Moves p (s.adv n).place w w') : AtS w' p (s.adv n) := h.moved hm (adv_whole s n)
theorem asc_size {a : List Nat} {u : ByteArray} (ha : ∀ c ∈ a, c < 128) (hu : u.data.toList = a.map UInt8.ofNat) : (T a).size = u.size := by
  rw [T_size, sign_len_tx ha, ← hu]; rfl
set_option maxHeartbeats 1000000 in
theorem rest_any (p : Nat) (s : RS) (w : World) (h : AtS w p s) :
    Calls Tryz.prog 94 #[.pointer (some ⟨p, 0, none⟩)] w fun e w' => e = .returned (.string (T s.rest)) ∧ Below w.heap.size w w' := by
  have h0 := h.txt
  have h1 := h.pos
  have hle : (tx s.pre).length ≤ (T (s.pre ++ s.rest)).size := by rw [T_size, tx_len_app]; omega
  have HS := hide (T_suf s.pre s.rest)
  clear h
  generalize (tx s.pre).length = n at *
  generalize T (s.pre ++ s.rest) = t at *
  go_enter Tryz.func94, Tryz.ntmps94
  go_wp2_with fail
  go_region
  all_goals go_wp2
  all_goals go_ret
  all_goals exact ⟨ret_str (unhide HS), below_drewN w 1⟩
set_option maxHeartbeats 1000000 in
theorem sees_any (a : List Nat) (u : ByteArray) (hu : u.data.toList = a.map UInt8.ofNat) (ha : ∀ c ∈ a, c < 128) (p : Nat) (s : RS) (w : World) (h : AtS w p s) (hf : Fine s) :
    Calls Tryz.prog 57 #[.pointer (some ⟨p, 0, none⟩), .string u] w fun e w' => e = .returned (.bool (a.isPrefixOf s.rest)) ∧ Below w.heap.size w w' := by
  go_enter Tryz.func57, Tryz.ntmps57
  go_wp2_with fail
  refine (rest_any p s _ h).mono ?_
  rintro e w1 ⟨rfl, hb1⟩
  go_wp2_with fail
  refine (hasPrefix_T a u hu ha s.rest hf.okR _).mono ?_
  rintro e w2 ⟨rfl, rfl⟩
  go_wp2
  go_ret
  exact ⟨rfl, hb1⟩
set_option maxHeartbeats 1000000 in
theorem take_yes (a : List Nat) (u : ByteArray) (hu : u.data.toList = a.map UInt8.ofNat) (ha : ∀ c ∈ a, c < 128) (p : Nat) (s : RS) (w : World) (h : AtS w p s) (hf : Fine s) (hp : a.isPrefixOf s.rest = true) :
    Calls Tryz.prog 101 #[.pointer (some ⟨p, 0, none⟩), .string u] w fun e w' => e = .returned (.bool true) ∧ Moves p (s.adv a.length).place w w' := by
  have HA := hide ha
  have HU := hide hu
  have HF := hide hf
  have hlt := hf.lt
  have hz : (T a).size ≤ (T s.rest).size := size_pre (List.isPrefixOf_iff_prefix.1 hp)
  have hus : u.size = (T a).size := (asc_size ha hu).symm
  have HPL := hide ((place_pre s (List.isPrefixOf_iff_prefix.1 hp)).trans (by rw [← hus]))
  rw [← hus] at hz
  clear ha hu hus
  go_enter Tryz.func101, Tryz.ntmps101
  go_wp2_with fail
  refine (sees_any a u (unhide HU) (unhide HA) p s _ h (unhide HF)).mono ?_
  rintro e w1 ⟨rfl, hb1⟩
  have h1 := h.keep hb1
  have hm := h.stay hb1
  have c1 : w1.cell? ⟨p, 1, none⟩ = some (.int .i64 (s.place : Nat)) := h1.pos
  have o1 := h1.thaw
  rw [hp]
  go_wp2
  go_ret
  refine ⟨rfl, hm.then ?_⟩
  rw [unhide HPL]
  exact Below.refl _ _
set_option maxHeartbeats 1000000 in
theorem take_no (a : List Nat) (u : ByteArray) (hu : u.data.toList = a.map UInt8.ofNat) (ha : ∀ c ∈ a, c < 128) (p : Nat) (s : RS) (w : World) (h : AtS w p s) (hf : Fine s) (hp : a.isPrefixOf s.rest = false) :
    Calls Tryz.prog 101 #[.pointer (some ⟨p, 0, none⟩), .string u] w fun e w' => e = .returned (.bool false) ∧ Below w.heap.size w w' := by
  go_enter Tryz.func101, Tryz.ntmps101
  go_wp2_with fail
  refine (sees_any a u hu ha p s _ h hf).mono ?_
  rintro e w1 ⟨rfl, hb1⟩
  rw [hp]
  go_wp2
  go_ret
  exact ⟨rfl, hb1⟩
end Go.Proofs.YtefjfjieoiegnaaGreatDoor
/- A reader's small steps, more: xmlscan's takeTo, blanks, nameAhead, name, qname. -/
namespace Go.Proofs.YtefjfjieoiegnaaGreatDoor
open Go.RowKit
/-- strings.Cut of a text at signs below 128. -/
theorem cut_T (a : List Nat) (u : ByteArray) (hu : u.data.toList = a.map UInt8.ofNat) (ha : ∀ c ∈ a, c < 128) (hne : a ≠ []) (l : List Nat) (hl : okL l) (hs : (T l).size ≤ 32768) (w : World) (hE : Env w) :
    Calls Tryz.prog 141 #[.string (T l), .string u] w fun e w' => e = .returned (match cutL a l with | some (x, y) => .tuple #[.string (T x), .string (T y), .bool true] | none => .tuple #[.string (T l), .string ⟨#[]⟩, .bool false]) ∧ Below w.heap.size w w' := by
  obtain ⟨m, hm⟩ := hE.len
  refine (Tryz.strings_Cut (T l) u m w (by omega) hm).mono ?_
  rintro e w' ⟨rfl, nd, rfl⟩
  refine ⟨?_, below_drewN w nd⟩
  rw [T_data, hu, cut_txs a ha hne l hl]
  cases cutL a l with
  | none => rfl
  | some xy => rfl
theorem cut_place {a : List Nat} (ha : ∀ c ∈ a, c < 128) (hne : a ≠ []) {s : RS} (hf : Fine s) {x y : List Nat} (hc : cutL a s.rest = some (x, y)) : (s.adv (x.length + a.length)).place = s.place + ((T x).size + (T a).size) ∧ (T x).size + (T a).size ≤ (T s.rest).size := by
  have e := cutL_app ha hne hf.okR hc
  have hp : x ++ a <+: s.rest := ⟨y, by rw [e]⟩
  have := place_pre s hp
  rw [List.length_append, sz_app] at this
  refine ⟨this, ?_⟩
  have hz := size_pre hp
  rwa [sz_app] at hz
set_option maxHeartbeats 1000000 in
theorem takeTo_yes (a : List Nat) (u : ByteArray) (hu : u.data.toList = a.map UInt8.ofNat) (ha : ∀ c ∈ a, c < 128) (hne : a ≠ []) (p : Nat) (s : RS) (x y : List Nat) (w : World) (h : AtS w p s) (hf : Fine s) (hE : Env w) (hc : cutL a s.rest = some (x, y)) :
    Calls Tryz.prog 133 #[.pointer (some ⟨p, 0, none⟩), .string u] w fun e w' => e = .returned (.tuple #[.string (T x), .bool true]) ∧ Moves p (s.adv (x.length + a.length)).place w w' := by
  have HC : Hid _ := hide (fun W hW => cut_T a u hu ha hne s.rest hf.okR (by have := hf.lt; omega) W hW)
  obtain ⟨hpl, hz⟩ := cut_place ha hne hf hc
  have hlt := hf.lt
  have hus : u.size = (T a).size := (asc_size ha hu).symm
  rw [← hus] at hpl hz
  have HPL := hide hpl
  clear hpl hus hu ha hne
  go_enter Tryz.func133, Tryz.ntmps133
  go_wp2_with fail
  refine (rest_any p s _ h).mono ?_
  rintro e w1 ⟨rfl, hb1⟩
  go_wp2_with fail
  refine (unhide HC _ (hE.below hb1)).mono ?_
  rintro e w2 ⟨rfl, hb2⟩
  rw [hc]
  have hbb := Below.then hb1 hb2
  have h1 := h.keep hbb
  have hm := h.stay hbb
  have c1 : w2.cell? ⟨p, 1, none⟩ = some (.int .i64 (s.place : Nat)) := h1.pos
  have o1 := h1.thaw
  go_wp2
  go_ret2
  refine ⟨rfl, hm.then ?_⟩
  rw [unhide HPL]
  exact Below.refl _ _
set_option maxHeartbeats 1000000 in
theorem takeTo_no (a : List Nat) (u : ByteArray) (hu : u.data.toList = a.map UInt8.ofNat) (ha : ∀ c ∈ a, c < 128) (hne : a ≠ []) (p : Nat) (s : RS) (w : World) (h : AtS w p s) (hf : Fine s) (hE : Env w) (hc : cutL a s.rest = none) :
    Calls Tryz.prog 133 #[.pointer (some ⟨p, 0, none⟩), .string u] w fun e w' => e = .returned (.tuple #[.string (T s.rest), .bool false]) ∧ Below w.heap.size w w' := by
  have HC : Hid _ := hide (fun W hW => cut_T a u hu ha hne s.rest hf.okR (by have := hf.lt; omega) W hW)
  go_enter Tryz.func133, Tryz.ntmps133
  go_wp2_with fail
  refine (rest_any p s _ h).mono ?_
  rintro e w1 ⟨rfl, hb1⟩
  go_wp2_with fail
  refine (unhide HC _ (hE.below hb1)).mono ?_
  rintro e w2 ⟨rfl, hb2⟩
  rw [hc]
  go_wp2
  go_ret2
  exact ⟨rfl, Below.then hb1 hb2⟩
theorem blank_place (s : RS) : s.blanks.place = s.place + (T (s.rest.takeWhile blankC)).size := place_pre s (List.takeWhile_prefix _)
theorem blank_split {s : RS} : (T s.rest).size = (T (s.rest.takeWhile blankC)).size + (T (s.rest.dropWhile blankC)).size := by
  rw [← sz_app, List.takeWhile_append_dropWhile]
theorem blanks_rest (s : RS) : s.blanks.rest = s.rest.dropWhile blankC := by
  show s.rest.drop (s.rest.takeWhile blankC).length = _
  have := List.drop_left (l₁ := s.rest.takeWhile blankC) (l₂ := s.rest.dropWhile blankC)
  rwa [List.takeWhile_append_dropWhile] at this
set_option maxHeartbeats 1000000 in
theorem blanks_any (p : Nat) (s : RS) (w : World) (h : AtS w p s) (hf : Fine s) :
    Calls Tryz.prog 56 #[.pointer (some ⟨p, 0, none⟩)] w fun e w' => e = .returned (.bool s.blank) ∧ Moves p s.blanks.place w w' := by
  have HF := hide hf
  have hlt := hf.lt
  have hok := hf.okR
  have HPL := hide (blank_place s)
  have hsp := blank_split (s := s)
  have HBR := hide (blanks_rest s)
  have HB : Hid (s.blank = decide ((T (s.rest.dropWhile blankC)).size < (T s.rest).size)) := by
    refine hide ?_
    unfold RS.blank
    cases hx : s.rest.takeWhile blankC with
    | nil =>
      rw [hx] at hsp
      have : (T []).size = 0 := rfl
      rw [decide_eq_false (by omega)]
      rfl
    | cons c t =>
      have h1 : 0 < (T (c :: t)).size := by
        rw [T_size]
        exact Nat.pos_of_ne_zero fun h0 => by
          have := tx_len_zero (l := c :: t) (okL_pre hok (by rw [← hx]; exact List.takeWhile_prefix _)) h0
          cases this
      rw [hx] at hsp
      rw [decide_eq_true (by omega)]
      rfl
  have hdz : (T (s.rest.dropWhile blankC)).size ≤ (T s.rest).size := by omega
  have e1 : IntKind.i64.wrap (((T s.rest).size : Int) - ((T (s.rest.dropWhile blankC)).size : Int)) = ((T (s.rest.takeWhile blankC)).size : Int) := by rw [IntKind.wrap_i64]; omega
  have e2 : IntKind.i64.wrap ((s.place : Int) + ((T (s.rest.takeWhile blankC)).size : Int)) = ((s.blanks.place : Nat) : Int) := by rw [IntKind.wrap_i64, unhide HPL]; omega
  have HSP := hide hsp
  clear hsp
  have HT : Hid (∀ W : World, Calls Tryz.prog 95 #[.string (T s.rest), .func (.func 96) #[] #[]] W fun e w' => e = .returned (.string (T (s.rest.dropWhile blankC))) ∧ Below W.heap.size W w') := by
    refine hide fun W => ?_
    have := Tryz.strings_TrimLeftFunc_runes 96 #[] isBlank_enters blankN (T s.rest) W (isBlank_runes _)
    rwa [trim_T hok] at this
  have HR : Hid (∀ W : World, Below w.heap.size w W → Calls Tryz.prog 94 #[.pointer (some ⟨p, 0, none⟩)] W fun e w' => e = .returned (.string (T s.rest)) ∧ Below W.heap.size W w') := hide fun W hW => rest_any p s W (h.keep hW)
  have H1 := hide h
  have hp1 : ∀ W : World, Below w.heap.size w W → W.cell? ⟨p, 1, none⟩ = some (.int .i64 (s.place : Nat)) := fun W hW => (h.keep hW).pos
  have hp2 : ∀ W : World, Below w.heap.size w W → W.frozen? ⟨p, 1, none⟩ = false := fun W hW => (h.keep hW).thaw
  have hpz := h.lt
  clear hf hok h
  go_enter Tryz.func56, Tryz.ntmps56
  go_wp2_with fail
  refine (unhide HR _ (Below.refl _ _)).mono ?_
  rintro e w1 ⟨rfl, hb1⟩
  go_wp2_with fail
  have c1 := hp1 _ hb1
  have o1 := hp2 _ hb1
  go_region_with
    (first
      | (go_at_call 94; refine (unhide HR _ hb1.drew).mono ?_; rintro e w2 ⟨rfl, hb2⟩; have hk2 : Below w.heap.size w w2 := Below.trans hb1.drew (hb2.mono hb1.drew.size); have c2 := hp1 _ hk2; have o2 := hp2 _ hk2)
      | (go_at_call 95; refine (unhide HT _).mono ?_; rintro e w3 ⟨rfl, hb3⟩; have hk3 : Below w.heap.size w w3 := Below.trans hk2 (hb3.mono hk2.size); have c3 := hp1 _ hk3; have o3 := hp2 _ hk3))
  all_goals have ha := (unhide H1).moved (pre' := s.blanks.pre) (rest' := s.blanks.rest) (((unhide H1).stay hk3).then (Below.refl _ _)) (adv_whole s _)
  all_goals have hm := ((unhide H1).stay hk3).then (Below.refl w3.heap.size (w3.setCell ⟨p, 1, none⟩ (.int .i64 (s.blanks.place : Nat))))
  all_goals go_wp2_with (go_at_call 94; refine (rest_any p s.blanks _ ha).mono ?_; rintro e w4 ⟨rfl, hb4⟩; rw [unhide HBR])
  all_goals go_ret
  all_goals exact ⟨by rw [unhide HB]; exact ret_bool (by simp), hm.still hb4⟩
end Go.Proofs.YtefjfjieoiegnaaGreatDoor
