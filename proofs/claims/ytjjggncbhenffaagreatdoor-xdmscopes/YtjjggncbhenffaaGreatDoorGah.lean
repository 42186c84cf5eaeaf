/- Several texts, laid as one. -/
import Derived.Test.YtjjggncbhenffaaGreatDoorGag
import Derived.Test.YtjjggncbhenffaaGreatDoorGae
import Derived.Test.YtjjggncbhenffaaGreatDoorGad
/- What the library's functions tell of a text, in terms of its characters: plain lemmas. -/
namespace Go.Proofs.YtjjggncbhenffaaGreatDoor
open Go.RowKit
theorem runeB_high {c : Nat} (h : okR c) (hc : 128 ≤ c) : ∀ b ∈ runeB c, 128 ≤ b.toNat := by
  unfold okR at h
  by_cases h2 : c < 2048
  · rw [runeB_two hc h2]; intro b hb; simp only [List.mem_cons, List.not_mem_nil, or_false] at hb
    rcases hb with rfl | rfl <;> (rw [u8_nat (by omega)]; omega)
  · by_cases h3 : c < 65536
    · rw [runeB_three (by omega) h3 (by unfold okR; omega)]; intro b hb; simp only [List.mem_cons, List.not_mem_nil, or_false] at hb
      rcases hb with rfl | rfl | rfl <;> (rw [u8_nat (by omega)]; omega)
    · rw [runeB_four (by omega) (by omega)]; intro b hb; simp only [List.mem_cons, List.not_mem_nil, or_false] at hb
      rcases hb with rfl | rfl | rfl | rfl <;> (rw [u8_nat (by omega)]; omega)
theorem mem_tx {q : Nat} (hq : q < 128) : ∀ {l : List Nat}, okL l → (UInt8.ofNat q ∈ tx l ↔ q ∈ l)
  | [], _ => by simp [tx]
  | c :: l, h => by
    have hc := charR_ok (h c (by simp))
    rw [tx_cons, List.mem_append, mem_tx hq (okL_tail h), List.mem_cons]
    by_cases h1 : c < 128
    · rw [runeB_one h1, List.mem_singleton]
      constructor
      · rintro (e | e)
        · have := congrArg UInt8.toNat e
          rw [u8_nat (by omega), u8_nat (by omega)] at this
          exact .inl this
        · exact .inr e
      · rintro (e | e)
        · exact .inl (by rw [e])
        · exact .inr e
    · constructor
      · rintro (e | e)
        · have := runeB_high hc (by omega) _ e
          rw [u8_nat (by omega)] at this
          omega
        · exact .inr e
      · rintro (e | e)
        · omega
        · exact .inr e
theorem indexByte_none : ∀ (l : List UInt8) (c : UInt8), c ∉ l → Lib.indexByte l c = -1
  | [], _, _ => rfl
  | x :: l, c, h => by
    have hx : ¬ (x == c) = true := fun e => h (by rw [beq_iff_eq.1 e]; simp)
    have ih := indexByte_none l c (fun hm => h (List.mem_cons_of_mem _ hm))
    simp only [Lib.indexByte, hx, ih]
    simp
theorem cut_none (l : List UInt8) (c : UInt8) (h : c ∉ l) : Lib.cut l [c] = (l, [], false) := by
  unfold Lib.cut
  rw [Lib.index_one, indexByte_none l c h, if_neg (by decide)]
/-- A text that is cut at a sign below 128. -/
theorem cut_tx {q : Nat} (hq : q < 128) {l : List Nat} (h : okL l) : Lib.cut (tx l) [UInt8.ofNat q] =
    if l.contains q then (tx (l.takeWhile (· != q)), tx (l.dropWhile (· != q)).tail, true) else (tx l, [], false) := by
  by_cases hm : q ∈ l
  · rw [if_pos (List.contains_iff_mem.2 hm)]
    have e := List.takeWhile_append_dropWhile (p := (· != q)) (l := l)
    have hno : q ∉ l.takeWhile (· != q) := fun hx => by have := all_takeWhile (· != q) l q hx; simp at this
    obtain ⟨u, hu⟩ : ∃ u, l.dropWhile (· != q) = q :: u := by
      cases hx : l.dropWhile (· != q) with
      | nil => rw [hx, List.append_nil] at e; rw [← e] at hm; exact absurd hm hno
      | cons c u =>
        have := List.head_dropWhile_not (l := l) (· != q) (by rw [hx]; simp)
        simp only [hx, List.head_cons] at this
        have hc : c = q := by simpa using this
        exact ⟨u, by rw [hc]⟩
    rw [hu, List.tail_cons]
    have e2 : tx l = tx (l.takeWhile (· != q)) ++ UInt8.ofNat q :: tx u := by
      conv => lhs; rw [← e, hu, tx_append, tx_cons, runeB_one hq]
      rfl
    rw [e2]
    exact cut_first _ _ _ (fun hx => hno ((mem_tx hq (okL_pre h (List.takeWhile_prefix _))).1 hx))
  · rw [if_neg (fun hx => hm (List.contains_iff_mem.1 hx))]
    exact cut_none _ _ (fun hx => hm ((mem_tx hq h).1 hx))
theorem valid_T {l : List Nat} (h : okL l) : Lib.validD (tx l) = true := by
  have key : ∀ (t p : List Nat), l = p ++ t → Lib.validD ((T l).data.toList.drop (tx p).length) = true := by
    intro t
    induction t with
    | nil =>
      intro p e
      rw [drop_nil _ _ (end_at e)]
      rfl
    | cons c t ih =>
      intro p e
      obtain ⟨hd, hlt, hc, hpos⟩ := dec_at e h
      rw [validD_at _ _ hlt, hd, if_neg]
      · have := ih (p ++ [c]) (by rw [e]; simp)
        rw [tx_snoc] at this
        exact this
      · rintro ⟨h1, h2⟩
        simp only at h1 h2
        subst h1
        rw [show (runeB 65533).length = 3 from by decide +kernel] at h2
        cases h2
  have := key l [] rfl
  rw [T_data] at this
  simpa [tx] using this
theorem nameFrom_T {l : List Nat} (h : okL l) : ∀ (t p : List Nat) (f : Nat), l = p ++ t → (T l).size < (tx p).length + f →
    nameFrom (T l) f (tx p).length = (if p = [] then (t.isEmpty || (match t with | [] => true | c :: u => begC c && u.all goC)) else t.all goC)
  | [], p, f, e, hf => by
    rw [nameFrom_end _ _ _ (end_at e)]
    split <;> rfl
  | c :: t, p, f, e, hf => by
    obtain ⟨hd, hlt, hc, hpos⟩ := dec_at e h
    obtain ⟨g, rfl, hg⟩ := nameFrom_step (T l) f (tx p).length hlt hf
    have ih := nameFrom_T h t (p ++ [c]) g (by rw [e]; simp) (by rw [tx_snoc]; omega)
    rw [tx_snoc, if_neg (by simp)] at ih
    rw [hg, hd]
    simp only
    rw [ih, begC_eq c hc, goC_eq c hc]
    by_cases hp : p = []
    · rw [if_pos hp, hp]
      cases hb : begC c
      · simp [tx]
      · simp [tx, goC_of_beg hb]
    · rw [if_neg hp]
      have : (((tx p).length : Int) == 0) = false := by
        have := tx_len_zero (okL_left (e ▸ h))
        simp
        intro h0
        exact hp (this (by simpa using h0))
      rw [this, Bool.false_and, Bool.false_or, List.all_cons]
      cases goC c <;> rfl
theorem nameB_T {l : List Nat} (h : okL l) : nameB (T l) = isNm l := by
  unfold nameB isNm
  rw [T_data, valid_T h, Bool.and_true]
  have := nameFrom_T h l [] ((T l).size + 1) rfl (by omega)
  rw [if_pos rfl] at this
  rw [show nameFrom (T l) ((T l).size + 1) 0 = _ from this]
  cases l with
  | nil => rfl
  | cons c t =>
    have e0 : (tx (c :: t)).isEmpty = false := by
      cases hx : tx (c :: t) with
      | nil => have := tx_len_zero h (by rw [hx]; rfl); cases this
      | cons _ _ => rfl
    rw [e0]
    simp only [List.isEmpty_cons, Bool.not_false, Bool.true_and, Bool.false_or]
    rw [nameA]
    cases hb : begC c
    · rfl
    · rw [if_pos rfl, Bool.true_and]
      rw [Bool.eq_iff_iff]
      simp only [List.all_eq_true, beq_iff_eq, List.cons.injEq, true_and]
      constructor
      · intro ha
        have := takeWhile_run goC t [] ha (fun _ hx => by cases hx)
        simpa using this
      · intro ha x hx
        exact all_takeWhile goC t x (by rw [ha]; exact hx)
theorem splitB_T {l : List Nat} (h : okL l) : splitB (T l).data.toList = isQ l := by
  have hc := cut_tx (q := 58) (by decide) h
  rw [show UInt8.ofNat 58 = 58 from rfl] at hc
  unfold splitB splitP splitN isQ
  rw [T_data, hc]
  cases hm : l.contains 58
  · simp only [Bool.false_eq_true, if_false, Bool.not_false, Bool.true_or, Bool.true_and]
    exact nameB_T h
  · simp only [if_true, Bool.not_true, Bool.false_or]
    have h1 : okL (l.takeWhile (· != 58)) := okL_pre h (List.takeWhile_prefix _)
    have h2 : okL (l.dropWhile (· != 58)).tail := fun c hx => h c ((List.dropWhile_sublist _).subset (List.mem_of_mem_tail hx))
    rw [show (⟨(tx (l.takeWhile (· != 58))).toArray⟩ : ByteArray) = T (l.takeWhile (· != 58)) from rfl, show (⟨(tx (l.dropWhile (· != 58)).tail).toArray⟩ : ByteArray) = T (l.dropWhile (· != 58)).tail from rfl, nameB_T h1, nameB_T h2]
def blankN (x : Nat) : Bool := blankB x
theorem idx_T {l : List Nat} (h : okL l) : ∀ (t p : List Nat) (f : Nat), l = p ++ t → (T l).size ≤ (tx p).length + f →
    Lib.idxFuncFrom blankN false (T l) f (tx p).length = if t.dropWhile blankC = [] then -1 else ((tx (p ++ t.takeWhile blankC)).length : Int)
  | [], p, f, e, hf => by rw [Lib.idxFuncFrom_end _ _ _ _ _ (end_at e)]; rfl
  | c :: t, p, f, e, hf => by
    obtain ⟨hd, hlt, hc, hpos⟩ := dec_at e h
    cases f with
    | zero => omega
    | succ f =>
      have ih := idx_T h t (p ++ [c]) f (by rw [e]; simp) (by rw [tx_snoc]; omega)
      rw [tx_snoc] at ih
      rw [Lib.idxFuncFrom, if_pos hlt, hd]
      simp only
      rw [ih]
      have hb : blankN c = blankC c := blankC_eq c
      rw [hb]
      cases hbc : blankC c
      · rw [if_pos rfl, List.dropWhile_cons_of_neg (by rw [hbc]; decide), if_neg (by simp), List.takeWhile_cons_of_neg (by rw [hbc]; decide), List.append_nil]
      · rw [if_neg (by decide), List.dropWhile_cons_of_pos hbc, List.takeWhile_cons_of_pos hbc, List.append_assoc]
        rfl
theorem trim_T {l : List Nat} (h : okL l) : Lib.trimLeftF blankN (T l) = T (l.dropWhile blankC) := by
  have := idx_T h l [] (T l).size rfl (by omega)
  unfold Lib.trimLeftF Lib.idxFunc
  rw [show Lib.idxFuncFrom blankN false (T l) (T l).size 0 = _ from this]
  by_cases hd : l.dropWhile blankC = []
  · rw [if_pos hd, if_pos rfl, hd]; rfl
  · rw [if_neg hd, if_neg (by omega)]
    rw [List.nil_append, Int.toNat_natCast]
    exact suf_at (List.takeWhile_append_dropWhile).symm
theorem isBlank_runes (w : World) : PredAtRunes Tryz.prog 130 #[] blankN w := fun W x _ _ => by
  refine (isBlank_any x W).mono ?_
  rintro e w' ⟨rfl, rfl⟩
  exact ⟨rfl, 0, rfl⟩
theorem isBlank_enters : ∀ args w, (callFunc 130 args).run Tryz.prog w = .ok (.enter 130 args) w := fun _ _ => by kernel_rfl
/-- Equal texts are of equal characters. -/
theorem tx_inj : ∀ {a b : List Nat}, okL a → okL b → tx a = tx b → a = b
  | [], b, _, hb, e => (tx_len_zero hb (by rw [← e]; rfl)).symm
  | x :: a, [], ha, _, e => by have := tx_len_zero ha (by rw [e]; rfl); exact this
  | x :: a, y :: b, ha, hb, e => by
    have h1 := dec_rune x (charR_ok (ha x (by simp))) (tx a)
    have h2 := dec_rune y (charR_ok (hb y (by simp))) (tx b)
    rw [tx_cons, tx_cons] at e
    rw [e, h2] at h1
    have hxy : y = x := congrArg Prod.fst h1
    subst hxy
    rw [tx_inj (okL_tail ha) (okL_tail hb) (List.append_cancel_left e)]
theorem eq_T {a b : List Nat} (ha : okL a) (hb : okL b) : ((T a).toList == tx b) = (a == b) := by
  rw [T_toList, Bool.eq_iff_iff, beq_iff_eq, beq_iff_eq]
  exact ⟨tx_inj ha hb, fun e => by rw [e]⟩
end Go.Proofs.YtjjggncbhenffaaGreatDoor
/- Texts that are cut at some signs, told over lists of characters: plain lemmas. -/
namespace Go.Proofs.YtjjggncbhenffaaGreatDoor
open Go.RowKit
/-- Bytes above 127 begin no sign below 128. -/
theorem index_high (x : UInt8) (s : List UInt8) (hx : x.toNat < 128) : ∀ (m r : List UInt8), (∀ b ∈ m, 128 ≤ b.toNat) → Lib.index (m ++ r) (x :: s) = if Lib.index r (x :: s) = -1 then -1 else Lib.index r (x :: s) + (m.length : Nat)
  | [], r, _ => by
    rw [List.nil_append]
    split
    · assumption
    · simp
  | b :: m, r, h => by
    have ih := index_high x s hx m r (fun c hc => h c (List.mem_cons_of_mem _ hc))
    have hb := h b (by simp)
    have hne : (x == b) = false := by
      rw [beq_eq_false_iff_ne]
      rintro rfl
      omega
    have hp : (x :: s).isPrefixOf (b :: (m ++ r)) = false := by
      show (x == b && s.isPrefixOf (m ++ r)) = false
      rw [hne, Bool.false_and]
    rw [List.cons_append, Lib.index, hp, ih]
    by_cases h1 : Lib.index r (x :: s) = -1
    · simp [h1]
    · have hg := Lib.index_ge r (x :: s)
      have : ¬ (Lib.index r (x :: s) + (m.length : Nat)) = -1 := by omega
      simp [h1, this]
      omega
theorem asc_toNat {c : Nat} (h : c < 128) : (UInt8.ofNat c).toNat = c := u8_nat (by omega)
theorem index_tx (sign : List Nat) (hs : ∀ c ∈ sign, c < 128) (hne : sign ≠ []) : ∀ l : List Nat, okL l →
    (∀ a b, cutL sign l = some (a, b) → Lib.index (tx l) (sign.map UInt8.ofNat) = ((tx a).length : Nat) ∧ l = a ++ sign ++ b) ∧ (cutL sign l = none → Lib.index (tx l) (sign.map UInt8.ofNat) = -1)
  | [], _ => by
    refine ⟨fun a b h => (by rw [cutL] at h; cases h), fun _ => ?_⟩
    rw [tx_nil, Lib.index]
    cases sign with
    | nil => exact absurd rfl hne
    | cons _ _ => rfl
  | c :: t, hl => by
    have hp := pre_tx sign (c :: t) hs hl
    unfold Lib.hasPrefix at hp
    obtain ⟨x, m, hx, _⟩ := runeB_first (charR_ok (hl c (by simp)))
    have ht : tx (c :: t) = x :: (m ++ tx t) := by rw [tx_cons, hx]; rfl
    rw [ht] at hp
    have ih := index_tx sign hs hne t (okL_tail hl)
    by_cases hh : sign.isPrefixOf (c :: t) = true
    · rw [hh] at hp
      rw [cutL, if_pos hh, ht, Lib.index, if_pos hp]
      refine ⟨?_, fun h => by cases h⟩
      intro a b h
      cases h
      refine ⟨rfl, ?_⟩
      obtain ⟨u, hu⟩ := List.isPrefixOf_iff_prefix.1 hh
      rw [← hu, List.drop_left]
      rfl
    · have hf : sign.isPrefixOf (c :: t) = false := Bool.eq_false_iff.2 hh
      rw [hf] at hp
      have hm : Lib.index (m ++ tx t) (sign.map UInt8.ofNat) = if Lib.index (tx t) (sign.map UInt8.ofNat) = -1 then -1 else Lib.index (tx t) (sign.map UInt8.ofNat) + (m.length : Nat) := by
        cases sign with
        | nil => exact absurd rfl hne
        | cons y s =>
          have hy := hs y (by simp)
          rw [List.map_cons]
          refine index_high _ _ (by rw [asc_toNat hy]; exact hy) m _ ?_
          intro b hb
          by_cases h1 : c < 128
          · rw [runeB_one h1] at hx
            cases hx
            cases hb
          · exact runeB_high (charR_ok (hl c (by simp))) (by omega) b (by rw [hx]; simp [hb])
      have hlen : (runeB c).length = m.length + 1 := by rw [hx]; rfl
      rw [cutL, if_neg hh, ht, Lib.index, if_neg (by rw [hp]; decide), hm]
      refine ⟨?_, ?_⟩
      · intro a b h
        cases hc : cutL sign t with
        | none => rw [hc] at h; cases h
        | some ab =>
          obtain ⟨a', b'⟩ := ab
          rw [hc] at h
          cases h
          obtain ⟨e1, e2⟩ := ih.1 a' b' hc
          rw [e1]
          have n1 : ¬ (((tx a').length : Nat) : Int) = -1 := by omega
          have n2 : ¬ ((((tx a').length : Nat) : Int) + (m.length : Nat)) = -1 := by omega
          refine ⟨?_, by rw [e2]; rfl⟩
          rw [if_neg n1, if_neg (by simpa using n2)]
          show _ = (((tx (c :: a')).length : Nat) : Int)
          rw [tx_cons, List.length_append, hlen]
          omega
      · intro h
        cases hc : cutL sign t with
        | none => rw [ih.2 hc]; rfl
        | some ab => rw [hc] at h; cases h
theorem cutL_app {sign l a b : List Nat} (hs : ∀ c ∈ sign, c < 128) (hne : sign ≠ []) (hl : okL l) (h : cutL sign l = some (a, b)) : l = a ++ sign ++ b := ((index_tx sign hs hne l hl).1 a b h).2
theorem sign_len_tx {sign : List Nat} (hs : ∀ c ∈ sign, c < 128) : tx sign = sign.map UInt8.ofNat := by
  induction sign with
  | nil => rfl
  | cons c t ih => rw [tx_cons, runeB_one (hs c (by simp)), ih (fun x hx => hs x (by simp [hx]))]; rfl
/-- A text that is cut at signs below 128. -/
theorem cut_txs (sign : List Nat) (hs : ∀ c ∈ sign, c < 128) (hne : sign ≠ []) (l : List Nat) (hl : okL l) : Lib.cut (tx l) (sign.map UInt8.ofNat) =
    match cutL sign l with | some (a, b) => (tx a, tx b, true) | none => (tx l, [], false) := by
  have h := index_tx sign hs hne l hl
  unfold Lib.cut
  cases hc : cutL sign l with
  | none => rw [h.2 hc]; rfl
  | some ab =>
    obtain ⟨a, b⟩ := ab
    obtain ⟨e1, e2⟩ := h.1 a b hc
    rw [e1, if_pos (by omega)]
    have e3 : tx l = tx a ++ (sign.map UInt8.ofNat ++ tx b) := by
      conv => lhs; rw [e2, tx_append, tx_append, sign_len_tx hs]
      rw [List.append_assoc]
    simp only [Int.toNat_natCast]
    rw [e3, List.take_left, ← List.drop_drop, List.drop_left, List.drop_left]
end Go.Proofs.YtjjggncbhenffaaGreatDoor
/- Where a reader of XML stands, in memory: its text and its place. -/
namespace Go.Proofs.YtjjggncbhenffaaGreatDoor
open Go.RowKit
theorem keptC {w w' : World} {p : Addr} {v : Value} (hb : Below w.heap.size w w') (h : w.cell? p = some v) : w'.cell? p = some v := by
  rw [hb.cell (block_lt_of_cell h)]; exact h
theorem keptO {w w' : World} {p : Addr} {v : Value} (hb : Below w.heap.size w w') (h : w.cell? p = some v) (o : w.frozen? p = false) : w'.frozen? p = false := by
  rw [hb.frozen (block_lt_of_cell h)]; exact o
theorem blk_cell {w : World} {p : Nat} {c : Array Value} {t : TypeId} {z : Nat × Nat} (h : w.heap[p]? = some (.cells c t z)) (i : Nat) : w.cell? ⟨p, i, none⟩ = c[i]? := by simp [World.cell?, h]
theorem blk_open {w : World} {p : Nat} {c : Array Value} {t : TypeId} (h : w.heap[p]? = some (.cells c t (0, 0))) (i : Nat) : w.frozen? ⟨p, i, none⟩ = false := by simp [World.frozen?, h]
theorem blk_set {w : World} {p : Nat} {c : Array Value} {t : TypeId} {z : Nat × Nat} (h : w.heap[p]? = some (.cells c t z)) (i : Nat) (v : Value) :
    (w.setCell ⟨p, i, none⟩ v).heap[p]? = some (.cells (c.setIfInBounds i v) t z) := by simp [World.setCell, Array.getElem?_modify, h]
theorem blk_other {w : World} {p k : Nat} (h : k ≠ p) (i : Nat) (v : Value) : (w.setCell ⟨p, i, none⟩ v).heap[k]? = w.heap[k]? := by
  simp [World.setCell, Array.getElem?_modify, Ne.symm h]
theorem blk_size (w : World) (a : Addr) (v : Value) : (w.setCell a v).heap.size = w.heap.size := by simp [World.setCell]
theorem cell_blk {w : World} {p i : Nat} {v : Value} (h : w.cell? ⟨p, i, none⟩ = some v) : ∃ c t z, w.heap[p]? = some (.cells c t z) ∧ c[i]? = some v := by
  unfold World.cell? at h
  split at h
  · rename_i c t z hc
    exact ⟨c, t, z, hc, by simpa using h⟩
  · cases h
/-- A cell that is written with what it holds. -/
theorem set_same {w : World} {p i : Nat} {v : Value} (h : w.cell? ⟨p, i, none⟩ = some v) (k : Nat) : (w.setCell ⟨p, i, none⟩ v).heap[k]? = w.heap[k]? := by
  by_cases hk : k = p
  · subst hk
    obtain ⟨c, t, z, hc, hv⟩ := cell_blk h
    rw [blk_set hc, hc]
    congr 2
    apply Array.ext_getElem?
    intro j
    rw [Array.getElem?_setIfInBounds]
    split
    · rename_i hj; subst hj; rw [hv]; simp [(Array.getElem?_eq_some_iff.1 hv).1]
    · rfl
  · exact blk_other hk i v
theorem set_twice (w : World) (p i : Nat) (u v : Value) (k : Nat) : ((w.setCell ⟨p, i, none⟩ u).setCell ⟨p, i, none⟩ v).heap[k]? = (w.setCell ⟨p, i, none⟩ v).heap[k]? := by
  by_cases hk : k = p
  · subst hk
    cases h : w.heap[k]? with
    | none => simp [World.setCell, Array.getElem?_modify, h]
    | some o =>
      cases o <;> simp [World.setCell, Array.getElem?_modify, h]
  · rw [blk_other hk, blk_other hk, blk_other hk]
/-- The world is the old one, but for the place of the reader p, and new blocks. -/
def Moves (p n : Nat) (w w' : World) : Prop := Below w.heap.size (w.setCell ⟨p, 1, none⟩ (.int .i64 (n : Nat))) w'
/-- A reader's text, and its place in it. -/
structure AtR (w : World) (p : Nat) (pre rest : List Nat) : Prop where
  txt : w.cell? ⟨p, 0, none⟩ = some (.string (T (pre ++ rest)))
  pos : w.cell? ⟨p, 1, none⟩ = some (.int .i64 ((tx pre).length : Nat))
  thaw : w.frozen? ⟨p, 1, none⟩ = false
theorem Moves.below {p n : Nat} {w w' : World} (h : Moves p n w w') : Below (w.setCell ⟨p, 1, none⟩ (.int .i64 (n : Nat))).heap.size (w.setCell ⟨p, 1, none⟩ (.int .i64 (n : Nat))) w' := by
  rw [blk_size]; exact h
theorem Moves.size {p n : Nat} {w w' : World} (h : Moves p n w w') : w.heap.size ≤ w'.heap.size := by
  have := Below.size h
  rwa [blk_size] at this
theorem Moves.block {p n : Nat} {w w' : World} (h : Moves p n w w') {k : Nat} (hk : k < w.heap.size) (hp : k ≠ p) : w'.heap[k]? = w.heap[k]? := by
  rw [Below.block h k hk, blk_other hp]
theorem Moves.own {p n : Nat} {w w' : World} (h : Moves p n w w') {c : Array Value} {t : TypeId} {z : Nat × Nat} (hp : w.heap[p]? = some (.cells c t z)) : w'.heap[p]? = some (.cells (c.setIfInBounds 1 (.int .i64 (n : Nat))) t z) := by
  rw [Below.block h p (Array.getElem?_eq_some_iff.1 hp).1, blk_set hp]
theorem Moves.low {p n B : Nat} {w w' : World} (h : Moves p n w w') (hp : B ≤ p) (hB : B ≤ w.heap.size) : Below B w w' :=
  Below.trans ((Below.refl B w).setCell (p := ⟨p, 1, none⟩) hp _) (Below.mono h hB)
theorem AtR.stay {w w' : World} {p : Nat} {pre rest : List Nat} (h : AtR w p pre rest) (hb : Below w.heap.size w w') : Moves p (tx pre).length w w' :=
  ⟨hb.os, hb.tape, hb.output, by rw [blk_size]; exact hb.size, fun k hk => by rw [hb.block k hk, set_same h.pos]⟩
theorem Moves.then {p n k : Nat} {a b c : World} (h : Moves p n a b) (g : Moves p k b c) : Moves p k a c := by
  refine ⟨g.os.trans h.os, g.tape.trans h.tape, g.output.trans h.output, by rw [blk_size]; exact Nat.le_trans h.size g.size, fun j hj => ?_⟩
  rw [Below.block g j (Nat.lt_of_lt_of_le hj h.size)]
  by_cases hp : j = p
  · subst hp
    have e := Below.block h j hj
    rw [← set_twice a j 1 (.int .i64 (n : Nat)) (.int .i64 (k : Nat)) j]
    unfold World.setCell at e ⊢
    simp only [Array.getElem?_modify, if_true] at e ⊢
    rw [e]
  · rw [blk_other hp, blk_other hp, h.block hj hp]
theorem Moves.still {p n : Nat} {a b c : World} (h : Moves p n a b) (g : Below b.heap.size b c) : Moves p n a c :=
  Below.trans h (Below.mono g h.size)
theorem AtR.moved {w w' : World} {p : Nat} {pre rest pre' rest' : List Nat} (h : AtR w p pre rest) (hm : Moves p (tx pre').length w w') (e : pre' ++ rest' = pre ++ rest) : AtR w' p pre' rest' := by
  obtain ⟨c, t, z, hc, h1⟩ := cell_blk h.pos
  have h0 := h.txt
  have hf := h.thaw
  rw [blk_cell hc] at h0
  have hw := hm.own hc
  have hs : 1 < c.size := (Array.getElem?_eq_some_iff.1 h1).1
  refine ⟨?_, ?_, ?_⟩
  · rw [blk_cell hw, Array.getElem?_setIfInBounds_ne (by decide), h0, e]
  · rw [blk_cell hw, Array.getElem?_setIfInBounds_self_of_lt hs]
  · unfold World.frozen? at hf ⊢
    rw [hc] at hf
    rw [hw]
    exact hf
theorem AtR.keep {w w' : World} {p : Nat} {pre rest : List Nat} (h : AtR w p pre rest) (hb : Below w.heap.size w w') : AtR w' p pre rest := h.moved (h.stay hb) rfl
theorem AtR.lt {w : World} {p : Nat} {pre rest : List Nat} (h : AtR w p pre rest) : p < w.heap.size := block_lt_of_cell h.pos
/-- Behind a store into the place itself. -/
theorem AtR.put {w : World} {p : Nat} {pre rest pre' : List Nat} {n : Nat} (_ : AtR w p pre rest) (e : n = (tx pre').length) : Moves p (tx pre').length w (w.setCell ⟨p, 1, none⟩ (.int .i64 (n : Nat))) := by
  subst e
  exact Below.refl _ _
end Go.Proofs.YtjjggncbhenffaaGreatDoor
/- The name, the string, the variable, the word that a text begins with, and which word is what: xplex's functions. -/
namespace Go.Proofs.YtjjggncbhenffaaGreatDoor
open Go.RowKit
theorem okL_tl {l : List Nat} (h : okL l) : okL l.tail := fun c hc => h c (List.mem_of_mem_tail hc)
end Go.Proofs.YtjjggncbhenffaaGreatDoor
