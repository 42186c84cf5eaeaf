/- Several texts, laid as one. -/
import Derived.Test.YthkkfldmoflfaaaGreatDoorGam
import Derived.Test.YthkkfldmoflfaaaGreatDoorGai
import Derived.Test.YthkkfldmoflfaaaGreatDoorGaj
/- What the library's functions tell of a text, in terms of its characters: plain lemmas. -/
namespace Go.Proofs.YthkkfldmoflfaaaGreatDoor
open Go.RowKit
theorem runeB_high {c : Nat} (h : okR c) (hc : 128 ≤ c) : ∀ b ∈ runeB c, 128 ≤ b.toNat := by
  unfold okR at h
  by_cases h2 : c < 2048
  · rw [runeB_two hc h2]; intro b hb; simp only [List.mem_cons, List.not_mem_nil, or_false] at hb
    rcases hb with rfl | rfl <;> (rw [u8_nat (by omega)]; omega)
  · by_cases h3 : c < 65536
    · rw [runeB_three (by omega) h3 (by unfold okR; omega)]; intro b hb; simp only [List.mem_cons, List.not_mem_nil, or_false] at hb
      rcases hb with rfl | rfl | rfl <;> (rw [u8_nat (by omega)]; omega)
    · rw [runeB_four (by omega) (by omega)]; intro b hb; simp only [List.mem_cons, List.not_mem_nil, or_false] at hb
      rcases hb with rfl | rfl | rfl | rfl <;> (rw [u8_nat (by omega)]; omega)
theorem mem_tx {q : Nat} (hq : q < 128) : ∀ {l : List Nat}, okL l → (UInt8.ofNat q ∈ tx l ↔ q ∈ l)
  | [], _ => by simp [tx]
  | c :: l, h => by
    have hc := charR_ok (h c (by simp))
    rw [tx_cons, List.mem_append, mem_tx hq (okL_tail h), List.mem_cons]
    by_cases h1 : c < 128
    · rw [runeB_one h1, List.mem_singleton]
      constructor
      · rintro (e | e)
        · have := congrArg UInt8.toNat e
          rw [u8_nat (by omega), u8_nat (by omega)] at this
          exact .inl this
        · exact .inr e
      · rintro (e | e)
        · exact .inl (by rw [e])
        · exact .inr e
    · constructor
      · rintro (e | e)
        · have := runeB_high hc (by omega) _ e
          rw [u8_nat (by omega)] at this
          omega
        · exact .inr e
      · rintro (e | e)
        · omega
        · exact .inr e
theorem indexByte_none : ∀ (l : List UInt8) (c : UInt8), c ∉ l → Lib.indexByte l c = -1
  | [], _, _ => rfl
  | x :: l, c, h => by
    have hx : ¬ (x == c) = true := fun e => h (by rw [beq_iff_eq.1 e]; simp)
    have ih := indexByte_none l c (fun hm => h (List.mem_cons_of_mem _ hm))
    simp only [Lib.indexByte, hx, ih]
    simp
theorem cut_none (l : List UInt8) (c : UInt8) (h : c ∉ l) : Lib.cut l [c] = (l, [], false) := by
  unfold Lib.cut
  rw [Lib.index_one, indexByte_none l c h, if_neg (by decide)]
/-- A text that is cut at a sign below 128. -/
theorem cut_tx {q : Nat} (hq : q < 128) {l : List Nat} (h : okL l) : Lib.cut (tx l) [UInt8.ofNat q] =
    if l.contains q then (tx (l.takeWhile (· != q)), tx (l.dropWhile (· != q)).tail, true) else (tx l, [], false) := by
  by_cases hm : q ∈ l
  · rw [if_pos (List.contains_iff_mem.2 hm)]
    have e := List.takeWhile_append_dropWhile (p := (· != q)) (l := l)
    have hno : q ∉ l.takeWhile (· != q) := fun hx => by have := all_takeWhile (· != q) l q hx; simp at this
    obtain ⟨u, hu⟩ : ∃ u, l.dropWhile (· != q) = q :: u := by
      cases hx : l.dropWhile (· != q) with
      | nil => rw [hx, List.append_nil] at e; rw [← e] at hm; exact absurd hm hno
      | cons c u =>
        have := List.head_dropWhile_not (l := l) (· != q) (by rw [hx]; simp)
        simp only [hx, List.head_cons] at this
        have hc : c = q := by simpa using this
        exact ⟨u, by rw [hc]⟩
    rw [hu, List.tail_cons]
    have e2 : tx l = tx (l.takeWhile (· != q)) ++ UInt8.ofNat q :: tx u := by
      conv => lhs; rw [← e, hu, tx_append, tx_cons, runeB_one hq]
      rfl
    rw [e2]
    exact cut_first _ _ _ (fun hx => hno ((mem_tx hq (okL_pre h (List.takeWhile_prefix _))).1 hx))
  · rw [if_neg (fun hx => hm (List.contains_iff_mem.1 hx))]
    exact cut_none _ _ (fun hx => hm ((mem_tx hq h).1 hx))
theorem valid_T {l : List Nat} (h : okL l) : Lib.validD (tx l) = true := by
  have key : ∀ (t p : List Nat), l = p ++ t → Lib.validD ((T l).data.toList.drop (tx p).length) = true := by
    intro t
    induction t with
    | nil =>
      intro p e
      rw [drop_nil _ _ (end_at e)]
      rfl
    | cons c t ih =>
      intro p e
      obtain ⟨hd, hlt, hc, hpos⟩ := dec_at e h
      rw [validD_at _ _ hlt, hd, if_neg]
      · have := ih (p ++ [c]) (by rw [e]; simp)
        rw [tx_snoc] at this
        exact this
      · rintro ⟨h1, h2⟩
        simp only at h1 h2
        subst h1
        rw [show (runeB 65533).length = 3 from by decide +kernel] at h2
        cases h2
  have := key l [] rfl
  rw [T_data] at this
  simpa [tx] using this
theorem nameFrom_T {l : List Nat} (h : okL l) : ∀ (t p : List Nat) (f : Nat), l = p ++ t → (T l).size < (tx p).length + f →
    nameFrom (T l) f (tx p).length = (if p = [] then (t.isEmpty || (match t with | [] => true | c :: u => begC c && u.all goC)) else t.all goC)
  | [], p, f, e, hf => by
    rw [nameFrom_end _ _ _ (end_at e)]
    split <;> rfl
  | c :: t, p, f, e, hf => by
    obtain ⟨hd, hlt, hc, hpos⟩ := dec_at e h
    obtain ⟨g, rfl, hg⟩ := nameFrom_step (T l) f (tx p).length hlt hf
    have ih := nameFrom_T h t (p ++ [c]) g (by rw [e]; simp) (by rw [tx_snoc]; omega)
    rw [tx_snoc, if_neg (by simp)] at ih
    rw [hg, hd]
    simp only
    rw [ih, begC_eq c hc, goC_eq c hc]
    by_cases hp : p = []
    · rw [if_pos hp, hp]
      cases hb : begC c
      · simp [tx]
      · simp [tx, goC_of_beg hb]
    · rw [if_neg hp]
      have : (((tx p).length : Int) == 0) = false := by
        have := tx_len_zero (okL_left (e ▸ h))
        simp
        intro h0
        exact hp (this (by simpa using h0))
      rw [this, Bool.false_and, Bool.false_or, List.all_cons]
      cases goC c <;> rfl
theorem nameB_T {l : List Nat} (h : okL l) : nameB (T l) = isNm l := by
  unfold nameB isNm
  rw [T_data, valid_T h, Bool.and_true]
  have := nameFrom_T h l [] ((T l).size + 1) rfl (by omega)
  rw [if_pos rfl] at this
  rw [show nameFrom (T l) ((T l).size + 1) 0 = _ from this]
  cases l with
  | nil => rfl
  | cons c t =>
    have e0 : (tx (c :: t)).isEmpty = false := by
      cases hx : tx (c :: t) with
      | nil => have := tx_len_zero h (by rw [hx]; rfl); cases this
      | cons _ _ => rfl
    rw [e0]
    simp only [List.isEmpty_cons, Bool.not_false, Bool.true_and, Bool.false_or]
    rw [nameA]
    cases hb : begC c
    · rfl
    · rw [if_pos rfl, Bool.true_and]
      rw [Bool.eq_iff_iff]
      simp only [List.all_eq_true, beq_iff_eq, List.cons.injEq, true_and]
      constructor
      · intro ha
        have := takeWhile_run goC t [] ha (fun _ hx => by cases hx)
        simpa using this
      · intro ha x hx
        exact all_takeWhile goC t x (by rw [ha]; exact hx)
theorem splitB_T {l : List Nat} (h : okL l) : splitB (T l).data.toList = isQ l := by
  have hc := cut_tx (q := 58) (by decide) h
  rw [show UInt8.ofNat 58 = 58 from rfl] at hc
  unfold splitB splitP splitN isQ
  rw [T_data, hc]
  cases hm : l.contains 58
  · simp only [Bool.false_eq_true, if_false, Bool.not_false, Bool.true_or, Bool.true_and]
    exact nameB_T h
  · simp only [if_true, Bool.not_true, Bool.false_or]
    have h1 : okL (l.takeWhile (· != 58)) := okL_pre h (List.takeWhile_prefix _)
    have h2 : okL (l.dropWhile (· != 58)).tail := fun c hx => h c ((List.dropWhile_sublist _).subset (List.mem_of_mem_tail hx))
    rw [show (⟨(tx (l.takeWhile (· != 58))).toArray⟩ : ByteArray) = T (l.takeWhile (· != 58)) from rfl, show (⟨(tx (l.dropWhile (· != 58)).tail).toArray⟩ : ByteArray) = T (l.dropWhile (· != 58)).tail from rfl, nameB_T h1, nameB_T h2]
def blankN (x : Nat) : Bool := blankB x
theorem idx_T {l : List Nat} (h : okL l) : ∀ (t p : List Nat) (f : Nat), l = p ++ t → (T l).size ≤ (tx p).length + f →
    Lib.idxFuncFrom blankN false (T l) f (tx p).length = if t.dropWhile blankC = [] then -1 else ((tx (p ++ t.takeWhile blankC)).length : Int)
  | [], p, f, e, hf => by rw [Lib.idxFuncFrom_end _ _ _ _ _ (end_at e)]; rfl
  | c :: t, p, f, e, hf => by
    obtain ⟨hd, hlt, hc, hpos⟩ := dec_at e h
    cases f with
    | zero => omega
    | succ f =>
      have ih := idx_T h t (p ++ [c]) f (by rw [e]; simp) (by rw [tx_snoc]; omega)
      rw [tx_snoc] at ih
      rw [Lib.idxFuncFrom, if_pos hlt, hd]
      simp only
      rw [ih]
      have hb : blankN c = blankC c := blankC_eq c
      rw [hb]
      cases hbc : blankC c
      · rw [if_pos rfl, List.dropWhile_cons_of_neg (by rw [hbc]; decide), if_neg (by simp), List.takeWhile_cons_of_neg (by rw [hbc]; decide), List.append_nil]
      · rw [if_neg (by decide), List.dropWhile_cons_of_pos hbc, List.takeWhile_cons_of_pos hbc, List.append_assoc]
        rfl
theorem trim_T {l : List Nat} (h : okL l) : Lib.trimLeftF blankN (T l) = T (l.dropWhile blankC) := by
  have := idx_T h l [] (T l).size rfl (by omega)
  unfold Lib.trimLeftF Lib.idxFunc
  rw [show Lib.idxFuncFrom blankN false (T l) (T l).size 0 = _ from this]
  by_cases hd : l.dropWhile blankC = []
  · rw [if_pos hd, if_pos rfl, hd]; rfl
  · rw [if_neg hd, if_neg (by omega)]
    rw [List.nil_append, Int.toNat_natCast]
    exact suf_at (List.takeWhile_append_dropWhile).symm
theorem isBlank_runes (w : World) : PredAtRunes Tryz.prog 40 #[] blankN w := fun W x _ _ => by
  refine (isBlank_any x W).mono ?_
  rintro e w' ⟨rfl, rfl⟩
  exact ⟨rfl, 0, rfl⟩
theorem isBlank_enters : ∀ args w, (callFunc 40 args).run Tryz.prog w = .ok (.enter 40 args) w := fun _ _ => by kernel_rfl
/-- Equal texts are of equal characters. -/
theorem tx_inj : ∀ {a b : List Nat}, okL a → okL b → tx a = tx b → a = b
  | [], b, _, hb, e => (tx_len_zero hb (by rw [← e]; rfl)).symm
  | x :: a, [], ha, _, e => by have := tx_len_zero ha (by rw [e]; rfl); exact this
  | x :: a, y :: b, ha, hb, e => by
    have h1 := dec_rune x (charR_ok (ha x (by simp))) (tx a)
    have h2 := dec_rune y (charR_ok (hb y (by simp))) (tx b)
    rw [tx_cons, tx_cons] at e
    rw [e, h2] at h1
    have hxy : y = x := congrArg Prod.fst h1
    subst hxy
    rw [tx_inj (okL_tail ha) (okL_tail hb) (List.append_cancel_left e)]
theorem eq_T {a b : List Nat} (ha : okL a) (hb : okL b) : ((T a).toList == tx b) = (a == b) := by
  rw [T_toList, Bool.eq_iff_iff, beq_iff_eq, beq_iff_eq]
  exact ⟨tx_inj ha hb, fun e => by rw [e]⟩
end Go.Proofs.YthkkfldmoflfaaaGreatDoor
/- The tokens that are left: xparse's tokens. -/
namespace Go.Proofs.YthkkfldmoflfaaaGreatDoor
open Go.RowKit
/-- Worlds behind one. -/
structure ClsP (W0 : World) (u : World) : Prop where
  bel : Below W0.heap.size W0 u
theorem pcell {w : World} {p : Nat} {c : Array Value} {t : TypeId} {z : Nat × Nat} (h : w.heap[p]? = some (.cells c t z)) (i : Nat) : w.cell? ⟨p, i, none⟩ = c[i]? := by simp [World.cell?, h]
theorem popen {w : World} {p : Nat} {c : Array Value} {t : TypeId} (h : w.heap[p]? = some (.cells c t (0, 0))) (i : Nat) : w.frozen? ⟨p, i, none⟩ = false := by simp [World.frozen?, h]
theorem pset {w : World} {p : Nat} {c : Array Value} {t : TypeId} {z : Nat × Nat} (h : w.heap[p]? = some (.cells c t z)) (i : Nat) (v : Value) :
    (w.setCell ⟨p, i, none⟩ v).heap[p]? = some (.cells (c.setIfInBounds i v) t z) := by simp [World.setCell, Array.getElem?_modify, h]
theorem pkept {w w' : World} {p : Addr} {v : Value} (hb : Below w.heap.size w w') (h : w.cell? p = some v) : w'.cell? p = some v := by
  rw [hb.cell (block_lt_of_cell h)]; exact h
theorem T_eq2 {a b : List Nat} (ha : okL a) (hb : okL b) : ((T a).toList == (T b).toList) = (a == b) := by
  rw [T_toList, T_toList, Bool.eq_iff_iff, beq_iff_eq, beq_iff_eq]
  exact ⟨fun h => tx_inj ha hb h, fun h => by rw [h]⟩
/-- A parser's block, opened: no token is left. -/
theorem PV.open0 {w : World} {p : Nat} {s : PS} (h : PV w p s) (hs : s.left = []) : ∃ g o c, w.heap[p]? = some (.cells #[.slice (some ⟨g, o, none⟩) 0 c, .int .i64 (s.opn : Nat), .int .i64 (s.dp : Nat)] 48 (0, 0)) := by
  obtain ⟨_, _, v, hb, hk, g, o, c, rfl, _⟩ := h
  rw [hs] at hb
  exact ⟨g, o, c, hb⟩
/-- A parser's block, opened: the first token that is left. -/
theorem PV.open1 {w : World} {p : Nat} {s : PS} {x : Nat × List Nat} {r : List (Nat × List Nat)} (h : PV w p s) (hs : s.left = x :: r) : ∃ g o c a, w.heap[p]? = some (.cells #[.slice (some ⟨g, o, none⟩) (r.length + 1) c, .int .i64 (s.opn : Nat), .int .i64 (s.dp : Nat)] 48 (0, 0)) ∧ okL x.2 ∧ g ≠ p ∧ r.length + 1 ≤ c ∧ c ≤ 9223372036854775807 ∧
    w.cell? ⟨g, o, none⟩ = some (.int .i64 (x.1 : Nat)) ∧ w.cell? ⟨g, o + 1, none⟩ = some (.string (T x.2)) ∧ w.cell? ⟨g, o + 2, none⟩ = some (.int .i64 a) := by
  obtain ⟨_, _, v, hb, hk, g, o, c, rfl, h4, h5, h6, h7, h8⟩ := h
  rw [hs] at hb h4 h8 hk
  obtain ⟨c0, c1, a, c2⟩ := h8 0 x rfl
  exact ⟨g, o, c, a, hb, (hk x (by simp)).1, (by omega), h4, h5, by simpa using c0, by simpa using c1, by simpa using c2⟩
/-- The block behind a token that was taken. -/
theorem PV.next {w : World} {p : Nat} {s : PS} (h : PV w p s) (hs : s.left ≠ []) {g o o' n c : Nat} (hb : w.heap[p]? = some (.cells #[.slice (some ⟨g, o, none⟩) (n + 1) c, .int .i64 (s.opn : Nat), .int .i64 (s.dp : Nat)] 48 (0, 0))) (ho : c = 1 ∨ o' = o + 3) :
    PV (w.setCell ⟨p, 0, none⟩ (.slice (some ⟨g, o', none⟩) n (c - 1))) p s.pop := by
  obtain ⟨h0, h1, v, hb', hk, g', o₂, c', rfl, h4, h5, h6, h7, h8⟩ := h
  rw [hb] at hb'
  injection hb' with hb'
  injection hb' with e _ _
  have e2 := congrArg (fun a => a[0]?) e
  simp only [List.getElem?_toArray, List.getElem?_cons_zero, Option.some.injEq, Value.slice.injEq, Addr.mk.injEq, and_true] at e2
  obtain ⟨⟨rfl, rfl⟩, e3, rfl⟩ := e2
  cases hl : s.left with
  | nil => exact absurd hl hs
  | cons x r =>
    rw [hl] at hk h4 h8 e3
    have hn : n = r.length := by simpa using e3
    subst hn
    have hp : s.pop.left = r := by unfold PS.pop; rw [hl]; rfl
    refine ⟨by rw [hp]; rw [hl] at h0; exact Nat.le_trans (by unfold PS.pop; simp) h0, h1, _, pset hb 0 _, fun y hy => hk y (by rw [hp] at hy; exact List.mem_cons_of_mem _ hy), g, o', c - 1, by rw [hp], ?_, by omega, h6, by simpa using h7, fun i y hy => ?_⟩
    · rw [hp]
      simp only [List.length_cons] at h4
      omega
    · rw [hp] at hy
      have hi : i < r.length := (List.getElem?_eq_some_iff.1 hy).1
      simp only [List.length_cons] at h4
      have ho' : o' = o + 3 := by omega
      subst ho'
      obtain ⟨c0, c1, a, c2⟩ := h8 (i + 1) y hy
      have hne : ∀ j v, w.cell? ⟨g, j, none⟩ = some v → (w.setCell ⟨p, 0, none⟩ (.slice (some ⟨g, o + 3, none⟩) r.length (c - 1))).cell? ⟨g, j, none⟩ = some v := fun j v hv => keptK (Kq.set w p 0 _) hv (by simp only; omega)
      exact ⟨by have := hne _ _ c0; rwa [show o + (i + 1) * 3 = o + 3 + i * 3 by omega] at this, by have := hne _ _ c1; rwa [show o + ((i + 1) * 3 + 1) = o + 3 + (i * 3 + 1) by omega] at this, a, by have := hne _ _ c2; rwa [show o + ((i + 1) * 3 + 2) = o + 3 + (i * 3 + 2) by omega] at this⟩
theorem beq_cast (a b : Nat) : ((a : Int) == (b : Int)) = (a == b) := by
  rw [Bool.eq_iff_iff, beq_iff_eq, beq_iff_eq]
  omega
set_option maxRecDepth 100000 in
set_option maxHeartbeats 4000000 in
theorem psees_any (p k : Nat) (s : PS) (w : World) (h : PV w p s) :
    Calls Tryz.prog 108 #[.pointer (some ⟨p, 0, none⟩), .int .i64 (k : Nat)] w fun e w' => e = .returned (.bool (seesK k s)) ∧ w' = w := by
  cases hs : s.left with
  | nil =>
    obtain ⟨g, o, c, hb⟩ := h.open0 hs
    have c0 : w.cell? ⟨p, 0, none⟩ = some (.slice (some ⟨g, o, none⟩) 0 c) := pcell hb 0
    have e0 : seesK k s = false := by unfold seesK; rw [hs]
    rw [e0]
    clear hb h
    go_enter Tryz.func108, Tryz.ntmps108
    go_wp2_with fail
    go_returns
    exact ⟨rfl, rfl⟩
  | cons x r =>
    obtain ⟨g, o, c, a, hb, hx, hgp, hc, hc2, t0, t1, t2⟩ := h.open1 hs
    have c0 : w.cell? ⟨p, 0, none⟩ = some (.slice (some ⟨g, o, none⟩) (r.length + 1) c) := pcell hb 0
    have e0 : seesK k s = (x.1 == k) := by unfold seesK; rw [hs]
    rw [e0]
    clear hb h hc hc2
    have n1 : (0 : Int) < ((r.length + 1 : Nat) : Int) := by omega
    go_enter Tryz.func108, Tryz.ntmps108
    go_wp2_with fail
    go_returns
    exact ⟨congrArg (fun b => Ending.returned (.bool b)) (beq_cast x.1 k), rfl⟩
set_option maxRecDepth 100000 in
set_option maxHeartbeats 4000000 in
theorem ptake_any (p k : Nat) (t : List Nat) (s : PS) (w : World) (h : PV w p s) (ht : okL t) :
    Calls Tryz.prog 107 #[.pointer (some ⟨p, 0, none⟩), .int .i64 (k : Nat), .string (T t)] w fun e w' => e = .returned (.bool (headIs k t s)) ∧ PV w' p (if headIs k t s then s.pop else s) ∧ Kq (fun j => j = p) w w' := by
  have HS := hide (psees_any p k s w h)
  cases hs : s.left with
  | nil =>
    have e0 : headIs k t s = false := by unfold headIs; rw [hs]
    have e1 : seesK k s = false := by unfold seesK; rw [hs]
    rw [e0]
    rw [e1] at HS
    have HH := hide h
    clear h
    go_enter Tryz.func107, Tryz.ntmps107
    go_wp2_with fail
    refine (unhide HS).mono ?_
    rintro e w1 ⟨rfl, hw⟩
    have hw2 := hw.symm
    subst hw2
    go_wp2_with fail
    go_returns
    exact ⟨rfl, unhide HH, Kq.refl _ _⟩
  | cons x r =>
    have e0 : headIs k t s = (x.1 == k && x.2 == t) := by unfold headIs; rw [hs]
    have e1 : seesK k s = (x.1 == k) := by unfold seesK; rw [hs]
    obtain ⟨g, o, c, a, hb, hx, hgp, hc, hc2, t0, t1, t2⟩ := h.open1 hs
    have HP := hide (fun o' ho => h.next (o' := o') (by rw [hs]; simp) hb ho)
    have HH := hide h
    rw [e0]
    rw [e1] at HS
    have HT := hide (T_eq2 hx ht)
    have c0 : w.cell? ⟨p, 0, none⟩ = some (.slice (some ⟨g, o, none⟩) (r.length + 1) c) := pcell hb 0
    have f0 := popen hb 0
    have n1 : (0 : Int) < ((r.length + 1 : Nat) : Int) := by omega
    have hc1 : c = 1 ∨ 1 < c := by omega
    clear hb h e0 e1 hx hs
    generalize (x.1 == k) = bk at *
    generalize (x.2 == t) = bt at *
    go_enter Tryz.func107, Tryz.ntmps107
    go_wp2_with fail
    refine (unhide HS).mono ?_
    rintro e w1 ⟨rfl, hw⟩
    have hw2 := hw.symm
    subst hw2
    clear hw
    cases bk
    · go_wp2_with fail
      go_returns
      exact ⟨rfl, unhide HH, Kq.refl _ _⟩
    · have HT2 := unhide HT
      cases bt
      · go_wp2_with fail
        go_returns
        exact ⟨rfl, unhide HH, Kq.refl _ _⟩
      · rcases hc1 with rfl | hc1
        · obtain rfl : r = [] := List.length_eq_zero_iff.1 (by omega)
          have HQ := hide (unhide HP o (.inl rfl))
          clear HP hc hc2 n1 HT
          go_wp2_with fail
          go_returns
          exact ⟨rfl, unhide HQ, Kq.set _ _ _ _⟩
        · have HQ := hide (unhide HP (o + 3) (.inr rfl))
          clear HP HT
          go_wp2_with fail
          go_returns
          exact ⟨rfl, unhide HQ, Kq.set _ _ _ _⟩
end Go.Proofs.YthkkfldmoflfaaaGreatDoor
