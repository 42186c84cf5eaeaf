/- Several texts, laid as one. -/
import Derived.Test.YthkkfldmoflfaaaGreatDoorGai
/- What the library's functions tell of a text, in terms of its characters: plain lemmas. -/
namespace Go.Proofs.YthkkfldmoflfaaaGreatDoor
open Go.RowKit
theorem runeB_high {c : Nat} (h : okR c) (hc : 128 ≤ c) : ∀ b ∈ runeB c, 128 ≤ b.toNat := by
  unfold okR at h
  by_cases h2 : c < 2048
  · rw [runeB_two hc h2]; intro b hb; simp only [List.mem_cons, List.not_mem_nil, or_false] at hb
    rcases hb with rfl | rfl <;> (rw [u8_nat (by omega)]; omega)
  · by_cases h3 : c < 65536
    · rw [runeB_three (by omega) h3 (by unfold okR; omega)]; intro b hb; simp only [List.mem_cons, List.not_mem_nil, or_false] at hb
      rcases hb with rfl | rfl | rfl <;> (rw [u8_nat (by omega)]; omega)
    · rw [runeB_four (by omega) (by omega)]; intro b hb; simp only [List.mem_cons, List.not_mem_nil, or_false] at hb
      rcases hb with rfl | rfl | rfl | rfl <;> (rw [u8_nat (by omega)]; omega)
theorem mem_tx {q : Nat} (hq : q < 128) : ∀ {l : List Nat}, okL l → (UInt8.ofNat q ∈ tx l ↔ q ∈ l)
  | [], _ => by simp [tx]
  | c :: l, h => by
    have hc := charR_ok (h c (by simp))
    rw [tx_cons, List.mem_append, mem_tx hq (okL_tail h), List.mem_cons]
    by_cases h1 : c < 128
    · rw [runeB_one h1, List.mem_singleton]
      constructor
      · rintro (e | e)
        · have := congrArg UInt8.toNat e
          rw [u8_nat (by omega), u8_nat (by omega)] at this
          exact .inl this
        · exact .inr e
      · rintro (e | e)
        · exact .inl (by rw [e])
        · exact .inr e
    · constructor
      · rintro (e | e)
        · have := runeB_high hc (by omega) _ e
          rw [u8_nat (by omega)] at this
          omega
        · exact .inr e
      · rintro (e | e)
        · omega
        · exact .inr e
theorem indexByte_none : ∀ (l : List UInt8) (c : UInt8), c ∉ l → Lib.indexByte l c = -1
  | [], _, _ => rfl
  | x :: l, c, h => by
    have hx : ¬ (x == c) = true := fun e => h (by rw [beq_iff_eq.1 e]; simp)
    have ih := indexByte_none l c (fun hm => h (List.mem_cons_of_mem _ hm))
    simp only [Lib.indexByte, hx, ih]
    simp
theorem cut_none (l : List UInt8) (c : UInt8) (h : c ∉ l) : Lib.cut l [c] = (l, [], false) := by
  unfold Lib.cut
  rw [Lib.index_one, indexByte_none l c h, if_neg (by decide)]
/-- A text that is cut at a sign below 128. -/
theorem cut_tx {q : Nat} (hq : q < 128) {l : List Nat} (h : okL l) : Lib.cut (tx l) [UInt8.ofNat q] =
    if l.contains q then (tx (l.takeWhile (· != q)), tx (l.dropWhile (· != q)).tail, true) else (tx l, [], false) := by
  by_cases hm : q ∈ l
  · rw [if_pos (List.contains_iff_mem.2 hm)]
    have e := List.takeWhile_append_dropWhile (p := (· != q)) (l := l)
    have hno : q ∉ l.takeWhile (· != q) := fun hx => by have := all_takeWhile (· != q) l q hx; simp at this
    obtain ⟨u, hu⟩ : ∃ u, l.dropWhile (· != q) = q :: u := by
      cases hx : l.dropWhile (· != q) with
      | nil => rw [hx, List.append_nil] at e; rw [← e] at hm; exact absurd hm hno
      | cons c u =>
        have := List.head_dropWhile_not (l := l) (· != q) (by rw [hx]; simp)
        simp only [hx, List.head_cons] at this
        have hc : c = q := by simpa using this
        exact ⟨u, by rw [hc]⟩
    rw [hu, List.tail_cons]
    have e2 : tx l = tx (l.takeWhile (· != q)) ++ UInt8.ofNat q :: tx u := by
      conv => lhs; rw [← e, hu, tx_append, tx_cons, runeB_one hq]
      rfl
    rw [e2]
    exact cut_first _ _ _ (fun hx => hno ((mem_tx hq (okL_pre h (List.takeWhile_prefix _))).1 hx))
  · rw [if_neg (fun hx => hm (List.contains_iff_mem.1 hx))]
    exact cut_none _ _ (fun hx => hm ((mem_tx hq h).1 hx))
theorem valid_T {l : List Nat} (h : okL l) : Lib.validD (tx l) = true := by
  have key : ∀ (t p : List Nat), l = p ++ t → Lib.validD ((T l).data.toList.drop (tx p).length) = true := by
    intro t
    induction t with
    | nil =>
      intro p e
      rw [drop_nil _ _ (end_at e)]
      rfl
    | cons c t ih =>
      intro p e
      obtain ⟨hd, hlt, hc, hpos⟩ := dec_at e h
      rw [validD_at _ _ hlt, hd, if_neg]
      · have := ih (p ++ [c]) (by rw [e]; simp)
        rw [tx_snoc] at this
        exact this
      · rintro ⟨h1, h2⟩
        simp only at h1 h2
        subst h1
        rw [show (runeB 65533).length = 3 from by decide +kernel] at h2
        cases h2
  have := key l [] rfl
  rw [T_data] at this
  simpa [tx] using this
theorem nameFrom_T {l : List Nat} (h : okL l) : ∀ (t p : List Nat) (f : Nat), l = p ++ t → (T l).size < (tx p).length + f →
    nameFrom (T l) f (tx p).length = (if p = [] then (t.isEmpty || (match t with | [] => true | c :: u => begC c && u.all goC)) else t.all goC)
  | [], p, f, e, hf => by
    rw [nameFrom_end _ _ _ (end_at e)]
    split <;> rfl
  | c :: t, p, f, e, hf => by
    obtain ⟨hd, hlt, hc, hpos⟩ := dec_at e h
    obtain ⟨g, rfl, hg⟩ := nameFrom_step (T l) f (tx p).length hlt hf
    have ih := nameFrom_T h t (p ++ [c]) g (by rw [e]; simp) (by rw [tx_snoc]; omega)
    rw [tx_snoc, if_neg (by simp)] at ih
    rw [hg, hd]
    simp only
    rw [ih, begC_eq c hc, goC_eq c hc]
    by_cases hp : p = []
    · rw [if_pos hp, hp]
      cases hb : begC c
      · simp [tx]
      · simp [tx, goC_of_beg hb]
    · rw [if_neg hp]
      have : (((tx p).length : Int) == 0) = false := by
        have := tx_len_zero (okL_left (e ▸ h))
        simp
        intro h0
        exact hp (this (by simpa using h0))
      rw [this, Bool.false_and, Bool.false_or, List.all_cons]
      cases goC c <;> rfl
theorem nameB_T {l : List Nat} (h : okL l) : nameB (T l) = isNm l := by
  unfold nameB isNm
  rw [T_data, valid_T h, Bool.and_true]
  have := nameFrom_T h l [] ((T l).size + 1) rfl (by omega)
  rw [if_pos rfl] at this
  rw [show nameFrom (T l) ((T l).size + 1) 0 = _ from this]
  cases l with
  | nil => rfl
  | cons c t =>
    have e0 : (tx (c :: t)).isEmpty = false := by
      cases hx : tx (c :: t) with
      | nil => have := tx_len_zero h (by rw [hx]; rfl); cases this
      | cons _ _ => rfl
    rw [e0]
    simp only [List.isEmpty_cons, Bool.not_false, Bool.true_and, Bool.false_or]
    rw [nameA]
    cases hb : begC c
    · rfl
    · rw [if_pos rfl, Bool.true_and]
      rw [Bool.eq_iff_iff]
      simp only [List.all_eq_true, beq_iff_eq, List.cons.injEq, true_and]
      constructor
      · intro ha
        have := takeWhile_run goC t [] ha (fun _ hx => by cases hx)
        simpa using this
      · intro ha x hx
        exact all_takeWhile goC t x (by rw [ha]; exact hx)
theorem splitB_T {l : List Nat} (h : okL l) : splitB (T l).data.toList = isQ l := by
  have hc := cut_tx (q := 58) (by decide) h
  rw [show UInt8.ofNat 58 = 58 from rfl] at hc
  unfold splitB splitP splitN isQ
  rw [T_data, hc]
  cases hm : l.contains 58
  · simp only [Bool.false_eq_true, if_false, Bool.not_false, Bool.true_or, Bool.true_and]
    exact nameB_T h
  · simp only [if_true, Bool.not_true, Bool.false_or]
    have h1 : okL (l.takeWhile (· != 58)) := okL_pre h (List.takeWhile_prefix _)
    have h2 : okL (l.dropWhile (· != 58)).tail := fun c hx => h c ((List.dropWhile_sublist _).subset (List.mem_of_mem_tail hx))
    rw [show (⟨(tx (l.takeWhile (· != 58))).toArray⟩ : ByteArray) = T (l.takeWhile (· != 58)) from rfl, show (⟨(tx (l.dropWhile (· != 58)).tail).toArray⟩ : ByteArray) = T (l.dropWhile (· != 58)).tail from rfl, nameB_T h1, nameB_T h2]
def blankN (x : Nat) : Bool := blankB x
theorem idx_T {l : List Nat} (h : okL l) : ∀ (t p : List Nat) (f : Nat), l = p ++ t → (T l).size ≤ (tx p).length + f →
    Lib.idxFuncFrom blankN false (T l) f (tx p).length = if t.dropWhile blankC = [] then -1 else ((tx (p ++ t.takeWhile blankC)).length : Int)
  | [], p, f, e, hf => by rw [Lib.idxFuncFrom_end _ _ _ _ _ (end_at e)]; rfl
  | c :: t, p, f, e, hf => by
    obtain ⟨hd, hlt, hc, hpos⟩ := dec_at e h
    cases f with
    | zero => omega
    | succ f =>
      have ih := idx_T h t (p ++ [c]) f (by rw [e]; simp) (by rw [tx_snoc]; omega)
      rw [tx_snoc] at ih
      rw [Lib.idxFuncFrom, if_pos hlt, hd]
      simp only
      rw [ih]
      have hb : blankN c = blankC c := blankC_eq c
      rw [hb]
      cases hbc : blankC c
      · rw [if_pos rfl, List.dropWhile_cons_of_neg (by rw [hbc]; decide), if_neg (by simp), List.takeWhile_cons_of_neg (by rw [hbc]; decide), List.append_nil]
      · rw [if_neg (by decide), List.dropWhile_cons_of_pos hbc, List.takeWhile_cons_of_pos hbc, List.append_assoc]
        rfl
theorem trim_T {l : List Nat} (h : okL l) : Lib.trimLeftF blankN (T l) = T (l.dropWhile blankC) := by
  have := idx_T h l [] (T l).size rfl (by omega)
  unfold Lib.trimLeftF Lib.idxFunc
  rw [show Lib.idxFuncFrom blankN false (T l) (T l).size 0 = _ from this]
  by_cases hd : l.dropWhile blankC = []
  · rw [if_pos hd, if_pos rfl, hd]; rfl
  · rw [if_neg hd, if_neg (by omega)]
    rw [List.nil_append, Int.toNat_natCast]
    exact suf_at (List.takeWhile_append_dropWhile).symm
theorem isBlank_runes (w : World) : PredAtRunes Tryz.prog 40 #[] blankN w := fun W x _ _ => by
  refine (isBlank_any x W).mono ?_
  rintro e w' ⟨rfl, rfl⟩
  exact ⟨rfl, 0, rfl⟩
theorem isBlank_enters : ∀ args w, (callFunc 40 args).run Tryz.prog w = .ok (.enter 40 args) w := fun _ _ => by kernel_rfl
/-- Equal texts are of equal characters. -/
theorem tx_inj : ∀ {a b : List Nat}, okL a → okL b → tx a = tx b → a = b
  | [], b, _, hb, e => (tx_len_zero hb (by rw [← e]; rfl)).symm
  | x :: a, [], ha, _, e => by have := tx_len_zero ha (by rw [e]; rfl); exact this
  | x :: a, y :: b, ha, hb, e => by
    have h1 := dec_rune x (charR_ok (ha x (by simp))) (tx a)
    have h2 := dec_rune y (charR_ok (hb y (by simp))) (tx b)
    rw [tx_cons, tx_cons] at e
    rw [e, h2] at h1
    have hxy : y = x := congrArg Prod.fst h1
    subst hxy
    rw [tx_inj (okL_tail ha) (okL_tail hb) (List.append_cancel_left e)]
theorem eq_T {a b : List Nat} (ha : okL a) (hb : okL b) : ((T a).toList == tx b) = (a == b) := by
  rw [T_toList, Bool.eq_iff_iff, beq_iff_eq, beq_iff_eq]
  exact ⟨tx_inj ha hb, fun e => by rw [e]⟩
end Go.Proofs.YthkkfldmoflfaaaGreatDoor
/- The name, the string, the variable, the word that a text begins with, and which word is what: xplex's functions. -/
namespace Go.Proofs.YthkkfldmoflfaaaGreatDoor
open Go.RowKit
theorem okL_tl {l : List Nat} (h : okL l) : okL l.tail := fun c hc => h c (List.mem_of_mem_tail hc)
set_option maxHeartbeats 1000000 in
theorem qnameAhead_any (l : List Nat) (w : World) (hl : okL l) (hs : (T l).size ≤ 512) :
    Calls Tryz.prog 73 #[.string (T l)] w fun e w' => e = .returned (.string (T (qnameA l))) ∧ Below w.heap.size w w' := by
  have hp := nameA_pre l
  have hz := size_pre hp
  have HS := hide (suf_drop hp)
  have hod := okL_drop hl (nameA l).length
  have hon := okL_pre hl hp
  have HN := hide (qnameA_eq l)
  have hszd : (T (l.drop (nameA l).length)).size ≤ 512 := by
    have := sz_app (nameA l) (l.drop (nameA l).length)
    rw [pre_drop hp] at this
    omega
  clear hp
  generalize l.drop (nameA l).length = d at *
  go_enter Tryz.func73, Tryz.ntmps73
  go_wp2_with fail
  refine (nameAhead_any l _ hl).mono ?_
  rintro e w1 ⟨rfl, hb1⟩
  generalize nameA l = n at *
  go_wp2_with fail
  rw [unhide HS]
  refine (cutPrefix_one 58 58 rfl (by decide) d hod _).mono ?_
  rintro e w2 ⟨rfl, rfl⟩
  cases hh : heads 58 d
  · have HH := hide hh
    clear hh
    rw [if_neg (by decide)]
    go_wp2_with fail
    refine (nameAhead_any d _ hod).mono ?_
    rintro e w3 ⟨rfl, hb3⟩
    go_wp2
    all_goals
      go_ret
      refine ⟨ret_str ?_, Below.then hb1 hb3⟩
      rw [unhide HN, unhide HH, Bool.false_and, Bool.and_false, if_neg (by decide)]
  · have HH := hide hh
    clear hh
    rw [if_pos rfl]
    have hot := okL_tl hod
    have hst : (T d.tail).size ≤ 512 := by
      have h1 : (T d).size = 1 + (T d.tail).size := by
        conv => lhs; rw [heads_true (unhide HH)]
        exact sz_cons (by decide) _
      omega
    go_wp2_with fail
    refine (nameAhead_any d.tail _ hot).mono ?_
    rintro e w3 ⟨rfl, hb3⟩
    have hoy : okL (nameA d.tail) := okL_pre hot (nameA_pre _)
    have hsy : (T (nameA d.tail)).size ≤ 512 := by have := size_pre (nameA_pre d.tail); omega
    generalize nameA d.tail = y at *
    by_cases hn : n = []
    · have h1 := nil_T hn
      have HY := hide hn
      clear hn
      go_wp2
      go_ret
      refine ⟨ret_str ?_, Below.then hb1 hb3⟩
      rw [unhide HN, unhide HY, List.isEmpty_nil, Bool.not_true, Bool.false_and, if_neg (by decide)]
    · have h1 := ne_T hon hn
      by_cases hy : y = []
      · have h2 := nil_T hy
        have HY := hide hy
        clear hy
        go_wp2
        go_ret
        refine ⟨ret_str ?_, Below.then hb1 hb3⟩
        rw [unhide HN, unhide HY, List.isEmpty_nil, Bool.not_true, Bool.and_false, Bool.and_false, if_neg (by decide)]
      · have h2 := ne_T hoy hy
        have e := unhide HN
        rw [unhide HH, empty_not hn, empty_not hy, Bool.and_self, Bool.and_self, if_pos rfl] at e
        have E := hide e
        clear e
        go_wp2
        go_ret
        refine ⟨ret_str ?_, Below.then hb1 hb3⟩
        rw [unhide E, ← T_app, show T (58 :: y) = T [58] ++ T y from (T_app [58] y).symm, ← ByteArray.append_assoc]
        rfl
set_option maxHeartbeats 1000000 in
theorem variableAhead_any (l : List Nat) (w : World) (hl : okL l) (hs : (T l).size ≤ 512) :
    Calls Tryz.prog 43 #[.string (T l)] w fun e w' => (∃ x b, e = .returned (.tuple #[.string x, .bool b]) ∧ ((∃ t, varA l = some t ∧ x = T t ∧ b = true) ∨ (varA l = none ∧ b = false))) ∧ Below w.heap.size w w' := by
  have hV : varA l = if heads 36 l && !(qnameA l.tail).isEmpty then some (qnameA l.tail) else none := rfl
  have HV := hide hV
  clear hV
  go_enter Tryz.func43, Tryz.ntmps43
  go_wp2_with fail
  refine (cutPrefix_one 36 36 rfl (by decide) l hl _).mono ?_
  rintro e w2 ⟨rfl, rfl⟩
  cases hh : heads 36 l
  · have HH := hide hh
    clear hh
    rw [if_neg (by decide)]
    go_wp2_with fail
    refine (qnameAhead_any l _ hl hs).mono ?_
    rintro e w3 ⟨rfl, hb3⟩
    go_wp2
    go_ret2
    exact ⟨⟨_, _, rfl, .inr ⟨by rw [unhide HV, unhide HH, Bool.false_and, if_neg (by decide)], rfl⟩⟩, hb3⟩
  · have HH := hide hh
    clear hh
    rw [if_pos rfl]
    have hot := okL_tl hl
    have hst : (T l.tail).size ≤ 512 := by
      have h1 : (T l).size = 1 + (T l.tail).size := by
        conv => lhs; rw [heads_true (unhide HH)]
        exact sz_cons (by decide) _
      omega
    have hoy : okL (qnameA l.tail) := okL_pre hot (qnameA_pre _)
    go_wp2_with fail
    refine (qnameAhead_any l.tail _ hot hst).mono ?_
    rintro e w3 ⟨rfl, hb3⟩
    generalize qnameA l.tail = y at *
    by_cases hy : y = []
    · have h2 := nil_T hy
      have HY := hide hy
      clear hy
      go_wp2
      go_ret2
      exact ⟨⟨_, _, rfl, .inr ⟨by rw [unhide HV, unhide HY, List.isEmpty_nil, Bool.not_true, Bool.and_false, if_neg (by decide)], rfl⟩⟩, hb3⟩
    · have h2 := ne_T hoy hy
      have h3 : (T y).toList ≠ [] := fun h => hy ((T_empty hoy).1 h)
      go_wp2
      go_ret2
      exact ⟨⟨_, _, rfl, .inl ⟨y, by rw [unhide HV, unhide HH, empty_not hy, Bool.and_self, if_pos rfl], rfl, rfl⟩⟩, hb3⟩
end Go.Proofs.YthkkfldmoflfaaaGreatDoor
/- The reference's IsName and Split give what the program's give. -/
namespace Go.Proofs.YthkkfldmoflfaaaGreatDoor
open Go.RowKit
theorem refBegins_at (r : Nat) (hr : r ≤ 2147483647) (w : World) :
    Calls Tryz.prog 19 #[.int .i32 r] w fun e w' => e = .returned (.bool (beginB r)) ∧ Below w.heap.size w w' := by
  rw [beginB_eq r (by omega)]; exact refBegins_any r w
theorem refGoesOn_at (r : Nat) (hr : r ≤ 2147483647) (w : World) :
    Calls Tryz.prog 20 #[.int .i32 r] w fun e w' => e = .returned (.bool (goesB r)) ∧ Below w.heap.size w w' := by
  rw [goesB_eq r (by omega)]; exact refGoesOn_any r w
set_option maxHeartbeats 1000000 in
theorem refIsName_any (s : ByteArray) (w : World) (hs : s.size ≤ 4294967280) (hE : Env w) :
    Calls Tryz.prog 9 #[.string s] w fun e w' => e = .returned (.bool (nameB s)) ∧ Below w.heap.size w w' := by
  have HE := hide hE
  clear hE
  have HN := hide (nameB_eq s)
  cases ht : textR s
  · have HT := hide ht
    clear ht
    go_enter Tryz.func9, Tryz.ntmps9
    go_wp2_with fail
    refine (refIsText_any s _ hs (unhide HE)).mono ?_
    rintro e w' ⟨rfl, hb⟩
    rw [unhide HT]
    go_wp2
    go_ret
    exact ⟨ret_bool (by rw [unhide HN, unhide HT]; rfl), hb⟩
  · have HT := hide ht
    clear ht
    by_cases h0 : s.toList = []
    · go_enter Tryz.func9, Tryz.ntmps9
      go_wp2_with fail
      refine (refIsText_any s _ hs (unhide HE)).mono ?_
      rintro e w' ⟨rfl, hb⟩
      rw [unhide HT]
      go_wp2
      go_ret
      have e0 : s.data.toList.isEmpty = true := by rw [← toList_data, h0]; rfl
      exact ⟨ret_bool (by rw [unhide HN, unhide HT, e0]; rfl), hb⟩
    · have h0' : s.toList.isEmpty = false := by cases h : s.toList with | nil => exact absurd h h0 | cons _ _ => rfl
      go_enter Tryz.func9, Tryz.ntmps9
      go_wp2_with fail
      refine (refIsText_any s _ hs (unhide HE)).mono ?_
      rintro e w' ⟨rfl, hb⟩
      rw [unhide HT]
      go_wp2_with fail
      go_loopw [3] (fun i wr => ∃ (pos f : Nat), i = .int .i64 pos ∧ pos ≤ s.size ∧ Below w'.heap.size w' wr ∧ nameFrom s (s.size + 1) 0 = nameFrom s f pos ∧ s.size < pos + f) (fun i wr => s.size - (intOf i).toNat)
      case atStart => exact ⟨0, s.size + 1, rfl, Nat.zero_le _, Below.refl _ _, rfl, by omega⟩
      case round =>
        obtain ⟨pos, f, rfl, hps, hbr, hf, hfu⟩ := hrel
        by_cases hp : pos < s.size
        · have hwd := width_pos s pos hp
          have hdl := decode_le s pos
          obtain ⟨_, _, hwe⟩ := decode_bytes s pos hp
          obtain ⟨g, rfl, hg⟩ := nameFrom_step s f pos hp hfu
          have HF := hide (hf.trans hg)
          clear hf hg
          go_wp2_with fail
          refine (decodeRune_at s pos _ hp (((unhide HE).below hb).below hbr)).mono ?_
          rintro e w1 ⟨rfl, hb1⟩
          generalize hd : Utf8.decode s pos = d at *
          clear hd
          by_cases hz : pos = 0
          · subst hz
            go_wp2_with (first | (go_at_call 19; refine (refBegins_at _ hdl _).mono ?_; rintro e w2 ⟨rfl, hb2⟩) | (go_at_call 20; refine (refGoesOn_at _ hdl _).mono ?_; rintro e w3 ⟨rfl, hb3⟩))
            all_goals first
              | (go_ret
                 refine ⟨ret_bool ?_, Below.then hb (Below.then hbr (Below.then hb1 (by first | exact Below.then hb2 hb3 | exact hb2 | exact hb3)))⟩
                 have key : nameFrom s (s.size + 1) 0 = false := by rw [unhide HF]; simp [*]
                 simp [nameB, key])
              | (exact ⟨⟨0 + d.2, g, by go_num, hwe, Below.then hbr (Below.then hb1 (by first | exact Below.then hb2 hb3 | exact hb2 | exact hb3)), by rw [unhide HF]; simp_all, by omega⟩, by simp [intOf]; omega⟩)
          · have hz' : ((pos : Int) == 0) = false := by simpa using hz
            go_wp2_with (first | (go_at_call 19; refine (refBegins_at _ hdl _).mono ?_; rintro e w2 ⟨rfl, hb2⟩) | (go_at_call 20; refine (refGoesOn_at _ hdl _).mono ?_; rintro e w3 ⟨rfl, hb3⟩))
            all_goals first
              | (go_ret
                 refine ⟨ret_bool ?_, Below.then hb (Below.then hbr (Below.then hb1 (by first | exact Below.then hb2 hb3 | exact hb2 | exact hb3)))⟩
                 have key : nameFrom s (s.size + 1) 0 = false := by rw [unhide HF]; simp [*]
                 simp [nameB, key])
              | (exact ⟨⟨pos + d.2, g, by go_num, hwe, Below.then hbr (Below.then hb1 (by first | exact Below.then hb2 hb3 | exact hb2 | exact hb3)), by rw [unhide HF]; simp_all, by omega⟩, by simp [intOf]; omega⟩)
        · have HF := hide (hf.trans (nameFrom_end s f pos hp))
          clear hf
          go_wp2
          go_ret
          refine ⟨ret_bool ?_, Below.then hb hbr⟩
          have e0 : s.data.toList.isEmpty = false := by rw [← toList_data]; exact h0'
          rw [unhide HN, unhide HT, unhide HF, e0]; rfl
theorem splitV_at (s : ByteArray) (k : Nat) (hk : k < s.size) (hc : (s.get! k).toNat = 58) (hno : ∀ j, j < k → (s.get! j).toNat ≠ 58) :
    splitP s.data.toList = s.data.toList.take k ∧ splitN s.data.toList = s.data.toList.drop (k + 1) ∧ splitB s.data.toList = (nameB ⟨(s.data.toList.take k).toArray⟩ && nameB ⟨(s.data.toList.drop (k + 1)).toArray⟩) := by
  have hl : s.data.toList.length = s.size := rfl
  have h58 : s.data.toList[k]'hk = 58 := by
    rw [get_data s k hk] at hc
    exact UInt8.toNat_inj.1 (show _ = (58 : UInt8).toNat from hc)
  have hn : 58 ∉ s.data.toList.take k := by
    intro hm
    obtain ⟨j, hj, he⟩ := List.getElem_of_mem hm
    rw [List.length_take] at hj
    have := hno j (by omega)
    rw [get_data s j (by omega)] at this
    rw [List.getElem_take] at he
    rw [he] at this
    exact this rfl
  have e : s.data.toList = s.data.toList.take k ++ 58 :: s.data.toList.drop (k + 1) := by
    conv => lhs; rw [← List.take_append_drop k s.data.toList]
    rw [List.drop_eq_getElem_cons (by omega), h58]
  have c := cut_first (s.data.toList.take k) (s.data.toList.drop (k + 1)) 58 hn
  rw [← e] at c
  unfold splitB splitP splitN
  rw [c]
  simp
theorem splitV_none (s : ByteArray) (hno : ∀ j, j < s.size → (s.get! j).toNat ≠ 58) : splitP s.data.toList = [] ∧ splitN s.data.toList = s.data.toList ∧ splitB s.data.toList = nameB s := by
  have hl : s.data.toList.length = s.size := rfl
  have hn : 58 ∉ s.data.toList := by
    intro hm
    obtain ⟨j, hj, he⟩ := List.getElem_of_mem hm
    have := hno j hj
    rw [get_data s j hj, he] at this
    exact this rfl
  have hi : ∀ l : List UInt8, 58 ∉ l → Lib.indexByte l 58 = -1 := by
    intro l
    induction l with
    | nil => intro _; rfl
    | cons x l ih =>
      intro h
      have hx : ¬ (x == 58) = true := fun e => h (by rw [beq_iff_eq.1 e]; simp)
      have := ih (fun hm => h (List.mem_cons_of_mem _ hm))
      simp only [Lib.indexByte, hx, this]
      simp
  have c : Lib.cut s.data.toList [58] = (s.data.toList, [], false) := by
    unfold Lib.cut
    rw [Lib.index_one, hi _ hn, if_neg (by decide)]
  unfold splitB splitP splitN
  rw [c]
  simp
theorem take_extract (s : ByteArray) (k : Nat) : (⟨(s.data.toList.take k).toArray⟩ : ByteArray) = s.extract 0 k := by
  apply ByteArray.ext
  rw [ByteArray.data_extract]
  apply Array.ext'
  simp
theorem drop_extract (s : ByteArray) (k : Nat) : (⟨(s.data.toList.drop k).toArray⟩ : ByteArray) = s.extract k s.size := by
  apply ByteArray.ext
  rw [ByteArray.data_extract]
  apply Array.ext'
  simp [List.take_of_length_le]
set_option maxHeartbeats 1000000 in
theorem refSplit_any (s : ByteArray) (w : World) (hs : s.size ≤ 4294967280) (hE : Env w) :
    Calls Tryz.prog 98 #[.string s] w fun e w' => e = .returned (splitV s.data.toList) ∧ Below w.heap.size w w' := by
  have HE := hide hE
  clear hE
  go_enter Tryz.func98, Tryz.ntmps98
  go_wp2_with fail
  go_loop [5] (fun i => ∃ k : Nat, k ≤ s.size ∧ i = .int .i64 k ∧ ∀ j, j < k → (s.get! j).toNat ≠ 58) (fun i => s.size - (intOf i).toNat)
  case atStart => exact ⟨0, Nat.zero_le _, rfl, fun j hj => by omega⟩
  case round =>
    obtain ⟨k, hk, rfl, hno⟩ := hrel
    by_cases hlt : k < s.size
    · have hg : s.get! k = s[k] := by rw [get_data s k hlt]; rfl
      by_cases hc : (s.get! k).toNat = 58
      · obtain ⟨hsp, hsn, hsb⟩ := splitV_at s k hlt hc hno
        have HP := hide hsp
        have HN := hide hsn
        have HB := hide hsb
        clear hsp hsn hsb hno
        have hc' : ((s[k].toNat : Int) == 58) = true := by rw [← hg, hc]; rfl
        have hlt' : (k : Int) < s.size := by omega
        clear hg hc
        have z1 : (s.extract 0 k).size ≤ 4294967280 := by rw [ByteArray.size_extract]; omega
        have z2 : (s.extract (k + 1) s.size).size ≤ 4294967280 := by rw [ByteArray.size_extract]; omega
        go_wp2_with fail
        refine (refIsName_any (s.extract 0 k) _ z1 (unhide HE)).mono ?_
        rintro e w1 ⟨rfl, hb1⟩
        cases hn : nameB (s.extract 0 k)
        · have HN1 := hide hn
          clear hn
          go_wp2
          go_ret3
          exact ⟨splitV_no (by rw [unhide HB, take_extract, unhide HN1]; rfl), hb1⟩
        · have HN1 := hide hn
          clear hn
          go_wp2_with fail
          refine (refIsName_any (s.extract (k + 1) s.size) _ z2 ((unhide HE).below hb1)).mono ?_
          rintro e w2 ⟨rfl, hb2⟩
          cases hn : nameB (s.extract (k + 1) s.size)
          · have HN2 := hide hn
            clear hn
            go_wp2
            go_ret3
            exact ⟨splitV_no (by rw [unhide HB, take_extract, drop_extract, unhide HN1, unhide HN2]; rfl), Below.then hb1 hb2⟩
          · have HN2 := hide hn
            clear hn
            go_wp2
            go_region
            go_wp2
            go_ret3
            refine ⟨?_, by first | exact (Below.then hb1 hb2).drew | exact Below.then (Below.then hb1 hb2) (below_drewN _ _)⟩
            rw [← splitV_of (unhide HP) (unhide HN) (by rw [unhide HB, take_extract, drop_extract, unhide HN1, unhide HN2]; rfl), take_extract, drop_extract]
            rfl
      · have hc' : ((s[k].toNat : Int) == 58) = false := by rw [← hg]; simp; omega
        have HNO := hide hno
        clear hno
        go_wp2
        go_round
        case rel =>
          refine ⟨k + 1, by omega, by go_num, fun j hj => ?_⟩
          rcases Nat.lt_or_ge j k with h | h
          · exact unhide HNO j h
          · rw [show j = k by omega]; exact hc
        case measure => simp [intOf]; omega
    · have hno' := splitV_none s (fun j hj => hno j (by omega))
      obtain ⟨hsp, hsn, hsb⟩ := hno'
      have HP := hide hsp
      have HN := hide hsn
      have HB := hide hsb
      clear hsp hsn hsb hno
      go_wp2_with fail
      refine (refIsName_any s _ hs (unhide HE)).mono ?_
      rintro e w1 ⟨rfl, hb1⟩
      cases hn : nameB s
      · have HN1 := hide hn
        clear hn
        go_wp2
        go_ret3
        exact ⟨splitV_no (by rw [unhide HB]; exact unhide HN1), hb1⟩
      · have HN1 := hide hn
        clear hn
        go_wp2
        go_ret3
        refine ⟨?_, hb1⟩
        rw [← splitV_of (unhide HP) (unhide HN) (by rw [unhide HB]; exact unhide HN1), mk_data]
        rfl
theorem splitV_cases (l : List UInt8) : ∃ p n : ByteArray, splitV l = .tuple #[.string p, .string n, .bool (splitB l)] := by
  unfold splitV
  cases h : splitB l
  · exact ⟨_, _, rfl⟩
  · exact ⟨_, _, rfl⟩
theorem refIsText_same (s : ByteArray) (w : World) (hs : s.size ≤ 4294967280) (hE : Env w) :
    Calls Tryz.prog 17 #[.string s] w fun e w' => e = .returned (.bool (textB s)) ∧ Below w.heap.size w w' := by
  rw [textB_eq]; exact refIsText_any s w hs hE
end Go.Proofs.YthkkfldmoflfaaaGreatDoor
