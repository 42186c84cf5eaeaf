/- Several texts, laid as one. -/
import Derived.Test.YtnmcambbpgoodaaGreatDoorGaj
import Derived.Test.YtnmcambbpgoodaaGreatDoorGac
import Derived.Test.YtnmcambbpgoodaaGreatDoorGaf
import Derived.Test.YtnmcambbpgoodaaGreatDoorGaa
/- The number, the name, the string, the variable, the word that a text begins with: xplex's functions. -/
namespace Go.Proofs.YtnmcambbpgoodaaGreatDoor
open Go.RowKit
theorem cutPrefix_one (q : Nat) (u : UInt8) (hu : u = UInt8.ofNat q) (hq : q < 128) (l : List Nat) (hl : okL l) (w : World) :
    Calls Tryz.prog 42 #[.string (T l), .string ⟨#[u]⟩] w fun e w' => e = .returned (.tuple #[.string (T (if heads q l then l.tail else l)), .bool (heads q l)]) ∧ w' = w := by
  subst hu
  refine (Tryz.strings_CutPrefix (T l) ⟨#[UInt8.ofNat q]⟩ w).mono ?_
  rintro e w' ⟨rfl, rfl⟩
  refine ⟨?_, rfl⟩
  rw [T_data, show (⟨#[UInt8.ofNat q]⟩ : ByteArray).data.toList = [UInt8.ofNat q] from rfl, pre_one hq hl, cut_one hq hl]
  rfl
theorem suf_drop {l a : List Nat} (h : a <+: l) : (T l).extract (T a).size (T l).size = T (l.drop a.length) := by
  obtain ⟨t, rfl⟩ := h
  rw [List.drop_left]; exact T_suf a t
theorem size_pre {l a : List Nat} (h : a <+: l) : (T a).size ≤ (T l).size := by
  obtain ⟨t, rfl⟩ := h
  rw [T_size, T_size, tx_len_app]; omega
theorem pre_sz {l a : List Nat} (h : a <+: l) {n : Nat} (hn : n = (T a).size) : (T l).extract 0 n = T a := by
  obtain ⟨t, rfl⟩ := h
  rw [hn]; exact T_pre a t
theorem sz_cons {c : Nat} (hc : c < 128) (l : List Nat) : (T (c :: l)).size = 1 + (T l).size := by
  rw [T_size, T_size, tx_cons, List.length_append, runeB_one hc]; rfl
theorem sz_app (a b : List Nat) : (T (a ++ b)).size = (T a).size + (T b).size := by rw [T_size, T_size, T_size, tx_len_app]
theorem nil_T {l : List Nat} (h : l = []) : (T l).toList = [] := by rw [h, T_toList]; rfl
theorem ne_T {l : List Nat} (hl : okL l) (h : l ≠ []) : (T l).toList.isEmpty = false := by
  cases hx : (T l).toList with
  | nil => exact absurd ((T_empty hl).1 hx) h
  | cons _ _ => rfl
set_option maxHeartbeats 1000000 in
theorem numberAhead_any (l : List Nat) (w : World) (hl : okL l) (hs : (T l).size ≤ 512) :
    Calls Tryz.prog 24 #[.string (T l)] w fun e w' => e = .returned (.string (T (numA l))) ∧ Below w.heap.size w w' := by
  have hp : digsA l <+: l := List.takeWhile_prefix _
  have hz := size_pre hp
  have HS := hide (suf_drop hp)
  have hod := okL_drop hl (digsA l).length
  have hN : numA l = if heads 46 (l.drop (digsA l).length) && !(digsA (l.drop (digsA l).length).tail).isEmpty then digsA l ++ 46 :: digsA (l.drop (digsA l).length).tail else digsA l := rfl
  have HP := hide (numA_pre l)
  have HN := hide hN
  have hsz : (T l).size = (T (digsA l)).size + (T (l.drop (digsA l).length)).size := by
    conv => lhs; rw [← digsA_pre l]
    exact sz_app _ _
  have HSZ := hide hsz
  clear hp hN hsz
  generalize l.drop (digsA l).length = d at *
  go_enter Tryz.func24, Tryz.ntmps24
  go_wp2_with fail
  refine (digitsAhead_any l _ hl).mono ?_
  rintro e w1 ⟨rfl, hb1⟩
  go_wp2_with fail
  rw [unhide HS]
  refine (cutPrefix_one 46 46 rfl (by decide) d hod _).mono ?_
  rintro e w2 ⟨rfl, rfl⟩
  cases hh : heads 46 d
  · have HH := hide hh
    clear hh
    rw [if_neg (by decide)]
    go_wp2_with fail
    refine (digitsAhead_any d _ hod).mono ?_
    rintro e w3 ⟨rfl, hb3⟩
    go_wp2
    go_ret
    refine ⟨ret_str ?_, Below.then hb1 hb3⟩
    rw [unhide HN, unhide HH, Bool.false_and, if_neg (by decide)]
  · have HH := hide hh
    clear hh
    rw [if_pos rfl]
    have hot : okL d.tail := fun c hc => hod c (List.mem_of_mem_tail hc)
    go_wp2_with fail
    refine (digitsAhead_any d.tail _ hot).mono ?_
    rintro e w3 ⟨rfl, hb3⟩
    have hoy : okL (digsA d.tail) := okL_pre hot (List.takeWhile_prefix _)
    have hzy : (T (digsA l)).size + 1 + (T (digsA d.tail)).size ≤ 512 := by
      have h1 : (T d).size = 1 + (T d.tail).size := by
        conv => lhs; rw [heads_true (unhide HH)]
        exact sz_cons (by decide) _
      have h2 := size_pre (show digsA d.tail <+: d.tail from List.takeWhile_prefix _)
      have h3 := unhide HSZ
      omega
    have hzz : (T (digsA l)).size + 1 + (T (digsA d.tail)).size ≤ (T l).size := by
      have h1 : (T d).size = 1 + (T d.tail).size := by
        conv => lhs; rw [heads_true (unhide HH)]
        exact sz_cons (by decide) _
      have h2 := size_pre (show digsA d.tail <+: d.tail from List.takeWhile_prefix _)
      have h3 := unhide HSZ
      omega
    generalize digsA d.tail = y at *
    by_cases hy : y = []
    · have h1 := nil_T hy
      have HY := hide hy
      clear hy
      go_wp2
      go_ret
      refine ⟨ret_str ?_, Below.then hb1 hb3⟩
      rw [unhide HN, unhide HY, List.isEmpty_nil, Bool.not_true, Bool.and_false, if_neg (by decide)]
    · have h1 := ne_T hoy hy
      go_wp2
      go_ret
      refine ⟨ret_str ?_, Below.then hb1 hb3⟩
      have e := unhide HN
      rw [unhide HH, empty_not hy, Bool.and_self, if_pos rfl] at e
      refine pre_sz (unhide HP) ?_
      rw [e, sz_app, sz_cons (by decide)]
      omega
end Go.Proofs.YtnmcambbpgoodaaGreatDoor
/- A name has no colon, so a prefix and a local name are parted at the colon between them. -/
namespace Go.Proofs.YtnmcambbpgoodaaGreatDoor
open Go.RowKit
theorem indexByte_first : ∀ (p r : List UInt8) (c : UInt8), c ∉ p → Lib.indexByte (p ++ c :: r) c = p.length
  | [], r, c, _ => by simp [Lib.indexByte]
  | x :: p, r, c, h => by
    have hx : ¬ (x == c) = true := fun e => h (by rw [beq_iff_eq.1 e]; simp)
    have ih := indexByte_first p r c (fun hm => h (List.mem_cons_of_mem _ hm))
    simp only [List.cons_append, Lib.indexByte, hx, ih]
    simp
theorem cut_first (p r : List UInt8) (c : UInt8) (h : c ∉ p) : Lib.cut (p ++ c :: r) [c] = (p, r, true) := by
  unfold Lib.cut
  rw [Lib.index_one, indexByte_first p r c h, if_pos (by omega)]
  simp
end Go.Proofs.YtnmcambbpgoodaaGreatDoor
/- Which characters may be, lie in one of some ranges, begin names and go on in them: the reference's IsChar, 'in', Begins and GoesOn. -/
namespace Go.Proofs.YtnmcambbpgoodaaGreatDoor
open Go.RowKit
end Go.Proofs.YtnmcambbpgoodaaGreatDoor
/- The reference's Bad, IsText, IsName and Split. -/
namespace Go.Proofs.YtnmcambbpgoodaaGreatDoor
open Go.RowKit
def textB (s : ByteArray) : Bool := (fault s).1 == 0
set_option maxHeartbeats 1000000 in
theorem isText_any (s : ByteArray) (w : World) :
    Calls Tryz.prog 89 #[.string s] w fun e w' => e = .returned (.bool (textB s)) ∧ Below w.heap.size w w' := by
  go_enter Tryz.func89, Tryz.ntmps89
  go_wp2_with fail
  refine (firstFault_any s _).mono ?_
  rintro e w1 ⟨rfl, hb1⟩
  go_wp2
  all_goals
    go_ret
    exact ⟨ret_bool (by simp [textB, *]), hb1⟩
end Go.Proofs.YtnmcambbpgoodaaGreatDoor
/- What the program takes for names and texts is what the reference takes for them: plain lemmas. -/
namespace Go.Proofs.YtnmcambbpgoodaaGreatDoor
open Go.RowKit
theorem validD_at (s : ByteArray) (pos : Nat) (hp : pos < s.size) : Lib.validD (s.data.toList.drop pos) =
    if (Utf8.decode s pos).1 = 65533 ∧ (Utf8.decode s pos).2 = 1 then false else Lib.validD (s.data.toList.drop (pos + (Utf8.decode s pos).2)) := by
  have hne : s.data.toList.drop pos ≠ [] := by
    intro h
    have := congrArg List.length h
    rw [List.length_drop] at this
    have hl : s.data.toList.length = s.size := rfl
    simp only [List.length_nil] at this
    omega
  have e : Lib.decodeL (s.data.toList.drop pos) = Utf8.decode s pos := Lib.decodeL_drop s pos
  rw [Lib.validD_step _ hne, e, List.drop_drop]
end Go.Proofs.YtnmcambbpgoodaaGreatDoor
/- What the library's functions tell of a text, in terms of its characters: plain lemmas. -/
namespace Go.Proofs.YtnmcambbpgoodaaGreatDoor
open Go.RowKit
theorem runeB_high {c : Nat} (h : okR c) (hc : 128 ≤ c) : ∀ b ∈ runeB c, 128 ≤ b.toNat := by
  unfold okR at h
  by_cases h2 : c < 2048
  · rw [runeB_two hc h2]; intro b hb; simp only [List.mem_cons, List.not_mem_nil, or_false] at hb
    rcases hb with rfl | rfl <;> (rw [u8_nat (by omega)]; omega)
  · by_cases h3 : c < 65536
    · rw [runeB_three (by omega) h3 (by unfold okR; omega)]; intro b hb; simp only [List.mem_cons, List.not_mem_nil, or_false] at hb
      rcases hb with rfl | rfl | rfl <;> (rw [u8_nat (by omega)]; omega)
    · rw [runeB_four (by omega) (by omega)]; intro b hb; simp only [List.mem_cons, List.not_mem_nil, or_false] at hb
      rcases hb with rfl | rfl | rfl | rfl <;> (rw [u8_nat (by omega)]; omega)
theorem mem_tx {q : Nat} (hq : q < 128) : ∀ {l : List Nat}, okL l → (UInt8.ofNat q ∈ tx l ↔ q ∈ l)
  | [], _ => by simp [tx]
  | c :: l, h => by
    have hc := charR_ok (h c (by simp))
    rw [tx_cons, List.mem_append, mem_tx hq (okL_tail h), List.mem_cons]
    by_cases h1 : c < 128
    · rw [runeB_one h1, List.mem_singleton]
      constructor
      · rintro (e | e)
        · have := congrArg UInt8.toNat e
          rw [u8_nat (by omega), u8_nat (by omega)] at this
          exact .inl this
        · exact .inr e
      · rintro (e | e)
        · exact .inl (by rw [e])
        · exact .inr e
    · constructor
      · rintro (e | e)
        · have := runeB_high hc (by omega) _ e
          rw [u8_nat (by omega)] at this
          omega
        · exact .inr e
      · rintro (e | e)
        · omega
        · exact .inr e
theorem indexByte_none : ∀ (l : List UInt8) (c : UInt8), c ∉ l → Lib.indexByte l c = -1
  | [], _, _ => rfl
  | x :: l, c, h => by
    have hx : ¬ (x == c) = true := fun e => h (by rw [beq_iff_eq.1 e]; simp)
    have ih := indexByte_none l c (fun hm => h (List.mem_cons_of_mem _ hm))
    simp only [Lib.indexByte, hx, ih]
    simp
theorem cut_none (l : List UInt8) (c : UInt8) (h : c ∉ l) : Lib.cut l [c] = (l, [], false) := by
  unfold Lib.cut
  rw [Lib.index_one, indexByte_none l c h, if_neg (by decide)]
/-- A text that is cut at a sign below 128. -/
theorem cut_tx {q : Nat} (hq : q < 128) {l : List Nat} (h : okL l) : Lib.cut (tx l) [UInt8.ofNat q] =
    if l.contains q then (tx (l.takeWhile (· != q)), tx (l.dropWhile (· != q)).tail, true) else (tx l, [], false) := by
  by_cases hm : q ∈ l
  · rw [if_pos (List.contains_iff_mem.2 hm)]
    have e := List.takeWhile_append_dropWhile (p := (· != q)) (l := l)
    have hno : q ∉ l.takeWhile (· != q) := fun hx => by have := all_takeWhile (· != q) l q hx; simp at this
    obtain ⟨u, hu⟩ : ∃ u, l.dropWhile (· != q) = q :: u := by
      cases hx : l.dropWhile (· != q) with
      | nil => rw [hx, List.append_nil] at e; rw [← e] at hm; exact absurd hm hno
      | cons c u =>
        have := List.head_dropWhile_not (l := l) (· != q) (by rw [hx]; simp)
        simp only [hx, List.head_cons] at this
        have hc : c = q := by simpa using this
        exact ⟨u, by rw [hc]⟩
    rw [hu, List.tail_cons]
    have e2 : tx l = tx (l.takeWhile (· != q)) ++ UInt8.ofNat q :: tx u := by
      conv => lhs; rw [← e, hu, tx_append, tx_cons, runeB_one hq]
      rfl
    rw [e2]
    exact cut_first _ _ _ (fun hx => hno ((mem_tx hq (okL_pre h (List.takeWhile_prefix _))).1 hx))
  · rw [if_neg (fun hx => hm (List.contains_iff_mem.1 hx))]
    exact cut_none _ _ (fun hx => hm ((mem_tx hq h).1 hx))
theorem valid_T {l : List Nat} (h : okL l) : Lib.validD (tx l) = true := by
  have key : ∀ (t p : List Nat), l = p ++ t → Lib.validD ((T l).data.toList.drop (tx p).length) = true := by
    intro t
    induction t with
    | nil =>
      intro p e
      rw [drop_nil _ _ (end_at e)]
      rfl
    | cons c t ih =>
      intro p e
      obtain ⟨hd, hlt, hc, hpos⟩ := dec_at e h
      rw [validD_at _ _ hlt, hd, if_neg]
      · have := ih (p ++ [c]) (by rw [e]; simp)
        rw [tx_snoc] at this
        exact this
      · rintro ⟨h1, h2⟩
        simp only at h1 h2
        subst h1
        rw [show (runeB 65533).length = 3 from by decide +kernel] at h2
        cases h2
  have := key l [] rfl
  rw [T_data] at this
  simpa [tx] using this
theorem nameFrom_T {l : List Nat} (h : okL l) : ∀ (t p : List Nat) (f : Nat), l = p ++ t → (T l).size < (tx p).length + f →
    nameFrom (T l) f (tx p).length = (if p = [] then (t.isEmpty || (match t with | [] => true | c :: u => begC c && u.all goC)) else t.all goC)
  | [], p, f, e, hf => by
    rw [nameFrom_end _ _ _ (end_at e)]
    split <;> rfl
  | c :: t, p, f, e, hf => by
    obtain ⟨hd, hlt, hc, hpos⟩ := dec_at e h
    obtain ⟨g, rfl, hg⟩ := nameFrom_step (T l) f (tx p).length hlt hf
    have ih := nameFrom_T h t (p ++ [c]) g (by rw [e]; simp) (by rw [tx_snoc]; omega)
    rw [tx_snoc, if_neg (by simp)] at ih
    rw [hg, hd]
    simp only
    rw [ih, begC_eq c hc, goC_eq c hc]
    by_cases hp : p = []
    · rw [if_pos hp, hp]
      cases hb : begC c
      · simp [tx]
      · simp [tx, goC_of_beg hb]
    · rw [if_neg hp]
      have : (((tx p).length : Int) == 0) = false := by
        have := tx_len_zero (okL_left (e ▸ h))
        simp
        intro h0
        exact hp (this (by simpa using h0))
      rw [this, Bool.false_and, Bool.false_or, List.all_cons]
      cases goC c <;> rfl
theorem nameB_T {l : List Nat} (h : okL l) : nameB (T l) = isNm l := by
  unfold nameB isNm
  rw [T_data, valid_T h, Bool.and_true]
  have := nameFrom_T h l [] ((T l).size + 1) rfl (by omega)
  rw [if_pos rfl] at this
  rw [show nameFrom (T l) ((T l).size + 1) 0 = _ from this]
  cases l with
  | nil => rfl
  | cons c t =>
    have e0 : (tx (c :: t)).isEmpty = false := by
      cases hx : tx (c :: t) with
      | nil => have := tx_len_zero h (by rw [hx]; rfl); cases this
      | cons _ _ => rfl
    rw [e0]
    simp only [List.isEmpty_cons, Bool.not_false, Bool.true_and, Bool.false_or]
    rw [nameA]
    cases hb : begC c
    · rfl
    · rw [if_pos rfl, Bool.true_and]
      rw [Bool.eq_iff_iff]
      simp only [List.all_eq_true, beq_iff_eq, List.cons.injEq, true_and]
      constructor
      · intro ha
        have := takeWhile_run goC t [] ha (fun _ hx => by cases hx)
        simpa using this
      · intro ha x hx
        exact all_takeWhile goC t x (by rw [ha]; exact hx)
theorem splitB_T {l : List Nat} (h : okL l) : splitB (T l).data.toList = isQ l := by
  have hc := cut_tx (q := 58) (by decide) h
  rw [show UInt8.ofNat 58 = 58 from rfl] at hc
  unfold splitB splitP splitN isQ
  rw [T_data, hc]
  cases hm : l.contains 58
  · simp only [Bool.false_eq_true, if_false, Bool.not_false, Bool.true_or, Bool.true_and]
    exact nameB_T h
  · simp only [if_true, Bool.not_true, Bool.false_or]
    have h1 : okL (l.takeWhile (· != 58)) := okL_pre h (List.takeWhile_prefix _)
    have h2 : okL (l.dropWhile (· != 58)).tail := fun c hx => h c ((List.dropWhile_sublist _).subset (List.mem_of_mem_tail hx))
    rw [show (⟨(tx (l.takeWhile (· != 58))).toArray⟩ : ByteArray) = T (l.takeWhile (· != 58)) from rfl, show (⟨(tx (l.dropWhile (· != 58)).tail).toArray⟩ : ByteArray) = T (l.dropWhile (· != 58)).tail from rfl, nameB_T h1, nameB_T h2]
def blankN (x : Nat) : Bool := blankB x
theorem idx_T {l : List Nat} (h : okL l) : ∀ (t p : List Nat) (f : Nat), l = p ++ t → (T l).size ≤ (tx p).length + f →
    Lib.idxFuncFrom blankN false (T l) f (tx p).length = if t.dropWhile blankC = [] then -1 else ((tx (p ++ t.takeWhile blankC)).length : Int)
  | [], p, f, e, hf => by rw [Lib.idxFuncFrom_end _ _ _ _ _ (end_at e)]; rfl
  | c :: t, p, f, e, hf => by
    obtain ⟨hd, hlt, hc, hpos⟩ := dec_at e h
    cases f with
    | zero => omega
    | succ f =>
      have ih := idx_T h t (p ++ [c]) f (by rw [e]; simp) (by rw [tx_snoc]; omega)
      rw [tx_snoc] at ih
      rw [Lib.idxFuncFrom, if_pos hlt, hd]
      simp only
      rw [ih]
      have hb : blankN c = blankC c := blankC_eq c
      rw [hb]
      cases hbc : blankC c
      · rw [if_pos rfl, List.dropWhile_cons_of_neg (by rw [hbc]; decide), if_neg (by simp), List.takeWhile_cons_of_neg (by rw [hbc]; decide), List.append_nil]
      · rw [if_neg (by decide), List.dropWhile_cons_of_pos hbc, List.takeWhile_cons_of_pos hbc, List.append_assoc]
        rfl
theorem trim_T {l : List Nat} (h : okL l) : Lib.trimLeftF blankN (T l) = T (l.dropWhile blankC) := by
  have := idx_T h l [] (T l).size rfl (by omega)
  unfold Lib.trimLeftF Lib.idxFunc
  rw [show Lib.idxFuncFrom blankN false (T l) (T l).size 0 = _ from this]
  by_cases hd : l.dropWhile blankC = []
  · rw [if_pos hd, if_pos rfl, hd]; rfl
  · rw [if_neg hd, if_neg (by omega)]
    rw [List.nil_append, Int.toNat_natCast]
    exact suf_at (List.takeWhile_append_dropWhile).symm
theorem isBlank_runes (w : World) : PredAtRunes Tryz.prog 23 #[] blankN w := fun W x _ _ => by
  refine (isBlank_any x W).mono ?_
  rintro e w' ⟨rfl, rfl⟩
  exact ⟨rfl, 0, rfl⟩
theorem isBlank_enters : ∀ args w, (callFunc 23 args).run Tryz.prog w = .ok (.enter 23 args) w := fun _ _ => by kernel_rfl
/-- Equal texts are of equal characters. -/
theorem tx_inj : ∀ {a b : List Nat}, okL a → okL b → tx a = tx b → a = b
  | [], b, _, hb, e => (tx_len_zero hb (by rw [← e]; rfl)).symm
  | x :: a, [], ha, _, e => by have := tx_len_zero ha (by rw [e]; rfl); exact this
  | x :: a, y :: b, ha, hb, e => by
    have h1 := dec_rune x (charR_ok (ha x (by simp))) (tx a)
    have h2 := dec_rune y (charR_ok (hb y (by simp))) (tx b)
    rw [tx_cons, tx_cons] at e
    rw [e, h2] at h1
    have hxy : y = x := congrArg Prod.fst h1
    subst hxy
    rw [tx_inj (okL_tail ha) (okL_tail hb) (List.append_cancel_left e)]
theorem eq_T {a b : List Nat} (ha : okL a) (hb : okL b) : ((T a).toList == tx b) = (a == b) := by
  rw [T_toList, Bool.eq_iff_iff, beq_iff_eq, beq_iff_eq]
  exact ⟨tx_inj ha hb, fun e => by rw [e]⟩
end Go.Proofs.YtnmcambbpgoodaaGreatDoor
