/- Several texts, laid as one. -/
import Derived.Test.YtefjfjieoiegnaaGreatDoorGbd
import Derived.Test.YtefjfjieoiegnaaGreatDoorGbo
import Derived.Lib.IndexBytes
import Derived.Test.YtefjfjieoiegnaaGreatDoorGbn
/- The reference's find, lower and qname. -/
namespace Go.Proofs.YtefjfjieoiegnaaGreatDoor
open Go.RowKit
/-- No instance ahead of a place. -/
def noOcc (s sub : List UInt8) (i : Nat) : Prop := ∀ j, j < i → Lib.occAt s sub j = false
theorem none_found {s sub : ByteArray} {i : Nat} (h : noOcc s.data.toList sub.data.toList i) (hi : s.size < i + sub.size) (hs : 0 < sub.size) : Lib.contains s.data.toList sub.data.toList = false := by
  have h1 : Lib.index s.data.toList sub.data.toList = -1 := Lib.index_none fun j _ => by
    by_cases hj : j < i
    · exact h j hj
    · cases ho : Lib.occAt s.data.toList sub.data.toList j with
      | false => rfl
      | true =>
        rcases Lib.occAt_room ho with h2 | h2
        · have e1 : s.data.toList.length = s.size := rfl
          have e2 : sub.data.toList.length = sub.size := rfl
          omega
        · have e2 : sub.data.toList.length = sub.size := rfl
          rw [h2] at e2
          simp at e2
          omega
  unfold Lib.contains
  rw [h1]
  rfl
theorem one_found {s sub : ByteArray} {i : Nat} (h : noOcc s.data.toList sub.data.toList i) (hi : i ≤ s.size) (ho : Lib.occAt s.data.toList sub.data.toList i = true) : Lib.contains s.data.toList sub.data.toList = true := by
  have h1 := Lib.index_first (s := s.data.toList) (sub := sub.data.toList) (i := i) hi ho h
  unfold Lib.contains
  rw [h1]
  simp
set_option maxHeartbeats 2000000 in
theorem refFind_any (s t : ByteArray) (w : World) (hs : s.size ≤ 1048576) (ht : 0 < t.size) (ht2 : t.size ≤ 10) :
    Calls Tryz.prog 47 #[.string s, .string t, .int .i64 0] w fun e w' => (∃ j : Int, e = .returned (.int .i64 j) ∧ decide (j < 0) = !Lib.contains s.data.toList t.data.toList) ∧ w' = w := by
  go_enter Tryz.func47, Tryz.ntmps47
  go_wp2_with fail
  go_loopw [7] (fun i wr => ∃ k : Nat, i = .int .i64 (k : Nat) ∧ k ≤ s.size ∧ noOcc s.data.toList t.data.toList k ∧ wr = w) (fun i _ => s.size + 1 - (intOf i).toNat)
  case atStart => exact ⟨0, rfl, Nat.zero_le _, (fun j hj => by omega), rfl⟩
  case round =>
    obtain ⟨k, rfl, hk, hno, rfl⟩ := hrel
    have HNO := hide hno
    clear hno
    have e1 : wrap64 ((k : Int) + (t.size : Int)) = (k : Int) + (t.size : Int) := by unfold wrap64; omega
    by_cases hlt : k + t.size ≤ s.size
    · have n1 : (k : Int) + (t.size : Int) ≤ (s.size : Int) := by omega
      have n2 : (0 : Int) ≤ (k : Int) := by omega
      have n3 : (k : Int) ≤ (k : Int) + (t.size : Int) := by omega
      have e2 : ((k : Int) + (t.size : Int)).toNat = k + t.size := by omega
      have hoc := Lib.occ_of_piece s t k hlt
      cases ho : ((s.extract k (k + t.size)).toList == t.toList)
      · have HN2 : Hid (noOcc s.data.toList t.data.toList (k + 1)) := hide fun j hj => by
          by_cases h : j < k
          · exact unhide HNO j h
          · obtain rfl : j = k := by omega
            rw [hoc]; exact ho
        clear hoc HNO
        go_wp2_with fail
        go_round
        case measure => simp [intOf]; omega
        case rel => exact ⟨k + 1, by simp, by omega, unhide HN2, by first | rfl | trivial⟩
      · have HF : Hid (Lib.contains s.data.toList t.data.toList = true) := hide (one_found (unhide HNO) hk (by rw [hoc]; exact ho))
        clear hoc HNO
        go_wp2
        go_ret
        exact ⟨⟨(k : Nat), rfl, by rw [unhide HF]; simp⟩, rfl⟩
    · have n1 : ¬ (k : Int) + (t.size : Int) ≤ (s.size : Int) := by omega
      have HF : Hid (Lib.contains s.data.toList t.data.toList = false) := hide (none_found (unhide HNO) (by omega) ht)
      go_wp2
      go_ret
      exact ⟨⟨-1, rfl, by rw [unhide HF]; rfl⟩, rfl⟩
set_option maxHeartbeats 1000000 in
theorem refQname_any (s : ByteArray) (w : World) (hs : s.size ≤ 1048576) (hE : Env w) :
    Calls Tryz.prog 46 #[.string s] w fun e w' => e = .returned (.bool (qB s)) ∧ Below w.heap.size w w' := by
  obtain ⟨p, n, hv⟩ := splitV_cases s.data.toList
  have HV := hide hv
  have HS := hide (refSplit_any s w (by omega) hE)
  clear hv hE
  go_enter Tryz.func46, Tryz.ntmps46
  go_wp2_with fail
  refine (unhide HS).mono ?_
  rintro e w1 ⟨rfl, hb1⟩
  rw [unhide HV]
  go_wp2
  go_ret
  exact ⟨rfl, hb1⟩
def lowU (b : UInt8) : UInt8 := if 65 ≤ b.toNat ∧ b.toNat ≤ 90 then b + 32 else b
theorem lowU_nat (b : UInt8) : (lowU b).toNat = lowC b.toNat := by
  unfold lowU lowC
  by_cases h : 65 ≤ b.toNat ∧ b.toNat ≤ 90
  · rw [if_pos h, if_pos h, UInt8.toNat_add]
    show (b.toNat + 32) % 256 = _
    omega
  · rw [if_neg h, if_neg h]
theorem lowU_xml (s : List UInt8) : (s.map lowU == [120, 109, 108]) = (s.map (fun b => lowC b.toNat) == [120, 109, 108]) := by
  have e1 : s.map (fun b => lowC b.toNat) = (s.map lowU).map UInt8.toNat := by
    rw [List.map_map]
    exact List.map_congr_left fun b _ => (lowU_nat b).symm
  rw [e1]
  generalize s.map lowU = l
  by_cases h : l = [120, 109, 108]
  · rw [h]; rfl
  · have h1 : (l == [120, 109, 108]) = false := beq_eq_false_iff_ne.2 h
    have h2 : (l.map UInt8.toNat == [120, 109, 108]) = false := beq_eq_false_iff_ne.2 fun hh => h (by
      have : l.map UInt8.toNat = ([120, 109, 108] : List UInt8).map UInt8.toNat := hh
      exact (List.map_inj_right (fun a b hab => UInt8.toNat_inj.1 hab)).1 this)
    rw [h1, h2]
set_option maxRecDepth 100000 in
set_option maxHeartbeats 4000000 in
theorem refLower_any (s : ByteArray) (w : World) (hs : s.size ≤ 1048576) :
    Calls Tryz.prog 49 #[.string s] w fun e w' => e = .returned (.string ⟨(s.data.toList.map lowU).toArray⟩) ∧ Below w.heap.size w w' := by
  have hi0 : (Tryz.prog.info? 5).map (fun i => (i.zero, i.size, i.bytes)) = some (some (.int .u8 0), 1, 1) := by kernel_rfl
  obtain ⟨i0, hi, hz0, hz1, hz2⟩ := info_parts hi0
  clear hi0
  go_enter Tryz.func49, Tryz.ntmps49
  go_wp2_with fail
  go_loopw [3, 4] (fun s3 i wr => ∃ k : Nat, i = .int .i64 (k : Nat) ∧ k ≤ s.size ∧ wr.ownsRow w.heap.size 5 1 s3 k (byteCells ((s.data.toList.take k).map lowU)) ∧ Below w.heap.size w wr) (fun _ i _ => s.size - (intOf i).toNat)
  case atStart => exact ⟨0, rfl, Nat.zero_le _, World.ownsRow_nil _ _ _ _, Below.refl _ _⟩
  case round =>
    obtain ⟨k, rfl, hk, hown, hbr⟩ := hrel
    by_cases hlt : k < s.size
    · obtain ⟨ad, c, rfl⟩ := owns_slice hown
      have hsz := hbr.size
      have hk1 : s.data.toList[k]? = some s[k] := List.getElem?_eq_getElem (l := s.data.toList) hlt
      have htk : byteCells ((s.data.toList.take (k + 1)).map lowU) = byteCells ((s.data.toList.take k).map lowU) ++ [.int .u8 ((lowU s[k]).toNat : Nat)] := by
        rw [List.take_add_one, hk1]
        simp [byteCells]
      have hlow := lowU_nat s[k]
      have n1 : (0 : Int) ≤ (k : Int) := by omega
      have n2 : (k : Int) < (s.size : Int) := by omega
      have h256 : s[k].toNat < 256 := s[k].toNat_lt
      by_cases hu : 65 ≤ s[k].toNat ∧ s[k].toNat ≤ 90
      · obtain ⟨u1, u2⟩ := hu
        have HTK : Hid (byteCells ((s.data.toList.take (k + 1)).map lowU) = byteCells ((s.data.toList.take k).map lowU) ++ [.int .u8 ((s[k].toNat : Int) + 32)]) := hide (by
          rw [htk, hlow]
          unfold lowC
          rw [if_pos ⟨u1, u2⟩]
          rfl)
        have d1 : (65 : Int) ≤ (s[k].toNat : Int) := by omega
        have d2 : (s[k].toNat : Int) ≤ 90 := by omega
        have d3 : IntKind.u8.wrap ((s[k].toNat : Int) + 32) = (s[k].toNat : Int) + 32 := by
          show ((s[k].toNat : Int) + 32) % 256 = _
          omega
        clear htk hlow hk1 u1 u2
        go_wp2_with (at_builtin; refine wpList_append_own _ rfl _ _ 48 rfl w.heap.size 5 i0 (.int .u8 0) 1 1 Tryz.underlying48 hi hz0 hz1 hz2 rfl (by decide) _ _ _ rfl (hown.alloc _) ⟨wr.heap.size, 0, none⟩ 1 1 [.int .u8 ((s[k].toNat : Int) + 32)] rfl rfl (cell_one_new _ _ _) (fun x hx => by simp at hx; subst hx; rfl) (by unfold maxLen; omega) (by omega) (by simp; omega) ?_; intro v2 w2 hown2 hgrow2 _)
        have b2 := Below.grown (hbr.alloc hsz _) hgrow2 (by simp; omega) (owns_ge hown)
        refine ⟨⟨k + 1, by go_num, by omega, ?_, b2⟩, by simp [intOf]; omega⟩
        rw [unhide HTK]
        exact hown2
      · have HTK : Hid (byteCells ((s.data.toList.take (k + 1)).map lowU) = byteCells ((s.data.toList.take k).map lowU) ++ [.int .u8 (s[k].toNat : Nat)]) := hide (by
          rw [htk, hlow]
          unfold lowC
          rw [if_neg hu])
        by_cases h65 : 65 ≤ s[k].toNat
        · have d1 : (65 : Int) ≤ (s[k].toNat : Int) := by omega
          have d2 : ¬ (s[k].toNat : Int) ≤ 90 := by omega
          clear htk hlow hk1 hu h65
          go_wp2_with (at_builtin; refine wpList_append_own _ rfl _ _ 48 rfl w.heap.size 5 i0 (.int .u8 0) 1 1 Tryz.underlying48 hi hz0 hz1 hz2 rfl (by decide) _ _ _ rfl (hown.alloc _) ⟨wr.heap.size, 0, none⟩ 1 1 [.int .u8 (s[k].toNat : Nat)] rfl rfl (cell_one_new _ _ _) (fun x hx => by simp at hx; subst hx; rfl) (by unfold maxLen; omega) (by omega) (by simp; omega) ?_; intro v2 w2 hown2 hgrow2 _)
          have b2 := Below.grown (hbr.alloc hsz _) hgrow2 (by simp; omega) (owns_ge hown)
          refine ⟨⟨k + 1, by go_num, by omega, ?_, b2⟩, by simp [intOf]; omega⟩
          rw [unhide HTK]
          exact hown2
        · have d1 : ¬ (65 : Int) ≤ (s[k].toNat : Int) := by omega
          clear htk hlow hk1 hu h65
          go_wp2_with (at_builtin; refine wpList_append_own _ rfl _ _ 48 rfl w.heap.size 5 i0 (.int .u8 0) 1 1 Tryz.underlying48 hi hz0 hz1 hz2 rfl (by decide) _ _ _ rfl (hown.alloc _) ⟨wr.heap.size, 0, none⟩ 1 1 [.int .u8 (s[k].toNat : Nat)] rfl rfl (cell_one_new _ _ _) (fun x hx => by simp at hx; subst hx; rfl) (by unfold maxLen; omega) (by omega) (by simp; omega) ?_; intro v2 w2 hown2 hgrow2 _)
          have b2 := Below.grown (hbr.alloc hsz _) hgrow2 (by simp; omega) (owns_ge hown)
          refine ⟨⟨k + 1, by go_num, by omega, ?_, b2⟩, by simp [intOf]; omega⟩
          rw [unhide HTK]
          exact hown2
    · have hke : k = s.size := by omega
      subst hke
      rw [List.take_of_length_le (show s.data.toList.length ≤ s.size from Nat.le_refl _)] at hown
      have hl : ((s.data.toList.map lowU).length) = s.size := by rw [List.length_map]; rfl
      rw [← hl] at hown
      have hcv := conv_owned hown
      have n2 : ¬ (s.size : Int) < (s.size : Int) := by omega
      clear hown
      go_wp2
      go_ret
      exact ⟨rfl, hbr⟩
end Go.Proofs.YtefjfjieoiegnaaGreatDoor
/- Whether a token may stand by itself: the reference's RightToken. -/
namespace Go.Proofs.YtefjfjieoiegnaaGreatDoor
open Go.RowKit
theorem text_empty : textB ⟨#[]⟩ = true := by
  rw [textB_txt]
  exact ⟨[], (fun _ h => by cases h), rfl⟩
theorem okB_text {t : BTok} (h : textB t.text = false) : okB t = false := by
  have hx : t.text.toList.isEmpty = false := by
    cases he : t.text.toList.isEmpty with
    | false => rfl
    | true =>
      have := empty_T he
      rw [this, T_nil, text_empty] at h
      cases h
  unfold okB comB insB
  rw [h, hx]
  simp
theorem suf_last (s : ByteArray) (h : 0 < s.size) : Lib.hasSuffix s.data.toList [45] = ((s[s.size - 1].toNat : Int) == 45) := by
  have hne : s.data.toList ≠ [] := fun h0 => by
    have : s.data.toList.length = s.size := rfl
    rw [h0] at this
    simp at this
    omega
  have hl : s.data.toList.getLast? = some (s[s.size - 1]'(by omega)) := by
    rw [List.getLast?_eq_getElem?]
    exact List.getElem?_eq_getElem (l := s.data.toList) (i := s.data.toList.length - 1) (by have : s.data.toList.length = s.size := rfl; omega)
  generalize s[s.size - 1]'(by omega) = b at *
  by_cases hb : b = 45
  · subst hb
    obtain ⟨p, hp⟩ := List.getLast?_eq_some_iff.1 hl
    rw [hp]
    show [45].isSuffixOf (p ++ [45]) = _
    rw [List.isSuffixOf_iff_suffix.2 ⟨p, rfl⟩]
    rfl
  · have h1 : Lib.hasSuffix s.data.toList [45] = false := by
      cases hs : Lib.hasSuffix s.data.toList [45] with
      | false => rfl
      | true =>
        obtain ⟨p, hp⟩ := List.isSuffixOf_iff_suffix.1 hs
        rw [← hp, List.getLast?_append] at hl
        simp at hl
        exact absurd hl.symm hb
    rw [h1]
    symm
    apply beq_eq_false_iff_ne.2
    intro e
    exact hb (UInt8.toNat_inj.1 (by show b.toNat = 45; omega))
theorem trim_first (x : ByteArray) (ht : textB x = true) (h : 0 < x.size) : ((Lib.trimLeftF blankN x).toList == x.toList) = !blankB (x[0].toNat : Int) := by
  obtain ⟨l, hl, rfl⟩ := textB_T ht
  cases l with
  | nil => exact absurd h (by decide)
  | cons c l =>
    obtain ⟨b, m, hr, _⟩ := runeB_first (charR_ok (hl c (by simp)))
    have h0 : (T (c :: l))[0] = b := by
      have e : (T (c :: l)).data.toList = b :: (m ++ tx l) := by rw [T_data, tx_cons, hr]; rfl
      have : (T (c :: l)).data.toList[0]? = some b := by rw [e]; rfl
      rw [List.getElem?_eq_getElem (l := (T (c :: l)).data.toList) h] at this
      exact Option.some.inj this
    rw [h0, trim_T hl]
    have hbl : blankB (b.toNat : Int) = blankC c := by
      rw [blankC_eq]
      by_cases h128 : c < 128
      · have : runeB c = [UInt8.ofNat c] := runeB_one h128
        rw [this] at hr
        cases hr
        rw [asc_toNat h128]
      · have h1 : 128 ≤ b.toNat := runeB_high (charR_ok (hl c (by simp))) (by omega) b (by rw [hr]; simp)
        unfold blankC
        have e1 : ∀ n, n < 128 → (b.toNat == n) = false := fun n hn => beq_eq_false_iff_ne.2 (by omega)
        have e2 : ∀ n, n < 128 → (c == n) = false := fun n hn => beq_eq_false_iff_ne.2 (by omega)
        rw [e1 9 (by omega), e1 10 (by omega), e1 13 (by omega), e1 32 (by omega), e2 9 (by omega), e2 10 (by omega), e2 13 (by omega), e2 32 (by omega)]
    rw [hbl]
    cases hb : blankC c
    · rw [List.dropWhile_cons, if_neg (by rw [hb]; decide)]
      simp
    · rw [List.dropWhile_cons, if_pos hb]
      apply beq_eq_false_iff_ne.2
      intro e
      rw [T_toList, T_toList] at e
      have h2 := tx_inj (fun x hx => hl x (List.mem_cons_of_mem _ ((List.dropWhile_sublist _).subset hx))) hl e
      have h3 := congrArg List.length h2
      have h4 : (l.dropWhile blankC).length ≤ l.length := (List.dropWhile_sublist _).length_le
      rw [List.length_cons] at h3
      omega
end Go.Proofs.YtefjfjieoiegnaaGreatDoor
/- Whether a token may stand by itself: the reference's RightToken. -/
namespace Go.Proofs.YtefjfjieoiegnaaGreatDoor
open Go.RowKit
theorem contains_snoc (b x : List UInt8) : ∀ A : List (List UInt8), (A ++ [b]).contains x = (A.contains x || b == x)
  | [] => by
    by_cases e : b = x
    · subst e; simp
    · have e' : ¬ x = b := fun h => e h.symm
      simp [e, e']
  | a :: A => by
    have ih := contains_snoc b x A
    rw [List.cons_append, List.contains_cons, List.contains_cons, ih, Bool.or_assoc]
theorem names_take {l : List (ByteArray × ByteArray)} {j : Nat} {y : ByteArray × ByteArray} (h : l[j]? = some y) (x : ByteArray) : ((l.take (j + 1)).map (·.1.data.toList)).contains x.data.toList = (((l.take j).map (·.1.data.toList)).contains x.data.toList || (y.1.toList == x.toList)) := by
  obtain ⟨hk, hx⟩ := List.getElem?_eq_some_iff.1 h
  rw [List.take_succ_eq_append_getElem hk, List.map_append, hx, toList_data, toList_data]
  exact contains_snoc _ _ _
theorem trim_none (x : ByteArray) (h : x.size = 0) : ((Lib.trimLeftF blankN x).toList == x.toList) = true := by
  have : x = T [] := by
    rw [T_nil]
    have h1 : x.data.toList = [] := List.eq_nil_of_length_eq_zero h
    cases x with | mk d => cases d with | mk l => simp at h1; subst h1; rfl
  rw [this, trim_T okL_nil]
  simp
theorem size_empty {x : ByteArray} : x.toList.isEmpty = decide (x.size = 0) := by
  rw [toList_data]
  have e : x.data.toList.length = x.size := rfl
  cases hh : x.data.toList with
  | nil =>
    rw [hh] at e
    rw [← e]
    rfl
  | cons a t =>
    rw [hh] at e
    rw [← e]
    rfl
theorem len_zero {α : Type} (l : List α) : ((l.length : Int) == 0) = l.isEmpty := by
  cases l with
  | nil => rfl
  | cons a t =>
    show ((((a :: t).length : Nat) : Int) == 0) = false
    apply beq_eq_false_iff_ne.2
    rw [List.length_cons]
    omega
structure RtSt (w : World) (t : BTok) (v : Value) (i : Nat) (w' : World) : Prop where
  le : i ≤ t.attrs.length
  box : TokBox w t v w'
  spec : attrsB [] t.attrs = attrsB ((t.attrs.take i).map (·.1.data.toList)) (t.attrs.drop i)
set_option maxRecDepth 100000 in
set_option maxHeartbeats 8000000 in
theorem rightToken_any (t : BTok) (v : Value) (w : World) (hv : PairsArg w v t.attrs) (hs : Small t) (B : Nat) (hB : B ≤ w.heap.size) (hE : XEnv B w) :
    Calls Tryz.prog 29 #[.agg #[.int .i64 t.kind, .string t.name, v, .string t.text]] w fun e w' => e = .returned (.bool (okB t)) ∧ Below w.heap.size w w' := by
  have HV := hide hv
  have HS := hide hs
  have HE := hide hE
  obtain ⟨a, cap, rfl, _⟩ := hv
  have HB0 : Hid (TokBox w t (.slice a t.attrs.length cap) (w.alloc (.cells (tokV t (.slice a t.attrs.length cap)) 37 (0, 0)))) := hide (by
    unfold tokV
    refine ⟨(Below.refl _ _).alloc (Nat.le_refl _) _, by simp, ?_, ?_, ?_, ?_⟩
    all_goals simp [go_sem])
  have HOT := hide (fun h => okB_text (t := t) h)
  obtain ⟨k, n, l, x⟩ := t
  have hxs := hs.x
  have hns := hs.n
  have hls := hs.l
  simp only at *
  clear hs hE
  unfold tokV at HB0
  simp only at HB0
  have hbW := (unhide HB0).bel
  go_enter Tryz.func29, Tryz.ntmps29
  go_wp2_with fail
  refine (refIsText_same x _ (by omega) ((unhide HE).low (hbW.mono hB)).env).mono ?_
  rintro e W ⟨rfl, hb1⟩
  have HB1 := hide ((unhide HB0).on hb1)
  clear HB0 hbW hb1
  have hbW := (unhide HB1).bel
  cases htx : textB x
  · have HR : Hid (okB ⟨k, n, l, x⟩ = false) := hide (unhide HOT htx)
    clear HOT htx
    go_wp2
    go_ret
    exact ⟨ret_bool (unhide HR).symm, hbW⟩
  · have HTX := hide htx
    clear HOT htx
    have c0 := (unhide HB1).c0
    have c1 := (unhide HB1).c1
    have c2 := (unhide HB1).c2
    have c3 := (unhide HB1).c3
    simp only at c0 c1 c2 c3
    have HEW := hide ((unhide HE).low (hbW.mono hB))
    have hBW : B ≤ W.heap.size := Nat.le_trans hB hbW.size
    by_cases k2 : k = 2
    · subst k2
      have HOK : Hid (okB ⟨2, n, l, x⟩ = (attrsB [] l && (qB n && x.toList.isEmpty))) := hide (by
        rw [okB2]
        cases x.toList.isEmpty <;> cases qB n <;> cases attrsB [] l <;> rfl)
      have HI0 : Hid (RtSt w ⟨2, n, l, x⟩ (.slice a l.length cap) 0 W) := hide ⟨Nat.zero_le _, unhide HB1, rfl⟩
      have HA := hide (unhide HS).a
      simp only at HA
      clear c0 c1 c2 c3
      have c0 := (unhide HB1).c0
      simp only at c0
      go_wp2_with fail
      clear c0
      go_loopw [3] (fun i wr => ∃ i' : Nat, i = .int .i64 (i' : Nat) ∧ RtSt w ⟨2, n, l, x⟩ (.slice a l.length cap) i' wr) (fun i _ => l.length - (intOf i).toNat)
      case atStart => exact ⟨0, rfl, unhide HI0⟩
      case round =>
        clear HI0
        obtain ⟨i, rfl, hI⟩ := hrel
        have hi := hI.le
        have hbr := hI.box.bel
        have c1 := hI.box.c1
        have c2 := hI.box.c2
        have c3 := hI.box.c3
        have HSPC := hide hI.spec
        have HBX := hide hI.box
        clear hI
        simp only at hi c1 c2 c3 HSPC
        by_cases hlt : i < l.length
        · obtain ⟨y, hy⟩ : ∃ y, l[i]? = some y := ⟨l[i], List.getElem?_eq_getElem hlt⟩
          obtain ⟨hy1, hy2⟩ := unhide HA y (List.mem_of_getElem? hy)
          obtain ⟨q1, q2, hq, hcells⟩ := (unhide HV).below hbr
          obtain ⟨g, o, ha, hc⟩ := hcells (by intro h0; rw [h0] at hlt; cases hlt)
          cases hq
          subst ha
          obtain ⟨x0, x1⟩ := hc i y hy
          have m1 : (0 : Int) ≤ (i : Int) := by omega
          have m2 : (i : Int) < (l.length : Int) := by omega
          have hdr : l.drop i = y :: l.drop (i + 1) := by
            rw [← List.getElem_cons_drop hlt]
            congr 1
            exact (List.getElem?_eq_some_iff.1 hy).2
          have hsp := unhide HSPC
          rw [hdr, attrsB_cons] at hsp
          have HSP := hide hsp
          have HY := hide hy
          have HEr := hide ((unhide HE).low (hbr.mono hB))
          have hBr : B ≤ wr.heap.size := Nat.le_trans hB hbr.size
          clear hc hcells hy hdr hsp HSPC
          go_wp2_with fail
          refine (refQname_any y.1 _ hy1 (unhide HEr).env).mono ?_
          rintro e w1 ⟨rfl, hb1⟩
          have hbr1 := Below.then hbr hb1
          cases hqy : qB y.1
          · have HR : Hid (okB ⟨2, n, l, x⟩ = false) := hide (by rw [unhide HOK, unhide HSP, hqy]; simp)
            clear HSP hqy
            go_wp2
            go_ret
            exact ⟨ret_bool (unhide HR).symm, hbr1⟩
          · have HSP1 : Hid (attrsB [] l = (!((l.take i).map (·.1.data.toList)).contains y.1.data.toList && (textB y.2 && attrsB ((l.take i).map (·.1.data.toList) ++ [y.1.data.toList]) (l.drop (i + 1))))) := hide (by rw [unhide HSP, hqy]; rfl)
            have d2 := keptC hb1 c2
            have z0 := keptC hb1 x0
            have z1 := keptC hb1 x1
            clear HSP hqy
            go_wp2_with fail
            refine (refIsText_same y.2 _ (by omega) ((unhide HEr).on hBr hb1).env).mono ?_
            rintro e w2 ⟨rfl, hb2⟩
            have hbr2 := Below.then hbr1 hb2
            cases hty : textB y.2
            · have HR : Hid (okB ⟨2, n, l, x⟩ = false) := hide (by rw [unhide HOK, unhide HSP1, hty]; simp)
              clear HSP1 hty
              go_wp2
              go_ret
              exact ⟨ret_bool (unhide HR).symm, hbr2⟩
            · have HSP2 : Hid (attrsB [] l = (!((l.take i).map (·.1.data.toList)).contains y.1.data.toList && attrsB ((l.take i).map (·.1.data.toList) ++ [y.1.data.toList]) (l.drop (i + 1)))) := hide (by rw [unhide HSP1, hty]; rfl)
              have HB2 := hide (((unhide HBX).on hb1).on hb2)
              have HZ0 := hide (keptC hb2 z0)
              have HD2 := hide (keptC hb2 d2)
              have HP2 := hide ((unhide HV).below hbr2)
              clear HSP1 hty d2 z0 z1 x0 x1 c1 c2 c3
              go_wp2_with fail
              rename_i W1 _
              go_loopw [4] (fun s4 wx => ∃ j : Nat, s4 = .int .i64 (j : Nat) ∧ j ≤ i ∧ Below w2.heap.size w2 wx ∧ ((l.take j).map (·.1.data.toList)).contains y.1.data.toList = false) (fun s4 _ => i - (intOf s4).toNat)
              case atStart => exact ⟨0, rfl, Nat.zero_le _, Below.refl _ _, rfl⟩
              case round =>
                obtain ⟨j, rfl, hj, hbx, hno⟩ := hrel
                have HNO := hide hno
                clear hno
                have d2 := keptC hbx (unhide HD2)
                have z0 := keptC hbx (unhide HZ0)
                by_cases hji : j < i
                · obtain ⟨u, hu⟩ : ∃ u, l[j]? = some u := ⟨l[j], List.getElem?_eq_getElem (by omega)⟩
                  obtain ⟨p1, p2, hp, hcells⟩ := (unhide HP2).below hbx
                  obtain ⟨g3, o3, ha3, hc3⟩ := hcells (by intro h0; rw [h0] at hlt; cases hlt)
                  cases hp
                  cases ha3
                  obtain ⟨v0, v1⟩ := hc3 j u hu
                  have r1 : (0 : Int) ≤ (j : Int) := by omega
                  have r2 : (j : Int) < (l.length : Int) := by omega
                  have r3 : (j : Int) < (i : Int) := by omega
                  have hnt := names_take hu y.1
                  rw [unhide HNO, Bool.false_or] at hnt
                  have HNT := hide hnt
                  have HU := hide hu
                  clear hc3 hcells hu hnt
                  go_wp2_with fail
                  go_quiet (fail)
                  have hbz := Below.then hbx (below_drewN _ nq)
                  cases hcm : (u.1.toList == y.1.toList)
                  · have HN2 : Hid (((l.take (j + 1)).map (·.1.data.toList)).contains y.1.data.toList = false) := hide ((unhide HNT).trans hcm)
                    clear HNT HNO v0 v1 d2 z0
                    go_wp2_with fail
                    go_round
                    case measure => simp [intOf]; omega
                    case rel => exact ⟨j + 1, by simp, by omega, hbz, unhide HN2⟩
                  · have HR : Hid (okB ⟨2, n, l, x⟩ = false) := hide (by
                      have hm : ((l.take i).map (·.1.data.toList)).contains y.1.data.toList = true := by
                        have e : u.1.data.toList = y.1.data.toList := by
                          have := eq_of_beq hcm
                          rwa [toList_data, toList_data] at this
                        rw [← e]
                        simp only [List.contains_iff_mem]
                        exact List.mem_map.2 ⟨u, List.mem_of_getElem? (i := j) (by rw [List.getElem?_take, if_pos hji]; exact unhide HU), rfl⟩
                      rw [unhide HOK, unhide HSP2, hm]
                      rfl)
                    clear HNT HNO v0 v1 d2 z0
                    go_wp2
                    go_ret
                    exact ⟨ret_bool (unhide HR).symm, Below.then hbr2 hbz⟩
                · have r3 : ¬ (j : Int) < (i : Int) := by omega
                  have hji2 : j = i := by omega
                  have HI2 : Hid (RtSt w ⟨2, n, l, x⟩ (.slice (some ⟨g, o, none⟩) l.length cap) (i + 1) wr) := hide ⟨hlt, (unhide HB2).on hbx, by
                    have h1 := unhide HNO
                    rw [hji2] at h1
                    show attrsB [] l = attrsB ((l.take (i + 1)).map (·.1.data.toList)) (l.drop (i + 1))
                    rw [unhide HSP2, h1, List.take_succ_eq_append_getElem hlt, List.map_append, (List.getElem?_eq_some_iff.1 (unhide HY)).2]
                    rfl⟩
                  clear HNO d2 z0
                  go_wp2_with fail
                  go_round
                  case measure => simp [intOf]; omega
                  case rel => exact ⟨i + 1, by simp, unhide HI2⟩
        · have m2 : ¬ (i : Int) < (l.length : Int) := by omega
          have hil : i = l.length := by omega
          have HTR : Hid (attrsB [] l = true) := hide (by rw [unhide HSPC, hil, List.drop_length]; rfl)
          have HEr := hide ((unhide HE).low (hbr.mono hB))
          clear HSPC
          go_wp2_with fail
          refine (refQname_any n _ hns (unhide HEr).env).mono ?_
          rintro e w1 ⟨rfl, hb1⟩
          have d3 := keptC hb1 c3
          cases hq : qB n
          · have HR : Hid (okB ⟨2, n, l, x⟩ = false) := hide (by rw [unhide HOK, hq]; simp)
            clear hq
            go_wp2
            go_ret
            exact ⟨ret_bool (unhide HR).symm, Below.then hbr hb1⟩
          · have HR : Hid (okB ⟨2, n, l, x⟩ = x.toList.isEmpty) := hide (by rw [unhide HOK, hq, unhide HTR]; rfl)
            clear hq
            go_wp2
            go_ret
            exact ⟨ret_bool (by rw [unhide HR]), Below.then hbr hb1⟩
    · have g2 : (k == 2) = false := by simpa using k2
      by_cases k7 : k = 7
      · subst k7
        have HOK := hide (okB7 n l x)
        go_wp2_with fail
        refine (refQname_any n _ hns (unhide HEW).env).mono ?_
        rintro e w1 ⟨rfl, hb1⟩
        have hbW1 := Below.then hbW hb1
        have d3 := keptC hb1 c3
        have d2 := keptC hb1 c2
        cases hq : qB n
        · have HR : Hid (okB ⟨7, n, l, x⟩ = false) := hide (by rw [unhide HOK, hq]; simp)
          clear HOK hq
          go_wp2
          go_ret
          exact ⟨ret_bool (unhide HR).symm, hbW1⟩
        · cases hx0 : x.toList.isEmpty
          · have HR : Hid (okB ⟨7, n, l, x⟩ = false) := hide (by rw [unhide HOK, hx0]; rfl)
            clear HOK hq
            go_wp2
            go_ret
            exact ⟨ret_bool (unhide HR).symm, hbW1⟩
          · have HR : Hid (okB ⟨7, n, l, x⟩ = ((l.length : Int) == 0)) := hide (by rw [unhide HOK, hx0, hq, len_zero]; simp)
            clear HOK hq
            go_wp2
            go_ret
            exact ⟨ret_bool (by rw [unhide HR]), hbW1⟩
      · have g7 : (k == 7) = false := by simpa using k7
        by_cases k4 : k = 4
        · subst k4
          have HOK := hide (okB4 n l x)
          have hlz : ((l.length : Int) == 0) = l.isEmpty := len_zero l
          cases hn0 : n.toList.isEmpty
          · have HR : Hid (okB ⟨4, n, l, x⟩ = false) := hide (by rw [unhide HOK, hn0]; rfl)
            clear HOK
            go_wp2
            go_ret
            exact ⟨ret_bool (unhide HR).symm, hbW⟩
          · cases hx0 : x.toList.isEmpty
            · have HR : Hid (okB ⟨4, n, l, x⟩ = ((l.length : Int) == 0)) := hide (by rw [unhide HOK, hn0, hx0, unhide HTX, hlz]; simp)
              clear HOK hlz
              go_wp2
              go_ret
              exact ⟨ret_bool (by rw [unhide HR]), hbW⟩
            · have HR : Hid (okB ⟨4, n, l, x⟩ = false) := hide (by rw [unhide HOK, hx0]; simp)
              clear HOK
              go_wp2
              go_ret
              exact ⟨ret_bool (unhide HR).symm, hbW⟩
        · have g4 : (k == 4) = false := by simpa using k4
          have hlz : ((l.length : Int) == 0) = l.isEmpty := len_zero l
          by_cases k5 : k = 5
          · subst k5
            have HOK := hide (okB5 n l x)
            cases hn0 : n.toList.isEmpty
            · have HR : Hid (okB ⟨5, n, l, x⟩ = false) := hide (by rw [unhide HOK, hn0]; rfl)
              clear HOK hlz
              go_wp2
              go_ret
              exact ⟨ret_bool (unhide HR).symm, hbW⟩
            · cases hl0 : l.isEmpty
              · rw [hl0] at hlz
                have HR : Hid (okB ⟨5, n, l, x⟩ = false) := hide (by rw [unhide HOK, hl0]; simp)
                clear HOK hl0
                go_wp2
                go_ret
                exact ⟨ret_bool (unhide HR).symm, hbW⟩
              · rw [hl0] at hlz
                have HR1 : Hid (okB ⟨5, n, l, x⟩ = (!Lib.contains x.data.toList [45, 45] && !Lib.hasSuffix x.data.toList [45])) := hide (by rw [unhide HOK, hn0, hl0]; unfold comB; rw [unhide HTX]; simp)
                clear HOK hl0
                go_wp2_with fail
                refine (refFind_any x ⟨#[45, 45]⟩ _ hxs (by decide) (by decide)).mono ?_
                rintro e w1 ⟨⟨j, rfl, hj⟩, rfl⟩
                have hj' : decide (j < 0) = !Lib.contains x.data.toList [45, 45] := hj
                cases hc : Lib.contains x.data.toList [45, 45]
                · rw [hc] at hj'
                  have HR2 : Hid (okB ⟨5, n, l, x⟩ = !Lib.hasSuffix x.data.toList [45]) := hide (by rw [unhide HR1, hc]; rfl)
                  have hj0 : j < 0 := by simpa using hj'
                  clear HR1 hc hj hj'
                  by_cases hx0 : x.size = 0
                  · have HR : Hid (okB ⟨5, n, l, x⟩ = true) := hide (by
                      rw [unhide HR2]
                      have : x.data.toList = [] := List.eq_nil_of_length_eq_zero hx0
                      rw [this]
                      rfl)
                    have hxi : ((x.size : Int) == 0) = true := by simp [hx0]
                    clear HR2
                    go_wp2
                    go_ret
                    exact ⟨ret_bool (unhide HR).symm, hbW⟩
                  · have hxp : 0 < x.size := by omega
                    have HR : Hid (okB ⟨5, n, l, x⟩ = !((x[x.size - 1].toNat : Int) == 45)) := hide (by rw [unhide HR2, suf_last x hxp])
                    have hxi : ((x.size : Int) == 0) = false := beq_eq_false_iff_ne.2 (by omega)
                    have e1 : wrap64 ((x.size : Int) - 1) = (x.size : Int) - 1 := by unfold wrap64; omega
                    have e1' : IntKind.i64.wrap ((x.size : Int) - 1) = (x.size : Int) - 1 := by rw [IntKind.wrap_i64]; omega
                    have e2 : (0 : Int) ≤ (x.size : Int) - 1 := by omega
                    have e3 : (x.size : Int) - 1 < (x.size : Int) := by omega
                    have e4 : ((x.size : Int) - 1).toNat = x.size - 1 := by omega
                    clear HR2 hx0
                    go_wp2
                    go_ret
                    exact ⟨ret_bool (by rw [unhide HR]; rfl), hbW⟩
                · rw [hc] at hj'
                  have HR : Hid (okB ⟨5, n, l, x⟩ = false) := hide (by rw [unhide HR1, hc]; rfl)
                  have hj0 : ¬ j < 0 := by simpa using hj'
                  clear HR1 hc hj hj'
                  go_wp2
                  go_ret
                  exact ⟨ret_bool (unhide HR).symm, hbW⟩
          · have g5 : (k == 5) = false := by simpa using k5
            by_cases k6 : k = 6
            · subst k6
              have HOK := hide (okB6 n l x)
              go_wp2_with fail
              refine (refIsName_any n _ (by omega) (unhide HEW).env).mono ?_
              rintro e w1 ⟨rfl, hb1⟩
              have hbW1 := Below.then hbW hb1
              have d1 := keptC hb1 c1
              cases hnm : nameB n
              · have HR : Hid (okB ⟨6, n, l, x⟩ = false) := hide (by rw [unhide HOK]; unfold tarB; rw [hnm]; simp)
                clear HOK hnm
                go_wp2
                go_ret
                exact ⟨ret_bool (unhide HR).symm, hbW1⟩
              · have HOK1 : Hid (okB ⟨6, n, l, x⟩ = (l.isEmpty && (!lowB n && insB x))) := hide (by rw [unhide HOK]; unfold tarB; rw [hnm]; simp)
                obtain ⟨L, hL⟩ : ∃ L : ByteArray, L = ⟨(n.data.toList.map lowU).toArray⟩ := ⟨_, rfl⟩
                have hLl : (L.toList == [120, 109, 108]) = lowB n := by
                  rw [toList_data, hL]
                  show ((n.data.toList.map lowU).toArray.toList == _) = _
                  exact lowU_xml _
                have HLw := hide (fun W => refLower_any n W hns)
                rw [← hL] at HLw
                clear HOK hnm hL
                go_wp2_with fail
                refine (unhide HLw _).mono ?_
                rintro e w2 ⟨rfl, hb2⟩
                have hbW2 := Below.then hbW1 hb2
                have f2 := keptC hb2 (keptC hb1 c2)
                have f3 := keptC hb2 (keptC hb1 c3)
                cases hlw : lowB n
                · rw [hlw] at hLl
                  have HOK2 : Hid (okB ⟨6, n, l, x⟩ = (l.isEmpty && insB x)) := hide (by rw [unhide HOK1, hlw]; rfl)
                  clear HOK1 hlw
                  cases hl0 : l.isEmpty
                  · rw [hl0] at hlz
                    have HR : Hid (okB ⟨6, n, l, x⟩ = false) := hide (by rw [unhide HOK2, hl0]; rfl)
                    clear HOK2 hl0
                    go_wp2
                    go_ret
                    exact ⟨ret_bool (unhide HR).symm, hbW2⟩
                  · rw [hl0] at hlz
                    have HR1 : Hid (okB ⟨6, n, l, x⟩ = (!Lib.contains x.data.toList [63, 62] && ((Lib.trimLeftF blankN x).toList == x.toList))) := hide (by rw [unhide HOK2, hl0]; unfold insB; rw [unhide HTX]; simp)
                    clear HOK2 hl0
                    go_wp2_with fail
                    refine (refFind_any x ⟨#[63, 62]⟩ _ hxs (by decide) (by decide)).mono ?_
                    rintro e w3 ⟨⟨j, rfl, hj⟩, rfl⟩
                    have hj' : decide (j < 0) = !Lib.contains x.data.toList [63, 62] := hj
                    cases hc : Lib.contains x.data.toList [63, 62]
                    · rw [hc] at hj'
                      have HR2 : Hid (okB ⟨6, n, l, x⟩ = ((Lib.trimLeftF blankN x).toList == x.toList)) := hide (by rw [unhide HR1, hc]; rfl)
                      have hj0 : j < 0 := by simpa using hj'
                      clear HR1 hc hj hj'
                      by_cases hx0 : x.size = 0
                      · have HR : Hid (okB ⟨6, n, l, x⟩ = true) := hide (by rw [unhide HR2, trim_none x hx0])
                        have hxi : x.toList.isEmpty = true := by rw [size_empty]; exact decide_eq_true hx0
                        clear HR2 hx0
                        go_wp2
                        go_ret
                        exact ⟨ret_bool (unhide HR).symm, hbW2⟩
                      · have hxp : 0 < x.size := by omega
                        have HR : Hid (okB ⟨6, n, l, x⟩ = !blankB (x[0].toNat : Int)) := hide (by rw [unhide HR2, trim_first x (unhide HTX) hxp])
                        have hxi : x.toList.isEmpty = false := by rw [size_empty]; exact decide_eq_false hx0
                        have e3 : (0 : Int) < (x.size : Int) := by omega
                        clear HR2 hx0
                        go_wp2_with fail
                        refine (refIsBlank_any _ _).mono ?_
                        rintro e w4 ⟨rfl, rfl⟩
                        go_wp2
                        go_ret
                        have e5 : wrap32 (x[0].toNat : Int) = (x[0].toNat : Int) := by
                          have := x[0].toNat_lt
                          unfold wrap32
                          omega
                        exact ⟨ret_bool (by rw [unhide HR, e5]), hbW2⟩
                    · rw [hc] at hj'
                      have HR : Hid (okB ⟨6, n, l, x⟩ = false) := hide (by rw [unhide HR1, hc]; rfl)
                      have hj0 : ¬ j < 0 := by simpa using hj'
                      clear HR1 hc hj hj'
                      go_wp2
                      go_ret
                      exact ⟨ret_bool (unhide HR).symm, hbW2⟩
                · rw [hlw] at hLl
                  have HR : Hid (okB ⟨6, n, l, x⟩ = false) := hide (by rw [unhide HOK1, hlw]; simp)
                  clear HOK1 hlw
                  go_wp2
                  go_ret
                  exact ⟨ret_bool (unhide HR).symm, hbW2⟩
            · have g6 : (k == 6) = false := by simpa using k6
              have HR : Hid (okB ⟨k, n, l, x⟩ = false) := hide (by unfold okB; simp only [if_neg k2, if_neg k7, if_neg k4, if_neg k5, if_neg k6])
              clear k2 k7 k4 k5 k6 hlz
              go_wp2
              go_ret
              exact ⟨ret_bool (unhide HR).symm, hbW⟩
end Go.Proofs.YtefjfjieoiegnaaGreatDoor
