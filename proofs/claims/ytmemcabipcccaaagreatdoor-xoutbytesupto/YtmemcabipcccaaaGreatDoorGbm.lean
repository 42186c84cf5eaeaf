/- Several texts, laid as one. -/
import Derived.Test.YtmemcabipcccaaaGreatDoorGax
import Derived.Test.YtmemcabipcccaaaGreatDoorGbl
import Derived.Lib.IndexBytes
import Derived.Test.YtmemcabipcccaaaGreatDoorXmlWrB
/- The reference's find, lower and qname. -/
namespace Go.Proofs.YtmemcabipcccaaaGreatDoor
open Go.RowKit
/-- No instance ahead of a place. -/
def noOcc (s sub : List UInt8) (i : Nat) : Prop := ∀ j, j < i → Lib.occAt s sub j = false
theorem none_found {s sub : ByteArray} {i : Nat} (h : noOcc s.data.toList sub.data.toList i) (hi : s.size < i + sub.size) (hs : 0 < sub.size) : Lib.contains s.data.toList sub.data.toList = false := by
  have h1 : Lib.index s.data.toList sub.data.toList = -1 := Lib.index_none fun j _ => by
    by_cases hj : j < i
    · exact h j hj
    · cases ho : Lib.occAt s.data.toList sub.data.toList j with
      | false => rfl
      | true =>
        rcases Lib.occAt_room ho with h2 | h2
        · have e1 : s.data.toList.length = s.size := rfl
          have e2 : sub.data.toList.length = sub.size := rfl
          omega
        · have e2 : sub.data.toList.length = sub.size := rfl
          rw [h2] at e2
          simp at e2
          omega
  unfold Lib.contains
  rw [h1]
  rfl
theorem one_found {s sub : ByteArray} {i : Nat} (h : noOcc s.data.toList sub.data.toList i) (hi : i ≤ s.size) (ho : Lib.occAt s.data.toList sub.data.toList i = true) : Lib.contains s.data.toList sub.data.toList = true := by
  have h1 := Lib.index_first (s := s.data.toList) (sub := sub.data.toList) (i := i) hi ho h
  unfold Lib.contains
  rw [h1]
  simp
set_option maxHeartbeats 2000000 in
theorem refFind_any (s t : ByteArray) (w : World) (hs : s.size ≤ 1048576) (ht : 0 < t.size) (ht2 : t.size ≤ 10) :
    Calls Tryz.prog 44 #[.string s, .string t, .int .i64 0] w fun e w' => (∃ j : Int, e = .returned (.int .i64 j) ∧ decide (j < 0) = !Lib.contains s.data.toList t.data.toList) ∧ w' = w := by
  go_enter Tryz.func44, Tryz.ntmps44
  go_wp2_with fail
  go_loopw [7] (fun i wr => ∃ k : Nat, i = .int .i64 (k : Nat) ∧ k ≤ s.size ∧ noOcc s.data.toList t.data.toList k ∧ wr = w) (fun i _ => s.size + 1 - (intOf i).toNat)
  case atStart => exact ⟨0, rfl, Nat.zero_le _, (fun j hj => by omega), rfl⟩
  case round =>
    obtain ⟨k, rfl, hk, hno, rfl⟩ := hrel
    have HNO := hide hno
    clear hno
    have e1 : wrap64 ((k : Int) + (t.size : Int)) = (k : Int) + (t.size : Int) := by unfold wrap64; omega
    by_cases hlt : k + t.size ≤ s.size
    · have n1 : (k : Int) + (t.size : Int) ≤ (s.size : Int) := by omega
      have n2 : (0 : Int) ≤ (k : Int) := by omega
      have n3 : (k : Int) ≤ (k : Int) + (t.size : Int) := by omega
      have e2 : ((k : Int) + (t.size : Int)).toNat = k + t.size := by omega
      have hoc := Lib.occ_of_piece s t k hlt
      cases ho : ((s.extract k (k + t.size)).toList == t.toList)
      · have HN2 : Hid (noOcc s.data.toList t.data.toList (k + 1)) := hide fun j hj => by
          by_cases h : j < k
          · exact unhide HNO j h
          · obtain rfl : j = k := by omega
            rw [hoc]; exact ho
        clear hoc HNO
        go_wp2_with fail
        go_round
        case measure => simp [intOf]; omega
        case rel => exact ⟨k + 1, by simp, by omega, unhide HN2, by first | rfl | trivial⟩
      · have HF : Hid (Lib.contains s.data.toList t.data.toList = true) := hide (one_found (unhide HNO) hk (by rw [hoc]; exact ho))
        clear hoc HNO
        go_wp2
        go_ret
        exact ⟨⟨(k : Nat), rfl, by rw [unhide HF]; simp⟩, rfl⟩
    · have n1 : ¬ (k : Int) + (t.size : Int) ≤ (s.size : Int) := by omega
      have HF : Hid (Lib.contains s.data.toList t.data.toList = false) := hide (none_found (unhide HNO) (by omega) ht)
      go_wp2
      go_ret
      exact ⟨⟨-1, rfl, by rw [unhide HF]; rfl⟩, rfl⟩
set_option maxHeartbeats 1000000 in
theorem refQname_any (s : ByteArray) (w : World) (hs : s.size ≤ 1048576) (hE : Env w) :
    Calls Tryz.prog 43 #[.string s] w fun e w' => e = .returned (.bool (qB s)) ∧ Below w.heap.size w w' := by
  obtain ⟨p, n, hv⟩ := splitV_cases s.data.toList
  have HV := hide hv
  have HS := hide (refSplit_any s w (by omega) hE)
  clear hv hE
  go_enter Tryz.func43, Tryz.ntmps43
  go_wp2_with fail
  refine (unhide HS).mono ?_
  rintro e w1 ⟨rfl, hb1⟩
  rw [unhide HV]
  go_wp2
  go_ret
  exact ⟨rfl, hb1⟩
def lowU (b : UInt8) : UInt8 := if 65 ≤ b.toNat ∧ b.toNat ≤ 90 then b + 32 else b
theorem lowU_nat (b : UInt8) : (lowU b).toNat = lowC b.toNat := by
  unfold lowU lowC
  by_cases h : 65 ≤ b.toNat ∧ b.toNat ≤ 90
  · rw [if_pos h, if_pos h, UInt8.toNat_add]
    show (b.toNat + 32) % 256 = _
    omega
  · rw [if_neg h, if_neg h]
theorem lowU_xml (s : List UInt8) : (s.map lowU == [120, 109, 108]) = (s.map (fun b => lowC b.toNat) == [120, 109, 108]) := by
  have e1 : s.map (fun b => lowC b.toNat) = (s.map lowU).map UInt8.toNat := by
    rw [List.map_map]
    exact List.map_congr_left fun b _ => (lowU_nat b).symm
  rw [e1]
  generalize s.map lowU = l
  by_cases h : l = [120, 109, 108]
  · rw [h]; rfl
  · have h1 : (l == [120, 109, 108]) = false := beq_eq_false_iff_ne.2 h
    have h2 : (l.map UInt8.toNat == [120, 109, 108]) = false := beq_eq_false_iff_ne.2 fun hh => h (by
      have : l.map UInt8.toNat = ([120, 109, 108] : List UInt8).map UInt8.toNat := hh
      exact (List.map_inj_right (fun a b hab => UInt8.toNat_inj.1 hab)).1 this)
    rw [h1, h2]
set_option maxRecDepth 100000 in
set_option maxHeartbeats 4000000 in
theorem refLower_any (s : ByteArray) (w : World) (hs : s.size ≤ 1048576) :
    Calls Tryz.prog 46 #[.string s] w fun e w' => e = .returned (.string ⟨(s.data.toList.map lowU).toArray⟩) ∧ Below w.heap.size w w' := by
  have hi0 : (Tryz.prog.info? 5).map (fun i => (i.zero, i.size, i.bytes)) = some (some (.int .u8 0), 1, 1) := by kernel_rfl
  obtain ⟨i0, hi, hz0, hz1, hz2⟩ := info_parts hi0
  clear hi0
  go_enter Tryz.func46, Tryz.ntmps46
  go_wp2_with fail
  go_loopw [3, 4] (fun s3 i wr => ∃ k : Nat, i = .int .i64 (k : Nat) ∧ k ≤ s.size ∧ wr.ownsRow w.heap.size 5 1 s3 k (byteCells ((s.data.toList.take k).map lowU)) ∧ Below w.heap.size w wr) (fun _ i _ => s.size - (intOf i).toNat)
  case atStart => exact ⟨0, rfl, Nat.zero_le _, World.ownsRow_nil _ _ _ _, Below.refl _ _⟩
  case round =>
    obtain ⟨k, rfl, hk, hown, hbr⟩ := hrel
    by_cases hlt : k < s.size
    · obtain ⟨ad, c, rfl⟩ := owns_slice hown
      have hsz := hbr.size
      have hk1 : s.data.toList[k]? = some s[k] := List.getElem?_eq_getElem (l := s.data.toList) hlt
      have htk : byteCells ((s.data.toList.take (k + 1)).map lowU) = byteCells ((s.data.toList.take k).map lowU) ++ [.int .u8 ((lowU s[k]).toNat : Nat)] := by
        rw [List.take_add_one, hk1]
        simp [byteCells]
      have hlow := lowU_nat s[k]
      have n1 : (0 : Int) ≤ (k : Int) := by omega
      have n2 : (k : Int) < (s.size : Int) := by omega
      have h256 : s[k].toNat < 256 := s[k].toNat_lt
      by_cases hu : 65 ≤ s[k].toNat ∧ s[k].toNat ≤ 90
      · obtain ⟨u1, u2⟩ := hu
        have HTK : Hid (byteCells ((s.data.toList.take (k + 1)).map lowU) = byteCells ((s.data.toList.take k).map lowU) ++ [.int .u8 ((s[k].toNat : Int) + 32)]) := hide (by
          rw [htk, hlow]
          unfold lowC
          rw [if_pos ⟨u1, u2⟩]
          rfl)
        have d1 : (65 : Int) ≤ (s[k].toNat : Int) := by omega
        have d2 : (s[k].toNat : Int) ≤ 90 := by omega
        have d3 : IntKind.u8.wrap ((s[k].toNat : Int) + 32) = (s[k].toNat : Int) + 32 := by
          show ((s[k].toNat : Int) + 32) % 256 = _
          omega
        clear htk hlow hk1 u1 u2
        go_wp2_with (at_builtin; refine wpList_append_own _ rfl _ _ 32 rfl w.heap.size 5 i0 (.int .u8 0) 1 1 Tryz.underlying32 hi hz0 hz1 hz2 rfl (by decide) _ _ _ rfl (hown.alloc _) ⟨wr.heap.size, 0, none⟩ 1 1 [.int .u8 ((s[k].toNat : Int) + 32)] rfl rfl (cell_one_new _ _ _) (fun x hx => by simp at hx; subst hx; rfl) (by unfold maxLen; omega) (by omega) (by simp; omega) ?_; intro v2 w2 hown2 hgrow2 _)
        have b2 := Below.grown (hbr.alloc hsz _) hgrow2 (by simp; omega) (owns_ge hown)
        refine ⟨⟨k + 1, by go_num, by omega, ?_, b2⟩, by simp [intOf]; omega⟩
        rw [unhide HTK]
        exact hown2
      · have HTK : Hid (byteCells ((s.data.toList.take (k + 1)).map lowU) = byteCells ((s.data.toList.take k).map lowU) ++ [.int .u8 (s[k].toNat : Nat)]) := hide (by
          rw [htk, hlow]
          unfold lowC
          rw [if_neg hu])
        by_cases h65 : 65 ≤ s[k].toNat
        · have d1 : (65 : Int) ≤ (s[k].toNat : Int) := by omega
          have d2 : ¬ (s[k].toNat : Int) ≤ 90 := by omega
          clear htk hlow hk1 hu h65
          go_wp2_with (at_builtin; refine wpList_append_own _ rfl _ _ 32 rfl w.heap.size 5 i0 (.int .u8 0) 1 1 Tryz.underlying32 hi hz0 hz1 hz2 rfl (by decide) _ _ _ rfl (hown.alloc _) ⟨wr.heap.size, 0, none⟩ 1 1 [.int .u8 (s[k].toNat : Nat)] rfl rfl (cell_one_new _ _ _) (fun x hx => by simp at hx; subst hx; rfl) (by unfold maxLen; omega) (by omega) (by simp; omega) ?_; intro v2 w2 hown2 hgrow2 _)
          have b2 := Below.grown (hbr.alloc hsz _) hgrow2 (by simp; omega) (owns_ge hown)
          refine ⟨⟨k + 1, by go_num, by omega, ?_, b2⟩, by simp [intOf]; omega⟩
          rw [unhide HTK]
          exact hown2
        · have d1 : ¬ (65 : Int) ≤ (s[k].toNat : Int) := by omega
          clear htk hlow hk1 hu h65
          go_wp2_with (at_builtin; refine wpList_append_own _ rfl _ _ 32 rfl w.heap.size 5 i0 (.int .u8 0) 1 1 Tryz.underlying32 hi hz0 hz1 hz2 rfl (by decide) _ _ _ rfl (hown.alloc _) ⟨wr.heap.size, 0, none⟩ 1 1 [.int .u8 (s[k].toNat : Nat)] rfl rfl (cell_one_new _ _ _) (fun x hx => by simp at hx; subst hx; rfl) (by unfold maxLen; omega) (by omega) (by simp; omega) ?_; intro v2 w2 hown2 hgrow2 _)
          have b2 := Below.grown (hbr.alloc hsz _) hgrow2 (by simp; omega) (owns_ge hown)
          refine ⟨⟨k + 1, by go_num, by omega, ?_, b2⟩, by simp [intOf]; omega⟩
          rw [unhide HTK]
          exact hown2
    · have hke : k = s.size := by omega
      subst hke
      rw [List.take_of_length_le (show s.data.toList.length ≤ s.size from Nat.le_refl _)] at hown
      have hl : ((s.data.toList.map lowU).length) = s.size := by rw [List.length_map]; rfl
      rw [← hl] at hown
      have hcv := conv_owned hown
      have n2 : ¬ (s.size : Int) < (s.size : Int) := by omega
      clear hown
      go_wp2
      go_ret
      exact ⟨rfl, hbr⟩
end Go.Proofs.YtmemcabipcccaaaGreatDoor
/- Whether a token may stand by itself: the reference's RightToken. -/
namespace Go.Proofs.YtmemcabipcccaaaGreatDoor
open Go.RowKit
theorem text_empty : textB ⟨#[]⟩ = true := by
  rw [textB_txt]
  exact ⟨[], (fun _ h => by cases h), rfl⟩
theorem okB_text {t : BTok} (h : textB t.text = false) : okB t = false := by
  have hx : t.text.toList.isEmpty = false := by
    cases he : t.text.toList.isEmpty with
    | false => rfl
    | true =>
      have := empty_T he
      rw [this, T_nil, text_empty] at h
      cases h
  unfold okB comB insB
  rw [h, hx]
  simp
theorem suf_last (s : ByteArray) (h : 0 < s.size) : Lib.hasSuffix s.data.toList [45] = ((s[s.size - 1].toNat : Int) == 45) := by
  have hne : s.data.toList ≠ [] := fun h0 => by
    have : s.data.toList.length = s.size := rfl
    rw [h0] at this
    simp at this
    omega
  have hl : s.data.toList.getLast? = some (s[s.size - 1]'(by omega)) := by
    rw [List.getLast?_eq_getElem?]
    exact List.getElem?_eq_getElem (l := s.data.toList) (i := s.data.toList.length - 1) (by have : s.data.toList.length = s.size := rfl; omega)
  generalize s[s.size - 1]'(by omega) = b at *
  by_cases hb : b = 45
  · subst hb
    obtain ⟨p, hp⟩ := List.getLast?_eq_some_iff.1 hl
    rw [hp]
    show [45].isSuffixOf (p ++ [45]) = _
    rw [List.isSuffixOf_iff_suffix.2 ⟨p, rfl⟩]
    rfl
  · have h1 : Lib.hasSuffix s.data.toList [45] = false := by
      cases hs : Lib.hasSuffix s.data.toList [45] with
      | false => rfl
      | true =>
        obtain ⟨p, hp⟩ := List.isSuffixOf_iff_suffix.1 hs
        rw [← hp, List.getLast?_append] at hl
        simp at hl
        exact absurd hl.symm hb
    rw [h1]
    symm
    apply beq_eq_false_iff_ne.2
    intro e
    exact hb (UInt8.toNat_inj.1 (by show b.toNat = 45; omega))
theorem trim_first (x : ByteArray) (ht : textB x = true) (h : 0 < x.size) : ((Lib.trimLeftF blankN x).toList == x.toList) = !blankB (x[0].toNat : Int) := by
  obtain ⟨l, hl, rfl⟩ := textB_T ht
  cases l with
  | nil => exact absurd h (by decide)
  | cons c l =>
    obtain ⟨b, m, hr, _⟩ := runeB_first (charR_ok (hl c (by simp)))
    have h0 : (T (c :: l))[0] = b := by
      have e : (T (c :: l)).data.toList = b :: (m ++ tx l) := by rw [T_data, tx_cons, hr]; rfl
      have : (T (c :: l)).data.toList[0]? = some b := by rw [e]; rfl
      rw [List.getElem?_eq_getElem (l := (T (c :: l)).data.toList) h] at this
      exact Option.some.inj this
    rw [h0, trim_T hl]
    have hbl : blankB (b.toNat : Int) = blankC c := by
      rw [blankC_eq]
      by_cases h128 : c < 128
      · have : runeB c = [UInt8.ofNat c] := runeB_one h128
        rw [this] at hr
        cases hr
        rw [asc_toNat h128]
      · have h1 : 128 ≤ b.toNat := runeB_high (charR_ok (hl c (by simp))) (by omega) b (by rw [hr]; simp)
        unfold blankC
        have e1 : ∀ n, n < 128 → (b.toNat == n) = false := fun n hn => beq_eq_false_iff_ne.2 (by omega)
        have e2 : ∀ n, n < 128 → (c == n) = false := fun n hn => beq_eq_false_iff_ne.2 (by omega)
        rw [e1 9 (by omega), e1 10 (by omega), e1 13 (by omega), e1 32 (by omega), e2 9 (by omega), e2 10 (by omega), e2 13 (by omega), e2 32 (by omega)]
    rw [hbl]
    cases hb : blankC c
    · rw [List.dropWhile_cons, if_neg (by rw [hb]; decide)]
      simp
    · rw [List.dropWhile_cons, if_pos hb]
      apply beq_eq_false_iff_ne.2
      intro e
      rw [T_toList, T_toList] at e
      have h2 := tx_inj (fun x hx => hl x (List.mem_cons_of_mem _ ((List.dropWhile_sublist _).subset hx))) hl e
      have h3 := congrArg List.length h2
      have h4 : (l.dropWhile blankC).length ≤ l.length := (List.dropWhile_sublist _).length_le
      rw [List.length_cons] at h3
      omega
end Go.Proofs.YtmemcabipcccaaaGreatDoor
