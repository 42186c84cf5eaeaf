/- Several texts, laid as one. -/
import Derived.Test.YtmemcabipcccaaaGreatDoorGbp
import Derived.Test.YtmemcabipcccaaaGreatDoorGbe
import Derived.Test.YtmemcabipcccaaaGreatDoorGbn
import Derived.Test.YtmemcabipcccaaaGreatDoorGba
import Derived.Test.YtmemcabipcccaaaGreatDoorGas
/- The reference's has and attr. -/
namespace Go.Proofs.YtmemcabipcccaaaGreatDoor
open Go.RowKit
set_option maxHeartbeats 2000000 in
theorem refHas_any (s t : ByteArray) (w : World) (hs : s.size ≤ 1048576) (ht : 0 < t.size) (ht2 : t.size ≤ 10) :
    Calls Tryz.prog 36 #[.string s, .string t] w fun e w' => e = .returned (.bool (Lib.contains s.data.toList t.data.toList)) ∧ w' = w := by
  go_enter Tryz.func36, Tryz.ntmps36
  go_wp2_with fail
  go_loopw [5] (fun i wr => ∃ k : Nat, i = .int .i64 (k : Nat) ∧ k ≤ s.size ∧ noOcc s.data.toList t.data.toList k ∧ wr = w) (fun i _ => s.size + 1 - (intOf i).toNat)
  case atStart => exact ⟨0, rfl, Nat.zero_le _, (fun j hj => by omega), rfl⟩
  case round =>
    obtain ⟨k, rfl, hk, hno, rfl⟩ := hrel
    have HNO := hide hno
    clear hno
    have e1 : wrap64 ((k : Int) + (t.size : Int)) = (k : Int) + (t.size : Int) := by unfold wrap64; omega
    by_cases hlt : k + t.size ≤ s.size
    · have n1 : (k : Int) + (t.size : Int) ≤ (s.size : Int) := by omega
      have n2 : (0 : Int) ≤ (k : Int) := by omega
      have n3 : (k : Int) ≤ (k : Int) + (t.size : Int) := by omega
      have e2 : ((k : Int) + (t.size : Int)).toNat = k + t.size := by omega
      have hoc := Lib.occ_of_piece s t k hlt
      cases ho : ((s.extract k (k + t.size)).toList == t.toList)
      · have HN2 : Hid (noOcc s.data.toList t.data.toList (k + 1)) := hide fun j hj => by
          by_cases h : j < k
          · exact unhide HNO j h
          · obtain rfl : j = k := by omega
            rw [hoc]; exact ho
        clear hoc HNO
        go_wp2_with fail
        go_round
        case measure => simp [intOf]; omega
        case rel => exact ⟨k + 1, by simp, by omega, unhide HN2, by first | rfl | trivial⟩
      · have HF : Hid (Lib.contains s.data.toList t.data.toList = true) := hide (one_found (unhide HNO) hk (by rw [hoc]; exact ho))
        clear hoc HNO
        go_wp2
        go_ret
        exact ⟨congrArg (fun b => Ending.returned (Value.bool b)) (unhide HF).symm, rfl⟩
    · have n1 : ¬ (k : Int) + (t.size : Int) ≤ (s.size : Int) := by omega
      have HF : Hid (Lib.contains s.data.toList t.data.toList = false) := hide (none_found (unhide HNO) (by omega) ht)
      go_wp2
      go_ret
      exact ⟨congrArg (fun b => Ending.returned (Value.bool b)) (unhide HF).symm, rfl⟩
def htmlC (c : UInt8) : List UInt8 := if c = 38 then ampS else if c = 34 then quotS else [c]
theorem htmlV_flat (v : ByteArray) : htmlV v = v.data.toList.flatMap htmlC := by
  unfold htmlV
  generalize v.data.toList = l
  induction l with
  | nil => rfl
  | cons c l ih =>
    unfold repB at ih ⊢
    rw [List.flatMap_cons, List.flatMap_append, ih, List.flatMap_cons]
    congr 1
    unfold htmlC
    by_cases h : c = 38
    · rw [if_pos h, if_pos h]
      rfl
    · rw [if_neg h, if_neg h]
      by_cases h2 : c = 34
      · subst h2; rfl
      · rw [if_neg h2]
        simp [h2]
theorem htmlC_len (l : List UInt8) : (l.flatMap htmlC).length ≤ 6 * l.length := by
  induction l with
  | nil => simp
  | cons c l ih =>
    rw [List.flatMap_cons, List.length_append, List.length_cons]
    have : (htmlC c).length ≤ 6 := by
      unfold htmlC
      split
      · decide
      · split
        · decide
        · simp
    omega
def attrP (x : ByteArray × ByteArray) (k : Nat) : List UInt8 := 32 :: (x.1.data.toList ++ 61 :: 34 :: ((x.2.data.toList.take k).flatMap htmlC))
theorem attrP_step {x : ByteArray × ByteArray} {k : Nat} (h : k < x.2.size) : attrP x (k + 1) = attrP x k ++ htmlC x.2[k] := by
  have hk : x.2.data.toList[k]? = some x.2[k] := List.getElem?_eq_getElem (l := x.2.data.toList) h
  unfold attrP
  rw [List.take_add_one, hk]
  simp
theorem attrP_len (x : ByteArray × ByteArray) (k : Nat) (h : x.1.size ≤ 1048576 ∧ x.2.size ≤ 1048576) : (attrP x k).length ≤ 8000000 := by
  have h1 := htmlC_len (x.2.data.toList.take k)
  have h2 : (x.2.data.toList.take k).length ≤ x.2.size := by rw [List.length_take]; exact Nat.min_le_right _ _
  have h3 : x.1.data.toList.length = x.1.size := rfl
  unfold attrP
  simp only [List.length_cons, List.length_append]
  omega
theorem attrP_all (x : ByteArray × ByteArray) : attrP x x.2.size ++ [34] = 32 :: (x.1.data.toList ++ 61 :: 34 :: (htmlV x.2 ++ [34])) := by
  rw [htmlV_flat]
  unfold attrP
  rw [List.take_of_length_le (show x.2.data.toList.length ≤ x.2.size from Nat.le_refl _)]
  simp
theorem bytes_two (O s : ByteArray) (l m : List UInt8) (h1 : O.data.toList = l) (h2 : s.data.toList = m) : (O ++ s).data.toList = l ++ m := by
  rw [ByteArray.data_append, ← h1, ← h2]
  simp
theorem one_byte (s : ByteArray) (k : Nat) (h : k < s.size) : (s.extract k (k + 1)).data.toList = [s[k]] := by
  rw [ByteArray.data_extract]
  have h' : k < s.data.size := h
  rw [Array.toList_extract, List.extract_eq_take_drop, Nat.add_sub_cancel_left]
  have hl : k < s.data.toList.length := h
  rw [List.drop_eq_getElem_cons hl]
  rfl
set_option maxRecDepth 100000 in
set_option maxHeartbeats 4000000 in
theorem refAttr_any (x : ByteArray × ByteArray) (w : World) (hx : x.1.size ≤ 1048576 ∧ x.2.size ≤ 1048576) :
    Calls Tryz.prog 62 #[.agg #[.string x.1, .string x.2]] w fun e w' => ∃ s : ByteArray, e = .returned (.string s) ∧ s.data.toList = hAttrB x ∧ Below w.heap.size w w' := by
  have HSH := hide (fun W => refShort_any x.1 W hx.1)
  have HB : Hid (hAttrB x = if shortB x.1 && (x.2.toList == x.1.toList) then 32 :: x.1.data.toList else 32 :: (x.1.data.toList ++ 61 :: 34 :: (htmlV x.2 ++ [34]))) := hide rfl
  have HX := hide hx
  have hx1 := hx.1
  have hx2 := hx.2
  clear hx
  go_enter Tryz.func62, Tryz.ntmps62
  go_wp2_with fail
  refine (unhide HSH _).mono ?_
  rintro e w1 ⟨rfl, hb1⟩
  have hk := (hb1.block w.heap.size (by simp)).trans (alloc_newO w _)
  have c0 : w1.cell? ⟨w.heap.size, 0, none⟩ = some (.string x.1) := by rw [Lib.cell_of_heap hk]; rfl
  have c1 : w1.cell? ⟨w.heap.size, 1, none⟩ = some (.string x.2) := by rw [Lib.cell_of_heap hk]; rfl
  have hb01 : Below w.heap.size w w1 := Below.then ((Below.refl _ _).alloc (Nat.le_refl _) _) hb1
  cases hsh : shortB x.1 with
  | true =>
    cases he : (x.2.toList == x.1.toList) with
    | true =>
      have HF : Hid (((⟨#[32]⟩ : ByteArray) ++ x.1).data.toList = hAttrB x) := hide (by
        rw [unhide HB, hsh, he]
        exact bytes_two _ _ _ _ rfl rfl)
      go_wp2
      go_ret
      exact ⟨_, rfl, unhide HF, hb01⟩
    | false =>
      have HB2 : Hid (hAttrB x = 32 :: (x.1.data.toList ++ 61 :: 34 :: (htmlV x.2 ++ [34]))) := hide (by rw [unhide HB, hsh, he]; rfl)
      go_wp2_with fail
      go_loopw [3, 4] (fun s i wr => ∃ (k : Nat) (O : ByteArray), i = .int .i64 (k : Nat) ∧ s = .string O ∧ k ≤ x.2.size ∧ Hid (O.data.toList = attrP x k) ∧ Below w1.heap.size w1 wr) (fun _ i _ => x.2.size - (intOf i).toNat)
      case atStart => exact ⟨0, _, rfl, rfl, Nat.zero_le _, hide (by simp [attrP, ByteArray.data_append]), Below.refl _ _⟩
      case round =>
        obtain ⟨k, O, rfl, rfl, hk, HO, hbr⟩ := hrel
        have k1 := keptC hbr c1
        have hOs : O.size ≤ 8000000 := by
          have h1 := attrP_len x k (unhide HX)
          rw [← unhide HO] at h1
          exact h1
        by_cases hlt : k < x.2.size
        · have n1 : (0 : Int) ≤ (k : Int) := by omega
          have n2 : (k : Int) < (x.2.size : Int) := by omega
          have n3 : (k : Int) + 1 ≤ (x.2.size : Int) := by omega
          have HST := hide (attrP_step hlt)
          have HON := hide (one_byte x.2 k hlt)
          have h256 : x.2[k].toNat < 256 := x.2[k].toNat_lt
          by_cases h38 : x.2[k].toNat = 38
          · have HF : Hid ((O ++ ⟨#[38, 97, 109, 112, 59]⟩).data.toList = attrP x (k + 1)) := hide (by
              rw [unhide HST]
              refine bytes_two _ _ _ _ (unhide HO) ?_
              unfold htmlC
              rw [if_pos (UInt8.toNat_inj.1 h38)]
              rfl)
            have d1 : ((x.2[k].toNat : Int) == 38) = true := by rw [h38]; rfl
            clear HST HON h256 h38
            go_wp2_with fail
            exact ⟨⟨k + 1, _, by go_num, rfl, hlt, HF, hbr⟩, by simp [intOf]; omega⟩
          · by_cases h34 : x.2[k].toNat = 34
            · have HF : Hid ((O ++ ⟨#[38, 113, 117, 111, 116, 59]⟩).data.toList = attrP x (k + 1)) := hide (by
                rw [unhide HST]
                refine bytes_two _ _ _ _ (unhide HO) ?_
                unfold htmlC
                rw [if_neg (fun e => h38 (by rw [e]; rfl)), if_pos (UInt8.toNat_inj.1 h34)]
                rfl)
              have d1 : ((x.2[k].toNat : Int) == 38) = false := by rw [h34]; rfl
              have d2 : ((x.2[k].toNat : Int) == 34) = true := by rw [h34]; rfl
              clear HST HON h256 h38 h34
              go_wp2_with fail
              exact ⟨⟨k + 1, _, by go_num, rfl, hlt, HF, hbr⟩, by simp [intOf]; omega⟩
            · have HF : Hid ((O ++ x.2.extract k (k + 1)).data.toList = attrP x (k + 1)) := hide (by
                rw [unhide HST]
                refine bytes_two _ _ _ _ (unhide HO) ?_
                unfold htmlC
                rw [if_neg (fun e => h38 (by rw [e]; rfl)), if_neg (fun e => h34 (by rw [e]; rfl))]
                exact unhide HON)
              have d1 : ((x.2[k].toNat : Int) == 38) = false := beq_eq_false_iff_ne.2 (by omega)
              have d2 : ((x.2[k].toNat : Int) == 34) = false := beq_eq_false_iff_ne.2 (by omega)
              have e2 : ((k : Int) + 1).toNat = k + 1 := by omega
              clear HST HON h256 h38 h34
              go_wp2_with fail
              exact ⟨⟨k + 1, _, by go_num, rfl, hlt, HF, hbr⟩, by simp [intOf]; omega⟩
        · have n2 : ¬ (k : Int) < (x.2.size : Int) := by omega
          have HF : Hid ((O ++ ⟨#[34]⟩).data.toList = hAttrB x) := hide (by
            rw [unhide HB2, ← attrP_all, show x.2.size = k by omega]
            exact bytes_two _ _ _ _ (unhide HO) rfl)
          go_wp2
          go_ret
          exact ⟨_, rfl, unhide HF, Below.then hb01 hbr⟩
  | false =>
    have HB2 : Hid (hAttrB x = 32 :: (x.1.data.toList ++ 61 :: 34 :: (htmlV x.2 ++ [34]))) := hide (by rw [unhide HB, hsh]; rfl)
    go_wp2_with fail
    go_loopw [3, 4] (fun s i wr => ∃ (k : Nat) (O : ByteArray), i = .int .i64 (k : Nat) ∧ s = .string O ∧ k ≤ x.2.size ∧ Hid (O.data.toList = attrP x k) ∧ Below w1.heap.size w1 wr) (fun _ i _ => x.2.size - (intOf i).toNat)
    case atStart => exact ⟨0, _, rfl, rfl, Nat.zero_le _, hide (by simp [attrP, ByteArray.data_append]), Below.refl _ _⟩
    case round =>
      obtain ⟨k, O, rfl, rfl, hk, HO, hbr⟩ := hrel
      have k1 := keptC hbr c1
      have hOs : O.size ≤ 8000000 := by
        have h1 := attrP_len x k (unhide HX)
        rw [← unhide HO] at h1
        exact h1
      by_cases hlt : k < x.2.size
      · have n1 : (0 : Int) ≤ (k : Int) := by omega
        have n2 : (k : Int) < (x.2.size : Int) := by omega
        have n3 : (k : Int) + 1 ≤ (x.2.size : Int) := by omega
        have HST := hide (attrP_step hlt)
        have HON := hide (one_byte x.2 k hlt)
        have h256 : x.2[k].toNat < 256 := x.2[k].toNat_lt
        by_cases h38 : x.2[k].toNat = 38
        · have HF : Hid ((O ++ ⟨#[38, 97, 109, 112, 59]⟩).data.toList = attrP x (k + 1)) := hide (by
            rw [unhide HST]
            refine bytes_two _ _ _ _ (unhide HO) ?_
            unfold htmlC
            rw [if_pos (UInt8.toNat_inj.1 h38)]
            rfl)
          have d1 : ((x.2[k].toNat : Int) == 38) = true := by rw [h38]; rfl
          clear HST HON h256 h38
          go_wp2_with fail
          exact ⟨⟨k + 1, _, by go_num, rfl, hlt, HF, hbr⟩, by simp [intOf]; omega⟩
        · by_cases h34 : x.2[k].toNat = 34
          · have HF : Hid ((O ++ ⟨#[38, 113, 117, 111, 116, 59]⟩).data.toList = attrP x (k + 1)) := hide (by
              rw [unhide HST]
              refine bytes_two _ _ _ _ (unhide HO) ?_
              unfold htmlC
              rw [if_neg (fun e => h38 (by rw [e]; rfl)), if_pos (UInt8.toNat_inj.1 h34)]
              rfl)
            have d1 : ((x.2[k].toNat : Int) == 38) = false := by rw [h34]; rfl
            have d2 : ((x.2[k].toNat : Int) == 34) = true := by rw [h34]; rfl
            clear HST HON h256 h38 h34
            go_wp2_with fail
            exact ⟨⟨k + 1, _, by go_num, rfl, hlt, HF, hbr⟩, by simp [intOf]; omega⟩
          · have HF : Hid ((O ++ x.2.extract k (k + 1)).data.toList = attrP x (k + 1)) := hide (by
              rw [unhide HST]
              refine bytes_two _ _ _ _ (unhide HO) ?_
              unfold htmlC
              rw [if_neg (fun e => h38 (by rw [e]; rfl)), if_neg (fun e => h34 (by rw [e]; rfl))]
              exact unhide HON)
            have d1 : ((x.2[k].toNat : Int) == 38) = false := beq_eq_false_iff_ne.2 (by omega)
            have d2 : ((x.2[k].toNat : Int) == 34) = false := beq_eq_false_iff_ne.2 (by omega)
            have e2 : ((k : Int) + 1).toNat = k + 1 := by omega
            clear HST HON h256 h38 h34
            go_wp2_with fail
            exact ⟨⟨k + 1, _, by go_num, rfl, hlt, HF, hbr⟩, by simp [intOf]; omega⟩
      · have n2 : ¬ (k : Int) < (x.2.size : Int) := by omega
        have HF : Hid ((O ++ ⟨#[34]⟩).data.toList = hAttrB x) := hide (by
          rw [unhide HB2, ← attrP_all, show x.2.size = k by omega]
          exact bytes_two _ _ _ _ (unhide HO) rfl)
        go_wp2
        go_ret
        exact ⟨_, rfl, unhide HF, Below.then hb01 hbr⟩
end Go.Proofs.YtmemcabipcccaaaGreatDoor
/- Tokens as a text: the reference's Write. -/
namespace Go.Proofs.YtmemcabipcccaaaGreatDoor
open Go.RowKit
end Go.Proofs.YtmemcabipcccaaaGreatDoor
