/- Several texts, laid as one. -/
import Derived.Test.YtmemcabipcccaaaGreatDoorXmlEsc
import Derived.Test.YtmemcabipcccaaaGreatDoorGaq
/- Texts with other texts for some of their characters: the reference's Escape and Quote. -/
namespace Go.Proofs.YtmemcabipcccaaaGreatDoor
open Go.RowKit
theorem ba_app (a b : List UInt8) : (⟨a.toArray⟩ : ByteArray) ++ ⟨b.toArray⟩ = ⟨(a ++ b).toArray⟩ := by
  apply ByteArray.ext
  rw [ByteArray.data_append]
  simp
theorem ba_one (s : ByteArray) (i : Nat) (h : i < s.size) : s.extract i (i + 1) = ⟨#[s.get! i]⟩ := by
  apply ByteArray.ext
  apply Array.toList_inj.1
  rw [ByteArray.data_extract, Array.toList_extract, List.extract_eq_take_drop, show i + 1 - i = 1 by omega]
  have hg := get_at s i h
  have hl : i < s.data.toList.length := h
  rw [List.drop_eq_getElem_cons hl]
  rw [List.getElem?_eq_getElem hl] at hg
  rw [Option.some.inj hg]
  rfl
theorem map_step (o : Nat → List UInt8) (s : ByteArray) (i : Nat) (h : i < s.size) : mapO o (s.data.toList.take (i + 1)) = mapO o (s.data.toList.take i) ++ oneO o (s.get! i) := by
  rw [List.take_add_one, get_at s i h, mapO_app]
  congr 1
  show oneO o (s.get! i) ++ [] = _
  rw [List.append_nil]
set_option maxRecDepth 100000 in
set_option maxHeartbeats 4000000 in
theorem refEscape_any (s : ByteArray) (w : World) (hs : s.size ≤ 1048576) :
    Calls Tryz.prog 38 #[.string s] w fun e w' => e = .returned (.string ⟨(mapO escO s.data.toList).toArray⟩) ∧ w' = w := by
  go_enter Tryz.func38, Tryz.ntmps38
  go_wp2_with fail
  go_loopg [3, 4] s.size (fun g v3 v4 wr => ∃ i : Nat, i + g = s.size ∧ v4 = .int .i64 (i : Nat) ∧ v3 = .string ⟨(mapO escO (s.data.toList.take i)).toArray⟩ ∧ wr = w)
  case atStart => exact ⟨0, by omega, rfl, rfl, rfl⟩
  case round =>
    obtain ⟨i, hig, rfl, rfl, rfl⟩ := hrel
    have HML := hide (mapO_size esc_few s i)
    obtain ⟨O, hO⟩ : ∃ O : ByteArray, (⟨(mapO escO (s.data.toList.take i)).toArray⟩ : ByteArray) = O := ⟨_, rfl⟩
    have hOs : O.size ≤ 6291456 := by
      have h1 := unhide HML
      have h2 : O.size = (mapO escO (s.data.toList.take i)).length := by rw [← hO]; rfl
      omega
    have HO := hide hO
    cases gk with
    | zero =>
      obtain rfl : i = s.size := by omega
      have HE : Hid (O = ⟨(mapO escO s.data.toList).toArray⟩) := hide (by rw [← hO, show s.data.toList.take s.size = s.data.toList from List.take_of_length_le (show s.data.toList.length ≤ s.size from Nat.le_refl _)])
      rw [hO]
      clear hO hig
      go_wp2
      go_ret
      rw [unhide HE]
      exact ⟨rfl, rfl⟩
    | succ g =>
      have hi : i < s.size := by omega
      have HG := hide hig
      have HST := hide (map_step escO s i hi)
      have HB1 := hide (ba_one s i hi)
      obtain ⟨C, hC⟩ : ∃ C : Nat, (s.get! i).toNat = C := ⟨_, rfl⟩
      have hix : ∀ W, (Instr.index 9 (.string s) (.int .i64 (i : Int))).run Tryz.prog W = .ok (.int .u8 (C : Int)) W := fun W => by
        rw [run_index_string W 9 s .i64 _ Tryz.underlying9, dif_pos ⟨by omega, by omega⟩, ← hC]
        have e := get_at s i hi
        have e2 : s.data.toList[i]? = some (s[i]'hi) := Lib.data_getElem? s i hi
        rw [e2] at e
        rw [← Option.some.inj e]
        rfl
      have HC := hide hC
      have hw1 : wrap64 ((i : Int) + 1) = ((i + 1 : Nat) : Int) := by unfold wrap64; omega
      have hsl : (s.extract i (i + 1)).size = 1 := by rw [ByteArray.size_extract]; omega
      rw [hO]
      clear hO hC hig
      by_cases h38 : C = 38
      · subst h38
        go_wp2_with fail
        go_roundg g
        case measure => omega
        case rel =>
          refine ⟨i + 1, by have := unhide HG; omega, by first | rfl | simp, ?_, rfl⟩
          rw [unhide HST, ← ba_app, unhide HO]
          unfold oneO
          rw [unhide HC]
          rfl
      · have e38 : ((C : Int) == 38) = false := by simp; omega
        by_cases h60 : C = 60
        · subst h60
          go_wp2_with fail
          go_roundg g
          case measure => omega
          case rel =>
            refine ⟨i + 1, by have := unhide HG; omega, by first | rfl | simp, ?_, rfl⟩
            rw [unhide HST, ← ba_app, unhide HO]
            unfold oneO
            rw [unhide HC]
            rfl
        · have e60 : ((C : Int) == 60) = false := by simp; omega
          by_cases h62 : C = 62
          · subst h62
            go_wp2_with fail
            go_roundg g
            case measure => omega
            case rel =>
              refine ⟨i + 1, by have := unhide HG; omega, by first | rfl | simp, ?_, rfl⟩
              rw [unhide HST, ← ba_app, unhide HO]
              unfold oneO
              rw [unhide HC]
              rfl
          · have e62 : ((C : Int) == 62) = false := by simp; omega
            by_cases h13 : C = 13
            · subst h13
              go_wp2_with fail
              go_roundg g
              case measure => omega
              case rel =>
                refine ⟨i + 1, by have := unhide HG; omega, by first | rfl | simp, ?_, rfl⟩
                rw [unhide HST, ← ba_app, unhide HO]
                unfold oneO
                rw [unhide HC]
                rfl
            · have e13 : ((C : Int) == 13) = false := by simp; omega
              have HN : Hid (escO C = []) := hide (by unfold escO insO; simp [h38, h60, h62, h13])
              clear h38 h60 h62 h13
              go_wp2_with fail
              go_roundg g
              case measure => omega
              case rel =>
                refine ⟨i + 1, by have := unhide HG; omega, by first | rfl | simp, ?_, rfl⟩
                rw [unhide HST, ← ba_app, unhide HO]
                unfold oneO
                rw [unhide HC]
                rw [unhide HN, if_pos rfl, unhide HB1]
set_option maxRecDepth 100000 in
set_option maxHeartbeats 4000000 in
theorem refQuote_any (s : ByteArray) (w : World) (hs : s.size ≤ 1048576) :
    Calls Tryz.prog 63 #[.string s] w fun e w' => e = .returned (.string ⟨(mapO quoO s.data.toList).toArray⟩) ∧ w' = w := by
  go_enter Tryz.func63, Tryz.ntmps63
  go_wp2_with fail
  go_loopg [3, 4] s.size (fun g v3 v4 wr => ∃ i : Nat, i + g = s.size ∧ v4 = .int .i64 (i : Nat) ∧ v3 = .string ⟨(mapO quoO (s.data.toList.take i)).toArray⟩ ∧ wr = w)
  case atStart => exact ⟨0, by omega, rfl, rfl, rfl⟩
  case round =>
    obtain ⟨i, hig, rfl, rfl, rfl⟩ := hrel
    have HML := hide (mapO_size quo_few s i)
    obtain ⟨O, hO⟩ : ∃ O : ByteArray, (⟨(mapO quoO (s.data.toList.take i)).toArray⟩ : ByteArray) = O := ⟨_, rfl⟩
    have hOs : O.size ≤ 6291456 := by
      have h1 := unhide HML
      have h2 : O.size = (mapO quoO (s.data.toList.take i)).length := by rw [← hO]; rfl
      omega
    have HO := hide hO
    cases gk with
    | zero =>
      obtain rfl : i = s.size := by omega
      have HE : Hid (O = ⟨(mapO quoO s.data.toList).toArray⟩) := hide (by rw [← hO, show s.data.toList.take s.size = s.data.toList from List.take_of_length_le (show s.data.toList.length ≤ s.size from Nat.le_refl _)])
      rw [hO]
      clear hO hig
      go_wp2
      go_ret
      rw [unhide HE]
      exact ⟨rfl, rfl⟩
    | succ g =>
      have hi : i < s.size := by omega
      have HG := hide hig
      have HST := hide (map_step quoO s i hi)
      have HB1 := hide (ba_one s i hi)
      obtain ⟨C, hC⟩ : ∃ C : Nat, (s.get! i).toNat = C := ⟨_, rfl⟩
      have hix : ∀ W, (Instr.index 9 (.string s) (.int .i64 (i : Int))).run Tryz.prog W = .ok (.int .u8 (C : Int)) W := fun W => by
        rw [run_index_string W 9 s .i64 _ Tryz.underlying9, dif_pos ⟨by omega, by omega⟩, ← hC]
        have e := get_at s i hi
        have e2 : s.data.toList[i]? = some (s[i]'hi) := Lib.data_getElem? s i hi
        rw [e2] at e
        rw [← Option.some.inj e]
        rfl
      have HC := hide hC
      have hw1 : wrap64 ((i : Int) + 1) = ((i + 1 : Nat) : Int) := by unfold wrap64; omega
      have hsl : (s.extract i (i + 1)).size = 1 := by rw [ByteArray.size_extract]; omega
      rw [hO]
      clear hO hC hig
      by_cases h38 : C = 38
      · subst h38
        go_wp2_with fail
        go_roundg g
        case measure => omega
        case rel =>
          refine ⟨i + 1, by have := unhide HG; omega, by first | rfl | simp, ?_, rfl⟩
          rw [unhide HST, ← ba_app, unhide HO]
          unfold oneO
          rw [unhide HC]
          rfl
      · have e38 : ((C : Int) == 38) = false := by simp; omega
        by_cases h60 : C = 60
        · subst h60
          go_wp2_with fail
          go_roundg g
          case measure => omega
          case rel =>
            refine ⟨i + 1, by have := unhide HG; omega, by first | rfl | simp, ?_, rfl⟩
            rw [unhide HST, ← ba_app, unhide HO]
            unfold oneO
            rw [unhide HC]
            rfl
        · have e60 : ((C : Int) == 60) = false := by simp; omega
          by_cases h34 : C = 34
          · subst h34
            go_wp2_with fail
            go_roundg g
            case measure => omega
            case rel =>
              refine ⟨i + 1, by have := unhide HG; omega, by first | rfl | simp, ?_, rfl⟩
              rw [unhide HST, ← ba_app, unhide HO]
              unfold oneO
              rw [unhide HC]
              rfl
          · have e34 : ((C : Int) == 34) = false := by simp; omega
            by_cases h9 : C = 9
            · subst h9
              go_wp2_with fail
              go_roundg g
              case measure => omega
              case rel =>
                refine ⟨i + 1, by have := unhide HG; omega, by first | rfl | simp, ?_, rfl⟩
                rw [unhide HST, ← ba_app, unhide HO]
                unfold oneO
                rw [unhide HC]
                rfl
            · have e9 : ((C : Int) == 9) = false := by simp; omega
              by_cases h10 : C = 10
              · subst h10
                go_wp2_with fail
                go_roundg g
                case measure => omega
                case rel =>
                  refine ⟨i + 1, by have := unhide HG; omega, by first | rfl | simp, ?_, rfl⟩
                  rw [unhide HST, ← ba_app, unhide HO]
                  unfold oneO
                  rw [unhide HC]
                  rfl
              · have e10 : ((C : Int) == 10) = false := by simp; omega
                by_cases h13 : C = 13
                · subst h13
                  go_wp2_with fail
                  go_roundg g
                  case measure => omega
                  case rel =>
                    refine ⟨i + 1, by have := unhide HG; omega, by first | rfl | simp, ?_, rfl⟩
                    rw [unhide HST, ← ba_app, unhide HO]
                    unfold oneO
                    rw [unhide HC]
                    rfl
                · have e13 : ((C : Int) == 13) = false := by simp; omega
                  have HN : Hid (quoO C = []) := hide (by unfold quoO insO; simp [h38, h60, h34, h9, h10, h13])
                  clear h38 h60 h34 h9 h10 h13
                  go_wp2_with fail
                  go_roundg g
                  case measure => omega
                  case rel =>
                    refine ⟨i + 1, by have := unhide HG; omega, by first | rfl | simp, ?_, rfl⟩
                    rw [unhide HST, ← ba_app, unhide HO]
                    unfold oneO
                    rw [unhide HC]
                    rw [unhide HN, if_pos rfl, unhide HB1]
end Go.Proofs.YtmemcabipcccaaaGreatDoor
/- Texts that are escaped, in plain terms: they are read as they were. -/
namespace Go.Proofs.YtmemcabipcccaaaGreatDoor
end Go.Proofs.YtmemcabipcccaaaGreatDoor
