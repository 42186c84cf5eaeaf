/- Characters looked for among signs below 128: strings.IndexRune. -/
import Derived.Test.YtkklapoceknbcaaGreatDoorXmlEndTag
namespace Go.Proofs.YtkklapoceknbcaaGreatDoor
open Go.RowKit
theorem xEncode_eq (r : Nat) (ho : okR r) : (Utf8.encode (r : Int)).data.toList = runeB r := by
  have ho' := ho
  unfold okR at ho'
  have hv : Utf8.valid (r : Int) = true := by
    unfold Utf8.valid
    simp
    omega
  unfold Utf8.encode
  simp only [hv, if_true, Int.toNat_natCast]
  by_cases h1 : r < 128
  · rw [if_pos h1, runeB_one h1]
  · rw [if_neg h1]
    by_cases h2 : r < 2048
    · rw [if_pos h2, runeB_two (by omega) h2]
    · rw [if_neg h2]
      by_cases h3 : r < 65536
      · rw [if_pos h3, runeB_three (by omega) h3 ho]
      · rw [if_neg h3, runeB_four (by omega) (by omega)]
theorem encode_T (c : Nat) (ho : okR c) : Utf8.encode (c : Int) = T [c] := by
  apply ByteArray.ext
  apply Array.toList_inj.1
  rw [xEncode_eq c ho, T_data]
  simp [tx]
/-- A character as a text. -/
theorem conv_rune (c : Nat) (ho : okR c) (w : World) : (convert 21 9 (.int .i32 (c : Int))).run Tryz.prog w = .ok (.string (T [c])) w := by
  rw [← encode_T c ho]
  exact run_convert_int_string w 21 9 .i32 (c : Int) (by rw [Tryz.underlying21]; rfl) Tryz.underlying9
/-- A character above 127 as a text: how long it is, and its last byte. -/
theorem high_text (c : Nat) (ho : okR c) (hc : 128 ≤ c) : ∃ X : ByteArray, (∀ w, (convert 21 9 (.int .i32 (c : Int))).run Tryz.prog w = .ok (.string X) w) ∧ (X.size = 2 ∨ X.size = 3 ∨ X.size = 4) ∧
    ∃ y : Nat, 128 ≤ y ∧ y < 256 ∧ ∀ w, (Instr.index 9 (.string X) (.int .i64 ((X.size : Int) - 1))).run Tryz.prog w = .ok (.int .u8 (y : Int)) w := by
  have hok := ho
  unfold okR at hok
  refine ⟨T [c], conv_rune c ho, ?_, ?_⟩
  · rw [T_size]
    have : tx [c] = runeB c := by simp [tx]
    rw [this]
    by_cases h2 : c < 2048
    · rw [runeB_two hc h2]; simp
    · by_cases h3 : c < 65536
      · rw [runeB_three (by omega) h3 ho]; simp
      · rw [runeB_four (by omega) (by omega)]; simp
  · have e : (T [c]).data.toList = runeB c := by rw [T_data]; simp [tx]
    have hne : runeB c ≠ [] := by
      obtain ⟨x, t, h, _⟩ := runeB_first ho
      rw [h]; simp
    have hs : (T [c]).size = (runeB c).length := by rw [← e]; rfl
    have hpos : 0 < (T [c]).size := by rw [hs]; exact List.length_pos_iff.2 hne
    have hlast := runeB_high ho hc ((T [c])[(T [c]).size - 1]'(by omega)) (by
      rw [← e]
      exact Array.mem_toList_iff.2 (Array.getElem_mem _))
    refine ⟨((T [c])[(T [c]).size - 1]'(by omega)).toNat, hlast, UInt8.toNat_lt _, fun w => ?_⟩
    rw [run_index_string w 9 (T [c]) .i64 _ Tryz.underlying9, dif_pos ⟨by omega, by omega⟩]
    congr 3
    · congr 2
      omega
end Go.Proofs.YtkklapoceknbcaaGreatDoor
