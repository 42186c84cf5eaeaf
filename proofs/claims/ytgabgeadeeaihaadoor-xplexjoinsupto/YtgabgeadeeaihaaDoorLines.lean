/- Line ends, and the decoding of UTF-8: xchar's endLines and decodeAny. -/
import Derived.Test.YtgabgeadeeaihaaDoorFault
import Derived.Lib.Replace
import Derived.Lib.IndexLaws
namespace Go.Proofs.YtgabgeadeeaihaaDoor
open Go.RowKit
/-- What the package variables of the library hold: MaxLen an int, utf8's tables as their text lays them. -/
structure Env (w : World) : Prop where
  len : ∃ m, w.cell? ⟨3, 0, none⟩ = some (.int .i64 m)
  tabs : Lib.Utf8Tabs 1 2 w
theorem Env.below {w w' : World} (h : Env w) (hb : Below w.heap.size w w') : Env w' := by
  obtain ⟨m, hm⟩ := h.len
  exact ⟨⟨m, by rw [hb.cell (block_lt_of_cell hm)]; exact hm⟩, Utf8Tabs_below h.tabs hb⟩
theorem Below.then {a b c : World} (h : Below a.heap.size a b) (k : Below b.heap.size b c) : Below a.heap.size a c := h.trans (k.mono h.size)
theorem replaceK_le (old new : List UInt8) (hn : new.length ≤ old.length) : ∀ (k : Nat) (s : List UInt8), (Lib.replaceK old new k s).length ≤ s.length
  | 0, s => Nat.le_refl _
  | k + 1, s => by
    unfold Lib.replaceK
    by_cases h : (Lib.index s old == -1) = true
    · rw [if_pos h]; exact Nat.le_refl _
    · rw [if_neg h]
      have h1 := Lib.index_ge s old
      have h2 : Lib.index s old ≠ -1 := by simpa using h
      have h3 := Lib.index_room s old (by omega)
      have ih := replaceK_le old new hn k (s.drop ((Lib.index s old).toNat + old.length))
      rw [List.length_drop] at ih
      simp only [List.length_append, List.length_take]
      omega
theorem replaceAll_le (s old new : List UInt8) (hn : new.length ≤ old.length) : (Lib.replaceAll s old new).length ≤ s.length := by
  unfold Lib.replaceAll Lib.replace
  by_cases h : (old == new) = true
  · rw [if_pos h]; exact Nat.le_refl _
  · rw [if_neg h]; exact replaceK_le old new hn _ _
def endsL (l : List UInt8) : List UInt8 := Lib.replaceAll (Lib.replaceAll l [13, 10] [10]) [13] [10]
theorem endsL_le (l : List UInt8) : (endsL l).length ≤ l.length :=
  Nat.le_trans (replaceAll_le _ _ _ (by decide)) (replaceAll_le _ _ _ (by decide))
theorem size_mk (l : List UInt8) : (⟨l.toArray⟩ : ByteArray).size = l.length := rfl
/-- A text of no wide mark: its bytes behind the narrow mark; the place of a fault counts the mark. -/
def narrowL (l : List UInt8) : List UInt8 := Lib.trimPrefix l [239, 187, 191]
theorem narrowL_le (l : List UInt8) : (narrowL l).length ≤ l.length := by
  unfold narrowL Lib.trimPrefix
  split
  · rw [List.length_drop]; omega
  · exact Nat.le_refl _
theorem fault_bounds (s : ByteArray) : ∀ f pos, 0 ≤ (faultFrom s f pos).2 ∧ (faultFrom s f pos).2 ≤ s.size
  | 0, pos => by simp [faultFrom]
  | f + 1, pos => by
    unfold faultFrom
    by_cases hp : pos < s.size
    · rw [if_pos hp]
      split
      · simp; omega
      · split
        · exact fault_bounds s f _
        · simp; omega
    · rw [if_neg hp]; simp
/-- What Decode tells of UTF-8 behind its mark, of n bytes with it. -/
def decodedV (l : List UInt8) (n : Nat) : Value :=
  if (fault ⟨l.toArray⟩).1 = 0 then .tuple #[.string ⟨(endsL l).toArray⟩, .int .i64 0, .int .i64 0]
  else .tuple #[.string ⟨#[]⟩, .int .i64 (fault ⟨l.toArray⟩).1, .int .i64 ((fault ⟨l.toArray⟩).2 + n - l.length)]
end Go.Proofs.YtgabgeadeeaihaaDoor
