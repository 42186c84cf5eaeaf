/- Rows of bytes that were handed in: what they hold, here and in later worlds. -/
import Derived.Test.YtdoobohdddghbaaDoorEncode
import Derived.Test.YtdoobohdddghbaaDoorBytesPlain
import Derived.ChangeOld
namespace Go.Proofs.YtdoobohdddghbaaDoor
open Go.RowKit
/-- A row of bytes that was handed in: empty, or a text's bytes in cells. -/
def ArgB (w : World) (v : Value) (t : ByteArray) : Prop :=
  (t = ⟨#[]⟩ ∧ ∃ a c, v = .slice a 0 c ∧ c ≤ maxLen ∧ (a = none → c = 0)) ∨
  ∃ b off c, v = .slice (some ⟨b, off, none⟩) t.size c ∧ t.size ≤ c ∧ c ≤ maxLen ∧ ∀ i, i < t.size → w.cell? ⟨b, off + i, none⟩ = some (.int .u8 ((t.get! i).toNat : Int))
theorem argB_below {w w' : World} {v : Value} {t : ByteArray} (h : ArgB w v t) (hb : Below w.heap.size w w') : ArgB w' v t := by
  rcases h with h | ⟨b, off, c, h1, h2, h3, h4⟩
  · exact .inl h
  · refine .inr ⟨b, off, c, h1, h2, h3, fun i hi => ?_⟩
    rw [hb.cell (block_lt_of_cell (h4 i hi))]
    exact h4 i hi
theorem argCells_below {w w' : World} {b off : Nat} {t : ByteArray} (h : ∀ i, i < t.size → w.cell? ⟨b, off + i, none⟩ = some (.int .u8 ((t.get! i).toNat : Int))) (hb : Below w.heap.size w w') :
    ∀ i, i < t.size → w'.cell? ⟨b, off + i, none⟩ = some (.int .u8 ((t.get! i).toNat : Int)) := fun i hi => by
  rw [hb.cell (block_lt_of_cell (h i hi))]
  exact h i hi
theorem conv_none (a : Option Addr) (c : Nat) (w : World) : (convert 22 9 (.slice a 0 c)).run Tryd.prog w = .ok (.string ⟨#[]⟩) w := by
  cases a with
  | none => exact run_convert_bytes_nil _ 22 5 Tryd.underlying22 Tryd.underlying5 _ _ _ Tryd.underlying9
  | some x =>
    have hl : (loadCells x 0).run Tryd.prog w = .ok (([] : List Int).map (Value.int .u8)).toArray w := run_loadCells_list w x [] (fun j v hj => by simp at hj)
    rw [run_convert_bytes_string w 22 9 5 _ 0 c Tryd.underlying22 Tryd.underlying5 Tryd.underlying9, run_bytesToString w _ 0 c [] hl]
    rfl
theorem strOf_get (t : ByteArray) (n : Nat) : strOfNums ((t.data.toList.drop n).map fun c => (c.toNat : Int)) = ⟨(t.data.toList.drop n).toArray⟩ := by
  unfold strOfNums
  congr 2
  rw [List.map_map]
  have : ((fun n : Int => UInt8.ofNat n.toNat) ∘ fun c : UInt8 => (c.toNat : Int)) = id := by
    funext c
    simp
  rw [this, List.map_id]
/-- What is left from a place on, as a text. -/
theorem argB_tail {w : World} {b off : Nat} {t : ByteArray} (h : ∀ i, i < t.size → w.cell? ⟨b, off + i, none⟩ = some (.int .u8 ((t.get! i).toNat : Int))) (n : Nat) (hn : n ≤ t.size) (len cap : Nat) (hlen : len = t.size - n) :
    (convert 22 9 (.slice (some ⟨b, off + n, none⟩) len cap)).run Tryd.prog w = .ok (.string ⟨(t.data.toList.drop n).toArray⟩) w := by
  subst hlen
  have hl : t.data.toList.length = t.size := rfl
  refine (run_convert_bytes_arg _ 22 5 Tryd.underlying22 Tryd.underlying5 b (off + n) (t.size - n) cap ((t.data.toList.drop n).map fun c => (c.toNat : Int)) (by simp [hl]) ?_ 9 Tryd.underlying9).trans ?_
  · intro i hi
    rw [Nat.add_assoc, h (n + i) (by omega), get_data t (n + i) (by omega)]
    simp [List.getD, List.getElem?_map, List.getElem?_drop, List.getElem?_eq_getElem (show n + i < t.data.toList.length by omega)]
  · rw [strOf_get t n]
theorem argB_bytes {w : World} {v : Value} {t : ByteArray} (h : ArgB w v t) : BytesAt w v t := by
  refine ⟨?_, fun w' hb => ?_⟩
  · rcases h with ⟨rfl, a, c, rfl, _⟩ | ⟨b, off, c, rfl, _⟩
    · exact ⟨a, c, rfl⟩
    · exact ⟨_, c, rfl⟩
  · rcases argB_below h hb with ⟨rfl, a, c, rfl, _⟩ | ⟨b, off, c, rfl, h2, h3, h4⟩
    · exact conv_none a c w'
    · have := argB_tail h4 0 (Nat.zero_le _) t.size c (by omega)
      rw [Nat.add_zero] at this
      rw [this]
      simp
theorem bytesAt_owned {w : World} {base : Nat} {v : Value} {l : List UInt8} (h : w.ownsRow base 5 1 v l.length (byteCells l)) : BytesAt w v ⟨l.toArray⟩ :=
  ⟨owns_slice h, fun _ hb => conv_owned (owns_below h hb)⟩
end Go.Proofs.YtdoobohdddghbaaDoor
