/- Several texts, laid as one. -/
import Derived.Test.YthkkfldmoflfaaaGreatDoorNames
import Derived.ArgAppend
import Derived.Laws.ComplexArith
import Derived.Lib.SlBytesConst
import Derived.Lib.RuneBytes
/- Rows of bytes that a call owns: what stays, what they are as a text. -/
namespace Go.Proofs.YthkkfldmoflfaaaGreatDoor
open Go.RowKit
theorem owns_below {w w' : World} {base : Nat} {e : TypeId} {size : Nat} {v : Value} {n : Nat} {xs : List Value} (h : w.ownsRow base e size v n xs) (hb : Below w.heap.size w w') : w'.ownsRow base e size v n xs := by
  refine ⟨h.1, ?_⟩
  rcases h.2 with h | ⟨g, cap, cur, h1, h2, h3, h4⟩
  · exact .inl h
  · exact .inr ⟨g, cap, cur, h1, h2, block_below h3 hb, h4⟩
theorem owns_ge {w : World} {base : Nat} {e : TypeId} {size : Nat} {v : Value} {n : Nat} {xs : List Value} (h : w.ownsRow base e size v n xs) : ∀ k, v.ownBlock = some k → base ≤ k := by
  intro k hk
  rcases h.2 with ⟨rfl, _⟩ | ⟨g, cap, cur, rfl, h2, _⟩
  · simp [Value.ownBlock] at hk
  · simp [Value.ownBlock] at hk; omega
theorem owns_slice {w : World} {base : Nat} {e : TypeId} {size : Nat} {v : Value} {n : Nat} {xs : List Value} (h : w.ownsRow base e size v n xs) : ∃ a c, v = .slice a n c := by
  rcases h.2 with ⟨rfl, h0⟩ | ⟨g, cap, cur, rfl, _⟩
  · exact ⟨none, 0, by rw [h0]⟩
  · exact ⟨_, _, rfl⟩
def byteCells (l : List UInt8) : List Value := l.map fun c => Value.int .u8 (c.toNat : Int)
end Go.Proofs.YthkkfldmoflfaaaGreatDoor
/- Rows of bytes that a call owns or has made of a constant: two bytes more. -/
namespace Go.Proofs.YthkkfldmoflfaaaGreatDoor
open Go.RowKit
end Go.Proofs.YthkkfldmoflfaaaGreatDoor
/- A text in UTF-16: xchar's splitPair and encodeWide. -/
namespace Go.Proofs.YthkkfldmoflfaaaGreatDoor
open Go.RowKit
theorem rune_le (s : ByteArray) (pos : Nat) : (Utf8.decode s pos).1 ≤ 1114111 := by
  have h := Lib.decodeL_rune (s.data.toList.drop pos)
  rw [Lib.decodeL_drop] at h
  exact h
end Go.Proofs.YthkkfldmoflfaaaGreatDoor
/- UTF-16 is read: xchar's unitOf, isPair, joinPair, firstWide and decodeWide. -/
namespace Go.Proofs.YthkkfldmoflfaaaGreatDoor
open Go.RowKit
end Go.Proofs.YthkkfldmoflfaaaGreatDoor
/- UTF-16 is read, character by character: xchar's decodeWide. -/
namespace Go.Proofs.YthkkfldmoflfaaaGreatDoor
open Go.RowKit
/-- A character's bytes in UTF-8. -/
def runeB (r : Nat) : List UInt8 := (Lib.encodeRuneZ (r : Int)).map fun z => UInt8.ofNat z.toNat
theorem runeB_len (r : Nat) : (runeB r).length ≤ 4 := by
  unfold runeB Lib.encodeRuneZ
  repeat' split
  all_goals simp
end Go.Proofs.YthkkfldmoflfaaaGreatDoor
