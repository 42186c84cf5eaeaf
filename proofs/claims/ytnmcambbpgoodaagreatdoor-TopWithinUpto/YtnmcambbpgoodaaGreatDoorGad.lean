/- Several texts, laid as one. -/
import Derived.Test.YtnmcambbpgoodaaGreatDoorGac
import Derived.ArgAppend
import Derived.Laws.ComplexArith
import Derived.Lib.SlBytesConst
/- Rows of bytes that a call owns: what stays, what they are as a text. -/
namespace Go.Proofs.YtnmcambbpgoodaaGreatDoor
open Go.RowKit
theorem owns_below {w w' : World} {base : Nat} {e : TypeId} {size : Nat} {v : Value} {n : Nat} {xs : List Value} (h : w.ownsRow base e size v n xs) (hb : Below w.heap.size w w') : w'.ownsRow base e size v n xs := by
  refine ⟨h.1, ?_⟩
  rcases h.2 with h | ⟨g, cap, cur, h1, h2, h3, h4⟩
  · exact .inl h
  · exact .inr ⟨g, cap, cur, h1, h2, block_below h3 hb, h4⟩
theorem owns_ge {w : World} {base : Nat} {e : TypeId} {size : Nat} {v : Value} {n : Nat} {xs : List Value} (h : w.ownsRow base e size v n xs) : ∀ k, v.ownBlock = some k → base ≤ k := by
  intro k hk
  rcases h.2 with ⟨rfl, _⟩ | ⟨g, cap, cur, rfl, h2, _⟩
  · simp [Value.ownBlock] at hk
  · simp [Value.ownBlock] at hk; omega
theorem owns_slice {w : World} {base : Nat} {e : TypeId} {size : Nat} {v : Value} {n : Nat} {xs : List Value} (h : w.ownsRow base e size v n xs) : ∃ a c, v = .slice a n c := by
  rcases h.2 with ⟨rfl, h0⟩ | ⟨g, cap, cur, rfl, _⟩
  · exact ⟨none, 0, by rw [h0]⟩
  · exact ⟨_, _, rfl⟩
end Go.Proofs.YtnmcambbpgoodaaGreatDoor
/- Rows of bytes that a call owns or has made of a constant: two bytes more. -/
namespace Go.Proofs.YtnmcambbpgoodaaGreatDoor
open Go.RowKit
end Go.Proofs.YtnmcambbpgoodaaGreatDoor
/- A text in UTF-16: xchar's splitPair and encodeWide. -/
namespace Go.Proofs.YtnmcambbpgoodaaGreatDoor
open Go.RowKit
theorem rune_le (s : ByteArray) (pos : Nat) : (Utf8.decode s pos).1 ≤ 1114111 := by
  have h := Lib.decodeL_rune (s.data.toList.drop pos)
  rw [Lib.decodeL_drop] at h
  exact h
end Go.Proofs.YtnmcambbpgoodaaGreatDoor
