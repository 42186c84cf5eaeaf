/- Several texts, laid as one. -/
import Derived.Test.YtmemcabipcccaaaGreatDoorGam
import Derived.Shelf.Strings.MapAny
import Derived.Test.YtmemcabipcccaaaGreatDoorGak
import Derived.Lib.IndexAny
import Derived.Maps.AppendAt
import Derived.Maps.Views
/- References in a document where no entity is declared: xmlscan's reference. -/
namespace Go.Proofs.YtmemcabipcccaaaGreatDoor
open Go.RowKit
end Go.Proofs.YtmemcabipcccaaaGreatDoor
/- Blanks as spaces: xmlscan's spaced. -/
namespace Go.Proofs.YtmemcabipcccaaaGreatDoor
open Go.RowKit
end Go.Proofs.YtmemcabipcccaaaGreatDoor
/- Where an attribute's text comes to a sign: strings.IndexAny. -/
namespace Go.Proofs.YtmemcabipcccaaaGreatDoor
open Go.RowKit
end Go.Proofs.YtmemcabipcccaaaGreatDoor
/- Where a row lies behind an append: append as one step of a region that draws its order, with that. -/
namespace Go.Proofs.YtmemcabipcccaaaGreatDoor
open Go.RowKit
end Go.Proofs.YtmemcabipcccaaaGreatDoor
/- What a reference comes to, whatever is declared: xmlscan's spend, add and addText. -/
namespace Go.Proofs.YtmemcabipcccaaaGreatDoor
open Go.RowKit
end Go.Proofs.YtmemcabipcccaaaGreatDoor
/- Entities, looked up. -/
namespace Go.Proofs.YtmemcabipcccaaaGreatDoor
open Go.RowKit
/-- No name twice. -/
def UniqE (ents : List (List Nat × List Nat)) : Prop := ents.Pairwise fun a b => a.1 ≠ b.1
end Go.Proofs.YtmemcabipcccaaaGreatDoor
/- A reference to an entity: xmlscan's add, over addText's contract. -/
namespace Go.Proofs.YtmemcabipcccaaaGreatDoor
open Go.RowKit
/-- Every block stands but the expansion's, the reader's, and those of two rows. -/
structure ExpK (q p : Nat) (vt vo : Value) (w w' : World) : Prop where
  os : w'.os = w.os
  tape : w'.tape = w.tape
  output : w'.output = w.output
  size : w.heap.size ≤ w'.heap.size
  block : ∀ k, k < w.heap.size → k ≠ q → k ≠ p → vt.ownBlock ≠ some k → vo.ownBlock ≠ some k → w'.heap[k]? = w.heap[k]?
/-- A row lies where it lay, or in a new block. -/
def Fresh (w : World) (v v' : Value) : Prop := v'.ownBlock = v.ownBlock ∨ ∀ k, v'.ownBlock = some k → w.heap.size ≤ k
theorem Fresh.ne {w : World} {v v' : Value} (h : Fresh w v v') {k : Nat} (hk : k < w.heap.size) (hv : v.ownBlock ≠ some k) : v'.ownBlock ≠ some k := by
  rcases h with h | h
  · rw [h]; exact hv
  · intro e
    have := h k e
    omega
theorem Fresh.trans {w w1 : World} {v v1 v2 : Value} (hs : w.heap.size ≤ w1.heap.size) (h : Fresh w v v1) (g : Fresh w1 v1 v2) : Fresh w v v2 := by
  rcases g with g | g
  · rcases h with h | h
    · exact .inl (g.trans h)
    · exact .inr fun k hk => h k (by rw [← g]; exact hk)
  · exact .inr fun k hk => by have := g k hk; omega
theorem ExpK.refl (q p : Nat) (vt vo : Value) (w : World) : ExpK q p vt vo w w := ⟨rfl, rfl, rfl, Nat.le_refl _, fun _ _ _ _ _ _ => rfl⟩
theorem ExpK.trans {q p : Nat} {vt vo vt1 vo1 : Value} {w w1 w2 : World} (h : ExpK q p vt vo w w1) (ft : Fresh w vt vt1) (fo : Fresh w vo vo1) (g : ExpK q p vt1 vo1 w1 w2) : ExpK q p vt vo w w2 :=
  ⟨g.os.trans h.os, g.tape.trans h.tape, g.output.trans h.output, Nat.le_trans h.size g.size, fun k hk h1 h2 h3 h4 => (g.block k (by have := h.size; omega) h1 h2 (ft.ne hk h3) (fo.ne hk h4)).trans (h.block k hk h1 h2 h3 h4)⟩
theorem ExpK.below {q p : Nat} {vt vo : Value} {w w1 : World} (h : Below w.heap.size w w1) : ExpK q p vt vo w w1 :=
  ⟨h.os, h.tape, h.output, h.size, fun k hk _ _ _ _ => h.block k hk⟩
theorem ExpK.low {q p B : Nat} {vt vo : Value} {w w' : World} (h : ExpK q p vt vo w w') (hB : B ≤ w.heap.size) (hq : B ≤ q) (hp : B ≤ p) (ht : ∀ k, vt.ownBlock = some k → B ≤ k) (ho : ∀ k, vo.ownBlock = some k → B ≤ k) : Below B w w' :=
  ⟨h.os, h.tape, h.output, h.size, fun k hk => h.block k (by omega) (by omega) (by omega) (fun e => by have := ht k e; omega) (fun e => by have := ho k e; omega)⟩
end Go.Proofs.YtmemcabipcccaaaGreatDoor
/- Every reference: xmlscan's add, over addText's contract. -/
namespace Go.Proofs.YtmemcabipcccaaaGreatDoor
open Go.RowKit
end Go.Proofs.YtmemcabipcccaaaGreatDoor
/- Every reference, declared or not: xmlscan's add, over addText's contract. -/
namespace Go.Proofs.YtmemcabipcccaaaGreatDoor
open Go.RowKit
end Go.Proofs.YtmemcabipcccaaaGreatDoor
/- What an expansion's text and its count come to, in plain terms: each character of the text was spent. -/
namespace Go.Proofs.YtmemcabipcccaaaGreatDoor
end Go.Proofs.YtmemcabipcccaaaGreatDoor
