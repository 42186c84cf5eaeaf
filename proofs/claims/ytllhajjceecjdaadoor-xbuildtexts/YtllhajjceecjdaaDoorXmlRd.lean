/- A reader of XML in memory: its tokens, what is open, the text behind the last token. -/
import Derived.Test.YtllhajjceecjdaaDoorXmlLeaf4
import Derived.Deep.RegionLawGrows
import Derived.Maps.OwnSet
namespace Go.Proofs.YtllhajjceecjdaaDoor
open Go.RowKit
/-- Every block but some stands; blocks may be new. -/
structure Kp (S : Nat → Prop) (w w' : World) : Prop where
  os : w'.os = w.os
  tape : w'.tape = w.tape
  output : w'.output = w.output
  size : w.heap.size ≤ w'.heap.size
  block : ∀ k, k < w.heap.size → ¬ S k → w'.heap[k]? = w.heap[k]?
theorem Kp.low {S : Nat → Prop} {w w' : World} {B : Nat} (h : Kp S w w') (hB : B ≤ w.heap.size) (hS : ∀ k, S k → B ≤ k) : Below B w w' :=
  ⟨h.os, h.tape, h.output, h.size, fun k hk => h.block k (by omega) fun hs => by have := hS k hs; omega⟩
theorem owns_kept {S : Nat → Prop} {w w' : World} {base : Nat} {e : TypeId} {size : Nat} {v : Value} {n : Nat} {xs : List Value} (h : w.ownsRow base e size v n xs) (hk : ∀ k o, w.heap[k]? = some o → ¬ S k → w'.heap[k]? = some o) (hS : ∀ k, v.ownBlock = some k → ¬ S k) : w'.ownsRow base e size v n xs := by
  refine ⟨h.1, ?_⟩
  rcases h.2 with h | ⟨g, cap, cur, h1, h2, h3, h4⟩
  · exact .inl h
  · exact .inr ⟨g, cap, cur, h1, h2, hk g _ h3 (hS g (by rw [h1]; rfl)), h4⟩
/-- The block of a row that is owned is one of its elements' type. -/
theorem owns_type {w : World} {base : Nat} {e : TypeId} {size : Nat} {v : Value} {n : Nat} {xs : List Value} (h : w.ownsRow base e size v n xs) {k : Nat} (hk : v.ownBlock = some k) : ∃ c, w.heap[k]? = some (.cells c e (0, 0)) := by
  rcases h.2 with ⟨rfl, _⟩ | ⟨g, cap, cur, rfl, _, h3, _⟩
  · cases hk
  · cases hk; exact ⟨cur, h3⟩
def pairRow (l : List (List Nat × List Nat)) : List Value := l.flatMap fun x => [.string (T x.1), .string (T x.2)]
def tokCells (t : XTok) (v : Value) : List Value := [.int .i64 (t.kind : Nat), .string (T t.name), v, .string (T t.text)]
def tokRow : List XTok → List Value → List Value
  | t :: ts, v :: vs => tokCells t v ++ tokRow ts vs
  | _, _ => []
abbrev AttrsAt (w : World) (B : Nat) (v : Value) (l : List (List Nat × List Nat)) : Prop := w.ownsRow B 65 2 v l.length (pairRow l)
def Toks (w : World) (B : Nat) (vt : Value) (ts : List XTok) : Prop := ∃ vs : List Value, vs.length = ts.length ∧ w.ownsRow B 34 4 vt ts.length (tokRow ts vs) ∧
  ∀ (i : Nat) (t : XTok) (v : Value), ts[i]? = some t → vs[i]? = some v → AttrsAt w B v t.attrs
/-- How an entity's value reads. -/
def entCells : List Value → Option (DataW Unit × List MemPlace)
  | [.string s] => some (.agg [.lit (.string s.data.toList)], [])
  | _ => none
def entElem : Value → Option (DataW Unit × List MemPlace)
  | .agg a => entCells a.toList
  | _ => none
theorem entElem_inv {v : Value} {x : List UInt8} {ps : List MemPlace} (h : entElem v = some (.agg [.lit (.string x)], ps)) : v = .agg #[.string ⟨x.toArray⟩] := by
  unfold entElem at h
  split at h
  · rename_i a
    unfold entCells at h
    split at h
    · rename_i s hs
      cases h
      have : a = #[.string s] := Array.toList_inj.1 hs
      rw [this]
    · cases h
  · cases h
/-- What names stand for, as a map that is read. -/
def entsD (ents : List (List Nat × List Nat)) : DataW Unit := ents.foldl (fun D x => D.put (.string (tx x.1)) (.agg [.lit (.string (tx x.2))])) (.map [])
/-- What a map's block holds: names that stand for texts. -/
def EntsAt (w : World) (B m : Nat) (ents : List (List Nat × List Nat)) : Prop := B ≤ m ∧ (∀ x ∈ ents, okL x.1 ∧ okL x.2) ∧ w.ownsMap Tryd.prog 9 entElem m ents.length (entsD ents)
theorem EntsAt.kept {w w' : World} {B m : Nat} {ents : List (List Nat × List Nat)} (h : EntsAt w B m ents) (hk : w'.heap[m]? = w.heap[m]?) : EntsAt w' B m ents := by
  obtain ⟨h1, h2, es, clock, h3, h4⟩ := h
  exact ⟨h1, h2, es, clock, by rw [hk]; exact h3, h4⟩
theorem EntsAt.map {w : World} {B m : Nat} {ents : List (List Nat × List Nat)} (h : EntsAt w B m ents) : ∃ es clock, w.heap[m]? = some (.map es clock) := by
  obtain ⟨_, _, es, clock, h3, _⟩ := h
  exact ⟨es, clock, h3⟩
theorem EntsAt.ne {w : World} {B m p : Nat} {ents : List (List Nat × List Nat)} (h : EntsAt w B m ents) {c : Array Value} {t : TypeId} {z : Nat × Nat} (hp : w.heap[p]? = some (.cells c t z)) : m ≠ p := by
  rintro rfl
  obtain ⟨es, clock, h3⟩ := h.map
  rw [hp] at h3
  cases h3
theorem Toks.kept {w w' : World} {B : Nat} {vt : Value} {ts : List XTok} (h : Toks w B vt ts) (S : Nat → Prop) (hk : ∀ k o, w.heap[k]? = some o → ¬ S k → w'.heap[k]? = some o)
    (hS : ∀ k c, S k → w.heap[k]? ≠ some (.cells c 34 (0, 0)) ∧ w.heap[k]? ≠ some (.cells c 65 (0, 0))) : Toks w' B vt ts := by
  obtain ⟨vs, h1, h2, h3⟩ := h
  refine ⟨vs, h1, owns_kept h2 hk fun k hb hs => ?_, fun i t v ht hv => owns_kept (h3 i t v ht hv) hk fun k hb hs => ?_⟩
  · obtain ⟨c, hc⟩ := owns_type h2 hb
    exact (hS k c hs).1 hc
  · obtain ⟨c, hc⟩ := owns_type (h3 i t v ht hv) hb
    exact (hS k c hs).2 hc
end Go.Proofs.YtllhajjceecjdaaDoor
