/- Several texts, laid as one. -/
import Derived.Test.YtmemcabipcccaaaGreatDoorXmlFold
import Derived.Lib.AppendStr
import Derived.Test.YtmemcabipcccaaaGreatDoorGak
/- Comments and processing instructions: xmlscan's comment, instruction, and what tells them. -/
namespace Go.Proofs.YtmemcabipcccaaaGreatDoor
open Go.RowKit
theorem comment_eq (s : RS) : s.comment = match (s.take [60, 33, 45, 45]).takeTo [45, 45] with | none => none | some (t, s1) => if heads 62 s1.rest then some (t, s1.adv 1) else none := rfl
theorem Adv.comment {s s' : RS} {x : List Nat} (h : s.comment = some (x, s')) : Adv s s' := by
  rw [comment_eq] at h
  cases ht : (s.take [60, 33, 45, 45]).takeTo [45, 45] with
  | none => rw [ht] at h; cases h
  | some xs =>
    rw [ht] at h
    simp only at h
    split at h
    · cases h
      exact (Adv.take s _).then ((Adv.takeTo ht).1.then (Adv.by _ 1))
    · cases h
theorem instruction_eq (s : RS) : s.instruction = if !isTarget (nameA (s.take [60, 63]).rest) then none else
  if (s.take [60, 63]).name.sees [63, 62] then some (nameA (s.take [60, 63]).rest, [], (s.take [60, 63]).name.adv 2) else
  if !(s.take [60, 63]).name.blank then none else
  ((s.take [60, 63]).name.blanks.takeTo [63, 62]).map fun x => (nameA (s.take [60, 63]).rest, x.1, x.2) := rfl
theorem Adv.instruction {s s' : RS} {n x : List Nat} (h : s.instruction = some (n, x, s')) : Adv s s' ∧ n = nameA (s.take [60, 63]).rest := by
  rw [instruction_eq] at h
  split at h
  · cases h
  · split at h
    · cases h
      exact ⟨(Adv.take s _).then ((Adv.name _).then (Adv.by _ 2)), rfl⟩
    · split at h
      · cases h
      · cases ht : (s.take [60, 63]).name.blanks.takeTo [63, 62] with
        | none => rw [ht] at h; cases h
        | some xs =>
          rw [ht] at h
          cases h
          exact ⟨(Adv.take s _).then ((Adv.name _).then ((Adv.blanks _).then (Adv.takeTo ht).1)), rfl⟩
end Go.Proofs.YtmemcabipcccaaaGreatDoor
/- Text, comments and instructions as tokens: xmlscan's tellComment, tellInstruction, roomForRun, plain, section. -/
namespace Go.Proofs.YtmemcabipcccaaaGreatDoor
open Go.RowKit
/-- What always holds of a reader's state. -/
structure Good (s : RS) : Prop where
  fine : Fine s
  n1 : s.toks.length ≤ 4096
  n2 : s.run ≠ [] → s.toks.length < 4096
  okr : okL s.run
  rl : (tx s.run).length ≤ s.place + s.spent
  sp : s.spent ≤ 32768
theorem Good.adv {s : RS} (h : Good s) (n : Nat) : Good (s.adv n) :=
  ⟨h.fine.adv n, h.n1, h.n2, h.okr, by have := h.rl; have e := place_adv s n; show (tx s.run).length ≤ (s.adv n).place + s.spent; omega, h.sp⟩
theorem Good.to {s s' : RS} (h : Good s) (ha : Adv s s') : Good s' := by
  obtain ⟨k, rfl⟩ := ha
  exact h.adv k
theorem Good.flush {s : RS} (h : Good s) : s.flush.toks.length ≤ 4096 := by
  by_cases hr : s.run = []
  · rw [(flush_eq s).1 hr]; exact h.n1
  · rw [(flush_eq s).2 hr]
    have := h.n2 hr
    simp; omega
theorem Good.pos {s : RS} (h : Good s) (hr : s.run ≠ []) : 0 < (tx s.run).length := Nat.pos_of_ne_zero fun h0 => hr (tx_len_zero h.okr h0)
theorem Good.tell {s s' : RS} {t : XTok} {pl : Nat} (h : Good s) (ht : s.tell t pl = .ok s') : Good s' ∧ s'.run = [] ∧ s'.pre = s.pre ∧ s'.rest = s.rest ∧ s'.ents = s.ents ∧ s'.opn = s.opn ∧ s'.spent = s.spent := by
  rw [tell_eq] at ht
  split at ht
  · cases ht
  · rename_i hne
    cases ht
    have hf := h.flush
    by_cases hr : s.run = []
    · have e := (flush_eq s).1 hr
      rw [e] at hne hf ⊢
      refine ⟨⟨⟨h.fine.ok, h.fine.le⟩, ?_, fun hx => absurd hr hx, h.okr, h.rl, h.sp⟩, hr, rfl, rfl, rfl, rfl, rfl⟩
      show (s.toks ++ [t]).length ≤ 4096
      rw [List.length_append, List.length_singleton]
      omega
    · have e := (flush_eq s).2 hr
      rw [e] at hne hf ⊢
      refine ⟨⟨⟨h.fine.ok, h.fine.le⟩, ?_, fun hx => absurd rfl hx, fun c hc => (by cases hc), Nat.zero_le _, h.sp⟩, rfl, rfl, rfl, rfl, rfl, rfl⟩
      show ((s.toks ++ [(⟨4, [], [], s.run⟩ : XTok)]) ++ [t]).length ≤ 4096
      simp at hne hf ⊢
      omega
end Go.Proofs.YtmemcabipcccaaaGreatDoor
/- Text as it stands, and CDATA: xmlscan's plain and section. -/
namespace Go.Proofs.YtmemcabipcccaaaGreatDoor
open Go.RowKit
end Go.Proofs.YtmemcabipcccaaaGreatDoor
/- CDATA and end tags: xmlscan's section and endTag. -/
namespace Go.Proofs.YtmemcabipcccaaaGreatDoor
open Go.RowKit
end Go.Proofs.YtmemcabipcccaaaGreatDoor
/- End tags: xmlscan's endTag. -/
namespace Go.Proofs.YtmemcabipcccaaaGreatDoor
open Go.RowKit
/-- The names that are open are texts, and not too many. -/
def OpnOk (s : RS) : Prop := (∀ x ∈ s.opn, okL x ∧ (T x).size ≤ 32768) ∧ s.opn.length ≤ 32
end Go.Proofs.YtmemcabipcccaaaGreatDoor
/- Characters looked for among signs below 128: strings.IndexRune. -/
namespace Go.Proofs.YtmemcabipcccaaaGreatDoor
open Go.RowKit
end Go.Proofs.YtmemcabipcccaaaGreatDoor
/- A character above 127 among signs below 128: strings.IndexRune. -/
namespace Go.Proofs.YtmemcabipcccaaaGreatDoor
open Go.RowKit
end Go.Proofs.YtmemcabipcccaaaGreatDoor
/- References by numbers: xmlscan's readNumber and ofTheFive. -/
namespace Go.Proofs.YtmemcabipcccaaaGreatDoor
open Go.RowKit
structure RefAt (w : World) (b : Nat) (x y : ByteArray) (n : Int) : Prop where
  c0 : w.cell? ⟨b, 0, none⟩ = some (.string x)
  c1 : w.cell? ⟨b, 1, none⟩ = some (.string y)
  c2 : w.cell? ⟨b, 2, none⟩ = some (.int .i64 n)
  o0 : w.frozen? ⟨b, 0, none⟩ = false
  o1 : w.frozen? ⟨b, 1, none⟩ = false
  o2 : w.frozen? ⟨b, 2, none⟩ = false
theorem RefAt.below {w w' : World} {b : Nat} {x y : ByteArray} {n : Int} (h : RefAt w b x y n) (hb : Below w.heap.size w w') : RefAt w' b x y n :=
  ⟨keptC hb h.c0, keptC hb h.c1, keptC hb h.c2, keptO hb h.c0 h.o0, keptO hb h.c1 h.o1, keptO hb h.c2 h.o2⟩
theorem RefAt.new (w : World) (x y : ByteArray) (n : Int) (t : TypeId) : RefAt (w.alloc (.cells #[.string x, .string y, .int .i64 n] t)) w.heap.size x y n := by
  refine ⟨?_, ?_, ?_, ?_, ?_, ?_⟩
  all_goals simp [go_sem]
theorem RefAt.iterAt {w : World} {b : Nat} {x y : ByteArray} {n : Int} (h : RefAt w b x y n) {k : Nat} (hk : b ≠ k) (s : ByteArray) (pos : Nat) : RefAt (w.iterAt k s pos) b x y n := by
  have e := Lib.iterAt_other w k b s pos hk
  obtain ⟨c0, c1, c2, o0, o1, o2⟩ := h
  refine ⟨?_, ?_, ?_, ?_, ?_, ?_⟩
  all_goals (first | (unfold World.cell? at *; rw [e]; assumption) | (unfold World.frozen? at *; rw [e]; assumption))
end Go.Proofs.YtmemcabipcccaaaGreatDoor
/- References: xmlscan's ofTheFive and readReference. -/
namespace Go.Proofs.YtmemcabipcccaaaGreatDoor
open Go.RowKit
end Go.Proofs.YtmemcabipcccaaaGreatDoor
/- What a reference comes to where no entity is declared: xmlscan's spend and add. -/
namespace Go.Proofs.YtmemcabipcccaaaGreatDoor
open Go.RowKit
/-- Where an expansion's text was written, and all else stands. -/
structure Grew (q p : Nat) (vt : Value) (w w' : World) : Prop where
  os : w'.os = w.os
  tape : w'.tape = w.tape
  output : w'.output = w.output
  size : w.heap.size ≤ w'.heap.size
  block : ∀ k, k < w.heap.size → k ≠ q → vt.ownBlock ≠ some k → w'.heap[k]? = w.heap[k]?
theorem Grew.low {q p B : Nat} {vt : Value} {w w' : World} (h : Grew q p vt w w') (hB : B ≤ w.heap.size) (hq : B ≤ q) (hv : ∀ k, vt.ownBlock = some k → B ≤ k) : Below B w w' :=
  ⟨h.os, h.tape, h.output, h.size, fun k hk => h.block k (by omega) (by omega) (fun e => by have := hv k e; omega)⟩
end Go.Proofs.YtmemcabipcccaaaGreatDoor
