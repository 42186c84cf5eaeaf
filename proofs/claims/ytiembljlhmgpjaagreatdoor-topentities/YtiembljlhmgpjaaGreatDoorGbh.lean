/- Several texts, laid as one. -/
import Derived.Test.YtiembljlhmgpjaaGreatDoorGac
import Derived.Test.YtiembljlhmgpjaaGreatDoorGaf
import Derived.Test.YtiembljlhmgpjaaGreatDoorGad
import Derived.Test.YtiembljlhmgpjaaGreatDoorGae
import Derived.Test.YtiembljlhmgpjaaGreatDoorGbe
/- Line ends, byte by byte: plain lemmas. -/
namespace Go.Proofs.YtiembljlhmgpjaaGreatDoor
open Go.RowKit
end Go.Proofs.YtiembljlhmgpjaaGreatDoor
/- Texts, as characters one behind the other, in UTF-8 and UTF-16: plain lemmas. -/
namespace Go.Proofs.YtiembljlhmgpjaaGreatDoor
open Go.RowKit
end Go.Proofs.YtiembljlhmgpjaaGreatDoor
/- A text as bytes: xchar's Encode. -/
namespace Go.Proofs.YtiembljlhmgpjaaGreatDoor
open Go.RowKit
end Go.Proofs.YtiembljlhmgpjaaGreatDoor
/- Bytes as a text, whatever they are: xchar's Decode. -/
namespace Go.Proofs.YtiembljlhmgpjaaGreatDoor
open Go.RowKit
end Go.Proofs.YtiembljlhmgpjaaGreatDoor
/- What is encoded is decoded as it was; what is decoded is a text without 13: plain lemmas. -/
namespace Go.Proofs.YtiembljlhmgpjaaGreatDoor
open Go.RowKit
end Go.Proofs.YtiembljlhmgpjaaGreatDoor
/- Tokens that lead somewhere from a document's beginning, in plain terms: for the law XmlscanAgain. -/
namespace Go.Proofs.YtiembljlhmgpjaaGreatDoor
/-- Tokens read from the beginning: what is open behind them, whether there was an element, the last one's kind. -/
inductive DocS : List XTok → List (List Nat) → Bool → Nat → Prop
  | start : DocS [] [] false 0
  | elem (n : List Nat) (a : List (List Nat × List Nat)) (o : List (List Nat)) (r : Bool) (k : Nat) (ts : List XTok) (hs : DocS ts o r k) (h : OkTok ⟨2, n, a, []⟩) (hr : o = [] → r = false) (ho : o.length < 32) (ha : a.length ≤ 64) : DocS (ts ++ [⟨2, n, a, []⟩]) (o ++ [n]) true 2
  | fin (n : List Nat) (o : List (List Nat)) (r : Bool) (k : Nat) (ts : List XTok) (hs : DocS ts o r k) (h : OkTok ⟨7, n, [], []⟩) (ho : o.getLast? = some n) : DocS (ts ++ [⟨7, n, [], []⟩]) o.dropLast r 7
  | text (l : List Nat) (o : List (List Nat)) (r : Bool) (k : Nat) (ts : List XTok) (hs : DocS ts o r k) (h : OkTok ⟨4, [], [], l⟩) (ho : o ≠ []) (hk : k ≠ 4) : DocS (ts ++ [⟨4, [], [], l⟩]) o r 4
  | comment (l : List Nat) (o : List (List Nat)) (r : Bool) (k : Nat) (ts : List XTok) (hs : DocS ts o r k) (h : OkTok ⟨5, [], [], l⟩) : DocS (ts ++ [⟨5, [], [], l⟩]) o r 5
  | pi (n l : List Nat) (o : List (List Nat)) (r : Bool) (k : Nat) (ts : List XTok) (hs : DocS ts o r k) (h : OkTok ⟨6, n, [], l⟩) : DocS (ts ++ [⟨6, n, [], l⟩]) o r 6
theorem DocS.on {ts : List XTok} {o : List (List Nat)} {r : Bool} {k : Nat} (h : DocS ts o r k) : ∀ us, DocT o r k us → DocT [] false 0 (ts ++ us) := by
  induction h with
  | start => exact fun us h => h
  | elem n a o r k ts hs h hr ho ha ih => intro us hu; rw [List.append_assoc]; exact ih _ (.elem n a o r k us h hr ho ha hu)
  | fin n o r k ts hs h ho ih => intro us hu; rw [List.append_assoc]; exact ih _ (.fin n o r k us h ho hu)
  | text l o r k ts hs h ho hk ih => intro us hu; rw [List.append_assoc]; exact ih _ (.text l o r k us h ho hk hu)
  | comment l o r k ts hs h ih => intro us hu; rw [List.append_assoc]; exact ih _ (.comment l o r k us h hu)
  | pi n l o r k ts hs h ih => intro us hu; rw [List.append_assoc]; exact ih _ (.pi n l o r k us h hu)
theorem DocS.all {ts : List XTok} {k : Nat} (h : DocS ts [] true k) : DocT [] false 0 ts := by
  have := h.on [] (.done k)
  rwa [List.append_nil] at this
/-- What a reader has told leads to where it stands. -/
def Told (s : RS) (r : Bool) : Prop := ∃ k, DocS s.toks s.opn r k ∧ k ≠ 4 ∧ (s.run ≠ [] → s.opn ≠ [])
theorem Told.flush {s : RS} {r : Bool} (h : Told s r) : ∃ k, DocS s.flush.toks s.opn r k := by
  obtain ⟨k, h1, h2, h3⟩ := h
  by_cases hr : s.run = []
  · rw [(flush_eq s).1 hr]; exact ⟨k, h1⟩
  · rw [(flush_eq s).2 hr]
    exact ⟨4, .text s.run s.opn r k s.toks h1 (.text _ hr) (h3 hr) h2⟩
/-- A token told, where it may stand. -/
theorem Told.tell {s s' : RS} {r r' : Bool} {t : XTok} {at' : Nat} (h : Told s r) (ht : s.tell t at' = .ok s') (o' : List (List Nat)) (hk : t.kind ≠ 4) (hs : ∀ ts k, DocS ts s.opn r k → DocS (ts ++ [t]) o' r' t.kind) :
    Told { s' with opn := o' } r' ∧ s'.run = [] := by
  obtain ⟨k, hf⟩ := h.flush
  unfold RS.tell at ht
  split at ht
  · cases ht
  · cases ht
    have hrun : s.flush.run = [] := by
      by_cases hr : s.run = []
      · rw [(flush_eq s).1 hr]; exact hr
      · rw [(flush_eq s).2 hr]
    exact ⟨⟨t.kind, hs _ k hf, hk, fun hx => absurd hrun hx⟩, hrun⟩
end Go.Proofs.YtiembljlhmgpjaaGreatDoor
