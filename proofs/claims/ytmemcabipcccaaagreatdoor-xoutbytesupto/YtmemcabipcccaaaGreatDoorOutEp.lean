/- A tree's tokens by xml, where an element that ends at once is one tag: the whole document is read as it was, or is past a limit. -/
import Derived.Test.YtmemcabipcccaaaGreatDoorOutEl
namespace Go.Proofs.YtmemcabipcccaaaGreatDoor
/-- Tokens that end a document, whatever the limits. -/
inductive DocU : List (List Nat) → Bool → Nat → List XTok → Prop
  | done (k : Nat) : DocU [] true k []
  | elem (n : List Nat) (a : List (List Nat × List Nat)) (o : List (List Nat)) (r : Bool) (k : Nat) (ts : List XTok) (h : OkTok ⟨2, n, a, []⟩) (hr : o = [] → r = false) (ha : a.length ≤ 64) (hn : DocU (o ++ [n]) true 2 ts) : DocU o r k (⟨2, n, a, []⟩ :: ts)
  | fin (n : List Nat) (o : List (List Nat)) (r : Bool) (k : Nat) (ts : List XTok) (h : OkTok ⟨7, n, [], []⟩) (ho : o.getLast? = some n) (hn : DocU o.dropLast r 7 ts) : DocU o r k (⟨7, n, [], []⟩ :: ts)
  | text (l : List Nat) (o : List (List Nat)) (r : Bool) (k : Nat) (ts : List XTok) (h : OkTok ⟨4, [], [], l⟩) (ho : o ≠ []) (hk : k ≠ 4) (hn : DocU o r 4 ts) : DocU o r k (⟨4, [], [], l⟩ :: ts)
  | comment (l : List Nat) (o : List (List Nat)) (r : Bool) (k : Nat) (ts : List XTok) (h : OkTok ⟨5, [], [], l⟩) (hn : DocU o r 5 ts) : DocU o r k (⟨5, [], [], l⟩ :: ts)
  | pi (n l : List Nat) (o : List (List Nat)) (r : Bool) (k : Nat) (ts : List XTok) (h : OkTok ⟨6, n, [], l⟩) (hn : DocU o r 6 ts) : DocU o r k (⟨6, n, [], l⟩ :: ts)
theorem DocT.u {o : List (List Nat)} {r : Bool} {k : Nat} {ts : List XTok} (h : DocT o r k ts) : DocU o r k ts := by
  induction h with
  | done k => exact .done k
  | elem n a o r k ts h hr ho ha _ ih => exact .elem n a o r k ts h hr ha ih
  | fin n o r k ts h ho _ ih => exact .fin n o r k ts h ho ih
  | text l o r k ts h ho hk _ ih => exact .text l o r k ts h ho hk ih
  | comment l o r k ts h _ ih => exact .comment l o r k ts h ih
  | pi n l o r k ts h _ ih => exact .pi n l o r k ts h ih
theorem DocT.deep {o : List (List Nat)} {k : Nat} {m : List Nat} {a : List (List Nat × List Nat)} {ts : List XTok} (h : DocT o true k (⟨2, m, a, []⟩ :: ts)) : o.length < 32 ∧ DocT (o ++ [m]) true 2 ts := by
  cases h with
  | elem _ _ _ _ _ _ h hr ho ha hn => exact ⟨ho, hn⟩
theorem DocT.out {o : List (List Nat)} {r : Bool} {k : Nat} {m : List Nat} {ts : List XTok} (h : DocT o r k (⟨7, m, [], []⟩ :: ts)) : DocT o.dropLast r 7 ts := by
  cases h with
  | fin _ _ _ _ _ h ho hn => exact hn
theorem DocT.txt {o : List (List Nat)} {r : Bool} {k : Nat} {l : List Nat} {ts : List XTok} (h : DocT o r k (⟨4, [], [], l⟩ :: ts)) : DocT o r 4 ts := by
  cases h with
  | text _ _ _ _ _ h ho hk hn => exact hn
end Go.Proofs.YtmemcabipcccaaaGreatDoor
