/- Tokens as a text, in plain terms: what is written is scanned as it was. -/
import Derived.Test.YtmemcabipcccaaaGreatDoorGas
namespace Go.Proofs.YtmemcabipcccaaaGreatDoor
/-- A token that may stand in some document. -/
inductive OkTok : XTok → Prop
  | elem (n : List Nat) (a : List (List Nat × List Nat)) (h : isQ n = true) (ha : ∀ x ∈ a, isQ x.1 = true) (hd : (a.map (·.1)).Nodup) : OkTok ⟨2, n, a, []⟩
  | fin (n : List Nat) (h : isQ n = true) : OkTok ⟨7, n, [], []⟩
  | text (l : List Nat) (h : l ≠ []) : OkTok ⟨4, [], [], l⟩
  | comment (l : List Nat) (h : cutL [45, 45] l = none) (h' : l.getLast? ≠ some 45) : OkTok ⟨5, [], [], l⟩
  | pi (n l : List Nat) (h : isTarget n = true) (hc : cutL [63, 62] l = none) (hb : ∀ c, l.head? = some c → blankC c = false) : OkTok ⟨6, n, [], l⟩
/-- Tokens that end a document: what is open, whether there was an element, the last token's kind, the tokens. -/
inductive DocT : List (List Nat) → Bool → Nat → List XTok → Prop
  | done (k : Nat) : DocT [] true k []
  | elem (n : List Nat) (a : List (List Nat × List Nat)) (o : List (List Nat)) (r : Bool) (k : Nat) (ts : List XTok) (h : OkTok ⟨2, n, a, []⟩) (hr : o = [] → r = false) (ho : o.length < 32) (ha : a.length ≤ 64) (hn : DocT (o ++ [n]) true 2 ts) : DocT o r k (⟨2, n, a, []⟩ :: ts)
  | fin (n : List Nat) (o : List (List Nat)) (r : Bool) (k : Nat) (ts : List XTok) (h : OkTok ⟨7, n, [], []⟩) (ho : o.getLast? = some n) (hn : DocT o.dropLast r 7 ts) : DocT o r k (⟨7, n, [], []⟩ :: ts)
  | text (l : List Nat) (o : List (List Nat)) (r : Bool) (k : Nat) (ts : List XTok) (h : OkTok ⟨4, [], [], l⟩) (ho : o ≠ []) (hk : k ≠ 4) (hn : DocT o r 4 ts) : DocT o r k (⟨4, [], [], l⟩ :: ts)
  | comment (l : List Nat) (o : List (List Nat)) (r : Bool) (k : Nat) (ts : List XTok) (h : OkTok ⟨5, [], [], l⟩) (hn : DocT o r 5 ts) : DocT o r k (⟨5, [], [], l⟩ :: ts)
  | pi (n l : List Nat) (o : List (List Nat)) (r : Bool) (k : Nat) (ts : List XTok) (h : OkTok ⟨6, n, [], l⟩) (hn : DocT o r 6 ts) : DocT o r k (⟨6, n, [], l⟩ :: ts)
end Go.Proofs.YtmemcabipcccaaaGreatDoor
