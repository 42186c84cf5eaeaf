/- Tokens as a text, in plain terms: each token is read as it was, and so is the whole document. -/
import Derived.Test.YtjjggncbhenffaaGreatDoorGbj
namespace Go.Proofs.YtjjggncbhenffaaGreatDoor
def flushT (toks : List XTok) (run : List Nat) : List XTok := if run = [] then toks else toks ++ [⟨4, [], [], run⟩]
theorem flushT_nil (toks : List XTok) : flushT toks [] = toks := rfl
theorem tell_ok (P R : List Nat) (e : List (List Nat × List Nat)) (sp : Nat) (o : List (List Nat)) (toks : List XTok) (ru : List Nat) (n : Nat) (t : XTok) (pl : Nat) (h : (flushT toks ru).length < 4096) :
    (⟨P, R, e, sp, o, toks, ru, n⟩ : RS).tell t pl = .ok ⟨P, R, e, sp, o, flushT toks ru ++ [t], [], (tx P).length⟩ := by
  unfold RS.tell RS.flush
  unfold flushT at h ⊢
  by_cases hr : ru = []
  · subst hr
    rw [if_pos rfl] at h ⊢
    simp only [if_pos]
    rw [if_neg (by omega)]
    rfl
  · rw [if_neg hr] at h ⊢
    simp only [if_neg hr]
    rw [if_neg (by omega)]
    rfl
theorem attrs_len : ∀ a : List (List Nat × List Nat), a.length ≤ (a.flatMap attrL).length
  | [] => Nat.le_refl _
  | x :: a => by
    have := attrs_len a
    have h1 : 1 ≤ (attrL x).length := by unfold attrL; rw [List.length_cons]; omega
    rw [List.flatMap_cons, List.length_append, List.length_cons]
    omega
theorem content_nil (f : Nat) (s : RS) (h : s.opn = []) : RS.content f s = .ok s := by
  cases f with
  | zero => rfl
  | succ f => rw [RS.content, if_pos h]
end Go.Proofs.YtjjggncbhenffaaGreatDoor
