/- Ranges of characters, as lists of their ends: plain lemmas. -/
import Derived.Test.YtgabgeadeeaihaaDoorBase
namespace Go.Proofs.YtgabgeadeeaihaaDoor
open Go.RowKit
def inL (r : Int) : List Int → Bool
  | lo :: hi :: t => (decide (lo ≤ r) && decide (r ≤ hi)) || inL r t
  | _ => false
theorem inL_drop (r : Int) (zs : List Int) (k : Nat) (h : k + 1 < zs.length) :
    inL r (zs.drop k) = ((decide (zs.getD k 0 ≤ r) && decide (r ≤ zs.getD (k + 1) 0)) || inL r (zs.drop (k + 2))) := by
  have e1 : zs.drop k = zs.getD k 0 :: zs.getD (k + 1) 0 :: zs.drop (k + 2) := by
    rw [List.drop_eq_getElem_cons (by omega), List.drop_eq_getElem_cons (by omega)]
    simp [List.getD_eq_getElem?_getD, List.getElem?_eq_getElem (show k < zs.length by omega), List.getElem?_eq_getElem h]
  rw [e1, inL]
theorem inL_end (r : Int) (zs : List Int) (k : Nat) (h : zs.length ≤ k + 1) : inL r (zs.drop k) = false := by
  have : (zs.drop k).length ≤ 1 := by rw [List.length_drop]; omega
  generalize zs.drop k = l at *
  match l, this with
  | [], _ => rfl
  | [_], _ => rfl
def beginL : List Int := [65, 90, 97, 122, 95, 95, 192, 214, 216, 246, 248, 767, 880, 893, 895, 8191, 8204, 8205, 8304, 8591, 11264, 12271, 12289, 55295, 63744, 64975, 65008, 65533, 65536, 983039]
def onL : List Int := [45, 45, 46, 46, 48, 57, 183, 183, 768, 879, 8255, 8256]
end Go.Proofs.YtgabgeadeeaihaaDoor
