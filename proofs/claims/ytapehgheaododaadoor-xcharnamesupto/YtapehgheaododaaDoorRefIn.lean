/- Which characters lie in one of some ranges: the reference's 'in', Begins and GoesOn. -/
import Derived.Test.YtapehgheaododaaDoorBegins
namespace Go.Proofs.YtapehgheaododaaDoor
open Go.RowKit
def inL (r : Int) : List Int → Bool
  | lo :: hi :: t => (decide (lo ≤ r) && decide (r ≤ hi)) || inL r t
  | _ => false
theorem inL_drop (r : Int) (zs : List Int) (k : Nat) (h : k + 1 < zs.length) :
    inL r (zs.drop k) = ((decide (zs.getD k 0 ≤ r) && decide (r ≤ zs.getD (k + 1) 0)) || inL r (zs.drop (k + 2))) := by
  have e1 : zs.drop k = zs.getD k 0 :: zs.getD (k + 1) 0 :: zs.drop (k + 2) := by
    rw [List.drop_eq_getElem_cons (by omega), List.drop_eq_getElem_cons (by omega)]
    simp [List.getD_eq_getElem?_getD, List.getElem?_eq_getElem (show k < zs.length by omega), List.getElem?_eq_getElem h]
  rw [e1, inL]
theorem inL_end (r : Int) (zs : List Int) (k : Nat) (h : zs.length ≤ k + 1) : inL r (zs.drop k) = false := by
  have : (zs.drop k).length ≤ 1 := by rw [List.length_drop]; omega
  generalize zs.drop k = l at *
  match l, this with
  | [], _ => rfl
  | [_], _ => rfl
set_option maxHeartbeats 1000000 in
theorem in_any (r : Int) (b : Nat) (zs : List Int) (n : Nat) (w : World) (hn : zs.length = n) (hmax : n ≤ 1000)
    (hcell : ∀ i, i < n → w.cell? ⟨b, i, none⟩ = some (.int .i32 (zs.getD i 0))) :
    Calls Tryd.prog 39 #[.int .i32 r, .slice (some ⟨b, 0, none⟩) n n] w fun e w' => e = .returned (.bool (inL r zs)) ∧ w' = w := by
  have HC := hide hcell
  clear hcell
  go_enter Tryd.func39, Tryd.ntmps39
  go_wp2_with fail
  go_loop [5] (fun i => ∃ k : Nat, k ≤ n + 1 ∧ i = .int .i64 k ∧ inL r zs = inL r (zs.drop k)) (fun i => n + 1 - (intOf i).toNat)
  case atStart => exact ⟨0, by omega, rfl, rfl⟩
  case round =>
    obtain ⟨k, hk, rfl, hr⟩ := hrel
    have HR := hide hr
    clear hr
    by_cases hlt : k + 1 < n
    · have hlt' : (k : Int) + 1 < n := by omega
      have c0 := unhide HC k (by omega)
      have c1 := unhide HC (k + 1) (by omega)
      have HS := hide (inL_drop r zs k (by omega))
      generalize zs.getD k 0 = lo at *
      generalize zs.getD (k + 1) 0 = hi at *
      go_wp2
      · go_ret
        exact ⟨ret_bool (by rw [unhide HR, unhide HS]; simp [*]), rfl⟩
      all_goals
        exact ⟨⟨k + 2, by omega, by go_num, by rw [unhide HR, unhide HS]; simp <;> omega⟩, by simp [intOf]; omega⟩
    · have hge : ¬ ((k : Int) + 1 < n) := by omega
      go_wp2
      go_ret
      exact ⟨ret_bool (by rw [unhide HR, inL_end _ _ _ (by omega)]), rfl⟩
def beginL : List Int := [65, 90, 97, 122, 95, 95, 192, 214, 216, 246, 248, 767, 880, 893, 895, 8191, 8204, 8205, 8304, 8591, 11264, 12271, 12289, 55295, 63744, 64975, 65008, 65533, 65536, 983039]
def onL : List Int := [45, 45, 46, 46, 48, 57, 183, 183, 768, 879, 8255, 8256]
theorem cells_of (zs : List Int) (i : Nat) (h : i < zs.length) : (zs.map (Value.int .i32)).toArray[i]? = some (.int .i32 (zs.getD i 0)) := by
  simp [List.getElem?_eq_getElem h]
set_option maxHeartbeats 1000000 in
theorem refBegins_any (r : Int) (w : World) :
    Calls Tryd.prog 21 #[.int .i32 r] w fun e w' => e = .returned (.bool (inL r beginL)) ∧ Below w.heap.size w w' := by
  go_enter Tryd.func21, Tryd.ntmps21
  go_wp2_with fail
  refine (in_any r w.heap.size beginL 30 _ rfl (by decide) (fun i hi => (World.cell?_alloc_new _ _ _ _).trans (cells_of beginL i hi))).mono ?_
  rintro e w' ⟨rfl, rfl⟩
  go_wp2
  go_ret
  exact ⟨rfl, by go_grown⟩
set_option maxHeartbeats 1000000 in
theorem refGoesOn_any (r : Int) (w : World) :
    Calls Tryd.prog 23 #[.int .i32 r] w fun e w' => e = .returned (.bool (inL r beginL || inL r onL)) ∧ Below w.heap.size w w' := by
  go_enter Tryd.func23, Tryd.ntmps23
  go_wp2_with fail
  refine (refBegins_any r _).mono ?_
  rintro e w' ⟨rfl, hb⟩
  cases h : inL r beginL
  · go_wp2_with fail
    refine (in_any r w'.heap.size onL 12 _ rfl (by decide) (fun i hi => (World.cell?_alloc_new _ _ _ _).trans (cells_of onL i hi))).mono ?_
    rintro e w'' ⟨rfl, rfl⟩
    go_wp2
    go_ret
    exact ⟨ret_bool (by simp [h]), hb.alloc hb.size _⟩
  · go_wp2
    go_ret
    exact ⟨ret_bool (by simp [h]), hb⟩
def goesB (r : Int) : Bool := r == 45 || r == 46 || r == 183 || wB r 4631952216750555136 4633218854145753088 || wB r 4649966615260037120 4650942981585502208 || wB r 4665763848572108800 4665764398327922688 || beginB r
set_option maxHeartbeats 1000000 in
theorem goesOn_any (r : Int) (w : World) :
    Calls Tryd.prog 22 #[.int .i32 r] w fun e w' => e = .returned (.bool (goesB r)) ∧ Below w.heap.size w w' := by
  go_enter Tryd.func22, Tryd.ntmps22
  go_wp2_with (first | (go_at_call 38; refine (within_any _ _ _ _).mono ?_; rintro e w' ⟨rfl, rfl⟩) | (go_at_call 20; refine (begins_any _ _).mono ?_; rintro e w' ⟨rfl, hb⟩))
  all_goals
    go_ret
    exact ⟨ret_bool (by simp [goesB, *]), by first | assumption | exact Below.refl _ _⟩
end Go.Proofs.YtapehgheaododaaDoor
