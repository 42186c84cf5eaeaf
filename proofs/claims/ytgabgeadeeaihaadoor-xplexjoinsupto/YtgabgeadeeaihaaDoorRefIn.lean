/- Which characters may be, lie in one of some ranges, begin names and go on in them: the reference's IsChar, 'in', Begins and GoesOn. -/
import Derived.Test.YtgabgeadeeaihaaDoorChars
import Derived.Test.YtgabgeadeeaihaaDoorRefChar
import Derived.Test.YtgabgeadeeaihaaDoorRanges
namespace Go.Proofs.YtgabgeadeeaihaaDoor
open Go.RowKit
set_option maxHeartbeats 1000000 in
theorem in_any (r : Int) (b : Nat) (zs : List Int) (n : Nat) (w : World) (hn : zs.length = n) (hmax : n ≤ 1000)
    (hcell : ∀ i, i < n → w.cell? ⟨b, i, none⟩ = some (.int .i32 (zs.getD i 0))) :
    Calls Tryd.prog 47 #[.int .i32 r, .slice (some ⟨b, 0, none⟩) n n] w fun e w' => e = .returned (.bool (inL r zs)) ∧ w' = w := by
  have HC := hide hcell
  clear hcell
  go_enter Tryd.func47, Tryd.ntmps47
  go_wp2_with fail
  go_loop [5] (fun i => ∃ k : Nat, k ≤ n + 1 ∧ i = .int .i64 k ∧ inL r zs = inL r (zs.drop k)) (fun i => n + 1 - (intOf i).toNat)
  case atStart => exact ⟨0, by omega, rfl, rfl⟩
  case round =>
    obtain ⟨k, hk, rfl, hr⟩ := hrel
    have HR := hide hr
    clear hr
    by_cases hlt : k + 1 < n
    · have hlt' : (k : Int) + 1 < n := by omega
      have c0 := unhide HC k (by omega)
      have c1 := unhide HC (k + 1) (by omega)
      have HS := hide (inL_drop r zs k (by omega))
      generalize zs.getD k 0 = lo at *
      generalize zs.getD (k + 1) 0 = hi at *
      go_wp2
      · go_ret
        exact ⟨ret_bool (by rw [unhide HR, unhide HS]; simp [*]), rfl⟩
      all_goals
        exact ⟨⟨k + 2, by omega, by go_num, by rw [unhide HR, unhide HS]; simp <;> omega⟩, by simp [intOf]; omega⟩
    · have hge : ¬ ((k : Int) + 1 < n) := by omega
      go_wp2
      go_ret
      exact ⟨ret_bool (by rw [unhide HR, inL_end _ _ _ (by omega)]), rfl⟩
theorem cells_of (zs : List Int) (i : Nat) (h : i < zs.length) : (zs.map (Value.int .i32)).toArray[i]? = some (.int .i32 (zs.getD i 0)) := by
  simp [List.getElem?_eq_getElem h]
set_option maxHeartbeats 1000000 in
theorem refBegins_any (r : Int) (w : World) :
    Calls Tryd.prog 30 #[.int .i32 r] w fun e w' => e = .returned (.bool (inL r beginL)) ∧ Below w.heap.size w w' := by
  go_enter Tryd.func30, Tryd.ntmps30
  go_wp2_with fail
  refine (in_any r w.heap.size beginL 30 _ rfl (by decide) (fun i hi => (World.cell?_alloc_new _ _ _ _).trans (cells_of beginL i hi))).mono ?_
  rintro e w' ⟨rfl, rfl⟩
  go_wp2
  go_ret
  exact ⟨rfl, by go_grown⟩
set_option maxHeartbeats 1000000 in
theorem refGoesOn_any (r : Int) (w : World) :
    Calls Tryd.prog 31 #[.int .i32 r] w fun e w' => e = .returned (.bool (inL r beginL || inL r onL)) ∧ Below w.heap.size w w' := by
  go_enter Tryd.func31, Tryd.ntmps31
  go_wp2_with fail
  refine (refBegins_any r _).mono ?_
  rintro e w' ⟨rfl, hb⟩
  cases h : inL r beginL
  · go_wp2_with fail
    refine (in_any r w'.heap.size onL 12 _ rfl (by decide) (fun i hi => (World.cell?_alloc_new _ _ _ _).trans (cells_of onL i hi))).mono ?_
    rintro e w'' ⟨rfl, rfl⟩
    go_wp2
    go_ret
    exact ⟨ret_bool (by simp [h]), hb.alloc hb.size _⟩
  · go_wp2
    go_ret
    exact ⟨ret_bool (by simp [h]), hb⟩
end Go.Proofs.YtgabgeadeeaihaaDoor
