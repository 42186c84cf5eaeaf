/- The law's live: translate and substring, as they are asked. -/
import Derived.Test.YtppkilblkobkhaaGreatDoorVaTr
import Derived.Test.YtppkilblkobkhaaGreatDoorVaSb
import Derived.Test.YtppkilblkobkhaaGreatDoorCuts0
namespace Go.Proofs.YtppkilblkobkhaaGreatDoor
open Go.RowKit
theorem cut_live (w : World) : Calls Tryz.prog 85 #[.string ⟨#[49, 50, 51, 52, 53]⟩, .int .i64 1, .int .i64 4] w fun e w' => e = .returned (.string ⟨#[50, 51, 52]⟩) ∧ Below w.heap.size w w' := by
  have h := cut_any ⟨#[49, 50, 51, 52, 53]⟩ 1 4 w (by decide)
  rw [show cutS ⟨#[49, 50, 51, 52, 53]⟩ 1 4 = ⟨#[50, 51, 52]⟩ by decide +kernel] at h
  exact h
theorem PV.len (x : PV) : x.cells.length = 6 := rfl
theorem flat_at : ∀ (l : List PV) (i : Nat) (x : PV), l[i]? = some x → ∀ (j : Nat) (v : Value), x.cells[j]? = some v → (l.flatMap PV.cells)[i * 6 + j]? = some v
  | [], i, x, h, j, v, hv => by simp at h
  | y :: l, 0, x, h, j, v, hv => by
    have e : y = x := by simpa using h
    subst e
    have hj := (List.getElem?_eq_some_iff.1 hv).1
    rw [List.flatMap_cons, List.getElem?_append_left (by omega), Nat.zero_mul, Nat.zero_add]
    exact hv
  | y :: l, i + 1, x, h, j, v, hv => by
    have h' : l[i]? = some x := by simpa using h
    rw [List.flatMap_cons, List.getElem?_append_right (by rw [PV.len]; omega), PV.len, show (i + 1) * 6 + j - 6 = i * 6 + j by omega]
    exact flat_at l i x h' j v hv
theorem vals_new (w : World) (l : List PV) (t : TypeId) : ValsAt (w.alloc (.cells (l.flatMap PV.cells).toArray t)) w.heap.size 0 l := fun i x hx j v hv => by
  rw [new_cell, Nat.zero_add, List.getElem?_toArray]
  exact flat_at l i x hx j v hv
set_option maxRecDepth 100000 in
theorem ofNum_any (k v : Int) (w : World) : Calls Tryz.prog 21 #[.agg #[.int .i64 k, .int .i64 v]] w fun e w' => e = .returned (.agg #[.int .i64 1, .slice none 0 0, .int .i64 k, .int .i64 v, .string ⟨#[]⟩, .bool false]) ∧ Below w.heap.size w w' := by
  go_enter Tryz.func21, Tryz.ntmps21
  go_wp2
  refine bodyPost_ret (v := .agg #[.int .i64 1, .slice none 0 0, .int .i64 k, .int .i64 v, .string ⟨#[]⟩, .bool false]) (by simp [results, Tryz.results21, go_sem]) rfl ?_
  exact ⟨rfl, by (repeat first | exact Below.refl _ _ | assumption | refine Below.drew ?_ | refine Below.alloc ?_ (by simp <;> omega) _ | refine Below.setCell ?_ (by simp <;> omega) _)⟩
theorem translate_live (W : World) (g o cap : Nat) (hV : ValsAt W g o [txtP ⟨#[98, 97, 114]⟩, txtP ⟨#[97, 98, 99]⟩, txtP ⟨#[65, 66]⟩]) :
    Calls Tryz.prog 45 #[.agg #[.pointer none, .slice (some ⟨g, o, none⟩) 3 cap]] W fun e W' => e = .returned (.agg #[.int .i64 2, .slice none 0 0, .int .i64 0, .int .i64 0, .string ⟨#[66, 65, 114]⟩, .bool false, .int .i64 0]) ∧ Below W.heap.size W W' := by
  have h := translate_low g o cap [98, 97, 114] [97, 98, 99] [65, 66] _ rfl (by decide) (by decide) (by decide) (by decide) (by decide) (by decide) W hV
  rw [show bsT (trL [97, 98, 99] [65, 66] [98, 97, 114]) = ⟨#[66, 65, 114]⟩ by decide +kernel] at h
  exact h
set_option maxRecDepth 100000 in
set_option maxHeartbeats 4000000 in
theorem live7_any (w : World) : Calls Tryz.prog 11 #[] w fun e w' => e = .returned (.bool true) ∧ Below w.heap.size w w' := by
  have HO := hide ofText_any
  go_enter Tryz.func11, Tryz.ntmps11
  go_wp2_with fail
  refine (unhide HO _ _).mono ?_
  rintro e w1 ⟨rfl, hb1⟩
  go_wp2_with fail
  refine (unhide HO _ _).mono ?_
  rintro e w2 ⟨rfl, hb2⟩
  go_wp2_with fail
  refine (unhide HO _ _).mono ?_
  rintro e w3 ⟨rfl, hb3⟩
  have hb03 := Below.then hb1 (Below.then hb2 hb3)
  clear hb1 hb2 hb3
  have HB3 := hide hb03
  clear hb03
  have hv3 := vals_new w3 [txtP ⟨#[98, 97, 114]⟩, txtP ⟨#[97, 98, 99]⟩, txtP ⟨#[65, 66]⟩] 34
  have hC3 := call_translate _ w3.heap.size 0 3 _ hv3 2 0 0 ⟨#[66, 65, 114]⟩ false (by decide) (fun W hW => translate_live W _ _ _ hW)
  have hb4 : Below w3.heap.size w3 (w3.alloc (.cells (List.flatMap PV.cells [txtP ⟨#[98, 97, 114]⟩, txtP ⟨#[97, 98, 99]⟩, txtP ⟨#[65, 66]⟩]).toArray 34)) := (Below.refl _ _).alloc (Nat.le_refl _) _
  have HC3 := hide hC3
  have HB4 := hide hb4
  clear hv3 hC3 hb4
  go_wp2_with fail
  refine (unhide HC3).mono ?_
  rintro e w4 ⟨rfl, hb4⟩
  have HB5 := hide (Below.then (unhide HB3) (Below.then (unhide HB4) hb4))
  clear HB3 HB4 HC3 hb4
  go_wp2_with fail
  obtain ⟨W5, hW5⟩ : ∃ W5, w4.alloc (.cells #[.int .i64 2, .slice none 0 0, .int .i64 0, .int .i64 0, .string ⟨#[66, 65, 114]⟩, .bool false] 34) = W5 := ⟨_, rfl⟩
  have hz5 : W5.heap[w4.heap.size]? = some (.cells #[.int .i64 2, .slice none 0 0, .int .i64 0, .int .i64 0, .string ⟨#[66, 65, 114]⟩, .bool false] 34 (0, 0)) := by rw [← hW5]; exact new_block _ _
  have hb5 : Below w4.heap.size w4 W5 := by rw [← hW5]; exact (Below.refl _ _).alloc (Nat.le_refl _) _
  have HB6 := hide (Below.then (unhide HB5) hb5)
  have HZ5 := hide hz5
  rw [hW5]
  clear hz5 hb5 HB5 hW5
  generalize w4.heap.size = b4 at *
  have HN := hide ofNum_any
  refine (unhide HO _ _).mono ?_
  rintro e w6 ⟨rfl, hb6⟩
  go_wp2_with fail
  refine (unhide HN _ _ _).mono ?_
  rintro e w7 ⟨rfl, hb7⟩
  go_wp2_with fail
  refine (unhide HN _ _ _).mono ?_
  rintro e w8 ⟨rfl, hb8⟩
  have hb58 := Below.then hb6 (Below.then hb7 hb8)
  have hv8 := vals_new w8 [txtP ⟨#[49, 50, 51, 52, 53]⟩, numP 1500000, numP 2600000] 34
  have hC8 := call_substring _ w8.heap.size 0 3 _ hv8 2 0 0 ⟨#[50, 51, 52]⟩ false (by decide) (fun W hW => substring_live _ _ _ W hW cut_live)
  have hb9 : Below w8.heap.size w8 (w8.alloc (.cells (List.flatMap PV.cells [txtP ⟨#[49, 50, 51, 52, 53]⟩, numP 1500000, numP 2600000]).toArray 34)) := (Below.refl _ _).alloc (Nat.le_refl _) _
  have HC8 := hide hC8
  have HB8 := hide (Below.then hb58 hb9)
  clear hv8 hC8 hb9 hb58 hb6 hb7 hb8
  go_wp2_with fail
  refine (unhide HC8).mono ?_
  rintro e w9 ⟨rfl, hb9⟩
  have hb59 := Below.then (unhide HB8) hb9
  have HB9 := hide (Below.then (unhide HB6) hb59)
  have hz9 := block_kept (unhide HZ5) hb59
  have q4 : w9.cell? ⟨b4, 4, none⟩ = some (.string ⟨#[66, 65, 114]⟩) := blk_c hz9 4
  have hl9 : b4 < w9.heap.size := (Array.getElem?_eq_some_iff.1 hz9).1
  clear HC8 HB8 HB6 hb9 hb59 hz9 HZ5
  go_wp2
  go_ret
  exact ⟨rfl, (unhide HB9).alloc (unhide HB9).size _⟩
end Go.Proofs.YtppkilblkobkhaaGreatDoor
