/- The law XvalueParts. -/
import Derived.Test.YtppkilblkobkhaaGreatDoorVaBe
import Derived.Test.YtppkilblkobkhaaGreatDoorVaCt
import Derived.Test.YtppkilblkobkhaaGreatDoorVaTx
import Derived.Test.YtppkilblkobkhaaGreatDoorVaCb
namespace Go.Proofs.YtppkilblkobkhaaGreatDoor
open Go.RowKit
/-- A text that has another one in it is what stands ahead of it, it, and what stands behind; that other one is not in what stands ahead, if it is something. -/
theorem parts_plain (l x : List UInt8) : (Lib.contains l x = false ∧ beforeL l x = [] ∧ afterL l x = []) ∨ (Lib.contains l x = true ∧ beforeL l x ++ x ++ afterL l x = l ∧ (Lib.contains (beforeL l x) x = false ∨ x = [])) := by
  rcases Lib.index_spec l x with ⟨h1, _⟩ | ⟨i, h1, h2, h3, h4⟩
  · refine .inl ⟨?_, ?_, ?_⟩
    · unfold Lib.contains; rw [h1]; rfl
    · unfold beforeL Lib.cut; rw [h1]; rfl
    · unfold afterL Lib.cut; rw [h1]; rfl
  · have e1 : Lib.cut l x = (l.take i, l.drop (i + x.length), true) := by
      unfold Lib.cut
      rw [h1, if_pos (by omega)]
      rfl
    have eb : beforeL l x = l.take i := by unfold beforeL; rw [e1]; rfl
    have ea : afterL l x = l.drop (i + x.length) := by unfold afterL; rw [e1]
    refine .inr ⟨?_, ?_, ?_⟩
    · unfold Lib.contains; rw [h1]; simp
    · rw [eb, ea, List.append_assoc]
      obtain ⟨t, ht⟩ := List.isPrefixOf_iff_prefix.1 h3
      have e2 : l.drop (i + x.length) = t := by rw [← List.drop_drop, ← ht]; simp
      rw [e2, ht, List.take_append_drop]
    · by_cases hx : x = []
      · exact .inr hx
      · refine .inl ?_
        rw [eb]
        unfold Lib.contains
        rw [Lib.index_none (fun j hj => ?_)]
        · rfl
        · cases ho : Lib.occAt (l.take i) x j with
          | false => rfl
          | true =>
            exfalso
            have hr := (Lib.occAt_room ho).resolve_right hx
            have hpos : 0 < x.length := List.length_pos_iff.2 hx
            rw [List.length_take] at hr
            have hno := h4 j (by omega)
            have hyes : Lib.occAt l x j = true := by
              unfold Lib.occAt at ho ⊢
              rw [List.isPrefixOf_iff_prefix] at ho ⊢
              have hp : (l.take i).drop j <+: l.drop j := by
                rw [List.drop_take]
                exact List.take_prefix _ _
              exact ho.trans hp
            rw [hyes] at hno
            cases hno
set_option maxRecDepth 100000 in
set_option maxHeartbeats 4000000 in
theorem parts7_walk (s u : ByteArray) (w : World) (hs : s.size ≤ 1048576) (hu : u.size ≤ 1048576) (hE : Env w) :
    Calls Tryz.prog 4 #[.string s, .string u] w fun e w' => e = .returned (.bool true) ∧ Below w.heap.size w w' := by
  have HO := hide ofText_any
  have HL := hide live7_any
  have hw0 : wrap64 ((s.size : Int) + (u.size : Int)) = (s.size : Int) + (u.size : Int) := by unfold wrap64; omega
  by_cases hlim : s.size + u.size ≤ 20000
  case neg =>
    have n1 : (20000 : Int) < (s.size : Int) + (u.size : Int) := by omega
    go_enter Tryz.func4, Tryz.ntmps4
    go_wp2_with fail
    refine (unhide HL _).mono ?_
    rintro e w9 ⟨rfl, hb9⟩
    have HB9 := hide hb9
    clear hb9
    go_wp2
    go_ret
    exact ⟨rfl, unhide HB9⟩
  have n1 : ¬ (20000 : Int) < (s.size : Int) + (u.size : Int) := by omega
  obtain ⟨m, hm⟩ := hE.len
  have hls : s.data.toList.length = s.size := rfl
  have hcl := cut_le s.data.toList u.data.toList
  have hbl : (beforeL s.data.toList u.data.toList).length ≤ 20000 := by unfold beforeL; split <;> first | omega | simp
  have hal : (afterL s.data.toList u.data.toList).length ≤ 20000 := by unfold afterL; omega
  have HX1 : Hid (∀ (W : World) (gl cl : Nat), Below w.heap.size w W → W.cell? ⟨gl, 0, none⟩ = some (.string s) → W.cell? ⟨gl, 1, none⟩ = some (.string u) → Calls Tryz.prog 12 #[.string ⟨#[115, 117, 98, 115, 116, 114, 105, 110, 103, 45, 98, 101, 102, 111, 114, 101]⟩, .slice (some ⟨gl, 0, none⟩) 2 cl] W fun e w' => e = .returned (.tuple #[.string (bsT (beforeL s.data.toList u.data.toList)), .bool true]) ∧ Below W.heap.size W w') := hide fun W gl cl hbW h0 h1 => by
    refine text_law _ [s, u] gl cl _ W (by simp) (by simp) (fun i z hz => ?_) 0 0 false (fun W' g cap hb hv => ?_)
    · match i, hz with
      | 0, hz => cases hz; exact h0
      | 1, hz => cases hz; exact h1
    · exact call_substringBefore_at W' g 0 cap _ hv 2 0 0 _ false (by rw [bsT_size]; omega) (fun W2 hb2 hW2 => before_two g 0 cap s u W2 hW2 (by omega) m (kept_cell (Below.then hbW (Below.then hb hb2)) hm))
  have HX2 : Hid (∀ (W : World) (gl cl : Nat), Below w.heap.size w W → W.cell? ⟨gl, 0, none⟩ = some (.string s) → W.cell? ⟨gl, 1, none⟩ = some (.string u) → Calls Tryz.prog 12 #[.string ⟨#[115, 117, 98, 115, 116, 114, 105, 110, 103, 45, 97, 102, 116, 101, 114]⟩, .slice (some ⟨gl, 0, none⟩) 2 cl] W fun e w' => e = .returned (.tuple #[.string (bsT (afterL s.data.toList u.data.toList)), .bool true]) ∧ Below W.heap.size W w') := hide fun W gl cl hbW h0 h1 => by
    refine text_law _ [s, u] gl cl _ W (by simp) (by simp) (fun i z hz => ?_) 0 0 false (fun W' g cap hb hv => ?_)
    · match i, hz with
      | 0, hz => cases hz; exact h0
      | 1, hz => cases hz; exact h1
    · exact call_substringAfter_at W' g 0 cap _ hv 2 0 0 _ false (by rw [bsT_size]; omega) (fun W2 hb2 hW2 => after_two g 0 cap s u W2 hW2 (by omega) m (kept_cell (Below.then hbW (Below.then hb hb2)) hm))
  have HCO : Hid (∀ (a : ByteArray) (r : Bool) (W : World), a.size ≤ 20000 → Below w.heap.size w W → Lib.contains a.data.toList u.data.toList = r → Calls Tryz.prog 13 #[.pointer none, .string ⟨#[99, 111, 110, 116, 97, 105, 110, 115]⟩, .slice (some ⟨W.heap.size, 0, none⟩) 2 2] (W.alloc (.cells #[.int .i64 2, .slice none 0 0, .int .i64 0, .int .i64 0, .string a, .bool false, .int .i64 2, .slice none 0 0, .int .i64 0, .int .i64 0, .string u, .bool false] 34)) fun e w' => e = .returned (.tuple #[.agg #[.int .i64 3, .slice none 0 0, .int .i64 0, .int .i64 0, .string ⟨#[]⟩, .bool r], .int .i64 0]) ∧ Below W.heap.size W w') := hide fun a r W ha hbW hr => by
    have hbA : Below W.heap.size W (W.alloc (.cells (List.flatMap PV.cells [txtP a, txtP u]).toArray 34)) := (Below.refl _ _).alloc (Nat.le_refl _) _
    exact (call_contains_at _ W.heap.size 0 2 _ (vals_new W [txtP a, txtP u] 34) 3 0 0 ⟨#[]⟩ r (by decide) (fun W' hb' hW => contains_two _ _ _ _ _ r W' hW hr (by omega) m (kept_cell (Below.then hbW (Below.then hbA hb')) hm))).mono fun e w' hh => ⟨hh.1, Below.then hbA hh.2⟩
  have hpl := parts_plain s.data.toList u.data.toList
  have hsu : ∀ l, bsT l = bsT l := fun _ => rfl
  have HBS : Hid ((bsT (beforeL s.data.toList u.data.toList)).size ≤ 20000) := hide (by rw [bsT_size]; exact hbl)
  have HAS : Hid ((bsT (afterL s.data.toList u.data.toList)).size ≤ 20000) := hide (by rw [bsT_size]; exact hal)
  clear hcl hbl hal hm hls hsu
  rcases hpl with ⟨hno, hb0, ha0⟩ | ⟨hyes, hall, hin⟩
  · rw [hb0] at HX1
    rw [ha0] at HX2
    have HC1 := hide (fun (W : World) hb => unhide HCO s false W (by omega) hb hno)
    clear HCO hno hb0 ha0 HBS HAS
    go_enter Tryz.func4, Tryz.ntmps4
    go_wp2_with fail
    refine (unhide HX1 _ _ _ ((Below.refl _ _).alloc (Nat.le_refl _) _) (by simp [go_sem]) (by simp [go_sem])).mono ?_
    rintro e w1 ⟨rfl, hb1⟩
    have HB1 := hide (Below.then ((Below.refl w.heap.size w).alloc (Nat.le_refl _) _) hb1)
    clear hb1
    go_wp2_with fail
    refine (unhide HX2 _ _ _ ((unhide HB1).alloc (unhide HB1).size _) (by simp [go_sem]) (by simp [go_sem])).mono ?_
    rintro e w2 ⟨rfl, hb2⟩
    have HB2 := hide (Below.then ((unhide HB1).alloc (unhide HB1).size _) hb2)
    clear hb2
    go_wp2_with fail
    refine (unhide HO _ _).mono ?_
    rintro e w3 ⟨rfl, hb3⟩
    go_wp2_with fail
    refine (unhide HO _ _).mono ?_
    rintro e w4 ⟨rfl, hb4⟩
    have HB4 := hide (Below.then (unhide HB2) (Below.then hb3 hb4))
    clear hb3 hb4
    go_wp2_with fail
    refine (unhide HC1 w4 (unhide HB4)).mono ?_
    rintro e w5 ⟨rfl, hb5⟩
    have HB5 := hide (Below.then (unhide HB4) hb5)
    clear hb5
    go_wp2_with fail
    refine (unhide HL _).mono ?_
    rintro e w6 ⟨rfl, hb6⟩
    have HB6 := hide (Below.then ((unhide HB5).alloc (unhide HB5).size _) hb6)
    have hbs0 : bsT [] = ⟨#[]⟩ := rfl
    clear hb6
    rw [hbs0]
    go_wp2
    go_ret
    exact ⟨rfl, unhide HB6⟩
  · have hcat : bsT (beforeL s.data.toList u.data.toList) ++ u ++ bsT (afterL s.data.toList u.data.toList) = s := by
      rw [← bsT_of s]
      conv => rhs; rw [← hall]
      rw [show (bsT s.data.toList).data.toList = s.data.toList from List.toList_toArray ..]
      rw [← bsT_of (bsT (beforeL s.data.toList u.data.toList) ++ u ++ bsT (afterL s.data.toList u.data.toList))]
      simp [bsT]
    obtain ⟨r, hr, hru⟩ : ∃ r, Lib.contains (bsT (beforeL s.data.toList u.data.toList)).data.toList u.data.toList = r ∧ (r = false ∨ u = ⟨#[]⟩) := by
      refine ⟨_, rfl, ?_⟩
      rw [show (bsT (beforeL s.data.toList u.data.toList)).data.toList = beforeL s.data.toList u.data.toList from List.toList_toArray ..]
      rcases hin with h | h
      · exact .inl h
      · refine .inr ?_
        rw [← bsT_of u, h]
        rfl
    have HC1 := hide (fun (W : World) hb => unhide HCO s true W (by omega) hb hyes)
    have HC2 := hide (fun (W : World) hb => unhide HCO _ r W (unhide HBS) hb hr)
    have HCAT := hide hcat
    have HRU := hide hru
    have HSZ : Hid (¬ 9223372036854775807 < (bsT (beforeL s.data.toList u.data.toList)).size + u.size ∧ ¬ 9223372036854775807 < (bsT (beforeL s.data.toList u.data.toList) ++ u).size + (bsT (afterL s.data.toList u.data.toList)).size) := hide (by
      have h1 := unhide HBS
      have h2 := unhide HAS
      have h3 : (bsT (beforeL s.data.toList u.data.toList) ++ u).size = (bsT (beforeL s.data.toList u.data.toList)).size + u.size := ByteArray.size_append ..
      omega)
    clear HCO hyes hall hin hcat hr hru HBS HAS
    generalize bsT (beforeL s.data.toList u.data.toList) = A at *
    generalize bsT (afterL s.data.toList u.data.toList) = B at *
    go_enter Tryz.func4, Tryz.ntmps4
    go_wp2_with fail
    refine (unhide HX1 _ _ _ ((Below.refl _ _).alloc (Nat.le_refl _) _) (by simp [go_sem]) (by simp [go_sem])).mono ?_
    rintro e w1 ⟨rfl, hb1⟩
    have HB1 := hide (Below.then ((Below.refl w.heap.size w).alloc (Nat.le_refl _) _) hb1)
    clear hb1
    go_wp2_with fail
    refine (unhide HX2 _ _ _ ((unhide HB1).alloc (unhide HB1).size _) (by simp [go_sem]) (by simp [go_sem])).mono ?_
    rintro e w2 ⟨rfl, hb2⟩
    have HB2 := hide (Below.then ((unhide HB1).alloc (unhide HB1).size _) hb2)
    clear hb2
    go_wp2_with fail
    refine (unhide HO _ _).mono ?_
    rintro e w3 ⟨rfl, hb3⟩
    go_wp2_with fail
    refine (unhide HO _ _).mono ?_
    rintro e w4 ⟨rfl, hb4⟩
    have HB4 := hide (Below.then (unhide HB2) (Below.then hb3 hb4))
    clear hb3 hb4
    go_wp2_with fail
    refine (unhide HC1 w4 (unhide HB4)).mono ?_
    rintro e w5 ⟨rfl, hb5⟩
    have HB5 := hide (Below.then (unhide HB4) hb5)
    clear hb5
    go_wp2_with fail
    obtain ⟨W6, hW6⟩ : ∃ W6, w5.alloc (.cells #[.int .i64 3, .slice none 0 0, .int .i64 0, .int .i64 0, .string ⟨#[]⟩, .bool true] 34) = W6 := ⟨_, rfl⟩
    have HB6 : Hid (Below w.heap.size w W6) := hide (by rw [← hW6]; exact (unhide HB5).alloc (unhide HB5).size _)
    rw [hW6]
    clear hW6 HB5
    refine (unhide HO _ _).mono ?_
    rintro e w7 ⟨rfl, hb7⟩
    go_wp2_with fail
    refine (unhide HO _ _).mono ?_
    rintro e w8 ⟨rfl, hb8⟩
    have HB8 := hide (Below.then (unhide HB6) (Below.then hb7 hb8))
    clear hb7 hb8
    go_wp2_with fail
    refine (unhide HC2 w8 (unhide HB8)).mono ?_
    rintro e w9 ⟨rfl, hb9⟩
    have HB9 := hide (Below.then (unhide HB8) hb9)
    clear hb9
    go_wp2_with fail
    refine (unhide HL _).mono ?_
    rintro e w10 ⟨rfl, hb10⟩
    have HB10 := hide (Below.then ((unhide HB9).alloc (unhide HB9).size (.cells #[.int .i64 3, .slice none 0 0, .int .i64 0, .int .i64 0, .string ⟨#[]⟩, .bool r] 34)) hb10)
    have hz10 : w10.heap[w9.heap.size]? = some (.cells #[.int .i64 3, .slice none 0 0, .int .i64 0, .int .i64 0, .string ⟨#[]⟩, .bool r] 34 (0, 0)) := (hb10.block w9.heap.size (by simp)).trans (new_block _ _)
    have q5 := blk_c hz10 5
    clear hb10 hz10 HB9
    obtain ⟨z1, z2⟩ := unhide HSZ
    have hcat := unhide HCAT
    rcases unhide HRU with h0 | h0
    · subst h0
      go_wp2
      go_ret
      exact ⟨rfl, unhide HB10⟩
    · have HQ : Hid (u.toList.isEmpty = true) := hide (by rw [h0, ByteArray.toList_eq]; rfl)
      clear h0
      cases r
      · go_wp2
        go_ret
        exact ⟨rfl, unhide HB10⟩
      · go_wp2
        go_ret
        exact ⟨ret_bool (unhide HQ), unhide HB10⟩
end Go.Proofs.YtppkilblkobkhaaGreatDoor
