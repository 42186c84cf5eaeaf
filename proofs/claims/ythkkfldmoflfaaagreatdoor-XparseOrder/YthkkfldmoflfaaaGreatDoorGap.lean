/- Several texts, laid as one. -/
import Derived.Test.YthkkfldmoflfaaaGreatDoorShelf
import Derived.Test.YthkkfldmoflfaaaGreatDoorGab
import Derived.Test.YthkkfldmoflfaaaGreatDoorGao
import Derived.Shelf.Strings.BuilderK
import Derived.Test.YthkkfldmoflfaaaGreatDoorGan
import Derived.Test.YthkkfldmoflfaaaGreatDoorGam
/- xparse's writer is a strings.Builder in a block of its own type: copyCheck, WriteString, String. -/
namespace Go.Proofs.YthkkfldmoflfaaaGreatDoor
open Go.RowKit Go.Shelf
set_option maxRecDepth 100000 in
theorem wbl_used (b : Nat) (w : World) (h0 : w.cell? ⟨b, 0, none⟩ = some (.pointer (some ⟨b, 0, none⟩))) :
    Calls Tryz.prog 86 #[.pointer (some ⟨b, 0, none⟩)] w fun e w' => e = .returned (.tuple #[]) ∧ w' = w := by
  obtain ⟨j, hj, _⟩ := Option.map_eq_some_iff.1 (show (Tryz.prog.info? 75).map (·.size) = some 2 by kernel_rfl)
  go_enter Tryz.func86, Tryz.ntmps86
  go_wp2
  rw [Lib.run_neq_ptr_same w _ Tryz.underlying72 hj]
  go_wp2
  go_end0
  exact ⟨rfl, rfl⟩
set_option maxRecDepth 100000 in
theorem wbl_fresh (b : Nat) (w : World) (h0 : w.cell? ⟨b, 0, none⟩ = some (.pointer none)) (hsh : w.shape? b = some (77, 2)) (hfz : w.frozen? ⟨b, 0, none⟩ = false) :
    Calls Tryz.prog 86 #[.pointer (some ⟨b, 0, none⟩)] w fun e w' => e = .returned (.tuple #[]) ∧ w' = w.setCell ⟨b, 0, none⟩ (.pointer (some ⟨b, 0, none⟩)) := by
  obtain ⟨j, hj, hjs⟩ := Option.map_eq_some_iff.1 (show (Tryz.prog.info? 75).map (·.size) = some 2 by kernel_rfl)
  go_enter Tryz.func86, Tryz.ntmps86
  go_wp2
  rw [Lib.run_to_unsafe w ⟨b, 0, none⟩ Tryz.underlying72 Tryz.underlying142 hj (by rw [hjs]; decide) hsh (Nat.zero_lt_succ 1)]
  simp only [Result.andThen]
  rw [Oper.upon_value]
  go_wp2
  rw [run_callFunc_extern Tryz.func116 (by kernel_rfl) (by kernel_rfl) (by kernel_rfl) (e := Extern.AbiNoEscape.same) (by kernel_rfl)]
  rw [Lib.run_noEscape]
  simp only [Result.andThen]
  rw [Oper.upon_value]
  go_wp2
  rw [Lib.run_from_unsafe w ⟨b, 0, none⟩ Tryz.underlying142 Tryz.underlying72 hj hsh (by kernel_rfl)]
  simp only [Result.andThen]
  rw [Oper.upon_value]
  go_wp2
  go_end0
  exact ⟨rfl, rfl⟩
/-- A builder, whether it was written or not. -/
abbrev IsW (B b : Nat) (bs : List Value) (w : World) : Prop := Lib.IsBuilderF 77 5 B b bs w
abbrev KeptW (b : Nat) (w w' : World) : Prop := Lib.OthersKept 5 (some b) w w'
theorem wcopyCheck_any (B b : Nat) (bs : List Value) (w : World) (h : IsW B b bs w) :
    Calls Tryz.prog 86 #[.pointer (some ⟨b, 0, none⟩)] w fun e w' => e = .returned (.tuple #[]) ∧ Lib.BuilderAtF 77 5 B b (.pointer (some ⟨b, 0, none⟩)) bs w' ∧ Below B w w' ∧ KeptW b w w' := by
  rcases h with h | h
  · refine (wbl_fresh b w h.cell0 h.shape h.frozen0).mono ?_
    rintro e w' ⟨rfl, rfl⟩
    exact ⟨rfl, h.used _, (Below.refl B w).setCell (p := ⟨b, 0, none⟩) h.1 _, (Lib.OthersKept.refl _ _ w).setCell ⟨b, 0, none⟩ rfl _⟩
  · refine (wbl_used b w h.cell0).mono ?_
    rintro e w' ⟨rfl, rfl⟩
    exact ⟨rfl, h, Below.refl B _, Lib.OthersKept.refl _ _ _⟩
set_option maxHeartbeats 2000000 in
set_option maxRecDepth 100000 in
theorem wwriteString_any (B b : Nat) (bs : List Value) (s : ByteArray) (w : World) (h : IsW B b bs w) (hlen : bs.length + s.size ≤ 140737488355328) (hBw : B ≤ w.heap.size) :
    Calls Tryz.prog 51 #[.pointer (some ⟨b, 0, none⟩), .string s] w fun e w' => e = .returned (.tuple #[.int .i64 s.size, .nilIface]) ∧ IsW B b (bs ++ Lib.strCells s) w' ∧ Below B w w' ∧ KeptW b w w' := by
  obtain ⟨i0, hi, hz0, hz1, hz2⟩ := info_parts Tryz.Builder_Extra_169.infoByte
  have HC := hide (wcopyCheck_any B b bs w h)
  clear h
  go_enter Tryz.func51, Tryz.ntmps51
  go_wp2_with fail
  refine (unhide HC).mono ?_
  rintro e w1 ⟨rfl, h1, hb1, hk1⟩
  obtain ⟨hB, v, hbk, hown, hne⟩ := h1
  have c0 : w1.cell? ⟨b, 0, none⟩ = some (.pointer (some ⟨b, 0, none⟩)) := by rw [Lib.cell_of_heap hbk]; rfl
  have c1 : w1.cell? ⟨b, 1, none⟩ = some v := by rw [Lib.cell_of_heap hbk]; rfl
  go_wp2_with (at_builtin; refine Lib.wpList_append_own_stringF _ rfl _ _ 73 9 rfl B 5 i0 Tryz.underlying73 Tryz.underlying9 hi hz0 hz1 hz2 _ _ _ rfl hown s rfl ?c3 ?c4 ?c5 ?_)
  case c3 => unfold maxLen; omega
  case c4 => omega
  case c5 => have := hb1.size; omega
  intro v' w2 hown' hgrow _
  have hlt : b < w1.heap.size := (Array.getElem?_eq_some_iff.1 hbk).1
  have hb2 : w2.heap[b]? = some (.cells #[.pointer (some ⟨b, 0, none⟩), v] 77 (0, 0)) := by
    rw [hgrow.block b hlt (fun e => hne e.symm)]
    exact hbk
  have d0 : w2.cell? ⟨b, 0, none⟩ = some (.pointer (some ⟨b, 0, none⟩)) := by rw [Lib.cell_of_heap hb2]; rfl
  have d1 : w2.cell? ⟨b, 1, none⟩ = some v := by rw [Lib.cell_of_heap hb2]; rfl
  have f1 : w2.frozen? ⟨b, 1, none⟩ = false := Lib.frozen_of_heap hb2 1
  obtain ⟨ao, n', cap, rfl⟩ : ∃ ao n' cap, v' = .slice ao n' cap := by
    rcases hown'.2 with ⟨hv, _⟩ | ⟨g, cap, cur, fz, hv, _⟩
    · exact ⟨_, _, _, hv⟩
    · exact ⟨_, _, _, hv⟩
  go_wp2
  go_ret2
  refine ⟨rfl, .inr ?_, ?_, (hk1.grown hgrow (Lib.ownsRowF_kind hown)).setCell ⟨b, 1, none⟩ rfl _⟩
  · exact Lib.BuilderAtF.put (T := 77) (e := 5) hB hb2 (bs' := bs ++ Lib.strCells s) (by simpa [Lib.strCells_length] using hown') (by decide)
  · exact (hb1.grown hgrow (by have := hb1.size; omega) (fun k hk => (hown.lt k hk).1)).setCell (p := ⟨b, 1, none⟩) hB _
set_option maxRecDepth 100000 in
set_option maxHeartbeats 2000000 in
theorem wstring_any (B b : Nat) (l : List UInt8) (w : World) (h : IsW B b (Lib.byteCells l) w) (h0 : l ≠ []) (hl : l.length ≤ 1000000) :
    Calls Tryz.prog 30 #[.pointer (some ⟨b, 0, none⟩)] w fun e w' => e = .returned (.string ⟨l.toArray⟩) ∧ Below B w w' := by
  obtain ⟨p, hAt⟩ : ∃ p, Lib.BuilderAtF 77 5 B b p (Lib.byteCells l) w := by
    rcases h with h | h
    · exact ⟨_, h⟩
    · exact ⟨_, h⟩
  obtain ⟨hB, v, hbk, hown, hne⟩ := hAt
  have hl0 : l.length ≠ 0 := by simpa using h0
  rw [Lib.byteCells_length] at hown
  obtain ⟨g, cap, cur, fz, rfl, hbg, hg, hnc, hcm, hcs⟩ : ∃ g cap cur fz, v = .slice (some ⟨g, 0, none⟩) l.length cap ∧ B ≤ g ∧ w.heap[g]? = some (.cells cur 5 fz) ∧ l.length ≤ cap ∧ cap ≤ maxLen ∧ cur.size = cap * 1 := by
    rcases hown.2 with ⟨_, hz⟩ | ⟨g, cap, cur, fz, hv, r1, r2, r3, r4, r5, r6, r7⟩
    · exact absurd hz hl0
    · exact ⟨g, cap, cur, fz, hv, r1, r2, r4, r5, r6⟩
  have c1 : w.drew.cell? ⟨b, 1, none⟩ = some (.slice (some ⟨g, 0, none⟩) l.length cap) := by
    have h1 : w.drew.heap[b]? = some (.cells #[p, .slice (some ⟨g, 0, none⟩) l.length cap] 77 (0, 0)) := hbk
    rw [Lib.cell_of_heap h1]; rfl
  have hSD : (Builtin.unsafeSliceData_ #[73] 104 #[.slice (some ⟨g, 0, none⟩) l.length cap]).run Tryz.prog w.drew = .ok (.pointer (some ⟨g, 0, none⟩)) w.drew :=
    Lib.run_unsafeSliceData_row _ _ _ _ _ _ (by omega)
  have hUS : (Builtin.unsafeString_ #[104, 3] 9 #[.pointer (some ⟨g, 0, none⟩), .int .i64 l.length]).run Tryz.prog w.drew = .ok (.string ⟨l.toArray⟩) (w.drew.freeze ⟨g, 0, none⟩ l.length) := by
    refine Lib.run_unsafeString_row w.drew 104 3 9 5 (by kernel_rfl) (by kernel_rfl) g cur.size (by have hg' : w.drew.heap[g]? = some (.cells cur 5 fz) := hg; simp [World.shape?, hg']) l h0 (by omega) (by omega) ?_
    intro j x hx
    exact hown.cells (g := g) rfl j (.int .u8 x.toNat) (by simp [Lib.byteCells, hx])
  clear hown hne hcs hcm hg hbk h
  go_enter Tryz.func30, Tryz.ntmps30
  have mixed : Tryz.prog.follows .mixedOrders = true := by kernel_rfl
  go_wp2
  go_region_o
  all_goals (go_wp2; go_ret; exact ⟨rfl, Lib.below_freeze (Below.drew (Below.refl B w)) (p := ⟨g, 0, none⟩) hbg _⟩)
end Go.Proofs.YthkkfldmoflfaaaGreatDoor
/- The name, the string, the variable, the word that a text begins with, and which word is what: xplex's functions. -/
namespace Go.Proofs.YthkkfldmoflfaaaGreatDoor
open Go.RowKit
theorem okL_tl {l : List Nat} (h : okL l) : okL l.tail := fun c hc => h c (List.mem_of_mem_tail hc)
set_option maxHeartbeats 1000000 in
theorem qnameAhead_any (l : List Nat) (w : World) (hl : okL l) (hs : (T l).size ≤ 512) :
    Calls Tryz.prog 73 #[.string (T l)] w fun e w' => e = .returned (.string (T (qnameA l))) ∧ Below w.heap.size w w' := by
  have hp := nameA_pre l
  have hz := size_pre hp
  have HS := hide (suf_drop hp)
  have hod := okL_drop hl (nameA l).length
  have hon := okL_pre hl hp
  have HN := hide (qnameA_eq l)
  have hszd : (T (l.drop (nameA l).length)).size ≤ 512 := by
    have := sz_app (nameA l) (l.drop (nameA l).length)
    rw [pre_drop hp] at this
    omega
  clear hp
  generalize l.drop (nameA l).length = d at *
  go_enter Tryz.func73, Tryz.ntmps73
  go_wp2_with fail
  refine (nameAhead_any l _ hl).mono ?_
  rintro e w1 ⟨rfl, hb1⟩
  generalize nameA l = n at *
  go_wp2_with fail
  rw [unhide HS]
  refine (cutPrefix_one 58 58 rfl (by decide) d hod _).mono ?_
  rintro e w2 ⟨rfl, rfl⟩
  cases hh : heads 58 d
  · have HH := hide hh
    clear hh
    rw [if_neg (by decide)]
    go_wp2_with fail
    refine (nameAhead_any d _ hod).mono ?_
    rintro e w3 ⟨rfl, hb3⟩
    go_wp2
    all_goals
      go_ret
      refine ⟨ret_str ?_, Below.then hb1 hb3⟩
      rw [unhide HN, unhide HH, Bool.false_and, Bool.and_false, if_neg (by decide)]
  · have HH := hide hh
    clear hh
    rw [if_pos rfl]
    have hot := okL_tl hod
    have hst : (T d.tail).size ≤ 512 := by
      have h1 : (T d).size = 1 + (T d.tail).size := by
        conv => lhs; rw [heads_true (unhide HH)]
        exact sz_cons (by decide) _
      omega
    go_wp2_with fail
    refine (nameAhead_any d.tail _ hot).mono ?_
    rintro e w3 ⟨rfl, hb3⟩
    have hoy : okL (nameA d.tail) := okL_pre hot (nameA_pre _)
    have hsy : (T (nameA d.tail)).size ≤ 512 := by have := size_pre (nameA_pre d.tail); omega
    generalize nameA d.tail = y at *
    by_cases hn : n = []
    · have h1 := nil_T hn
      have HY := hide hn
      clear hn
      go_wp2
      go_ret
      refine ⟨ret_str ?_, Below.then hb1 hb3⟩
      rw [unhide HN, unhide HY, List.isEmpty_nil, Bool.not_true, Bool.false_and, if_neg (by decide)]
    · have h1 := ne_T hon hn
      by_cases hy : y = []
      · have h2 := nil_T hy
        have HY := hide hy
        clear hy
        go_wp2
        go_ret
        refine ⟨ret_str ?_, Below.then hb1 hb3⟩
        rw [unhide HN, unhide HY, List.isEmpty_nil, Bool.not_true, Bool.and_false, Bool.and_false, if_neg (by decide)]
      · have h2 := ne_T hoy hy
        have e := unhide HN
        rw [unhide HH, empty_not hn, empty_not hy, Bool.and_self, Bool.and_self, if_pos rfl] at e
        have E := hide e
        clear e
        go_wp2
        go_ret
        refine ⟨ret_str ?_, Below.then hb1 hb3⟩
        rw [unhide E, ← T_app, show T (58 :: y) = T [58] ++ T y from (T_app [58] y).symm, ← ByteArray.append_assoc]
        rfl
set_option maxHeartbeats 1000000 in
theorem variableAhead_any (l : List Nat) (w : World) (hl : okL l) (hs : (T l).size ≤ 512) :
    Calls Tryz.prog 43 #[.string (T l)] w fun e w' => (∃ x b, e = .returned (.tuple #[.string x, .bool b]) ∧ ((∃ t, varA l = some t ∧ x = T t ∧ b = true) ∨ (varA l = none ∧ b = false))) ∧ Below w.heap.size w w' := by
  have hV : varA l = if heads 36 l && !(qnameA l.tail).isEmpty then some (qnameA l.tail) else none := rfl
  have HV := hide hV
  clear hV
  go_enter Tryz.func43, Tryz.ntmps43
  go_wp2_with fail
  refine (cutPrefix_one 36 36 rfl (by decide) l hl _).mono ?_
  rintro e w2 ⟨rfl, rfl⟩
  cases hh : heads 36 l
  · have HH := hide hh
    clear hh
    rw [if_neg (by decide)]
    go_wp2_with fail
    refine (qnameAhead_any l _ hl hs).mono ?_
    rintro e w3 ⟨rfl, hb3⟩
    go_wp2
    go_ret2
    exact ⟨⟨_, _, rfl, .inr ⟨by rw [unhide HV, unhide HH, Bool.false_and, if_neg (by decide)], rfl⟩⟩, hb3⟩
  · have HH := hide hh
    clear hh
    rw [if_pos rfl]
    have hot := okL_tl hl
    have hst : (T l.tail).size ≤ 512 := by
      have h1 : (T l).size = 1 + (T l.tail).size := by
        conv => lhs; rw [heads_true (unhide HH)]
        exact sz_cons (by decide) _
      omega
    have hoy : okL (qnameA l.tail) := okL_pre hot (qnameA_pre _)
    go_wp2_with fail
    refine (qnameAhead_any l.tail _ hot hst).mono ?_
    rintro e w3 ⟨rfl, hb3⟩
    generalize qnameA l.tail = y at *
    by_cases hy : y = []
    · have h2 := nil_T hy
      have HY := hide hy
      clear hy
      go_wp2
      go_ret2
      exact ⟨⟨_, _, rfl, .inr ⟨by rw [unhide HV, unhide HY, List.isEmpty_nil, Bool.not_true, Bool.and_false, if_neg (by decide)], rfl⟩⟩, hb3⟩
    · have h2 := ne_T hoy hy
      have h3 : (T y).toList ≠ [] := fun h => hy ((T_empty hoy).1 h)
      go_wp2
      go_ret2
      exact ⟨⟨_, _, rfl, .inl ⟨y, by rw [unhide HV, unhide HH, empty_not hy, Bool.and_self, if_pos rfl], rfl, rfl⟩⟩, hb3⟩
end Go.Proofs.YthkkfldmoflfaaaGreatDoor
/- The reference's IsName and Split give what the program's give. -/
namespace Go.Proofs.YthkkfldmoflfaaaGreatDoor
open Go.RowKit
theorem refBegins_at (r : Nat) (hr : r ≤ 2147483647) (w : World) :
    Calls Tryz.prog 19 #[.int .i32 r] w fun e w' => e = .returned (.bool (beginB r)) ∧ Below w.heap.size w w' := by
  rw [beginB_eq r (by omega)]; exact refBegins_any r w
theorem refGoesOn_at (r : Nat) (hr : r ≤ 2147483647) (w : World) :
    Calls Tryz.prog 20 #[.int .i32 r] w fun e w' => e = .returned (.bool (goesB r)) ∧ Below w.heap.size w w' := by
  rw [goesB_eq r (by omega)]; exact refGoesOn_any r w
set_option maxHeartbeats 1000000 in
theorem refIsName_any (s : ByteArray) (w : World) (hs : s.size ≤ 4294967280) (hE : Env w) :
    Calls Tryz.prog 9 #[.string s] w fun e w' => e = .returned (.bool (nameB s)) ∧ Below w.heap.size w w' := by
  have HE := hide hE
  clear hE
  have HN := hide (nameB_eq s)
  cases ht : textR s
  · have HT := hide ht
    clear ht
    go_enter Tryz.func9, Tryz.ntmps9
    go_wp2_with fail
    refine (refIsText_any s _ hs (unhide HE)).mono ?_
    rintro e w' ⟨rfl, hb⟩
    rw [unhide HT]
    go_wp2
    go_ret
    exact ⟨ret_bool (by rw [unhide HN, unhide HT]; rfl), hb⟩
  · have HT := hide ht
    clear ht
    by_cases h0 : s.toList = []
    · go_enter Tryz.func9, Tryz.ntmps9
      go_wp2_with fail
      refine (refIsText_any s _ hs (unhide HE)).mono ?_
      rintro e w' ⟨rfl, hb⟩
      rw [unhide HT]
      go_wp2
      go_ret
      have e0 : s.data.toList.isEmpty = true := by rw [← toList_data, h0]; rfl
      exact ⟨ret_bool (by rw [unhide HN, unhide HT, e0]; rfl), hb⟩
    · have h0' : s.toList.isEmpty = false := by cases h : s.toList with | nil => exact absurd h h0 | cons _ _ => rfl
      go_enter Tryz.func9, Tryz.ntmps9
      go_wp2_with fail
      refine (refIsText_any s _ hs (unhide HE)).mono ?_
      rintro e w' ⟨rfl, hb⟩
      rw [unhide HT]
      go_wp2_with fail
      go_loopw [3] (fun i wr => ∃ (pos f : Nat), i = .int .i64 pos ∧ pos ≤ s.size ∧ Below w'.heap.size w' wr ∧ nameFrom s (s.size + 1) 0 = nameFrom s f pos ∧ s.size < pos + f) (fun i wr => s.size - (intOf i).toNat)
      case atStart => exact ⟨0, s.size + 1, rfl, Nat.zero_le _, Below.refl _ _, rfl, by omega⟩
      case round =>
        obtain ⟨pos, f, rfl, hps, hbr, hf, hfu⟩ := hrel
        by_cases hp : pos < s.size
        · have hwd := width_pos s pos hp
          have hdl := decode_le s pos
          obtain ⟨_, _, hwe⟩ := decode_bytes s pos hp
          obtain ⟨g, rfl, hg⟩ := nameFrom_step s f pos hp hfu
          have HF := hide (hf.trans hg)
          clear hf hg
          go_wp2_with fail
          refine (decodeRune_at s pos _ hp (((unhide HE).below hb).below hbr)).mono ?_
          rintro e w1 ⟨rfl, hb1⟩
          generalize hd : Utf8.decode s pos = d at *
          clear hd
          by_cases hz : pos = 0
          · subst hz
            go_wp2_with (first | (go_at_call 19; refine (refBegins_at _ hdl _).mono ?_; rintro e w2 ⟨rfl, hb2⟩) | (go_at_call 20; refine (refGoesOn_at _ hdl _).mono ?_; rintro e w3 ⟨rfl, hb3⟩))
            all_goals first
              | (go_ret
                 refine ⟨ret_bool ?_, Below.then hb (Below.then hbr (Below.then hb1 (by first | exact Below.then hb2 hb3 | exact hb2 | exact hb3)))⟩
                 have key : nameFrom s (s.size + 1) 0 = false := by rw [unhide HF]; simp [*]
                 simp [nameB, key])
              | (exact ⟨⟨0 + d.2, g, by go_num, hwe, Below.then hbr (Below.then hb1 (by first | exact Below.then hb2 hb3 | exact hb2 | exact hb3)), by rw [unhide HF]; simp_all, by omega⟩, by simp [intOf]; omega⟩)
          · have hz' : ((pos : Int) == 0) = false := by simpa using hz
            go_wp2_with (first | (go_at_call 19; refine (refBegins_at _ hdl _).mono ?_; rintro e w2 ⟨rfl, hb2⟩) | (go_at_call 20; refine (refGoesOn_at _ hdl _).mono ?_; rintro e w3 ⟨rfl, hb3⟩))
            all_goals first
              | (go_ret
                 refine ⟨ret_bool ?_, Below.then hb (Below.then hbr (Below.then hb1 (by first | exact Below.then hb2 hb3 | exact hb2 | exact hb3)))⟩
                 have key : nameFrom s (s.size + 1) 0 = false := by rw [unhide HF]; simp [*]
                 simp [nameB, key])
              | (exact ⟨⟨pos + d.2, g, by go_num, hwe, Below.then hbr (Below.then hb1 (by first | exact Below.then hb2 hb3 | exact hb2 | exact hb3)), by rw [unhide HF]; simp_all, by omega⟩, by simp [intOf]; omega⟩)
        · have HF := hide (hf.trans (nameFrom_end s f pos hp))
          clear hf
          go_wp2
          go_ret
          refine ⟨ret_bool ?_, Below.then hb hbr⟩
          have e0 : s.data.toList.isEmpty = false := by rw [← toList_data]; exact h0'
          rw [unhide HN, unhide HT, unhide HF, e0]; rfl
theorem splitV_at (s : ByteArray) (k : Nat) (hk : k < s.size) (hc : (s.get! k).toNat = 58) (hno : ∀ j, j < k → (s.get! j).toNat ≠ 58) :
    splitP s.data.toList = s.data.toList.take k ∧ splitN s.data.toList = s.data.toList.drop (k + 1) ∧ splitB s.data.toList = (nameB ⟨(s.data.toList.take k).toArray⟩ && nameB ⟨(s.data.toList.drop (k + 1)).toArray⟩) := by
  have hl : s.data.toList.length = s.size := rfl
  have h58 : s.data.toList[k]'hk = 58 := by
    rw [get_data s k hk] at hc
    exact UInt8.toNat_inj.1 (show _ = (58 : UInt8).toNat from hc)
  have hn : 58 ∉ s.data.toList.take k := by
    intro hm
    obtain ⟨j, hj, he⟩ := List.getElem_of_mem hm
    rw [List.length_take] at hj
    have := hno j (by omega)
    rw [get_data s j (by omega)] at this
    rw [List.getElem_take] at he
    rw [he] at this
    exact this rfl
  have e : s.data.toList = s.data.toList.take k ++ 58 :: s.data.toList.drop (k + 1) := by
    conv => lhs; rw [← List.take_append_drop k s.data.toList]
    rw [List.drop_eq_getElem_cons (by omega), h58]
  have c := cut_first (s.data.toList.take k) (s.data.toList.drop (k + 1)) 58 hn
  rw [← e] at c
  unfold splitB splitP splitN
  rw [c]
  simp
theorem splitV_none (s : ByteArray) (hno : ∀ j, j < s.size → (s.get! j).toNat ≠ 58) : splitP s.data.toList = [] ∧ splitN s.data.toList = s.data.toList ∧ splitB s.data.toList = nameB s := by
  have hl : s.data.toList.length = s.size := rfl
  have hn : 58 ∉ s.data.toList := by
    intro hm
    obtain ⟨j, hj, he⟩ := List.getElem_of_mem hm
    have := hno j hj
    rw [get_data s j hj, he] at this
    exact this rfl
  have hi : ∀ l : List UInt8, 58 ∉ l → Lib.indexByte l 58 = -1 := by
    intro l
    induction l with
    | nil => intro _; rfl
    | cons x l ih =>
      intro h
      have hx : ¬ (x == 58) = true := fun e => h (by rw [beq_iff_eq.1 e]; simp)
      have := ih (fun hm => h (List.mem_cons_of_mem _ hm))
      simp only [Lib.indexByte, hx, this]
      simp
  have c : Lib.cut s.data.toList [58] = (s.data.toList, [], false) := by
    unfold Lib.cut
    rw [Lib.index_one, hi _ hn, if_neg (by decide)]
  unfold splitB splitP splitN
  rw [c]
  simp
theorem take_extract (s : ByteArray) (k : Nat) : (⟨(s.data.toList.take k).toArray⟩ : ByteArray) = s.extract 0 k := by
  apply ByteArray.ext
  rw [ByteArray.data_extract]
  apply Array.ext'
  simp
theorem drop_extract (s : ByteArray) (k : Nat) : (⟨(s.data.toList.drop k).toArray⟩ : ByteArray) = s.extract k s.size := by
  apply ByteArray.ext
  rw [ByteArray.data_extract]
  apply Array.ext'
  simp [List.take_of_length_le]
set_option maxHeartbeats 1000000 in
theorem refSplit_any (s : ByteArray) (w : World) (hs : s.size ≤ 4294967280) (hE : Env w) :
    Calls Tryz.prog 98 #[.string s] w fun e w' => e = .returned (splitV s.data.toList) ∧ Below w.heap.size w w' := by
  have HE := hide hE
  clear hE
  go_enter Tryz.func98, Tryz.ntmps98
  go_wp2_with fail
  go_loop [5] (fun i => ∃ k : Nat, k ≤ s.size ∧ i = .int .i64 k ∧ ∀ j, j < k → (s.get! j).toNat ≠ 58) (fun i => s.size - (intOf i).toNat)
  case atStart => exact ⟨0, Nat.zero_le _, rfl, fun j hj => by omega⟩
  case round =>
    obtain ⟨k, hk, rfl, hno⟩ := hrel
    by_cases hlt : k < s.size
    · have hg : s.get! k = s[k] := by rw [get_data s k hlt]; rfl
      by_cases hc : (s.get! k).toNat = 58
      · obtain ⟨hsp, hsn, hsb⟩ := splitV_at s k hlt hc hno
        have HP := hide hsp
        have HN := hide hsn
        have HB := hide hsb
        clear hsp hsn hsb hno
        have hc' : ((s[k].toNat : Int) == 58) = true := by rw [← hg, hc]; rfl
        have hlt' : (k : Int) < s.size := by omega
        clear hg hc
        have z1 : (s.extract 0 k).size ≤ 4294967280 := by rw [ByteArray.size_extract]; omega
        have z2 : (s.extract (k + 1) s.size).size ≤ 4294967280 := by rw [ByteArray.size_extract]; omega
        go_wp2_with fail
        refine (refIsName_any (s.extract 0 k) _ z1 (unhide HE)).mono ?_
        rintro e w1 ⟨rfl, hb1⟩
        cases hn : nameB (s.extract 0 k)
        · have HN1 := hide hn
          clear hn
          go_wp2
          go_ret3
          exact ⟨splitV_no (by rw [unhide HB, take_extract, unhide HN1]; rfl), hb1⟩
        · have HN1 := hide hn
          clear hn
          go_wp2_with fail
          refine (refIsName_any (s.extract (k + 1) s.size) _ z2 ((unhide HE).below hb1)).mono ?_
          rintro e w2 ⟨rfl, hb2⟩
          cases hn : nameB (s.extract (k + 1) s.size)
          · have HN2 := hide hn
            clear hn
            go_wp2
            go_ret3
            exact ⟨splitV_no (by rw [unhide HB, take_extract, drop_extract, unhide HN1, unhide HN2]; rfl), Below.then hb1 hb2⟩
          · have HN2 := hide hn
            clear hn
            go_wp2
            go_region
            go_wp2
            go_ret3
            refine ⟨?_, by first | exact (Below.then hb1 hb2).drew | exact Below.then (Below.then hb1 hb2) (below_drewN _ _)⟩
            rw [← splitV_of (unhide HP) (unhide HN) (by rw [unhide HB, take_extract, drop_extract, unhide HN1, unhide HN2]; rfl), take_extract, drop_extract]
            rfl
      · have hc' : ((s[k].toNat : Int) == 58) = false := by rw [← hg]; simp; omega
        have HNO := hide hno
        clear hno
        go_wp2
        go_round
        case rel =>
          refine ⟨k + 1, by omega, by go_num, fun j hj => ?_⟩
          rcases Nat.lt_or_ge j k with h | h
          · exact unhide HNO j h
          · rw [show j = k by omega]; exact hc
        case measure => simp [intOf]; omega
    · have hno' := splitV_none s (fun j hj => hno j (by omega))
      obtain ⟨hsp, hsn, hsb⟩ := hno'
      have HP := hide hsp
      have HN := hide hsn
      have HB := hide hsb
      clear hsp hsn hsb hno
      go_wp2_with fail
      refine (refIsName_any s _ hs (unhide HE)).mono ?_
      rintro e w1 ⟨rfl, hb1⟩
      cases hn : nameB s
      · have HN1 := hide hn
        clear hn
        go_wp2
        go_ret3
        exact ⟨splitV_no (by rw [unhide HB]; exact unhide HN1), hb1⟩
      · have HN1 := hide hn
        clear hn
        go_wp2
        go_ret3
        refine ⟨?_, hb1⟩
        rw [← splitV_of (unhide HP) (unhide HN) (by rw [unhide HB]; exact unhide HN1), mk_data]
        rfl
theorem splitV_cases (l : List UInt8) : ∃ p n : ByteArray, splitV l = .tuple #[.string p, .string n, .bool (splitB l)] := by
  unfold splitV
  cases h : splitB l
  · exact ⟨_, _, rfl⟩
  · exact ⟨_, _, rfl⟩
theorem refIsText_same (s : ByteArray) (w : World) (hs : s.size ≤ 4294967280) (hE : Env w) :
    Calls Tryz.prog 17 #[.string s] w fun e w' => e = .returned (.bool (textB s)) ∧ Below w.heap.size w w' := by
  rw [textB_eq]; exact refIsText_any s w hs hE
end Go.Proofs.YthkkfldmoflfaaaGreatDoor
