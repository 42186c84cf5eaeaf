/- Several texts, laid as one. -/
import Derived.Test.YtmemcabipcccaaaGreatDoorGaq
import Derived.Shelf.Strings.BuilderK
import Derived.Test.YtmemcabipcccaaaGreatDoorOutA
import Derived.Test.YtmemcabipcccaaaGreatDoorGbb
import Derived.Test.YtmemcabipcccaaaGreatDoorXmlWrW
/- A struct with a strings.Builder in it alone (xout's writer): copyCheck, WriteString, Len, String. -/
namespace Go.Proofs.YtmemcabipcccaaaGreatDoor
open Go.RowKit Go.Shelf
set_option maxRecDepth 100000 in
theorem wr_fresh (b : Nat) (w : World) (h0 : w.cell? ⟨b, 0, none⟩ = some (.pointer none)) (hsh : w.shape? b = some (43, 2)) (hfz : w.frozen? ⟨b, 0, none⟩ = false) :
    Calls Tryz.prog 93 #[.pointer (some ⟨b, 0, none⟩)] w fun e w' => e = .returned (.tuple #[]) ∧ w' = w.setCell ⟨b, 0, none⟩ (.pointer (some ⟨b, 0, none⟩)) := by
  obtain ⟨j, hj, hjs⟩ := Option.map_eq_some_iff.1 (show (Tryz.prog.info? 41).map (·.size) = some 2 by kernel_rfl)
  go_enter Tryz.func93, Tryz.ntmps93
  go_wp2
  rw [Lib.run_to_unsafe w ⟨b, 0, none⟩ Tryz.underlying39 Tryz.underlying125 hj (by rw [hjs]; decide) hsh (Nat.zero_lt_succ 1)]
  simp only [Result.andThen]
  rw [Oper.upon_value]
  go_wp2
  rw [run_callFunc_extern Tryz.func112 (by kernel_rfl) (by kernel_rfl) (by kernel_rfl) (e := Extern.AbiNoEscape.same) (by kernel_rfl)]
  rw [Lib.run_noEscape]
  simp only [Result.andThen]
  rw [Oper.upon_value]
  go_wp2
  rw [Lib.run_from_unsafe w ⟨b, 0, none⟩ Tryz.underlying125 Tryz.underlying39 hj hsh (by kernel_rfl)]
  simp only [Result.andThen]
  rw [Oper.upon_value]
  go_wp2
  go_end0
  exact ⟨rfl, rfl⟩
/-- A builder, whether it was written or not. -/
abbrev IsW (B b : Nat) (bs : List Value) (w : World) : Prop := Lib.IsBuilderF 43 5 B b bs w
theorem wrCheck_any (B b : Nat) (bs : List Value) (w : World) (h : IsW B b bs w) :
    Calls Tryz.prog 93 #[.pointer (some ⟨b, 0, none⟩)] w fun e w' => e = .returned (.tuple #[]) ∧ Lib.BuilderAtF 43 5 B b (.pointer (some ⟨b, 0, none⟩)) bs w' ∧ Below B w w' ∧ KeptB b w w' := by
  rcases h with h | h
  · refine (wr_fresh b w h.cell0 h.shape h.frozen0).mono ?_
    rintro e w' ⟨rfl, rfl⟩
    exact ⟨rfl, h.used _, (Below.refl B w).setCell (p := ⟨b, 0, none⟩) h.1 _, (Lib.OthersKept.refl _ _ w).setCell ⟨b, 0, none⟩ rfl _⟩
  · refine (bld_used b w h.cell0).mono ?_
    rintro e w' ⟨rfl, rfl⟩
    exact ⟨rfl, h, Below.refl B _, Lib.OthersKept.refl _ _ _⟩
set_option maxHeartbeats 2000000 in
set_option maxRecDepth 100000 in
theorem wrString_any (B b : Nat) (bs : List Value) (s : ByteArray) (w : World) (h : IsW B b bs w) (hlen : bs.length + s.size ≤ 140737488355328) (hBw : B ≤ w.heap.size) :
    Calls Tryz.prog 76 #[.pointer (some ⟨b, 0, none⟩), .string s] w fun e w' => e = .returned (.tuple #[.int .i64 s.size, .nilIface]) ∧ IsW B b (bs ++ Lib.strCells s) w' ∧ Below B w w' ∧ KeptB b w w' := by
  obtain ⟨i0, hi, hz0, hz1, hz2⟩ := info_parts Tryz.Builder_Extra_169.infoByte
  have HC := hide (wrCheck_any B b bs w h)
  clear h
  go_enter Tryz.func76, Tryz.ntmps76
  go_wp2_with fail
  refine (unhide HC).mono ?_
  rintro e w1 ⟨rfl, h1, hb1, hk1⟩
  obtain ⟨hB, v, hbk, hown, hne⟩ := h1
  have c0 : w1.cell? ⟨b, 0, none⟩ = some (.pointer (some ⟨b, 0, none⟩)) := by rw [Lib.cell_of_heap hbk]; rfl
  have c1 : w1.cell? ⟨b, 1, none⟩ = some v := by rw [Lib.cell_of_heap hbk]; rfl
  go_wp2_with (at_builtin; refine Lib.wpList_append_own_stringF _ rfl _ _ 32 9 rfl B 5 i0 Tryz.underlying32 Tryz.underlying9 hi hz0 hz1 hz2 _ _ _ rfl hown s rfl ?c3 ?c4 ?c5 ?_)
  case c3 => unfold maxLen; omega
  case c4 => omega
  case c5 => have := hb1.size; omega
  intro v' w2 hown' hgrow _
  have hlt : b < w1.heap.size := (Array.getElem?_eq_some_iff.1 hbk).1
  have hb2 : w2.heap[b]? = some (.cells #[.pointer (some ⟨b, 0, none⟩), v] 43 (0, 0)) := by
    rw [hgrow.block b hlt (fun e => hne e.symm)]
    exact hbk
  have d0 : w2.cell? ⟨b, 0, none⟩ = some (.pointer (some ⟨b, 0, none⟩)) := by rw [Lib.cell_of_heap hb2]; rfl
  have d1 : w2.cell? ⟨b, 1, none⟩ = some v := by rw [Lib.cell_of_heap hb2]; rfl
  have f1 : w2.frozen? ⟨b, 1, none⟩ = false := Lib.frozen_of_heap hb2 1
  obtain ⟨ao, n', cap, rfl⟩ : ∃ ao n' cap, v' = .slice ao n' cap := by
    rcases hown'.2 with ⟨hv, _⟩ | ⟨g, cap, cur, fz, hv, _⟩
    · exact ⟨_, _, _, hv⟩
    · exact ⟨_, _, _, hv⟩
  go_wp2
  go_ret2
  refine ⟨rfl, .inr ?_, ?_, (hk1.grown hgrow (Lib.ownsRowF_kind hown)).setCell ⟨b, 1, none⟩ rfl _⟩
  · exact Lib.BuilderAtF.put (T := 43) (e := 5) hB hb2 (bs' := bs ++ Lib.strCells s) (by simpa [Lib.strCells_length] using hown') (by decide)
  · exact (hb1.grown hgrow (by have := hb1.size; omega) (fun k hk => (hown.lt k hk).1)).setCell (p := ⟨b, 1, none⟩) hB _
theorem IsW.parts {B b : Nat} {bs : List Value} {w : World} (h : IsW B b bs w) : ∃ p v, w.heap[b]? = some (.cells #[p, v] 43 (0, 0)) ∧ w.ownsRowF B 5 1 v bs.length bs ∧ B ≤ b := by
  rcases h with ⟨hB, v, hb, ho, _⟩ | ⟨hB, v, hb, ho, _⟩
  · exact ⟨_, v, hb, ho, hB⟩
  · exact ⟨_, v, hb, ho, hB⟩
set_option maxRecDepth 100000 in
theorem wrLen_any (B b : Nat) (bs : List Value) (w : World) (h : IsW B b bs w) :
    Calls Tryz.prog 16 #[.pointer (some ⟨b, 0, none⟩)] w fun e w' => e = .returned (.int .i64 bs.length) ∧ w' = w := by
  obtain ⟨p, v, hb, ho, _⟩ := h.parts
  have c1 : w.cell? ⟨b, 1, none⟩ = some v := by rw [Lib.cell_of_heap hb]; rfl
  obtain ⟨a, cap, rfl⟩ : ∃ a cap, v = .slice a bs.length cap := by
    rcases ho.2 with ⟨hv, h0⟩ | ⟨g, cap, cur, fz, hv, _⟩
    · rw [hv, h0]; exact ⟨_, _, rfl⟩
    · exact ⟨_, _, hv⟩
  clear h ho hb
  go_enter Tryz.func16, Tryz.ntmps16
  go_wp2
  go_ret
  exact ⟨rfl, rfl⟩
set_option maxRecDepth 100000 in
set_option maxHeartbeats 4000000 in
/-- String where the row is told: what its first byte's place is, what the string is. -/
theorem wrStr_of (b : Nat) (w : World) (B : Nat) (v : Value) (n : Nat) (q : Value) (s : ByteArray) (w1 w2 : World) (c1 : w.drew.cell? ⟨b, 1, none⟩ = some v) (c2 : w1.cell? ⟨b, 1, none⟩ = some v) (hv : ∃ a cap, v = .slice a n cap)
    (h1 : (Builtin.unsafeSliceData_ #[32] 64 #[v]).run Tryz.prog w.drew = .ok q w1) (h2 : (Builtin.unsafeString_ #[64, 3] 9 #[q, .int .i64 n]).run Tryz.prog w1 = .ok (.string s) w2) (hb : Below B w w2) :
    Calls Tryz.prog 17 #[.pointer (some ⟨b, 0, none⟩)] w fun e w' => e = .returned (.string s) ∧ Below B w w' := by
  obtain ⟨a, cap, rfl⟩ := hv
  have mixed := Tryz.lays169.mixed
  go_enter Tryz.func17, Tryz.ntmps17
  go_wp2
  go_region_o
  all_goals (go_wp2; go_ret; exact ⟨rfl, hb⟩)
theorem wrStr_any (B b : Nat) (l : List UInt8) (w : World) (h : IsW B b (Lib.byteCells l) w) (hBw : B ≤ w.heap.size) :
    Calls Tryz.prog 17 #[.pointer (some ⟨b, 0, none⟩)] w fun e w' => e = .returned (.string ⟨l.toArray⟩) ∧ Below B w w' := by
  obtain ⟨p, v, hb, ho, hB⟩ := h.parts
  have c1 : w.drew.cell? ⟨b, 1, none⟩ = some v := by rw [Lib.cell_of_heap (w := w.drew) hb]; rfl
  have hlt : b < w.heap.size := (Array.getElem?_eq_some_iff.1 hb).1
  rw [Lib.byteCells_length] at ho
  rcases ho.2 with ⟨hv, h0⟩ | ⟨g, cap, cur, fz, hv, hbg, hg, _, hnc, hcm, hcs, _⟩
  · have hl : l = [] := List.length_eq_zero_iff.1 h0
    subst hv hl
    exact wrStr_of b w B _ 0 (.pointer none) _ w.drew w.drew c1 c1 ⟨_, _, rfl⟩ rfl (Lib.run_unsafeString_none _ _ _ _ none) (Below.drew (Below.refl B w))
  · subst hv
    have hsh : w.drew.shape? g = some (5, cur.size) := by
      have hg' : w.drew.heap[g]? = some (.cells cur 5 fz) := hg
      simp [World.shape?, hg']
    by_cases hc0 : cap = 0
    · subst hc0
      have hl : l = [] := List.length_eq_zero_iff.1 (by omega)
      subst hl
      have c2 : (w.drew.alloc (.view ⟨g, 0, none⟩ 5)).cell? ⟨b, 1, none⟩ = some (.slice (some ⟨g, 0, none⟩) 0 0) := by
        rw [Lib.cell_of_heap (w := w.drew.alloc _) ((Lib.alloc_old w.drew _ b hlt).trans hb)]; rfl
      exact wrStr_of b w B _ 0 _ _ _ _ c1 c2 ⟨_, _, rfl⟩ (Lib.run_unsafeSliceData_zero w.drew _ _ _ Tryz.underlying64 ⟨g, 0, none⟩ 0 _ hsh) (Lib.run_unsafeString_none _ _ _ _ _) ((Below.drew (Below.refl B w)).alloc hBw _)
    · have hSD := Lib.run_unsafeSliceData_row (P := Tryz.prog) w.drew #[32] 64 ⟨g, 0, none⟩ l.length cap hc0
      by_cases hl : l = []
      · subst hl
        exact wrStr_of b w B _ 0 _ _ _ _ c1 c1 ⟨_, _, rfl⟩ hSD (Lib.run_unsafeString_none _ _ _ _ _) (Below.drew (Below.refl B w))
      · exact wrStr_of b w B _ l.length _ _ _ _ c1 c1 ⟨_, _, rfl⟩ hSD (Lib.run_unsafeString_row w.drew _ _ _ _ Tryz.underlying64 (by kernel_rfl) g cur.size hsh l hl (by omega) (by unfold maxLen at hcm; omega) (fun j x hx => ho.cells (g := g) rfl j (.int .u8 x.toNat) (by simp [Lib.byteCells, hx])))
          (Lib.below_freeze (Below.drew (Below.refl B w)) (p := ⟨g, 0, none⟩) hbg _)
/-- Strings as they are handed to put. -/
def StrsIn (w : World) (b : Nat) (a : Option Addr) (ps : List ByteArray) : Prop := ps ≠ [] → ∃ g o c T fz, a = some ⟨g, o, none⟩ ∧ w.heap[g]? = some (.cells c T fz) ∧ T ≠ 5 ∧ g ≠ b ∧ ∀ (i : Nat) (x : ByteArray), ps[i]? = some x → w.cell? ⟨g, o + i, none⟩ = some (.string x)
def flatB (ps : List ByteArray) : List UInt8 := ps.flatMap (·.data.toList)
structure PutSt (B b : Nat) (l : List UInt8) (ps : List ByteArray) (w : World) (k : Nat) (W : World) : Prop where
  le : k ≤ ps.length
  bld : IsW B b (Lib.byteCells (l ++ flatB (ps.take k))) W
  bel : Below B w W
  kept : KeptB b w W
theorem flatB_take {ps : List ByteArray} {k : Nat} {x : ByteArray} (h : ps[k]? = some x) : flatB (ps.take (k + 1)) = flatB (ps.take k) ++ x.data.toList := by
  obtain ⟨hk, he⟩ := List.getElem?_eq_some_iff.1 h
  unfold flatB
  rw [List.take_succ_eq_append_getElem hk, he, List.flatMap_append]
  simp
theorem flatB_le {ps : List ByteArray} {k : Nat} {x : ByteArray} (h : ps[k]? = some x) : (flatB (ps.take k)).length + x.size ≤ (flatB ps).length := by
  have h1 : flatB ps = flatB (ps.take (k + 1)) ++ flatB (ps.drop (k + 1)) := by
    unfold flatB
    rw [← List.flatMap_append, List.take_append_drop]
  rw [h1, flatB_take h, List.length_append, List.length_append]
  have : x.data.toList.length = x.size := rfl
  omega
theorem wput1_any (B b : Nat) (l : List UInt8) (s : ByteArray) (W : World) (h : IsW B b (Lib.byteCells l) W) (hl : l.length + s.size ≤ 140737488355328) (hB : B ≤ W.heap.size) :
    Calls Tryz.prog 76 #[.pointer (some ⟨b, 0, none⟩), .string s] W fun e w' => e = .returned (.tuple #[.int .i64 s.size, .nilIface]) ∧ IsW B b (Lib.byteCells (l ++ s.data.toList)) w' ∧ Below B W w' ∧ KeptB b W w' := by
  refine (wrString_any B b (Lib.byteCells l) s W h (by rw [Lib.byteCells_length]; exact hl) hB).mono ?_
  rintro e w' ⟨rfl, h1, h2, h3⟩
  refine ⟨rfl, ?_, h2, h3⟩
  rw [show Lib.byteCells (l ++ s.data.toList) = Lib.byteCells l ++ Lib.byteCells s.data.toList by unfold Lib.byteCells; rw [List.map_append]]
  exact h1
set_option maxRecDepth 100000 in
set_option maxHeartbeats 4000000 in
theorem wput_any (B b : Nat) (l : List UInt8) (ps : List ByteArray) (a : Option Addr) (cap : Nat) (w : World) (h : IsW B b (Lib.byteCells l) w) (hp : StrsIn w b a ps) (hn : ps.length ≤ 1000) (hl : l.length + (flatB ps).length ≤ 140737488355328) (hB : B ≤ w.heap.size) :
    Calls Tryz.prog 55 #[.pointer (some ⟨b, 0, none⟩), .slice a ps.length cap] w fun e w' => e = .returned (.tuple #[]) ∧ IsW B b (Lib.byteCells (l ++ flatB ps)) w' ∧ Below B w w' ∧ KeptB b w w' := by
  have HP := hide hp
  have HI0 : Hid (PutSt B b l ps w 0 w) := hide ⟨Nat.zero_le _, by rw [List.take_zero]; simpa [flatB] using h, Below.refl _ _, Lib.OthersKept.refl _ _ _⟩
  obtain ⟨N, hN⟩ : ∃ N, N = ps.length := ⟨_, rfl⟩
  have HN := hide hN
  rw [← hN]
  clear hp h hN
  go_enter Tryz.func55, Tryz.ntmps55
  go_wp2_with fail
  go_loopw [8] (fun i wr => ∃ k : Nat, i = .int .i64 (k : Nat) ∧ Hid (PutSt B b l ps w k wr)) (fun i _ => N - (intOf i).toNat)
  case atStart => exact ⟨0, rfl, HI0⟩
  case round =>
    clear HI0
    obtain ⟨k, rfl, hI⟩ := hrel
    by_cases hlt : k < N
    · obtain ⟨x, hx⟩ : ∃ x, ps[k]? = some x := ⟨ps[k]'(by rw [← unhide HN]; exact hlt), List.getElem?_eq_getElem _⟩
      obtain ⟨g, o, c, T, fz, rfl, hg, hT, hgb, hc⟩ := unhide HP (fun e => by rw [e] at hx; cases hx)
      have hgk : wr.heap[g]? = some (.cells c T fz) := (unhide hI).kept g _ hg (fun e => hgb (Option.some.inj e)) (fun c' fz' e => hT (by cases e; rfl))
      have hck : wr.cell? ⟨g, o + k, none⟩ = some (.string x) := by
        have h0 := hc k x hx
        rw [Lib.cell_of_heap hg] at h0
        rw [Lib.cell_of_heap hgk]
        exact h0
      have hlen : (l ++ flatB (ps.take k)).length + x.size ≤ 140737488355328 := by
        have := flatB_le hx
        rw [List.length_append]
        omega
      have HW := hide (wput1_any B b _ x wr (unhide hI).bld hlen (Nat.le_trans hB (unhide hI).bel.size))
      have HX := hide hx
      have n1 : (0 : Int) ≤ (k : Int) := by omega
      have n2 : (k : Int) < (N : Int) := by omega
      have n3 : (N : Int) ≤ 1000 := by have := unhide HN; omega
      clear hc hg hT hgb hgk hlen hx
      go_wp2_with fail
      refine (unhide HW).mono ?_
      rintro e w1 ⟨rfl, hbd, hb1, hk1⟩
      have HI1 : Hid (PutSt B b l ps w (k + 1) w1) := hide ⟨by have := unhide HN; omega, by rw [flatB_take (unhide HX), ← List.append_assoc]; exact hbd, (unhide hI).bel.trans hb1, (unhide hI).kept.trans hk1⟩
      clear hbd
      go_wp2_with fail
      refine ⟨⟨k + 1, rfl, HI1⟩, by simp [intOf]; omega⟩
    · have n2 : ¬ (k : Int) < (N : Int) := by omega
      have HE := hI
      have hk : k = ps.length := by have := (unhide hI).le; have := unhide HN; omega
      have HK := hide hk
      clear hk hI
      go_wp2_with fail
      go_end0
      have hE := unhide HE
      rw [unhide HK] at hE
      have hbd := hE.bld
      rw [List.take_length] at hbd
      exact ⟨rfl, hbd, hE.bel, hE.kept⟩
end Go.Proofs.YtmemcabipcccaaaGreatDoor
/- What xout's writer writes of a token: plain, instruction, attribute, htmlAttribute, tag, common, xml, html. -/
namespace Go.Proofs.YtmemcabipcccaaaGreatDoor
open Go.RowKit
def plainO (t : BTok) : List UInt8 := if t.kind = 4 then t.text.data.toList else []
theorem IsW.lt {B b : Nat} {bs : List Value} {w : World} (h : IsW B b bs w) : b < w.heap.size := by
  obtain ⟨p, v, hb, _, _⟩ := h.parts
  exact (Array.getElem?_eq_some_iff.1 hb).1
/-- What the writer was, it is, where blocks were only added. -/
theorem IsW.more {B b : Nat} {bs : List Value} {w W : World} (h : IsW B b bs w) (hb : Below w.heap.size w W) : IsW B b bs W := Lib.IsBuilderF.below h hb
theorem keptB_below {b : Nat} {w W : World} (hb : Below w.heap.size w W) : KeptB b w W := fun k o hk _ _ => by
  rw [hb.block k (Array.getElem?_eq_some_iff.1 hk).1]
  exact hk
/-- What a call that writes to the writer leaves. -/
structure WOut (B b : Nat) (l : List UInt8) (w W : World) : Prop where
  bld : IsW B b (Lib.byteCells l) W
  bel : Below B w W
  kept : KeptB b w W
theorem WOut.start {B b : Nat} {l : List UInt8} {w W : World} (h : IsW B b (Lib.byteCells l) w) (hB : B ≤ w.heap.size) (hb : Below w.heap.size w W) : WOut B b l w W := ⟨h.more hb, hb.mono hB, keptB_below hb⟩
theorem WOut.more {B b : Nat} {l : List UInt8} {w W W' : World} (h : WOut B b l w W) (hB : B ≤ w.heap.size) (hb : Below W.heap.size W W') : WOut B b l w W' := ⟨h.bld.more hb, h.bel.trans (hb.mono (Nat.le_trans hB h.bel.size)), h.kept.trans (keptB_below hb)⟩
theorem WOut.next {B b : Nat} {l l' : List UInt8} {w W W' : World} (h : WOut B b l w W) (h' : WOut B b l' W W') : WOut B b l' w W' := ⟨h'.bld, h.bel.trans h'.bel, h.kept.trans h'.kept⟩
theorem strs_cell (W : World) (ps : List ByteArray) (T : TypeId) (i : Nat) (x : ByteArray) (h : ps[i]? = some x) : (W.alloc (.cells (ps.map Value.string).toArray T)).cell? ⟨W.heap.size, 0 + i, none⟩ = some (.string x) := by
  rw [Lib.cell_of_heap (alloc_newO W _), Nat.zero_add]
  simp [h]
/-- put, of strings that are laid there for it. -/
theorem put_fresh (B b : Nat) (l : List UInt8) (w W : World) (ps : List ByteArray) (g : Nat) (hg : g = W.heap.size) (h : WOut B b l w W) (hn : ps.length ≤ 1000) (hl : l.length + (flatB ps).length ≤ 140737488355328) (hB : B ≤ w.heap.size) :
    Calls Tryz.prog 55 #[.pointer (some ⟨b, 0, none⟩), .slice (some ⟨g, 0, none⟩) ps.length ps.length] (W.alloc (.cells (ps.map Value.string).toArray 9)) fun e w' => e = .returned (.tuple #[]) ∧ WOut B b (l ++ flatB ps) w w' := by
  subst hg
  have hbA : Below W.heap.size W (W.alloc (.cells (ps.map Value.string).toArray 9)) := (Below.refl _ _).alloc (Nat.le_refl _) _
  have hlt := h.bld.lt
  have hO := h.more hB hbA
  refine (wput_any B b l ps _ _ _ hO.bld (fun _ => ⟨_, _, _, _, _, rfl, alloc_newO W _, (by decide), (by omega), fun i x hx => strs_cell W ps _ i x hx⟩) hn hl (Nat.le_trans hB hO.bel.size)).mono ?_
  rintro e w' ⟨rfl, h1, h2, h3⟩
  exact ⟨rfl, hO.next ⟨h1, h2, h3⟩⟩
set_option maxRecDepth 100000 in
set_option maxHeartbeats 4000000 in
theorem wPlain_any (B b : Nat) (l : List UInt8) (t : BTok) (u : Pl) (a : BTok) (ua : Pl) (c : BTok) (uc : Pl) (w : World) (h : IsW B b (Lib.byteCells l) w) (hl : l.length + t.text.size ≤ 140737488355328) (hB : B ≤ w.heap.size) :
    Calls Tryz.prog 32 #[.pointer (some ⟨b, 0, none⟩), spotCs t u a ua c uc] w fun e w' => e = .returned (.tuple #[]) ∧ WOut B b (l ++ plainO t) w w' := by
  have HW := hide h
  unfold spotCs
  by_cases h4 : t.kind = 4
  · have hp : plainO t = t.text.data.toList := by unfold plainO; rw [if_pos h4]
    rw [hp, h4]
    clear h hp
    go_enter Tryz.func32, Tryz.ntmps32
    go_wp2_with fail
    refine (put_fresh B b l w _ [t.text] (w.heap.size + 1) (by simp) (WOut.start (unhide HW) hB ((Below.refl _ _).alloc (Nat.le_refl _) _)) (by simp) (by simpa [flatB] using hl) hB).mono ?_
    rintro e w1 ⟨rfl, hO⟩
    go_wp2_with fail
    go_end0
    exact ⟨rfl, by simpa [flatB] using hO⟩
  · have hp : plainO t = [] := by unfold plainO; rw [if_neg h4]
    rw [hp, List.append_nil]
    clear h hp
    go_enter Tryz.func32, Tryz.ntmps32
    go_wp2_with fail
    go_end0
    exact ⟨rfl, WOut.start (unhide HW) hB ((Below.refl _ _).alloc (Nat.le_refl _) _)⟩
def tokVs (t : BTok) (u : Pl) : Value := .agg #[.int .i64 t.kind, .string t.name, .slice u.1 t.attrs.length u.2, .string t.text]
def piS : ByteArray := ⟨#[60, 63]⟩
def spS : ByteArray := ⟨#[32]⟩
def instrO (t : BTok) (last : ByteArray) : List UInt8 := 60 :: 63 :: (t.name.data.toList ++ ((if t.text.toList.isEmpty then [] else 32 :: t.text.data.toList) ++ last.data.toList))
theorem WOut.blk {B b : Nat} {l : List UInt8} {w W : World} (h : WOut B b l w W) {g : Nat} {c : Array Value} {T : TypeId} {fz : Nat × Nat} (hb : w.heap[g]? = some (.cells c T fz)) (hT : T ≠ 5) (hg : g ≠ b) : W.heap[g]? = some (.cells c T fz) :=
  h.kept g _ hb (fun e => hg (Option.some.inj e)) (fun c' fz' e => hT (by cases e; rfl))
set_option maxRecDepth 100000 in
set_option maxHeartbeats 4000000 in
theorem wInstr_any (B b : Nat) (l : List UInt8) (t : BTok) (u : Pl) (last : ByteArray) (w : World) (h : IsW B b (Lib.byteCells l) w) (hl : l.length + t.name.size + t.text.size + last.size + 10 ≤ 140737488355328) (hB : B ≤ w.heap.size) :
    Calls Tryz.prog 56 #[.pointer (some ⟨b, 0, none⟩), tokVs t u, .string last] w fun e w' => e = .returned (.tuple #[]) ∧ WOut B b (l ++ instrO t last) w w' := by
  have hn1 : t.name.data.toList.length = t.name.size := rfl
  have hn2 : t.text.data.toList.length = t.text.size := rfl
  have hn3 : last.data.toList.length = last.size := rfl
  have hblt : w.heap.size ≠ b := by have := h.lt; omega
  obtain ⟨W0, hW0⟩ : ∃ W0, W0 = w.alloc (.cells #[.int .i64 t.kind, .string t.name, .slice u.1 t.attrs.length u.2, .string t.text] 53) := ⟨_, rfl⟩
  have hO0 : WOut B b l w W0 := WOut.start h hB (by rw [hW0]; exact (Below.refl _ _).alloc (Nat.le_refl _) _)
  have HB0 : Hid (W0.heap[w.heap.size]? = some (.cells #[.int .i64 t.kind, .string t.name, .slice u.1 t.attrs.length u.2, .string t.text] 53 (0, 0))) := hide (by rw [hW0]; exact alloc_newO _ _)
  have hs0 : w.heap.size + 1 = W0.heap.size := by rw [hW0]; simp
  have hBW0 : B ≤ W0.heap.size := by omega
  have HC1 : Hid (Calls Tryz.prog 55 #[.pointer (some ⟨b, 0, none⟩), .slice (some ⟨w.heap.size + 1, 0, none⟩) 2 2] (W0.alloc (.cells #[.string ⟨#[60, 63]⟩, .string t.name] 9)) fun e w' => e = .returned (.tuple #[]) ∧ WOut B b (l ++ flatB [piS, t.name]) W0 w') :=
    hide (put_fresh B b l W0 W0 [piS, t.name] _ hs0 (WOut.start hO0.bld hBW0 (Below.refl _ _)) (by simp) (by simp [flatB, piS]; omega) hBW0)
  have HO0 := hide hO0
  have HBW := hide hBW0
  clear hO0 hs0 hBW0
  subst hW0
  unfold tokVs
  have HL := hide hl
  clear hl hn1 hn2 hn3 h
  cases h4 : t.text.toList.isEmpty with
  | true =>
    have hp : instrO t last = flatB [piS, t.name] ++ flatB [last] := by unfold instrO; rw [h4, if_pos rfl]; simp [flatB, piS]
    rw [hp]
    clear hp
    go_enter Tryz.func56, Tryz.ntmps56
    go_wp2_with fail
    refine (unhide HC1).mono ?_
    rintro e w1 ⟨rfl, hO⟩
    have hk1 := hO.blk (unhide HB0) (by decide) hblt
    have c3 : w1.cell? ⟨w.heap.size, 3, none⟩ = some (.string t.text) := by rw [Lib.cell_of_heap hk1]; rfl
    clear hk1
    go_wp2_with fail
    refine (put_fresh B b _ _ w1 [last] _ rfl hO (by simp) (by have := unhide HL; simp [flatB, piS]; omega) (unhide HBW)).mono ?_
    rintro e w2 ⟨rfl, hO2⟩
    go_wp2_with fail
    go_end0
    rw [← List.append_assoc]
    exact ⟨rfl, (unhide HO0).next hO2⟩
  | false =>
    have hp : instrO t last = flatB [piS, t.name] ++ (flatB [spS, t.text] ++ flatB [last]) := by unfold instrO; rw [h4]; simp [flatB, piS, spS]
    rw [hp]
    clear hp
    go_enter Tryz.func56, Tryz.ntmps56
    go_wp2_with fail
    refine (unhide HC1).mono ?_
    rintro e w1 ⟨rfl, hO⟩
    have hk1 := hO.blk (unhide HB0) (by decide) hblt
    have c3 : w1.cell? ⟨w.heap.size, 3, none⟩ = some (.string t.text) := by rw [Lib.cell_of_heap hk1]; rfl
    clear hk1
    go_wp2_with fail
    refine (put_fresh B b _ _ w1 [spS, t.text] _ rfl hO (by simp) (by have := unhide HL; simp [flatB, piS, spS]; omega) (unhide HBW)).mono ?_
    rintro e w2 ⟨rfl, hO2⟩
    go_wp2_with fail
    refine (put_fresh B b _ _ w2 [last] _ rfl hO2 (by simp) (by have := unhide HL; simp [flatB, piS, spS]; omega) (unhide HBW)).mono ?_
    rintro e w3 ⟨rfl, hO3⟩
    go_wp2_with fail
    go_end0
    rw [← List.append_assoc, ← List.append_assoc]
    exact ⟨rfl, (unhide HO0).next hO3⟩
end Go.Proofs.YtmemcabipcccaaaGreatDoor
/- What xout's writer writes of an attribute, a tag. -/
namespace Go.Proofs.YtmemcabipcccaaaGreatDoor
open Go.RowKit
def eqS : ByteArray := ⟨#[61, 34]⟩
def qtS : ByteArray := ⟨#[34]⟩
set_option maxRecDepth 100000 in
set_option maxHeartbeats 4000000 in
theorem wAttr_any (B b : Nat) (l : List UInt8) (x : ByteArray × ByteArray) (w : World) (h : IsW B b (Lib.byteCells l) w) (hx : x.1.size ≤ 1048576 ∧ x.2.size ≤ 1048576) (hl : l.length ≤ 100000000000000) (hB : B ≤ w.heap.size) :
    Calls Tryz.prog 60 #[.pointer (some ⟨b, 0, none⟩), .agg #[.string x.1, .string x.2]] w fun e w' => e = .returned (.tuple #[]) ∧ WOut B b (l ++ attrB x) w w' := by
  have HQ := hide (fun W => xQuote_any x.2 W hx.2)
  have HO0 : Hid (WOut B b l w (w.alloc (.cells #[.string x.1, .string x.2] 72)).drew) := hide (WOut.start h hB (((Below.refl _ _).alloc (Nat.le_refl _) _).drew))
  have HC0 : Hid ((w.alloc (.cells #[.string x.1, .string x.2] 72)).drew.cell? ⟨w.heap.size, 0, none⟩ = some (.string x.1)) := hide (by simp [go_sem])
  have HX : Hid (l ++ flatB [spS, x.1, eqS, ⟨(mapO quoO x.2.data.toList).toArray⟩, qtS] = l ++ attrB x) := hide (by simp [flatB, spS, eqS, qtS, attrB])
  have HL : Hid (l.length + (flatB [spS, x.1, eqS, ⟨(mapO quoO x.2.data.toList).toArray⟩, qtS]).length ≤ 140737488355328) := hide (by
    have h1 := mapO_len quo_few x.2.data.toList
    have e1 : x.1.data.toList.length = x.1.size := rfl
    have e2 : x.2.data.toList.length = x.2.size := rfl
    simp [flatB, spS, eqS, qtS]
    simp at h1 e1 e2
    omega)
  clear h hx
  go_enter Tryz.func60, Tryz.ntmps60
  go_wp2_with fail
  go_region_with (first
    | (go_at_call 79; refine (unhide HQ _).mono ?_; rintro e w1 ⟨rfl, hb1⟩; have k0 := keptC hb1 (unhide HC0))
    | (go_at_call 55; refine (put_fresh B b l w w1 [spS, x.1, eqS, ⟨(mapO quoO x.2.data.toList).toArray⟩, qtS] _ rfl ((unhide HO0).more hB hb1) (by simp) (unhide HL) hB).mono ?_; rintro e w2 ⟨rfl, hO2⟩))
  all_goals (try go_wp2_with fail)
  all_goals (go_end0; rw [unhide HX] at hO2; exact ⟨rfl, hO2⟩)
end Go.Proofs.YtmemcabipcccaaaGreatDoor
/- What xout's writer writes of a tag. -/
namespace Go.Proofs.YtmemcabipcccaaaGreatDoor
open Go.RowKit
def ltS : ByteArray := ⟨#[60]⟩
structure TagXSt (w0 w : World) (b : Nat) (l : List UInt8) (a : List (ByteArray × ByteArray)) (k : Nat) (W : World) : Prop where
  le : k ≤ a.length
  out : WOut w0.heap.size b (l ++ (a.take k).flatMap attrB) w W
theorem TagX_take {a : List (ByteArray × ByteArray)} {k : Nat} {x : ByteArray × ByteArray} (h : a[k]? = some x) : (a.take (k + 1)).flatMap attrB = (a.take k).flatMap attrB ++ attrB x := by
  obtain ⟨hk, he⟩ := List.getElem?_eq_some_iff.1 h
  rw [List.take_succ_eq_append_getElem hk, he, List.flatMap_append]
  simp
theorem TagX_len : ∀ {a : List (ByteArray × ByteArray)}, (∀ x ∈ a, x.1.size ≤ 1048576 ∧ x.2.size ≤ 1048576) → (a.flatMap attrB).length ≤ a.length * 7340036
  | [], _ => Nat.le_refl _
  | x :: a, h => by
    have h1 := attrB_len (h x (List.mem_cons_self ..))
    have h2 := TagX_len (fun y hy => h y (List.mem_cons_of_mem _ hy))
    rw [List.flatMap_cons, List.length_append, List.length_cons]
    omega
set_option maxRecDepth 100000 in
set_option maxHeartbeats 8000000 in
theorem wTagX_any (w0 : World) (b : Nat) (l : List UInt8) (t : BTok) (u : Pl) (last : ByteArray) (w : World) (hv : PairsArg w0 (.slice u.1 t.attrs.length u.2) t.attrs) (hb : Below w0.heap.size w0 w) (h : IsW w0.heap.size b (Lib.byteCells l) w) (hs : Small t) (hlast : last.size ≤ 100) (hz : l.length ≤ 80000000000000) :
    Calls Tryz.prog 59 #[.pointer (some ⟨b, 0, none⟩), tokVs t u, .func (.func 60) #[.pointer (some ⟨b, 0, none⟩)] #[], .string last] w fun e w' => e = .returned (.tuple #[]) ∧ WOut w0.heap.size b (l ++ (60 :: (t.name.data.toList ++ (t.attrs.flatMap attrB ++ last.data.toList)))) w w' := by
  obtain ⟨ua, uc⟩ := u
  simp only at hv
  have hB := hb.size
  have hn1 : t.name.data.toList.length = t.name.size := rfl
  have hn2 := hs.n
  have hn3 : last.data.toList.length = last.size := rfl
  have hblt : w.heap.size ≠ b := by have := h.lt; omega
  obtain ⟨W0, hW0⟩ : ∃ W0, W0 = w.alloc (.cells #[.int .i64 t.kind, .string t.name, .slice ua t.attrs.length uc, .string t.text] 53) := ⟨_, rfl⟩
  have hO0 : WOut w0.heap.size b l w W0 := WOut.start h hB (by rw [hW0]; exact (Below.refl _ _).alloc (Nat.le_refl _) _)
  have HB0 : Hid (W0.heap[w.heap.size]? = some (.cells #[.int .i64 t.kind, .string t.name, .slice ua t.attrs.length uc, .string t.text] 53 (0, 0))) := hide (by rw [hW0]; exact alloc_newO _ _)
  have hs0 : w.heap.size + 1 = W0.heap.size := by rw [hW0]; simp
  have hBW0 : w0.heap.size ≤ W0.heap.size := by omega
  have HC1 : Hid (Calls Tryz.prog 55 #[.pointer (some ⟨b, 0, none⟩), .slice (some ⟨w.heap.size + 1, 0, none⟩) 2 2] (W0.alloc (.cells #[.string ⟨#[60]⟩, .string t.name] 9)) fun e w' => e = .returned (.tuple #[]) ∧ WOut w0.heap.size b (l ++ flatB [ltS, t.name]) W0 w') :=
    hide (put_fresh w0.heap.size b l W0 W0 [ltS, t.name] _ hs0 (WOut.start hO0.bld hBW0 (Below.refl _ _)) (by simp) (by simp [flatB, ltS]; omega) hBW0)
  have HO0 := hide hO0
  have HS := hide hs
  have HV := hide hv
  have HB := hide hb
  have HLT : Hid (l ++ (60 :: (t.name.data.toList ++ (t.attrs.flatMap attrB ++ last.data.toList))) = (l ++ flatB [ltS, t.name]) ++ t.attrs.flatMap attrB ++ flatB [last]) := hide (by simp [flatB, ltS])
  have HPL : Hid ((l ++ flatB [ltS, t.name]).length ≤ 80000001048580) := hide (by simp [flatB, ltS]; omega)
  rw [unhide HLT]
  generalize hPQ : l ++ flatB [ltS, t.name] = P at *
  have HLA : Hid (last.size ≤ 100) := hide hlast
  clear hO0 hs0 hBW0 h hs hv hb hn1 hn2 hn3 hPQ HLT hlast
  subst hW0
  unfold tokVs
  go_enter Tryz.func59, Tryz.ntmps59
  go_wp2_with fail
  refine (unhide HC1).mono ?_
  rintro e w1 ⟨rfl, hO⟩
  have hk1 := hO.blk (unhide HB0) (by decide) hblt
  have c2 : w1.cell? ⟨w.heap.size, 2, none⟩ = some (.slice ua t.attrs.length uc) := by rw [Lib.cell_of_heap hk1]; rfl
  have HI0 : Hid (TagXSt w0 w b P t.attrs 0 w1) := hide ⟨Nat.zero_le _, by simpa using (unhide HO0).next hO⟩
  clear hk1 hO HC1 HB0 HO0
  obtain ⟨N, hN⟩ : ∃ N, N = t.attrs.length := ⟨_, rfl⟩
  have HN := hide hN
  rw [← hN] at c2 ⊢
  clear hN
  go_wp2_with fail
  go_loopw [18] (fun i wr => ∃ k : Nat, i = .int .i64 (k : Nat) ∧ Hid (TagXSt w0 w b P t.attrs k wr)) (fun i _ => N - (intOf i).toNat)
  case atStart => exact ⟨0, rfl, HI0⟩
  case round =>
    clear HI0 c2
    obtain ⟨k, rfl, hI⟩ := hrel
    have hsm := unhide HS
    have hNb : (N : Int) ≤ 1048576 := by have := unhide HN; have := hsm.l; omega
    by_cases hlt : k < N
    · obtain ⟨x, hx⟩ : ∃ x, t.attrs[k]? = some x := ⟨t.attrs[k]'(by rw [← unhide HN]; exact hlt), List.getElem?_eq_getElem _⟩
      obtain ⟨a', cap', e0, hc⟩ := unhide HV
      cases e0
      obtain ⟨g, o, rfl, hcc⟩ := hc (fun e => by rw [e] at hx; cases hx)
      have hbr : Below w0.heap.size w0 wr := (unhide HB).trans (unhide hI).out.bel
      obtain ⟨d0, d1⟩ := hcc k x hx
      have d0 := keptC hbr d0
      have d1 := keptC hbr d1
      have hxs := hsm.a x (List.mem_of_getElem? hx)
      have hbA : Below wr.heap.size wr (wr.alloc (.cells #[.string x.1, .string x.2] 72)) := (Below.refl _ _).alloc (Nat.le_refl _) _
      have hBr := Nat.le_trans hB (unhide hI).out.bel.size
      have hlen : (P ++ (t.attrs.take k).flatMap attrB).length ≤ 100000000000000 := by
        have h1 := TagX_len (a := t.attrs.take k) (fun y hy => hsm.a y (List.mem_of_mem_take hy))
        have h2 := unhide HPL
        have h3 := hsm.l
        rw [List.length_take] at h1
        rw [List.length_append]
        have h4 : min k t.attrs.length * 7340036 ≤ 1048576 * 7340036 := Nat.mul_le_mul_right _ (Nat.le_trans (Nat.min_le_right _ _) h3)
        omega
      have HAC := hide (wAttr_any w0.heap.size b _ x (wr.alloc (.cells #[.string x.1, .string x.2] 72)) ((unhide hI).out.bld.more hbA) hxs hlen (Nat.le_trans hBr hbA.size))
      have HOA := hide ((unhide hI).out.more hB hbA)
      have HX := hide hx
      have n1 : (0 : Int) ≤ (k : Int) := by omega
      have n2 : (k : Int) < (N : Int) := by omega
      clear hc hcc hbr hx hxs hbA hlen hsm hI
      go_wp2_with fail
      refine (unhide HAC).mono ?_
      rintro e w3 ⟨rfl, hO3⟩
      have HI1 : Hid (TagXSt w0 w b P t.attrs (k + 1) w3) := hide ⟨by have := unhide HN; omega, by rw [TagX_take (unhide HX), ← List.append_assoc]; exact (unhide HOA).next hO3⟩
      clear hO3
      go_wp2_with fail
      exact ⟨⟨k + 1, rfl, HI1⟩, by simp [intOf]; omega⟩
    · have n2 : ¬ (k : Int) < (N : Int) := by omega
      have hk : k = t.attrs.length := by have := (unhide hI).le; have := unhide HN; omega
      have hE := (unhide hI).out
      rw [hk, List.take_length] at hE
      have HE := hide hE
      have hlen : (P ++ t.attrs.flatMap attrB).length + (flatB [last]).length ≤ 140737488355328 := by
        have h1 := TagX_len (a := t.attrs) hsm.a
        have h2 := unhide HPL
        have h3 := hsm.l
        have h4 := unhide HLA
        have h5 : (flatB [last]).length = last.size := by simp [flatB]
        rw [List.length_append, h5]
        omega
      have HLN := hide hlen
      clear hk hE hI hsm hlen
      go_wp2_with fail
      refine (put_fresh w0.heap.size b _ w wr [last] _ rfl (unhide HE) (by simp) (unhide HLN) hB).mono ?_
      rintro e w4 ⟨rfl, hO4⟩
      go_wp2_with fail
      go_end0
      exact ⟨rfl, hO4⟩
end Go.Proofs.YtmemcabipcccaaaGreatDoor
