/- From what TopSpaced's and TopWithin's rows list of the library's, xplex's and xparse's tables, and from the world's shape, to what the walks ask. -/
import Derived.Test.YtnmcambbpgoodaaGreatDoorParG
import Derived.Deep.Strs
import Derived.Lib.LaidU8
import Derived.HandedShaped
import Derived.WalkKit
import Derived.ProofKit
import Derived.OpenShut
import Derived.ShutString
import Derived.Deep.DeepHandedRow
import Derived.Lib.LaidTab
namespace Go.Proofs.YtnmcambbpgoodaaGreatDoor
open Go.ChangeShapes Go.WideShapes Go.ChangeAt Go.RowKit
theorem u8extra : U8Extra Tryz.prog Tryz.lays260_ren where
  n3 := by kernel_rfl
  n4 := by kernel_rfl
  y3 := by kernel_rfl
  y4 := by kernel_rfl
  c5 := by kernel_rfl
  c119 := by kernel_rfl
  c138 := by kernel_rfl
theorem first_data : Rows.laid_unicode_utf8_first = Lib.firstData := by kernel_rfl
theorem accept_data : Rows.laid_unicode_utf8_acceptRanges = Lib.acceptData := by kernel_rfl
theorem signs_data : Rows.laid_stencil_xplex_signs = (.agg (signL.map fun x => .agg [.lit (.int .i64 (x.1 : Nat)), .lit (.string (tx x.2)), .lit (.int .i64 0)]) : DataW Unit) := by kernel_rfl
theorem cellsKind : Tryz.prog.cellsOf 46 = 1 := by kernel_rfl
theorem cellsString : Tryz.prog.cellsOf 9 = 1 := by kernel_rfl
theorem cellsInt : Tryz.prog.cellsOf 3 = 1 := by kernel_rfl
theorem cellsLex : Tryz.prog.cellsOf 48 = 3 := by kernel_rfl
theorem lex_trod {w : World} {fuel : Nat} {cs : List Value} {k a : Int} {s : List UInt8} {q : List MemPlace}
    (h : DataW.trod (fun _ => ()) Tryz.prog w 0 (fun _ => true) false fuel 48 cs = some (.agg [.lit (.int .i64 k), .lit (.string s), .lit (.int .i64 a)], q)) : cs = [.int .i64 k, .string ⟨s.toArray⟩, .int .i64 a] := by
  obtain ⟨y0, y1, y2, n, hx, hl, h0, h1, h2⟩ := Deep.trod_struct3 Tryz.underlying48 h
  rw [cellsLex] at hl
  simp only [cellsKind, cellsString, cellsInt] at h0 h1 h2
  obtain ⟨z0, e0, rfl, _⟩ := DataW.trod_int Tryz.underlying46 h0
  obtain ⟨z1, e1, rfl, _⟩ := DataW.trod_string Tryz.underlying9 h1
  obtain ⟨z2, e2, rfl, _⟩ := DataW.trod_int Tryz.underlying3 h2
  match cs, hl with
  | [v0, v1, v2], _ =>
    simp at e0 e1 e2
    simp at hx
    obtain ⟨⟨rfl, rfl, rfl⟩, _⟩ := hx
    subst e0 e1 e2
    rfl
theorem signs_of_reads {w : World} (h : Lib.VarReads Tryz.prog w "stencil/xplex.signs" (.agg (signL.map fun x => .agg [.lit (.int .i64 (x.1 : Nat)), .lit (.string (tx x.2)), .lit (.int .i64 0)]))) : w.rangeAt 0 0 signCells := by
  obtain ⟨g, t, cs, fuel, p, hg, hty, hvar, hd⟩ := h
  obtain rfl := Option.some.inj ((show Tryz.prog.globalNamed "stencil/xplex.signs" = some 0 by kernel_rfl).symm.trans hg)
  obtain rfl := Option.some.inj ((show (Tryz.prog.globals[0]?).map (·.type) = some 71 by kernel_rfl).symm.trans hty)
  have key : ∀ i, i < 20 → ((cs.toList.drop (i * 3)).take 3) = [.int .i64 ((signAt i).1 : Nat), .string (T (signAt i).2), .int .i64 0] := by
    intro i hi
    obtain ⟨fuel', d, q, hdi, he⟩ := Lib.array_elem Tryz.underlying71 hd i hi
    rw [cellsLex] at he
    rw [List.getElem?_map, List.getElem?_eq_getElem (by rw [sign_len]; exact hi), sign_get hi] at hdi
    simp only [Option.map_some, Option.some.injEq] at hdi
    subst hdi
    exact lex_trod he
  intro j v hv
  have hj : j < 60 := by
    have h60 : signCells.length = 60 := by decide +kernel
    have := (List.getElem?_eq_some_iff.1 hv).1
    omega
  rw [Nat.zero_add, World.var?_cell hg hvar j, ← Array.getElem?_toList]
  have hk := congrArg (·[j % 3]?) (key (j / 3) (by omega))
  simp only [List.getElem?_take, List.getElem?_drop] at hk
  rw [if_pos (by omega), show j / 3 * 3 + j % 3 = j by omega] at hk
  rw [hk]
  have hs : ∀ i, i < 20 → ∀ r, r < 3 → ([.int .i64 ((signAt i).1 : Nat), .string (T (signAt i).2), .int .i64 0] : List Value)[r]? = signCells[i * 3 + r]? := by
    intro i hi r hr
    rcases (show i = 0 ∨ i = 1 ∨ i = 2 ∨ i = 3 ∨ i = 4 ∨ i = 5 ∨ i = 6 ∨ i = 7 ∨ i = 8 ∨ i = 9 ∨ i = 10 ∨ i = 11 ∨ i = 12 ∨ i = 13 ∨ i = 14 ∨ i = 15 ∨ i = 16 ∨ i = 17 ∨ i = 18 ∨ i = 19 by omega) with rfl | rfl | rfl | rfl | rfl | rfl | rfl | rfl | rfl | rfl | rfl | rfl | rfl | rfl | rfl | rfl | rfl | rfl | rfl | rfl <;> (rcases (show r = 0 ∨ r = 1 ∨ r = 2 by omega) with rfl | rfl | rfl <;> rfl)
  rw [hs (j / 3) (by omega) (j % 3) (by omega), show j / 3 * 3 + j % 3 = j by omega]
  exact hv
theorem str_trod {w : World} {fuel : Nat} {cs : List Value} {s : List UInt8} {q : List MemPlace}
    (h : DataW.trod (fun _ => ()) Tryz.prog w 0 (fun _ => true) false fuel 9 cs = some (.lit (.string s), q)) : cs = [.string ⟨s.toArray⟩] := by
  obtain ⟨z1, e1, e2, _⟩ := DataW.trod_string Tryz.underlying9 h
  rw [e1]
  simp at e2
  obtain ⟨rfl, _⟩ := e2
  rfl
theorem axAt_get : ∀ i, i < 12 → axisL[i]? = some (axAt i) := by decide
theorem tyAt_get : ∀ i, i < 4 → typeL[i]? = some (tyAt i) := by decide
theorem opAt_get : ∀ i, i < 14 → opTab[i]? = some (opAt i) := by decide
theorem axes_data : Rows.laid_stencil_xparse_axes = (.agg (axisL.map fun x => .lit (.string (tx x))) : DataW Unit) := by kernel_rfl
theorem axes_of_reads {w : World} (h : Lib.VarReads Tryz.prog w "stencil/xparse.axes" (.agg (axisL.map fun x => .lit (.string (tx x))))) : w.rangeAt 6 0 axCells := by
  obtain ⟨g, t, cs, fuel, p, hg, hty, hvar, hd⟩ := h
  obtain rfl := Option.some.inj ((show Tryz.prog.globalNamed "stencil/xparse.axes" = some 6 by kernel_rfl).symm.trans hg)
  obtain rfl := Option.some.inj ((show (Tryz.prog.globals[6]?).map (·.type) = some 144 by kernel_rfl).symm.trans hty)
  have key : ∀ i, i < 12 → ((cs.toList.drop (i * 1)).take 1) = [.string (T (axAt i))] := by
    intro i hi
    obtain ⟨fuel', d, q, hdi, he⟩ := Lib.array_elem Tryz.underlying144 hd i hi
    rw [cellsString] at he
    rw [List.getElem?_map, axAt_get i hi] at hdi
    simp only [Option.map_some, Option.some.injEq] at hdi
    subst hdi
    exact str_trod he
  intro j v hv
  have hj : j < 12 := by
    have h60 : axCells.length = 12 := by decide
    have := (List.getElem?_eq_some_iff.1 hv).1
    omega
  rw [Nat.zero_add, World.var?_cell hg hvar j, ← Array.getElem?_toList]
  have hk := congrArg (·[0]?) (key j hj)
  simp only [List.getElem?_take, List.getElem?_drop] at hk
  rw [if_pos (by omega), Nat.mul_one, Nat.add_zero] at hk
  rw [hk]
  have hs : ∀ i, i < 12 → axCells[i]? = some (.string (T (axAt i))) := by
    intro i hi
    unfold axCells
    rw [List.getElem?_map, axAt_get i hi]
    rfl
  rw [hs j hj] at hv
  exact hv
theorem types_data : Rows.laid_stencil_xparse_types = (.agg (typeL.map fun x => .lit (.string (tx x))) : DataW Unit) := by kernel_rfl
theorem types_of_reads {w : World} (h : Lib.VarReads Tryz.prog w "stencil/xparse.types" (.agg (typeL.map fun x => .lit (.string (tx x))))) : w.rangeAt 5 0 tyCells := by
  obtain ⟨g, t, cs, fuel, p, hg, hty, hvar, hd⟩ := h
  obtain rfl := Option.some.inj ((show Tryz.prog.globalNamed "stencil/xparse.types" = some 5 by kernel_rfl).symm.trans hg)
  obtain rfl := Option.some.inj ((show (Tryz.prog.globals[5]?).map (·.type) = some 129 by kernel_rfl).symm.trans hty)
  have key : ∀ i, i < 4 → ((cs.toList.drop (i * 1)).take 1) = [.string (T (tyAt i))] := by
    intro i hi
    obtain ⟨fuel', d, q, hdi, he⟩ := Lib.array_elem Tryz.underlying129 hd i hi
    rw [cellsString] at he
    rw [List.getElem?_map, tyAt_get i hi] at hdi
    simp only [Option.map_some, Option.some.injEq] at hdi
    subst hdi
    exact str_trod he
  intro j v hv
  have hj : j < 4 := by
    have h60 : tyCells.length = 4 := by decide
    have := (List.getElem?_eq_some_iff.1 hv).1
    omega
  rw [Nat.zero_add, World.var?_cell hg hvar j, ← Array.getElem?_toList]
  have hk := congrArg (·[0]?) (key j hj)
  simp only [List.getElem?_take, List.getElem?_drop] at hk
  rw [if_pos (by omega), Nat.mul_one, Nat.add_zero] at hk
  rw [hk]
  have hs : ∀ i, i < 4 → tyCells[i]? = some (.string (T (tyAt i))) := by
    intro i hi
    unfold tyCells
    rw [List.getElem?_map, tyAt_get i hi]
    rfl
  rw [hs j hj] at hv
  exact hv
theorem cellsOp : Tryz.prog.cellsOf 26 = 1 := by kernel_rfl
theorem cellsOper : Tryz.prog.cellsOf 105 = 3 := by kernel_rfl
theorem oper_trod {w : World} {fuel : Nat} {cs : List Value} {k a : Int} {s : List UInt8} {q : List MemPlace}
    (h : DataW.trod (fun _ => ()) Tryz.prog w 0 (fun _ => true) false fuel 105 cs = some (.agg [.lit (.string s), .lit (.int .i64 k), .lit (.int .i64 a)], q)) : cs = [.string ⟨s.toArray⟩, .int .i64 k, .int .i64 a] := by
  obtain ⟨y0, y1, y2, n, hx, hl, h0, h1, h2⟩ := Deep.trod_struct3 Tryz.underlying105 h
  rw [cellsOper] at hl
  simp only [cellsOp, cellsString, cellsInt] at h0 h1 h2
  obtain ⟨z0, e0, rfl, _⟩ := DataW.trod_string Tryz.underlying9 h0
  obtain ⟨z1, e1, rfl, _⟩ := DataW.trod_int Tryz.underlying26 h1
  obtain ⟨z2, e2, rfl, _⟩ := DataW.trod_int Tryz.underlying3 h2
  match cs, hl with
  | [v0, v1, v2], _ =>
    simp at e0 e1 e2
    simp at hx
    obtain ⟨⟨rfl, rfl, rfl⟩, _⟩ := hx
    subst e0 e1 e2
    rfl
theorem oper_data : Rows.laid_stencil_xparse_operators = (.agg (opTab.map fun x => .agg [.lit (.string (tx x.1)), .lit (.int .i64 (x.2.1 : Nat)), .lit (.int .i64 (x.2.2 : Nat))]) : DataW Unit) := by kernel_rfl
theorem opers_of_reads {w : World} (h : Lib.VarReads Tryz.prog w "stencil/xparse.operators" (.agg (opTab.map fun x => .agg [.lit (.string (tx x.1)), .lit (.int .i64 (x.2.1 : Nat)), .lit (.int .i64 (x.2.2 : Nat))]))) : w.rangeAt 1 0 opCells := by
  obtain ⟨g, t, cs, fuel, p, hg, hty, hvar, hd⟩ := h
  obtain rfl := Option.some.inj ((show Tryz.prog.globalNamed "stencil/xparse.operators" = some 1 by kernel_rfl).symm.trans hg)
  obtain rfl := Option.some.inj ((show (Tryz.prog.globals[1]?).map (·.type) = some 106 by kernel_rfl).symm.trans hty)
  have key : ∀ i, i < 14 → ((cs.toList.drop (i * 3)).take 3) = [.string (T (opAt i).1), .int .i64 ((opAt i).2.1 : Nat), .int .i64 ((opAt i).2.2 : Nat)] := by
    intro i hi
    obtain ⟨fuel', d, q, hdi, he⟩ := Lib.array_elem Tryz.underlying106 hd i hi
    rw [cellsOper] at he
    rw [List.getElem?_map, opAt_get i hi] at hdi
    simp only [Option.map_some, Option.some.injEq] at hdi
    subst hdi
    exact oper_trod he
  intro j v hv
  have hj : j < 42 := by
    have h60 : opCells.length = 42 := by decide +kernel
    have := (List.getElem?_eq_some_iff.1 hv).1
    omega
  rw [Nat.zero_add, World.var?_cell hg hvar j, ← Array.getElem?_toList]
  have hk := congrArg (·[j % 3]?) (key (j / 3) (by omega))
  simp only [List.getElem?_take, List.getElem?_drop] at hk
  rw [if_pos (by omega), show j / 3 * 3 + j % 3 = j by omega] at hk
  rw [hk]
  have hs : ∀ i, i < 14 → ∀ r, r < 3 → ([.string (T (opAt i).1), .int .i64 ((opAt i).2.1 : Nat), .int .i64 ((opAt i).2.2 : Nat)] : List Value)[r]? = opCells[i * 3 + r]? := by
    intro i hi r hr
    rcases (show i = 0 ∨ i = 1 ∨ i = 2 ∨ i = 3 ∨ i = 4 ∨ i = 5 ∨ i = 6 ∨ i = 7 ∨ i = 8 ∨ i = 9 ∨ i = 10 ∨ i = 11 ∨ i = 12 ∨ i = 13 by omega) with rfl | rfl | rfl | rfl | rfl | rfl | rfl | rfl | rfl | rfl | rfl | rfl | rfl | rfl <;> rcases (show r = 0 ∨ r = 1 ∨ r = 2 by omega) with rfl | rfl | rfl <;> rfl
  rw [hs (j / 3) (by omega) (j % 3) (by omega), show j / 3 * 3 + j % 3 = j by omega]
  exact hv
theorem env_of {W : World} (hM : laidMet Tryz.prog [("unicode/utf8.acceptRanges", Rows.laid_unicode_utf8_acceptRanges), ("stencil/xplex.signs", Rows.laid_stencil_xplex_signs), ("stencil/xparse.operators", Rows.laid_stencil_xparse_operators), ("stencil/xparse.axes", Rows.laid_stencil_xparse_axes), ("stencil/xparse.types", Rows.laid_stencil_xparse_types), ("unicode/utf8.first", Rows.laid_unicode_utf8_first)] W) (hs : W.ShapedOpen Tryz.prog) : EnvG W := by
  have h3 := Lib.laidMet.reads hM (n := "unicode/utf8.first") (d := Rows.laid_unicode_utf8_first) (by simp)
  have h4 := Lib.laidMet.reads hM (n := "unicode/utf8.acceptRanges") (d := Rows.laid_unicode_utf8_acceptRanges) (by simp)
  have h5 := Lib.laidMet.reads hM (n := "stencil/xplex.signs") (d := Rows.laid_stencil_xplex_signs) (by simp)
  have h7 := Lib.laidMet.reads hM (n := "stencil/xparse.operators") (d := Rows.laid_stencil_xparse_operators) (by simp)
  have h8 := Lib.laidMet.reads hM (n := "stencil/xparse.axes") (d := Rows.laid_stencil_xparse_axes) (by simp)
  have h9 := Lib.laidMet.reads hM (n := "stencil/xparse.types") (d := Rows.laid_stencil_xparse_types) (by simp)
  rw [first_data] at h3
  rw [accept_data] at h4
  rw [signs_data] at h5
  rw [oper_data] at h7
  rw [axes_data] at h8
  rw [types_data] at h9
  refine ⟨⟨⟨?_, utf8Tabs_of_reads Tryz.lays260 u8extra h3 h4⟩, signs_of_reads h5⟩, opers_of_reads h7, axes_of_reads h8, types_of_reads h9⟩
  exact cell_of_shapedOpen_int (zero := #[.int .i64 0]) (t := 3) hs (of_decide_eq_true (by kernel_rfl)) (by kernel_rfl) rfl (by kernel_rfl) (by kernel_rfl) Tryz.underlying3
theorem own : ownKnob Tryz.prog.godebug = none := by kernel_rfl
end Go.Proofs.YtnmcambbpgoodaaGreatDoor
