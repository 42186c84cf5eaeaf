/- From what a row lists of the library's tables and of xplex's signs, and from the world's shape, to what the walks ask. -/
import Derived.Test.YtgabgeadeeaihaaDoorLexTok
import Derived.Deep.Strs
import Derived.Lib.LaidU8
import Derived.HandedShaped
import Derived.WalkKit
import Derived.ProofKit
import Derived.OpenShut
import Derived.ShutString
import Derived.Deep.DeepHandedRow
import Derived.Lib.LaidTab
namespace Go.Proofs.YtgabgeadeeaihaaDoor
open Go.ChangeShapes Go.WideShapes Go.ChangeAt Go.RowKit
theorem u8extra : U8Extra Tryd.prog Tryd.lays260_ren where
  n3 := by kernel_rfl
  n4 := by kernel_rfl
  y3 := by kernel_rfl
  y4 := by kernel_rfl
  c5 := by kernel_rfl
  c119 := by kernel_rfl
  c138 := by kernel_rfl
theorem first_data : Rows.laid_unicode_utf8_first = Lib.firstData := by kernel_rfl
theorem accept_data : Rows.laid_unicode_utf8_acceptRanges = Lib.acceptData := by kernel_rfl
theorem signs_data : Rows.laid_stencil_xplex_signs = (.agg (signL.map fun x => .agg [.lit (.int .i64 (x.1 : Nat)), .lit (.string (tx x.2)), .lit (.int .i64 0)]) : DataW Unit) := by kernel_rfl
theorem cellsKind : Tryd.prog.cellsOf 35 = 1 := by kernel_rfl
theorem cellsString : Tryd.prog.cellsOf 9 = 1 := by kernel_rfl
theorem cellsInt : Tryd.prog.cellsOf 3 = 1 := by kernel_rfl
theorem cellsLex : Tryd.prog.cellsOf 37 = 3 := by kernel_rfl
theorem lex_trod {w : World} {fuel : Nat} {cs : List Value} {k a : Int} {s : List UInt8} {q : List MemPlace}
    (h : DataW.trod (fun _ => ()) Tryd.prog w 0 (fun _ => true) false fuel 37 cs = some (.agg [.lit (.int .i64 k), .lit (.string s), .lit (.int .i64 a)], q)) : cs = [.int .i64 k, .string ⟨s.toArray⟩, .int .i64 a] := by
  obtain ⟨y0, y1, y2, n, hx, hl, h0, h1, h2⟩ := Deep.trod_struct3 Tryd.underlying37 h
  rw [cellsLex] at hl
  simp only [cellsKind, cellsString, cellsInt] at h0 h1 h2
  obtain ⟨z0, e0, rfl, _⟩ := DataW.trod_int Tryd.underlying35 h0
  obtain ⟨z1, e1, rfl, _⟩ := DataW.trod_string Tryd.underlying9 h1
  obtain ⟨z2, e2, rfl, _⟩ := DataW.trod_int Tryd.underlying3 h2
  match cs, hl with
  | [v0, v1, v2], _ =>
    simp at e0 e1 e2
    simp at hx
    obtain ⟨⟨rfl, rfl, rfl⟩, _⟩ := hx
    subst e0 e1 e2
    rfl
theorem signs_of_reads {w : World} (h : Lib.VarReads Tryd.prog w "stencil/xplex.signs" (.agg (signL.map fun x => .agg [.lit (.int .i64 (x.1 : Nat)), .lit (.string (tx x.2)), .lit (.int .i64 0)]))) : w.rangeAt 0 0 signCells := by
  obtain ⟨g, t, cs, fuel, p, hg, hty, hvar, hd⟩ := h
  obtain rfl := Option.some.inj ((show Tryd.prog.globalNamed "stencil/xplex.signs" = some 0 by kernel_rfl).symm.trans hg)
  obtain rfl := Option.some.inj ((show (Tryd.prog.globals[0]?).map (·.type) = some 69 by kernel_rfl).symm.trans hty)
  have key : ∀ i, i < 20 → ((cs.toList.drop (i * 3)).take 3) = [.int .i64 ((signAt i).1 : Nat), .string (T (signAt i).2), .int .i64 0] := by
    intro i hi
    obtain ⟨fuel', d, q, hdi, he⟩ := Lib.array_elem Tryd.underlying69 hd i hi
    rw [cellsLex] at he
    rw [List.getElem?_map, List.getElem?_eq_getElem (by rw [sign_len]; exact hi), sign_get hi] at hdi
    simp only [Option.map_some, Option.some.injEq] at hdi
    subst hdi
    exact lex_trod he
  intro j v hv
  have hj : j < 60 := by
    have h60 : signCells.length = 60 := by decide +kernel
    have := (List.getElem?_eq_some_iff.1 hv).1
    omega
  rw [Nat.zero_add, World.var?_cell hg hvar j, ← Array.getElem?_toList]
  have hk := congrArg (·[j % 3]?) (key (j / 3) (by omega))
  simp only [List.getElem?_take, List.getElem?_drop] at hk
  rw [if_pos (by omega), show j / 3 * 3 + j % 3 = j by omega] at hk
  rw [hk]
  have hs : ∀ i, i < 20 → ∀ r, r < 3 → ([.int .i64 ((signAt i).1 : Nat), .string (T (signAt i).2), .int .i64 0] : List Value)[r]? = signCells[i * 3 + r]? := by
    intro i hi r hr
    rcases (show i = 0 ∨ i = 1 ∨ i = 2 ∨ i = 3 ∨ i = 4 ∨ i = 5 ∨ i = 6 ∨ i = 7 ∨ i = 8 ∨ i = 9 ∨ i = 10 ∨ i = 11 ∨ i = 12 ∨ i = 13 ∨ i = 14 ∨ i = 15 ∨ i = 16 ∨ i = 17 ∨ i = 18 ∨ i = 19 by omega) with rfl | rfl | rfl | rfl | rfl | rfl | rfl | rfl | rfl | rfl | rfl | rfl | rfl | rfl | rfl | rfl | rfl | rfl | rfl | rfl <;> (rcases (show r = 0 ∨ r = 1 ∨ r = 2 by omega) with rfl | rfl | rfl <;> rfl)
  rw [hs (j / 3) (by omega) (j % 3) (by omega), show j / 3 * 3 + j % 3 = j by omega]
  exact hv
theorem env_of {W : World} (hM : laidMet Tryd.prog [("unicode/utf8.acceptRanges", Rows.laid_unicode_utf8_acceptRanges), ("stencil/xplex.signs", Rows.laid_stencil_xplex_signs), ("unicode/utf8.first", Rows.laid_unicode_utf8_first)] W) (hs : W.ShapedOpen Tryd.prog) : Env5 W := by
  have h3 := Lib.laidMet.reads hM (n := "unicode/utf8.first") (d := Rows.laid_unicode_utf8_first) (by simp)
  have h4 := Lib.laidMet.reads hM (n := "unicode/utf8.acceptRanges") (d := Rows.laid_unicode_utf8_acceptRanges) (by simp)
  have h5 := Lib.laidMet.reads hM (n := "stencil/xplex.signs") (d := Rows.laid_stencil_xplex_signs) (by simp)
  rw [first_data] at h3
  rw [accept_data] at h4
  rw [signs_data] at h5
  refine ⟨⟨?_, utf8Tabs_of_reads Tryd.lays260 u8extra h3 h4⟩, signs_of_reads h5⟩
  exact cell_of_shapedOpen_int (zero := #[.int .i64 0]) (t := 3) hs (of_decide_eq_true (by kernel_rfl)) (by kernel_rfl) rfl (by kernel_rfl) (by kernel_rfl) Tryd.underlying3
theorem own : ownKnob Tryd.prog.godebug = none := by kernel_rfl
/-- The tables' blocks, laid. -/
def laidHeap (h : Array Obj) : Array Obj :=
  ((h.modify 0 fun
    | .cells _ t frozen => .cells signCells.toArray t frozen
    | o => o).modify 1 fun
    | .cells _ t frozen => .cells (Go.Pinned.utf8FirstZ.map fun (n : Nat) => Value.int .u8 (n : Int)).toArray t frozen
    | o => o).modify 2 fun
    | .cells _ t frozen => .cells #[.int .u8 128, .int .u8 191, .int .u8 160, .int .u8 191, .int .u8 128, .int .u8 159, .int .u8 144, .int .u8 191, .int .u8 128, .int .u8 143, .int .u8 0, .int .u8 0, .int .u8 0, .int .u8 0, .int .u8 0, .int .u8 0, .int .u8 0, .int .u8 0, .int .u8 0, .int .u8 0, .int .u8 0, .int .u8 0, .int .u8 0, .int .u8 0, .int .u8 0, .int .u8 0, .int .u8 0, .int .u8 0, .int .u8 0, .int .u8 0, .int .u8 0, .int .u8 0] t frozen
    | o => o
end Go.Proofs.YtgabgeadeeaihaaDoor
