/- For every two numbers the law XnumReckons answers true and changes nothing: of right numbers Add, Sub, Mul, Div, Mod and Neg are what the document's reckoning, digit by digit, gives. Under: the package variables of unicode/utf8, math/bits and internal/strconv that the row lists, as their text lays them (the card ties them). -/
import Derived.Test.YtnpdjddebeipiaaGreatDoorCards
import Derived.Test.YtnpdjddebeipiaaGreatDoorTie
import Derived.Test.YtnpdjddebeipiaaGreatDoorRecLaw
import Derived.Test.YtnpdjddebeipiaaGreatDoorNumEnvOf
import Derived.Lib.SmallJoins
namespace Go.Proofs.YtnpdjddebeipiaaGreatDoor.xnumReckons
open Go.ChangeShapes Go.WideShapes Go.ChangeAt Go.RowKit
open Go.Joins
theorem cellsNum : Tryz.prog.cellsOf 24 = 2 := by kernel_rfl
theorem wf_both {a : Int} (h : (Lit.int IntKind.i64 a).wf = true) : IntKind.i64.min ≤ a ∧ a ≤ IntKind.i64.max := by simpa [Lit.wf] using h
theorem wf_low {a : Int} (h : (Lit.int IntKind.i64 a).wf = true) : -9223372036854775808 ≤ a := Int.le_trans (by decide) (wf_both h).1
theorem wf_high {a : Int} (h : (Lit.int IntKind.i64 a).wf = true) : a ≤ 9223372036854775807 := Int.le_trans (wf_both h).2 (by decide)
set_option maxRecDepth 100000 in
theorem contract (H : Type) (enc : TypeId × Value → H) (W : World) (base : Nat) (args : Array Value) (ds gs : List (DataW H)) (before : List MemPlace)
    (hval : ∀ (j : Nat) t v, Tryz.f3.params[j]? = some t → args[j]? = some v → Value.okWide Tryz.prog W .any base t v)
    (hW : DataW.Whole enc Tryz.prog Tryz.f3.params.toList Rows.xnumReckonsSpec.vars false W args.toList ds gs before) (hE : NumEnv W) :
    Calls Tryz.prog 3 args W fun e W' => ∃ v, e = .returned v ∧ Rows.xnumReckonsSpec.post enc Tryz.prog Tryz.f3 false true false false W args v W' := by
  have hW' := hW
  obtain ⟨p, q, hA0, hV, rfl, hfz, hnd⟩ := hW
  have hA : DataW.TrodAll enc Tryz.prog W 0 (fun _ => true) true Tryz.f3.params.toList args.toList ds p := hA0
  rw [Tryz.params3] at hA hval
  obtain ⟨v0, vs0, d0, ds0, p0, q0, hargs, rfl, rfl, h0, r0⟩ := trodAll_cons hA
  obtain ⟨v1, vs1, d1, ds1, p1, q1, rfl, rfl, rfl, h1, r1⟩ := trodAll_cons r0
  obtain ⟨rfl, rfl, rfl⟩ := trodAll_nil r1
  obtain rfl : args = #[v0, v1] := by cases args; simp_all
  obtain ⟨rfl, rfl⟩ := trodVars_none hV
  obtain ⟨c0, g0, y0, z0, n0, rfl, rfl, rfl, hy0, hz0⟩ := open_agg2 Tryz.underlying24 (by kernel_rfl) cellsNum (hval 0 24 v0 rfl rfl) h0
  obtain ⟨k0, e0, rfl, wk0⟩ := DataW.trod_int Tryz.underlying22 hy0
  obtain ⟨a0, f0, rfl, wa0⟩ := DataW.trod_int Tryz.underlying2 hz0
  simp at e0 f0
  subst e0 f0
  obtain ⟨c1, g1, y1, z1, n1, rfl, rfl, rfl, hy1, hz1⟩ := open_agg2 Tryz.underlying24 (by kernel_rfl) cellsNum (hval 1 24 v1 rfl rfl) h1
  obtain ⟨k1, e1, rfl, wk1⟩ := DataW.trod_int Tryz.underlying22 hy1
  obtain ⟨a1, f1, rfl, wa1⟩ := DataW.trod_int Tryz.underlying2 hz1
  simp at e1 f1
  subst e1 f1
  clear hA0
  refine (reckons_walk k0 a0 k1 a1 W hE (wf_low wa0) (wf_high wa0) (wf_low wa1) (wf_high wa1)).mono fun e W' ⟨he, bel⟩ => ?_
  subst he
  exact ⟨_, rfl, _, _, _, [], _, [], hW', trodAll_mk1 (shut_bool Tryz.underlying4 _), (trodAll_cons_mk (shut_agg2 (y0 := (.lit (.int .i64 k0), [])) (y1 := (.lit (.int .i64 a0), [])) Tryz.underlying24 (by kernel_rfl) cellsNum ⟨1, by simp [DataW.trod, Tryz.underlying22, wk0]⟩ ⟨1, by simp [DataW.trod, Tryz.underlying2, wa0]⟩) (trodAll_cons_mk (shut_agg2 (y0 := (.lit (.int .i64 k1), [])) (y1 := (.lit (.int .i64 a1), [])) Tryz.underlying24 (by kernel_rfl) cellsNum ⟨1, by simp [DataW.trod, Tryz.underlying22, wk1]⟩ ⟨1, by simp [DataW.trod, Tryz.underlying2, wa1]⟩) trodAll_mk0)), rfl, bel.frame _, fun h => by cases h⟩
theorem laid_met (os : Os) : laidMet Tryz.prog Rows.xnumReckonsRow.laid (({ World.holding Tryz.prog os ⟨#[], #[], []⟩ with heap := laidHeap (World.holding Tryz.prog os ⟨#[], #[], []⟩).heap } : World).forCall (fun _ _ => 0) ⟨#[], #[.agg #[.int .i64 0, .int .i64 0], .agg #[.int .i64 0, .int .i64 0]], []⟩).memory :=
  laidMet_of_run' 8 (by kernel_rfl) (by kernel_rfl)
theorem reads (os : Os) {H : Type} (enc : TypeId × Value → H) : ∃ places, DataW.whole enc Tryz.prog (({ World.holding Tryz.prog os ⟨#[], #[], []⟩ with heap := laidHeap (World.holding Tryz.prog os ⟨#[], #[], []⟩).heap } : World).forCall (fun _ _ => 0) ⟨#[], #[.agg #[.int .i64 0, .int .i64 0], .agg #[.int .i64 0, .int .i64 0]], []⟩).memory Tryz.f3.params.toList Rows.xnumReckonsSpec.vars false (#[.agg #[.int .i64 0, .int .i64 0], .agg #[.int .i64 0, .int .i64 0]] : Array Value).toList 8 = some ([.agg [.lit (.int .i64 0), .lit (.int .i64 0)], .agg [.lit (.int .i64 0), .lit (.int .i64 0)]], [], places) :=
  ⟨[], by kernel_rfl⟩
set_option maxRecDepth 100000 in
theorem lifted (os : Os) (started : os.Started) (H : Type) (enc : TypeId × Value → H) (F : Stop.Interp) :
    ReturnsInHanded {} Tryz.checked os 3 .any ((OpenSpec.ofChange Rows.xnumReckonsSpec).preRow enc Tryz.prog Tryz.f3 Rows.xnumReckonsRow.domain false Rows.xnumReckonsRow.laid) (((OpenSpec.ofChange Rows.xnumReckonsSpec).at F).post enc Tryz.prog Tryz.f3 false true false false) := by
  obtain ⟨places, hx⟩ := reads os enc
  refine returnsInHanded_of_row (C := Tryz.checked) (s := OpenSpec.ofChange Rows.xnumReckonsSpec) own started (by kernel_rfl) Tryz.func3
    (witness_row_at (enc := enc) (C := Tryz.checked) false { World.holding Tryz.prog os ⟨#[], #[], []⟩ with heap := laidHeap (World.holding Tryz.prog os ⟨#[], #[], []⟩).heap } #[.agg #[.int .i64 0, .int .i64 0], .agg #[.int .i64 0, .int .i64 0]] rfl (by kernel_rfl) (by kernel_rfl) (by kernel_rfl)
      (OpenSpec.preRow_of_cond 8 hx (by kernel_rfl) (fun k hk => by cases hk) (by kernel_rfl) (laid_met os))) ?_
  intro W base args ds gs before hval hW _ _ _ hL hS _
  exact contract H enc W base args ds gs before hval hW (env_of hL hS)
theorem said : Rows.XnumReckonsSaid :=
  OpenClaim.holds_of_cond 3 Tryz.f3 rfl rfl rfl rfl rfl rfl rfl ⟨rfl, rfl, rfl, rfl, rfl⟩ rfl rfl rfl rfl rfl (by kernel_rfl) Tryz.func3 (by kernel_rfl)
    (of_decide_eq_true (by kernel_rfl)) (by unfold Func.isWrapper; first | (rw [if_pos (by decide +kernel)]; kernel_rfl) | (rw [if_neg (by decide +kernel)]; exact ⟨rfl, rfl⟩))
    (fun os started H enc _ F => by rw [OpenClaim.pre_eq_preRow]; exact lifted os started H enc F)
theorem plain (f : FuncId) (fn : Func) (hf : Tryz.pinned.checked.prog.funcNamed "stencil/stencillaw02.XnumReckons" = some f) (hfn : Tryz.pinned.checked.prog.funcs[f]? = some fn) :
    false = Tryz.pinned.checked.prog.looks [] ∧ ∀ (j : Nat) t, fn.params[j]? = some t → Tryz.pinned.checked.prog.wantsStandIn t = false := by
  obtain rfl : f = 3 := Option.some.inj ((show Tryz.prog.funcNamed "stencil/stencillaw02.XnumReckons" = some 3 by kernel_rfl).symm.trans hf) |>.symm
  obtain rfl : fn = Tryz.f3 := (Option.some.inj (Tryz.func3.symm.trans hfn)).symm
  refine ⟨by kernel_rfl, fun j t ht => ?_⟩
  rw [Tryz.params3] at ht
  obtain rfl : t = 24 := by simpa using Array.mem_of_getElem? ht
  exact (show Tryz.prog.wantsStandIn 24 = false by kernel_rfl)
end Go.Proofs.YtnpdjddebeipiaaGreatDoor.xnumReckons
namespace Go.Proofs.YtnpdjddebeipiaaGreatDoor
theorem xnumReckons_holds : Rows.XnumReckonsCardSaid :=
  Claim7.holds_tied_plain_at .later [] _ _ _ _ xnumReckons.said (fun _ h => by cases h) (by kernel_rfl) (fun _ h => by cases h) xnumReckons_row_tie rfl ⟨rfl, rfl⟩ (by kernel_rfl) rfl xnumReckons.plain (by kernel_rfl)
end Go.Proofs.YtnpdjddebeipiaaGreatDoor
