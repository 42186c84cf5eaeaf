/- For every name and text the law XbuildNone answers true and changes nothing: a builder that is none takes nothing, tells nothing, and its copy is a live builder with nothing in it. Under: the package variables of unicode and unicode/utf8 that the row lists, as their text lays them (the card ties them). -/
import Derived.Test.YtllhajjceecjdaaGreatDoorCards
import Derived.Test.YtllhajjceecjdaaGreatDoorTie
import Derived.Test.YtllhajjceecjdaaGreatDoorGbw
import Derived.Lay
import Derived.Lib.SmallJoins
import Derived.Deep.DeepWitnessRowRef
namespace Go.Proofs.YtllhajjceecjdaaGreatDoor.xbuildNone
open Go.ChangeShapes Go.WideShapes Go.ChangeAt Go.RowKit Go.Joins
open Go.ChangeMaps (open_string shut_string)
theorem cellsName : Tryz.prog.cellsOf 23 = 3 := by kernel_rfl
set_option maxRecDepth 100000 in
theorem contract (H : Type) (enc : TypeId × Value → H) (W : World) (base : Nat) (args : Array Value) (ds gs : List (DataW H)) (before : List MemPlace)
    (hval : ∀ (j : Nat) t v, Tryz.f3.params[j]? = some t → args[j]? = some v → Value.okWide Tryz.prog W .any base t v)
    (hW : DataW.Whole enc Tryz.prog Tryz.f3.params.toList Rows.xbuildNoneSpec.vars false W args.toList ds gs before) (hE : BEnv W) :
    Calls Tryz.prog 3 args W fun e W' => ∃ v, e = .returned v ∧ Rows.xbuildNoneSpec.post enc Tryz.prog Tryz.f3 false true false false W args v W' := by
  have hW' := hW
  obtain ⟨p, q, hA0, hV, rfl, hfz, hnd⟩ := hW
  have hA : DataW.TrodAll enc Tryz.prog W 0 (fun _ => true) true Tryz.f3.params.toList args.toList ds p := hA0
  rw [Tryz.params3] at hA hval
  obtain ⟨v0, vs0, d0, ds0, p0, q0, hargs, rfl, rfl, h0, r0⟩ := trodAll_cons hA
  obtain ⟨v1, vs1, d1, ds1, p1, q1, rfl, rfl, rfl, h1, r1⟩ := trodAll_cons r0
  obtain ⟨rfl, rfl, rfl⟩ := trodAll_nil r1
  obtain rfl : args = #[v0, v1] := by cases args; simp_all
  obtain ⟨rfl, rfl⟩ := trodVars_none hV
  obtain ⟨c0, c1, c2, y0, y1, y2, n0, rfl, rfl, rfl, hy0, hy1, hy2⟩ := open_agg3 Tryz.underlying23 (by kernel_rfl) cellsName (hval 0 23 v0 rfl rfl) h0
  obtain ⟨s0, e0, rfl, z0⟩ := DataW.trod_string Tryz.underlying9 hy0
  obtain ⟨s1, e1, rfl, z1⟩ := DataW.trod_string Tryz.underlying9 hy1
  obtain ⟨s2, e2, rfl, z2⟩ := DataW.trod_string Tryz.underlying9 hy2
  simp at e0 e1 e2
  subst e0 e1 e2
  obtain ⟨s3, rfl, rfl, rfl, z3⟩ := open_string Tryz.underlying9 (hval 1 9 v1 rfl rfl) h1
  clear hA0
  refine (none14_walk s0 s1 s2 s3 W hE).mono fun e W' ⟨he, bel⟩ => ?_
  subst he
  exact ⟨_, rfl, _, _, _, [], _, [], hW', trodAll_mk1 (shut_bool Tryz.underlying4 _), (trodAll_cons_mk (shut_agg3 (y0 := (.lit (.string s0.data.toList), [])) (y1 := (.lit (.string s1.data.toList), [])) (y2 := (.lit (.string s2.data.toList), [])) Tryz.underlying23 (by kernel_rfl) cellsName ⟨1, by simp [DataW.trod, Tryz.underlying9, z0]⟩ ⟨1, by simp [DataW.trod, Tryz.underlying9, z1]⟩ ⟨1, by simp [DataW.trod, Tryz.underlying9, z2]⟩) (trodAll_cons_mk (shut_string Tryz.underlying9 z3) trodAll_mk0)), rfl, bel.frame _, fun h => by cases h⟩
theorem laid_met (os : Os) : laidMet Tryz.prog Rows.xbuildNoneRow.laid ((World.laidAll Tryz.prog os Rows.xbuildNoneRow.laid : World).forCall (fun _ _ => 0) ⟨#[], #[.agg #[.string .empty, .string .empty, .string .empty], .string .empty], []⟩).memory :=
  laidMet_laidAll _ (by kernel_rfl) (by kernel_rfl)
theorem reads (os : Os) {H : Type} (enc : TypeId × Value → H) : ∃ places, DataW.whole enc Tryz.prog ((World.laidAll Tryz.prog os Rows.xbuildNoneRow.laid : World).forCall (fun _ _ => 0) ⟨#[], #[.agg #[.string .empty, .string .empty, .string .empty], .string .empty], []⟩).memory Tryz.f3.params.toList Rows.xbuildNoneSpec.vars false (#[.agg #[.string .empty, .string .empty, .string .empty], .string .empty] : Array Value).toList 8 = some ([.agg [.lit (.string []), .lit (.string []), .lit (.string [])], .lit (.string [])], [], places) :=
  ⟨[], by kernel_rfl⟩
set_option maxRecDepth 100000 in
theorem lifted (os : Os) (started : os.Started) (H : Type) (enc : TypeId × Value → H) (F : Stop.Interp) :
    ReturnsInHanded {} Tryz.checked os 3 .any ((OpenSpec.ofChange Rows.xbuildNoneSpec).preRow enc Tryz.prog Tryz.f3 Rows.xbuildNoneRow.domain false Rows.xbuildNoneRow.laid) (((OpenSpec.ofChange Rows.xbuildNoneSpec).at F).post enc Tryz.prog Tryz.f3 false true false false) := by
  obtain ⟨places, hx⟩ := reads os enc
  refine returnsInHanded_of_row (C := Tryz.checked) (s := OpenSpec.ofChange Rows.xbuildNoneSpec) own started (by kernel_rfl) Tryz.func3
    (witness_row_atRef (enc := enc) (C := Tryz.checked) false (World.laidAll Tryz.prog os Rows.xbuildNoneRow.laid) #[.agg #[.string .empty, .string .empty, .string .empty], .string .empty] (World.laidAll_os _ _ _) (by kernel_rfl) (by kernel_rfl) (by kernel_rfl)
      (OpenSpec.preRow_of_cond 8 hx (by kernel_rfl) (fun k hk => by cases hk) (by kernel_rfl) (laid_met os))) ?_
  intro W base args ds gs before hval hW _ _ _ hL hS _
  exact contract H enc W base args ds gs before hval hW ⟨(env_of hL hS).env⟩
theorem said : Rows.XbuildNoneSaid :=
  OpenClaim.holds_of_cond 3 Tryz.f3 rfl rfl rfl rfl rfl rfl rfl ⟨rfl, rfl, rfl, rfl, rfl⟩ rfl rfl rfl rfl rfl (by kernel_rfl) Tryz.func3 (by kernel_rfl)
    (of_decide_eq_true (by kernel_rfl)) (by unfold Func.isWrapper; first | (rw [if_pos (by decide +kernel)]; kernel_rfl) | (rw [if_neg (by decide +kernel)]; exact ⟨rfl, rfl⟩))
    (fun os started H enc _ F => by rw [OpenClaim.pre_eq_preRow]; exact lifted os started H enc F)
theorem plain (f : FuncId) (fn : Func) (hf : Tryz.pinned.checked.prog.funcNamed "stencil/stencillaw14.XbuildNone" = some f) (hfn : Tryz.pinned.checked.prog.funcs[f]? = some fn) :
    true = Tryz.pinned.checked.prog.looks [] ∧ ∀ (j : Nat) t, fn.params[j]? = some t → Tryz.pinned.checked.prog.wantsStandIn t = false := by
  obtain rfl : f = 3 := Option.some.inj ((show Tryz.prog.funcNamed "stencil/stencillaw14.XbuildNone" = some 3 by kernel_rfl).symm.trans hf) |>.symm
  obtain rfl : fn = Tryz.f3 := (Option.some.inj (Tryz.func3.symm.trans hfn)).symm
  refine ⟨by kernel_rfl, fun j t ht => ?_⟩
  rw [Tryz.params3] at ht
  have ht' : t = 23 ∨ t = 9 := by simpa using Array.mem_of_getElem? ht
  rcases ht' with rfl | rfl
  · exact (show Tryz.prog.wantsStandIn 23 = false by kernel_rfl)
  · exact (show Tryz.prog.wantsStandIn 9 = false by kernel_rfl)
end Go.Proofs.YtllhajjceecjdaaGreatDoor.xbuildNone
namespace Go.Proofs.YtllhajjceecjdaaGreatDoor
theorem xbuildNone_holds : Rows.XbuildNoneCardSaid :=
  Claim7.holds_tied_plain_at .later [] _ _ _ _ xbuildNone.said (fun _ h => by cases h) (by kernel_rfl) (fun _ h => by cases h) xbuildNone_row_tie rfl ⟨rfl, rfl⟩ (by kernel_rfl) rfl xbuildNone.plain (by kernel_rfl)
end Go.Proofs.YtllhajjceecjdaaGreatDoor
