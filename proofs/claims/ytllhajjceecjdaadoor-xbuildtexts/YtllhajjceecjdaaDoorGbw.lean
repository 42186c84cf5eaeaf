/- Several texts, laid as one. -/
import Derived.Test.YtllhajjceecjdaaDoorBuTl
import Derived.Deep.Slices
import Derived.Test.YtllhajjceecjdaaDoorGae
import Derived.Lib.LaidU8
import Derived.HandedShaped
import Derived.WalkKit
import Derived.ProofKit
import Derived.OpenShut
import Derived.ShutString
import Derived.Deep.DeepHandedRow
import Derived.Lib.LaidTab
/- Texts that are handed in: what a slice of them is. -/
namespace Go.Proofs.YtllhajjceecjdaaDoor
open Go.RowKit
theorem cellsStr : Tryd.prog.cellsOf 9 = 1 := by kernel_rfl
section
variable {H : Type} {enc : TypeId × Value → H} {W : World} {held : Bool}
theorem open_strs {fuel : Nat} {a : Option Addr} {len cap : Nat} {d : DataW H} {q : List MemPlace}
    (h : DataW.trod enc Tryd.prog W 0 (fun _ => true) held fuel 22 [.slice a len cap] = some (d, q)) :
    ∃ t : Nat → ByteArray, StrsAt W a len t := by
  rcases Deep.open_slice Tryd.underlying22 h with ⟨h0, _⟩ | ⟨ad, len', cap', m, n, D, Pl, hcs, hb, hl, hm, hmm, hx, hall⟩
  · cases h0
    exact ⟨fun _ => ByteArray.empty, fun h => absurd h (Nat.not_lt_zero 0)⟩
  · cases hcs
    have hlm : len ≤ m := by rw [hmm]; simp; omega
    have each : ∀ i, i < len → ∃ y : ByteArray, W.cell? (ad.add i) = some (.string y) := by
      intro i hi
      obtain ⟨cs', h1, h2⟩ := hall i (by omega)
      rw [cellsStr] at h1
      obtain ⟨z, e, _, _⟩ := DataW.trod_string Tryd.underlying9 h2
      obtain ⟨_, _, hcell⟩ := World.cells?_some h1
      have e0 := hcell 0 (by omega)
      subst e
      rw [Deep.add_add] at e0
      exact ⟨z, by simpa using e0⟩
    obtain ⟨f, hf⟩ := Deep.choose_lt each
    refine ⟨f, fun h0 => ?_⟩
    obtain ⟨b, o, sp⟩ := ad
    have hsp : sp = none := by
      have := hf 0 h0
      simpa [Addr.add] using World.cell?_spot this
    subst hsp
    refine ⟨b, o, rfl, fun i hi => ?_⟩
    have := hf i hi
    rw [Addr.add_mid] at this
    exact this
end
end Go.Proofs.YtllhajjceecjdaaDoor
/- From what a row lists of unicode/utf8's two tables to what the walks ask, where the dump lacks the decoder itself. -/
namespace Go.Proofs.YtllhajjceecjdaaDoor
open Go.ChangeShapes Go.WideShapes Go.ChangeAt Go.RowKit
theorem first_data : Rows.laid_unicode_utf8_first = Lib.firstData := by kernel_rfl
theorem accept_data : Rows.laid_unicode_utf8_acceptRanges = Lib.acceptData := by kernel_rfl
theorem cellsU8 : Tryd.prog.cellsOf 5 = 1 := by kernel_rfl
theorem cellsAcc : Tryd.prog.cellsOf 96 = 2 := by kernel_rfl
theorem first_at {W : World} (h : Lib.VarReads Tryd.prog W "unicode/utf8.first" Lib.firstData) : ∀ c, c < 256 → W.cell? ⟨0, c, none⟩ = some (.int .u8 (Lib.firstT c)) := by
  intro c hc
  obtain ⟨g, t, cs, fuel, p, hg, hty, hv, hd⟩ := h
  have eg : 0 = g := Option.some.inj ((show Tryd.prog.globalNamed "unicode/utf8.first" = some 0 by kernel_rfl).symm.trans hg)
  subst eg
  have et : 94 = t := Option.some.inj ((show (Tryd.prog.globals[(0 : Nat)]?).map (·.type) = some 94 by kernel_rfl).symm.trans hty)
  subst et
  have hl := Lib.cells_of_tab Tryd.underlying94 Tryd.underlying5 cellsU8 (by kernel_rfl) hd
  rw [World.var?_cell hg hv c, ← Array.getElem?_toList, hl]
  simp [Lib.firstTab, hc]
theorem accept_at {W : World} (h : Lib.VarReads Tryd.prog W "unicode/utf8.acceptRanges" Lib.acceptData) : ∀ i, i < 16 → W.cell? ⟨1, 2 * i, none⟩ = some (.int .u8 (Lib.accLo i)) ∧ W.cell? ⟨1, 2 * i + 1, none⟩ = some (.int .u8 (Lib.accHi i)) := by
  intro i hi
  obtain ⟨g, t, cs, fuel, p, hg, hty, hv, hd⟩ := h
  have eg : 1 = g := Option.some.inj ((show Tryd.prog.globalNamed "unicode/utf8.acceptRanges" = some 1 by kernel_rfl).symm.trans hg)
  subst eg
  have et : 97 = t := Option.some.inj ((show (Tryd.prog.globals[(1 : Nat)]?).map (·.type) = some 97 by kernel_rfl).symm.trans hty)
  subst et
  obtain ⟨f2, d, q, hdi, hx⟩ := Lib.array_elem Tryd.underlying97 hd i hi
  simp only [List.getElem?_map, List.getElem?_range hi, Option.map_some, Option.some.injEq] at hdi
  subst hdi
  rw [cellsAcc] at hx
  have hl := Lib.ints_of_struct Tryd.underlying96 (fun j f hj => by
    rcases j with _ | _ | j
    · simp at hj; subst hj; exact ⟨Tryd.underlying5, rfl, cellsU8⟩
    · simp at hj; subst hj; exact ⟨Tryd.underlying5, rfl, cellsU8⟩
    · simp at hj) (by rw [cellsAcc]; rfl) hx
  have a0 := congrArg (fun l => l[0]?) hl
  have a1 := congrArg (fun l => l[1]?) hl
  simp only [List.getElem?_take, List.getElem?_drop] at a0 a1
  refine ⟨?_, ?_⟩
  · rw [World.var?_cell hg hv, ← Array.getElem?_toList]
    simpa [Nat.mul_comm] using a0
  · rw [World.var?_cell hg hv, ← Array.getElem?_toList]
    simpa [Nat.mul_comm] using a1
theorem env_of {W : World} (hM : laidMet Tryd.prog [("unicode/utf8.acceptRanges", Rows.laid_unicode_utf8_acceptRanges), ("unicode/utf8.first", Rows.laid_unicode_utf8_first)] W) : Env W := by
  have h3 := Lib.laidMet.reads hM (n := "unicode/utf8.first") (d := Rows.laid_unicode_utf8_first) (by simp)
  have h4 := Lib.laidMet.reads hM (n := "unicode/utf8.acceptRanges") (d := Rows.laid_unicode_utf8_acceptRanges) (by simp)
  rw [first_data] at h3
  rw [accept_data] at h4
  exact ⟨first_at h3, accept_at h4⟩
theorem own : ownKnob Tryd.prog.godebug = none := by kernel_rfl
end Go.Proofs.YtllhajjceecjdaaDoor
