/- Texts that are handed in: what a slice of them is. -/
import Derived.Test.YtoeahagloobmoaaDoorSortDown
import Derived.Deep.Slices
namespace Go.Proofs.YtoeahagloobmoaaDoor
open Go.RowKit
theorem cellsStr : Tryd.prog.cellsOf 9 = 1 := by kernel_rfl
section
variable {H : Type} {enc : TypeId × Value → H} {W : World} {held : Bool}
theorem open_strs {fuel : Nat} {a : Option Addr} {len cap : Nat} {d : DataW H} {q : List MemPlace}
    (h : DataW.trod enc Tryd.prog W 0 (fun _ => true) held fuel 32 [.slice a len cap] = some (d, q)) :
    ∃ t : Nat → ByteArray, StrsAt W a len t := by
  rcases Deep.open_slice Tryd.underlying32 h with ⟨h0, _⟩ | ⟨ad, len', cap', m, n, D, Pl, hcs, hb, hl, hm, hmm, hx, hall⟩
  · cases h0
    exact ⟨fun _ => ByteArray.empty, fun h => absurd h (Nat.not_lt_zero 0)⟩
  · cases hcs
    have hlm : len ≤ m := by rw [hmm]; simp; omega
    have each : ∀ i, i < len → ∃ y : ByteArray, W.cell? (ad.add i) = some (.string y) := by
      intro i hi
      obtain ⟨cs', h1, h2⟩ := hall i (by omega)
      rw [cellsStr] at h1
      obtain ⟨z, e, _, _⟩ := DataW.trod_string Tryd.underlying9 h2
      obtain ⟨_, _, hcell⟩ := World.cells?_some h1
      have e0 := hcell 0 (by omega)
      subst e
      rw [Deep.add_add] at e0
      exact ⟨z, by simpa using e0⟩
    obtain ⟨f, hf⟩ := Deep.choose_lt each
    refine ⟨f, fun h0 => ?_⟩
    obtain ⟨b, o, sp⟩ := ad
    have hsp : sp = none := by
      have := hf 0 h0
      simpa [Addr.add] using World.cell?_spot this
    subst hsp
    refine ⟨b, o, rfl, fun i hi => ?_⟩
    have := hf i hi
    rw [Addr.add_mid] at this
    exact this
end
end Go.Proofs.YtoeahagloobmoaaDoor
