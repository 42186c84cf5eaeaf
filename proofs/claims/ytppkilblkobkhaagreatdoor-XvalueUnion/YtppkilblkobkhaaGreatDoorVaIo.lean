/- Rows of numbers that are handed in. -/
import Derived.Test.YtppkilblkobkhaaGreatDoorVaIn
import Derived.ChangeSlices
namespace Go.Proofs.YtppkilblkobkhaaGreatDoor
open Go.ChangeShapes Go.WideShapes Go.ChangeAt Go.RowKit
theorem bulkI_lits {H : Type} (k : IntKind) : ∀ zs : List Int, Rows.uptoBulkAll (lits (H := H) k zs) = zs.length
  | [] => rfl
  | n :: zs => by
    have ih := bulkI_lits (H := H) k zs
    unfold lits at ih ⊢
    rw [List.map_cons, Rows.uptoBulkAll, ih, List.length_cons]
    simp [Rows.uptoBulk, Nat.add_comm]
theorem bulkI_slice {H : Type} (k : IntKind) (zs : List Int) (l : Nat) (h : l ≤ zs.length) : l ≤ Rows.uptoBulk (.slice (lits (H := H) k (zs.take l)) (lits k (zs.drop l))) := by
  rw [Rows.uptoBulk, bulkI_lits, bulkI_lits, List.length_take, List.length_drop]
  omega
theorem cellsIntL : Tryz.prog.cellsOf 3 = 1 := by kernel_rfl
section
variable {H : Type} {enc : TypeId × Value → H} {W : World} {held : Bool}
theorem open_intsL {fuel : Nat} {a : Option Addr} {len cap : Nat} {d : DataW H} {q : List MemPlace}
    (h : DataW.trod enc Tryz.prog W 0 (fun _ => true) held fuel 22 [.slice a len cap] = some (d, q)) :
    ∃ l : List Int, IntsV W (.slice a len cap) l ∧ l.length ≤ Rows.uptoBulk d := by
  rcases open_ints Tryz.underlying22 Tryz.underlying3 cellsIntL h with ⟨hcs, _⟩ | ⟨x, l, c, zs, hcs, _, hl, hm, hz, hd, hcell, hwz⟩
  · cases hcs
    exact ⟨[], ⟨none, 0, rfl, Nat.le_refl _, fun h => absurd rfl h⟩, Nat.zero_le _⟩
  · cases hcs
    have hz' : zs.length = cap := by simpa using hz
    have hle : (zs.take len).length = len := by rw [List.length_take]; omega
    refine ⟨zs.take len, ⟨some x, cap, by rw [hle], by omega, fun hne => ?_⟩, ?_⟩
    · have hpos : 0 < len := by rw [← hle]; exact List.length_pos_iff.2 hne
      obtain ⟨b, off, spot⟩ := x
      have hc := hcell 0 (by omega)
      have hspot : spot = none := by simpa [Addr.add] using World.cell?_spot hc
      subst hspot
      refine ⟨b, off, rfl, fun i y hy => ?_⟩
      have hi : i < len := by rw [← hle]; exact (List.getElem?_eq_some_iff.1 hy).1
      have h1 := hcell i (by omega)
      rw [Addr.add_mid] at h1
      rw [h1]
      rw [List.getElem?_take, if_pos hi] at hy
      simp [List.getD, hy]
    · rw [hle, show d = _ from congrArg Prod.fst hd]
      exact bulkI_slice .i64 zs len (by omega)
end
end Go.Proofs.YtppkilblkobkhaaGreatDoor
