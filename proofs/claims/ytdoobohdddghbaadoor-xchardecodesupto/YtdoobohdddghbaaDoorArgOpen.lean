/- From the reading of a row of bytes that was handed in to what the walks ask. -/
import Derived.Test.YtdoobohdddghbaaDoorArgBytes
import Derived.ChangeSlices
namespace Go.Proofs.YtdoobohdddghbaaDoor
open Go.ChangeShapes Go.WideShapes Go.ChangeAt Go.RowKit
theorem argB_row {w : World} (x : Addr) (l c : Nat) (zs : List Int) (hl : l ≤ c) (hm : c ≤ maxLen) (hz : zs.length = c)
    (hcell : ∀ i, i < zs.length → w.cell? (x.add i) = some (.int .u8 (zs.getD i 0))) (hwz : ∀ n ∈ zs, (Lit.int .u8 n).wf = true) : ∃ t, ArgB w (.slice (some x) l c) t ∧ t.size = l := by
  by_cases h0 : l = 0
  · subst h0
    exact ⟨⟨#[]⟩, .inl ⟨rfl, _, _, rfl, hm, fun h => by cases h⟩, rfl⟩
  · obtain ⟨b, off, spot⟩ := x
    have hc := hcell 0 (by omega)
    have hspot : spot = none := by simpa [Addr.add] using World.cell?_spot hc
    subst hspot
    have hsz : (⟨((zs.take l).map fun n => UInt8.ofNat n.toNat).toArray⟩ : ByteArray).size = l := by
      rw [size_mk, List.length_map, List.length_take]; omega
    refine ⟨⟨((zs.take l).map fun n => UInt8.ofNat n.toNat).toArray⟩, .inr ⟨b, off, c, by rw [hsz], by omega, hm, fun i hi => ?_⟩, hsz⟩
    rw [hsz] at hi
    have h1 := hcell i (by omega)
    have e : (⟨b, off, none⟩ : Addr).add i = ⟨b, off + i, none⟩ := by unfold Addr.add; split <;> simp_all
    rw [e] at h1
    rw [h1, get_data _ i (by rw [hsz]; exact hi)]
    have hi' : i < zs.length := by omega
    have hw := hwz zs[i] (List.getElem_mem hi')
    have hg : zs.getD i 0 = zs[i] := by simp [List.getD, List.getElem?_eq_getElem hi']
    rw [hg]
    simp only [List.getElem_map, List.getElem_take]
    have hb : 0 ≤ zs[i] ∧ zs[i] < 256 := by
      have e1 : IntKind.u8.min = 0 := rfl
      have e2 : IntKind.u8.max = 255 := rfl
      simp [Lit.wf] at hw
      omega
    rw [UInt8.toNat_ofNat']
    congr 2
    omega
theorem bulk_lits {H : Type} (k : IntKind) : ∀ zs : List Int, Rows.uptoBulkAll (lits (H := H) k zs) = zs.length
  | [] => rfl
  | n :: zs => by
    have ih := bulk_lits (H := H) k zs
    unfold lits at ih ⊢
    rw [List.map_cons, Rows.uptoBulkAll, ih, List.length_cons]
    simp [Rows.uptoBulk, Nat.add_comm]
theorem bulk_slice {H : Type} (k : IntKind) (zs : List Int) (l : Nat) (h : l ≤ zs.length) : l ≤ Rows.uptoBulk (.slice (lits (H := H) k (zs.take l)) (lits k (zs.drop l))) := by
  rw [Rows.uptoBulk, bulk_lits, bulk_lits, List.length_take, List.length_drop]
  omega
end Go.Proofs.YtdoobohdddghbaaDoor
