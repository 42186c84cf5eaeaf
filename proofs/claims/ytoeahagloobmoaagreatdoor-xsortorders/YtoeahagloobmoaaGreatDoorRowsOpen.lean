/- Rows of keys that are handed in: what a slice of them is. -/
import Derived.Test.YtoeahagloobmoaaGreatDoorLawRows
import Derived.Deep.Slices
import Derived.Deep.Strs
import Derived.ChangeSame
namespace Go.Proofs.YtoeahagloobmoaaGreatDoor
open Go.RowKit
theorem cellsStr2 : Tryz.prog.cellsOf 9 = 1 := by kernel_rfl
theorem cellsBool2 : Tryz.prog.cellsOf 4 = 1 := by kernel_rfl
theorem cellsNum2 : Tryz.prog.cellsOf 37 = 2 := by kernel_rfl
theorem cellsKey2 : Tryz.prog.cellsOf 39 = 5 := by kernel_rfl
theorem cellsKind2 : Tryz.prog.cellsOf 35 = 1 := by kernel_rfl
theorem cells64 : Tryz.prog.cellsOf 2 = 1 := by kernel_rfl
theorem cellsRow2 : Tryz.prog.cellsOf 32 = 1 := by kernel_rfl
section
variable {H : Type} {enc : TypeId × Value → H} {W : World} {held : Bool}
theorem trod_struct4 {P : Program} {w : World} {base : Nat} {spare : Nat → Bool} {t : TypeId} {f0 f1 f2 f3 : Field} {fuel : Nat} {cs : List Value} {x : DataW H × List MemPlace} (ht : P.underlying t = some (.struct #[f0, f1, f2, f3])) (h : DataW.trod enc P w base spare held fuel t cs = some x) :
    ∃ y0 y1 y2 y3 n, cs.length = P.cellsOf t ∧ DataW.trod enc P w base spare held n f0.type ((cs.drop f0.offset).take (P.cellsOf f0.type)) = some y0 ∧
      DataW.trod enc P w base spare held n f1.type ((cs.drop f1.offset).take (P.cellsOf f1.type)) = some y1 ∧ DataW.trod enc P w base spare held n f2.type ((cs.drop f2.offset).take (P.cellsOf f2.type)) = some y2 ∧ DataW.trod enc P w base spare held n f3.type ((cs.drop f3.offset).take (P.cellsOf f3.type)) = some y3 := by
  obtain ⟨xs, n, _, _, hl, hlen, hf⟩ := DataW.trod_struct ht h
  match xs, hlen with
  | [y0, y1, y2, y3], _ => exact ⟨y0, y1, y2, y3, n, hl, by simpa using hf 0 f0 rfl, by simpa using hf 1 f1 rfl, by simpa using hf 2 f2 rfl, by simpa using hf 3 f3 rfl⟩
theorem key_read {fuel : Nat} {cs : List Value} {d : DataW H × List MemPlace}
    (h : DataW.trod enc Tryz.prog W 0 (fun _ => true) held fuel 39 cs = some d) : ∃ x : KeyD, cs = keyCells x := by
  obtain ⟨y0, y1, y2, y3, n, hl, h0, h1, h2, h3⟩ := trod_struct4 Tryz.underlying39 h
  rw [cellsKey2] at hl
  simp only [cellsBool2, cellsStr2, cellsNum2] at h0 h1 h2 h3
  obtain ⟨b0, e0, _⟩ := DataW.trod_bool Tryz.underlying4 h0
  obtain ⟨b1, e1, _⟩ := DataW.trod_bool Tryz.underlying4 h1
  obtain ⟨s2, e2, _, _⟩ := DataW.trod_string Tryz.underlying9 h2
  obtain ⟨z0, z1, n', _, _, k0, k1⟩ := ChangeShapes.trod_struct2 Tryz.underlying37 h3
  simp only [cellsKind2, cells64] at k0 k1
  obtain ⟨n3, e3, _, _⟩ := DataW.trod_int Tryz.underlying35 k0
  obtain ⟨n4, e4, _, _⟩ := DataW.trod_int Tryz.underlying2 k1
  match cs, hl with
  | [v0, v1, v2, v3, v4], _ =>
    simp at e0 e1 e2 e3 e4
    subst e0 e1 e2 e3 e4
    exact ⟨⟨b0, b1, s2, n3, n4⟩, rfl⟩
theorem row_read {fuel : Nat} {cs : List Value} {d : DataW H × List MemPlace}
    (h : DataW.trod enc Tryz.prog W 0 (fun _ => true) held fuel 32 cs = some d) : ∃ (v : Value) (l : List KeyD), cs = [v] ∧ RowArg W v l := by
  rcases Deep.open_slice Tryz.underlying32 h with ⟨h0, _⟩ | ⟨ad, len, cap, m, n, D, Pl, hcs, hb, hl, hm, hmm, hx, hall⟩
  · exact ⟨_, [], h0, none, 0, rfl, fun h => absurd rfl h⟩
  · have hlm : len ≤ m := by rw [hmm]; simp; omega
    haveI : Inhabited KeyD := ⟨keyZ⟩
    have each : ∀ i, i < len → ∃ x : KeyD, ∀ j, j < 5 → W.cell? (ad.add (i * 5 + j)) = (keyCells x)[j]? := by
      intro i hi
      obtain ⟨cs', h1, h2⟩ := hall i (by omega)
      rw [cellsKey2] at h1
      obtain ⟨x, rfl⟩ := key_read h2
      obtain ⟨_, _, hcell⟩ := World.cells?_some h1
      refine ⟨x, fun j hj => ?_⟩
      have e := hcell j hj
      rw [Deep.add_add] at e
      rw [e]
    obtain ⟨f, hf⟩ := Deep.choose_lt each
    refine ⟨_, (List.range len).map f, hcs, some ad, cap, by simp, fun hne => ?_⟩
    have hlen : 0 < len := by
      cases len with
      | zero => exact absurd rfl hne
      | succ n => omega
    obtain ⟨b, o, sp⟩ := ad
    have hsp : sp = none := by
      have e : W.cell? ((⟨b, o, sp⟩ : Addr).add (0 * 5 + 0)) = some (.bool (f 0).num) := hf 0 hlen 0 (by omega)
      simpa [Addr.add] using World.cell?_spot e
    subst hsp
    refine ⟨b, o, rfl, fun i x hx => ?_⟩
    rw [List.getElem?_map] at hx
    obtain ⟨j, hj, rfl⟩ := Option.map_eq_some_iff.1 hx
    have hij : i < len ∧ j = i := by
      obtain ⟨h1, h2⟩ := List.getElem?_eq_some_iff.1 hj
      simp at h1 h2
      exact ⟨h1, h2.symm⟩
    obtain ⟨hi, rfl⟩ := hij
    have e : ∀ c, c < 5 → W.cell? ⟨b, o + (j * 5 + c), none⟩ = (keyCells (f j))[c]? := fun c hc => by
      have := hf j hi c hc
      rw [Addr.add_mid] at this
      exact this
    exact ⟨e 0 (by omega), e 1 (by omega), e 2 (by omega), e 3 (by omega), e 4 (by omega)⟩
theorem open_rows {fuel : Nat} {a : Option Addr} {len cap : Nat} {d : DataW H} {q : List MemPlace}
    (h : DataW.trod enc Tryz.prog W 0 (fun _ => true) held fuel 22 [.slice a len cap] = some (d, q)) :
    ∃ (V : Nat → Value) (L : Nat → List KeyD), RowsArg W a len V L := by
  rcases Deep.open_slice Tryz.underlying22 h with ⟨h0, _⟩ | ⟨ad, len', cap', m, n, D, Pl, hcs, hb, hl, hm, hmm, hx, hall⟩
  · cases h0
    exact ⟨fun _ => .slice none 0 0, fun _ => [], fun h => absurd h (Nat.not_lt_zero 0)⟩
  · cases hcs
    have hlm : len ≤ m := by rw [hmm]; simp; omega
    haveI : Inhabited (Value × List KeyD) := ⟨(.slice none 0 0, [])⟩
    have each : ∀ i, i < len → ∃ y : Value × List KeyD, W.cell? (ad.add i) = some y.1 ∧ RowArg W y.1 y.2 := by
      intro i hi
      obtain ⟨cs', h1, h2⟩ := hall i (by omega)
      rw [cellsRow2] at h1
      obtain ⟨v, l, rfl, hr⟩ := row_read h2
      obtain ⟨_, _, hcell⟩ := World.cells?_some h1
      have e0 := hcell 0 (by omega)
      rw [Deep.add_add] at e0
      exact ⟨(v, l), by simpa using e0, hr⟩
    obtain ⟨f, hf⟩ := Deep.choose_lt each
    refine ⟨fun i => (f i).1, fun i => (f i).2, fun h0 => ?_⟩
    obtain ⟨b, o, sp⟩ := ad
    have hsp : sp = none := by
      have := (hf 0 h0).1
      simpa [Addr.add] using World.cell?_spot this
    subst hsp
    refine ⟨b, o, rfl, fun i hi => ?_⟩
    obtain ⟨h1, h2⟩ := hf i hi
    rw [Addr.add_mid] at h1
    exact ⟨h1, h2⟩
end
end Go.Proofs.YtoeahagloobmoaaGreatDoor
