/- Tokens that are handed in: what a slice of them is. -/
import Derived.Test.YtkklapoceknbcaaGreatDoorXw
import Derived.Test.YtkklapoceknbcaaGreatDoorRows
import Derived.Deep.Slices
import Derived.Deep.Strs
import Derived.ChangeSame
namespace Go.Proofs.YtkklapoceknbcaaGreatDoor
open Go.RowKit
theorem cellsStrT : Tryz.prog.cellsOf 9 = 1 := by kernel_rfl
theorem cellsPairT : Tryz.prog.cellsOf 40 = 2 := by kernel_rfl
theorem cellsTokT : Tryz.prog.cellsOf 37 = 4 := by kernel_rfl
theorem cellsKindT : Tryz.prog.cellsOf 34 = 1 := by kernel_rfl
theorem cellsPairsT : Tryz.prog.cellsOf 35 = 1 := by kernel_rfl
section
variable {H : Type} {enc : TypeId × Value → H} {W : World} {held : Bool}
theorem bulk_memT : ∀ (ds : List (DataW H)) (d : DataW H), d ∈ ds → Rows.uptoBulk d ≤ Rows.uptoBulkAll ds
  | [], _, h => by cases h
  | e :: ds, d, h => by
    rw [Rows.uptoBulkAll]
    rcases List.mem_cons.1 h with rfl | h
    · omega
    · have := bulk_memT ds d h; omega
theorem bulk_lenT : ∀ (ds : List (DataW H)), (∀ d ∈ ds, 1 ≤ Rows.uptoBulk d) → ds.length ≤ Rows.uptoBulkAll ds
  | [], _ => Nat.zero_le _
  | e :: ds, h => by
    have := bulk_lenT ds (fun d hd => h d (by simp [hd]))
    have h1 := h e (by simp)
    rw [Rows.uptoBulkAll, List.length_cons]
    omega
theorem pair_read {fuel : Nat} {cs : List Value} {d : DataW H} {q : List MemPlace}
    (h : DataW.trod enc Tryz.prog W 0 (fun _ => true) held fuel 40 cs = some (d, q)) : ∃ x y : ByteArray, cs = [.string x, .string y] ∧ x.size + y.size + 3 ≤ Rows.uptoBulk d := by
  obtain ⟨y0, y1, n, hx, hl, h0, h1⟩ := ChangeShapes.trod_struct2 Tryz.underlying40 h
  rw [cellsPairT] at hl
  simp only [cellsStrT] at h0 h1
  obtain ⟨z0, e0, rfl, _⟩ := DataW.trod_string Tryz.underlying9 h0
  obtain ⟨z1, e1, rfl, _⟩ := DataW.trod_string Tryz.underlying9 h1
  match cs, hl with
  | [v0, v1], _ =>
    simp at e0 e1
    have hd := congrArg Prod.fst hx
    simp only at hd
    subst e0 e1 hd
    refine ⟨z0, z1, rfl, ?_⟩
    simp only [Rows.uptoBulk, Rows.uptoBulkAll]
    have e1 : z0.data.toList.length = z0.size := rfl
    have e2 : z1.data.toList.length = z1.size := rfl
    omega
theorem pairs_read {fuel : Nat} {cs : List Value} {d : DataW H} {q : List MemPlace}
    (h : DataW.trod enc Tryz.prog W 0 (fun _ => true) held fuel 35 cs = some (d, q)) : ∃ (v : Value) (l : List (ByteArray × ByteArray)), cs = [v] ∧ PairsArg W v l ∧ l.length ≤ Rows.uptoBulk d ∧ ∀ x ∈ l, x.1.size ≤ Rows.uptoBulk d ∧ x.2.size ≤ Rows.uptoBulk d := by
  rcases Deep.open_slice Tryz.underlying35 h with ⟨h0, _⟩ | ⟨ad, len, cap, m, n, D, Pl, hcs, hb, hl, hm, hmm, hx, hall⟩
  · exact ⟨_, [], h0, ⟨none, 0, rfl, fun h => absurd rfl h⟩, Nat.zero_le _, fun x hx => by cases hx⟩
  · have hd : d = .slice ((List.range len).map D) ((List.range (m - len)).map fun j => D (len + j)) := congrArg Prod.fst hx
    have hlm : len ≤ m := by rw [hmm]; simp; omega
    have each : ∀ i, i < len → ∃ y : ByteArray × ByteArray, W.cell? (ad.add (i * 2)) = some (.string y.1) ∧ W.cell? (ad.add (i * 2 + 1)) = some (.string y.2) ∧ y.1.size + y.2.size + 3 ≤ Rows.uptoBulk (D i) := by
      intro i hi
      obtain ⟨cs', h1, h2⟩ := hall i (by omega)
      rw [cellsPairT] at h1
      obtain ⟨x, y, rfl, hsz⟩ := pair_read h2
      obtain ⟨_, _, hcell⟩ := World.cells?_some h1
      have e0 := hcell 0 (by omega)
      have e1 := hcell 1 (by omega)
      rw [Deep.add_add] at e0 e1
      exact ⟨(x, y), by simpa using e0, by simpa using e1, hsz⟩
    haveI : Inhabited (ByteArray × ByteArray) := ⟨(⟨#[]⟩, ⟨#[]⟩)⟩
    obtain ⟨f, hf⟩ := Deep.choose_lt each
    have hall1 : ∀ d' ∈ (List.range len).map D, 1 ≤ Rows.uptoBulk d' := fun d' hd' => by
      obtain ⟨i, hi, rfl⟩ := List.mem_map.1 hd'
      have := (hf i (List.mem_range.1 hi)).2.2
      omega
    have hbl := bulk_lenT _ hall1
    rw [List.length_map, List.length_range] at hbl
    have hdb : Rows.uptoBulkAll ((List.range len).map D) + 1 ≤ Rows.uptoBulk d := by rw [hd, Rows.uptoBulk]; omega
    refine ⟨_, (List.range len).map f, hcs, ⟨some ad, cap, by simp, fun hne => ?_⟩, by rw [List.length_map, List.length_range]; omega, fun x hx => ?_⟩
    · have hlen : 0 < len := by
        cases len with
        | zero => exact absurd rfl hne
        | succ n => omega
      obtain ⟨b, o, sp⟩ := ad
      have hsp : sp = none := by
        have := (hf 0 hlen).1
        simpa [Addr.add] using World.cell?_spot this
      subst hsp
      refine ⟨b, o, rfl, fun i x hx => ?_⟩
      rw [List.getElem?_map] at hx
      obtain ⟨j, hj, rfl⟩ := Option.map_eq_some_iff.1 hx
      obtain ⟨h1, h2⟩ := List.getElem?_eq_some_iff.1 hj
      simp at h1 h2
      subst h2
      obtain ⟨c0, c1, _⟩ := hf i h1
      rw [Addr.add_mid] at c0 c1
      exact ⟨c0, by rw [Nat.add_assoc]; exact c1⟩
    · obtain ⟨i, hi, rfl⟩ := List.mem_map.1 hx
      have h1 := (hf i (List.mem_range.1 hi)).2.2
      have h2 := bulk_memT _ (D i) (List.mem_map.2 ⟨i, hi, rfl⟩)
      omega
theorem trod_struct4T {P : Program} {w : World} {base : Nat} {spare : Nat → Bool} {t : TypeId} {f0 f1 f2 f3 : Field} {fuel : Nat} {cs : List Value} {x : DataW H × List MemPlace} (ht : P.underlying t = some (.struct #[f0, f1, f2, f3])) (h : DataW.trod enc P w base spare held fuel t cs = some x) :
    ∃ y0 y1 y2 y3 n, x.1 = .agg [y0.1, y1.1, y2.1, y3.1] ∧ cs.length = P.cellsOf t ∧ DataW.trod enc P w base spare held n f0.type ((cs.drop f0.offset).take (P.cellsOf f0.type)) = some y0 ∧
      DataW.trod enc P w base spare held n f1.type ((cs.drop f1.offset).take (P.cellsOf f1.type)) = some y1 ∧ DataW.trod enc P w base spare held n f2.type ((cs.drop f2.offset).take (P.cellsOf f2.type)) = some y2 ∧ DataW.trod enc P w base spare held n f3.type ((cs.drop f3.offset).take (P.cellsOf f3.type)) = some y3 := by
  obtain ⟨xs, n, _, hx, hl, hlen, hf⟩ := DataW.trod_struct ht h
  match xs, hlen with
  | [y0, y1, y2, y3], _ => exact ⟨y0, y1, y2, y3, n, by rw [hx]; rfl, hl, by simpa using hf 0 f0 rfl, by simpa using hf 1 f1 rfl, by simpa using hf 2 f2 rfl, by simpa using hf 3 f3 rfl⟩
/-- A token's parts are not greater than what it holds. -/
structure Fits (t : BTok) (m : Nat) : Prop where
  l : t.attrs.length ≤ m
  a : ∀ x ∈ t.attrs, x.1.size ≤ m ∧ x.2.size ≤ m
  n : t.name.size ≤ m
  x : t.text.size ≤ m
theorem Fits.up {t : BTok} {n m : Nat} (h : Fits t n) (hm : n ≤ m) : Fits t m := ⟨Nat.le_trans h.l hm, fun x hx => ⟨Nat.le_trans (h.a x hx).1 hm, Nat.le_trans (h.a x hx).2 hm⟩, Nat.le_trans h.n hm, Nat.le_trans h.x hm⟩
theorem tok_read {fuel : Nat} {cs : List Value} {d : DataW H} {q : List MemPlace}
    (h : DataW.trod enc Tryz.prog W 0 (fun _ => true) held fuel 37 cs = some (d, q)) : ∃ (t : BTok) (v : Value), cs = [.int .i64 t.kind, .string t.name, v, .string t.text] ∧ PairsArg W v t.attrs ∧ Fits t (Rows.uptoBulk d) ∧ 1 ≤ Rows.uptoBulk d := by
  obtain ⟨y0, y1, y2, y3, n, hx, hl, h0, h1, h2, h3⟩ := trod_struct4T Tryz.underlying37 h
  rw [cellsTokT] at hl
  simp only [cellsKindT, cellsStrT, cellsPairsT] at h0 h1 h2 h3
  obtain ⟨d2, q2⟩ := y2
  obtain ⟨z0, e0, rfl, _⟩ := DataW.trod_int Tryz.underlying34 h0
  obtain ⟨z1, e1, rfl, _⟩ := DataW.trod_string Tryz.underlying9 h1
  obtain ⟨v, l, e2, hp, b1, b2⟩ := pairs_read h2
  obtain ⟨z3, e3, rfl, _⟩ := DataW.trod_string Tryz.underlying9 h3
  match cs, hl with
  | [v0, v1, v2, v3], _ =>
    simp at e0 e1 e2 e3
    simp only at hx
    subst e0 e1 e2 e3 hx
    have k1 : z1.data.toList.length = z1.size := rfl
    have k3 : z3.data.toList.length = z3.size := rfl
    have kb : Rows.uptoBulk (DataW.agg [.lit (.int .i64 z0), .lit (.string z1.data.toList), d2, .lit (.string z3.data.toList)] : DataW H) = z1.size + z3.size + Rows.uptoBulk d2 + 4 := by
      simp only [Rows.uptoBulk, Rows.uptoBulkAll]
      omega
    refine ⟨⟨z0, z1, l, z3⟩, v2, rfl, hp, ?_, ?_⟩
    · rw [kb]
      refine ⟨?_, fun x hx => ?_, ?_, ?_⟩
      · show l.length ≤ _
        omega
      · have := b2 x hx
        exact ⟨by omega, by omega⟩
      · show z1.size ≤ _
        omega
      · show z3.size ≤ _
        omega
    · rw [kb]
      omega
theorem open_toks {fuel : Nat} {a : Option Addr} {len cap : Nat} {d : DataW H} {q : List MemPlace}
    (h : DataW.trod enc Tryz.prog W 0 (fun _ => true) held fuel 22 [.slice a len cap] = some (d, q)) :
    ∃ ts : List BTok, ts.length = len ∧ ToksArg W a ts ∧ (∀ t ∈ ts, Fits t (Rows.uptoBulk d)) ∧ len ≤ Rows.uptoBulk d := by
  rcases Deep.open_slice Tryz.underlying22 h with ⟨h0, _⟩ | ⟨ad, len', cap', m, n, D, Pl, hcs, hb, hl, hm, hmm, hx, hall⟩
  · cases h0
    exact ⟨[], rfl, (fun h => absurd rfl h), (fun x hx => by cases hx), Nat.zero_le _⟩
  · cases hcs
    have hd : d = .slice ((List.range len).map D) ((List.range (m - len)).map fun j => D (len + j)) := congrArg Prod.fst hx
    have hlm : len ≤ m := by rw [hmm]; simp; omega
    have each : ∀ i, i < len → ∃ y : BTok × Value, W.cell? (ad.add (i * 4)) = some (.int .i64 y.1.kind) ∧ W.cell? (ad.add (i * 4 + 1)) = some (.string y.1.name) ∧ W.cell? (ad.add (i * 4 + 2)) = some y.2 ∧ W.cell? (ad.add (i * 4 + 3)) = some (.string y.1.text) ∧ PairsArg W y.2 y.1.attrs ∧ Fits y.1 (Rows.uptoBulk (D i)) ∧ 1 ≤ Rows.uptoBulk (D i) := by
      intro i hi
      obtain ⟨cs', h1, h2⟩ := hall i (by omega)
      rw [cellsTokT] at h1
      obtain ⟨t, v, rfl, hp, hft, h1b⟩ := tok_read h2
      obtain ⟨_, _, hcell⟩ := World.cells?_some h1
      have e0 := hcell 0 (by omega)
      have e1 := hcell 1 (by omega)
      have e2 := hcell 2 (by omega)
      have e3 := hcell 3 (by omega)
      rw [Deep.add_add] at e0 e1 e2 e3
      exact ⟨(t, v), by simpa using e0, by simpa using e1, by simpa using e2, by simpa using e3, hp, hft, h1b⟩
    haveI : Inhabited (BTok × Value) := ⟨(⟨0, ⟨#[]⟩, [], ⟨#[]⟩⟩, .bool false)⟩
    obtain ⟨f, hf⟩ := Deep.choose_lt each
    have hall1 : ∀ d' ∈ (List.range len).map D, 1 ≤ Rows.uptoBulk d' := fun d' hd' => by
      obtain ⟨i, hi, rfl⟩ := List.mem_map.1 hd'
      exact (hf i (List.mem_range.1 hi)).2.2.2.2.2.2
    have hbl := bulk_lenT _ hall1
    rw [List.length_map, List.length_range] at hbl
    have hdb : Rows.uptoBulkAll ((List.range len).map D) + 1 ≤ Rows.uptoBulk d := by rw [hd, Rows.uptoBulk]; omega
    refine ⟨(List.range len).map fun i => (f i).1, by simp, fun hne => ?_, fun x hx => ?_, by omega⟩
    · have hlen : 0 < len := by
        cases len with
        | zero => exact absurd rfl hne
        | succ n => omega
      obtain ⟨b, o, sp⟩ := ad
      have hsp : sp = none := by
        have := (hf 0 hlen).1
        simpa [Addr.add] using World.cell?_spot this
      subst hsp
      refine ⟨b, o, rfl, fun i x hx => ?_⟩
      rw [List.getElem?_map] at hx
      obtain ⟨j, hj, rfl⟩ := Option.map_eq_some_iff.1 hx
      obtain ⟨h1, h2⟩ := List.getElem?_eq_some_iff.1 hj
      simp at h1 h2
      subst h2
      obtain ⟨c0, c1, c2, c3, hp, _, _⟩ := hf i h1
      rw [Addr.add_mid] at c0 c1 c2 c3
      exact ⟨c0, by rw [Nat.add_assoc]; exact c1, ⟨_, by rw [Nat.add_assoc]; exact c2, hp⟩, by rw [Nat.add_assoc]; exact c3⟩
    · obtain ⟨i, hi, rfl⟩ := List.mem_map.1 hx
      have h2 := bulk_memT _ (D i) (List.mem_map.2 ⟨i, hi, rfl⟩)
      exact (hf i (List.mem_range.1 hi)).2.2.2.2.2.1.up (by omega)
theorem Fits.small {t : BTok} {n : Nat} (h : Fits t n) (hn : n ≤ 1048576) : Small t := ⟨Nat.le_trans h.l hn, fun x hx => ⟨Nat.le_trans (h.a x hx).1 hn, Nat.le_trans (h.a x hx).2 hn⟩, Nat.le_trans h.n hn, Nat.le_trans h.x hn⟩
end
end Go.Proofs.YtkklapoceknbcaaGreatDoor
