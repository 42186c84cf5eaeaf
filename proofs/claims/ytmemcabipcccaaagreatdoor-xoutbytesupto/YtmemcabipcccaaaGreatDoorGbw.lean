/- Several texts, laid as one. -/
import Derived.Test.YtmemcabipcccaaaGreatDoorGax
import Derived.Test.YtmemcabipcccaaaGreatDoorRows
import Derived.Deep.Slices
import Derived.Deep.Strs
import Derived.ChangeSame
import Derived.Test.YtmemcabipcccaaaGreatDoorGak
import Derived.Lib.LaidU8
import Derived.HandedShaped
import Derived.WalkKit
import Derived.ProofKit
import Derived.OpenShut
import Derived.ShutString
import Derived.Deep.DeepHandedRow
import Derived.Lib.LaidTab
/- Tokens that are handed in: what a slice of them is. -/
namespace Go.Proofs.YtmemcabipcccaaaGreatDoor
open Go.RowKit
theorem cellsStrT : Tryz.prog.cellsOf 9 = 1 := by kernel_rfl
theorem cellsPairT : Tryz.prog.cellsOf 72 = 2 := by kernel_rfl
theorem cellsTokT : Tryz.prog.cellsOf 53 = 4 := by kernel_rfl
theorem cellsKindT : Tryz.prog.cellsOf 50 = 1 := by kernel_rfl
theorem cellsPairsT : Tryz.prog.cellsOf 51 = 1 := by kernel_rfl
section
variable {H : Type} {enc : TypeId × Value → H} {W : World} {held : Bool}
theorem bulk_memT : ∀ (ds : List (DataW H)) (d : DataW H), d ∈ ds → Rows.uptoBulk d ≤ Rows.uptoBulkAll ds
  | [], _, h => by cases h
  | e :: ds, d, h => by
    rw [Rows.uptoBulkAll]
    rcases List.mem_cons.1 h with rfl | h
    · omega
    · have := bulk_memT ds d h; omega
theorem bulk_lenT : ∀ (ds : List (DataW H)), (∀ d ∈ ds, 1 ≤ Rows.uptoBulk d) → ds.length ≤ Rows.uptoBulkAll ds
  | [], _ => Nat.zero_le _
  | e :: ds, h => by
    have := bulk_lenT ds (fun d hd => h d (by simp [hd]))
    have h1 := h e (by simp)
    rw [Rows.uptoBulkAll, List.length_cons]
    omega
theorem pair_read {fuel : Nat} {cs : List Value} {d : DataW H} {q : List MemPlace}
    (h : DataW.trod enc Tryz.prog W 0 (fun _ => true) held fuel 72 cs = some (d, q)) : ∃ x y : ByteArray, cs = [.string x, .string y] ∧ x.size + y.size + 3 ≤ Rows.uptoBulk d := by
  obtain ⟨y0, y1, n, hx, hl, h0, h1⟩ := ChangeShapes.trod_struct2 Tryz.underlying72 h
  rw [cellsPairT] at hl
  simp only [cellsStrT] at h0 h1
  obtain ⟨z0, e0, rfl, _⟩ := DataW.trod_string Tryz.underlying9 h0
  obtain ⟨z1, e1, rfl, _⟩ := DataW.trod_string Tryz.underlying9 h1
  match cs, hl with
  | [v0, v1], _ =>
    simp at e0 e1
    have hd := congrArg Prod.fst hx
    simp only at hd
    subst e0 e1 hd
    refine ⟨z0, z1, rfl, ?_⟩
    simp only [Rows.uptoBulk, Rows.uptoBulkAll]
    have e1 : z0.data.toList.length = z0.size := rfl
    have e2 : z1.data.toList.length = z1.size := rfl
    omega
theorem pairs_read {fuel : Nat} {cs : List Value} {d : DataW H} {q : List MemPlace}
    (h : DataW.trod enc Tryz.prog W 0 (fun _ => true) held fuel 51 cs = some (d, q)) : ∃ (v : Value) (l : List (ByteArray × ByteArray)), cs = [v] ∧ PairsArg W v l ∧ l.length ≤ Rows.uptoBulk d ∧ ∀ x ∈ l, x.1.size ≤ Rows.uptoBulk d ∧ x.2.size ≤ Rows.uptoBulk d := by
  rcases Deep.open_slice Tryz.underlying51 h with ⟨h0, _⟩ | ⟨ad, len, cap, m, n, D, Pl, hcs, hb, hl, hm, hmm, hx, hall⟩
  · exact ⟨_, [], h0, ⟨none, 0, rfl, fun h => absurd rfl h⟩, Nat.zero_le _, fun x hx => by cases hx⟩
  · have hd : d = .slice ((List.range len).map D) ((List.range (m - len)).map fun j => D (len + j)) := congrArg Prod.fst hx
    have hlm : len ≤ m := by rw [hmm]; simp; omega
    have each : ∀ i, i < len → ∃ y : ByteArray × ByteArray, W.cell? (ad.add (i * 2)) = some (.string y.1) ∧ W.cell? (ad.add (i * 2 + 1)) = some (.string y.2) ∧ y.1.size + y.2.size + 3 ≤ Rows.uptoBulk (D i) := by
      intro i hi
      obtain ⟨cs', h1, h2⟩ := hall i (by omega)
      rw [cellsPairT] at h1
      obtain ⟨x, y, rfl, hsz⟩ := pair_read h2
      obtain ⟨_, _, hcell⟩ := World.cells?_some h1
      have e0 := hcell 0 (by omega)
      have e1 := hcell 1 (by omega)
      rw [Deep.add_add] at e0 e1
      exact ⟨(x, y), by simpa using e0, by simpa using e1, hsz⟩
    haveI : Inhabited (ByteArray × ByteArray) := ⟨(⟨#[]⟩, ⟨#[]⟩)⟩
    obtain ⟨f, hf⟩ := Deep.choose_lt each
    have hall1 : ∀ d' ∈ (List.range len).map D, 1 ≤ Rows.uptoBulk d' := fun d' hd' => by
      obtain ⟨i, hi, rfl⟩ := List.mem_map.1 hd'
      have := (hf i (List.mem_range.1 hi)).2.2
      omega
    have hbl := bulk_lenT _ hall1
    rw [List.length_map, List.length_range] at hbl
    have hdb : Rows.uptoBulkAll ((List.range len).map D) + 1 ≤ Rows.uptoBulk d := by rw [hd, Rows.uptoBulk]; omega
    refine ⟨_, (List.range len).map f, hcs, ⟨some ad, cap, by simp, fun hne => ?_⟩, by rw [List.length_map, List.length_range]; omega, fun x hx => ?_⟩
    · have hlen : 0 < len := by
        cases len with
        | zero => exact absurd rfl hne
        | succ n => omega
      obtain ⟨b, o, sp⟩ := ad
      have hsp : sp = none := by
        have := (hf 0 hlen).1
        simpa [Addr.add] using World.cell?_spot this
      subst hsp
      refine ⟨b, o, rfl, fun i x hx => ?_⟩
      rw [List.getElem?_map] at hx
      obtain ⟨j, hj, rfl⟩ := Option.map_eq_some_iff.1 hx
      obtain ⟨h1, h2⟩ := List.getElem?_eq_some_iff.1 hj
      simp at h1 h2
      subst h2
      obtain ⟨c0, c1, _⟩ := hf i h1
      rw [Addr.add_mid] at c0 c1
      exact ⟨c0, by rw [Nat.add_assoc]; exact c1⟩
    · obtain ⟨i, hi, rfl⟩ := List.mem_map.1 hx
      have h1 := (hf i (List.mem_range.1 hi)).2.2
      have h2 := bulk_memT _ (D i) (List.mem_map.2 ⟨i, hi, rfl⟩)
      omega
theorem trod_struct4T {P : Program} {w : World} {base : Nat} {spare : Nat → Bool} {t : TypeId} {f0 f1 f2 f3 : Field} {fuel : Nat} {cs : List Value} {x : DataW H × List MemPlace} (ht : P.underlying t = some (.struct #[f0, f1, f2, f3])) (h : DataW.trod enc P w base spare held fuel t cs = some x) :
    ∃ y0 y1 y2 y3 n, x.1 = .agg [y0.1, y1.1, y2.1, y3.1] ∧ cs.length = P.cellsOf t ∧ DataW.trod enc P w base spare held n f0.type ((cs.drop f0.offset).take (P.cellsOf f0.type)) = some y0 ∧
      DataW.trod enc P w base spare held n f1.type ((cs.drop f1.offset).take (P.cellsOf f1.type)) = some y1 ∧ DataW.trod enc P w base spare held n f2.type ((cs.drop f2.offset).take (P.cellsOf f2.type)) = some y2 ∧ DataW.trod enc P w base spare held n f3.type ((cs.drop f3.offset).take (P.cellsOf f3.type)) = some y3 := by
  obtain ⟨xs, n, _, hx, hl, hlen, hf⟩ := DataW.trod_struct ht h
  match xs, hlen with
  | [y0, y1, y2, y3], _ => exact ⟨y0, y1, y2, y3, n, by rw [hx]; rfl, hl, by simpa using hf 0 f0 rfl, by simpa using hf 1 f1 rfl, by simpa using hf 2 f2 rfl, by simpa using hf 3 f3 rfl⟩
/-- A token's parts are not greater than what it holds. -/
structure Fits (t : BTok) (m : Nat) : Prop where
  l : t.attrs.length ≤ m
  a : ∀ x ∈ t.attrs, x.1.size ≤ m ∧ x.2.size ≤ m
  n : t.name.size ≤ m
  x : t.text.size ≤ m
theorem Fits.up {t : BTok} {n m : Nat} (h : Fits t n) (hm : n ≤ m) : Fits t m := ⟨Nat.le_trans h.l hm, fun x hx => ⟨Nat.le_trans (h.a x hx).1 hm, Nat.le_trans (h.a x hx).2 hm⟩, Nat.le_trans h.n hm, Nat.le_trans h.x hm⟩
theorem tok_read {fuel : Nat} {cs : List Value} {d : DataW H} {q : List MemPlace}
    (h : DataW.trod enc Tryz.prog W 0 (fun _ => true) held fuel 53 cs = some (d, q)) : ∃ (t : BTok) (v : Value), cs = [.int .i64 t.kind, .string t.name, v, .string t.text] ∧ PairsArg W v t.attrs ∧ Fits t (Rows.uptoBulk d) ∧ 1 ≤ Rows.uptoBulk d := by
  obtain ⟨y0, y1, y2, y3, n, hx, hl, h0, h1, h2, h3⟩ := trod_struct4T Tryz.underlying53 h
  rw [cellsTokT] at hl
  simp only [cellsKindT, cellsStrT, cellsPairsT] at h0 h1 h2 h3
  obtain ⟨d2, q2⟩ := y2
  obtain ⟨z0, e0, rfl, _⟩ := DataW.trod_int Tryz.underlying50 h0
  obtain ⟨z1, e1, rfl, _⟩ := DataW.trod_string Tryz.underlying9 h1
  obtain ⟨v, l, e2, hp, b1, b2⟩ := pairs_read h2
  obtain ⟨z3, e3, rfl, _⟩ := DataW.trod_string Tryz.underlying9 h3
  match cs, hl with
  | [v0, v1, v2, v3], _ =>
    simp at e0 e1 e2 e3
    simp only at hx
    subst e0 e1 e2 e3 hx
    have k1 : z1.data.toList.length = z1.size := rfl
    have k3 : z3.data.toList.length = z3.size := rfl
    have kb : Rows.uptoBulk (DataW.agg [.lit (.int .i64 z0), .lit (.string z1.data.toList), d2, .lit (.string z3.data.toList)] : DataW H) = z1.size + z3.size + Rows.uptoBulk d2 + 4 := by
      simp only [Rows.uptoBulk, Rows.uptoBulkAll]
      omega
    refine ⟨⟨z0, z1, l, z3⟩, v2, rfl, hp, ?_, ?_⟩
    · rw [kb]
      refine ⟨?_, fun x hx => ?_, ?_, ?_⟩
      · show l.length ≤ _
        omega
      · have := b2 x hx
        exact ⟨by omega, by omega⟩
      · show z1.size ≤ _
        omega
      · show z3.size ≤ _
        omega
    · rw [kb]
      omega
theorem open_toks {fuel : Nat} {a : Option Addr} {len cap : Nat} {d : DataW H} {q : List MemPlace}
    (h : DataW.trod enc Tryz.prog W 0 (fun _ => true) held fuel 23 [.slice a len cap] = some (d, q)) :
    ∃ ts : List BTok, ts.length = len ∧ ToksArg W a ts ∧ (∀ t ∈ ts, Fits t (Rows.uptoBulk d)) ∧ len ≤ Rows.uptoBulk d := by
  rcases Deep.open_slice Tryz.underlying23 h with ⟨h0, _⟩ | ⟨ad, len', cap', m, n, D, Pl, hcs, hb, hl, hm, hmm, hx, hall⟩
  · cases h0
    exact ⟨[], rfl, (fun h => absurd rfl h), (fun x hx => by cases hx), Nat.zero_le _⟩
  · cases hcs
    have hd : d = .slice ((List.range len).map D) ((List.range (m - len)).map fun j => D (len + j)) := congrArg Prod.fst hx
    have hlm : len ≤ m := by rw [hmm]; simp; omega
    have each : ∀ i, i < len → ∃ y : BTok × Value, W.cell? (ad.add (i * 4)) = some (.int .i64 y.1.kind) ∧ W.cell? (ad.add (i * 4 + 1)) = some (.string y.1.name) ∧ W.cell? (ad.add (i * 4 + 2)) = some y.2 ∧ W.cell? (ad.add (i * 4 + 3)) = some (.string y.1.text) ∧ PairsArg W y.2 y.1.attrs ∧ Fits y.1 (Rows.uptoBulk (D i)) ∧ 1 ≤ Rows.uptoBulk (D i) := by
      intro i hi
      obtain ⟨cs', h1, h2⟩ := hall i (by omega)
      rw [cellsTokT] at h1
      obtain ⟨t, v, rfl, hp, hft, h1b⟩ := tok_read h2
      obtain ⟨_, _, hcell⟩ := World.cells?_some h1
      have e0 := hcell 0 (by omega)
      have e1 := hcell 1 (by omega)
      have e2 := hcell 2 (by omega)
      have e3 := hcell 3 (by omega)
      rw [Deep.add_add] at e0 e1 e2 e3
      exact ⟨(t, v), by simpa using e0, by simpa using e1, by simpa using e2, by simpa using e3, hp, hft, h1b⟩
    haveI : Inhabited (BTok × Value) := ⟨(⟨0, ⟨#[]⟩, [], ⟨#[]⟩⟩, .bool false)⟩
    obtain ⟨f, hf⟩ := Deep.choose_lt each
    have hall1 : ∀ d' ∈ (List.range len).map D, 1 ≤ Rows.uptoBulk d' := fun d' hd' => by
      obtain ⟨i, hi, rfl⟩ := List.mem_map.1 hd'
      exact (hf i (List.mem_range.1 hi)).2.2.2.2.2.2
    have hbl := bulk_lenT _ hall1
    rw [List.length_map, List.length_range] at hbl
    have hdb : Rows.uptoBulkAll ((List.range len).map D) + 1 ≤ Rows.uptoBulk d := by rw [hd, Rows.uptoBulk]; omega
    refine ⟨(List.range len).map fun i => (f i).1, by simp, fun hne => ?_, fun x hx => ?_, by omega⟩
    · have hlen : 0 < len := by
        cases len with
        | zero => exact absurd rfl hne
        | succ n => omega
      obtain ⟨b, o, sp⟩ := ad
      have hsp : sp = none := by
        have := (hf 0 hlen).1
        simpa [Addr.add] using World.cell?_spot this
      subst hsp
      refine ⟨b, o, rfl, fun i x hx => ?_⟩
      rw [List.getElem?_map] at hx
      obtain ⟨j, hj, rfl⟩ := Option.map_eq_some_iff.1 hx
      obtain ⟨h1, h2⟩ := List.getElem?_eq_some_iff.1 hj
      simp at h1 h2
      subst h2
      obtain ⟨c0, c1, c2, c3, hp, _, _⟩ := hf i h1
      rw [Addr.add_mid] at c0 c1 c2 c3
      exact ⟨c0, by rw [Nat.add_assoc]; exact c1, ⟨_, by rw [Nat.add_assoc]; exact c2, hp⟩, by rw [Nat.add_assoc]; exact c3⟩
    · obtain ⟨i, hi, rfl⟩ := List.mem_map.1 hx
      have h2 := bulk_memT _ (D i) (List.mem_map.2 ⟨i, hi, rfl⟩)
      exact (hf i (List.mem_range.1 hi)).2.2.2.2.2.1.up (by omega)
theorem Fits.small {t : BTok} {n : Nat} (h : Fits t n) (hn : n ≤ 1048576) : Small t := ⟨Nat.le_trans h.l hn, fun x hx => ⟨Nat.le_trans (h.a x hx).1 hn, Nat.le_trans (h.a x hx).2 hn⟩, Nat.le_trans h.n hn, Nat.le_trans h.x hn⟩
end
end Go.Proofs.YtmemcabipcccaaaGreatDoor
/- From what a row lists of the library's tables, and from the world's shape, to what the walks of layer 3 ask. -/
namespace Go.Proofs.YtmemcabipcccaaaGreatDoor
open Go.ChangeShapes Go.WideShapes Go.ChangeAt Go.RowKit
theorem u8extra : U8Extra Tryz.prog Tryz.lays260_ren where
  n3 := by kernel_rfl
  n4 := by kernel_rfl
  y3 := by kernel_rfl
  y4 := by kernel_rfl
  c5 := by kernel_rfl
  c119 := by kernel_rfl
  c138 := by kernel_rfl
theorem first_data : Rows.laid_unicode_utf8_first = Lib.firstData := by kernel_rfl
theorem accept_data : Rows.laid_unicode_utf8_acceptRanges = Lib.acceptData := by kernel_rfl
def foldTab : List Int := [0, 1, 2, 3, 4, 5, 6, 7, 8, 9, 10, 11, 12, 13, 14, 15, 16, 17, 18, 19, 20, 21, 22, 23, 24, 25, 26, 27, 28, 29, 30, 31, 32, 33, 34, 35, 36, 37, 38, 39, 40, 41, 42, 43, 44, 45, 46, 47, 48, 49, 50, 51, 52, 53, 54, 55, 56, 57, 58, 59, 60, 61, 62, 63, 64, 97, 98, 99, 100, 101, 102, 103, 104, 105, 106, 107, 108, 109, 110, 111, 112, 113, 114, 115, 116, 117, 118, 119, 120, 121, 122, 91, 92, 93, 94, 95, 96, 65, 66, 67, 68, 69, 70, 71, 72, 73, 74, 8490, 76, 77, 78, 79, 80, 81, 82, 383, 84, 85, 86, 87, 88, 89, 90, 123, 124, 125, 126, 127]
theorem fold_data : (Rows.laid_unicode_asciiFold : DataW Unit) = Lib.tabData .u16 foldTab := by kernel_rfl
theorem xTab_of {P : Program} {W : World} {name : String} {k : IntKind} {zs : List Int} {g : Nat} {t e : TypeId} {n : Nat} (hg : P.globalNamed name = some g) (hty : (P.globals[g]?).map (·.type) = some t) (ht : P.underlying t = some (.array n e)) (he : P.underlying e = some (.int k)) (hce : P.cellsOf e = 1) (hct : P.cellsOf t = n) (h : Lib.VarReads P W name (Lib.tabData k zs)) (j : Nat) : W.cell? ⟨g, j, none⟩ = (zs.map fun z => Value.int k z)[j]? := by
  obtain ⟨g', t', cs, fuel, p, hg', ht', hvar, hd⟩ := h
  obtain rfl := Option.some.inj (hg.symm.trans hg')
  obtain rfl := Option.some.inj (hty.symm.trans ht')
  rw [World.var?_cell hg hvar j, ← Lib.cells_of_tab ht he hce hct hd]
  simp
theorem env_of {W : World} (hM : laidMet Tryz.prog [("unicode/utf8.acceptRanges", Rows.laid_unicode_utf8_acceptRanges), ("unicode.asciiFold", Rows.laid_unicode_asciiFold), ("unicode.caseOrbit", Rows.laid_unicode_caseOrbit), ("unicode.CaseRanges", Rows.laid_unicode_CaseRanges), ("unicode/utf8.first", Rows.laid_unicode_utf8_first)] W) (hs : W.ShapedOpen Tryz.prog) : XEnv W.heap.size W := by
  have h3 := Lib.laidMet.reads hM (n := "unicode/utf8.first") (d := Rows.laid_unicode_utf8_first) (by simp)
  have h4 := Lib.laidMet.reads hM (n := "unicode/utf8.acceptRanges") (d := Rows.laid_unicode_utf8_acceptRanges) (by simp)
  have h5 := Lib.laidMet.reads hM (n := "unicode.asciiFold") (d := Rows.laid_unicode_asciiFold) (by simp)
  rw [first_data] at h3
  rw [accept_data] at h4
  rw [fold_data] at h5
  have ht := utf8Tabs_of_reads Tryz.lays260 u8extra h3 h4
  have hf := xTab_of (g := 3) (t := 141) (e := 140) (n := 128) (by kernel_rfl) (by kernel_rfl) (by kernel_rfl) Tryz.underlying140 (by kernel_rfl) (by kernel_rfl) h5
  obtain ⟨m, hm⟩ : ∃ m, W.cell? ⟨2, 0, none⟩ = some (.int .i64 m) := cell_of_shapedOpen_int (zero := #[.int .i64 0]) (t := 3) hs (of_decide_eq_true (by kernel_rfl)) (by kernel_rfl) rfl (by kernel_rfl) (by kernel_rfl) Tryz.underlying3
  have fx : W.cell? ⟨3, 120, none⟩ = some (.int .u16 88) := (hf 120).trans rfl
  refine ⟨⟨⟨m, hm⟩, ht⟩, fx, (hf 109).trans rfl, (hf 108).trans rfl, (hf 88).trans rfl, (hf 77).trans rfl, (hf 76).trans rfl, block_lt_of_cell hm, ?_, ?_, block_lt_of_cell fx⟩
  · exact block_lt_of_cell (ht.1 0 (by decide))
  · exact block_lt_of_cell (ht.2 0 (by decide)).1
theorem own : ownKnob Tryz.prog.godebug = none := by kernel_rfl
end Go.Proofs.YtmemcabipcccaaaGreatDoor
