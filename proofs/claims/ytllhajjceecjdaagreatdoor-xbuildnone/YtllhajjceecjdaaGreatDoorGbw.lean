/- Several texts, laid as one. -/
import Derived.Test.YtllhajjceecjdaaGreatDoorGbu
import Derived.Test.YtllhajjceecjdaaGreatDoorBuNo
import Derived.Test.YtllhajjceecjdaaGreatDoorXmlTell
import Derived.Lib.LaidU8
import Derived.HandedShaped
import Derived.WalkKit
import Derived.ProofKit
import Derived.OpenShut
import Derived.ShutString
import Derived.Deep.DeepHandedRow
import Derived.Lib.LaidTab
/- A nil builder: the law XbuildNone. -/
namespace Go.Proofs.YtllhajjceecjdaaGreatDoor
open Go.RowKit Go.Maps
set_option maxRecDepth 100000 in
set_option maxHeartbeats 4000000 in
theorem none14_walk (n0 n1 n2 s : ByteArray) (w : World) (hE : BEnv w) :
    Calls Tryz.prog 3 #[.agg #[.string n0, .string n1, .string n2], .string s] w fun e w' => e = .returned (.bool true) ∧ Below w.heap.size w w' := by
  have HE := hide hE
  clear hE
  go_enter Tryz.func3, Tryz.ntmps3
  go_wp2_with fail
  have hb0 : Below w.heap.size w (w.alloc (.cells #[.string n0, .string n1, .string n2] 23)) := (Below.refl _ _).alloc (Nat.le_refl _) _
  have hN : (w.alloc (.cells #[.string n0, .string n1, .string n2] 23)).heap[w.heap.size]? = some (.cells #[.string n0, .string n1, .string n2] 23 (0, 0)) := alloc_new _ _
  refine (tokens_nil _).mono ?_
  rintro e w1 ⟨rfl, hb1⟩
  have hN1 := block_below hN hb1
  have HN1 := hide hN1
  have hbw1 := Below.then hb0 hb1
  have HB1 := hide hbw1
  clear hN hb0 hb1 hN1
  -- calls
  go_wp2_with fail
  refine (live14_any _ ((unhide HE).below (unhide HB1))).mono ?_
  rintro e w2 ⟨rfl, hb2⟩
  have HN2 := hide (block_below (unhide HN1) hb2)
  have HB2 := hide (Below.then (unhide HB1) hb2)
  clear hb2
  have a0 := blk_cell (unhide HN2) 0
  have a1 := blk_cell (unhide HN2) 1
  have a2 := blk_cell (unhide HN2) 2
  go_wp2_with fail
  refine (open_nil _ _ _ _).mono ?_
  rintro e w3 ⟨rfl, hb3⟩
  have HN3 := hide (block_below (unhide HN2) hb3)
  have HB3 := hide (Below.then (unhide HB2) hb3)
  clear hb3 a0 a1 a2
  go_wp2_with fail
  refine (close_nil _).mono ?_
  rintro e w4 ⟨rfl, hb4⟩
  have HN4 := hide (block_below (unhide HN3) hb4)
  have HB4 := hide (Below.then (unhide HB3) hb4)
  clear hb4
  have a0 := blk_cell (unhide HN4) 0
  have a1 := blk_cell (unhide HN4) 1
  have a2 := blk_cell (unhide HN4) 2
  go_wp2_with fail
  refine (attr_nil _ _ _ _ _).mono ?_
  rintro e w5 ⟨rfl, hb5⟩
  have HN5 := hide (block_below (unhide HN4) hb5)
  have HB5 := hide (Below.then (unhide HB4) hb5)
  clear hb5 a0 a1 a2
  go_wp2_with fail
  refine (declare_nil _ _ _).mono ?_
  rintro e w6 ⟨rfl, hb6⟩
  have HN6 := hide (block_below (unhide HN5) hb6)
  have HB6 := hide (Below.then (unhide HB5) hb6)
  clear hb6
  go_wp2_with fail
  refine (text_nil _ _).mono ?_
  rintro e w7 ⟨rfl, hb7⟩
  have HN7 := hide (block_below (unhide HN6) hb7)
  have HB7 := hide (Below.then (unhide HB6) hb7)
  clear hb7
  go_wp2_with fail
  refine (comment_nil _ _).mono ?_
  rintro e w8 ⟨rfl, hb8⟩
  have HN8 := hide (block_below (unhide HN7) hb8)
  have HB8 := hide (Below.then (unhide HB7) hb8)
  clear hb8
  go_wp2_with fail
  refine (pi_nil _ _ _).mono ?_
  rintro e w9 ⟨rfl, hb9⟩
  have HN9 := hide (block_below (unhide HN8) hb9)
  have HB9 := hide (Below.then (unhide HB8) hb9)
  clear hb9
  go_wp2_with fail
  refine (deep_nil _).mono ?_
  rintro e w10 ⟨rfl, hb10⟩
  have HN10 := hide (block_below (unhide HN9) hb10)
  have HB10 := hide (Below.then (unhide HB9) hb10)
  clear hb10
  go_wp2_with fail
  refine (string_nil _).mono ?_
  rintro e w11 ⟨rfl, hb11⟩
  have HN11 := hide (block_below (unhide HN10) hb11)
  have HB11 := hide (Below.then (unhide HB10) hb11)
  clear hb11
  go_wp2_with fail
  refine (fork_nil _).mono ?_
  rintro e w12 ⟨rfl, hb12⟩
  have HN12 := hide (block_below (unhide HN11) hb12)
  have HB12 := hide (Below.then (unhide HB11) hb12)
  clear hb12
  go_wp2_with fail
  go_returns
  exact ⟨rfl, unhide HB12⟩
end Go.Proofs.YtllhajjceecjdaaGreatDoor
/- From what a row lists of the library's tables, and from the world's shape, to what the walks of layer 3 ask. -/
namespace Go.Proofs.YtllhajjceecjdaaGreatDoor
open Go.ChangeShapes Go.WideShapes Go.ChangeAt Go.RowKit
theorem u8extra : U8Extra Tryz.prog Tryz.lays260_ren where
  n3 := by kernel_rfl
  n4 := by kernel_rfl
  y3 := by kernel_rfl
  y4 := by kernel_rfl
  c5 := by kernel_rfl
  c119 := by kernel_rfl
  c138 := by kernel_rfl
theorem first_data : Rows.laid_unicode_utf8_first = Lib.firstData := by kernel_rfl
theorem accept_data : Rows.laid_unicode_utf8_acceptRanges = Lib.acceptData := by kernel_rfl
def foldTab : List Int := [0, 1, 2, 3, 4, 5, 6, 7, 8, 9, 10, 11, 12, 13, 14, 15, 16, 17, 18, 19, 20, 21, 22, 23, 24, 25, 26, 27, 28, 29, 30, 31, 32, 33, 34, 35, 36, 37, 38, 39, 40, 41, 42, 43, 44, 45, 46, 47, 48, 49, 50, 51, 52, 53, 54, 55, 56, 57, 58, 59, 60, 61, 62, 63, 64, 97, 98, 99, 100, 101, 102, 103, 104, 105, 106, 107, 108, 109, 110, 111, 112, 113, 114, 115, 116, 117, 118, 119, 120, 121, 122, 91, 92, 93, 94, 95, 96, 65, 66, 67, 68, 69, 70, 71, 72, 73, 74, 8490, 76, 77, 78, 79, 80, 81, 82, 383, 84, 85, 86, 87, 88, 89, 90, 123, 124, 125, 126, 127]
theorem fold_data : (Rows.laid_unicode_asciiFold : DataW Unit) = Lib.tabData .u16 foldTab := by kernel_rfl
theorem xTab_of {P : Program} {W : World} {name : String} {k : IntKind} {zs : List Int} {g : Nat} {t e : TypeId} {n : Nat} (hg : P.globalNamed name = some g) (hty : (P.globals[g]?).map (·.type) = some t) (ht : P.underlying t = some (.array n e)) (he : P.underlying e = some (.int k)) (hce : P.cellsOf e = 1) (hct : P.cellsOf t = n) (h : Lib.VarReads P W name (Lib.tabData k zs)) (j : Nat) : W.cell? ⟨g, j, none⟩ = (zs.map fun z => Value.int k z)[j]? := by
  obtain ⟨g', t', cs, fuel, p, hg', ht', hvar, hd⟩ := h
  obtain rfl := Option.some.inj (hg.symm.trans hg')
  obtain rfl := Option.some.inj (hty.symm.trans ht')
  rw [World.var?_cell hg hvar j, ← Lib.cells_of_tab ht he hce hct hd]
  simp
theorem env_of {W : World} (hM : laidMet Tryz.prog [("unicode/utf8.acceptRanges", Rows.laid_unicode_utf8_acceptRanges), ("unicode.asciiFold", Rows.laid_unicode_asciiFold), ("unicode.caseOrbit", Rows.laid_unicode_caseOrbit), ("unicode.CaseRanges", Rows.laid_unicode_CaseRanges), ("unicode/utf8.first", Rows.laid_unicode_utf8_first)] W) (hs : W.ShapedOpen Tryz.prog) : XEnv W.heap.size W := by
  have h3 := Lib.laidMet.reads hM (n := "unicode/utf8.first") (d := Rows.laid_unicode_utf8_first) (by simp)
  have h4 := Lib.laidMet.reads hM (n := "unicode/utf8.acceptRanges") (d := Rows.laid_unicode_utf8_acceptRanges) (by simp)
  have h5 := Lib.laidMet.reads hM (n := "unicode.asciiFold") (d := Rows.laid_unicode_asciiFold) (by simp)
  rw [first_data] at h3
  rw [accept_data] at h4
  rw [fold_data] at h5
  have ht := utf8Tabs_of_reads Tryz.lays260 u8extra h3 h4
  have hf := xTab_of (g := 2) (t := 136) (e := 135) (n := 128) (by kernel_rfl) (by kernel_rfl) (by kernel_rfl) Tryz.underlying135 (by kernel_rfl) (by kernel_rfl) h5
  obtain ⟨m, hm⟩ : ∃ m, W.cell? ⟨5, 0, none⟩ = some (.int .i64 m) := cell_of_shapedOpen_int (zero := #[.int .i64 0]) (t := 3) hs (of_decide_eq_true (by kernel_rfl)) (by kernel_rfl) rfl (by kernel_rfl) (by kernel_rfl) Tryz.underlying3
  have fx : W.cell? ⟨2, 120, none⟩ = some (.int .u16 88) := (hf 120).trans rfl
  refine ⟨⟨⟨m, hm⟩, ht⟩, fx, (hf 109).trans rfl, (hf 108).trans rfl, (hf 88).trans rfl, (hf 77).trans rfl, (hf 76).trans rfl, block_lt_of_cell hm, ?_, ?_, block_lt_of_cell fx⟩
  · exact block_lt_of_cell (ht.1 0 (by decide))
  · exact block_lt_of_cell (ht.2 0 (by decide)).1
theorem own : ownKnob Tryz.prog.godebug = none := by kernel_rfl
end Go.Proofs.YtllhajjceecjdaaGreatDoor
