/- From what a row lists of the library's tables and errors to what the walks of Read ask. -/
import Derived.Test.YtmjjckindnffdaaDoorSortSaid
import Derived.Test.YtmjjckindnffdaaDoorSortEnvOf
import Derived.Lib.LaidCase
import Derived.Stop.LaidTwo
import Derived.LaidLaws
namespace Go.Proofs.YtmjjckindnffdaaDoor
open Go.ChangeShapes Go.WideShapes Go.ChangeAt Go.RowKit
theorem u8extra : U8Extra Tryd.prog Tryd.lays260_ren where
  n3 := by kernel_rfl
  n4 := by kernel_rfl
  y3 := by kernel_rfl
  y4 := by kernel_rfl
  c5 := by kernel_rfl
  c119 := by kernel_rfl
  c138 := by kernel_rfl
theorem first_data : Rows.laid_unicode_utf8_first = Lib.firstData := by kernel_rfl
theorem accept_data : Rows.laid_unicode_utf8_acceptRanges = Lib.acceptData := by kernel_rfl
theorem case_data : Rows.laid_unicode_CaseRanges = Lib.caseData := by kernel_rfl
theorem err_star : "*" ++ "errors.errorString" = "*errors.errorString" := by decide
theorem err_type (u : TypeId) (h : Tryd.prog.typeName? 3 u = some "*errors.errorString") : u = 155 :=
  typeName_ptr_named (nm := "errors.errorString") (by rw [err_star]; kernel_rfl) (by kernel_rfl) (by decide) u (by rw [err_star]; exact h)
theorem env2_of {W : World} (hM : laidMet Tryd.prog [("math/bits.deBruijn32tab", Rows.laid_math_bits_deBruijn32tab), ("math/bits.deBruijn64tab", Rows.laid_math_bits_deBruijn64tab), ("internal/strconv.uint64pow10", Rows.laid_internal_strconv_uint64pow10), ("unicode/utf8.acceptRanges", Rows.laid_unicode_utf8_acceptRanges), ("strconv.ErrRange", Rows.laid_strconv_ErrRange), ("strconv.ErrSyntax", Rows.laid_strconv_ErrSyntax), ("unicode.CaseRanges", Rows.laid_unicode_CaseRanges), ("unicode/utf8.first", Rows.laid_unicode_utf8_first)] W) (_hs : W.ShapedOpen Tryd.prog) : SEnv2 W := by
  have h3 := Lib.laidMet.reads hM (n := "unicode/utf8.first") (d := Rows.laid_unicode_utf8_first) (by simp)
  have h4 := Lib.laidMet.reads hM (n := "unicode/utf8.acceptRanges") (d := Rows.laid_unicode_utf8_acceptRanges) (by simp)
  have h5 := Lib.laidMet.reads hM (n := "internal/strconv.uint64pow10") (d := Rows.laid_internal_strconv_uint64pow10) (by simp)
  have h6 := Lib.laidMet.reads hM (n := "unicode.CaseRanges") (d := Rows.laid_unicode_CaseRanges) (by simp)
  rw [first_data] at h3
  rw [accept_data] at h4
  rw [pow_data] at h5
  rw [case_data] at h6
  obtain ⟨a0, a1, s0, s1, c0, c1, t0, t1, v0, v1, _⟩ := laid_sentinels2 (g0 := 3) (g1 := 2) (tp := 155) (te := 157) (ts := 9) hM.tail.tail.tail.tail (by kernel_rfl) (by kernel_rfl) (by kernel_rfl) (by kernel_rfl) Tryd.underlying73 err_type Tryd.underlying155 Tryd.underlying157 rfl rfl Tryd.underlying9 (by kernel_rfl) (by kernel_rfl)
  refine ⟨⟨tab_of (g := 6) (t := 163) (e := 103) (n := 20) (by kernel_rfl) (by kernel_rfl) (by kernel_rfl) Tryd.underlying103 (by kernel_rfl) (by kernel_rfl) h5⟩, ⟨_, _, v1⟩, ⟨_, _, v0⟩, ?_, utf8Tabs_of_reads Tryd.lays260 u8extra h3 h4⟩
  exact caseVar_of_reads (ρ := Tryd.lays159_ren) { Tryd.lays159 with } (by kernel_rfl) ⟨by kernel_rfl, by kernel_rfl, by kernel_rfl, by kernel_rfl, by kernel_rfl, by kernel_rfl⟩ h6
end Go.Proofs.YtmjjckindnffdaaDoor
