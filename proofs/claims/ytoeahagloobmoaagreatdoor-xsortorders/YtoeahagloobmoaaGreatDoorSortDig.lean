/- Digits, and Roman numbers or digits: xsort.digits and xsort.romanOrDigits. -/
import Derived.Test.YtoeahagloobmoaaGreatDoorSortRom
import Derived.Lib.SmallJoins
import Derived.Lib.AppendIntMem
namespace Go.Proofs.YtoeahagloobmoaaGreatDoor
open Go.RowKit
/-- What the walks ask of the library's tables. -/
structure SEnv (w : World) : Prop where
  pow : Lib.TabIs Tryz.prog w "internal/strconv.uint64pow10" .u64 Lib.pow10Tab
theorem SEnv.below {w w' : World} (h : SEnv w) (hb : Below w.heap.size w w') : SEnv w' :=
  ⟨Joins.tab_stays (show Tryz.prog.globalNamed "internal/strconv.uint64pow10" = some 4 by kernel_rfl) h.pow hb (Nat.le_refl _)⟩
theorem itoa_any (n : Nat) (w : World) (hn : n < 9223372036854775808) (hE : SEnv w) :
    Calls Tryz.prog 47 #[.int .i64 (n : Int)] w fun e w' => e = .returned (.string ⟨(Lib.decDigits n).toArray⟩) ∧ Below w.heap.size w w' := by
  refine (Tryz.strconv_Itoa (n : Int) (by omega) (by omega) w hE.pow).mono ?_
  rintro e w' ⟨rfl, k, os, rfl⟩
  refine ⟨?_, ?_⟩
  · have : Lib.itoa (n : Int) = Lib.decDigits n := by
      unfold Lib.itoa
      rw [if_neg (by omega), Int.toNat_natCast]
    rw [this]
  · exact Lib.below_grow _ w (Nat.le_refl _) k os
theorem zeros_size (k : Nat) : (⟨(Lib.repeatL [48] k).toArray⟩ : ByteArray).size = k := by
  rw [mk_size, Lib.repeatL_length]
  simp
theorem dec_20 (n : Nat) (hn : n < 9223372036854775808) : (⟨(Lib.decDigits n).toArray⟩ : ByteArray).size ≤ 19 := by
  rw [mk_size]
  exact decLen 18 n (Nat.lt_trans hn (by decide))
set_option maxRecDepth 100000 in
set_option maxHeartbeats 1000000 in
theorem digits_any (n k : Nat) (w : World) (hn : n < 9223372036854775808) (hk : k ≤ 1048576) (hE : SEnv w) :
    Calls Tryz.prog 29 #[.int .i64 (n : Int), .int .i64 (k : Int)] w fun e w' => e = .returned (.string ⟨(wrF (.d k) n).toArray⟩) ∧ Below w.heap.size w w' := by
  have HI := hide (itoa_any n w hn hE)
  have hD := dec_20 n hn
  have hL : (Lib.decDigits n).length = (⟨(Lib.decDigits n).toArray⟩ : ByteArray).size := (mk_size _).symm
  have HW := hide (show (⟨(Lib.repeatL [48] (k - (Lib.decDigits n).length)).toArray⟩ : ByteArray) ++ ⟨(Lib.decDigits n).toArray⟩ = ⟨(wrF (.d k) n).toArray⟩ from mk_append _ _)
  rw [hL] at HW
  have hZ := zeros_size (k - (⟨(Lib.decDigits n).toArray⟩ : ByteArray).size)
  have HR := hide (fun w => Tryz.strings_Repeat ⟨#[48]⟩ (k - (⟨(Lib.decDigits n).toArray⟩ : ByteArray).size) w (by omega) (by show 1 * _ ≤ _; omega))
  have e1 : max ((k : Int) - ((⟨(Lib.decDigits n).toArray⟩ : ByteArray).size : Int)) 0 = ((k - (⟨(Lib.decDigits n).toArray⟩ : ByteArray).size : Nat) : Int) := by omega
  have e2 : IntKind.i64.wrap ((k : Int) - ((⟨(Lib.decDigits n).toArray⟩ : ByteArray).size : Int)) = (k : Int) - ((⟨(Lib.decDigits n).toArray⟩ : ByteArray).size : Int) := by rw [i64_is, wrap_same _ (by omega) (by omega)]
  clear hE hL
  generalize (⟨(wrF (.d k) n).toArray⟩ : ByteArray) = T at *
  generalize (⟨(Lib.decDigits n).toArray⟩ : ByteArray) = D at *
  go_enter Tryz.func29, Tryz.ntmps29
  go_wp2_with fail
  refine (unhide HI).mono ?_
  rintro e w1 ⟨rfl, hb1⟩
  go_wp2_with fail
  refine (unhide HR _).mono ?_
  rintro e w2 ⟨rfl, hb2⟩
  have HZ := hide (unhide HW)
  generalize (⟨(Lib.repeatL [48] (k - D.size)).toArray⟩ : ByteArray) = Z at *
  have HZ2 := hide (show Z ++ D = T from unhide HZ)
  have b1 : ¬ 9223372036854775807 < Z.size + D.size := by omega
  have b2 : ¬ 9223372036854775807 < (Z ++ D).size := by rw [ByteArray.size_append]; omega
  clear HR HW HZ e1 e2 HI hZ
  go_wp2
  go_ret
  exact ⟨by rw [← unhide HZ2]; rfl, Below.then hb1 hb2⟩
set_option maxRecDepth 100000 in
set_option maxHeartbeats 1000000 in
theorem romanOrDigits_any (n : Nat) (w : World) (h1 : 1 ≤ n) (hn : n < 9223372036854775808) (hE : SEnv w) :
    Calls Tryz.prog 26 #[.int .i64 (n : Int)] w fun e w' => e = .returned (.string ⟨(wrF .I n).toArray⟩) ∧ Below w.heap.size w w' := by
  by_cases h : 3999 < n
  · have HI := hide (show Calls Tryz.prog 29 #[.int .i64 (n : Int), .int .i64 1] w fun e w' => e = .returned (.string ⟨(wrF .I n).toArray⟩) ∧ Below w.heap.size w w' from by
      have := digits_any n 1 w hn (by omega) hE
      have e : wrF (.d 1) n = wrF .I n := by
        rw [wrF_I, wrF_d, if_pos h, show 1 - (Lib.decDigits n).length = 0 by have := List.length_pos_iff.2 (dec_ne n); omega]
        rfl
      rw [e] at this
      exact this)
    have h' : (3999 : Int) < (n : Int) := by omega
    clear hE
    generalize (⟨(wrF .I n).toArray⟩ : ByteArray) = T at *
    go_enter Tryz.func26, Tryz.ntmps26
    go_wp2_with fail
    refine (unhide HI).mono ?_
    rintro e w1 ⟨rfl, hb1⟩
    go_wp2
    go_ret
    exact ⟨rfl, hb1⟩
  · have HI := hide (show Calls Tryz.prog 42 #[.int .i64 (n : Int)] w fun e w' => e = .returned (.string ⟨(wrF .I n).toArray⟩) ∧ Below w.heap.size w w' from by
      have := roman_any n w h1 (by omega)
      have e : wrF .I n = romP n := by rw [wrF_I, if_neg h]
      rw [e]
      exact this)
    have h' : ¬ (3999 : Int) < (n : Int) := by omega
    clear hE
    generalize (⟨(wrF .I n).toArray⟩ : ByteArray) = T at *
    go_enter Tryz.func26, Tryz.ntmps26
    go_wp2_with fail
    refine (unhide HI).mono ?_
    rintro e w1 ⟨rfl, hb1⟩
    go_wp2
    go_ret
    exact ⟨rfl, hb1⟩
end Go.Proofs.YtoeahagloobmoaaGreatDoor
