/- Several texts, laid as one. -/
import Derived.Test.YtllhajjceecjdaaDoorBase
import Derived.Test.YtllhajjceecjdaaDoorFloats
/- Which characters may be, are blanks, lie in a range: the contracts of xchar's and the reference's small tests. -/
namespace Go.Proofs.YtllhajjceecjdaaDoor
open Go.RowKit
def wB (r : Int) (fa fb : Nat) : Bool :=
  (FloatKind.f64.format.order fa (floatOfInt FloatKind.f64 r) == some Ordering.lt || FloatKind.f64.format.order fa (floatOfInt FloatKind.f64 r) == some Ordering.eq) &&
  (FloatKind.f64.format.order (floatOfInt FloatKind.f64 r) fb == some Ordering.lt || FloatKind.f64.format.order (floatOfInt FloatKind.f64 r) fb == some Ordering.eq)
set_option maxHeartbeats 400000 in
theorem within_any (r : Int) (fa fb : Nat) (w : World) :
    Calls Tryd.prog 36 #[.int .i32 r, .complex .f64 fa fb] w fun e w' => e = .returned (.bool (wB r fa fb)) ∧ w' = w := by
  go_enter Tryd.func36, Tryd.ntmps36
  go_wp2
  all_goals
    go_ret
    exact ⟨by simp [wB, *], rfl⟩
def charB (r : Int) : Bool := r == 9 || r == 10 || r == 13 || wB r 4629700416936869888 4677832500515438592 || wB r 4678114112931102720 4679239600521084928 || wB r 4679240012837945344 4697535882029170688
set_option maxHeartbeats 400000 in
theorem isChar_any (r : Int) (w : World) :
    Calls Tryd.prog 32 #[.int .i32 r] w fun e w' => e = .returned (.bool (charB r)) ∧ w' = w := by
  go_enter Tryd.func32, Tryd.ntmps32
  go_wp2_with (go_at_call 36; refine (within_any _ _ _ _).mono ?_; rintro e w' ⟨rfl, rfl⟩)
  all_goals
    go_ret
    exact ⟨by simp [charB, *], rfl⟩
def charR (r : Int) : Bool := r == 9 || r == 10 || r == 13 || (decide (32 ≤ r) && decide (r ≤ 55295)) || (decide (57344 ≤ r) && decide (r ≤ 65533)) || (decide (65536 ≤ r) && decide (r ≤ 1114111))
end Go.Proofs.YtllhajjceecjdaaDoor
/- Which characters begin names and go on in them: xchar's Begins and GoesOn. -/
namespace Go.Proofs.YtllhajjceecjdaaDoor
open Go.RowKit
section
variable {P : Program} (w : World) (a : Addr) (m : Mode)
theorem run_store_complex (k : FloatKind) (x y : Nat) : (store a (.complex k x y) m).run P w = stored P w a (.complex k x y) m := run_store P w a _ m rfl
end
attribute [local go_sem] run_store_complex
abbrev c128 (x y : Nat) : Value := .complex .f64 x y
abbrev beginTab : Array Value := #[c128 4634274385308418048 4636033603912859648, c128 4636385447633747968 4636385447633747968, c128 4636526185122103296 4638285403726544896, c128 4640959416005296128 4641733472191250432, c128 4641803840935428096 4642859372098093056, c128 4642929740842270720 4649957819167014912, c128 4650951777678524416 4651066126887813120, c128 4651083719073857536 4665728114444206080, c128 4665735811025600512 4665736360781414400, c128 4665790786606989312 4665948566525575168, c128 4667418063816097792 4667971667920683008, c128 4667981563525332992 4677832500515438592, c128 4678993722233323520 4679162909585047552, c128 4679167445070512128 4679239600521084928, c128 4679240012837945344 4696691452804071424]
def beginB (r : Int) : Bool := wB r 4634274385308418048 4636033603912859648 || wB r 4636385447633747968 4636385447633747968 || wB r 4636526185122103296 4638285403726544896 || wB r 4640959416005296128 4641733472191250432 || wB r 4641803840935428096 4642859372098093056 || wB r 4642929740842270720 4649957819167014912 || wB r 4650951777678524416 4651066126887813120 || wB r 4651083719073857536 4665728114444206080 || wB r 4665735811025600512 4665736360781414400 || wB r 4665790786606989312 4665948566525575168 || wB r 4667418063816097792 4667971667920683008 || wB r 4667981563525332992 4677832500515438592 || wB r 4678993722233323520 4679162909585047552 || wB r 4679167445070512128 4679239600521084928 || wB r 4679240012837945344 4696691452804071424
set_option maxHeartbeats 4000000 in
set_option maxRecDepth 100000 in
theorem begins_any (r : Int) (w : World) :
    Calls Tryd.prog 38 #[.int .i32 r] w fun e w' => e = .returned (.bool (beginB r)) ∧ Below w.heap.size w w' := by
  have i0 : ∀ w, (Instr.index 99 (.agg beginTab) (.int .i64 0)).run Tryd.prog w = .ok (.complex .f64 4634274385308418048 4636033603912859648) w := fun _ => by kernel_rfl
  have i1 : ∀ w, (Instr.index 99 (.agg beginTab) (.int .i64 1)).run Tryd.prog w = .ok (.complex .f64 4636385447633747968 4636385447633747968) w := fun _ => by kernel_rfl
  have i2 : ∀ w, (Instr.index 99 (.agg beginTab) (.int .i64 2)).run Tryd.prog w = .ok (.complex .f64 4636526185122103296 4638285403726544896) w := fun _ => by kernel_rfl
  have i3 : ∀ w, (Instr.index 99 (.agg beginTab) (.int .i64 3)).run Tryd.prog w = .ok (.complex .f64 4640959416005296128 4641733472191250432) w := fun _ => by kernel_rfl
  have i4 : ∀ w, (Instr.index 99 (.agg beginTab) (.int .i64 4)).run Tryd.prog w = .ok (.complex .f64 4641803840935428096 4642859372098093056) w := fun _ => by kernel_rfl
  have i5 : ∀ w, (Instr.index 99 (.agg beginTab) (.int .i64 5)).run Tryd.prog w = .ok (.complex .f64 4642929740842270720 4649957819167014912) w := fun _ => by kernel_rfl
  have i6 : ∀ w, (Instr.index 99 (.agg beginTab) (.int .i64 6)).run Tryd.prog w = .ok (.complex .f64 4650951777678524416 4651066126887813120) w := fun _ => by kernel_rfl
  have i7 : ∀ w, (Instr.index 99 (.agg beginTab) (.int .i64 7)).run Tryd.prog w = .ok (.complex .f64 4651083719073857536 4665728114444206080) w := fun _ => by kernel_rfl
  have i8 : ∀ w, (Instr.index 99 (.agg beginTab) (.int .i64 8)).run Tryd.prog w = .ok (.complex .f64 4665735811025600512 4665736360781414400) w := fun _ => by kernel_rfl
  have i9 : ∀ w, (Instr.index 99 (.agg beginTab) (.int .i64 9)).run Tryd.prog w = .ok (.complex .f64 4665790786606989312 4665948566525575168) w := fun _ => by kernel_rfl
  have i10 : ∀ w, (Instr.index 99 (.agg beginTab) (.int .i64 10)).run Tryd.prog w = .ok (.complex .f64 4667418063816097792 4667971667920683008) w := fun _ => by kernel_rfl
  have i11 : ∀ w, (Instr.index 99 (.agg beginTab) (.int .i64 11)).run Tryd.prog w = .ok (.complex .f64 4667981563525332992 4677832500515438592) w := fun _ => by kernel_rfl
  have i12 : ∀ w, (Instr.index 99 (.agg beginTab) (.int .i64 12)).run Tryd.prog w = .ok (.complex .f64 4678993722233323520 4679162909585047552) w := fun _ => by kernel_rfl
  have i13 : ∀ w, (Instr.index 99 (.agg beginTab) (.int .i64 13)).run Tryd.prog w = .ok (.complex .f64 4679167445070512128 4679239600521084928) w := fun _ => by kernel_rfl
  have i14 : ∀ w, (Instr.index 99 (.agg beginTab) (.int .i64 14)).run Tryd.prog w = .ok (.complex .f64 4679240012837945344 4696691452804071424) w := fun _ => by kernel_rfl
  simp only [beginTab, c128] at i0 i1 i2 i3 i4 i5 i6 i7 i8 i9 i10 i11 i12 i13 i14
  go_enter Tryd.func38, Tryd.ntmps38
  go_wp2_with fail
  refine wp_loop_rounds 16 ?_
  repeat any_goals (rw [rounds_succ]; go_wp2_with (go_at_call 36; refine (within_any _ _ _ _).mono ?_; rintro e w' ⟨rfl, rfl⟩))
  all_goals
    go_ret
    exact ⟨ret_bool (by simp [beginB, *]), by go_grown⟩
def goesB (r : Int) : Bool := r == 45 || r == 46 || r == 183 || wB r 4631952216750555136 4633218854145753088 || wB r 4649966615260037120 4650942981585502208 || wB r 4665763848572108800 4665764398327922688 || beginB r
set_option maxHeartbeats 1000000 in
theorem goesOn_any (r : Int) (w : World) :
    Calls Tryd.prog 39 #[.int .i32 r] w fun e w' => e = .returned (.bool (goesB r)) ∧ Below w.heap.size w w' := by
  go_enter Tryd.func39, Tryd.ntmps39
  go_wp2_with (first | (go_at_call 36; refine (within_any _ _ _ _).mono ?_; rintro e w' ⟨rfl, rfl⟩) | (go_at_call 38; refine (begins_any _ _).mono ?_; rintro e w' ⟨rfl, hb⟩))
  all_goals
    go_ret
    exact ⟨ret_bool (by simp [goesB, *]), by first | assumption | exact Below.refl _ _⟩
end Go.Proofs.YtllhajjceecjdaaDoor
/- Ranges of characters, as lists of their ends: plain lemmas. -/
namespace Go.Proofs.YtllhajjceecjdaaDoor
open Go.RowKit
def inL (r : Int) : List Int → Bool
  | lo :: hi :: t => (decide (lo ≤ r) && decide (r ≤ hi)) || inL r t
  | _ => false
def beginL : List Int := [65, 90, 97, 122, 95, 95, 192, 214, 216, 246, 248, 767, 880, 893, 895, 8191, 8204, 8205, 8304, 8591, 11264, 12271, 12289, 55295, 63744, 64975, 65008, 65533, 65536, 983039]
def onL : List Int := [45, 45, 46, 46, 48, 57, 183, 183, 768, 879, 8255, 8256]
end Go.Proofs.YtllhajjceecjdaaDoor
/- The tests by floats and the tests by numbers are the same tests, for every character of 32 bits. -/
namespace Go.Proofs.YtllhajjceecjdaaDoor
open Go.RowKit
theorem wB_eq (r lo hi : Int) (fa fb : Nat) (h1 : floatOfInt .f64 lo = fa) (h2 : floatOfInt .f64 hi = fb) (hl : lo.natAbs < 2 ^ 53) (hh : hi.natAbs < 2 ^ 53) (hr : r.natAbs < 2 ^ 53) :
    wB r fa fb = (decide (lo ≤ r) && decide (r ≤ hi)) := by
  subst h1 h2
  unfold wB
  rw [FloatInt.le_nearest lo r hl hr, FloatInt.le_nearest r hi hr hh]
theorem charB_eq (r : Int) (hr : r.natAbs < 2 ^ 53) : charB r = charR r := by
  unfold charB charR
  rw [wB_eq r 32 55295 _ _ (by decide +kernel) (by decide +kernel) (by decide) (by decide) hr,
    wB_eq r 57344 65533 _ _ (by decide +kernel) (by decide +kernel) (by decide) (by decide) hr,
    wB_eq r 65536 1114111 _ _ (by decide +kernel) (by decide +kernel) (by decide) (by decide) hr]
theorem beginB_eq (r : Int) (hr : r.natAbs < 2 ^ 53) : beginB r = inL r beginL := by
  unfold beginB
  rw [wB_eq r 65 90 _ _ (by decide +kernel) (by decide +kernel) (by decide) (by decide) hr,
    wB_eq r 95 95 _ _ (by decide +kernel) (by decide +kernel) (by decide) (by decide) hr,
    wB_eq r 97 122 _ _ (by decide +kernel) (by decide +kernel) (by decide) (by decide) hr,
    wB_eq r 192 214 _ _ (by decide +kernel) (by decide +kernel) (by decide) (by decide) hr,
    wB_eq r 216 246 _ _ (by decide +kernel) (by decide +kernel) (by decide) (by decide) hr,
    wB_eq r 248 767 _ _ (by decide +kernel) (by decide +kernel) (by decide) (by decide) hr,
    wB_eq r 880 893 _ _ (by decide +kernel) (by decide +kernel) (by decide) (by decide) hr,
    wB_eq r 895 8191 _ _ (by decide +kernel) (by decide +kernel) (by decide) (by decide) hr,
    wB_eq r 8204 8205 _ _ (by decide +kernel) (by decide +kernel) (by decide) (by decide) hr,
    wB_eq r 8304 8591 _ _ (by decide +kernel) (by decide +kernel) (by decide) (by decide) hr,
    wB_eq r 11264 12271 _ _ (by decide +kernel) (by decide +kernel) (by decide) (by decide) hr,
    wB_eq r 12289 55295 _ _ (by decide +kernel) (by decide +kernel) (by decide) (by decide) hr,
    wB_eq r 63744 64975 _ _ (by decide +kernel) (by decide +kernel) (by decide) (by decide) hr,
    wB_eq r 65008 65533 _ _ (by decide +kernel) (by decide +kernel) (by decide) (by decide) hr,
    wB_eq r 65536 983039 _ _ (by decide +kernel) (by decide +kernel) (by decide) (by decide) hr]
  rw [Bool.eq_iff_iff]
  simp [beginL, inL]
  omega
theorem goesB_eq (r : Int) (hr : r.natAbs < 2 ^ 53) : goesB r = (inL r beginL || inL r onL) := by
  unfold goesB
  rw [beginB_eq r hr, wB_eq r 48 57 _ _ (by decide +kernel) (by decide +kernel) (by decide) (by decide) hr,
    wB_eq r 768 879 _ _ (by decide +kernel) (by decide +kernel) (by decide) (by decide) hr,
    wB_eq r 8255 8256 _ _ (by decide +kernel) (by decide +kernel) (by decide) (by decide) hr]
  cases inL r beginL
  · rw [Bool.eq_iff_iff]
    simp [onL, inL]
    omega
  · simp
end Go.Proofs.YtllhajjceecjdaaDoor
