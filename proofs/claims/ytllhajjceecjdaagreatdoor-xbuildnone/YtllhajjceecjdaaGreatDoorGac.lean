/- Several texts, laid as one. -/
import Derived.Test.YtllhajjceecjdaaGreatDoorBase
import Derived.Test.YtllhajjceecjdaaGreatDoorFloats
/- Which characters may be, are blanks, lie in a range: the contracts of xchar's and the reference's small tests. -/
namespace Go.Proofs.YtllhajjceecjdaaGreatDoor
open Go.RowKit
def wB (r : Int) (fa fb : Nat) : Bool :=
  (FloatKind.f64.format.order fa (floatOfInt FloatKind.f64 r) == some Ordering.lt || FloatKind.f64.format.order fa (floatOfInt FloatKind.f64 r) == some Ordering.eq) &&
  (FloatKind.f64.format.order (floatOfInt FloatKind.f64 r) fb == some Ordering.lt || FloatKind.f64.format.order (floatOfInt FloatKind.f64 r) fb == some Ordering.eq)
set_option maxHeartbeats 400000 in
theorem within_any (r : Int) (fa fb : Nat) (w : World) :
    Calls Tryz.prog 48 #[.int .i32 r, .complex .f64 fa fb] w fun e w' => e = .returned (.bool (wB r fa fb)) ∧ w' = w := by
  go_enter Tryz.func48, Tryz.ntmps48
  go_wp2
  all_goals
    go_ret
    exact ⟨by simp [wB, *], rfl⟩
def charB (r : Int) : Bool := r == 9 || r == 10 || r == 13 || wB r 4629700416936869888 4677832500515438592 || wB r 4678114112931102720 4679239600521084928 || wB r 4679240012837945344 4697535882029170688
set_option maxHeartbeats 400000 in
theorem isChar_any (r : Int) (w : World) :
    Calls Tryz.prog 45 #[.int .i32 r] w fun e w' => e = .returned (.bool (charB r)) ∧ w' = w := by
  go_enter Tryz.func45, Tryz.ntmps45
  go_wp2_with (go_at_call 48; refine (within_any _ _ _ _).mono ?_; rintro e w' ⟨rfl, rfl⟩)
  all_goals
    go_ret
    exact ⟨by simp [charB, *], rfl⟩
def charR (r : Int) : Bool := r == 9 || r == 10 || r == 13 || (decide (32 ≤ r) && decide (r ≤ 55295)) || (decide (57344 ≤ r) && decide (r ≤ 65533)) || (decide (65536 ≤ r) && decide (r ≤ 1114111))
end Go.Proofs.YtllhajjceecjdaaGreatDoor
/- Which characters begin names and go on in them: xchar's Begins and GoesOn. -/
namespace Go.Proofs.YtllhajjceecjdaaGreatDoor
open Go.RowKit
section
variable {P : Program} (w : World) (a : Addr) (m : Mode)
theorem run_store_complex (k : FloatKind) (x y : Nat) : (store a (.complex k x y) m).run P w = stored P w a (.complex k x y) m := run_store P w a _ m rfl
end
attribute [local go_sem] run_store_complex
abbrev c128 (x y : Nat) : Value := .complex .f64 x y
abbrev beginTab : Array Value := #[c128 4634274385308418048 4636033603912859648, c128 4636385447633747968 4636385447633747968, c128 4636526185122103296 4638285403726544896, c128 4640959416005296128 4641733472191250432, c128 4641803840935428096 4642859372098093056, c128 4642929740842270720 4649957819167014912, c128 4650951777678524416 4651066126887813120, c128 4651083719073857536 4665728114444206080, c128 4665735811025600512 4665736360781414400, c128 4665790786606989312 4665948566525575168, c128 4667418063816097792 4667971667920683008, c128 4667981563525332992 4677832500515438592, c128 4678993722233323520 4679162909585047552, c128 4679167445070512128 4679239600521084928, c128 4679240012837945344 4696691452804071424]
def beginB (r : Int) : Bool := wB r 4634274385308418048 4636033603912859648 || wB r 4636385447633747968 4636385447633747968 || wB r 4636526185122103296 4638285403726544896 || wB r 4640959416005296128 4641733472191250432 || wB r 4641803840935428096 4642859372098093056 || wB r 4642929740842270720 4649957819167014912 || wB r 4650951777678524416 4651066126887813120 || wB r 4651083719073857536 4665728114444206080 || wB r 4665735811025600512 4665736360781414400 || wB r 4665790786606989312 4665948566525575168 || wB r 4667418063816097792 4667971667920683008 || wB r 4667981563525332992 4677832500515438592 || wB r 4678993722233323520 4679162909585047552 || wB r 4679167445070512128 4679239600521084928 || wB r 4679240012837945344 4696691452804071424
set_option maxHeartbeats 4000000 in
set_option maxRecDepth 100000 in
theorem begins_any (r : Int) (w : World) :
    Calls Tryz.prog 42 #[.int .i32 r] w fun e w' => e = .returned (.bool (beginB r)) ∧ Below w.heap.size w w' := by
  have i0 : ∀ w, (Instr.index 105 (.agg beginTab) (.int .i64 0)).run Tryz.prog w = .ok (.complex .f64 4634274385308418048 4636033603912859648) w := fun _ => by kernel_rfl
  have i1 : ∀ w, (Instr.index 105 (.agg beginTab) (.int .i64 1)).run Tryz.prog w = .ok (.complex .f64 4636385447633747968 4636385447633747968) w := fun _ => by kernel_rfl
  have i2 : ∀ w, (Instr.index 105 (.agg beginTab) (.int .i64 2)).run Tryz.prog w = .ok (.complex .f64 4636526185122103296 4638285403726544896) w := fun _ => by kernel_rfl
  have i3 : ∀ w, (Instr.index 105 (.agg beginTab) (.int .i64 3)).run Tryz.prog w = .ok (.complex .f64 4640959416005296128 4641733472191250432) w := fun _ => by kernel_rfl
  have i4 : ∀ w, (Instr.index 105 (.agg beginTab) (.int .i64 4)).run Tryz.prog w = .ok (.complex .f64 4641803840935428096 4642859372098093056) w := fun _ => by kernel_rfl
  have i5 : ∀ w, (Instr.index 105 (.agg beginTab) (.int .i64 5)).run Tryz.prog w = .ok (.complex .f64 4642929740842270720 4649957819167014912) w := fun _ => by kernel_rfl
  have i6 : ∀ w, (Instr.index 105 (.agg beginTab) (.int .i64 6)).run Tryz.prog w = .ok (.complex .f64 4650951777678524416 4651066126887813120) w := fun _ => by kernel_rfl
  have i7 : ∀ w, (Instr.index 105 (.agg beginTab) (.int .i64 7)).run Tryz.prog w = .ok (.complex .f64 4651083719073857536 4665728114444206080) w := fun _ => by kernel_rfl
  have i8 : ∀ w, (Instr.index 105 (.agg beginTab) (.int .i64 8)).run Tryz.prog w = .ok (.complex .f64 4665735811025600512 4665736360781414400) w := fun _ => by kernel_rfl
  have i9 : ∀ w, (Instr.index 105 (.agg beginTab) (.int .i64 9)).run Tryz.prog w = .ok (.complex .f64 4665790786606989312 4665948566525575168) w := fun _ => by kernel_rfl
  have i10 : ∀ w, (Instr.index 105 (.agg beginTab) (.int .i64 10)).run Tryz.prog w = .ok (.complex .f64 4667418063816097792 4667971667920683008) w := fun _ => by kernel_rfl
  have i11 : ∀ w, (Instr.index 105 (.agg beginTab) (.int .i64 11)).run Tryz.prog w = .ok (.complex .f64 4667981563525332992 4677832500515438592) w := fun _ => by kernel_rfl
  have i12 : ∀ w, (Instr.index 105 (.agg beginTab) (.int .i64 12)).run Tryz.prog w = .ok (.complex .f64 4678993722233323520 4679162909585047552) w := fun _ => by kernel_rfl
  have i13 : ∀ w, (Instr.index 105 (.agg beginTab) (.int .i64 13)).run Tryz.prog w = .ok (.complex .f64 4679167445070512128 4679239600521084928) w := fun _ => by kernel_rfl
  have i14 : ∀ w, (Instr.index 105 (.agg beginTab) (.int .i64 14)).run Tryz.prog w = .ok (.complex .f64 4679240012837945344 4696691452804071424) w := fun _ => by kernel_rfl
  simp only [beginTab, c128] at i0 i1 i2 i3 i4 i5 i6 i7 i8 i9 i10 i11 i12 i13 i14
  go_enter Tryz.func42, Tryz.ntmps42
  go_wp2_with fail
  refine wp_loop_rounds 16 ?_
  repeat any_goals (rw [rounds_succ]; go_wp2_with (go_at_call 48; refine (within_any _ _ _ _).mono ?_; rintro e w' ⟨rfl, rfl⟩))
  all_goals
    go_ret
    exact ⟨ret_bool (by simp [beginB, *]), by go_grown⟩
def goesB (r : Int) : Bool := r == 45 || r == 46 || r == 183 || wB r 4631952216750555136 4633218854145753088 || wB r 4649966615260037120 4650942981585502208 || wB r 4665763848572108800 4665764398327922688 || beginB r
set_option maxHeartbeats 1000000 in
theorem goesOn_any (r : Int) (w : World) :
    Calls Tryz.prog 43 #[.int .i32 r] w fun e w' => e = .returned (.bool (goesB r)) ∧ Below w.heap.size w w' := by
  go_enter Tryz.func43, Tryz.ntmps43
  go_wp2_with (first | (go_at_call 48; refine (within_any _ _ _ _).mono ?_; rintro e w' ⟨rfl, rfl⟩) | (go_at_call 42; refine (begins_any _ _).mono ?_; rintro e w' ⟨rfl, hb⟩))
  all_goals
    go_ret
    exact ⟨ret_bool (by simp [goesB, *]), by first | assumption | exact Below.refl _ _⟩
end Go.Proofs.YtllhajjceecjdaaGreatDoor
