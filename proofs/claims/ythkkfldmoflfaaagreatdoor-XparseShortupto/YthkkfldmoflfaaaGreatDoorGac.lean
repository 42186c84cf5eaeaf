/- Several texts, laid as one. -/
import Derived.Test.YthkkfldmoflfaaaGreatDoorGab
import Derived.Test.YthkkfldmoflfaaaGreatDoorShelf
import Derived.Lib.Replace
import Derived.Lib.IndexLaws
/- Which characters may be, are blanks, lie in a range: the contracts of xchar's and the reference's small tests. -/
namespace Go.Proofs.YthkkfldmoflfaaaGreatDoor
open Go.RowKit
def wB (r : Int) (fa fb : Nat) : Bool :=
  (FloatKind.f64.format.order fa (floatOfInt FloatKind.f64 r) == some Ordering.lt || FloatKind.f64.format.order fa (floatOfInt FloatKind.f64 r) == some Ordering.eq) &&
  (FloatKind.f64.format.order (floatOfInt FloatKind.f64 r) fb == some Ordering.lt || FloatKind.f64.format.order (floatOfInt FloatKind.f64 r) fb == some Ordering.eq)
set_option maxHeartbeats 400000 in
theorem within_any (r : Int) (fa fb : Nat) (w : World) :
    Calls Tryz.prog 68 #[.int .i32 r, .complex .f64 fa fb] w fun e w' => e = .returned (.bool (wB r fa fb)) ∧ w' = w := by
  go_enter Tryz.func68, Tryz.ntmps68
  go_wp2
  all_goals
    go_ret
    exact ⟨by simp [wB, *], rfl⟩
def charB (r : Int) : Bool := r == 9 || r == 10 || r == 13 || wB r 4629700416936869888 4677832500515438592 || wB r 4678114112931102720 4679239600521084928 || wB r 4679240012837945344 4697535882029170688
set_option maxHeartbeats 400000 in
theorem isChar_any (r : Int) (w : World) :
    Calls Tryz.prog 38 #[.int .i32 r] w fun e w' => e = .returned (.bool (charB r)) ∧ w' = w := by
  go_enter Tryz.func38, Tryz.ntmps38
  go_wp2_with (go_at_call 68; refine (within_any _ _ _ _).mono ?_; rintro e w' ⟨rfl, rfl⟩)
  all_goals
    go_ret
    exact ⟨by simp [charB, *], rfl⟩
def charR (r : Int) : Bool := r == 9 || r == 10 || r == 13 || (decide (32 ≤ r) && decide (r ≤ 55295)) || (decide (57344 ≤ r) && decide (r ≤ 65533)) || (decide (65536 ≤ r) && decide (r ≤ 1114111))
def blankB (r : Int) : Bool := r == 9 || r == 10 || r == 13 || r == 32
theorem isBlank_any (r : Int) (w : World) :
    Calls Tryz.prog 40 #[.int .i32 r] w fun e w' => e = .returned (.bool (blankB r)) ∧ w' = w := by
  go_enter Tryz.func40, Tryz.ntmps40
  go_wp2
  all_goals
    go_ret
    refine ⟨ret_bool ?_, rfl⟩
    rw [Bool.eq_iff_iff]
    simp [blankB]
    try omega
end Go.Proofs.YthkkfldmoflfaaaGreatDoor
/- Which characters begin names and go on in them: xchar's Begins and GoesOn. -/
namespace Go.Proofs.YthkkfldmoflfaaaGreatDoor
open Go.RowKit
section
variable {P : Program} (w : World) (a : Addr) (m : Mode)
theorem run_store_complex (k : FloatKind) (x y : Nat) : (store a (.complex k x y) m).run P w = stored P w a (.complex k x y) m := run_store P w a _ m rfl
end
attribute [local go_sem] run_store_complex
abbrev c128 (x y : Nat) : Value := .complex .f64 x y
abbrev beginTab : Array Value := #[c128 4634274385308418048 4636033603912859648, c128 4636385447633747968 4636385447633747968, c128 4636526185122103296 4638285403726544896, c128 4640959416005296128 4641733472191250432, c128 4641803840935428096 4642859372098093056, c128 4642929740842270720 4649957819167014912, c128 4650951777678524416 4651066126887813120, c128 4651083719073857536 4665728114444206080, c128 4665735811025600512 4665736360781414400, c128 4665790786606989312 4665948566525575168, c128 4667418063816097792 4667971667920683008, c128 4667981563525332992 4677832500515438592, c128 4678993722233323520 4679162909585047552, c128 4679167445070512128 4679239600521084928, c128 4679240012837945344 4696691452804071424]
def beginB (r : Int) : Bool := wB r 4634274385308418048 4636033603912859648 || wB r 4636385447633747968 4636385447633747968 || wB r 4636526185122103296 4638285403726544896 || wB r 4640959416005296128 4641733472191250432 || wB r 4641803840935428096 4642859372098093056 || wB r 4642929740842270720 4649957819167014912 || wB r 4650951777678524416 4651066126887813120 || wB r 4651083719073857536 4665728114444206080 || wB r 4665735811025600512 4665736360781414400 || wB r 4665790786606989312 4665948566525575168 || wB r 4667418063816097792 4667971667920683008 || wB r 4667981563525332992 4677832500515438592 || wB r 4678993722233323520 4679162909585047552 || wB r 4679167445070512128 4679239600521084928 || wB r 4679240012837945344 4696691452804071424
set_option maxHeartbeats 4000000 in
set_option maxRecDepth 100000 in
theorem begins_any (r : Int) (w : World) :
    Calls Tryz.prog 104 #[.int .i32 r] w fun e w' => e = .returned (.bool (beginB r)) ∧ Below w.heap.size w w' := by
  have i0 : ∀ w, (Instr.index 153 (.agg beginTab) (.int .i64 0)).run Tryz.prog w = .ok (.complex .f64 4634274385308418048 4636033603912859648) w := fun _ => by kernel_rfl
  have i1 : ∀ w, (Instr.index 153 (.agg beginTab) (.int .i64 1)).run Tryz.prog w = .ok (.complex .f64 4636385447633747968 4636385447633747968) w := fun _ => by kernel_rfl
  have i2 : ∀ w, (Instr.index 153 (.agg beginTab) (.int .i64 2)).run Tryz.prog w = .ok (.complex .f64 4636526185122103296 4638285403726544896) w := fun _ => by kernel_rfl
  have i3 : ∀ w, (Instr.index 153 (.agg beginTab) (.int .i64 3)).run Tryz.prog w = .ok (.complex .f64 4640959416005296128 4641733472191250432) w := fun _ => by kernel_rfl
  have i4 : ∀ w, (Instr.index 153 (.agg beginTab) (.int .i64 4)).run Tryz.prog w = .ok (.complex .f64 4641803840935428096 4642859372098093056) w := fun _ => by kernel_rfl
  have i5 : ∀ w, (Instr.index 153 (.agg beginTab) (.int .i64 5)).run Tryz.prog w = .ok (.complex .f64 4642929740842270720 4649957819167014912) w := fun _ => by kernel_rfl
  have i6 : ∀ w, (Instr.index 153 (.agg beginTab) (.int .i64 6)).run Tryz.prog w = .ok (.complex .f64 4650951777678524416 4651066126887813120) w := fun _ => by kernel_rfl
  have i7 : ∀ w, (Instr.index 153 (.agg beginTab) (.int .i64 7)).run Tryz.prog w = .ok (.complex .f64 4651083719073857536 4665728114444206080) w := fun _ => by kernel_rfl
  have i8 : ∀ w, (Instr.index 153 (.agg beginTab) (.int .i64 8)).run Tryz.prog w = .ok (.complex .f64 4665735811025600512 4665736360781414400) w := fun _ => by kernel_rfl
  have i9 : ∀ w, (Instr.index 153 (.agg beginTab) (.int .i64 9)).run Tryz.prog w = .ok (.complex .f64 4665790786606989312 4665948566525575168) w := fun _ => by kernel_rfl
  have i10 : ∀ w, (Instr.index 153 (.agg beginTab) (.int .i64 10)).run Tryz.prog w = .ok (.complex .f64 4667418063816097792 4667971667920683008) w := fun _ => by kernel_rfl
  have i11 : ∀ w, (Instr.index 153 (.agg beginTab) (.int .i64 11)).run Tryz.prog w = .ok (.complex .f64 4667981563525332992 4677832500515438592) w := fun _ => by kernel_rfl
  have i12 : ∀ w, (Instr.index 153 (.agg beginTab) (.int .i64 12)).run Tryz.prog w = .ok (.complex .f64 4678993722233323520 4679162909585047552) w := fun _ => by kernel_rfl
  have i13 : ∀ w, (Instr.index 153 (.agg beginTab) (.int .i64 13)).run Tryz.prog w = .ok (.complex .f64 4679167445070512128 4679239600521084928) w := fun _ => by kernel_rfl
  have i14 : ∀ w, (Instr.index 153 (.agg beginTab) (.int .i64 14)).run Tryz.prog w = .ok (.complex .f64 4679240012837945344 4696691452804071424) w := fun _ => by kernel_rfl
  simp only [beginTab, c128] at i0 i1 i2 i3 i4 i5 i6 i7 i8 i9 i10 i11 i12 i13 i14
  go_enter Tryz.func104, Tryz.ntmps104
  go_wp2_with fail
  refine wp_loop_rounds 16 ?_
  repeat any_goals (rw [rounds_succ]; go_wp2_with (go_at_call 68; refine (within_any _ _ _ _).mono ?_; rintro e w' ⟨rfl, rfl⟩))
  all_goals
    go_ret
    exact ⟨ret_bool (by simp [beginB, *]), by go_grown⟩
def goesB (r : Int) : Bool := r == 45 || r == 46 || r == 183 || wB r 4631952216750555136 4633218854145753088 || wB r 4649966615260037120 4650942981585502208 || wB r 4665763848572108800 4665764398327922688 || beginB r
set_option maxHeartbeats 1000000 in
theorem goesOn_any (r : Int) (w : World) :
    Calls Tryz.prog 105 #[.int .i32 r] w fun e w' => e = .returned (.bool (goesB r)) ∧ Below w.heap.size w w' := by
  go_enter Tryz.func105, Tryz.ntmps105
  go_wp2_with (first | (go_at_call 68; refine (within_any _ _ _ _).mono ?_; rintro e w' ⟨rfl, rfl⟩) | (go_at_call 104; refine (begins_any _ _).mono ?_; rintro e w' ⟨rfl, hb⟩))
  all_goals
    go_ret
    exact ⟨ret_bool (by simp [goesB, *]), by first | assumption | exact Below.refl _ _⟩
end Go.Proofs.YthkkfldmoflfaaaGreatDoor
/- Ranges of characters, as lists of their ends: plain lemmas. -/
namespace Go.Proofs.YthkkfldmoflfaaaGreatDoor
open Go.RowKit
def inL (r : Int) : List Int → Bool
  | lo :: hi :: t => (decide (lo ≤ r) && decide (r ≤ hi)) || inL r t
  | _ => false
theorem inL_drop (r : Int) (zs : List Int) (k : Nat) (h : k + 1 < zs.length) :
    inL r (zs.drop k) = ((decide (zs.getD k 0 ≤ r) && decide (r ≤ zs.getD (k + 1) 0)) || inL r (zs.drop (k + 2))) := by
  have e1 : zs.drop k = zs.getD k 0 :: zs.getD (k + 1) 0 :: zs.drop (k + 2) := by
    rw [List.drop_eq_getElem_cons (by omega), List.drop_eq_getElem_cons (by omega)]
    simp [List.getD_eq_getElem?_getD, List.getElem?_eq_getElem (show k < zs.length by omega), List.getElem?_eq_getElem h]
  rw [e1, inL]
theorem inL_end (r : Int) (zs : List Int) (k : Nat) (h : zs.length ≤ k + 1) : inL r (zs.drop k) = false := by
  have : (zs.drop k).length ≤ 1 := by rw [List.length_drop]; omega
  generalize zs.drop k = l at *
  match l, this with
  | [], _ => rfl
  | [_], _ => rfl
def beginL : List Int := [65, 90, 97, 122, 95, 95, 192, 214, 216, 246, 248, 767, 880, 893, 895, 8191, 8204, 8205, 8304, 8591, 11264, 12271, 12289, 55295, 63744, 64975, 65008, 65533, 65536, 983039]
def onL : List Int := [45, 45, 46, 46, 48, 57, 183, 183, 768, 879, 8255, 8256]
end Go.Proofs.YthkkfldmoflfaaaGreatDoor
/- The tests by floats and the tests by numbers are the same tests, for every character of 32 bits. -/
namespace Go.Proofs.YthkkfldmoflfaaaGreatDoor
open Go.RowKit
theorem wB_eq (r lo hi : Int) (fa fb : Nat) (h1 : floatOfInt .f64 lo = fa) (h2 : floatOfInt .f64 hi = fb) (hl : lo.natAbs < 2 ^ 53) (hh : hi.natAbs < 2 ^ 53) (hr : r.natAbs < 2 ^ 53) :
    wB r fa fb = (decide (lo ≤ r) && decide (r ≤ hi)) := by
  subst h1 h2
  unfold wB
  rw [FloatInt.le_nearest lo r hl hr, FloatInt.le_nearest r hi hr hh]
theorem charB_eq (r : Int) (hr : r.natAbs < 2 ^ 53) : charB r = charR r := by
  unfold charB charR
  rw [wB_eq r 32 55295 _ _ (by decide +kernel) (by decide +kernel) (by decide) (by decide) hr,
    wB_eq r 57344 65533 _ _ (by decide +kernel) (by decide +kernel) (by decide) (by decide) hr,
    wB_eq r 65536 1114111 _ _ (by decide +kernel) (by decide +kernel) (by decide) (by decide) hr]
theorem beginB_eq (r : Int) (hr : r.natAbs < 2 ^ 53) : beginB r = inL r beginL := by
  unfold beginB
  rw [wB_eq r 65 90 _ _ (by decide +kernel) (by decide +kernel) (by decide) (by decide) hr,
    wB_eq r 95 95 _ _ (by decide +kernel) (by decide +kernel) (by decide) (by decide) hr,
    wB_eq r 97 122 _ _ (by decide +kernel) (by decide +kernel) (by decide) (by decide) hr,
    wB_eq r 192 214 _ _ (by decide +kernel) (by decide +kernel) (by decide) (by decide) hr,
    wB_eq r 216 246 _ _ (by decide +kernel) (by decide +kernel) (by decide) (by decide) hr,
    wB_eq r 248 767 _ _ (by decide +kernel) (by decide +kernel) (by decide) (by decide) hr,
    wB_eq r 880 893 _ _ (by decide +kernel) (by decide +kernel) (by decide) (by decide) hr,
    wB_eq r 895 8191 _ _ (by decide +kernel) (by decide +kernel) (by decide) (by decide) hr,
    wB_eq r 8204 8205 _ _ (by decide +kernel) (by decide +kernel) (by decide) (by decide) hr,
    wB_eq r 8304 8591 _ _ (by decide +kernel) (by decide +kernel) (by decide) (by decide) hr,
    wB_eq r 11264 12271 _ _ (by decide +kernel) (by decide +kernel) (by decide) (by decide) hr,
    wB_eq r 12289 55295 _ _ (by decide +kernel) (by decide +kernel) (by decide) (by decide) hr,
    wB_eq r 63744 64975 _ _ (by decide +kernel) (by decide +kernel) (by decide) (by decide) hr,
    wB_eq r 65008 65533 _ _ (by decide +kernel) (by decide +kernel) (by decide) (by decide) hr,
    wB_eq r 65536 983039 _ _ (by decide +kernel) (by decide +kernel) (by decide) (by decide) hr]
  rw [Bool.eq_iff_iff]
  simp [beginL, inL]
  omega
theorem goesB_eq (r : Int) (hr : r.natAbs < 2 ^ 53) : goesB r = (inL r beginL || inL r onL) := by
  unfold goesB
  rw [beginB_eq r hr, wB_eq r 48 57 _ _ (by decide +kernel) (by decide +kernel) (by decide) (by decide) hr,
    wB_eq r 768 879 _ _ (by decide +kernel) (by decide +kernel) (by decide) (by decide) hr,
    wB_eq r 8255 8256 _ _ (by decide +kernel) (by decide +kernel) (by decide) (by decide) hr]
  cases inL r beginL
  · rw [Bool.eq_iff_iff]
    simp [onL, inL]
    omega
  · simp
theorem char_of_goes (r : Int) (hr : r.natAbs < 2 ^ 53) (h : goesB r = true) : charB r = true := by
  rw [goesB_eq r hr] at h
  rw [charB_eq r hr]
  simp [beginL, onL, inL] at h
  simp [charR]
  omega
end Go.Proofs.YthkkfldmoflfaaaGreatDoor
/- The first error of what should be UTF-8 of characters that may be: xchar's firstFault. -/
namespace Go.Proofs.YthkkfldmoflfaaaGreatDoor
open Go.RowKit
theorem width_pos (s : ByteArray) (pos : Nat) (h : pos < s.size) : 1 ≤ (Utf8.decode s pos).2 := by
  by_cases ha : (s[pos]'h).toNat < 128
  · rw [decode_ascii s pos h ha]
    exact Nat.le_refl _
  · exact (decode_high s pos h (by omega)).2
/-- The bytes from a place on are those of the replacement character. -/
def markAt (s : ByteArray) (pos : Nat) : Bool := Lib.hasPrefix (s.data.toList.drop pos) [239, 191, 189]
/-- The first fault from a place on: its error's number and its place. -/
def faultFrom (s : ByteArray) : Nat → Nat → Int × Int
  | 0, _ => (0, 0)
  | f + 1, pos => if pos < s.size then
      (if ((Utf8.decode s pos).1 : Int) == 65533 && !markAt s pos then (3, (pos : Int))
       else if charB (Utf8.decode s pos).1 then faultFrom s f (pos + (Utf8.decode s pos).2) else (4, (pos : Int)))
    else (0, 0)
def fault (s : ByteArray) : Int × Int := faultFrom s (s.size + 1) 0
theorem faultFrom_step (s : ByteArray) (f pos : Nat) (hp : pos < s.size) (hb : s.size < pos + f) : ∃ g, f = g + 1 ∧ faultFrom s f pos =
    (if ((Utf8.decode s pos).1 : Int) == 65533 && !markAt s pos then (3, (pos : Int))
       else if charB (Utf8.decode s pos).1 then faultFrom s g (pos + (Utf8.decode s pos).2) else (4, (pos : Int))) := by
  cases f with
  | zero => omega
  | succ g => exact ⟨g, rfl, by rw [faultFrom, if_pos hp]⟩
theorem faultFrom_end (s : ByteArray) (f pos : Nat) (hp : ¬ pos < s.size) : faultFrom s f pos = (0, 0) := by
  cases f with
  | zero => rfl
  | succ g => rw [faultFrom, if_neg hp]
theorem hasMark_any (s : ByteArray) (pos : Nat) (w : World) :
    Calls Tryz.prog 37 #[.string (s.extract pos s.size), .string ⟨#[239, 191, 189]⟩] w fun e w' => e = .returned (.bool (markAt s pos)) ∧ w' = w := by
  refine (Tryz.strings_HasPrefix (s.extract pos s.size) ⟨#[239, 191, 189]⟩ w).mono ?_
  rintro e w' ⟨rfl, rfl⟩
  refine ⟨ret_bool ?_, rfl⟩
  unfold markAt
  congr 1
  rw [ByteArray.data_extract]
  simp [List.take_of_length_le]
theorem ret_fault {x : Int × Int} {a b : Int} (h : x = (a, b)) : Ending.returned (.tuple #[.int .i64 a, .int .i64 b]) = .returned (.tuple #[.int .i64 x.1, .int .i64 x.2]) := by rw [h]
set_option maxHeartbeats 1000000 in
theorem firstFault_any (s : ByteArray) (w : World) :
    Calls Tryz.prog 179 #[.string s] w fun e w' => e = .returned (.tuple #[.int .i64 (fault s).1, .int .i64 (fault s).2]) ∧ Below w.heap.size w w' := by
  go_enter Tryz.func179, Tryz.ntmps179
  go_wp2_with fail
  go_loopw [] (fun w' => ∃ (pos f : Nat), w' = w.iter s pos ∧ fault s = faultFrom s f pos ∧ s.size < pos + f) (fun w' => s.size - w'.iterPos w.heap.size)
  case atStart => exact ⟨0, s.size + 1, rfl, rfl, by omega⟩
  case round =>
    obtain ⟨pos, f, rfl, hf, hb⟩ := hrel
    by_cases hp : pos < s.size
    · have hnx : ∀ ty, (Instr.next (.pointer (some ⟨w.heap.size, 0, none⟩)) true ty).run Tryz.prog (w.iter s pos) = _ := fun ty => run_next_any w s pos ty hp
      have hwd := width_pos s pos hp
      obtain ⟨g, rfl, hg⟩ := faultFrom_step s f pos hp hb
      have HF := hide (hf.trans hg)
      clear hf hg
      go_wp2_with (first | (go_at_call 37; refine (hasMark_any s pos _).mono ?_; rintro e w' ⟨rfl, rfl⟩) | (go_at_call 38; refine (isChar_any _ _).mono ?_; rintro e w' ⟨rfl, rfl⟩))
      all_goals first
        | (go_ret2
           refine ⟨ret_fault ?_, (Below.refl _ _).alloc (Nat.le_refl _) _⟩
           rw [unhide HF]
           simp_all)
        | (refine ⟨⟨_, g, rfl, ?_, by omega⟩, by simp; omega⟩
           rw [unhide HF]
           simp_all)
    · have hnx : ∀ ty, (Instr.next (.pointer (some ⟨w.heap.size, 0, none⟩)) true ty).run Tryz.prog (w.iter s pos) = _ := fun ty => run_next_end w s pos ty hp
      have HF := hide (hf.trans (faultFrom_end s f pos hp))
      clear hf
      go_wp2
      go_ret2
      exact ⟨ret_fault (unhide HF), (Below.refl _ _).alloc (Nat.le_refl _) _⟩
end Go.Proofs.YthkkfldmoflfaaaGreatDoor
/- Line ends, and the decoding of UTF-8: xchar's endLines and decodeAny. -/
namespace Go.Proofs.YthkkfldmoflfaaaGreatDoor
open Go.RowKit
/-- What the package variables of the library hold: MaxLen an int, utf8's tables as their text lays them. -/
structure Env (w : World) : Prop where
  len : ∃ m, w.cell? ⟨8, 0, none⟩ = some (.int .i64 m)
  tabs : Lib.Utf8Tabs 1 2 w
theorem Env.below {w w' : World} (h : Env w) (hb : Below w.heap.size w w') : Env w' := by
  obtain ⟨m, hm⟩ := h.len
  exact ⟨⟨m, by rw [hb.cell (block_lt_of_cell hm)]; exact hm⟩, Utf8Tabs_below h.tabs hb⟩
theorem Below.then {a b c : World} (h : Below a.heap.size a b) (k : Below b.heap.size b c) : Below a.heap.size a c := h.trans (k.mono h.size)
theorem size_mk (l : List UInt8) : (⟨l.toArray⟩ : ByteArray).size = l.length := rfl
end Go.Proofs.YthkkfldmoflfaaaGreatDoor
