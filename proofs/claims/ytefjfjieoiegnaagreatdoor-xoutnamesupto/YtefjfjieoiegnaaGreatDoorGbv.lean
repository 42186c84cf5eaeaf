/- Several texts, laid as one. -/
import Derived.Test.YtefjfjieoiegnaaGreatDoorGbu
import Derived.Test.YtefjfjieoiegnaaGreatDoorGaa
import Derived.Test.YtefjfjieoiegnaaGreatDoorGap
import Derived.Lib.IndexBytes
/- Tokens as a text: xout's Write. -/
namespace Go.Proofs.YtefjfjieoiegnaaGreatDoor
open Go.RowKit
theorem right_of (ts : List BTok) : rightO ts = 0 ∨ rightO ts = 5 ∨ rightO ts = 6 := by
  unfold rightO
  split
  · split
    · exact .inr (.inr rfl)
    · exact .inl rfl
  · exact .inr (.inl rfl)
theorem byW_any (b : Nat) (m : Int) (w : World) :
    Calls Tryz.prog 26 #[.pointer (some ⟨b, 0, none⟩), .int .i64 m] w fun e w' => e = .returned (.func (.func (wayF m)) #[.pointer (some ⟨b, 0, none⟩)] #[]) ∧ w' = w := by_any b m w
set_option maxRecDepth 100000 in
set_option maxHeartbeats 8000000 in
theorem outWrite_any (m : Int) (ts : List BTok) (a : Option Addr) (cap : Nat) (w : World) (hv : ToksArg w a ts) (hn : ts.length ≤ 1048576) (hs : ∀ t ∈ ts, Small t) (B : Nat) (hB : B ≤ w.heap.size) (hE : XEnv B w) :
    Calls Tryz.prog 16 #[.int .i64 m, .slice a ts.length cap] w fun e w' => e = .returned (.tuple #[.string (writeO m ts).1, .int .i64 ((writeO m ts).2 : Nat)]) ∧ Below w.heap.size w w' := by
  have HV := hide hv
  have HS := hide hs
  have HE := hide hE
  have HR := hide (right_any ts a cap w hv hn hs B hB hE)
  have HW : Hid (writeO m ts = if m < 0 ∨ 2 < m then (⟨#[]⟩, 2) else if rightO ts ≠ 0 then (⟨#[]⟩, rightO ts) else if m = 1 ∧ htmlOk ts = false then (⟨#[]⟩, 5) else if 32768 < (textO m ts).length then (⟨#[]⟩, 6) else (⟨(textO m ts).toArray⟩, 0)) := hide rfl
  clear hv hs hE
  by_cases h0 : m < 0
  · have HX : Hid (writeO m ts = (⟨#[]⟩, 2)) := hide (by rw [unhide HW, if_pos (.inl h0)])
    clear HW HR
    go_enter Tryz.func16, Tryz.ntmps16
    go_wp2
    go_ret2
    rw [unhide HX]
    exact ⟨rfl, Below.refl _ _⟩
  by_cases h2 : 2 < m
  · have HX : Hid (writeO m ts = (⟨#[]⟩, 2)) := hide (by rw [unhide HW, if_pos (.inr h2)])
    clear HW HR
    go_enter Tryz.func16, Tryz.ntmps16
    go_wp2
    go_ret2
    rw [unhide HX]
    exact ⟨rfl, Below.refl _ _⟩
  have HNO : Hid (¬ (m < 0 ∨ 2 < m)) := hide (by omega)
  have HRO := hide (right_of ts)
  have HR0 : Hid (rightO ts = rightO ts) := hide rfl
  generalize hr : rightO ts = r at HR HW HRO
  rw [hr] at HR0
  clear HR0
  have HR0 := hide hr
  clear hr
  rcases unhide HRO with rfl | rfl | rfl
  rotate_left 1
  · have HX : Hid (writeO m ts = (⟨#[]⟩, 5)) := hide (by rw [unhide HW, if_neg (unhide HNO), if_pos (by decide)])
    clear HW HRO HR0
    go_enter Tryz.func16, Tryz.ntmps16
    go_wp2_with fail
    refine (unhide HR).mono ?_
    rintro e w1 ⟨rfl, hb1⟩
    go_wp2
    go_ret2
    rw [unhide HX]
    exact ⟨rfl, hb1⟩
  · have HX : Hid (writeO m ts = (⟨#[]⟩, 6)) := hide (by rw [unhide HW, if_neg (unhide HNO), if_pos (by decide)])
    clear HW HRO HR0
    go_enter Tryz.func16, Tryz.ntmps16
    go_wp2_with fail
    refine (unhide HR).mono ?_
    rintro e w1 ⟨rfl, hb1⟩
    go_wp2
    go_ret2
    rw [unhide HX]
    exact ⟨rfl, hb1⟩
  by_cases h1 : m = 1
  · subst h1
    go_enter Tryz.func16, Tryz.ntmps16
    go_wp2_with fail
    refine (unhide HR).mono ?_
    rintro e w1 ⟨rfl, hb1⟩
    have HH := hide (isHtml_any ts a cap w1 ((unhide HV).below hb1) hn (unhide HS) ((unhide HE).low (hb1.mono hB)).env)
    cases hh : htmlOk ts with
    | false =>
      have HX : Hid (writeO 1 ts = (⟨#[]⟩, 5)) := hide (by rw [unhide HW, if_neg (unhide HNO), if_neg (by decide), if_pos ⟨by first | rfl | trivial, hh⟩])
      rw [hh] at HH
      clear HW hh
      go_wp2_with fail
      refine (unhide HH).mono ?_
      rintro e w2 ⟨rfl, hb2⟩
      go_wp2
      go_ret2
      rw [unhide HX]
      exact ⟨rfl, Below.then hb1 hb2⟩
    | true =>
      have HX : Hid (writeO 1 ts = if 32768 < (textO 1 ts).length then (⟨#[]⟩, 6) else (⟨(textO 1 ts).toArray⟩, 0)) := hide (by rw [unhide HW, if_neg (unhide HNO), if_neg (by decide), if_neg (by rw [hh]; simp)])
      rw [hh] at HH
      clear HW hh
      go_wp2_with fail
      refine (unhide HH).mono ?_
      rintro e w2 ⟨rfl, hb2⟩
      have hb02 := Below.then hb1 hb2
      have HI0 : Hid (IsW w2.heap.size w2.heap.size (Lib.byteCells []) (w2.alloc (.cells #[.pointer none, .slice none 0 0] 52))) := hide (Lib.IsBuilderF.of (.inl ⟨Nat.le_refl _, .slice none 0 0, alloc_newO _ _, World.ownsRow_nil _ _ _ _, (by intro h; cases h)⟩))
      have HBW : Hid (Below w2.heap.size w2 (w2.alloc (.cells #[.pointer none, .slice none 0 0] 52))) := hide ((Below.refl _ _).alloc (Nat.le_refl _) _)
      have HALL : Hid (∀ W, Below w2.heap.size w2 W → IsW w2.heap.size w2.heap.size (Lib.byteCells []) W → Calls Tryz.prog 25 #[.pointer (some ⟨w2.heap.size, 0, none⟩), .slice a ts.length cap, .func (.func (wayF 1)) #[.pointer (some ⟨w2.heap.size, 0, none⟩)] #[]] W fun e W' => e = .returned (.tuple #[]) ∧ WOut w2.heap.size w2.heap.size (textO 1 ts) W W') := hide fun W hb hI => all_any 1 w2 w2.heap.size ts a cap W ((unhide HV).below hb02) hb hI (unhide HS) (unhide HR0) (((unhide HE).low (hb02.mono hB)).up (Nat.le_trans hB hb02.size) |>.low hb)
      clear HR HRO HNO HH
      go_wp2_with fail
      refine (byW_any _ 1 _).mono ?_
      rintro e w5 ⟨rfl, rfl⟩
      go_wp2_with fail
      refine (unhide HALL _ (unhide HBW) (unhide HI0)).mono ?_
      rintro e w6 ⟨rfl, hO⟩
      have hb6 := Below.then hb02 ((unhide HBW).trans hO.bel)
      have HLn := hide (wrLen_any w2.heap.size w2.heap.size _ w6 hO.bld)
      have HSt := hide (wrStr_any w2.heap.size w2.heap.size _ w6 hO.bld (Nat.le_trans (unhide HBW).size hO.bel.size))
      have HB6 := hide ((unhide HBW).trans hO.bel)
      rw [Lib.byteCells_length] at HLn
      clear hO HALL
      go_wp2_with fail
      refine (unhide HLn).mono ?_
      rintro e w7 ⟨rfl, rfl⟩
      by_cases hz : 32768 < (textO 1 ts).length
      · have hz' : (32768 : Int) < ((textO 1 ts).length : Int) := by omega
        have HX2 : Hid (writeO 1 ts = (⟨#[]⟩, 6)) := hide (by rw [unhide HX, if_pos hz])
        clear hz
        go_wp2
        go_ret2
        rw [unhide HX2]
        exact ⟨rfl, hb6⟩
      · have hz' : ¬ (32768 : Int) < ((textO 1 ts).length : Int) := by omega
        have HX2 : Hid (writeO 1 ts = (⟨(textO 1 ts).toArray⟩, 0)) := hide (by rw [unhide HX, if_neg hz])
        clear hz
        go_wp2_with fail
        refine (unhide HSt).mono ?_
        rintro e w8 ⟨rfl, hb8⟩
        go_wp2
        go_ret2
        rw [unhide HX2]
        exact ⟨rfl, Below.then hb02 ((unhide HB6).trans hb8)⟩
  · have HX : Hid (writeO m ts = if 32768 < (textO m ts).length then (⟨#[]⟩, 6) else (⟨(textO m ts).toArray⟩, 0)) := hide (by rw [unhide HW, if_neg (unhide HNO), if_neg (by decide), if_neg (fun e => h1 e.1)])
    clear HW
    go_enter Tryz.func16, Tryz.ntmps16
    go_wp2_with fail
    refine (unhide HR).mono ?_
    rintro e w1 ⟨rfl, hb1⟩
    have HI0 : Hid (IsW w1.heap.size w1.heap.size (Lib.byteCells []) (w1.alloc (.cells #[.pointer none, .slice none 0 0] 52))) := hide (Lib.IsBuilderF.of (.inl ⟨Nat.le_refl _, .slice none 0 0, alloc_newO _ _, World.ownsRow_nil _ _ _ _, (by intro h; cases h)⟩))
    have HBW : Hid (Below w1.heap.size w1 (w1.alloc (.cells #[.pointer none, .slice none 0 0] 52))) := hide ((Below.refl _ _).alloc (Nat.le_refl _) _)
    have HALL : Hid (∀ W, Below w1.heap.size w1 W → IsW w1.heap.size w1.heap.size (Lib.byteCells []) W → Calls Tryz.prog 25 #[.pointer (some ⟨w1.heap.size, 0, none⟩), .slice a ts.length cap, .func (.func (wayF m)) #[.pointer (some ⟨w1.heap.size, 0, none⟩)] #[]] W fun e W' => e = .returned (.tuple #[]) ∧ WOut w1.heap.size w1.heap.size (textO m ts) W W') := hide fun W hb hI => all_any m w1 w1.heap.size ts a cap W ((unhide HV).below hb1) hb hI (unhide HS) (unhide HR0) (((unhide HE).low (hb1.mono hB)).up (Nat.le_trans hB hb1.size) |>.low hb)
    clear HR HRO HNO 
    go_wp2_with fail
    refine (byW_any _ m _).mono ?_
    rintro e w5 ⟨rfl, rfl⟩
    go_wp2_with fail
    refine (unhide HALL _ (unhide HBW) (unhide HI0)).mono ?_
    rintro e w6 ⟨rfl, hO⟩
    have hb6 := Below.then hb1 ((unhide HBW).trans hO.bel)
    have HLn := hide (wrLen_any w1.heap.size w1.heap.size _ w6 hO.bld)
    have HSt := hide (wrStr_any w1.heap.size w1.heap.size _ w6 hO.bld (Nat.le_trans (unhide HBW).size hO.bel.size))
    have HB6 := hide ((unhide HBW).trans hO.bel)
    rw [Lib.byteCells_length] at HLn
    clear hO HALL
    go_wp2_with fail
    refine (unhide HLn).mono ?_
    rintro e w7 ⟨rfl, rfl⟩
    by_cases hz : 32768 < (textO m ts).length
    · have hz' : (32768 : Int) < ((textO m ts).length : Int) := by omega
      have HX2 : Hid (writeO m ts = (⟨#[]⟩, 6)) := hide (by rw [unhide HX, if_pos hz])
      clear hz
      go_wp2
      go_ret2
      rw [unhide HX2]
      exact ⟨rfl, hb6⟩
    · have hz' : ¬ (32768 : Int) < ((textO m ts).length : Int) := by omega
      have HX2 : Hid (writeO m ts = (⟨(textO m ts).toArray⟩, 0)) := hide (by rw [unhide HX, if_neg hz])
      clear hz
      go_wp2_with fail
      refine (unhide HSt).mono ?_
      rintro e w8 ⟨rfl, hb8⟩
      go_wp2
      go_ret2
      rw [unhide HX2]
      exact ⟨rfl, Below.then hb1 ((unhide HB6).trans hb8)⟩
end Go.Proofs.YtefjfjieoiegnaaGreatDoor
/- What must be whatever is asked: stencillaw10's live. -/
namespace Go.Proofs.YtefjfjieoiegnaaGreatDoor
open Go.RowKit
def brE : BTok := ⟨2, ⟨#[98, 114]⟩, [], ⟨#[]⟩⟩
def brF : BTok := ⟨7, ⟨#[98, 114]⟩, [], ⟨#[]⟩⟩
def brT : BTok := ⟨4, ⟨#[]⟩, [], ⟨#[97, 60]⟩⟩
def liveT : List BTok := [brE, brF, brT]
theorem liveT_h : writeO 1 liveT = (⟨#[60, 98, 114, 62, 97, 38, 108, 116, 59]⟩, 0) := by kernel_rfl
theorem liveT_x : writeO 0 liveT = (⟨#[60, 98, 114, 47, 62, 97, 38, 108, 116, 59]⟩, 0) := by kernel_rfl
theorem liveT_v : voidB ⟨#[66, 82]⟩ = true := by kernel_rfl
theorem liveT_r : rawB ⟨#[115, 99, 114, 105, 112, 116]⟩ = true := by kernel_rfl
theorem liveT_s : shortB ⟨#[99, 104, 101, 99, 107, 101, 100]⟩ = true := by kernel_rfl
theorem liveT_small : ∀ t ∈ liveT, Small t := by
  intro t ht
  simp only [liveT, List.mem_cons, List.not_mem_nil, or_false] at ht
  rcases ht with rfl | rfl | rfl
  all_goals exact ⟨Nat.zero_le _, (fun x h => by cases h), by decide, by decide⟩
theorem liveT_arg (w : World) : ToksArg (w.alloc (.cells #[.int .i64 2, .string ⟨#[98, 114]⟩, .slice none 0 0, .string ⟨#[]⟩, .int .i64 7, .string ⟨#[98, 114]⟩, .slice none 0 0, .string ⟨#[]⟩, .int .i64 4, .string ⟨#[]⟩, .slice none 0 0, .string ⟨#[97, 60]⟩] 37)) (some ⟨w.heap.size, 0, none⟩) liveT := by
  intro _
  refine ⟨_, _, rfl, fun i t ht => ?_⟩
  match i, ht with
  | 0, e =>
    cases e
    exact ⟨by simp [go_sem, brE], by simp [go_sem, brE], ⟨.slice none 0 0, by simp [go_sem], pairs_nil _⟩, by simp [go_sem, brE]⟩
  | 1, e =>
    cases e
    exact ⟨by simp [go_sem, brF], by simp [go_sem, brF], ⟨.slice none 0 0, by simp [go_sem], pairs_nil _⟩, by simp [go_sem, brF]⟩
  | 2, e =>
    cases e
    exact ⟨by simp [go_sem, brT], by simp [go_sem, brT], ⟨.slice none 0 0, by simp [go_sem], pairs_nil _⟩, by simp [go_sem, brT]⟩
set_option maxRecDepth 100000 in
set_option maxHeartbeats 4000000 in
theorem live10_any (w : World) (hE : XEnv w.heap.size w) :
    Calls Tryz.prog 9 #[] w fun e w' => e = .returned (.bool true) ∧ Below w.heap.size w w' := by
  have HE := hide hE
  have hbA : Below w.heap.size w (w.alloc (.cells #[.int .i64 2, .string ⟨#[98, 114]⟩, .slice none 0 0, .string ⟨#[]⟩, .int .i64 7, .string ⟨#[98, 114]⟩, .slice none 0 0, .string ⟨#[]⟩, .int .i64 4, .string ⟨#[]⟩, .slice none 0 0, .string ⟨#[97, 60]⟩] 37)) := (Below.refl _ _).alloc (Nat.le_refl _) _
  have HBA := hide hbA
  have HC : Hid (∀ (m : Int) (W : World), Below (w.heap.size + 1) (w.alloc (.cells #[.int .i64 2, .string ⟨#[98, 114]⟩, .slice none 0 0, .string ⟨#[]⟩, .int .i64 7, .string ⟨#[98, 114]⟩, .slice none 0 0, .string ⟨#[]⟩, .int .i64 4, .string ⟨#[]⟩, .slice none 0 0, .string ⟨#[97, 60]⟩] 37)) W → Calls Tryz.prog 16 #[.int .i64 m, .slice (some ⟨w.heap.size, 0, none⟩) 3 3] W fun e w' => e = .returned (.tuple #[.string (writeO m liveT).1, .int .i64 ((writeO m liveT).2 : Nat)]) ∧ Below W.heap.size W w') := hide fun m W hb => by
    have hb' : Below w.heap.size w W := hbA.trans (hb.mono (by omega))
    exact outWrite_any m liveT (some ⟨w.heap.size, 0, none⟩) 3 W ((liveT_arg w).below (by simpa using hb)) (by decide) liveT_small w.heap.size hb'.size ((unhide HE).low hb')
  have HC1 := hide (unhide HC 1 _ (Below.refl _ _))
  have HC0 := hide (unhide HC 0)
  rw [liveT_h] at HC1
  rw [liveT_x] at HC0
  clear hE hbA HC
  go_enter Tryz.func9, Tryz.ntmps9
  go_wp2_with fail
  refine (unhide HC1).mono ?_
  rintro e w1 ⟨rfl, hb1⟩
  have HC2 := hide (unhide HC0 w1 (hb1.mono (by simp)))
  have hb01 := Below.then (unhide HBA) hb1
  clear HC0 HC1
  go_wp2_with fail
  refine (unhide HC2).mono ?_
  rintro e w2 ⟨rfl, hb2⟩
  have hb02 := Below.then hb01 hb2
  have HV := hide (xVoid_any ⟨#[66, 82]⟩ w2 (by decide) ((unhide HE).low hb02).env)
  rw [liveT_v] at HV
  clear HC2
  go_wp2_with fail
  refine (unhide HV).mono ?_
  rintro e w3 ⟨rfl, hb3⟩
  have hb03 := Below.then hb02 hb3
  have HR := hide (xRaw_any ⟨#[115, 99, 114, 105, 112, 116]⟩ w3 (by decide) ((unhide HE).low hb03).env)
  rw [liveT_r] at HR
  clear HV
  go_wp2_with fail
  refine (unhide HR).mono ?_
  rintro e w4 ⟨rfl, hb4⟩
  have hb04 := Below.then hb03 hb4
  have HS := hide (xShort_any ⟨#[99, 104, 101, 99, 107, 101, 100]⟩ w4 (by decide) ((unhide HE).low hb04).env)
  rw [liveT_s] at HS
  clear HR
  go_wp2_with fail
  refine (unhide HS).mono ?_
  rintro e w5 ⟨rfl, hb5⟩
  go_wp2
  go_ret
  exact ⟨rfl, Below.then hb04 hb5⟩
end Go.Proofs.YtefjfjieoiegnaaGreatDoor
/- Which characters are blanks: the reference's IsBlank. -/
namespace Go.Proofs.YtefjfjieoiegnaaGreatDoor
open Go.RowKit
end Go.Proofs.YtefjfjieoiegnaaGreatDoor
/- The reference's find, lower and qname. -/
namespace Go.Proofs.YtefjfjieoiegnaaGreatDoor
open Go.RowKit
def lowU (b : UInt8) : UInt8 := if 65 ≤ b.toNat ∧ b.toNat ≤ 90 then b + 32 else b
theorem lowU_nat (b : UInt8) : (lowU b).toNat = lowC b.toNat := by
  unfold lowU lowC
  by_cases h : 65 ≤ b.toNat ∧ b.toNat ≤ 90
  · rw [if_pos h, if_pos h, UInt8.toNat_add]
    show (b.toNat + 32) % 256 = _
    omega
  · rw [if_neg h, if_neg h]
end Go.Proofs.YtefjfjieoiegnaaGreatDoor
