/- Several texts, laid as one. -/
import Derived.Test.YtnmcambbpgoodaaGreatDoorGah
import Derived.Test.YtnmcambbpgoodaaGreatDoorShelf
import Derived.Lib.AppendIntMem
import Derived.Lib.TrimByte
import Derived.Lib.SmallJoins
import Derived.Shelf.GgClosure.StringsRunes
/- A number's digits: strconv.FormatUint at base 10. -/
namespace Go.Proofs.YtnmcambbpgoodaaGreatDoor
open Go.RowKit Go.Sort
end Go.Proofs.YtnmcambbpgoodaaGreatDoor
/- Noughts ahead, and none behind: xnum's padLeft and placesOf. -/
namespace Go.Proofs.YtnmcambbpgoodaaGreatDoor
open Go.RowKit
end Go.Proofs.YtnmcambbpgoodaaGreatDoor
/- Digits as numbers: what is written is read. -/
namespace Go.Proofs.YtnmcambbpgoodaaGreatDoor
open Go.RowKit
def digB (b : UInt8) : Bool := decide (48 ≤ b.toNat) && decide (b.toNat ≤ 57)
def digN (b : UInt8) : Nat := b.toNat - 48
/-- The number of some digits behind another one. -/
def valL (n : Nat) (l : List UInt8) : Nat := l.foldl (fun n b => n * 10 + digN b) n
/-- .. read till it is too great. -/
def readL : Nat → List UInt8 → Nat
  | n, [] => n
  | n, c :: r => if 1000000000000000000 < n * 10 + digN c then n * 10 + digN c else readL (n * 10 + digN c) r
theorem valL_cons (n : Nat) (c : UInt8) (l : List UInt8) : valL n (c :: l) = valL (n * 10 + digN c) l := by simp only [valL, List.foldl_cons]
theorem valL_ge : ∀ (l : List UInt8) (n : Nat), n ≤ valL n l
  | [], n => Nat.le_refl _
  | c :: l, n => by
    rw [valL_cons]
    have := valL_ge l (n * 10 + digN c)
    omega
theorem readL_val : ∀ (l : List UInt8) (n : Nat), valL n l ≤ 1000000000000000000 → readL n l = valL n l
  | [], n, _ => rfl
  | c :: l, n, h => by
    rw [valL_cons] at h ⊢
    have := valL_ge l (n * 10 + digN c)
    rw [readL, if_neg (by omega)]
    exact readL_val l _ h
theorem rep_eq (k : Nat) : Lib.repeatL [48] k = List.replicate k 48 := by
  induction k with
  | zero => rfl
  | succ k ih =>
    rw [List.replicate_succ, ← ih]
    simp [Lib.repeatL]
end Go.Proofs.YtnmcambbpgoodaaGreatDoor
/- A text without blanks at its ends is trimmed to itself; a text is cut at its point. -/
namespace Go.Proofs.YtnmcambbpgoodaaGreatDoor
open Go.RowKit
theorem indexByte_at : ∀ (p r : List UInt8) (c : UInt8), c ∉ p → Lib.indexByte (p ++ c :: r) c = p.length
  | [], r, c, _ => by simp [Lib.indexByte]
  | x :: p, r, c, h => by
    have hx : ¬ (x == c) = true := fun e => h (by rw [beq_iff_eq.1 e]; simp)
    have ih := indexByte_at p r c (fun hm => h (List.mem_cons_of_mem _ hm))
    simp only [List.cons_append, Lib.indexByte, hx, ih]
    simp
theorem indexByte_no : ∀ (p : List UInt8) (c : UInt8), c ∉ p → Lib.indexByte p c = -1
  | [], c, _ => by simp [Lib.indexByte]
  | x :: p, c, h => by
    have hx : ¬ (x == c) = true := fun e => h (by rw [beq_iff_eq.1 e]; simp)
    have ih := indexByte_no p c (fun hm => h (List.mem_cons_of_mem _ hm))
    simp only [Lib.indexByte, hx, ih]
    simp
theorem cut_at (p r : List UInt8) (c : UInt8) (h : c ∉ p) : Lib.cut (p ++ c :: r) [c] = (p, r, true) := by
  unfold Lib.cut
  rw [Lib.index_one, indexByte_at p r c h, if_pos (by omega)]
  simp
theorem cut_no (p : List UInt8) (c : UInt8) (h : c ∉ p) : Lib.cut p [c] = (p, [], false) := by
  unfold Lib.cut
  rw [Lib.index_one, indexByte_no p c h, if_neg (by omega)]
theorem dig_ascii {b : UInt8} (h : digB b = true) : b.toNat < 128 := by
  unfold digB at h
  simp at h
  omega
end Go.Proofs.YtnmcambbpgoodaaGreatDoor
/- A size rounded, noughts behind: xnum's roundTo and padRight, and what stands ahead of the point. -/
namespace Go.Proofs.YtnmcambbpgoodaaGreatDoor
open Go.RowKit
set_option maxHeartbeats 1000000 in
theorem padRight_any (s : ByteArray) (n : Nat) (w : World) (hs : s.size ≤ 1000000) (hn : n ≤ 1000000) :
    Calls Tryz.prog 114 #[.string s, .int .i64 (n : Int)] w fun e w' => e = .returned (.string (s ++ (⟨(Lib.repeatL [48] (n - s.size)).toArray⟩ : ByteArray))) ∧ Below w.heap.size w w' := by
  have HR := hide (fun w => Tryz.strings_Repeat ⟨#[48]⟩ (n - s.size) w (by omega) (by show 1 * (n - s.size) ≤ _; omega))
  have e1 : max ((n : Int) - (s.size : Int)) 0 = ((n - s.size : Nat) : Int) := by omega
  go_enter Tryz.func114, Tryz.ntmps114
  go_wp2_with fail
  refine (unhide HR _).mono ?_
  rintro e w1 ⟨rfl, hb⟩
  have hsz : (⟨(Lib.repeatL [48] (n - s.size)).toArray⟩ : ByteArray).size ≤ 1000000 := by
    show (Lib.repeatL [48] (n - s.size)).toArray.size ≤ 1000000
    simp [Lib.repeatL_length]
    omega
  generalize hR : (⟨(Lib.repeatL [48] (n - s.size)).toArray⟩ : ByteArray) = R at *
  have HRR := hide hR
  clear hR
  go_wp2
  go_ret
  exact ⟨by rw [unhide HRR]; rfl, hb⟩
end Go.Proofs.YtnmcambbpgoodaaGreatDoor
/- A picture's parts, at live's picture: xnum's isTail, isRest, isWhole and groupOf. -/
namespace Go.Proofs.YtnmcambbpgoodaaGreatDoor
open Go.RowKit
/-- The library's MaxLen holds an int. -/
def MaxLenIs (w : World) : Prop := ∃ m, w.cell? ⟨4, 0, none⟩ = some (.int .i64 m)
theorem MaxLenIs.below {w w' : World} (h : MaxLenIs w) (hb : Below w.heap.size w w') : MaxLenIs w' := by
  obtain ⟨m, hm⟩ := h
  exact ⟨m, kept_cell hb hm⟩
end Go.Proofs.YtnmcambbpgoodaaGreatDoor
