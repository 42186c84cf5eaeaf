/- Several texts, laid as one. -/
import Derived.Test.YthkkfldmoflfaaaGreatDoorGaw
import Derived.Shelf.GgClosure.StringsRunes
import Derived.Test.YthkkfldmoflfaaaGreatDoorGaf
import Derived.Test.YthkkfldmoflfaaaGreatDoorShelf
import Derived.Lib.OthersKept
import Derived.Test.YthkkfldmoflfaaaGreatDoorGap
import Derived.Lib.ValidLaws
/- Digits as numbers: what is written is read. -/
namespace Go.Proofs.YthkkfldmoflfaaaGreatDoor
open Go.RowKit
def digB (b : UInt8) : Bool := decide (48 ≤ b.toNat) && decide (b.toNat ≤ 57)
def digN (b : UInt8) : Nat := b.toNat - 48
/-- The number of some digits behind another one. -/
def valL (n : Nat) (l : List UInt8) : Nat := l.foldl (fun n b => n * 10 + digN b) n
/-- .. read till it is too great. -/
def readL : Nat → List UInt8 → Nat
  | n, [] => n
  | n, c :: r => if 1000000000000000000 < n * 10 + digN c then n * 10 + digN c else readL (n * 10 + digN c) r
theorem valL_cons (n : Nat) (c : UInt8) (l : List UInt8) : valL n (c :: l) = valL (n * 10 + digN c) l := by simp only [valL, List.foldl_cons]
theorem valL_ge : ∀ (l : List UInt8) (n : Nat), n ≤ valL n l
  | [], n => Nat.le_refl _
  | c :: l, n => by
    rw [valL_cons]
    have := valL_ge l (n * 10 + digN c)
    omega
theorem readL_val : ∀ (l : List UInt8) (n : Nat), valL n l ≤ 1000000000000000000 → readL n l = valL n l
  | [], n, _ => rfl
  | c :: l, n, h => by
    rw [valL_cons] at h ⊢
    have := valL_ge l (n * 10 + digN c)
    rw [readL, if_neg (by omega)]
    exact readL_val l _ h
theorem valL_append (n : Nat) (l m : List UInt8) : valL n (l ++ m) = valL (valL n l) m := by simp [valL]
theorem digN_of (d : Nat) (h : d < 10) : digN (UInt8.ofNat (48 + d)) = d ∧ digB (UInt8.ofNat (48 + d)) = true := by
  have e : (UInt8.ofNat (48 + d)).toNat = 48 + d := by rw [UInt8.toNat_ofNat']; omega
  unfold digN digB
  rw [e]
  exact ⟨by omega, by simp; omega⟩
theorem dec_all (q : Nat) : valL 0 (Lib.decDigits q) = q ∧ (Lib.decDigits q).all digB = true ∧ Lib.decDigits q ≠ [] := by
  induction q using Nat.strongRecOn with
  | _ q ih =>
    rw [Lib.decDigits]
    by_cases h : q < 10
    · rw [dif_pos h]
      obtain ⟨h1, h2⟩ := digN_of q h
      refine ⟨?_, ?_, by simp⟩
      · rw [valL_cons, h1]; simp [valL]
      · rw [List.all_cons, h2]; rfl
    · rw [dif_neg h]
      obtain ⟨i1, i2, i3⟩ := ih (q / 10) (by omega)
      obtain ⟨h1, h2⟩ := digN_of (q % 10) (by omega)
      refine ⟨?_, ?_, by simp⟩
      · rw [valL_append, i1, valL_cons, h1]
        show q / 10 * 10 + q % 10 = q
        omega
      · rw [List.all_append, i2, List.all_cons, h2]; rfl
theorem dec_len : ∀ (k q : Nat), q < 10 ^ (k + 1) → (Lib.decDigits q).length ≤ k + 1
  | 0, q, h => by
    rw [Lib.decDigits, dif_pos (by simpa using h)]
    simp
  | k + 1, q, h => by
    rw [Lib.decDigits]
    by_cases hq : q < 10
    · rw [dif_pos hq]; simp
    · rw [dif_neg hq]
      have := dec_len k (q / 10) (by rw [Nat.pow_succ] at h; omega)
      simp
      omega
theorem rep_eq (k : Nat) : Lib.repeatL [48] k = List.replicate k 48 := by
  induction k with
  | zero => rfl
  | succ k ih =>
    rw [List.replicate_succ, ← ih]
    simp [Lib.repeatL]
/-- Six digits. -/
def sixL (m : Nat) : List UInt8 := List.replicate (6 - (Lib.decDigits m).length) 48 ++ Lib.decDigits m
theorem six_len (m : Nat) (h : m < 1000000) : (sixL m).length = 6 := by
  have := dec_len 5 m h
  unfold sixL
  simp
  omega
theorem places_six (m : Nat) : placesL m = Lib.trimRightB (sixL m) 48 := by
  unfold placesL sixL
  congr 1
  rw [ByteArray.data_append]
  simp [rep_eq]
theorem trim_split (l : List UInt8) : ∃ k, l = Lib.trimRightB l 48 ++ List.replicate k 48 := by
  unfold Lib.trimRightB
  generalize hr : l.reverse = r
  have hl : l = r.reverse := by rw [← hr, List.reverse_reverse]
  rw [hl]
  clear hl hr
  induction r with
  | nil => exact ⟨0, by simp⟩
  | cons c r ih =>
    by_cases hc : c = 48
    · subst hc
      obtain ⟨k, hk⟩ := ih
      refine ⟨k + 1, ?_⟩
      rw [List.dropWhile_cons_of_pos (by simp), List.reverse_cons, List.replicate_succ', ← List.append_assoc, ← hk]
    · refine ⟨0, ?_⟩
      rw [List.dropWhile_cons_of_neg (by simpa using hc)]
      simp
theorem six_all (m : Nat) : (sixL m).all digB = true := by
  unfold sixL
  rw [List.all_append, (dec_all m).2.1, Bool.and_true]
  simp [digB]
/-- What stands behind the point: digits, six at most, that noughts make six. -/
theorem places_all (m : Nat) (h : m < 1000000) : (placesL m).all digB = true ∧ (placesL m).length ≤ 6 ∧ placesL m ++ List.replicate (6 - (placesL m).length) 48 = sixL m := by
  obtain ⟨k, hk⟩ := trim_split (sixL m)
  rw [← places_six] at hk
  have hl := six_len m h
  have ha := six_all m
  rw [hk, List.length_append, List.length_replicate] at hl
  rw [hk, List.all_append, Bool.and_eq_true] at ha
  refine ⟨ha.1, by omega, ?_⟩
  rw [show 6 - (placesL m).length = k by omega]
  exact hk.symm
end Go.Proofs.YthkkfldmoflfaaaGreatDoor
/- A text without blanks at its ends is trimmed to itself; a text is cut at its point. -/
namespace Go.Proofs.YthkkfldmoflfaaaGreatDoor
open Go.RowKit
theorem indexByte_at : ∀ (p r : List UInt8) (c : UInt8), c ∉ p → Lib.indexByte (p ++ c :: r) c = p.length
  | [], r, c, _ => by simp [Lib.indexByte]
  | x :: p, r, c, h => by
    have hx : ¬ (x == c) = true := fun e => h (by rw [beq_iff_eq.1 e]; simp)
    have ih := indexByte_at p r c (fun hm => h (List.mem_cons_of_mem _ hm))
    simp only [List.cons_append, Lib.indexByte, hx, ih]
    simp
theorem indexByte_no : ∀ (p : List UInt8) (c : UInt8), c ∉ p → Lib.indexByte p c = -1
  | [], c, _ => by simp [Lib.indexByte]
  | x :: p, c, h => by
    have hx : ¬ (x == c) = true := fun e => h (by rw [beq_iff_eq.1 e]; simp)
    have ih := indexByte_no p c (fun hm => h (List.mem_cons_of_mem _ hm))
    simp only [Lib.indexByte, hx, ih]
    simp
theorem cut_at (p r : List UInt8) (c : UInt8) (h : c ∉ p) : Lib.cut (p ++ c :: r) [c] = (p, r, true) := by
  unfold Lib.cut
  rw [Lib.index_one, indexByte_at p r c h, if_pos (by omega)]
  simp
theorem cut_no (p : List UInt8) (c : UInt8) (h : c ∉ p) : Lib.cut p [c] = (p, [], false) := by
  unfold Lib.cut
  rw [Lib.index_one, indexByte_no p c h, if_neg (by omega)]
theorem dig_ascii {b : UInt8} (h : digB b = true) : b.toNat < 128 := by
  unfold digB at h
  simp at h
  omega
end Go.Proofs.YthkkfldmoflfaaaGreatDoor
/- A size rounded, noughts behind: xnum's roundTo and padRight, and what stands ahead of the point. -/
namespace Go.Proofs.YthkkfldmoflfaaaGreatDoor
open Go.RowKit
set_option maxHeartbeats 1000000 in
theorem padRight_any (s : ByteArray) (n : Nat) (w : World) (hs : s.size ≤ 1000000) (hn : n ≤ 1000000) :
    Calls Tryz.prog 178 #[.string s, .int .i64 (n : Int)] w fun e w' => e = .returned (.string (s ++ (⟨(Lib.repeatL [48] (n - s.size)).toArray⟩ : ByteArray))) ∧ Below w.heap.size w w' := by
  have HR := hide (fun w => Tryz.strings_Repeat ⟨#[48]⟩ (n - s.size) w (by omega) (by show 1 * (n - s.size) ≤ _; omega))
  have e1 : max ((n : Int) - (s.size : Int)) 0 = ((n - s.size : Nat) : Int) := by omega
  go_enter Tryz.func178, Tryz.ntmps178
  go_wp2_with fail
  refine (unhide HR _).mono ?_
  rintro e w1 ⟨rfl, hb⟩
  have hsz : (⟨(Lib.repeatL [48] (n - s.size)).toArray⟩ : ByteArray).size ≤ 1000000 := by
    show (Lib.repeatL [48] (n - s.size)).toArray.size ≤ 1000000
    simp [Lib.repeatL_length]
    omega
  generalize hR : (⟨(Lib.repeatL [48] (n - s.size)).toArray⟩ : ByteArray) = R at *
  have HRR := hide hR
  clear hR
  go_wp2
  go_ret
  exact ⟨by rw [unhide HRR]; rfl, hb⟩
end Go.Proofs.YthkkfldmoflfaaaGreatDoor
/- A picture's parts, at live's picture: xnum's isTail, isRest, isWhole and groupOf. -/
namespace Go.Proofs.YthkkfldmoflfaaaGreatDoor
open Go.RowKit
/-- The library's MaxLen holds an int. -/
def MaxLenIs (w : World) : Prop := ∃ m, w.cell? ⟨8, 0, none⟩ = some (.int .i64 m)
theorem MaxLenIs.below {w w' : World} (h : MaxLenIs w) (hb : Below w.heap.size w w') : MaxLenIs w' := by
  obtain ⟨m, hm⟩ := h
  exact ⟨m, kept_cell hb hm⟩
end Go.Proofs.YthkkfldmoflfaaaGreatDoor
/- What a text says: xnum's areDigits, readDigits and Parse. -/
namespace Go.Proofs.YthkkfldmoflfaaaGreatDoor
open Go.RowKit
def blankCN (x : Int) : Bool := x == 32 || x == 9 || x == 10 || x == 13
def blankP (x : Nat) : Bool := blankCN x
set_option maxHeartbeats 1000000 in
theorem blank_any (r : Int) (w : World) :
    Calls Tryz.prog 40 #[.int .i32 r] w fun e w' => e = .returned (.bool (blankCN r)) ∧ w' = w := by
  go_enter Tryz.func40, Tryz.ntmps40
  go_wp2
  all_goals
    go_ret
    exact ⟨ret_bool (by simp [blankCN, *]), rfl⟩
theorem blank_runes (w : World) : PredAtRunes Tryz.prog 40 #[] blankP w := fun W x _ _ => by
  refine (blank_any x W).mono ?_
  rintro e w' ⟨rfl, rfl⟩
  exact ⟨rfl, 0, rfl⟩
theorem blank_enters : ∀ args w, (callFunc 40 args).run Tryz.prog w = .ok (.enter 40 args) w := fun _ _ => by kernel_rfl
set_option maxHeartbeats 1000000 in
theorem areDigits_yes (s : ByteArray) (w : World) (ha : ∀ i (h : i < s.size), digB (s[i]'h) = true) :
    Calls Tryz.prog 174 #[.string s] w fun e w' => e = .returned (.bool true) ∧ Below w.heap.size w w' := by
  have HA := hide ha
  clear ha
  go_enter Tryz.func174, Tryz.ntmps174
  go_wp2_with fail
  go_loopw [] (fun w' => ∃ pos : Nat, w' = w.iter s pos ∧ pos ≤ s.size) (fun w' => s.size - w'.iterPos w.heap.size)
  case atStart => exact ⟨0, rfl, Nat.zero_le _⟩
  case round =>
    obtain ⟨pos, rfl, hps⟩ := hrel
    by_cases hp : pos < s.size
    · have hd := unhide HA pos hp
      have hlt := dig_ascii hd
      have hnx : ∀ ty, (Instr.next (.pointer (some ⟨w.heap.size, 0, none⟩)) true ty).run Tryz.prog (w.iter s pos) = _ := fun ty => run_next_ascii w s pos ty hp hlt
      have h1 : (48 : Int) ≤ ((s[pos]'hp).toNat : Int) ∧ ((s[pos]'hp).toNat : Int) ≤ 57 := by unfold digB at hd; simp at hd; omega
      obtain ⟨h2, h3⟩ := h1
      clear hd hlt
      generalize (s[pos]'hp).toNat = c at *
      go_wp2
      exact ⟨⟨pos + 1, rfl, hp⟩, by simp; omega⟩
    · have hnx : ∀ ty, (Instr.next (.pointer (some ⟨w.heap.size, 0, none⟩)) true ty).run Tryz.prog (w.iter s pos) = _ := fun ty => run_next_end w s pos ty hp
      go_wp2
      go_ret
      exact ⟨rfl, (Below.refl _ _).alloc (Nat.le_refl _) _⟩
theorem readL_step (s : ByteArray) (n pos : Nat) (hp : pos < s.size) : readL n (s.data.toList.drop pos) = if 1000000000000000000 < n * 10 + digN (s[pos]'hp) then n * 10 + digN (s[pos]'hp) else readL (n * 10 + digN (s[pos]'hp)) (s.data.toList.drop (pos + 1)) := by
  have hl : pos < s.data.toList.length := hp
  rw [List.drop_eq_getElem_cons hl, readL]
  rfl
set_option maxRecDepth 100000 in
set_option maxHeartbeats 1000000 in
theorem readDigits_any (s : ByteArray) (w : World) (ha : ∀ i (h : i < s.size), digB (s[i]'h) = true) :
    Calls Tryz.prog 177 #[.string s] w fun e w' => e = .returned (.int .u64 ((readL 0 s.data.toList : Nat) : Int)) ∧ Below w.heap.size w w' := by
  have HA := hide ha
  clear ha
  go_enter Tryz.func177, Tryz.ntmps177
  go_wp2_with fail
  go_loopw [3] (fun v w' => ∃ pos n : Nat, v = .int .u64 (n : Int) ∧ w' = w.iter s pos ∧ pos ≤ s.size ∧ n ≤ 1000000000000000000 ∧ readL 0 s.data.toList = readL n (s.data.toList.drop pos)) (fun _ w' => s.size - w'.iterPos w.heap.size)
  case atStart => exact ⟨0, 0, rfl, rfl, Nat.zero_le _, Nat.zero_le _, rfl⟩
  case round =>
    obtain ⟨pos, n, rfl, rfl, hps, hn, he⟩ := hrel
    by_cases hp : pos < s.size
    · have hd := unhide HA pos hp
      have hlt := dig_ascii hd
      have hnx : ∀ ty, (Instr.next (.pointer (some ⟨w.heap.size, 0, none⟩)) true ty).run Tryz.prog (w.iter s pos) = _ := fun ty => run_next_ascii w s pos ty hp hlt
      have HF := hide (he.trans (readL_step s n pos hp))
      clear he
      have h1 : 48 ≤ (s[pos]'hp).toNat ∧ (s[pos]'hp).toNat ≤ 57 := by unfold digB at hd; simp at hd; omega
      obtain ⟨d, hdd⟩ : ∃ d, d = digN (s[pos]'hp) := ⟨_, rfl⟩
      rw [← hdd] at HF
      have hc : (s[pos]'hp).toNat = d + 48 := by rw [hdd]; unfold digN; omega
      have hd9 : d ≤ 9 := by omega
      rw [hc] at hnx
      clear hd hlt hdd hc h1
      have hcast : (((d + 48 : Nat) : Int) - 48) = (d : Int) := by omega
      by_cases hg : 1000000000000000000 < n * 10 + d
      · have hg' : (1000000000000000000 : Int) < (n : Int) * 10 + (d : Int) := by omega
        have HV := hide ((unhide HF).trans (if_pos hg))
        go_wp2
        go_ret
        exact ⟨by rw [unhide HV]; simp, (Below.refl _ _).alloc (Nat.le_refl _) _⟩
      · have hg' : (n : Int) * 10 + (d : Int) ≤ 1000000000000000000 := by omega
        have HV := hide ((unhide HF).trans (if_neg hg))
        go_wp2
        exact ⟨⟨pos + 1, n * 10 + d, by simp, rfl, hp, by omega, unhide HV⟩, by simp; omega⟩
    · have hnx : ∀ ty, (Instr.next (.pointer (some ⟨w.heap.size, 0, none⟩)) true ty).run Tryz.prog (w.iter s pos) = _ := fun ty => run_next_end w s pos ty hp
      have HV := hide (show readL 0 s.data.toList = n by
        rw [he, List.drop_eq_nil_of_le (show s.data.toList.length ≤ pos by have : s.data.toList.length = s.size := rfl; omega), readL])
      clear he
      go_wp2
      go_ret
      exact ⟨by rw [unhide HV]; rfl, (Below.refl _ _).alloc (Nat.le_refl _) _⟩
/-- A text without what it begins with. -/
def cutPre (s p : ByteArray) : ByteArray := if Lib.hasPrefix s.data.toList p.data.toList then s.extract p.size s.size else s
set_option maxHeartbeats 1000000 in
theorem cutPrefix_any (s p : ByteArray) (w : World) :
    Calls Tryz.prog 71 #[.string s, .string p] w fun e w' => e = .returned (.tuple #[.string (cutPre s p), .bool (Lib.hasPrefix s.data.toList p.data.toList)]) ∧ w' = w := by
  have HP := hide (fun w => Tryz.stringslite_HasPrefix s p w)
  have hin : ∀ w, Calls Tryz.prog 100 #[.string s, .string p] w fun e w' => e = .returned (.tuple #[.string (cutPre s p), .bool (Lib.hasPrefix s.data.toList p.data.toList)]) ∧ w' = w := by
    intro w
    cases hb : Lib.hasPrefix s.data.toList p.data.toList
    · rw [show cutPre s p = s by unfold cutPre; rw [hb]; rfl]
      have HB := hide hb
      clear hb
      go_enter Tryz.func100, Tryz.ntmps100
      go_wp2_with fail
      refine (unhide HP _).mono ?_
      rintro e w' ⟨rfl, rfl⟩
      rw [unhide HB]
      go_wp2
      go_ret2
      exact ⟨rfl, rfl⟩
    · have hle : p.size ≤ s.size := by
        have hb' := hb
        unfold Lib.hasPrefix at hb'
        exact (List.isPrefixOf_iff_prefix.1 hb').length_le
      rw [show cutPre s p = s.extract p.size s.size by unfold cutPre; rw [hb]; rfl]
      have HB := hide hb
      clear hb
      go_enter Tryz.func100, Tryz.ntmps100
      go_wp2_with fail
      refine (unhide HP _).mono ?_
      rintro e w' ⟨rfl, rfl⟩
      rw [unhide HB]
      go_wp2
      go_ret2
      exact ⟨rfl, rfl⟩
  have HI := hide hin
  clear hin
  go_enter Tryz.func71, Tryz.ntmps71
  go_wp2_with fail
  refine (unhide HI _).mono ?_
  rintro e w' ⟨rfl, rfl⟩
  go_wp2
  go_ret2
  exact ⟨rfl, rfl⟩
end Go.Proofs.YthkkfldmoflfaaaGreatDoor
/- What a number's text says: xnum's Parse at what Text writes, and at what is no number. -/
namespace Go.Proofs.YthkkfldmoflfaaaGreatDoor
open Go.RowKit
def tailL (m : Nat) : List UInt8 := if placesL m = [] then [] else 46 :: placesL m
def bodyL (q m : Nat) : List UInt8 := Lib.decDigits q ++ tailL m
/-- A number's text. -/
def textL (below : Bool) (q m : Nat) : List UInt8 := (if below then [45] else []) ++ bodyL q m
theorem bel_draws {B : Nat} {a w : World} (h : Below B a w) (n : Nat) : Below B a (w.drewN n) := h.trans ⟨rfl, rfl, rfl, Nat.le_refl _, fun _ _ => rfl⟩
end Go.Proofs.YthkkfldmoflfaaaGreatDoor
