/- Numbers in letters: xsort.Letters and the reference's. -/
import Derived.Test.YtoeahagloobmoaaGreatDoorNumSmall
import Derived.Test.YtoeahagloobmoaaGreatDoorShelf
import Derived.Deep.RegionHeld3
import Derived.Deep.RegionWith
import Derived.Deep.DrawnRows
import Derived.Test.YtoeahagloobmoaaGreatDoorSortReadP
namespace Go.Proofs.YtoeahagloobmoaaGreatDoor
open Go.RowKit
theorem mk_append (a b : List UInt8) : (⟨a.toArray⟩ : ByteArray) ++ ⟨b.toArray⟩ = ⟨(a ++ b).toArray⟩ := by
  apply ByteArray.ext
  simp
theorem mk_size (a : List UInt8) : (⟨a.toArray⟩ : ByteArray).size = a.length := by
  show a.toArray.size = _
  simp
theorem snoc_str (x : UInt8) (l : List UInt8) : (⟨#[x]⟩ : ByteArray) ++ ⟨l.toArray⟩ = ⟨(x :: l).toArray⟩ := by
  have := mk_append [x] l
  exact this
/-- A number's size, as a loop's measure. -/
def vNat : Value → Nat
  | .int _ n => n.toNat
  | _ => 0
theorem enc_ascii (k : Nat) (h : k < 128) : Utf8.encode (k : Int) = ⟨#[UInt8.ofNat k]⟩ := by
  have hv : Utf8.valid (k : Int) = true := by
    unfold Utf8.valid
    simp
    omega
  unfold Utf8.encode
  simp [hv, h]
theorem wrap_same (x : Int) (h1 : -9223372036854775808 ≤ x) (h2 : x ≤ 9223372036854775807) : wrap64 x = x := by
  unfold wrap64
  omega
theorem wrap32_same (x : Int) (h1 : -2147483648 ≤ x) (h2 : x ≤ 2147483647) : IntKind.i32.wrap x = x := by
  rw [IntKind.wrap_i32]
  omega
theorem i64_is (n : Int) : IntKind.i64.wrap n = wrap64 n := by
  rw [IntKind.wrap_i64]
  unfold wrap64
  omega
theorem tmod_nat (k b : Nat) : (k : Int).tmod (b : Int) = ((k % b : Nat) : Int) := rfl
theorem tdiv_nat (k b : Nat) : (k : Int).tdiv (b : Int) = ((k / b : Nat) : Int) := rfl
theorem let_facts (m : Nat) (h0 : m ≠ 0) (hm : m < 9223372036854775808) : ∃ (k q c : Nat) (M K Q C D : Int), m = k + 1 ∧ q = k / 26 ∧ c = k % 26 ∧ q < m ∧ c < 26 ∧ (m : Int) = M ∧ Q = (q : Int) ∧ 0 < M ∧ wrap64 (M - 1) = K ∧ K.tmod 26 = C ∧ K.tdiv 26 = Q ∧ wrap64 (97 + C) = D ∧ IntKind.i32.wrap D = D ∧ Utf8.encode D = ⟨#[UInt8.ofNat (97 + c)]⟩ ∧ wrap64 Q = Q :=
  ⟨m - 1, (m - 1) / 26, (m - 1) % 26, m, (m - 1 : Nat), ((m - 1) / 26 : Nat), ((m - 1) % 26 : Nat), (97 + (m - 1) % 26 : Nat), by omega, rfl, rfl, by omega, by omega, rfl, rfl, by omega, by rw [wrap_same _ (by omega) (by omega)]; omega, tmod_nat _ 26, tdiv_nat _ 26, by rw [wrap_same _ (by omega) (by omega)]; omega, wrap32_same _ (by omega) (by omega), enc_ascii _ (by omega), wrap_same _ (by omega) (by omega)⟩
theorem let_next (n : Nat) (q c : Nat) (l : List UInt8) (hl : letP q ++ [UInt8.ofNat (97 + c)] ++ l = letP n) : letP q ++ (UInt8.ofNat (97 + c) :: l) = letP n := by
  rw [← hl]
  simp
theorem let_left (n q c : Nat) (l : List UInt8) (hl : letP q ++ [UInt8.ofNat (97 + c)] ++ l = letP n) (h : (letP n).length ≤ 14) : (⟨l.toArray⟩ : ByteArray).size ≤ 14 := by
  have := congrArg List.length hl
  simp at this
  rw [mk_size]
  omega
theorem letP_14 (n : Nat) (hn : n < 9223372036854775808) : (letP n).length ≤ 14 := letP_len 14 n (Nat.lt_trans hn (by decide))
set_option maxRecDepth 100000 in
set_option maxHeartbeats 1000000 in
theorem letters_any (n : Nat) (w : World) (hn : n < 9223372036854775808) :
    Calls Tryz.prog 21 #[.int .i64 (n : Int)] w fun e w' => e = .returned (.string ⟨(letP n).toArray⟩) ∧ Below w.heap.size w w' := by
  have HN := hide (letP_14 n hn)
  have Hn := hide hn
  clear hn
  go_enter Tryz.func21, Tryz.ntmps21
  go_wp2_with fail
  go_loop [0, 3] (fun v s => ∃ (m : Nat) (l : List UInt8), v = .int .i64 (m : Int) ∧ s = .string ⟨l.toArray⟩ ∧ letP m ++ l = letP n ∧ m ≤ n) (fun v _ => vNat v)
  case atStart => exact ⟨n, [], rfl, rfl, by simp, Nat.le_refl _⟩
  case round =>
    obtain ⟨m, l, rfl, rfl, hl, hm⟩ := hrel
    by_cases h0 : m = 0
    · subst h0
      have he : l = letP n := by rw [letP_zero] at hl; exact hl
      subst he
      clear hl hm
      generalize hV : (⟨(letP n).toArray⟩ : ByteArray) = V at *
      have HV := hide hV
      clear hV
      go_wp2
      go_ret
      exact ⟨by rw [unhide HV]; rfl, Below.refl _ _⟩
    · obtain ⟨k, q, c, M, K, Q, C, D, hk, hq, hc, hqm, hc26, hMm, hQ, h1, e1, e2, e3, e4, e5, hen, e6⟩ := let_facts m h0 (Nat.lt_of_le_of_lt hm (unhide Hn))
      rw [hk, letP_succ, ← hq, ← hc] at hl
      have hsz := let_left n q c l hl (unhide HN)
      have hR := hide (show ∃ (m' : Nat) (l' : List UInt8), Q = (m' : Int) ∧ (⟨#[UInt8.ofNat (97 + c)]⟩ : ByteArray) ++ ⟨l.toArray⟩ = ⟨l'.toArray⟩ ∧ letP m' ++ l' = letP n ∧ m' ≤ n from ⟨q, UInt8.ofNat (97 + c) :: l, hQ, snoc_str _ _, let_next n q c l hl, Nat.le_trans (Nat.le_of_lt hqm) hm⟩)
      have H6 := hide e6
      have hM := hide (show Q.toNat < M.toNat by omega)
      have hE : (⟨#[UInt8.ofNat (97 + c)]⟩ : ByteArray).size = 1 := rfl
      rw [hMm]
      generalize (⟨#[UInt8.ofNat (97 + c)]⟩ : ByteArray) = E at *
      generalize (⟨l.toArray⟩ : ByteArray) = V at *
      have b1 : ¬ 9223372036854775807 < E.size + V.size := by omega
      have b2 : ¬ 9223372036854775807 < (E ++ V).size := by rw [ByteArray.size_append]; omega
      clear hl hc hq hk hm hqm hc26 Hn HN h0 hMm hQ e6
      go_wp2
      obtain ⟨m', l', h1, h2, h3⟩ := unhide hR
      refine ⟨⟨m', l', ?_, ?_, h3⟩, ?_⟩
      · rw [unhide H6, h1]
      · rw [h2]
      · rw [unhide H6]
        exact unhide hM
set_option maxRecDepth 100000 in
set_option maxHeartbeats 1000000 in
theorem letters_neg (x : Int) (w : World) (hx : x ≤ 0) :
    Calls Tryz.prog 21 #[.int .i64 x] w fun e w' => e = .returned (.string ⟨#[]⟩) ∧ Below w.heap.size w w' := by
  have h : ¬ 0 < x := by omega
  go_enter Tryz.func21, Tryz.ntmps21
  go_wp2_with fail
  go_loop [0, 3] (fun v s => v = .int .i64 x ∧ s = .string ⟨#[]⟩) (fun v _ => vNat v)
  case atStart => exact ⟨rfl, rfl⟩
  case round =>
    obtain ⟨rfl, rfl⟩ := hrel
    go_wp2
    go_ret
    exact ⟨rfl, Below.refl _ _⟩
theorem conv_one (b : Nat) (x : Nat) (w : World) (h : w.cell? ⟨b, 0, none⟩ = some (.int .u8 (x : Int))) : (convert 64 9 (.slice (some ⟨b, 0, none⟩) 1 1)).run Tryz.prog w = .ok (.string ⟨#[UInt8.ofNat x]⟩) w := by
  refine (run_convert_bytes_arg w 64 5 Tryz.underlying64 Tryz.underlying5 b 0 1 1 [(x : Int)] rfl ?_ 9 Tryz.underlying9).trans ?_
  · intro i hi
    obtain rfl : i = 0 := by omega
    exact h
  · congr 2
attribute [local go_sem ↓] Go.wp_at_zero Go.wp_at_succ
end Go.Proofs.YtoeahagloobmoaaGreatDoor
