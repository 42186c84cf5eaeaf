/- Which word is an operator, a type, a QName; what blanks are passed; what a word is: xplex's functions. -/
import Derived.Test.YtgabgeadeeaihaaDoorLexStr
namespace Go.Proofs.YtgabgeadeeaihaaDoor
open Go.RowKit
theorem eq_asc {w : List Nat} (hw : okL w) (a : List Nat) (b : List UInt8) (ha : a.all (fun c => decide (32 ≤ c) && decide (c < 128)) = true) (hb : tx a = b) : ((T w).toList == b) = (w == a) := by
  rw [← hb]
  refine eq_T hw (fun c hc => ?_)
  have := List.all_eq_true.1 ha c hc
  simp at this
  simp [charR]
  omega
set_option maxHeartbeats 1000000 in
theorem isOperator_any (l : List Nat) (w : World) (hl : okL l) :
    Calls Tryd.prog 59 #[.string (T l)] w fun e w' => e = .returned (.bool (opWord l)) ∧ w' = w := by
  have h1 := eq_asc hl [97, 110, 100] [97, 110, 100] rfl (by decide +kernel)
  have h2 := eq_asc hl [111, 114] [111, 114] rfl (by decide +kernel)
  have h3 := eq_asc hl [109, 111, 100] [109, 111, 100] rfl (by decide +kernel)
  have h4 := eq_asc hl [100, 105, 118] [100, 105, 118] rfl (by decide +kernel)
  have h5 := eq_asc hl [42] [42] rfl (by decide +kernel)
  have hO : opWord l = (l == [97, 110, 100] || l == [111, 114] || l == [109, 111, 100] || l == [100, 105, 118] || l == [42]) := rfl
  have HO := hide hO
  clear hO
  generalize (l == [97, 110, 100]) = b1 at *
  generalize (l == [111, 114]) = b2 at *
  generalize (l == [109, 111, 100]) = b3 at *
  generalize (l == [100, 105, 118]) = b4 at *
  generalize (l == [42]) = b5 at *
  go_enter Tryd.func59, Tryd.ntmps59
  cases b1 <;> cases b2 <;> cases b3 <;> cases b4 <;> cases b5
  all_goals
    go_wp2
    go_ret
    exact ⟨ret_bool (by rw [unhide HO]; rfl), rfl⟩
set_option maxHeartbeats 1000000 in
theorem isType_any (l : List Nat) (w : World) (hl : okL l) :
    Calls Tryd.prog 60 #[.string (T l)] w fun e w' => e = .returned (.bool (typeWord l)) ∧ w' = w := by
  have h1 := eq_asc hl [99, 111, 109, 109, 101, 110, 116] [99, 111, 109, 109, 101, 110, 116] rfl (by decide +kernel)
  have h2 := eq_asc hl [116, 101, 120, 116] [116, 101, 120, 116] rfl (by decide +kernel)
  have h3 := eq_asc hl [112, 114, 111, 99, 101, 115, 115, 105, 110, 103, 45, 105, 110, 115, 116, 114, 117, 99, 116, 105, 111, 110] [112, 114, 111, 99, 101, 115, 115, 105, 110, 103, 45, 105, 110, 115, 116, 114, 117, 99, 116, 105, 111, 110] rfl (by decide +kernel)
  have h4 := eq_asc hl [110, 111, 100, 101] [110, 111, 100, 101] rfl (by decide +kernel)
  have hO : typeWord l = (l == [99, 111, 109, 109, 101, 110, 116] || l == [116, 101, 120, 116] || l == [112, 114, 111, 99, 101, 115, 115, 105, 110, 103, 45, 105, 110, 115, 116, 114, 117, 99, 116, 105, 111, 110] || l == [110, 111, 100, 101]) := rfl
  have HO := hide hO
  clear hO
  generalize (l == [99, 111, 109, 109, 101, 110, 116]) = b1 at *
  generalize (l == [116, 101, 120, 116]) = b2 at *
  generalize (l == [112, 114, 111, 99, 101, 115, 115, 105, 110, 103, 45, 105, 110, 115, 116, 114, 117, 99, 116, 105, 111, 110]) = b3 at *
  generalize (l == [110, 111, 100, 101]) = b4 at *
  go_enter Tryd.func60, Tryd.ntmps60
  cases b1 <;> cases b2 <;> cases b3 <;> cases b4
  all_goals
    go_wp2
    go_ret
    exact ⟨ret_bool (by rw [unhide HO]; rfl), rfl⟩
set_option maxHeartbeats 1000000 in
theorem isQName_any (l : List Nat) (w : World) (hl : okL l) (hs : (T l).size ≤ 4096) (hE : Env w) :
    Calls Tryd.prog 61 #[.string (T l)] w fun e w' => e = .returned (.bool (isQ l)) ∧ Below w.heap.size w w' := by
  have HE := hide hE
  clear hE
  rw [← splitB_T hl]
  obtain ⟨p, n, hv⟩ := splitV_cases (T l).data.toList
  have HV := hide hv
  clear hv
  go_enter Tryd.func61, Tryd.ntmps61
  go_wp2_with fail
  refine (split_any (T l) _ (by omega) (unhide HE)).mono ?_
  rintro e w1 ⟨rfl, hb1⟩
  rw [unhide HV]
  go_wp2
  go_ret
  exact ⟨rfl, hb1⟩
set_option maxHeartbeats 1000000 in
theorem pastBlanks_any (l p t : List Nat) (w : World) (hpt : l = p ++ t) (hl : okL l) (hs : (T l).size ≤ 4096) :
    Calls Tryd.prog 24 #[.string (T l), .int .i64 ((tx p).length : Nat)] w fun e w' => e = .returned (.int .i64 ((tx (p ++ t.takeWhile blankC)).length : Nat)) ∧ Below w.heap.size w w' := by
  have ht : okL t := okL_right (hpt ▸ hl)
  have HX := hide (suf_at hpt)
  have hz : (tx p).length ≤ (T l).size := by rw [hpt, T_size, tx_len_app]; omega
  have HN : Hid ((T l).size = (tx (p ++ t.takeWhile blankC)).length + (T (t.dropWhile blankC)).size) := by
    refine hide ?_
    rw [T_size, T_size, ← tx_len_app, List.append_assoc, List.takeWhile_append_dropWhile, hpt]
  clear hpt
  generalize (tx p).length = n at *
  go_enter Tryd.func24, Tryd.ntmps24
  go_wp2_with fail
  rw [unhide HX]
  refine (Tryd.strings_TrimLeftFunc_runes 39 #[] isBlank_enters blankN (T t) _ (isBlank_runes _)).mono ?_
  rintro e w1 ⟨rfl, hb1⟩
  rw [trim_T ht]
  have hle : (T (t.dropWhile blankC)).size ≤ (T l).size := by have := unhide HN; omega
  go_wp2
  go_ret
  refine ⟨ret_int ?_, hb1⟩
  have := unhide HN
  omega
def plV (pl : Bool) : Value := .int .i64 (if pl then 1 else 0)
/-- What wordToken tells. -/
def wordV (o : Option Nat) (w : List Nat) : Value := match o with
  | some k => .tuple #[.agg #[.int .i64 (k : Nat), .string (T w), .int .i64 0], .int .i64 ((T w).size : Nat)]
  | none => .tuple #[.agg #[.int .i64 0, .string ⟨#[]⟩, .int .i64 0], .int .i64 0]
theorem ret_word {o p : Option Nat} {w : List Nat} {v : Value} (h : o = p) (hv : v = wordV p w) : Ending.returned v = .returned (wordV o w) := by rw [h, hv]
end Go.Proofs.YtgabgeadeeaihaaDoor
