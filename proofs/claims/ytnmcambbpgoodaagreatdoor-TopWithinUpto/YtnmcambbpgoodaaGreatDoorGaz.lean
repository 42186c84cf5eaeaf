/- Several texts, laid as one. -/
import Derived.Test.YtnmcambbpgoodaaGreatDoorLexScanGo
import Derived.Test.YtnmcambbpgoodaaGreatDoorGak
import Derived.Test.YtnmcambbpgoodaaGreatDoorGav
import Derived.Test.YtnmcambbpgoodaaGreatDoorGax
/- Scan of texts that are too long, or hold what may not be; and the law's 'live'. -/
namespace Go.Proofs.YtnmcambbpgoodaaGreatDoor
open Go.RowKit
set_option maxRecDepth 100000 in
set_option maxHeartbeats 1000000 in
theorem scan_long (s : ByteArray) (w : World) (h : 512 < s.size) :
    Calls Tryz.prog 5 #[.string s] w fun e w' => e = .returned (.tuple #[.slice none 0 0, .int .i64 6, .int .i64 0]) ∧ Below w.heap.size w w' := by
  have h' : (512 : Int) < (s.size : Int) := by omega
  go_enter Tryz.func5, Tryz.ntmps5
  go_wp2_with fail
  go_step3
  go_wp2_with fail
  rw [Exit.noGoto_ret]
  go_ret3
  exact ⟨rfl, Below.refl _ _⟩
set_option maxRecDepth 100000 in
set_option maxHeartbeats 1000000 in
theorem scan_bad (s : ByteArray) (w : World) (h : s.size ≤ 512) (hf : (fault s).1 ≠ 0) :
    Calls Tryz.prog 5 #[.string s] w fun e w' => (∃ k, e = .returned (.tuple #[.slice none 0 0, .int .i64 4, .int .i64 k])) ∧ Below w.heap.size w w' := by
  have HF := hide hf
  clear hf
  go_enter Tryz.func5, Tryz.ntmps5
  go_wp2_with fail
  go_step3
  go_wp2_with fail
  refine (firstBad_any s _).mono ?_
  rintro e w1 ⟨⟨k, b, rfl, hkb⟩, hb1⟩
  obtain rfl : b = true := by
    cases b
    · exact absurd (hkb.1 rfl) (unhide HF)
    · rfl
  clear hkb
  go_wp2_with fail
  rw [Exit.noGoto_ret]
  go_ret3
  exact ⟨⟨k, rfl⟩, hb1⟩
/-- Every text is too long, or holds what may not be, or is one of characters that may be. -/
theorem text_cases (s : ByteArray) : 512 < s.size ∨ (s.size ≤ 512 ∧ (fault s).1 ≠ 0) ∨ (s.size ≤ 512 ∧ ∃ cs, okL cs ∧ s = T cs) := by
  by_cases h : 512 < s.size
  · exact .inl h
  · by_cases hf : (fault s).1 = 0
    · exact .inr (.inr ⟨by omega, txt_T ((fault_txt s (s.size + 1) 0 (by omega)).1 hf)⟩)
    · exact .inr (.inl ⟨by omega, hf⟩)
end Go.Proofs.YtnmcambbpgoodaaGreatDoor
/- XplexLiterals: a string is read as itself; one with both signs is none. -/
namespace Go.Proofs.YtnmcambbpgoodaaGreatDoor
open Go.RowKit
/-- A text with a sign at both ends. -/
def quoted (q : UInt8) (s : ByteArray) : ByteArray := ⟨#[q]⟩ ++ s ++ ⟨#[q]⟩
theorem contains_bytes (s : ByteArray) (c : UInt8) : decide (0 ≤ Lib.indexByte s.data.toList c) = s.data.toList.contains c := by
  by_cases hm : c ∈ s.data.toList
  · obtain ⟨a, b, e, hn⟩ := List.eq_append_cons_of_mem hm
    have : 0 ≤ Lib.indexByte s.data.toList c := by rw [e, indexByte_first _ _ _ hn]; omega
    rw [decide_eq_true this]
    exact (List.contains_iff_mem.2 hm).symm
  · rw [indexByte_none _ _ hm]
    have : s.data.toList.contains c = false := by
      cases hx : s.data.toList.contains c
      · rfl
      · exact absurd (List.contains_iff_mem.1 hx) hm
    rw [this]; rfl
/-- The sign that a text is written with; none: it holds both. -/
def litQ (l : List UInt8) : Option UInt8 := if l.contains 34 then (if l.contains 39 then none else some 39) else some 34
def litV (s : ByteArray) : Value := match litQ s.data.toList with
  | some q => .tuple #[.string (quoted q s), .int .i64 0]
  | none => .tuple #[.string ⟨#[]⟩, .int .i64 9]
set_option maxHeartbeats 1000000 in
theorem literal_any (s : ByteArray) (w : World) (hs : s.size ≤ 2000000) :
    Calls Tryz.prog 32 #[.string s] w fun e w' => e = .returned (litV s) ∧ w' = w := by
  have i0 : ∀ w, (Instr.index 94 (.agg #[.string ⟨#[34]⟩, .string ⟨#[39]⟩]) (.int .i64 0)).run Tryz.prog w = .ok (.string ⟨#[34]⟩) w := fun _ => by kernel_rfl
  have i1 : ∀ w, (Instr.index 94 (.agg #[.string ⟨#[34]⟩, .string ⟨#[39]⟩]) (.int .i64 1)).run Tryz.prog w = .ok (.string ⟨#[39]⟩) w := fun _ => by kernel_rfl
  have hq : ∀ q : UInt8, (⟨#[q]⟩ : ByteArray).size = 1 := fun _ => rfl
  have HV : Hid (litV s = match (if s.data.toList.contains 34 then (if s.data.toList.contains 39 then none else some 39) else some 34 : Option UInt8) with
    | some q => .tuple #[.string (quoted q s), .int .i64 0] | none => .tuple #[.string ⟨#[]⟩, .int .i64 9]) := hide rfl
  go_enter Tryz.func32, Tryz.ntmps32
  go_wp2_with fail
  refine wp_loop_rounds 3 ?_
  rw [rounds_succ]
  go_wp2_with fail
  refine (Tryz.strings_Contains_one s 34 _).mono ?_
  rintro e w1 ⟨rfl, rfl⟩
  rw [contains_bytes]
  cases h1 : s.data.toList.contains 34
  · have H1 := hide h1
    clear h1
    go_wp2
    go_ret2
    refine ⟨?_, rfl⟩
    rw [unhide HV, unhide H1, if_neg (by decide)]
    rfl
  · have H1 := hide h1
    clear h1
    go_wp2_with fail
    rw [rounds_succ]
    go_wp2_with fail
    refine (Tryz.strings_Contains_one s 39 _).mono ?_
    rintro e w1 ⟨rfl, rfl⟩
    rw [contains_bytes]
    cases h2 : s.data.toList.contains 39
    · have H2 := hide h2
      clear h2
      go_wp2
      go_ret2
      refine ⟨?_, rfl⟩
      rw [unhide HV, unhide H1, unhide H2, if_pos rfl, if_neg (by decide)]
      rfl
    · have H2 := hide h2
      clear h2
      go_wp2_with fail
      rw [rounds_succ]
      go_wp2
      go_ret2
      refine ⟨?_, rfl⟩
      rw [unhide HV, unhide H1, unhide H2, if_pos rfl, if_pos rfl]
      rfl
end Go.Proofs.YtnmcambbpgoodaaGreatDoor
/- The fields of an expression: xparse's isQName, isLiteral, rightTest, rightFields. -/
namespace Go.Proofs.YtnmcambbpgoodaaGreatDoor
open Go.RowKit Go.Maps
def litX (t : List Nat) : Bool := (litQ (tx t)).isSome
def testX (k : Nat) (t : List Nat) : Bool := if k = 0 ∨ k = 3 ∨ k = 4 ∨ k = 5 then t == [] else if k = 1 then isNm t else if k = 2 then isQ t else if k = 6 then litX t else false
def restX (t : List Nat) (n : Int) (a k : Nat) : Bool := t == [] && (n == 0 && (a == 0 && k == 0))
def flX (x : Ex) : Bool :=
  if x.op = 16 then (rightB 0 x.num && decide (0 ≤ x.num)) && restX x.text 0 x.axis x.test
  else if x.op = 17 then litX x.text && restX [] x.num x.axis x.test
  else if x.op = 18 then isQ x.text && restX [] x.num x.axis x.test
  else if x.op = 19 then (isQ x.text && (typeNo x.text).isNone) && restX [] x.num x.axis x.test
  else if x.op = 23 then (decide (x.axis < 12) && testX x.test x.text) && restX [] x.num 0 0
  else restX x.text x.num x.axis x.test
theorem pfault_T {t : List Nat} (ht : okL t) : (fault (T t)).1 = 0 := (fault_txt (T t) ((T t).size + 1) 0 (by omega)).2 (T_txt ht)
theorem pisText_T (t : List Nat) (ht : okL t) (w : World) :
    Calls Tryz.prog 89 #[.string (T t)] w fun e w' => e = .returned (.bool true) ∧ Below w.heap.size w w' := by
  have h : textB (T t) = true := by unfold textB; rw [pfault_T ht]; rfl
  rw [← h]
  exact isText_any (T t) w
theorem pisName_T (t : List Nat) (ht : okL t) (hz : (T t).size ≤ 4000) (w : World) (hE : Env w) :
    Calls Tryz.prog 45 #[.string (T t)] w fun e w' => e = .returned (.bool (isNm t)) ∧ Below w.heap.size w w' := by
  rw [← nameB_T ht]
  exact isName_any (T t) w (by unfold maxLen; omega) hE
set_option maxRecDepth 100000 in
set_option maxHeartbeats 4000000 in
theorem pisQName_any (t : List Nat) (w : World) (ht : okL t) (hz : (T t).size ≤ 4000) (hE : Env w) :
    Calls Tryz.prog 75 #[.string (T t)] w fun e w' => e = .returned (.bool (isQ t)) ∧ Below w.heap.size w w' := by
  have hs : ∃ P N, splitV (T t).data.toList = .tuple #[.string P, .string N, .bool (isQ t)] := by
    unfold splitV
    rw [splitB_T ht]
    cases isQ t
    · exact ⟨_, _, rfl⟩
    · exact ⟨_, _, rfl⟩
  obtain ⟨P, N, hs⟩ := hs
  have hC := split_any (T t) w (by omega) hE
  rw [hs] at hC
  have HC := hide hC
  clear hC hs hE
  go_enter Tryz.func75, Tryz.ntmps75
  go_wp2_with fail
  refine (unhide HC).mono ?_
  rintro e w1 ⟨rfl, hb1⟩
  go_wp2_with fail
  go_returns
  exact ⟨rfl, hb1⟩
set_option maxRecDepth 100000 in
set_option maxHeartbeats 4000000 in
theorem pisLiteral_any (t : List Nat) (w : World) (ht : okL t) (hz : (T t).size ≤ 4000) :
    Calls Tryz.prog 74 #[.string (T t)] w fun e w' => e = .returned (.bool (litX t)) ∧ Below w.heap.size w w' := by
  have hC := literal_any (T t) w (by omega)
  have HI := hide (pisText_T t ht w)
  have hs : ∃ P, litV (T t) = .tuple #[.string P, .int .i64 (if litX t then 0 else 9)] := by
    unfold litV litX
    rw [T_data]
    cases litQ (tx t)
    · exact ⟨_, rfl⟩
    · exact ⟨_, rfl⟩
  obtain ⟨P, hs⟩ := hs
  rw [hs] at hC
  cases hb : litX t
  · rw [hb, if_neg (by decide)] at hC
    have HC := hide hC
    clear hC hs hb
    go_enter Tryz.func74, Tryz.ntmps74
    go_wp2_with fail
    refine (unhide HC).mono ?_
    rintro e w1 ⟨rfl, rfl⟩
    go_wp2_with fail
    go_returns
    exact ⟨rfl, Below.refl _ _⟩
  · rw [hb, if_pos rfl] at hC
    have HC := hide hC
    clear hC hs hb
    go_enter Tryz.func74, Tryz.ntmps74
    go_wp2_with fail
    refine (unhide HC).mono ?_
    rintro e w1 ⟨rfl, rfl⟩
    go_wp2_with fail
    refine (unhide HI).mono ?_
    rintro e w2 ⟨rfl, hb2⟩
    go_wp2_with fail
    go_returns
    exact ⟨rfl, hb2⟩
theorem pempty_T {t : List Nat} (ht : okL t) : (T t).toList.isEmpty = (t == []) := by
  cases t with
  | nil => rw [T_toList]; rfl
  | cons c l =>
    have : (T (c :: l)).toList ≠ [] := fun h => by
      have := (T_empty ht).1 h
      cases this
    cases h : (T (c :: l)).toList with
    | nil => exact absurd h this
    | cons _ _ => rfl
set_option maxRecDepth 100000 in
set_option maxHeartbeats 4000000 in
theorem prightTest_any (k : Nat) (t : List Nat) (w : World) (ht : okL t) (hz : (T t).size ≤ 4000) (hE : Env w) :
    Calls Tryz.prog 77 #[.int .i64 (k : Nat), .string (T t)] w fun e w' => e = .returned (.bool (testX k t)) ∧ Below w.heap.size w w' := by
  have HE := hide (pempty_T ht)
  have HN := hide (pisName_T t ht hz w hE)
  have HQ := hide (pisQName_any t w ht hz hE)
  have HL := hide (pisLiteral_any t w ht hz)
  clear hE
  by_cases h0 : k = 0 ∨ k = 3 ∨ k = 4 ∨ k = 5
  · have e1 : testX k t = (t == []) := by unfold testX; rw [if_pos h0]
    rw [e1]
    clear e1
    have q := unhide HE
    cases hb : (t == [])
    all_goals
      rw [hb] at q
      rcases h0 with rfl | rfl | rfl | rfl
      all_goals
        go_enter Tryz.func77, Tryz.ntmps77
        go_wp2_with fail
        go_returns
        exact ⟨rfl, Below.refl _ _⟩
  · by_cases h1 : k = 1
    · subst h1
      have e1 : testX 1 t = isNm t := rfl
      rw [e1]
      go_enter Tryz.func77, Tryz.ntmps77
      go_wp2_with fail
      refine (unhide HN).mono ?_
      rintro e w1 ⟨rfl, hb1⟩
      go_wp2_with fail
      go_returns
      exact ⟨rfl, hb1⟩
    · by_cases h2 : k = 2
      · subst h2
        have e1 : testX 2 t = isQ t := rfl
        rw [e1]
        go_enter Tryz.func77, Tryz.ntmps77
        go_wp2_with fail
        refine (unhide HQ).mono ?_
        rintro e w1 ⟨rfl, hb1⟩
        go_wp2_with fail
        go_returns
        exact ⟨rfl, hb1⟩
      · by_cases h6 : k = 6
        · subst h6
          have e1 : testX 6 t = litX t := rfl
          rw [e1]
          go_enter Tryz.func77, Tryz.ntmps77
          go_wp2_with fail
          refine (unhide HL).mono ?_
          rintro e w1 ⟨rfl, hb1⟩
          go_wp2_with fail
          go_returns
          exact ⟨rfl, hb1⟩
        · have e1 : testX k t = false := by unfold testX; rw [if_neg h0, if_neg h1, if_neg h2, if_neg h6]
          rw [e1]
          have n0 : (((k : Nat) : Int) == 0) = false := icast_ne (by omega)
          have n1 : (((k : Nat) : Int) == 1) = false := icast_ne (by omega)
          have n2 : (((k : Nat) : Int) == 2) = false := icast_ne (by omega)
          have n3 : (((k : Nat) : Int) == 3) = false := icast_ne (by omega)
          have n4 : (((k : Nat) : Int) == 4) = false := icast_ne (by omega)
          have n5 : (((k : Nat) : Int) == 5) = false := icast_ne (by omega)
          have n6 : (((k : Nat) : Int) == 6) = false := icast_ne (by omega)
          clear h0 h1 h2 h6 e1
          go_enter Tryz.func77, Tryz.ntmps77
          go_wp2_with fail
          go_returns
          exact ⟨rfl, Below.refl _ _⟩
end Go.Proofs.YtnmcambbpgoodaaGreatDoor
