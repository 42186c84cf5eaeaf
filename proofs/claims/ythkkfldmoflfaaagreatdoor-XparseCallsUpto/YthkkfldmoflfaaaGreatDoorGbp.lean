/- Several texts, laid as one. -/
import Derived.Test.YthkkfldmoflfaaaGreatDoorGbo
import Derived.Test.YthkkfldmoflfaaaGreatDoorGbk
import Derived.Test.YthkkfldmoflfaaaGreatDoorGap
import Derived.Deep.QuietTactic
import Derived.BigQuiet
import Derived.Test.YthkkfldmoflfaaaGreatDoorGaj
import Derived.Test.YthkkfldmoflfaaaGreatDoorGbm
/- The calls' texts, in bytes; what Parse tells of them. -/
namespace Go.Proofs.YthkkfldmoflfaaaGreatDoor
open Go.RowKit Go.Maps
/-- The arguments' text. -/
def argB (s : ByteArray) : Nat → ByteArray
  | 0 => ⟨#[]⟩
  | 1 => ⟨#[]⟩ ++ (⟨#[32]⟩ ++ s)
  | i + 2 => (argB s (i + 1) ++ ⟨#[44]⟩) ++ (⟨#[32]⟩ ++ s)
def callB (s : ByteArray) (k : Nat) : ByteArray := ⟨#[102, 40]⟩ ++ argB s k ++ ⟨#[41]⟩
theorem arr_ext {a b : ByteArray} (h : a.data.toList = b.data.toList) : a = b := by
  cases a
  cases b
  simp only at h
  rw [Array.toList_inj] at h
  rw [h]
theorem tx_lit {c : Nat} (h : c < 128) (l : List Nat) : tx (c :: l) = UInt8.ofNat c :: tx l := by
  rw [tx_cons, runeB_one h]
  rfl
theorem callB_T (cs : List Nat) (j : Nat) (hj : j ≤ 2) : callB (T cs) (j + 1) = T (callC cs j) := by
  refine arr_ext ?_
  rw [T_data]
  unfold callB callC
  rcases (show j = 0 ∨ j = 1 ∨ j = 2 by omega) with rfl | rfl | rfl <;>
    (simp only [argB, tailC, ByteArray.data_append, Array.toList_append, T_data, tx_append, tx_nil, tx_lit (show 102 < 128 by decide), tx_lit (show 40 < 128 by decide), tx_lit (show 41 < 128 by decide), tx_lit (show 32 < 128 by decide), tx_lit (show 44 < 128 by decide), List.append_assoc]
     rfl)
theorem callB_size (s : ByteArray) (j : Nat) : s.size ≤ (callB s (j + 1)).size := by
  unfold callB
  cases j with
  | zero => simp only [argB, ByteArray.size_append]; omega
  | succ j => simp only [argB, ByteArray.size_append]; omega
theorem tx_front {es : List Nat} {x : Nat} {l : List UInt8} (h : okL es) (hx : x < 128) (e : tx es = UInt8.ofNat x :: l) : ∃ fs, okL fs ∧ tx fs = l := by
  cases es with
  | nil => cases e
  | cons c es =>
    rw [tx_cons] at e
    have hc := charR_ok (h c (by simp))
    have hp := runeB_pos (h c (by simp))
    by_cases hl : c < 128
    · rw [runeB_one hl, List.singleton_append] at e
      exact ⟨es, okL_tail h, (List.cons.inj e).2⟩
    · exfalso
      cases hr : runeB c with
      | nil => rw [hr] at hp; exact absurd hp (by decide)
      | cons y r =>
        rw [hr, List.cons_append] at e
        have h1 := runeB_high hc (by omega) y (by rw [hr]; simp)
        rw [(List.cons.inj e).1, UInt8.toNat_ofNat'] at h1
        omega
theorem tx_before : ∀ (es : List Nat) (a b : List UInt8), okL es → tx es = a ++ b → (∀ x, b.head? = some x → x.toNat < 128) → ∃ fs, okL fs ∧ tx fs = a
  | [], a, b, _, e, _ => by
    rw [tx_nil] at e
    obtain ⟨rfl, _⟩ := List.append_eq_nil_iff.1 e.symm
    exact ⟨[], fun c hc => (by cases hc), rfl⟩
  | c :: es, [], b, _, _, _ => ⟨[], fun c hc => (by cases hc), rfl⟩
  | c :: es, y :: a, b, h, e, hb => by
    rw [tx_cons] at e
    have hc := charR_ok (h c (by simp))
    rcases List.append_eq_append_iff.1 e with ⟨a', h1, h2⟩ | ⟨c', h1, h2⟩
    · obtain ⟨fs, hf, he⟩ := tx_before es a' b (okL_tail h) h2 hb
      refine ⟨c :: fs, fun d hd => ?_, by rw [tx_cons, he, h1]⟩
      rcases List.mem_cons.1 hd with rfl | hd
      · exact h _ (by simp)
      · exact hf d hd
    · cases c' with
      | nil =>
        rw [List.append_nil] at h1
        refine ⟨[c], fun d hd => ?_, by rw [tx_cons, h1, tx_nil, List.append_nil]⟩
        rw [List.mem_singleton.1 hd]
        exact h _ (by simp)
      | cons z r =>
        exfalso
        have hz := hb z (by rw [h2]; rfl)
        by_cases hl : c < 128
        · rw [runeB_one hl] at h1
          have := congrArg List.length h1
          simp at this
        · have := runeB_high hc (by omega) z (by rw [h1]; simp)
          omega
/-- Where the call's text holds what may be alone, so does the argument. -/
theorem call_T (s : ByteArray) (j : Nat) (hj : j ≤ 2) (es : List Nat) (h : okL es) (e : callB s (j + 1) = T es) : ∃ cs, okL cs ∧ s = T cs := by
  have he : ∃ b, tx es = UInt8.ofNat 102 :: UInt8.ofNat 40 :: UInt8.ofNat 32 :: (s.data.toList ++ b) ∧ ∀ x, b.head? = some x → x.toNat < 128 := by
    rw [← T_data, ← e]
    unfold callB
    rcases (show j = 0 ∨ j = 1 ∨ j = 2 by omega) with rfl | rfl | rfl
    · exact ⟨[41], by simp only [argB, ByteArray.data_append, Array.toList_append, List.append_assoc]; rfl, fun x hx => by cases hx; decide⟩
    · exact ⟨44 :: 32 :: (s.data.toList ++ [41]), by simp only [argB, ByteArray.data_append, Array.toList_append, List.append_assoc]; rfl, fun x hx => by cases hx; decide⟩
    · exact ⟨44 :: 32 :: (s.data.toList ++ 44 :: 32 :: (s.data.toList ++ [41])), by simp only [argB, ByteArray.data_append, Array.toList_append, List.append_assoc]; rfl, fun x hx => by cases hx; decide⟩
  obtain ⟨b, he, hb⟩ := he
  obtain ⟨f1, h1, e1⟩ := tx_front h (by decide) he
  obtain ⟨f2, h2, e2⟩ := tx_front h1 (by decide) e1
  obtain ⟨f3, h3, e3⟩ := tx_front h2 (by decide) e2
  obtain ⟨cs, h4, e4⟩ := tx_before f3 _ _ h3 e3 hb
  exact ⟨cs, h4, arr_ext (by rw [T_data, e4])⟩
/-- Has a text a comma, or a sign that may hold one? -/
def comB (s : ByteArray) : Bool := s.data.toList.any fun b => b == 44 || b == 39 || b == 34 || b == 41 || b == 40
theorem mem_txc {c : Nat} (hc : c < 128) : ∀ {cs : List Nat}, c ∈ cs → UInt8.ofNat c ∈ tx cs
  | d :: cs, h => by
    rw [tx_cons, List.mem_append]
    rcases List.mem_cons.1 h with rfl | h
    · exact .inl (by rw [runeB_one hc]; simp)
    · exact .inr (mem_txc hc h)
theorem com_no {cs : List Nat} (h : comB (T cs) = false) {c : Nat} (hc : c = 44 ∨ c = 39 ∨ c = 34 ∨ c = 41 ∨ c = 40) : c ∉ cs := by
  intro hm
  unfold comB at h
  rw [T_data, List.any_eq_false] at h
  rcases hc with rfl | rfl | rfl | rfl | rfl <;> exact h _ (mem_txc (by decide) hm) (by decide)
theorem errk {cs : List Nat} {f : Int} (h : saysT cs = .error f) : f = 6 ∨ f = 9 := by
  unfold saysT at h
  split at h
  · unfold saysP at h
    split at h
    · split at h
      · split at h
        · cases h
        · cases h; exact .inl rfl
      · cases h; exact .inr rfl
    · cases h; exact .inr rfl
  · cases h; exact .inr rfl
theorem okk {cs : List Nat} {x : Ex} (hl : okL cs) (hz : (T cs).size ≤ 512) (h : saysT cs = .ok x) : smallX x = true ∧ ∃ c, jRight flX (wt x) 0 0 x = some (true, c) := by
  unfold saysT at h
  cases hs : scanOf cs with
  | error p => rw [hs] at h; cases h
  | ok ts =>
    rw [hs] at h
    simp only at h
    unfold saysP at h
    split at h
    · rename_i x' s' hp
      split at h
      · split at h
        · rename_i hd
          cases h
          exact ⟨((small_all numP _).1 0 _ (tk_scan hl hz hs) x s' hp).1, okJ_true hd.2⟩
        · cases h
      · cases h
    · cases h
theorem okL_call {cs : List Nat} (h : okL cs) (j : Nat) : okL (callC cs j) := by
  have ht : okL (tailC cs j) := by
    induction j with
    | zero => exact fun c hc => by rw [List.mem_singleton.1 hc]; decide
    | succ j ih =>
      refine fun c hc => ?_
      rw [tailC] at hc
      rcases List.mem_cons.1 hc with rfl | hc
      · decide
      rcases List.mem_cons.1 hc with rfl | hc
      · decide
      exact okL_app h ih c hc
  refine fun c hc => ?_
  unfold callC at hc
  rcases List.mem_cons.1 hc with rfl | hc
  · decide
  rcases List.mem_cons.1 hc with rfl | hc
  · decide
  rcases List.mem_cons.1 hc with rfl | hc
  · decide
  exact okL_app h ht c hc
/-- What Parse tells of a text and of the call with one argument and j more. -/
theorem call_says (s : ByteArray) (j : Nat) (hj : j ≤ 2) : ∃ r1 r2, ParseIs s r1 ∧ ParseIs (callB s (j + 1)) r2 ∧ (∀ k, r1 = .error k → k ≠ 0) ∧ (∀ k, r2 = .error k → k ≠ 0) ∧ (∀ y, r2 = .ok y → ∃ c, jRight flX (wt y) 0 0 y = some (true, c)) ∧ (∀ x, r1 = .ok x → smallX x = true ∧ (∃ c, jRight flX (wt x) 0 0 x = some (true, c)) ∧ (r2 = .ok (.mk 19 [102] 0 0 0 (List.replicate (j + 1) x)) ∨ r2 = .error 6)) ∧ (∀ k y, r1 = .error k → r2 = .ok y → y.kids.length ≠ j + 1 ∨ (comB s = true ∧ s.size ≤ 512)) := by
  obtain ⟨r1, hP1, hr1⟩ := parse_any s
  obtain ⟨r2, hP2, hr2⟩ := parse_any (callB s (j + 1))
  have hsz := callB_size s j
  rcases hr2 with ⟨h2, rfl⟩ | ⟨h2, hf2, rfl⟩ | ⟨h2, es, hes, he, hr2⟩
  · refine ⟨r1, .error 6, hP1, hP2, fun k h => ?_, fun k h => (by cases h; decide), fun y h => (by cases h), fun x h => ?_, fun k y _ h => (by cases h)⟩
    · rcases hr1 with ⟨_, rfl⟩ | ⟨_, _, rfl⟩ | ⟨_, cs, _, _, rfl⟩
      · cases h; decide
      · cases h; decide
      · rcases errk h with rfl | rfl <;> decide
    · rcases hr1 with ⟨_, rfl⟩ | ⟨_, _, rfl⟩ | ⟨h1, cs, hl, rfl, rfl⟩
      · cases h
      · cases h
      · obtain ⟨q1, q2⟩ := okk hl h1 h
        exact ⟨q1, q2, .inr rfl⟩
  · refine ⟨r1, .error 4, hP1, hP2, fun k h => ?_, fun k h => (by cases h; decide), fun y h => (by cases h), fun x h => ?_, fun k y _ h => (by cases h)⟩
    · rcases hr1 with ⟨_, rfl⟩ | ⟨_, _, rfl⟩ | ⟨_, cs, _, _, rfl⟩
      · cases h; decide
      · cases h; decide
      · rcases errk h with rfl | rfl <;> decide
    · exfalso
      rcases hr1 with ⟨_, rfl⟩ | ⟨_, _, rfl⟩ | ⟨h1, cs, hl, rfl, rfl⟩
      · cases h
      · cases h
      · rw [callB_T cs j hj] at hf2
        exact hf2 ((fault_txt _ ((T (callC cs j)).size + 1) 0 (by omega)).2 (by rw [List.drop_zero]; exact T_txt (okL_call hl j)))
  · obtain ⟨cs, hl, rfl⟩ := call_T s j hj es hes he
    refine ⟨saysT cs, saysT (callC cs j), parse_T cs hl (by omega), ?_, fun k h => ?_, fun k h => ?_, fun y h => ?_, fun x h => ?_, fun k y h g => ?_⟩
    · rw [callB_T cs j hj]
      rw [callB_T cs j hj] at h2
      exact parse_T _ (okL_call hl j) h2
    · rcases errk h with rfl | rfl <;> decide
    · rcases errk h with rfl | rfl <;> decide
    · rw [callB_T cs j hj] at h2
      exact (okk (okL_call hl j) h2 h).2
    · obtain ⟨q1, q2⟩ := okk hl (by omega) h
      exact ⟨q1, q2, says_call h j⟩
    · cases hc : comB (T cs) with
      | true => exact .inr ⟨rfl, by omega⟩
      | false =>
        refine .inl ?_
        rcases says_uncall h (com_no hc (by omega)) (com_no hc (by omega)) (com_no hc (by omega)) (com_no hc (by omega)) (com_no hc (by omega)) j hj with ⟨k2, h3⟩ | h3
        · rw [h3] at g; cases g
        · rw [h3] at g
          cases g
          exact fun h => absurd h (by simp [Ex.kids])
end Go.Proofs.YthkkfldmoflfaaaGreatDoor
/- What is scanned of a name, alone, behind a number, behind a sign, ahead of one: plain lemmas. -/
namespace Go.Proofs.YthkkfldmoflfaaaGreatDoor
open Go.RowKit
end Go.Proofs.YthkkfldmoflfaaaGreatDoor
/- XplexNames: a name behind an operand is an operator, or none; elsewhere it is a name. -/
namespace Go.Proofs.YthkkfldmoflfaaaGreatDoor
open Go.RowKit
structure ClsK (X : World) (g : Nat) (k : Int) (w' : World) : Prop where
  bel : Below X.heap.size X w'
  c0 : w'.cell? ⟨g, 0, none⟩ = some (.int .i64 k)
theorem ClsK.below {X w w' : World} {g : Nat} {k : Int} (h : ClsK X g k w) (hb : Below w.heap.size w w') : ClsK X g k w' := ⟨Below.then h.bel hb, kept_cell hb h.c0⟩
set_option maxHeartbeats 1000000 in
theorem refTypes_any (l : List Nat) (w : World) (hl : okL l) :
    Calls Tryz.prog 64 #[.string (T l)] w fun e w' => e = .returned (.bool (typeWord l)) ∧ w' = w := by
  have h1 := eq_asc hl [99, 111, 109, 109, 101, 110, 116] [99, 111, 109, 109, 101, 110, 116] rfl (by decide +kernel)
  have h2 := eq_asc hl [116, 101, 120, 116] [116, 101, 120, 116] rfl (by decide +kernel)
  have h3 := eq_asc hl [112, 114, 111, 99, 101, 115, 115, 105, 110, 103, 45, 105, 110, 115, 116, 114, 117, 99, 116, 105, 111, 110] [112, 114, 111, 99, 101, 115, 115, 105, 110, 103, 45, 105, 110, 115, 116, 114, 117, 99, 116, 105, 111, 110] rfl (by decide +kernel)
  have h4 := eq_asc hl [110, 111, 100, 101] [110, 111, 100, 101] rfl (by decide +kernel)
  have hO : typeWord l = (l == [99, 111, 109, 109, 101, 110, 116] || l == [116, 101, 120, 116] || l == [112, 114, 111, 99, 101, 115, 115, 105, 110, 103, 45, 105, 110, 115, 116, 114, 117, 99, 116, 105, 111, 110] || l == [110, 111, 100, 101]) := rfl
  have HO := hide hO
  clear hO
  generalize (l == [99, 111, 109, 109, 101, 110, 116]) = b1 at *
  generalize (l == [116, 101, 120, 116]) = b2 at *
  generalize (l == [112, 114, 111, 99, 101, 115, 115, 105, 110, 103, 45, 105, 110, 115, 116, 114, 117, 99, 116, 105, 111, 110]) = b3 at *
  generalize (l == [110, 111, 100, 101]) = b4 at *
  go_enter Tryz.func64, Tryz.ntmps64
  cases b1 <;> cases b2 <;> cases b3 <;> cases b4
  all_goals
    go_wp2
    go_ret
    exact ⟨ret_bool (by rw [unhide HO]; rfl), rfl⟩
theorem okL_asc {l : List Nat} (h : l.all (fun c => decide (32 ≤ c) && decide (c < 128)) = true) : okL l := fun c hc => by
  have := List.all_eq_true.1 h c hc
  simp at this
  simp [charR]
  omega
end Go.Proofs.YthkkfldmoflfaaaGreatDoor
/- The reference's small functions on expressions: bare, AxisName, Literal, text, qname. -/
namespace Go.Proofs.YthkkfldmoflfaaaGreatDoor
open Go.RowKit Go.Maps
set_option maxRecDepth 100000 in
set_option maxHeartbeats 4000000 in
theorem refQname_any (t : List Nat) (w : World) (ht : okL t) (hz : (T t).size ≤ 4000) (hE : Env w) :
    Calls Tryz.prog 63 #[.string (T t)] w fun e w' => e = .returned (.bool (isQ t)) ∧ Below w.heap.size w w' := by
  have hs : ∃ P N, splitV (T t).data.toList = .tuple #[.string P, .string N, .bool (isQ t)] := by
    unfold splitV
    rw [splitB_T ht]
    cases isQ t
    · exact ⟨_, _, rfl⟩
    · exact ⟨_, _, rfl⟩
  obtain ⟨P, N, hs⟩ := hs
  have hC := refSplit_any (T t) w (by omega) hE
  rw [hs] at hC
  have HC := hide hC
  clear hC hs hE
  go_enter Tryz.func63, Tryz.ntmps63
  go_wp2_with fail
  refine (unhide HC).mono ?_
  rintro e w1 ⟨rfl, hb1⟩
  go_wp2_with fail
  go_returns
  exact ⟨rfl, hb1⟩
/-- The error that a text with such signs is told with. -/
def litE (a b : Bool) : Int := match a, b with | true, true => 9 | _, _ => 0
theorem litE_is (l : List UInt8) : (if (litQ l).isSome then (0 : Int) else 9) = litE (l.contains 34) (l.contains 39) := by
  unfold litQ
  cases l.contains 34 <;> cases l.contains 39 <;> rfl
theorem contains_next (l : List UInt8) (i : Nat) (c x : UInt8) (h : l[i]? = some x) : (l.take (i + 1)).contains c = ((l.take i).contains c || x == c) := by
  rw [List.take_add_one, h]
  simp only [Option.toList_some, List.contains_eq_any_beq, List.any_append, List.any_cons, List.any_nil, Bool.or_false]
  congr 1
  rw [Bool.eq_iff_iff, beq_iff_eq, beq_iff_eq]
  exact ⟨fun h => h.symm, fun h => h.symm⟩
set_option maxRecDepth 100000 in
set_option maxHeartbeats 4000000 in
theorem refLiteral_any (s : ByteArray) (w : World) (hs : s.size ≤ 4000) :
    Calls Tryz.prog 97 #[.string s] w fun e w' => (∃ X, e = .returned (.tuple #[.string X, .int .i64 (if (litQ s.data.toList).isSome then 0 else 9)])) ∧ w' = w := by
  have hq : ∀ q : UInt8, (⟨#[q]⟩ : ByteArray).size = 1 := fun _ => rfl
  rw [litE_is]
  go_enter Tryz.func97, Tryz.ntmps97
  go_wp2_with fail
  go_loopg [4, 5, 6] s.size (fun g v3 v4 v5 wr => ∃ i : Nat, i + g = s.size ∧ v5 = .int .i64 (i : Nat) ∧ v3 = .bool ((s.data.toList.take i).contains 34) ∧ v4 = .bool ((s.data.toList.take i).contains 39) ∧ wr = w)
  case atStart => exact ⟨0, by omega, rfl, rfl, rfl, rfl⟩
  case round =>
    obtain ⟨i, hig, rfl, rfl, rfl, rfl⟩ := hrel
    cases gk with
    | zero =>
      obtain rfl : i = s.size := by omega
      rw [show s.data.toList.take s.size = s.data.toList from List.take_of_length_le (show s.data.toList.length ≤ s.size from Nat.le_refl _)]
      clear hig
      have hs1 : (9223372036854775807 < 1 + s.size) = False := by simp; omega
      have hs2 : (9223372036854775807 < 1 + s.size + 1) = False := by simp; omega
      obtain ⟨b1, e34⟩ : ∃ b, s.data.toList.contains 34 = b := ⟨_, rfl⟩
      obtain ⟨b2, e39⟩ : ∃ b, s.data.toList.contains 39 = b := ⟨_, rfl⟩
      have H34 := hide e34
      have H39 := hide e39
      rw [e34, e39]
      clear e34 e39
      cases b1 <;> cases b2
      all_goals
        go_wp2_with fail
        go_returns
        rw [unhide H34, unhide H39]
        exact ⟨⟨_, rfl⟩, rfl⟩
    | succ g =>
      have hi : i < s.size := by omega
      have HG := hide hig
      have e2 : s.data.toList[i]? = some (s[i]'hi) := Lib.data_getElem? s i hi
      have H34 := hide (contains_next _ i 34 _ e2)
      have H39 := hide (contains_next _ i 39 _ e2)
      obtain ⟨C, hC⟩ : ∃ C : Nat, (s[i]'hi).toNat = C := ⟨_, rfl⟩
      have k34 : (s[i]'hi == 34) = (((C : Nat) : Int) == 34) := by
        rw [Bool.eq_iff_iff, beq_iff_eq, beq_iff_eq, ← hC, ← UInt8.toNat_inj]
        show _ = 34 ↔ _
        omega
      have k39 : (s[i]'hi == 39) = (((C : Nat) : Int) == 39) := by
        rw [Bool.eq_iff_iff, beq_iff_eq, beq_iff_eq, ← hC, ← UInt8.toNat_inj]
        show _ = 39 ↔ _
        omega
      have hix : ∀ W, (Instr.index 9 (.string s) (.int .i64 (i : Int))).run Tryz.prog W = .ok (.int .u8 (C : Int)) W := fun W => by
        rw [run_index_string W 9 s .i64 _ Tryz.underlying9, dif_pos ⟨by omega, by omega⟩, ← hC]
        simp
      rw [k34] at H34
      rw [k39] at H39
      have n1 : decide ((i : Int) < (s.size : Int)) = true := decide_eq_true (by omega)
      have w1 : IntKind.i64.wrap ((i : Int) + 1) = ((i + 1 : Nat) : Int) := by rw [wrap_small] <;> omega
      clear hig e2 k34 k39 hC
      obtain ⟨m1, e1⟩ : ∃ b, (((C : Nat) : Int) == 34) = b := ⟨_, rfl⟩
      obtain ⟨m2, e3⟩ : ∃ b, (((C : Nat) : Int) == 39) = b := ⟨_, rfl⟩
      rw [e1] at H34
      rw [e3] at H39
      generalize (s.data.toList.take i).contains 34 = b1 at *
      generalize (s.data.toList.take i).contains 39 = b2 at *
      have HI := hide hi
      cases b1 <;> cases b2 <;> cases m1 <;> cases m2
      all_goals
        go_wp2_with fail
        go_roundg g
        case measure => omega
        case rel => exact ⟨i + 1, by have := unhide HG; omega, by go_num, by rw [unhide H34]; rfl, by rw [unhide H39]; rfl, rfl⟩
set_option maxRecDepth 100000 in
set_option maxHeartbeats 4000000 in
theorem refText_any (t : List Nat) (w : World) (ht : okL t) (hz : (T t).size ≤ 4000) (hE : Env w) :
    Calls Tryz.prog 62 #[.string (T t)] w fun e w' => e = .returned (.bool (litX t)) ∧ Below w.heap.size w w' := by
  have hC := refLiteral_any (T t) w hz
  have hI := refIsText_same (T t) w (by omega) hE
  rw [show textB (T t) = true by unfold textB; rw [pfault_T ht]; rfl] at hI
  have HI := hide hI
  rw [show (litQ (T t).data.toList).isSome = litX t by rw [T_data]; rfl] at hC
  clear hI hE
  cases hb : litX t
  · rw [hb, if_neg (by decide)] at hC
    have HC := hide hC
    clear hC hb
    go_enter Tryz.func62, Tryz.ntmps62
    go_wp2_with fail
    refine (unhide HC).mono ?_
    rintro e w1 ⟨⟨X, rfl⟩, rfl⟩
    go_wp2_with fail
    go_returns
    exact ⟨rfl, Below.refl _ _⟩
  · rw [hb, if_pos rfl] at hC
    have HC := hide hC
    clear hC hb
    go_enter Tryz.func62, Tryz.ntmps62
    go_wp2_with fail
    refine (unhide HC).mono ?_
    rintro e w1 ⟨⟨X, rfl⟩, rfl⟩
    go_wp2_with fail
    refine (unhide HI).mono ?_
    rintro e w2 ⟨rfl, hb2⟩
    go_wp2_with fail
    go_returns
    exact ⟨rfl, hb2⟩
set_option maxRecDepth 100000 in
set_option maxHeartbeats 4000000 in
theorem refBare_ok (x : Ex) (al : Option Addr) (cc : Nat) (b : Bool) (w : World) (ht : okL x.text) (h : x.num = 0 ∧ x.axis = 0 ∧ x.test = 0 ∧ (b = true ∨ x.text = [])) :
    Calls Tryz.prog 59 #[exAgg x (.slice al x.kids.length cc), .bool b] w fun e w' => e = .returned (.bool true) ∧ Below w.heap.size w w' := by
  obtain ⟨o, t, m, a, k, ks⟩ := x
  obtain ⟨h1, h2, h3, h4⟩ := h
  replace h1 : m = 0 := h1
  replace h2 : a = 0 := h2
  replace h3 : k = 0 := h3
  have n1 : (m == 0) = true := by rw [h1]; rfl
  have n2 : (((a : Nat) : Int) == 0) = true := icast_eq (by omega)
  have n3 : (((k : Nat) : Int) == 0) = true := icast_eq (by omega)
  clear h1 h2 h3
  show Calls Tryz.prog 59 #[.agg #[.int .i64 (o : Nat), .string (T t), .int .i64 0, .int .i64 m, .int .i64 (a : Nat), .int .i64 (k : Nat), .slice al ks.length cc], .bool b] w fun e w' => e = .returned (.bool true) ∧ Below w.heap.size w w'
  obtain ⟨W1, e1⟩ : ∃ W1, w.alloc (.cells #[.int .i64 (o : Nat), .string (T t), .int .i64 0, .int .i64 m, .int .i64 (a : Nat), .int .i64 (k : Nat), .slice al ks.length cc] 32) = W1 := ⟨_, rfl⟩
  have hb : Below w.heap.size w W1 := by rw [← e1]; exact (Below.refl _ _).alloc (Nat.le_refl _) _
  have hq1 : W1.heap[w.heap.size]? = some (.cells #[.int .i64 (o : Nat), .string (T t), .int .i64 0, .int .i64 m, .int .i64 (a : Nat), .int .i64 (k : Nat), .slice al ks.length cc] 32) := by rw [← e1]; exact palloc_new _ _
  obtain ⟨a0, a1, a2, a3, a4, a5, a6⟩ := var_cells hq1
  have HB := hide hb
  have q := pempty_T ht
  clear hb hq1
  rcases h4 with rfl | h4
  · clear q
    go_enter Tryz.func59, Tryz.ntmps59
    go_wp2_with fail
    go_returns
    exact ⟨rfl, unhide HB⟩
  · replace h4 : t = [] := h4
    have q2 : (T t).toList.isEmpty = true := by rw [h4, T_toList]; rfl
    clear q h4
    cases b
    all_goals
      go_enter Tryz.func59, Tryz.ntmps59
      go_wp2_with fail
      go_returns
      exact ⟨rfl, unhide HB⟩
end Go.Proofs.YthkkfldmoflfaaaGreatDoor
/- The reference's right, step, path, all: what the judge takes is right for them. -/
namespace Go.Proofs.YthkkfldmoflfaaaGreatDoor
open Go.RowKit Go.Maps
theorem jright_inv {fl : Ex → Bool} {n d c c' : Nat} {x : Ex} (h : jRight fl n d c x = some (true, c')) : selfX x = true ∧ fl x = true ∧ ∃ m, m < n ∧ (x.op = 21 → jPath fl m (d + 1) (c + 1) x.kids = some (true, c')) ∧ (x.op ≠ 21 → kidsN x = true ∧ jAll fl m (d + 1) (c + 1) x.kids = some (true, c')) := by
  match n, h with
  | 0, h => rw [jRight] at h; cases h
  | 1, h =>
    rw [jRight] at h
    split at h
    · rw [jPart] at h; cases h
    · cases h
  | 2, h =>
    rw [jRight] at h
    split at h
    · rw [jPart] at h
      split at h
      · rw [jKids] at h; cases h
      · cases h
    · cases h
  | n + 3, h =>
    rw [jRight] at h
    split at h
    · rename_i h1
      rw [jPart] at h
      split at h
      · rename_i h2
        rw [jKids] at h
        refine ⟨h1, h2.2.2, n, by omega, fun h3 => ?_, fun h3 => ?_⟩
        · rwa [if_pos h3] at h
        · rw [if_neg h3] at h
          split at h
          · rename_i h4
            exact ⟨h4, h⟩
          · cases h
      · cases h
    · cases h
theorem jpart_inv {fl : Ex → Bool} {n d c c' : Nat} {x : Ex} (h : jPart fl n d c x = some (true, c')) (hx : x.op ≠ 21) : fl x = true ∧ kidsN x = true ∧ ∃ m, m < n ∧ jAll fl m (d + 1) (c + 1) x.kids = some (true, c') := by
  match n, h with
  | 0, h => rw [jPart] at h; cases h
  | 1, h =>
    rw [jPart] at h
    split at h
    · rw [jKids] at h; cases h
    · cases h
  | n + 2, h =>
    rw [jPart] at h
    split at h
    · rename_i h2
      rw [jKids, if_neg hx] at h
      split at h
      · rename_i h4
        exact ⟨h2.2.2, h4, n, by omega, h⟩
      · cases h
    · cases h
theorem jall_inv {fl : Ex → Bool} : ∀ {n d c c' : Nat} {ks : List Ex}, jAll fl n d c ks = some (true, c') → ∀ (i : Nat) (k : Ex), ks[i]? = some k → ∃ m c1 c2, m < n ∧ jRight fl m d c1 k = some (true, c2)
  | 0, _, _, _, _, h, _, _, _ => by rw [jAll] at h; cases h
  | n + 1, d, c, c', [], h, i, k, hi => by simp at hi
  | n + 1, d, c, c', k0 :: ks, h, 0, k, hi => by
    cases hi
    rw [jAll] at h
    obtain ⟨c1, h1, h2⟩ := JR.then_some h
    exact ⟨n, _, _, by omega, h1⟩
  | n + 1, d, c, c', k0 :: ks, h, i + 1, k, hi => by
    rw [jAll] at h
    obtain ⟨c1, h1, h2⟩ := JR.then_some h
    obtain ⟨m, a, b, hm, e⟩ := jall_inv h2 i k (by simpa using hi)
    exact ⟨m, a, b, by omega, e⟩
theorem jsteps_inv {fl : Ex → Bool} : ∀ {n d c c' : Nat} {ks : List Ex}, jSteps fl n d c ks = some (true, c') → ∀ (i : Nat) (k : Ex), ks[i]? = some k → k.op = 23 ∧ ∃ m c1 c2, m < n ∧ jPart fl m d c1 k = some (true, c2)
  | 0, _, _, _, _, h, _, _, _ => by rw [jSteps] at h; cases h
  | n + 1, d, c, c', [], h, i, k, hi => by simp at hi
  | n + 1, d, c, c', k0 :: ks, h, 0, k, hi => by
    cases hi
    rw [jSteps] at h
    split at h
    · rename_i h0
      obtain ⟨c1, h1, h2⟩ := JR.then_some h
      exact ⟨h0, n, _, _, by omega, h1⟩
    · cases h
  | n + 1, d, c, c', k0 :: ks, h, i + 1, k, hi => by
    rw [jSteps] at h
    split at h
    · obtain ⟨c1, h1, h2⟩ := JR.then_some h
      obtain ⟨h0, m, a, b, hm, e⟩ := jsteps_inv h2 i k (by simpa using hi)
      exact ⟨h0, m, a, b, by omega, e⟩
    · cases h
/-- What a path begins with. -/
def BegX (fl : Ex → Bool) (n d : Nat) (k : Ex) (rest : List Ex) : Prop :=
  (k.op = 22 ∧ fl k = true ∧ k.kids = []) ∨ (rest ≠ [] ∧ k.op = 0 ∧ fl k = true ∧ k.kids = []) ∨ (rest ≠ [] ∧ k.op ≠ 0 ∧ k.op ≠ 22 ∧ ∃ m c1 c2, m < n ∧ jRight fl m d c1 k = some (true, c2))
theorem kids_none {x : Ex} (h : kidsN x = true) (ho : x.op = 0 ∨ x.op = 22) : x.kids = [] := by
  unfold kidsN at h
  rw [if_pos (by omega)] at h
  simpa using h
theorem jpath_inv {fl : Ex → Bool} {n d c c' : Nat} {ks : List Ex} (h : jPath fl n d c ks = some (true, c')) : ∃ k rest, ks = k :: rest ∧ BegX fl n d k rest ∧ ∀ (i : Nat) (s : Ex), rest[i]? = some s → s.op = 23 ∧ ∃ m c1 c2, m < n ∧ jPart fl m d c1 s = some (true, c2) := by
  cases n with
  | zero => rw [jPath] at h; cases h
  | succ n =>
    cases ks with
    | nil => rw [jPath] at h; cases h
    | cons k rest =>
      rw [jPath] at h
      split at h
      · cases h
      · rename_i hne
        obtain ⟨c1, h1, h2⟩ := JR.then_some h
        refine ⟨k, rest, rfl, ?_, fun i s hi => ?_⟩
        · by_cases h22 : k.op = 22
          · rw [if_pos (.inr h22)] at h1
            obtain ⟨a, b, _⟩ := jpart_inv h1 (by omega)
            exact .inl ⟨h22, a, kids_none b (.inr h22)⟩
          · have hr : rest ≠ [] := fun e => hne ⟨e, h22⟩
            by_cases h0 : k.op = 0
            · rw [if_pos (.inl h0)] at h1
              obtain ⟨a, b, _⟩ := jpart_inv h1 (by omega)
              exact .inr (.inl ⟨hr, h0, a, kids_none b (.inl h0)⟩)
            · rw [if_neg (by omega)] at h1
              exact .inr (.inr ⟨hr, h0, h22, n, _, _, by omega, h1⟩)
        · obtain ⟨h0, m, a, b, hm, e⟩ := jsteps_inv h2 i s hi
          exact ⟨h0, m, a, b, by omega, e⟩
theorem rest_inv {t : List Nat} {n : Int} {a k : Nat} (h : restX t n a k = true) : t = [] ∧ n = 0 ∧ a = 0 ∧ k = 0 := by
  unfold restX at h
  simpa using h
theorem type_none {t : List Nat} (h : (typeNo t).isNone = true) : typeWord t = false := by
  have h1 : typeNo t = none := Option.isNone_iff_eq_none.1 h
  unfold typeNo at h1
  rw [List.findIdx?_eq_none_iff] at h1
  have hx : ∀ c ∈ typeL, (t == c) = false := fun c hc => by
    have := h1 c hc
    cases hb : (t == c)
    · rfl
    · rw [beq_iff_eq] at hb
      rw [hb] at this
      simp at this
  unfold typeWord
  rw [hx [99, 111, 109, 109, 101, 110, 116] (by decide), hx [116, 101, 120, 116] (by decide), hx _ (by decide : [112, 114, 111, 99, 101, 115, 115, 105, 110, 103, 45, 105, 110, 115, 116, 114, 117, 99, 116, 105, 111, 110] ∈ typeL), hx [110, 111, 100, 101] (by decide)]
  rfl
set_option maxRecDepth 100000 in
set_option maxHeartbeats 4000000 in
theorem refAxisName_ok (a : Nat) (w : World) (ha : a < 12) :
    Calls Tryz.prog 122 #[.int .i64 (a : Nat)] w fun e w' => e = .returned (.string (T (axAt a))) ∧ Below w.heap.size w w' := by
  rcases (show a = 0 ∨ a = 1 ∨ a = 2 ∨ a = 3 ∨ a = 4 ∨ a = 5 ∨ a = 6 ∨ a = 7 ∨ a = 8 ∨ a = 9 ∨ a = 10 ∨ a = 11 by omega) with rfl | rfl | rfl | rfl | rfl | rfl | rfl | rfl | rfl | rfl | rfl | rfl
  all_goals
    go_enter Tryz.func122, Tryz.ntmps122
    go_wp2_with fail
    go_returns
    exact ⟨rfl, by (repeat first | refine Below.setCell ?_ (by first | omega | (simp; omega) | simp) _ | refine Below.drew ?_ | refine Below.alloc ?_ (by first | omega | (simp; omega) | simp) _ | assumption | exact Below.refl _ _)⟩
end Go.Proofs.YthkkfldmoflfaaaGreatDoor
