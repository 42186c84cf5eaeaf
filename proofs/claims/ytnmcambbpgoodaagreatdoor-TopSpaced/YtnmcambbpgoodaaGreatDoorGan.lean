/- Several texts, laid as one. -/
import Derived.Test.YtnmcambbpgoodaaGreatDoorGam
/- The string, the word that a text begins with, and which word is what: xplex's functions. -/
namespace Go.Proofs.YtnmcambbpgoodaaGreatDoor
open Go.RowKit
def strAny (l : List Nat) : Option (List Nat) := match strAt 34 l with | some t => some t | none => strAt 39 l
/-- What stringAhead tells: a text, and whether it is ended. -/
def strV (o : Option (List Nat)) (e : Ending) : Prop := ∃ x b, e = .returned (.tuple #[.string x, .bool b]) ∧ ((∃ t, o = some t ∧ x = T t ∧ b = true) ∨ (o = none ∧ b = false))
theorem strAt_of {q : Nat} {l : List Nat} : strAt q l = if heads q l && l.tail.contains q then some (l.tail.takeWhile (· != q)) else none := rfl
theorem strAt_none {q : Nat} {l : List Nat} (h : heads q l = false) : strAt q l = none := by rw [strAt_of, h, Bool.false_and, if_neg (by decide)]
theorem heads_one {q r : Nat} {l : List Nat} (h : heads q l = true) (hq : r ≠ q) : heads r l = false := by
  rw [heads_true h, heads_cons]; simpa using hq.symm
def cutB (q : Nat) (l : List Nat) : Bool := l.contains q
def cutW (q : Nat) (l : List Nat) : List Nat := if l.contains q then l.takeWhile (· != q) else l
theorem cut_sign (q : Nat) (u : UInt8) (hu : u = UInt8.ofNat q) (hq : q < 128) (l : List Nat) (hl : okL l) (hs : (T l).size ≤ 512) (w : World) (hE : Env w) :
    Calls Tryz.prog 43 #[.string (T l), .string ⟨#[u]⟩] w fun e w' => (∃ y, e = .returned (.tuple #[.string (T (cutW q l)), .string y, .bool (cutB q l)])) ∧ Below w.heap.size w w' := by
  subst hu
  obtain ⟨m, hm⟩ := hE.len
  refine (Tryz.strings_Cut (T l) ⟨#[UInt8.ofNat q]⟩ m w (by omega) hm).mono ?_
  rintro e w' ⟨rfl, nd, rfl⟩
  refine ⟨?_, below_drewN w nd⟩
  rw [T_data, show (⟨#[UInt8.ofNat q]⟩ : ByteArray).data.toList = [UInt8.ofNat q] from rfl, cut_tx hq hl]
  unfold cutW cutB
  cases l.contains q
  · exact ⟨_, rfl⟩
  · exact ⟨_, rfl⟩
set_option maxHeartbeats 1000000 in
theorem stringAhead_any (l : List Nat) (w : World) (hl : okL l) (hs : (T l).size ≤ 512) (hE : Env w) :
    Calls Tryz.prog 25 #[.string (T l)] w fun e w' => strV (strAny l) e ∧ Below w.heap.size w w' := by
  have HE := hide hE
  clear hE
  have hst : ∀ q, q < 128 → heads q l = true → (T l.tail).size ≤ 512 := by
    intro q hq hh
    have h1 : (T l).size = 1 + (T l.tail).size := by
      conv => lhs; rw [heads_true hh]
      exact sz_cons hq _
    omega
  have HT := hide hst
  clear hst
  have i0 : ∀ w, (Instr.index 94 (.agg #[.string ⟨#[34]⟩, .string ⟨#[39]⟩]) (.int .i64 0)).run Tryz.prog w = .ok (.string ⟨#[34]⟩) w := fun _ => by kernel_rfl
  have i1 : ∀ w, (Instr.index 94 (.agg #[.string ⟨#[34]⟩, .string ⟨#[39]⟩]) (.int .i64 1)).run Tryz.prog w = .ok (.string ⟨#[39]⟩) w := fun _ => by kernel_rfl
  go_enter Tryz.func25, Tryz.ntmps25
  go_wp2_with fail
  refine wp_loop_rounds 3 ?_
  rw [rounds_succ]
  go_wp2_with fail
  refine (cutPrefix_one 34 34 rfl (by decide) l hl _).mono ?_
  rintro e w2 ⟨rfl, rfl⟩
  cases hh : heads 34 l
  · have HH := hide hh
    clear hh
    rw [if_neg (by decide)]
    go_wp2_with fail
    rw [rounds_succ]
    go_wp2_with fail
    refine (cutPrefix_one 39 39 rfl (by decide) l hl _).mono ?_
    rintro e w2 ⟨rfl, rfl⟩
    cases hh : heads 39 l
    · have HH2 := hide hh
      clear hh
      rw [if_neg (by decide)]
      go_wp2_with fail
      rw [rounds_succ]
      go_wp2
      go_ret2
      refine ⟨⟨_, _, rfl, .inr ⟨?_, rfl⟩⟩, Below.refl _ _⟩
      unfold strAny
      rw [strAt_none (unhide HH), strAt_none (unhide HH2)]
    · have HH2 := hide hh
      clear hh
      rw [if_pos rfl]
      go_wp2_with fail
      refine (cut_sign 39 39 rfl (by decide) l.tail (okL_tl hl) (unhide HT 39 (by decide) (unhide HH2)) _ (unhide HE)).mono ?_
      rintro e w3 ⟨⟨y, rfl⟩, hb⟩
      go_wp2
      go_ret2
      refine ⟨⟨_, _, rfl, ?_⟩, hb⟩
      unfold strAny
      rw [strAt_none (unhide HH), strAt_of, unhide HH2, Bool.true_and]
      unfold cutW cutB
      cases hc : l.tail.contains 39
      · exact .inr ⟨rfl, rfl⟩
      · exact .inl ⟨_, rfl, rfl, rfl⟩
  · have HH := hide hh
    clear hh
    rw [if_pos rfl]
    go_wp2_with fail
    refine (cut_sign 34 34 rfl (by decide) l.tail (okL_tl hl) (unhide HT 34 (by decide) (unhide HH)) _ (unhide HE)).mono ?_
    rintro e w3 ⟨⟨y, rfl⟩, hb⟩
    go_wp2
    go_ret2
    refine ⟨⟨_, _, rfl, ?_⟩, hb⟩
    unfold strAny
    rw [strAt_of, unhide HH, Bool.true_and]
    unfold cutW cutB
    cases hc : l.tail.contains 34
    · exact .inr ⟨by rw [if_neg (by decide)]; exact strAt_none (heads_one (unhide HH) (by decide)), rfl⟩
    · exact .inl ⟨_, rfl, rfl, rfl⟩
theorem hasPrefix_T (a : List Nat) (u : ByteArray) (hu : u.data.toList = a.map UInt8.ofNat) (ha : ∀ c ∈ a, c < 128) (l : List Nat) (hl : okL l) (w : World) :
    Calls Tryz.prog 20 #[.string (T l), .string u] w fun e w' => e = .returned (.bool (a.isPrefixOf l)) ∧ w' = w := by
  refine (Tryz.strings_HasPrefix (T l) u w).mono ?_
  rintro e w' ⟨rfl, rfl⟩
  refine ⟨ret_bool ?_, rfl⟩
  rw [T_data, hu, pre_tx a l ha hl]
theorem isName_T (l : List Nat) (hl : okL l) (hs : (T l).size ≤ 4096) (w : World) (hE : Env w) :
    Calls Tryz.prog 45 #[.string (T l)] w fun e w' => e = .returned (.bool (isNm l)) ∧ Below w.heap.size w w' := by
  rw [← nameB_T hl]
  exact isName_any (T l) w (by unfold maxLen; omega) hE
set_option maxHeartbeats 1000000 in
theorem wordAhead_any (l : List Nat) (w : World) (hl : okL l) (hs : (T l).size ≤ 512) (hE : Env w) :
    Calls Tryz.prog 27 #[.string (T l)] w fun e w' => e = .returned (.string (T (wordA l))) ∧ Below w.heap.size w w' := by
  have HE := hide hE
  clear hE
  have hW : wordA l = if heads 42 l then [42] else if isNm (qnameA l) && [58, 42].isPrefixOf (l.drop (qnameA l).length) then qnameA l ++ [58, 42] else qnameA l := rfl
  have HW := hide hW
  clear hW
  have hp := qnameA_pre l
  have hz := size_pre hp
  have HS := hide (suf_drop hp)
  have hod := okL_drop hl (qnameA l).length
  have hon := okL_pre hl hp
  clear hp
  go_enter Tryz.func27, Tryz.ntmps27
  go_wp2_with fail
  refine (hasPrefix_T [42] _ rfl (by decide) l hl _).mono ?_
  rintro e w1 ⟨rfl, rfl⟩
  rw [isPre_one]
  cases hh : heads 42 l
  · have HH := hide hh
    clear hh
    go_wp2_with fail
    refine (qnameAhead_any l _ hl hs).mono ?_
    rintro e w2 ⟨rfl, hb2⟩
    generalize qnameA l = n at *
    generalize l.drop n.length = d at *
    go_wp2_with fail
    refine (isName_T n hon (by omega) _ ((unhide HE).below hb2)).mono ?_
    rintro e w3 ⟨rfl, hb3⟩
    cases hn : isNm n
    · have HN := hide hn
      clear hn
      go_wp2
      go_ret
      refine ⟨ret_str ?_, Below.then hb2 hb3⟩
      rw [unhide HW, unhide HH, if_neg (by decide), unhide HN, Bool.false_and, if_neg (by decide)]
    · have HN := hide hn
      clear hn
      go_wp2_with fail
      rw [unhide HS]
      refine (hasPrefix_T [58, 42] _ rfl (by decide) d hod _).mono ?_
      rintro e w4 ⟨rfl, rfl⟩
      cases hd : [58, 42].isPrefixOf d
      · have HD := hide hd
        clear hd
        go_wp2
        go_ret
        refine ⟨ret_str ?_, Below.then hb2 hb3⟩
        rw [unhide HW, unhide HH, if_neg (by decide), unhide HN, unhide HD, Bool.and_false, if_neg (by decide)]
      · have HD := hide hd
        clear hd
        go_wp2
        go_ret
        refine ⟨ret_str ?_, Below.then hb2 hb3⟩
        rw [unhide HW, unhide HH, if_neg (by decide), unhide HN, unhide HD, Bool.and_self, if_pos rfl, ← T_app]
        rfl
  · have HH := hide hh
    clear hh
    go_wp2
    go_ret
    refine ⟨ret_str ?_, Below.refl _ _⟩
    rw [unhide HW, unhide HH, if_pos rfl]
    rfl
end Go.Proofs.YtnmcambbpgoodaaGreatDoor
/- Which word is an operator, a type, a QName; what blanks are passed; what a word is: xplex's functions. -/
namespace Go.Proofs.YtnmcambbpgoodaaGreatDoor
open Go.RowKit
theorem eq_asc {w : List Nat} (hw : okL w) (a : List Nat) (b : List UInt8) (ha : a.all (fun c => decide (32 ≤ c) && decide (c < 128)) = true) (hb : tx a = b) : ((T w).toList == b) = (w == a) := by
  rw [← hb]
  refine eq_T hw (fun c hc => ?_)
  have := List.all_eq_true.1 ha c hc
  simp at this
  simp [charR]
  omega
set_option maxHeartbeats 1000000 in
theorem isOperator_any (l : List Nat) (w : World) (hl : okL l) :
    Calls Tryz.prog 46 #[.string (T l)] w fun e w' => e = .returned (.bool (opWord l)) ∧ w' = w := by
  have h1 := eq_asc hl [97, 110, 100] [97, 110, 100] rfl (by decide +kernel)
  have h2 := eq_asc hl [111, 114] [111, 114] rfl (by decide +kernel)
  have h3 := eq_asc hl [109, 111, 100] [109, 111, 100] rfl (by decide +kernel)
  have h4 := eq_asc hl [100, 105, 118] [100, 105, 118] rfl (by decide +kernel)
  have h5 := eq_asc hl [42] [42] rfl (by decide +kernel)
  have hO : opWord l = (l == [97, 110, 100] || l == [111, 114] || l == [109, 111, 100] || l == [100, 105, 118] || l == [42]) := rfl
  have HO := hide hO
  clear hO
  generalize (l == [97, 110, 100]) = b1 at *
  generalize (l == [111, 114]) = b2 at *
  generalize (l == [109, 111, 100]) = b3 at *
  generalize (l == [100, 105, 118]) = b4 at *
  generalize (l == [42]) = b5 at *
  go_enter Tryz.func46, Tryz.ntmps46
  cases b1 <;> cases b2 <;> cases b3 <;> cases b4 <;> cases b5
  all_goals
    go_wp2
    go_ret
    exact ⟨ret_bool (by rw [unhide HO]; rfl), rfl⟩
set_option maxHeartbeats 1000000 in
theorem isType_any (l : List Nat) (w : World) (hl : okL l) :
    Calls Tryz.prog 47 #[.string (T l)] w fun e w' => e = .returned (.bool (typeWord l)) ∧ w' = w := by
  have h1 := eq_asc hl [99, 111, 109, 109, 101, 110, 116] [99, 111, 109, 109, 101, 110, 116] rfl (by decide +kernel)
  have h2 := eq_asc hl [116, 101, 120, 116] [116, 101, 120, 116] rfl (by decide +kernel)
  have h3 := eq_asc hl [112, 114, 111, 99, 101, 115, 115, 105, 110, 103, 45, 105, 110, 115, 116, 114, 117, 99, 116, 105, 111, 110] [112, 114, 111, 99, 101, 115, 115, 105, 110, 103, 45, 105, 110, 115, 116, 114, 117, 99, 116, 105, 111, 110] rfl (by decide +kernel)
  have h4 := eq_asc hl [110, 111, 100, 101] [110, 111, 100, 101] rfl (by decide +kernel)
  have hO : typeWord l = (l == [99, 111, 109, 109, 101, 110, 116] || l == [116, 101, 120, 116] || l == [112, 114, 111, 99, 101, 115, 115, 105, 110, 103, 45, 105, 110, 115, 116, 114, 117, 99, 116, 105, 111, 110] || l == [110, 111, 100, 101]) := rfl
  have HO := hide hO
  clear hO
  generalize (l == [99, 111, 109, 109, 101, 110, 116]) = b1 at *
  generalize (l == [116, 101, 120, 116]) = b2 at *
  generalize (l == [112, 114, 111, 99, 101, 115, 115, 105, 110, 103, 45, 105, 110, 115, 116, 114, 117, 99, 116, 105, 111, 110]) = b3 at *
  generalize (l == [110, 111, 100, 101]) = b4 at *
  go_enter Tryz.func47, Tryz.ntmps47
  cases b1 <;> cases b2 <;> cases b3 <;> cases b4
  all_goals
    go_wp2
    go_ret
    exact ⟨ret_bool (by rw [unhide HO]; rfl), rfl⟩
set_option maxHeartbeats 1000000 in
theorem isQName_any (l : List Nat) (w : World) (hl : okL l) (hs : (T l).size ≤ 4096) (hE : Env w) :
    Calls Tryz.prog 48 #[.string (T l)] w fun e w' => e = .returned (.bool (isQ l)) ∧ Below w.heap.size w w' := by
  have HE := hide hE
  clear hE
  rw [← splitB_T hl]
  obtain ⟨p, n, hv⟩ := splitV_cases (T l).data.toList
  have HV := hide hv
  clear hv
  go_enter Tryz.func48, Tryz.ntmps48
  go_wp2_with fail
  refine (split_any (T l) _ (by omega) (unhide HE)).mono ?_
  rintro e w1 ⟨rfl, hb1⟩
  rw [unhide HV]
  go_wp2
  go_ret
  exact ⟨rfl, hb1⟩
set_option maxHeartbeats 1000000 in
theorem pastBlanks_any (l p t : List Nat) (w : World) (hpt : l = p ++ t) (hl : okL l) (hs : (T l).size ≤ 4096) :
    Calls Tryz.prog 12 #[.string (T l), .int .i64 ((tx p).length : Nat)] w fun e w' => e = .returned (.int .i64 ((tx (p ++ t.takeWhile blankC)).length : Nat)) ∧ Below w.heap.size w w' := by
  have ht : okL t := okL_right (hpt ▸ hl)
  have HX := hide (suf_at hpt)
  have hz : (tx p).length ≤ (T l).size := by rw [hpt, T_size, tx_len_app]; omega
  have HN : Hid ((T l).size = (tx (p ++ t.takeWhile blankC)).length + (T (t.dropWhile blankC)).size) := by
    refine hide ?_
    rw [T_size, T_size, ← tx_len_app, List.append_assoc, List.takeWhile_append_dropWhile, hpt]
  clear hpt
  generalize (tx p).length = n at *
  go_enter Tryz.func12, Tryz.ntmps12
  go_wp2_with fail
  rw [unhide HX]
  refine (Tryz.strings_TrimLeftFunc_runes 23 #[] isBlank_enters blankN (T t) _ (isBlank_runes _)).mono ?_
  rintro e w1 ⟨rfl, hb1⟩
  rw [trim_T ht]
  have hle : (T (t.dropWhile blankC)).size ≤ (T l).size := by have := unhide HN; omega
  go_wp2
  go_ret
  refine ⟨ret_int ?_, hb1⟩
  have := unhide HN
  omega
def plV (pl : Bool) : Value := .int .i64 (if pl then 1 else 0)
/-- What wordToken tells. -/
def wordV (o : Option Nat) (w : List Nat) : Value := match o with
  | some k => .tuple #[.agg #[.int .i64 (k : Nat), .string (T w), .int .i64 0], .int .i64 ((T w).size : Nat)]
  | none => .tuple #[.agg #[.int .i64 0, .string ⟨#[]⟩, .int .i64 0], .int .i64 0]
theorem ret_word {o p : Option Nat} {w : List Nat} {v : Value} (h : o = p) (hv : v = wordV p w) : Ending.returned v = .returned (wordV o w) := by rw [h, hv]
end Go.Proofs.YtnmcambbpgoodaaGreatDoor
/- A token in memory. -/
namespace Go.Proofs.YtnmcambbpgoodaaGreatDoor
open Go.RowKit
theorem kept_cell {w w' : World} {p : Addr} {v : Value} (hb : Below w.heap.size w w') (h : w.cell? p = some v) : w'.cell? p = some v := by
  rw [hb.cell (block_lt_of_cell h)]; exact h
theorem kept_open {w w' : World} {p : Addr} {v : Value} (hb : Below w.heap.size w w') (h : w.cell? p = some v) (o : w.frozen? p = false) : w'.frozen? p = false := by
  rw [hb.frozen (block_lt_of_cell h)]; exact o
structure LexAt (w : World) (b : Nat) (k : Int) (x : ByteArray) (a : Int) : Prop where
  c0 : w.cell? ⟨b, 0, none⟩ = some (.int .i64 k)
  c1 : w.cell? ⟨b, 1, none⟩ = some (.string x)
  c2 : w.cell? ⟨b, 2, none⟩ = some (.int .i64 a)
  o0 : w.frozen? ⟨b, 0, none⟩ = false
  o1 : w.frozen? ⟨b, 1, none⟩ = false
  o2 : w.frozen? ⟨b, 2, none⟩ = false
theorem LexAt.below {w w' : World} {b : Nat} {k a : Int} {x : ByteArray} (h : LexAt w b k x a) (hb : Below w.heap.size w w') : LexAt w' b k x a :=
  ⟨kept_cell hb h.c0, kept_cell hb h.c1, kept_cell hb h.c2, kept_open hb h.c0 h.o0, kept_open hb h.c1 h.o1, kept_open hb h.c2 h.o2⟩
theorem LexAt.new (w : World) (k a : Int) (x : ByteArray) (t : TypeId) : LexAt (w.alloc (.cells #[.int .i64 k, .string x, .int .i64 a] t)) w.heap.size k x a := by
  refine ⟨?_, ?_, ?_, ?_, ?_, ?_⟩
  all_goals simp [go_sem]
end Go.Proofs.YtnmcambbpgoodaaGreatDoor
