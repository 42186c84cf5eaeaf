/- Several texts, laid as one. -/
import Derived.Test.YthkkfldmoflfaaaGreatDoorGaj
import Derived.Test.YthkkfldmoflfaaaGreatDoorGaf
/- The string, the word that a text begins with, and which word is what: xplex's functions. -/
namespace Go.Proofs.YthkkfldmoflfaaaGreatDoor
open Go.RowKit
def strAny (l : List Nat) : Option (List Nat) := match strAt 34 l with | some t => some t | none => strAt 39 l
/-- What stringAhead tells: a text, and whether it is ended. -/
def strV (o : Option (List Nat)) (e : Ending) : Prop := ∃ x b, e = .returned (.tuple #[.string x, .bool b]) ∧ ((∃ t, o = some t ∧ x = T t ∧ b = true) ∨ (o = none ∧ b = false))
theorem strAt_of {q : Nat} {l : List Nat} : strAt q l = if heads q l && l.tail.contains q then some (l.tail.takeWhile (· != q)) else none := rfl
theorem strAt_none {q : Nat} {l : List Nat} (h : heads q l = false) : strAt q l = none := by rw [strAt_of, h, Bool.false_and, if_neg (by decide)]
theorem heads_one {q r : Nat} {l : List Nat} (h : heads q l = true) (hq : r ≠ q) : heads r l = false := by
  rw [heads_true h, heads_cons]; simpa using hq.symm
def cutB (q : Nat) (l : List Nat) : Bool := l.contains q
def cutW (q : Nat) (l : List Nat) : List Nat := if l.contains q then l.takeWhile (· != q) else l
theorem cut_sign (q : Nat) (u : UInt8) (hu : u = UInt8.ofNat q) (hq : q < 128) (l : List Nat) (hl : okL l) (hs : (T l).size ≤ 512) (w : World) (hE : Env w) :
    Calls Tryz.prog 72 #[.string (T l), .string ⟨#[u]⟩] w fun e w' => (∃ y, e = .returned (.tuple #[.string (T (cutW q l)), .string y, .bool (cutB q l)])) ∧ Below w.heap.size w w' := by
  subst hu
  obtain ⟨m, hm⟩ := hE.len
  refine (Tryz.strings_Cut (T l) ⟨#[UInt8.ofNat q]⟩ m w (by omega) hm).mono ?_
  rintro e w' ⟨rfl, nd, rfl⟩
  refine ⟨?_, below_drewN w nd⟩
  rw [T_data, show (⟨#[UInt8.ofNat q]⟩ : ByteArray).data.toList = [UInt8.ofNat q] from rfl, cut_tx hq hl]
  unfold cutW cutB
  cases l.contains q
  · exact ⟨_, rfl⟩
  · exact ⟨_, rfl⟩
set_option maxHeartbeats 1000000 in
theorem stringAhead_any (l : List Nat) (w : World) (hl : okL l) (hs : (T l).size ≤ 512) (hE : Env w) :
    Calls Tryz.prog 42 #[.string (T l)] w fun e w' => strV (strAny l) e ∧ Below w.heap.size w w' := by
  have HE := hide hE
  clear hE
  have hst : ∀ q, q < 128 → heads q l = true → (T l.tail).size ≤ 512 := by
    intro q hq hh
    have h1 : (T l).size = 1 + (T l.tail).size := by
      conv => lhs; rw [heads_true hh]
      exact sz_cons hq _
    omega
  have HT := hide hst
  clear hst
  have i0 : ∀ w, (Instr.index 117 (.agg #[.string ⟨#[34]⟩, .string ⟨#[39]⟩]) (.int .i64 0)).run Tryz.prog w = .ok (.string ⟨#[34]⟩) w := fun _ => by kernel_rfl
  have i1 : ∀ w, (Instr.index 117 (.agg #[.string ⟨#[34]⟩, .string ⟨#[39]⟩]) (.int .i64 1)).run Tryz.prog w = .ok (.string ⟨#[39]⟩) w := fun _ => by kernel_rfl
  go_enter Tryz.func42, Tryz.ntmps42
  go_wp2_with fail
  refine wp_loop_rounds 3 ?_
  rw [rounds_succ]
  go_wp2_with fail
  refine (cutPrefix_one 34 34 rfl (by decide) l hl _).mono ?_
  rintro e w2 ⟨rfl, rfl⟩
  cases hh : heads 34 l
  · have HH := hide hh
    clear hh
    rw [if_neg (by decide)]
    go_wp2_with fail
    rw [rounds_succ]
    go_wp2_with fail
    refine (cutPrefix_one 39 39 rfl (by decide) l hl _).mono ?_
    rintro e w2 ⟨rfl, rfl⟩
    cases hh : heads 39 l
    · have HH2 := hide hh
      clear hh
      rw [if_neg (by decide)]
      go_wp2_with fail
      rw [rounds_succ]
      go_wp2
      go_ret2
      refine ⟨⟨_, _, rfl, .inr ⟨?_, rfl⟩⟩, Below.refl _ _⟩
      unfold strAny
      rw [strAt_none (unhide HH), strAt_none (unhide HH2)]
    · have HH2 := hide hh
      clear hh
      rw [if_pos rfl]
      go_wp2_with fail
      refine (cut_sign 39 39 rfl (by decide) l.tail (okL_tl hl) (unhide HT 39 (by decide) (unhide HH2)) _ (unhide HE)).mono ?_
      rintro e w3 ⟨⟨y, rfl⟩, hb⟩
      go_wp2
      go_ret2
      refine ⟨⟨_, _, rfl, ?_⟩, hb⟩
      unfold strAny
      rw [strAt_none (unhide HH), strAt_of, unhide HH2, Bool.true_and]
      unfold cutW cutB
      cases hc : l.tail.contains 39
      · exact .inr ⟨rfl, rfl⟩
      · exact .inl ⟨_, rfl, rfl, rfl⟩
  · have HH := hide hh
    clear hh
    rw [if_pos rfl]
    go_wp2_with fail
    refine (cut_sign 34 34 rfl (by decide) l.tail (okL_tl hl) (unhide HT 34 (by decide) (unhide HH)) _ (unhide HE)).mono ?_
    rintro e w3 ⟨⟨y, rfl⟩, hb⟩
    go_wp2
    go_ret2
    refine ⟨⟨_, _, rfl, ?_⟩, hb⟩
    unfold strAny
    rw [strAt_of, unhide HH, Bool.true_and]
    unfold cutW cutB
    cases hc : l.tail.contains 34
    · exact .inr ⟨by rw [if_neg (by decide)]; exact strAt_none (heads_one (unhide HH) (by decide)), rfl⟩
    · exact .inl ⟨_, rfl, rfl, rfl⟩
theorem hasPrefix_T (a : List Nat) (u : ByteArray) (hu : u.data.toList = a.map UInt8.ofNat) (ha : ∀ c ∈ a, c < 128) (l : List Nat) (hl : okL l) (w : World) :
    Calls Tryz.prog 37 #[.string (T l), .string u] w fun e w' => e = .returned (.bool (a.isPrefixOf l)) ∧ w' = w := by
  refine (Tryz.strings_HasPrefix (T l) u w).mono ?_
  rintro e w' ⟨rfl, rfl⟩
  refine ⟨ret_bool ?_, rfl⟩
  rw [T_data, hu, pre_tx a l ha hl]
theorem isName_T (l : List Nat) (hl : okL l) (hs : (T l).size ≤ 4096) (w : World) (hE : Env w) :
    Calls Tryz.prog 74 #[.string (T l)] w fun e w' => e = .returned (.bool (isNm l)) ∧ Below w.heap.size w w' := by
  rw [← nameB_T hl]
  exact isName_any (T l) w (by unfold maxLen; omega) hE
set_option maxHeartbeats 1000000 in
theorem wordAhead_any (l : List Nat) (w : World) (hl : okL l) (hs : (T l).size ≤ 512) (hE : Env w) :
    Calls Tryz.prog 44 #[.string (T l)] w fun e w' => e = .returned (.string (T (wordA l))) ∧ Below w.heap.size w w' := by
  have HE := hide hE
  clear hE
  have hW : wordA l = if heads 42 l then [42] else if isNm (qnameA l) && [58, 42].isPrefixOf (l.drop (qnameA l).length) then qnameA l ++ [58, 42] else qnameA l := rfl
  have HW := hide hW
  clear hW
  have hp := qnameA_pre l
  have hz := size_pre hp
  have HS := hide (suf_drop hp)
  have hod := okL_drop hl (qnameA l).length
  have hon := okL_pre hl hp
  clear hp
  go_enter Tryz.func44, Tryz.ntmps44
  go_wp2_with fail
  refine (hasPrefix_T [42] _ rfl (by decide) l hl _).mono ?_
  rintro e w1 ⟨rfl, rfl⟩
  rw [isPre_one]
  cases hh : heads 42 l
  · have HH := hide hh
    clear hh
    go_wp2_with fail
    refine (qnameAhead_any l _ hl hs).mono ?_
    rintro e w2 ⟨rfl, hb2⟩
    generalize qnameA l = n at *
    generalize l.drop n.length = d at *
    go_wp2_with fail
    refine (isName_T n hon (by omega) _ ((unhide HE).below hb2)).mono ?_
    rintro e w3 ⟨rfl, hb3⟩
    cases hn : isNm n
    · have HN := hide hn
      clear hn
      go_wp2
      go_ret
      refine ⟨ret_str ?_, Below.then hb2 hb3⟩
      rw [unhide HW, unhide HH, if_neg (by decide), unhide HN, Bool.false_and, if_neg (by decide)]
    · have HN := hide hn
      clear hn
      go_wp2_with fail
      rw [unhide HS]
      refine (hasPrefix_T [58, 42] _ rfl (by decide) d hod _).mono ?_
      rintro e w4 ⟨rfl, rfl⟩
      cases hd : [58, 42].isPrefixOf d
      · have HD := hide hd
        clear hd
        go_wp2
        go_ret
        refine ⟨ret_str ?_, Below.then hb2 hb3⟩
        rw [unhide HW, unhide HH, if_neg (by decide), unhide HN, unhide HD, Bool.and_false, if_neg (by decide)]
      · have HD := hide hd
        clear hd
        go_wp2
        go_ret
        refine ⟨ret_str ?_, Below.then hb2 hb3⟩
        rw [unhide HW, unhide HH, if_neg (by decide), unhide HN, unhide HD, Bool.and_self, if_pos rfl, ← T_app]
        rfl
  · have HH := hide hh
    clear hh
    go_wp2
    go_ret
    refine ⟨ret_str ?_, Below.refl _ _⟩
    rw [unhide HW, unhide HH, if_pos rfl]
    rfl
end Go.Proofs.YthkkfldmoflfaaaGreatDoor
/- Which word is an operator, a type, a QName; what blanks are passed; what a word is: xplex's functions. -/
namespace Go.Proofs.YthkkfldmoflfaaaGreatDoor
open Go.RowKit
theorem eq_asc {w : List Nat} (hw : okL w) (a : List Nat) (b : List UInt8) (ha : a.all (fun c => decide (32 ≤ c) && decide (c < 128)) = true) (hb : tx a = b) : ((T w).toList == b) = (w == a) := by
  rw [← hb]
  refine eq_T hw (fun c hc => ?_)
  have := List.all_eq_true.1 ha c hc
  simp at this
  simp [charR]
  omega
set_option maxHeartbeats 1000000 in
theorem isOperator_any (l : List Nat) (w : World) (hl : okL l) :
    Calls Tryz.prog 75 #[.string (T l)] w fun e w' => e = .returned (.bool (opWord l)) ∧ w' = w := by
  have h1 := eq_asc hl [97, 110, 100] [97, 110, 100] rfl (by decide +kernel)
  have h2 := eq_asc hl [111, 114] [111, 114] rfl (by decide +kernel)
  have h3 := eq_asc hl [109, 111, 100] [109, 111, 100] rfl (by decide +kernel)
  have h4 := eq_asc hl [100, 105, 118] [100, 105, 118] rfl (by decide +kernel)
  have h5 := eq_asc hl [42] [42] rfl (by decide +kernel)
  have hO : opWord l = (l == [97, 110, 100] || l == [111, 114] || l == [109, 111, 100] || l == [100, 105, 118] || l == [42]) := rfl
  have HO := hide hO
  clear hO
  generalize (l == [97, 110, 100]) = b1 at *
  generalize (l == [111, 114]) = b2 at *
  generalize (l == [109, 111, 100]) = b3 at *
  generalize (l == [100, 105, 118]) = b4 at *
  generalize (l == [42]) = b5 at *
  go_enter Tryz.func75, Tryz.ntmps75
  cases b1 <;> cases b2 <;> cases b3 <;> cases b4 <;> cases b5
  all_goals
    go_wp2
    go_ret
    exact ⟨ret_bool (by rw [unhide HO]; rfl), rfl⟩
set_option maxHeartbeats 1000000 in
theorem isType_any (l : List Nat) (w : World) (hl : okL l) :
    Calls Tryz.prog 76 #[.string (T l)] w fun e w' => e = .returned (.bool (typeWord l)) ∧ w' = w := by
  have h1 := eq_asc hl [99, 111, 109, 109, 101, 110, 116] [99, 111, 109, 109, 101, 110, 116] rfl (by decide +kernel)
  have h2 := eq_asc hl [116, 101, 120, 116] [116, 101, 120, 116] rfl (by decide +kernel)
  have h3 := eq_asc hl [112, 114, 111, 99, 101, 115, 115, 105, 110, 103, 45, 105, 110, 115, 116, 114, 117, 99, 116, 105, 111, 110] [112, 114, 111, 99, 101, 115, 115, 105, 110, 103, 45, 105, 110, 115, 116, 114, 117, 99, 116, 105, 111, 110] rfl (by decide +kernel)
  have h4 := eq_asc hl [110, 111, 100, 101] [110, 111, 100, 101] rfl (by decide +kernel)
  have hO : typeWord l = (l == [99, 111, 109, 109, 101, 110, 116] || l == [116, 101, 120, 116] || l == [112, 114, 111, 99, 101, 115, 115, 105, 110, 103, 45, 105, 110, 115, 116, 114, 117, 99, 116, 105, 111, 110] || l == [110, 111, 100, 101]) := rfl
  have HO := hide hO
  clear hO
  generalize (l == [99, 111, 109, 109, 101, 110, 116]) = b1 at *
  generalize (l == [116, 101, 120, 116]) = b2 at *
  generalize (l == [112, 114, 111, 99, 101, 115, 115, 105, 110, 103, 45, 105, 110, 115, 116, 114, 117, 99, 116, 105, 111, 110]) = b3 at *
  generalize (l == [110, 111, 100, 101]) = b4 at *
  go_enter Tryz.func76, Tryz.ntmps76
  cases b1 <;> cases b2 <;> cases b3 <;> cases b4
  all_goals
    go_wp2
    go_ret
    exact ⟨ret_bool (by rw [unhide HO]; rfl), rfl⟩
set_option maxHeartbeats 1000000 in
theorem isQName_any (l : List Nat) (w : World) (hl : okL l) (hs : (T l).size ≤ 4096) (hE : Env w) :
    Calls Tryz.prog 77 #[.string (T l)] w fun e w' => e = .returned (.bool (isQ l)) ∧ Below w.heap.size w w' := by
  have HE := hide hE
  clear hE
  rw [← splitB_T hl]
  obtain ⟨p, n, hv⟩ := splitV_cases (T l).data.toList
  have HV := hide hv
  clear hv
  go_enter Tryz.func77, Tryz.ntmps77
  go_wp2_with fail
  refine (split_any (T l) _ (by omega) (unhide HE)).mono ?_
  rintro e w1 ⟨rfl, hb1⟩
  rw [unhide HV]
  go_wp2
  go_ret
  exact ⟨rfl, hb1⟩
set_option maxHeartbeats 1000000 in
theorem pastBlanks_any (l p t : List Nat) (w : World) (hpt : l = p ++ t) (hl : okL l) (hs : (T l).size ≤ 4096) :
    Calls Tryz.prog 22 #[.string (T l), .int .i64 ((tx p).length : Nat)] w fun e w' => e = .returned (.int .i64 ((tx (p ++ t.takeWhile blankC)).length : Nat)) ∧ Below w.heap.size w w' := by
  have ht : okL t := okL_right (hpt ▸ hl)
  have HX := hide (suf_at hpt)
  have hz : (tx p).length ≤ (T l).size := by rw [hpt, T_size, tx_len_app]; omega
  have HN : Hid ((T l).size = (tx (p ++ t.takeWhile blankC)).length + (T (t.dropWhile blankC)).size) := by
    refine hide ?_
    rw [T_size, T_size, ← tx_len_app, List.append_assoc, List.takeWhile_append_dropWhile, hpt]
  clear hpt
  generalize (tx p).length = n at *
  go_enter Tryz.func22, Tryz.ntmps22
  go_wp2_with fail
  rw [unhide HX]
  refine (Tryz.strings_TrimLeftFunc_runes 40 #[] isBlank_enters blankN (T t) _ (isBlank_runes _)).mono ?_
  rintro e w1 ⟨rfl, hb1⟩
  rw [trim_T ht]
  have hle : (T (t.dropWhile blankC)).size ≤ (T l).size := by have := unhide HN; omega
  go_wp2
  go_ret
  refine ⟨ret_int ?_, hb1⟩
  have := unhide HN
  omega
def plV (pl : Bool) : Value := .int .i64 (if pl then 1 else 0)
/-- What wordToken tells. -/
def wordV (o : Option Nat) (w : List Nat) : Value := match o with
  | some k => .tuple #[.agg #[.int .i64 (k : Nat), .string (T w), .int .i64 0], .int .i64 ((T w).size : Nat)]
  | none => .tuple #[.agg #[.int .i64 0, .string ⟨#[]⟩, .int .i64 0], .int .i64 0]
theorem ret_word {o p : Option Nat} {w : List Nat} {v : Value} (h : o = p) (hv : v = wordV p w) : Ending.returned v = .returned (wordV o w) := by rw [h, hv]
end Go.Proofs.YthkkfldmoflfaaaGreatDoor
/- A token in memory. -/
namespace Go.Proofs.YthkkfldmoflfaaaGreatDoor
open Go.RowKit
structure LexAt (w : World) (b : Nat) (k : Int) (x : ByteArray) (a : Int) : Prop where
  c0 : w.cell? ⟨b, 0, none⟩ = some (.int .i64 k)
  c1 : w.cell? ⟨b, 1, none⟩ = some (.string x)
  c2 : w.cell? ⟨b, 2, none⟩ = some (.int .i64 a)
  o0 : w.frozen? ⟨b, 0, none⟩ = false
  o1 : w.frozen? ⟨b, 1, none⟩ = false
  o2 : w.frozen? ⟨b, 2, none⟩ = false
theorem LexAt.below {w w' : World} {b : Nat} {k a : Int} {x : ByteArray} (h : LexAt w b k x a) (hb : Below w.heap.size w w') : LexAt w' b k x a :=
  ⟨kept_cell hb h.c0, kept_cell hb h.c1, kept_cell hb h.c2, kept_open hb h.c0 h.o0, kept_open hb h.c1 h.o1, kept_open hb h.c2 h.o2⟩
theorem LexAt.new (w : World) (k a : Int) (x : ByteArray) (t : TypeId) : LexAt (w.alloc (.cells #[.int .i64 k, .string x, .int .i64 a] t)) w.heap.size k x a := by
  refine ⟨?_, ?_, ?_, ?_, ?_, ?_⟩
  all_goals simp [go_sem]
end Go.Proofs.YthkkfldmoflfaaaGreatDoor
/- What a word is, by what stands behind it: xplex's wordToken. -/
namespace Go.Proofs.YthkkfldmoflfaaaGreatDoor
open Go.RowKit
theorem okL_dropWhile {l : List Nat} (h : okL l) (p : Nat → Bool) : okL (l.dropWhile p) := fun c hc => h c ((List.dropWhile_sublist _).subset hc)
theorem wordK_op {x b : List Nat} (h : opWord x = true) : wordK x b true = some 8 := by unfold wordK; rw [if_pos rfl, if_pos h]
theorem wordK_no {x b : List Nat} (h : opWord x = false) : wordK x b true = none := by unfold wordK; rw [if_pos rfl, if_neg (by rw [h]; decide)]
theorem wordK_type {x b : List Nat} (h : heads 40 (b.dropWhile blankC) = true) (ht : typeWord x = true) : wordK x b false = some 5 := by
  unfold wordK; rw [if_neg (by decide), h, ht, Bool.and_self, if_pos rfl]
theorem wordK_fun {x b : List Nat} (h : heads 40 (b.dropWhile blankC) = true) (ht : typeWord x = false) (hq : isQ x = true) : wordK x b false = some 4 := by
  unfold wordK; rw [if_neg (by decide), h, ht, hq, Bool.and_false, if_neg (by decide), Bool.and_self, if_pos rfl]
theorem wordK_rest {x b : List Nat} (h : heads 40 (b.dropWhile blankC) = true → typeWord x = false ∧ isQ x = false) : wordK x b false = if [58, 58].isPrefixOf (b.dropWhile blankC) && isNm x then some 6 else some 3 := by
  unfold wordK
  rw [if_neg (by decide)]
  cases hh : heads 40 (b.dropWhile blankC)
  · rw [Bool.false_and, if_neg (by decide), Bool.false_and, if_neg (by decide)]
  · obtain ⟨h1, h2⟩ := h hh
    rw [h1, h2, Bool.and_false, if_neg (by decide), if_neg (by decide)]
theorem pre_heads {l : List Nat} (h : heads 40 l = true) : [58, 58].isPrefixOf l = false := by rw [heads_true h]; rfl
/-- Where wordToken jumps to: a token of none is told. -/
abbrev jumpsW (w : World) (a : Act) (w' : World) : Prop := ∃ (u0 u1 u2 u8 u9 u10 u11 u12 u13 u14 u15 u16 u17 u18 u19 u20 : Value), a = { tmps := #[u0, u1, u2, undef, undef, undef, .pointer (some ⟨w.heap.size, 0, none⟩), .int .i64 0, u8, u9, u10, u11, u12, u13, u14, u15, u16, u17, u18, u19, u20,
  undef, undef, undef, undef, undef, undef, undef, undef, undef, undef, undef, undef, undef, undef, undef, undef, undef, undef, undef, undef, undef, undef, undef, undef, undef, undef, undef, undef, undef, undef], defers := [] } ∧ LexAt w' w.heap.size 0 ⟨#[]⟩ 0 ∧ Below w.heap.size w w'
set_option maxHeartbeats 4000000 in
theorem wordToken_any (x b : List Nat) (pl : Bool) (w : World) (hx : okL x) (hb : okL b) (hsx : (T x).size ≤ 512) (hsb : (T b).size ≤ 512) (hE : Env w) :
    Calls Tryz.prog 45 #[.string (T x), .string (T b), plV pl] w fun e w' => e = .returned (wordV (wordK x b pl) x) ∧ Below w.heap.size w w' := by
  have HE := hide hE
  clear hE
  have hod := okL_dropWhile hb blankC
  have HD : Hid ((T b).extract (tx (b.takeWhile blankC)).length (T b).size = T (b.dropWhile blankC)) := hide (suf_at (List.takeWhile_append_dropWhile).symm)
  have hz : (tx (b.takeWhile blankC)).length ≤ (T b).size := size_pre (List.takeWhile_prefix _)
  have hw1 : Below w.heap.size w (w.alloc (.cells #[.int .i64 0, .string .empty, .int .i64 0] 62)) := (Below.refl _ _).alloc (Nat.le_refl _) _
  have hpb := fun W => pastBlanks_any b [] b W rfl hb (by omega)
  have HPB := hide hpb
  clear hpb
  have hn1 := LexAt.new w 0 0 ⟨#[]⟩ 62
  have HN1 := hide hn1
  clear hn1
  go_enter Tryz.func45, Tryz.ntmps45
  cases pl
  · unfold plV
    rw [if_neg (by decide)]
    go_wp2_with fail
    go_step3
    go_wp2_with fail
    refine (unhide HPB _).mono ?_
    rintro e w2 ⟨rfl, hb2⟩
    rw [List.nil_append]
    have hbb := Below.then hw1 hb2
    have hn2 := (unhide HN1).below hb2
    have HN2 := hide hn2
    obtain ⟨c0, c1, c2, o0, o1, o2⟩ := hn2
    cases h4 : heads 40 (b.dropWhile blankC)
    · have H4 := hide h4
      clear h4
      go_wp2_with fail
      rw [unhide HD]
      refine (hasPrefix_T [40] _ rfl (by decide) _ hod _).mono ?_
      rintro e w3 ⟨rfl, rfl⟩
      rw [isPre_one, unhide H4]
      go_wp2_with fail
      refine (hasPrefix_T [40] _ rfl (by decide) _ hod _).mono ?_
      rintro e w3 ⟨rfl, rfl⟩
      rw [isPre_one, unhide H4]
      cases hc : [58, 58].isPrefixOf (b.dropWhile blankC)
      · have HC := hide hc
        clear hc
        go_wp2_with fail
        refine (hasPrefix_T [58, 58] _ rfl (by decide) _ hod _).mono ?_
        rintro e w3 ⟨rfl, rfl⟩
        rw [unhide HC]
        go_wp2
        rw [Exit.noGoto_ret]
        refine bodyPost_ret (v := wordV (some 3) x) (by simp [results, Tryz.results45, go_sem, wordV, c0, c1, c2]) rfl ?_
        exact ⟨ret_word (by rw [wordK_rest (fun h => by rw [unhide H4] at h; cases h), unhide HC, Bool.false_and, if_neg (by decide)]) rfl, ((hbb.setCell (Nat.le_refl _) _).setCell (Nat.le_refl _) _).setCell (Nat.le_refl _) _⟩
      · have HC := hide hc
        clear hc
        cases hn : isNm x
        all_goals
          have HN := hide hn
          clear hn
          go_wp2_with fail
          refine (hasPrefix_T [58, 58] _ rfl (by decide) _ hod _).mono ?_
          rintro e w3 ⟨rfl, rfl⟩
          rw [unhide HC]
          go_wp2_with fail
          refine (isName_T x hx (by omega) _ ((unhide HE).below hbb)).mono ?_
          rintro e w4 ⟨rfl, hb4⟩
          rw [unhide HN]
          have hbb4 := Below.then hbb hb4
          clear c0 c1 c2 o0 o1 o2
          obtain ⟨c0, c1, c2, o0, o1, o2⟩ := (unhide HN2).below hb4
        · go_wp2
          rw [Exit.noGoto_ret]
          refine bodyPost_ret (v := wordV (some 3) x) (by simp [results, Tryz.results45, go_sem, wordV, c0, c1, c2]) rfl ?_
          exact ⟨ret_word (by rw [wordK_rest (fun h => by rw [unhide H4] at h; cases h), unhide HC, unhide HN, Bool.and_false, if_neg (by decide)]) rfl, ((hbb4.setCell (Nat.le_refl _) _).setCell (Nat.le_refl _) _).setCell (Nat.le_refl _) _⟩
        · go_wp2
          rw [Exit.noGoto_ret]
          refine bodyPost_ret (v := wordV (some 6) x) (by simp [results, Tryz.results45, go_sem, wordV, c0, c1, c2]) rfl ?_
          exact ⟨ret_word (by rw [wordK_rest (fun h => by rw [unhide H4] at h; cases h), unhide HC, unhide HN, Bool.and_self, if_pos rfl]) rfl, ((hbb4.setCell (Nat.le_refl _) _).setCell (Nat.le_refl _) _).setCell (Nat.le_refl _) _⟩
    · have H4 := hide h4
      have HC := hide (pre_heads h4)
      clear h4
      go_wp2_with fail
      rw [unhide HD]
      refine (hasPrefix_T [40] _ rfl (by decide) _ hod _).mono ?_
      rintro e w3 ⟨rfl, rfl⟩
      rw [isPre_one, unhide H4]
      cases ht : typeWord x
      · have HT := hide ht
        clear ht
        go_wp2_with fail
        refine (isType_any x _ hx).mono ?_
        rintro e w3 ⟨rfl, rfl⟩
        rw [unhide HT]
        go_wp2_with fail
        refine (hasPrefix_T [40] _ rfl (by decide) _ hod _).mono ?_
        rintro e w3 ⟨rfl, rfl⟩
        rw [isPre_one, unhide H4]
        cases hq : isQ x
        all_goals
          have HQ := hide hq
          clear hq
          go_wp2_with fail
          refine (isQName_any x _ hx (by omega) ((unhide HE).below hbb)).mono ?_
          rintro e w4 ⟨rfl, hb4⟩
          rw [unhide HQ]
          have hbb4 := Below.then hbb hb4
          clear c0 c1 c2 o0 o1 o2
          obtain ⟨c0, c1, c2, o0, o1, o2⟩ := (unhide HN2).below hb4
        · go_wp2_with fail
          refine (hasPrefix_T [58, 58] _ rfl (by decide) _ hod _).mono ?_
          rintro e w3 ⟨rfl, rfl⟩
          rw [unhide HC]
          go_wp2
          rw [Exit.noGoto_ret]
          refine bodyPost_ret (v := wordV (some 3) x) (by simp [results, Tryz.results45, go_sem, wordV, c0, c1, c2]) rfl ?_
          exact ⟨ret_word (by rw [wordK_rest (fun _ => ⟨unhide HT, unhide HQ⟩), unhide HC, Bool.false_and, if_neg (by decide)]) rfl, ((hbb4.setCell (Nat.le_refl _) _).setCell (Nat.le_refl _) _).setCell (Nat.le_refl _) _⟩
        · go_wp2
          rw [Exit.noGoto_ret]
          refine bodyPost_ret (v := wordV (some 4) x) (by simp [results, Tryz.results45, go_sem, wordV, c0, c1, c2]) rfl ?_
          exact ⟨ret_word (wordK_fun (unhide H4) (unhide HT) (unhide HQ)) rfl, ((hbb4.setCell (Nat.le_refl _) _).setCell (Nat.le_refl _) _).setCell (Nat.le_refl _) _⟩
      · have HT := hide ht
        clear ht
        go_wp2_with fail
        refine (isType_any x _ hx).mono ?_
        rintro e w3 ⟨rfl, rfl⟩
        rw [unhide HT]
        go_wp2
        rw [Exit.noGoto_ret]
        refine bodyPost_ret (v := wordV (some 5) x) (by simp [results, Tryz.results45, go_sem, wordV, c0, c1, c2]) rfl ?_
        exact ⟨ret_word (wordK_type (unhide H4) (unhide HT)) rfl, ((hbb.setCell (Nat.le_refl _) _).setCell (Nat.le_refl _) _).setCell (Nat.le_refl _) _⟩
  · unfold plV
    rw [if_pos rfl]
    cases ho : opWord x
    · have HO := hide ho
      clear ho
      go_wp2_with fail
      refine wp_scope_jumps 0 (jumpsW w) (fun _ _ => 0) rfl ?_ ?_
      · go_wp2_with fail
        refine (unhide HPB _).mono ?_
        rintro e w2 ⟨rfl, hb2⟩
        rw [List.nil_append]
        have hbb := Below.then hw1 hb2
        go_wp2_with fail
        refine (isOperator_any x _ hx).mono ?_
        rintro e w3 ⟨rfl, rfl⟩
        rw [unhide HO]
        go_wp2_with fail
        go_step3
        exact ⟨rfl, _, _, _, _, _, _, _, _, _, _, _, _, _, _, _, _, rfl, (unhide HN1).below hb2, hbb⟩
      · rintro a w' ⟨u0, u1, u2, u8, u9, u10, u11, u12, u13, u14, u15, u16, u17, u18, u19, u20, rfl, hlx, hbb⟩
        obtain ⟨c0, c1, c2, o0, o1, o2⟩ := hlx
        go_wp2_with fail
        change bodyPost Tryz.prog Tryz.f45 (fun e w2 => e = Ending.returned (wordV (wordK x b true) x) ∧ Below w.heap.size w w2) Exit.ret _ _
        refine bodyPost_ret (v := wordV none x) (by simp [results, Tryz.results45, go_sem, wordV, c0, c1, c2]) rfl ?_
        exact ⟨ret_word (wordK_no (unhide HO)) rfl, ((hbb.setCell (Nat.le_refl _) _).setCell (Nat.le_refl _) _).setCell (Nat.le_refl _) _⟩
    · have HO := hide ho
      clear ho
      go_wp2_with fail
      go_step3
      go_wp2_with fail
      refine (unhide HPB _).mono ?_
      rintro e w2 ⟨rfl, hb2⟩
      rw [List.nil_append]
      have hbb := Below.then hw1 hb2
      have hn2 := (unhide HN1).below hb2
      have HN2 := hide hn2
      obtain ⟨c0, c1, c2, o0, o1, o2⟩ := hn2
      go_wp2_with fail
      refine (isOperator_any x _ hx).mono ?_
      rintro e w3 ⟨rfl, rfl⟩
      rw [unhide HO]
      go_wp2
      rw [Exit.noGoto_ret]
      refine bodyPost_ret (v := wordV (some 8) x) (by simp [results, Tryz.results45, go_sem, wordV, c0, c1, c2]) rfl ?_
      exact ⟨ret_word (wordK_op (unhide HO)) rfl, ((hbb.setCell (Nat.le_refl _) _).setCell (Nat.le_refl _) _).setCell (Nat.le_refl _) _⟩
end Go.Proofs.YthkkfldmoflfaaaGreatDoor
