/- The string, the word that a text begins with, and which word is what: xplex's functions. -/
import Derived.Test.YtgabgeadeeaihaaDoorLexWord
import Derived.Test.YtgabgeadeeaihaaDoorRefSplit
namespace Go.Proofs.YtgabgeadeeaihaaDoor
open Go.RowKit
def strAny (l : List Nat) : Option (List Nat) := match strAt 34 l with | some t => some t | none => strAt 39 l
/-- What stringAhead tells: a text, and whether it is ended. -/
def strV (o : Option (List Nat)) (e : Ending) : Prop := ∃ x b, e = .returned (.tuple #[.string x, .bool b]) ∧ ((∃ t, o = some t ∧ x = T t ∧ b = true) ∨ (o = none ∧ b = false))
theorem strAt_of {q : Nat} {l : List Nat} : strAt q l = if heads q l && l.tail.contains q then some (l.tail.takeWhile (· != q)) else none := rfl
theorem strAt_none {q : Nat} {l : List Nat} (h : heads q l = false) : strAt q l = none := by rw [strAt_of, h, Bool.false_and, if_neg (by decide)]
theorem heads_one {q r : Nat} {l : List Nat} (h : heads q l = true) (hq : r ≠ q) : heads r l = false := by
  rw [heads_true h, heads_cons]; simpa using hq.symm
def cutB (q : Nat) (l : List Nat) : Bool := l.contains q
def cutW (q : Nat) (l : List Nat) : List Nat := if l.contains q then l.takeWhile (· != q) else l
theorem cut_sign (q : Nat) (u : UInt8) (hu : u = UInt8.ofNat q) (hq : q < 128) (l : List Nat) (hl : okL l) (hs : (T l).size ≤ 512) (w : World) (hE : Env w) :
    Calls Tryd.prog 56 #[.string (T l), .string ⟨#[u]⟩] w fun e w' => (∃ y, e = .returned (.tuple #[.string (T (cutW q l)), .string y, .bool (cutB q l)])) ∧ Below w.heap.size w w' := by
  subst hu
  obtain ⟨m, hm⟩ := hE.len
  refine (Tryd.strings_Cut (T l) ⟨#[UInt8.ofNat q]⟩ m w (by omega) hm).mono ?_
  rintro e w' ⟨rfl, nd, rfl⟩
  refine ⟨?_, below_drewN w nd⟩
  rw [T_data, show (⟨#[UInt8.ofNat q]⟩ : ByteArray).data.toList = [UInt8.ofNat q] from rfl, cut_tx hq hl]
  unfold cutW cutB
  cases l.contains q
  · exact ⟨_, rfl⟩
  · exact ⟨_, rfl⟩
set_option maxHeartbeats 1000000 in
theorem stringAhead_any (l : List Nat) (w : World) (hl : okL l) (hs : (T l).size ≤ 512) (hE : Env w) :
    Calls Tryd.prog 41 #[.string (T l)] w fun e w' => strV (strAny l) e ∧ Below w.heap.size w w' := by
  have HE := hide hE
  clear hE
  have hst : ∀ q, q < 128 → heads q l = true → (T l.tail).size ≤ 512 := by
    intro q hq hh
    have h1 : (T l).size = 1 + (T l.tail).size := by
      conv => lhs; rw [heads_true hh]
      exact sz_cons hq _
    omega
  have HT := hide hst
  clear hst
  have i0 : ∀ w, (Instr.index 40 (.agg #[.string ⟨#[34]⟩, .string ⟨#[39]⟩]) (.int .i64 0)).run Tryd.prog w = .ok (.string ⟨#[34]⟩) w := fun _ => by kernel_rfl
  have i1 : ∀ w, (Instr.index 40 (.agg #[.string ⟨#[34]⟩, .string ⟨#[39]⟩]) (.int .i64 1)).run Tryd.prog w = .ok (.string ⟨#[39]⟩) w := fun _ => by kernel_rfl
  go_enter Tryd.func41, Tryd.ntmps41
  go_wp2_with fail
  refine wp_loop_rounds 3 ?_
  rw [rounds_succ]
  go_wp2_with fail
  refine (cutPrefix_one 34 34 rfl (by decide) l hl _).mono ?_
  rintro e w2 ⟨rfl, rfl⟩
  cases hh : heads 34 l
  · have HH := hide hh
    clear hh
    rw [if_neg (by decide)]
    go_wp2_with fail
    rw [rounds_succ]
    go_wp2_with fail
    refine (cutPrefix_one 39 39 rfl (by decide) l hl _).mono ?_
    rintro e w2 ⟨rfl, rfl⟩
    cases hh : heads 39 l
    · have HH2 := hide hh
      clear hh
      rw [if_neg (by decide)]
      go_wp2_with fail
      rw [rounds_succ]
      go_wp2
      go_ret2
      refine ⟨⟨_, _, rfl, .inr ⟨?_, rfl⟩⟩, Below.refl _ _⟩
      unfold strAny
      rw [strAt_none (unhide HH), strAt_none (unhide HH2)]
    · have HH2 := hide hh
      clear hh
      rw [if_pos rfl]
      go_wp2_with fail
      refine (cut_sign 39 39 rfl (by decide) l.tail (okL_tl hl) (unhide HT 39 (by decide) (unhide HH2)) _ (unhide HE)).mono ?_
      rintro e w3 ⟨⟨y, rfl⟩, hb⟩
      go_wp2
      go_ret2
      refine ⟨⟨_, _, rfl, ?_⟩, hb⟩
      unfold strAny
      rw [strAt_none (unhide HH), strAt_of, unhide HH2, Bool.true_and]
      unfold cutW cutB
      cases hc : l.tail.contains 39
      · exact .inr ⟨rfl, rfl⟩
      · exact .inl ⟨_, rfl, rfl, rfl⟩
  · have HH := hide hh
    clear hh
    rw [if_pos rfl]
    go_wp2_with fail
    refine (cut_sign 34 34 rfl (by decide) l.tail (okL_tl hl) (unhide HT 34 (by decide) (unhide HH)) _ (unhide HE)).mono ?_
    rintro e w3 ⟨⟨y, rfl⟩, hb⟩
    go_wp2
    go_ret2
    refine ⟨⟨_, _, rfl, ?_⟩, hb⟩
    unfold strAny
    rw [strAt_of, unhide HH, Bool.true_and]
    unfold cutW cutB
    cases hc : l.tail.contains 34
    · exact .inr ⟨by rw [if_neg (by decide)]; exact strAt_none (heads_one (unhide HH) (by decide)), rfl⟩
    · exact .inl ⟨_, rfl, rfl, rfl⟩
theorem hasPrefix_T (a : List Nat) (u : ByteArray) (hu : u.data.toList = a.map UInt8.ofNat) (ha : ∀ c ∈ a, c < 128) (l : List Nat) (hl : okL l) (w : World) :
    Calls Tryd.prog 36 #[.string (T l), .string u] w fun e w' => e = .returned (.bool (a.isPrefixOf l)) ∧ w' = w := by
  refine (Tryd.strings_HasPrefix (T l) u w).mono ?_
  rintro e w' ⟨rfl, rfl⟩
  refine ⟨ret_bool ?_, rfl⟩
  rw [T_data, hu, pre_tx a l ha hl]
theorem isName_T (l : List Nat) (hl : okL l) (hs : (T l).size ≤ 4096) (w : World) (hE : Env w) :
    Calls Tryd.prog 58 #[.string (T l)] w fun e w' => e = .returned (.bool (isNm l)) ∧ Below w.heap.size w w' := by
  rw [← nameB_T hl]
  exact isName_any (T l) w (by unfold maxLen; omega) hE
set_option maxHeartbeats 1000000 in
theorem wordAhead_any (l : List Nat) (w : World) (hl : okL l) (hs : (T l).size ≤ 512) (hE : Env w) :
    Calls Tryd.prog 43 #[.string (T l)] w fun e w' => e = .returned (.string (T (wordA l))) ∧ Below w.heap.size w w' := by
  have HE := hide hE
  clear hE
  have hW : wordA l = if heads 42 l then [42] else if isNm (qnameA l) && [58, 42].isPrefixOf (l.drop (qnameA l).length) then qnameA l ++ [58, 42] else qnameA l := rfl
  have HW := hide hW
  clear hW
  have hp := qnameA_pre l
  have hz := size_pre hp
  have HS := hide (suf_drop hp)
  have hod := okL_drop hl (qnameA l).length
  have hon := okL_pre hl hp
  clear hp
  go_enter Tryd.func43, Tryd.ntmps43
  go_wp2_with fail
  refine (hasPrefix_T [42] _ rfl (by decide) l hl _).mono ?_
  rintro e w1 ⟨rfl, rfl⟩
  rw [isPre_one]
  cases hh : heads 42 l
  · have HH := hide hh
    clear hh
    go_wp2_with fail
    refine (qnameAhead_any l _ hl hs).mono ?_
    rintro e w2 ⟨rfl, hb2⟩
    generalize qnameA l = n at *
    generalize l.drop n.length = d at *
    go_wp2_with fail
    refine (isName_T n hon (by omega) _ ((unhide HE).below hb2)).mono ?_
    rintro e w3 ⟨rfl, hb3⟩
    cases hn : isNm n
    · have HN := hide hn
      clear hn
      go_wp2
      go_ret
      refine ⟨ret_str ?_, Below.then hb2 hb3⟩
      rw [unhide HW, unhide HH, if_neg (by decide), unhide HN, Bool.false_and, if_neg (by decide)]
    · have HN := hide hn
      clear hn
      go_wp2_with fail
      rw [unhide HS]
      refine (hasPrefix_T [58, 42] _ rfl (by decide) d hod _).mono ?_
      rintro e w4 ⟨rfl, rfl⟩
      cases hd : [58, 42].isPrefixOf d
      · have HD := hide hd
        clear hd
        go_wp2
        go_ret
        refine ⟨ret_str ?_, Below.then hb2 hb3⟩
        rw [unhide HW, unhide HH, if_neg (by decide), unhide HN, unhide HD, Bool.and_false, if_neg (by decide)]
      · have HD := hide hd
        clear hd
        go_wp2
        go_ret
        refine ⟨ret_str ?_, Below.then hb2 hb3⟩
        rw [unhide HW, unhide HH, if_neg (by decide), unhide HN, unhide HD, Bool.and_self, if_pos rfl, ← T_app]
        rfl
  · have HH := hide hh
    clear hh
    go_wp2
    go_ret
    refine ⟨ret_str ?_, Below.refl _ _⟩
    rw [unhide HW, unhide HH, if_pos rfl]
    rfl
end Go.Proofs.YtgabgeadeeaihaaDoor
