/- The reference's Literal and Join. -/
import Derived.Test.YtgabgeadeeaihaaDoorLexJoin
namespace Go.Proofs.YtgabgeadeeaihaaDoor
open Go.RowKit
theorem contains_take (s : ByteArray) (c : UInt8) (k : Nat) (h : k < s.size) : (s.data.toList.take (k + 1)).contains c = ((s.data.toList.take k).contains c || (((s[k]'h).toNat : Int) == (c.toNat : Int))) := by
  have hk : k < s.data.toList.length := h
  rw [List.take_succ_eq_append_getElem hk, Bool.eq_iff_iff]
  have e : s.data.toList[k]'hk = s[k]'h := rfl
  rw [e]
  simp only [List.contains_iff_mem, List.mem_append, List.mem_singleton, Bool.or_eq_true, beq_iff_eq]
  constructor
  · rintro (h | rfl)
    · exact .inl h
    · exact .inr rfl
  · rintro (h | h)
    · exact .inl h
    · exact .inr (UInt8.toNat_inj.1 (by omega))
set_option maxHeartbeats 1000000 in
theorem refLiteral_any (s : ByteArray) (w : World) (hs : s.size ≤ 2000000) :
    Calls Tryd.prog 10 #[.string s] w fun e w' => e = .returned (litV s) ∧ w' = w := by
  have hq : ∀ q : UInt8, (⟨#[q]⟩ : ByteArray).size = 1 := fun _ => rfl
  have HV : Hid (litV s = match (if s.data.toList.contains 34 then (if s.data.toList.contains 39 then none else some 39) else some 34 : Option UInt8) with
    | some q => .tuple #[.string (quoted q s), .int .i64 0] | none => .tuple #[.string ⟨#[]⟩, .int .i64 9]) := hide rfl
  go_enter Tryd.func10, Tryd.ntmps10
  go_wp2_with fail
  go_loop [4, 5, 6] (fun a b i => ∃ k : Nat, i = .int .i64 (k : Nat) ∧ k ≤ s.size ∧ ∃ x y, a = .bool x ∧ b = .bool y ∧ Hid (x = (s.data.toList.take k).contains 34) ∧ Hid (y = (s.data.toList.take k).contains 39)) (fun _ _ i => s.size - (intOf i).toNat)
  case atStart => exact ⟨0, rfl, Nat.zero_le _, _, _, rfl, rfl, hide rfl, hide rfl⟩
  case round =>
    obtain ⟨k, rfl, hk, x, y, rfl, rfl, HX, HY⟩ := hrel
    by_cases hlt : k < s.size
    · have h34 := contains_take s 34 k hlt
      have h39 := contains_take s 39 k hlt
      rw [← unhide HX, show (((34 : UInt8).toNat : Nat) : Int) = 34 from rfl] at h34
      rw [← unhide HY, show (((39 : UInt8).toNat : Nat) : Int) = 39 from rfl] at h39
      have H34 := hide h34
      have H39 := hide h39
      clear h34 h39
      have n2 : (k : Int) < (s.size : Int) := by omega
      cases x <;> cases y
      all_goals
        go_wp2
        refine ⟨⟨k + 1, by go_num, by omega, _, _, rfl, rfl, hide ?_, hide ?_⟩, by simp [intOf]; omega⟩
        · rw [unhide H34]
          simp
        · rw [unhide H39]
          simp
    · obtain rfl : k = s.size := by omega
      have hx := unhide HX
      have hy := unhide HY
      have ht : s.data.toList.take s.size = s.data.toList := List.take_of_length_le (Nat.le_refl _)
      rw [ht] at hx hy
      have H34 := hide hx.symm
      have H39 := hide hy.symm
      clear hx hy ht
      cases x
      · cases y
        all_goals
          go_wp2
          go_ret2
          refine ⟨?_, rfl⟩
          rw [unhide HV, unhide H34]
          rfl
      · cases y
        · go_wp2
          go_ret2
          refine ⟨?_, rfl⟩
          rw [unhide HV, unhide H34, unhide H39]
          rfl
        · go_wp2
          go_ret2
          refine ⟨?_, rfl⟩
          rw [unhide HV, unhide H34, unhide H39]
          rfl
/-- Joined so far, as the reference has it. -/
def joinK (ls : Lexs) (k : Nat) : List UInt8 := joinP (ls.take k)
theorem intercalate_snoc (sep : List UInt8) : ∀ (xs : List (List UInt8)) (x : List UInt8), xs ≠ [] → sep.intercalate (xs ++ [x]) = sep.intercalate xs ++ sep ++ x
  | [], _, h => absurd rfl h
  | [a], x, _ => by simp [List.intercalate]
  | a :: b :: xs, x, _ => by
    have ih := intercalate_snoc sep (b :: xs) x (by simp)
    simp only [List.intercalate, List.cons_append, List.intersperse] at ih ⊢
    simp only [List.flatten_cons] at ih ⊢
    rw [show (b :: (xs ++ [x])) = (b :: xs) ++ [x] from rfl] at *
    simp_all [List.append_assoc]
theorem joinK_succ (ls : Lexs) (k : Nat) (x : Int × ByteArray × Int) (h : ls[k]? = some x) : joinK ls (k + 1) = joinK ls k ++ (if k = 0 then [] else [32]) ++ (txtOf x.1 x.2.1).data.toList := by
  have hk : k < ls.length := (List.getElem?_eq_some_iff.1 h).1
  have hx : ls[k] = x := (List.getElem?_eq_some_iff.1 h).2
  unfold joinK joinP
  rw [List.take_succ_eq_append_getElem hk, hx, List.map_append]
  by_cases h0 : k = 0
  · subst h0
    simp [Lib.join, List.intercalate]
  · rw [if_neg h0]
    unfold Lib.join
    rw [List.map_singleton, intercalate_snoc]
    intro e
    have := congrArg List.length e
    rw [List.length_map, List.length_take, List.length_nil, Nat.min_eq_left (Nat.le_of_lt hk)] at this
    exact h0 this
theorem joinK_all (ls : Lexs) : joinK ls ls.length = joinP ls := by unfold joinK; rw [List.take_length]
theorem bytes_app (a : List UInt8) (x : ByteArray) : (⟨a.toArray⟩ : ByteArray) ++ x = ⟨(a ++ x.data.toList).toArray⟩ := by
  apply ByteArray.ext
  rw [ByteArray.data_append]
  simp
set_option maxRecDepth 100000 in
set_option maxHeartbeats 2000000 in
theorem refJoin_any (ls : Lexs) (ad : Option Addr) (cap : Nat) (w : World) (hat : ls ≠ [] → ∃ g o, ad = some ⟨g, o, none⟩ ∧ LexsAt w g o ls) (hn : ls.length ≤ 2000000) (hx : ∀ x ∈ ls, x.2.1.size ≤ 2000000) (hj : ∀ k, (joinK ls k).length ≤ 2000000000000) :
    Calls Tryd.prog 13 #[.slice ad ls.length cap] w fun e w' => e = .returned (.string ⟨(joinP ls).toArray⟩) ∧ w' = w := by
  have hq : ∀ q : UInt8, (⟨#[q]⟩ : ByteArray).size = 1 := fun _ => rfl
  have HA := hide hat
  have HX := hide hx
  have HJ := hide hj
  clear hat hx hj
  go_enter Tryd.func13, Tryd.ntmps13
  go_wp2_with fail
  go_loop [3, 4] (fun t i => ∃ k : Nat, i = .int .i64 (k : Nat) ∧ k ≤ ls.length ∧ ∃ o : ByteArray, t = .string o ∧ Hid (o = ⟨(joinK ls k).toArray⟩)) (fun _ i => ls.length - (intOf i).toNat)
  case atStart => exact ⟨0, rfl, Nat.zero_le _, _, rfl, hide rfl⟩
  case round =>
    obtain ⟨k, rfl, hk, o, rfl, HO⟩ := hrel
    have hoz : o.size ≤ 2000000000000 := by rw [unhide HO]; exact unhide HJ k
    by_cases hlt : k < ls.length
    · obtain ⟨x, hx⟩ : ∃ x, ls[k]? = some x := ⟨ls[k], List.getElem?_eq_getElem hlt⟩
      obtain ⟨g, of, rfl, hat⟩ := unhide HA (by intro e; rw [e] at hlt; exact absurd hlt (by simp))
      have hxs := unhide HX x (List.mem_of_getElem? hx)
      obtain ⟨c0, c1, c2⟩ := hat k x hx
      have HK := hide (joinK_succ ls k x hx)
      obtain ⟨xk, xx, xa⟩ := x
      simp only at c0 c1 c2 hxs
      have n1 : (0 : Int) ≤ (k : Int) := by omega
      have n2 : (k : Int) < (ls.length : Int) := by omega
      have htl := txtOf_le xk xx
      have HT : Hid (txtOf xk xx = if xk = 2 then (match litQ xx.data.toList with | some q => quoted q xx | none => quoted 34 xx) else if xk = 7 then ⟨#[36]⟩ ++ xx else xx) := hide rfl
      clear hx hat c2
      by_cases h2 : xk = 2
      · subst h2
        cases hl : litQ xx.data.toList with
        | none =>
          have HV : Hid (litV xx = .tuple #[.string ⟨#[]⟩, .int .i64 9]) := hide (by unfold litV; rw [hl])
          have HT2 : Hid (⟨#[34]⟩ ++ xx ++ ⟨#[34]⟩ = txtOf 2 xx) := hide (by rw [unhide HT, if_pos rfl, hl]; rfl)
          have F0 : Hid (k = 0 → o ++ (⟨#[34]⟩ ++ xx ++ ⟨#[34]⟩) = ⟨(joinK ls (k + 1)).toArray⟩) := hide fun h0 => by rw [unhide HO, unhide HK, if_pos h0, List.append_nil, bytes_app, ← unhide HT2]
          have F1 : Hid (¬ k = 0 → o ++ ⟨#[32]⟩ ++ (⟨#[34]⟩ ++ xx ++ ⟨#[34]⟩) = ⟨(joinK ls (k + 1)).toArray⟩) := hide fun h0 => by rw [unhide HO, unhide HK, if_neg h0, bytes_app, bytes_app, ← unhide HT2]
          clear hl
          by_cases h0 : k = 0
          · have hk0 : ¬ (0 : Int) < (k : Int) := by omega
            have H0 := hide h0
            clear h0
            go_wp2_with fail
            refine (refLiteral_any xx _ hxs).mono ?_
            rintro e w1 ⟨rfl, rfl⟩
            rw [unhide HV]
            go_wp2
            exact ⟨⟨k + 1, by go_num, by omega, _, rfl, hide (unhide F0 (unhide H0))⟩, by simp [intOf]; omega⟩
          · have hk0 : (0 : Int) < (k : Int) := by omega
            go_wp2_with fail
            refine (refLiteral_any xx _ hxs).mono ?_
            rintro e w1 ⟨rfl, rfl⟩
            rw [unhide HV]
            go_wp2
            exact ⟨⟨k + 1, by go_num, by omega, _, rfl, hide (unhide F1 h0)⟩, by simp [intOf]; omega⟩
        | some q =>
          have HV : Hid (litV xx = .tuple #[.string (quoted q xx), .int .i64 0]) := hide (by unfold litV; rw [hl])
          have HT2 : Hid (quoted q xx = txtOf 2 xx) := hide (by rw [unhide HT, if_pos rfl, hl])
          have hqz := quoted_size q xx
          have HQZ := hide hqz
          have F0 : Hid (k = 0 → o ++ quoted q xx = ⟨(joinK ls (k + 1)).toArray⟩) := hide fun h0 => by rw [unhide HO, unhide HK, if_pos h0, List.append_nil, bytes_app, ← unhide HT2]
          have F1 : Hid (¬ k = 0 → o ++ ⟨#[32]⟩ ++ quoted q xx = ⟨(joinK ls (k + 1)).toArray⟩) := hide fun h0 => by rw [unhide HO, unhide HK, if_neg h0, bytes_app, bytes_app, ← unhide HT2]
          clear hl hqz
          have hqz2 : (quoted q xx).size ≤ 2000002 := by have := unhide HQZ; omega
          generalize quoted q xx = qx at *
          by_cases h0 : k = 0
          · have hk0 : ¬ (0 : Int) < (k : Int) := by omega
            have H0 := hide h0
            clear h0
            go_wp2_with fail
            refine (refLiteral_any xx _ hxs).mono ?_
            rintro e w1 ⟨rfl, rfl⟩
            rw [unhide HV]
            go_wp2
            exact ⟨⟨k + 1, by go_num, by omega, _, rfl, hide (unhide F0 (unhide H0))⟩, by simp [intOf]; omega⟩
          · have hk0 : (0 : Int) < (k : Int) := by omega
            go_wp2_with fail
            refine (refLiteral_any xx _ hxs).mono ?_
            rintro e w1 ⟨rfl, rfl⟩
            rw [unhide HV]
            go_wp2
            exact ⟨⟨k + 1, by go_num, by omega, _, rfl, hide (unhide F1 h0)⟩, by simp [intOf]; omega⟩
      · by_cases h7 : xk = 7
        · subst h7
          have HT2 : Hid (⟨#[36]⟩ ++ xx = txtOf 7 xx) := hide rfl
          have F0 : Hid (k = 0 → o ++ (⟨#[36]⟩ ++ xx) = ⟨(joinK ls (k + 1)).toArray⟩) := hide fun h0 => by rw [unhide HO, unhide HK, if_pos h0, List.append_nil, bytes_app, ← unhide HT2]
          have F1 : Hid (¬ k = 0 → o ++ ⟨#[32]⟩ ++ (⟨#[36]⟩ ++ xx) = ⟨(joinK ls (k + 1)).toArray⟩) := hide fun h0 => by rw [unhide HO, unhide HK, if_neg h0, bytes_app, bytes_app, ← unhide HT2]
          by_cases h0 : k = 0
          · have hk0 : ¬ (0 : Int) < (k : Int) := by omega
            have H0 := hide h0
            clear h0
            go_wp2
            exact ⟨⟨k + 1, by go_num, by omega, _, rfl, hide (unhide F0 (unhide H0))⟩, by simp [intOf]; omega⟩
          · have hk0 : (0 : Int) < (k : Int) := by omega
            go_wp2
            exact ⟨⟨k + 1, by go_num, by omega, _, rfl, hide (unhide F1 h0)⟩, by simp [intOf]; omega⟩
        · have g2 : (xk == 2) = false := by simpa using h2
          have g7 : (xk == 7) = false := by simpa using h7
          have HT2 : Hid (xx = txtOf xk xx) := hide (by rw [unhide HT, if_neg h2, if_neg h7])
          have F0 : Hid (k = 0 → o ++ xx = ⟨(joinK ls (k + 1)).toArray⟩) := hide fun h0 => by rw [unhide HO, unhide HK, if_pos h0, List.append_nil, bytes_app, ← unhide HT2]
          have F1 : Hid (¬ k = 0 → o ++ ⟨#[32]⟩ ++ xx = ⟨(joinK ls (k + 1)).toArray⟩) := hide fun h0 => by rw [unhide HO, unhide HK, if_neg h0, bytes_app, bytes_app, ← unhide HT2]
          by_cases h0 : k = 0
          · have hk0 : ¬ (0 : Int) < (k : Int) := by omega
            have H0 := hide h0
            clear h0
            go_wp2
            exact ⟨⟨k + 1, by go_num, by omega, _, rfl, hide (unhide F0 (unhide H0))⟩, by simp [intOf]; omega⟩
          · have hk0 : (0 : Int) < (k : Int) := by omega
            go_wp2
            exact ⟨⟨k + 1, by go_num, by omega, _, rfl, hide (unhide F1 h0)⟩, by simp [intOf]; omega⟩
    · obtain rfl : k = ls.length := by omega
      go_wp2
      go_ret
      exact ⟨ret_str (by rw [unhide HO, joinK_all]), rfl⟩
end Go.Proofs.YtgabgeadeeaihaaDoor
