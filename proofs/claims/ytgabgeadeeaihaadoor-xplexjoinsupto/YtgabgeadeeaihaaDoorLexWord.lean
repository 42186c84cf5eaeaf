/- The name, the string, the variable, the word that a text begins with, and which word is what: xplex's functions. -/
import Derived.Test.YtgabgeadeeaihaaDoorLexFacts
namespace Go.Proofs.YtgabgeadeeaihaaDoor
open Go.RowKit
theorem okL_tl {l : List Nat} (h : okL l) : okL l.tail := fun c hc => h c (List.mem_of_mem_tail hc)
set_option maxHeartbeats 1000000 in
theorem qnameAhead_any (l : List Nat) (w : World) (hl : okL l) (hs : (T l).size ≤ 512) :
    Calls Tryd.prog 57 #[.string (T l)] w fun e w' => e = .returned (.string (T (qnameA l))) ∧ Below w.heap.size w w' := by
  have hp := nameA_pre l
  have hz := size_pre hp
  have HS := hide (suf_drop hp)
  have hod := okL_drop hl (nameA l).length
  have hon := okL_pre hl hp
  have HN := hide (qnameA_eq l)
  have hszd : (T (l.drop (nameA l).length)).size ≤ 512 := by
    have := sz_app (nameA l) (l.drop (nameA l).length)
    rw [pre_drop hp] at this
    omega
  clear hp
  generalize l.drop (nameA l).length = d at *
  go_enter Tryd.func57, Tryd.ntmps57
  go_wp2_with fail
  refine (nameAhead_any l _ hl).mono ?_
  rintro e w1 ⟨rfl, hb1⟩
  generalize nameA l = n at *
  go_wp2_with fail
  rw [unhide HS]
  refine (cutPrefix_one 58 58 rfl (by decide) d hod _).mono ?_
  rintro e w2 ⟨rfl, rfl⟩
  cases hh : heads 58 d
  · have HH := hide hh
    clear hh
    rw [if_neg (by decide)]
    go_wp2_with fail
    refine (nameAhead_any d _ hod).mono ?_
    rintro e w3 ⟨rfl, hb3⟩
    go_wp2
    all_goals
      go_ret
      refine ⟨ret_str ?_, Below.then hb1 hb3⟩
      rw [unhide HN, unhide HH, Bool.false_and, Bool.and_false, if_neg (by decide)]
  · have HH := hide hh
    clear hh
    rw [if_pos rfl]
    have hot := okL_tl hod
    have hst : (T d.tail).size ≤ 512 := by
      have h1 : (T d).size = 1 + (T d.tail).size := by
        conv => lhs; rw [heads_true (unhide HH)]
        exact sz_cons (by decide) _
      omega
    go_wp2_with fail
    refine (nameAhead_any d.tail _ hot).mono ?_
    rintro e w3 ⟨rfl, hb3⟩
    have hoy : okL (nameA d.tail) := okL_pre hot (nameA_pre _)
    have hsy : (T (nameA d.tail)).size ≤ 512 := by have := size_pre (nameA_pre d.tail); omega
    generalize nameA d.tail = y at *
    by_cases hn : n = []
    · have h1 := nil_T hn
      have HY := hide hn
      clear hn
      go_wp2
      go_ret
      refine ⟨ret_str ?_, Below.then hb1 hb3⟩
      rw [unhide HN, unhide HY, List.isEmpty_nil, Bool.not_true, Bool.false_and, if_neg (by decide)]
    · have h1 := ne_T hon hn
      by_cases hy : y = []
      · have h2 := nil_T hy
        have HY := hide hy
        clear hy
        go_wp2
        go_ret
        refine ⟨ret_str ?_, Below.then hb1 hb3⟩
        rw [unhide HN, unhide HY, List.isEmpty_nil, Bool.not_true, Bool.and_false, Bool.and_false, if_neg (by decide)]
      · have h2 := ne_T hoy hy
        have e := unhide HN
        rw [unhide HH, empty_not hn, empty_not hy, Bool.and_self, Bool.and_self, if_pos rfl] at e
        have E := hide e
        clear e
        go_wp2
        go_ret
        refine ⟨ret_str ?_, Below.then hb1 hb3⟩
        rw [unhide E, ← T_app, show T (58 :: y) = T [58] ++ T y from (T_app [58] y).symm, ← ByteArray.append_assoc]
        rfl
set_option maxHeartbeats 1000000 in
theorem variableAhead_any (l : List Nat) (w : World) (hl : okL l) (hs : (T l).size ≤ 512) :
    Calls Tryd.prog 42 #[.string (T l)] w fun e w' => (∃ x b, e = .returned (.tuple #[.string x, .bool b]) ∧ ((∃ t, varA l = some t ∧ x = T t ∧ b = true) ∨ (varA l = none ∧ b = false))) ∧ Below w.heap.size w w' := by
  have hV : varA l = if heads 36 l && !(qnameA l.tail).isEmpty then some (qnameA l.tail) else none := rfl
  have HV := hide hV
  clear hV
  go_enter Tryd.func42, Tryd.ntmps42
  go_wp2_with fail
  refine (cutPrefix_one 36 36 rfl (by decide) l hl _).mono ?_
  rintro e w2 ⟨rfl, rfl⟩
  cases hh : heads 36 l
  · have HH := hide hh
    clear hh
    rw [if_neg (by decide)]
    go_wp2_with fail
    refine (qnameAhead_any l _ hl hs).mono ?_
    rintro e w3 ⟨rfl, hb3⟩
    go_wp2
    go_ret2
    exact ⟨⟨_, _, rfl, .inr ⟨by rw [unhide HV, unhide HH, Bool.false_and, if_neg (by decide)], rfl⟩⟩, hb3⟩
  · have HH := hide hh
    clear hh
    rw [if_pos rfl]
    have hot := okL_tl hl
    have hst : (T l.tail).size ≤ 512 := by
      have h1 : (T l).size = 1 + (T l.tail).size := by
        conv => lhs; rw [heads_true (unhide HH)]
        exact sz_cons (by decide) _
      omega
    have hoy : okL (qnameA l.tail) := okL_pre hot (qnameA_pre _)
    go_wp2_with fail
    refine (qnameAhead_any l.tail _ hot hst).mono ?_
    rintro e w3 ⟨rfl, hb3⟩
    generalize qnameA l.tail = y at *
    by_cases hy : y = []
    · have h2 := nil_T hy
      have HY := hide hy
      clear hy
      go_wp2
      go_ret2
      exact ⟨⟨_, _, rfl, .inr ⟨by rw [unhide HV, unhide HY, List.isEmpty_nil, Bool.not_true, Bool.and_false, if_neg (by decide)], rfl⟩⟩, hb3⟩
    · have h2 := ne_T hoy hy
      have h3 : (T y).toList ≠ [] := fun h => hy ((T_empty hoy).1 h)
      go_wp2
      go_ret2
      exact ⟨⟨_, _, rfl, .inl ⟨y, by rw [unhide HV, unhide HH, empty_not hy, Bool.and_self, if_pos rfl], rfl, rfl⟩⟩, hb3⟩
end Go.Proofs.YtgabgeadeeaihaaDoor
