/- What Parse tells of any text; what a tree's scopes tell of names. -/
import Derived.Test.YtjjggncbhenffaaGreatDoorXdmLo
namespace Go.Proofs.YtjjggncbhenffaaGreatDoor
open Go.RowKit Go.Maps
/-- An error and no tree, or a text's tree. -/
def ParseOut (w w' : World) (v : Value) (er : Nat) : Prop := ((er = 4 ∨ er = 5 ∨ er = 6 ∨ er = 7 ∨ er = 8) ∧ v = .pointer none) ∨ (er = 0 ∧ ∃ cs ns q, okL cs ∧ (T cs).size ≤ 32768 ∧ parseD cs = .ok ns ∧ v = .pointer (some ⟨q, 0, none⟩) ∧ TreeAt w' w.heap.size q ns)
set_option maxRecDepth 100000 in
set_option maxHeartbeats 2000000 in
theorem parse_err (s : ByteArray) (w : World) (er : Nat) (her : er = 4 ∨ er = 6) (hS : Calls Tryz.prog 46 #[.string s] w fun e w' => (∃ pl : Nat, e = .returned (.tuple #[.slice none 0 0, .int .i64 (er : Nat), .int .i64 (pl : Nat)])) ∧ Below w.heap.size w w') :
    Calls Tryz.prog 14 #[.string s] w fun e w' => e = .returned (.tuple #[.pointer none, .int .i64 (er : Nat)]) ∧ Below w.heap.size w w' := by
  have HS := hide hS
  clear hS
  rcases her with rfl | rfl
  all_goals
    go_enter Tryz.func14, Tryz.ntmps14
    go_wp2_with fail
    refine (unhide HS).mono ?_
    rintro e w1 ⟨⟨pl, rfl⟩, hb1⟩
    go_wp2
    go_returns
    exact ⟨rfl, hb1⟩
theorem parse_errs {cs : List Nat} (hl : okL cs) (hs : (T cs).size ≤ 32768) {n : Nat} (h : parseD cs = .error n) : n = 5 ∨ n = 6 ∨ n = 7 ∨ n = 8 := by
  unfold parseD at h
  cases hsc : scanX cs with
  | error x =>
    rw [hsc] at h
    cases h
    rcases (scan_er hl hs hsc).1 with h | h
    · exact .inl h
    · exact .inr (.inl h)
  | ok ts =>
    rw [hsc] at h
    have h' : treeD ts = .error n := h
    unfold treeD at h'
    split at h'
    · rename_i e he
      cases h'
      rcases adds_errs he with h | h
      · exact .inr (.inr (.inl h))
      · exact .inr (.inr (.inr h))
    · cases h'
theorem parse_out (s : ByteArray) (w : World) (hE : XEnv w.heap.size w) :
    Calls Tryz.prog 14 #[.string s] w fun e w' => ∃ (v : Value) (er : Nat), e = .returned (.tuple #[v, .int .i64 (er : Nat)]) ∧ Below w.heap.size w w' ∧ ParseOut w w' v er := by
  by_cases hz : 32768 < s.size
  · refine (parse_err s w 6 (.inr rfl) ((scan_long _ w hz).mono ?_)).mono ?_
    · rintro e w' ⟨rfl, rfl⟩
      exact ⟨⟨0, rfl⟩, Below.refl _ _⟩
    · rintro e w' ⟨rfl, hb⟩
      exact ⟨_, 6, rfl, hb, .inl ⟨.inr (.inr (.inl rfl)), rfl⟩⟩
  · by_cases ht : Txt s.data.toList
    · obtain ⟨l, hl, rfl⟩ := txt_T ht
      refine (parse_T l w hl (by omega) hE).mono ?_
      rintro e w' ⟨hp, hb⟩
      cases hs : parseD l with
      | error n =>
        rw [hs] at hp
        have hp' : e = .returned (.tuple #[.pointer none, .int .i64 (n : Nat)]) := hp
        exact ⟨_, n, hp', hb, .inl ⟨.inr (parse_errs hl (by omega) hs), rfl⟩⟩
      | ok ns =>
        rw [hs] at hp
        obtain ⟨q, he, hT⟩ := hp
        exact ⟨_, 0, he, hb, .inr ⟨rfl, l, ns, q, hl, by omega, hs, rfl, hT⟩⟩
    · refine (parse_err s w 4 (.inl rfl) ((scan_bad _ w (by omega) hE.env ht).mono ?_)).mono ?_
      · rintro e w' ⟨⟨at', _, rfl⟩, hb⟩
        exact ⟨⟨at', rfl⟩, hb⟩
      · rintro e w' ⟨rfl, hb⟩
        exact ⟨_, 4, rfl, hb, .inl ⟨.inl rfl, rfl⟩⟩
theorem lookR_ok {s : Sc} {p u : List Nat} (hs : OkSc s) (h : lookR s p = some u) : okL p := by
  unfold lookR at h
  split at h
  · rename_i hx
    rw [hx]
    exact xml_ok
  · cases hl : lookS s p with
    | some v =>
      unfold lookS at hl
      obtain ⟨x, hx, _⟩ := Option.map_eq_some_iff.1 hl
      have h1 := List.find?_some hx
      have h2 := List.mem_of_find?_eq_some hx
      have : x.1 = p := by simpa using h1
      rw [← this]
      exact (hs x h2).1.1
    | none =>
      rw [hl] at h
      have h' : (if p = [] then some [] else none) = some u := h
      split at h'
      · rename_i h0
        rw [h0]
        exact okL_e
      · cases h'
theorem scopeOf_find (s : Sc) (p : List Nat) : ∀ ks : List (List Nat), (scopeOf s ks).find? (fun x => x.1 == p) = if p ∈ ks then some (p, (lookS s p).getD []) else none
  | [] => rfl
  | k :: ks => by
    have ih := scopeOf_find s p ks
    unfold scopeOf at ih ⊢
    rw [List.map_cons, List.find?_cons, ih]
    by_cases hk : k = p
    · subst hk
      simp
    · have : (k == p) = false := by simpa using hk
      simp only [this]
      by_cases hm : p ∈ ks
      · rw [if_pos hm, if_pos (List.mem_cons_of_mem _ hm)]
      · rw [if_neg hm, if_neg (by intro h; rcases List.mem_cons.1 h with h | h; exact hk h.symm; exact hm h)]
theorem refLook_scope {s : Sc} {ks : List (List Nat)} {p u : List Nat} (hk : ks.Perm (s.map (·.1))) (h : lookR s p = some u) : refLook (scopeOf s ks) p = (u, true) := by
  unfold lookR at h
  unfold refLook
  split at h
  · rename_i hx
    cases h
    rw [if_pos hx]
  · rename_i hx
    rw [if_neg hx, scopeOf_find]
    cases hl : lookS s p with
    | some v =>
      rw [hl] at h
      have h' : some v = some u := h
      cases h'
      have hm : p ∈ ks := by
        rw [hk.mem_iff]
        unfold lookS at hl
        obtain ⟨x, hx, _⟩ := Option.map_eq_some_iff.1 hl
        have h1 := List.find?_some hx
        have : x.1 = p := by simpa using h1
        rw [← this]
        exact List.mem_map_of_mem (List.mem_of_find?_eq_some hx)
      rw [if_pos hm]
      rfl
    | none =>
      rw [hl] at h
      have h' : (if p = [] then some [] else none) = some u := h
      split at h'
      · rename_i h0
        cases h'
        split
        · rename_i y hy
          split at hy
          · cases hy; rw [h0]; rfl
          · cases hy
        · rw [h0]; rfl
      · cases h'
end Go.Proofs.YtjjggncbhenffaaGreatDoor
