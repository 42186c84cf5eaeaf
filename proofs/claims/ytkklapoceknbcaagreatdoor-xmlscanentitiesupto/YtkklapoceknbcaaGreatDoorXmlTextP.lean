/- What an expansion's text and its count come to, in plain terms: each character of the text was spent. -/
import Derived.Test.YtkklapoceknbcaaGreatDoorXmlSpaced
namespace Go.Proofs.YtkklapoceknbcaaGreatDoor
theorem spendX_ok {opn : List (List Nat)} {sp n s1 : Nat} (hne : opn ≠ []) (h : spendX opn sp n = .ok s1) : s1 = sp + n ∧ s1 ≤ 32768 := by
  unfold spendX at h
  rw [if_neg hne] at h
  split at h
  · cases h
  · cases h; exact ⟨rfl, by omega⟩
theorem flatL_len {flat : Bool} {l : List Nat} (h : okL l) : (tx (flatL flat l)).length = (tx l).length := by
  unfold flatL
  cases flat
  · rfl
  · have := sz_space h
    rw [T_size, T_size] at this
    exact this
theorem textX_len {add : Nat → Ref → Except Nat (List Nat × Nat)} {flat : Bool} {opn : List (List Nat)} (hne : opn ≠ [])
    (hadd : ∀ s r t s', s ≤ 32768 → add s r = .ok (t, s') → s + (tx t).length ≤ s' ∧ s' ≤ 32768) :
    ∀ (f sp : Nat) (l t : List Nat) (s' : Nat), okL l → sp ≤ 32768 → textX add flat opn f sp l = .ok (t, s') → sp + (tx t).length ≤ s' ∧ s' ≤ 32768
  | 0, sp, l, t, s', _, hs, h => by
    unfold textX at h
    cases h
    exact ⟨Nat.le_refl _, hs⟩
  | f + 1, sp, l, t, s', hl, hs, h => by
    unfold textX at h
    split at h
    · cases h
      exact ⟨Nat.le_refl _, hs⟩
    · have hp : okL (l.takeWhile (· != 38)) := fun c hc => hl c (List.takeWhile_subset _ hc)
      simp only at h
      split at h
      · cases h
      · rename_i s1 h1
        obtain ⟨e1, h1⟩ := spendX_ok hne h1
        have hfl := flatL_len (flat := flat) hp
        split at h
        · cases h
          exact ⟨by omega, h1⟩
        · split at h
          · cases h
          · rename_i r hr
            split at h
            · cases h
            · rename_i t2 s2 h2
              have a2 := hadd s1 r t2 s2 h1 h2
              split at h
              · cases h
              · rename_i u s3 h3
                have a3 := textX_len hne hadd f s2 _ u s3 (fun c hc => hl c (List.mem_of_mem_drop (List.mem_of_mem_drop hc))) a2.2 h3
                cases h
                rw [tx_len_app, tx_len_app]
                exact ⟨by omega, a3.2⟩
theorem addX_len {ents : List (List Nat × List Nat)} {flat : Bool} (he : ∀ x ∈ ents, okL x.2) :
    ∀ (d : Nat) (opn : List (List Nat)) (sp : Nat) (r : Ref) (t : List Nat) (s' : Nat), opn ≠ [] → sp ≤ 32768 → addX ents flat d opn sp r = .ok (t, s') → sp + (tx t).length ≤ s' ∧ s' ≤ 32768
  | 0, opn, sp, r, t, s', _, _, h => by
    unfold addX at h
    cases h
  | d + 1, opn, sp, r, t, s', hne, hs, h => by
    unfold addX at h
    split at h
    · split at h
      · cases h
      · rename_i s1 h1
        have a1 := spendX_ok hne h1
        cases h
        exact ⟨by omega, a1.2⟩
    · split at h
      · cases h
      · rename_i x hx
        split at h
        · cases h
        · split at h
          · cases h
          · rename_i s1 h1
            have a1 := spendX_ok hne h1
            have hok : okL x := by
              unfold entX at hx
              obtain ⟨y, hy, rfl⟩ := Option.map_eq_some_iff.1 hx
              exact he y (List.mem_of_find?_eq_some hy)
            have a2 := textX_len (opn := opn ++ [r.name]) (by simp) (fun s r' t2 s2 hs2 h2 => addX_len he d (opn ++ [r.name]) s r' t2 s2 (by simp) hs2 h2) (x.length + 1) s1 x t s' hok a1.2 h
            exact ⟨by omega, a2.2⟩
/-- What went ahead of a text's end. -/
def preX (u : List Nat) (o : Except Nat (List Nat × Nat)) : Except Nat (List Nat × Nat) := match o with | .error e => .error e | .ok (t, s) => .ok (u ++ t, s)
theorem preX_nil (o : Except Nat (List Nat × Nat)) : preX [] o = o := by
  cases o with
  | error e => rfl
  | ok x => rfl
theorem preX_pre (u v : List Nat) (o : Except Nat (List Nat × Nat)) : preX u (preX v o) = preX (u ++ v) o := by
  cases o with
  | error e => rfl
  | ok x => unfold preX; simp
/-- One round of addText, in plain terms. -/
theorem textX_step (add : Nat → Ref → Except Nat (List Nat × Nat)) (flat : Bool) (opn : List (List Nat)) (f sp : Nat) (l : List Nat) (hl : l ≠ []) : textX add flat opn (f + 1) sp l = match spendX opn sp (tx (l.takeWhile (· != 38))).length with
    | .error e => .error e
    | .ok s1 => if l.drop (l.takeWhile (· != 38)).length = [] then .ok (flatL flat (l.takeWhile (· != 38)), s1) else match readRef (l.drop (l.takeWhile (· != 38)).length) with
      | none => .error 5
      | some r => match add s1 r with
        | .error e => .error e
        | .ok (t, s2) => preX (flatL flat (l.takeWhile (· != 38)) ++ t) (textX add flat opn f s2 ((l.drop (l.takeWhile (· != 38)).length).drop r.size)) := by
  conv => lhs; unfold textX
  rw [if_neg hl]
  rfl
theorem drop_38 {l : List Nat} (h : l.drop (l.takeWhile (· != 38)).length ≠ []) : heads 38 (l.drop (l.takeWhile (· != 38)).length) = true := by
  have e : l.drop (l.takeWhile (· != 38)).length = l.dropWhile (· != 38) := by
    conv => lhs; arg 2; rw [← List.takeWhile_append_dropWhile (p := (· != 38)) (l := l)]
    rw [List.drop_left]
  rw [e] at h ⊢
  have := List.head_dropWhile_not (· != 38) h
  cases hd : l.dropWhile (· != 38) with
  | nil => exact absurd hd h
  | cons c t =>
    simp only [hd, List.head_cons] at this
    have h38 : c = 38 := by simpa using this
    subst h38
    rfl
theorem ahead_38 : ∀ (l : List Nat), ahead [38] l = l.takeWhile (· != 38)
  | [] => rfl
  | c :: t => by
    have ih := ahead_38 t
    by_cases hc : c = 38
    · subst hc
      rfl
    · have h1 : (List.isPrefixOf [38] (c :: t)) = false := by
        simp only [List.isPrefixOf, Bool.and_true, beq_eq_false_iff_ne]
        exact fun e => hc e.symm
      have h2 : (c != 38) = true := by simpa using hc
      rw [List.takeWhile_cons, if_pos h2, ← ih]
      unfold ahead
      rw [cutL, if_neg (by rw [h1]; exact Bool.false_ne_true)]
      cases cutL [38] t <;> rfl
end Go.Proofs.YtkklapoceknbcaaGreatDoor
