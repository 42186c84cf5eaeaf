/- Every reference and every entity's text, all the way down: xmlscan's add. -/
import Derived.Test.YtkklapoceknbcaaGreatDoorXmlAddText
namespace Go.Proofs.YtkklapoceknbcaaGreatDoor
open Go.RowKit
theorem spendX_err {opn : List (List Nat)} {sp n k : Nat} (h : spendX opn sp n = .error k) : k ≠ 0 := by
  unfold spendX at h
  split at h
  · cases h
  · split at h
    · cases h; decide
    · cases h
theorem textX_err {add : Nat → Ref → Except Nat (List Nat × Nat)} {flat : Bool} {opn : List (List Nat)} (hadd : ∀ s r k, add s r = .error k → k ≠ 0) :
    ∀ (f sp : Nat) (l : List Nat) (k : Nat), textX add flat opn f sp l = .error k → k ≠ 0
  | 0, sp, l, k, h => by
    unfold textX at h
    cases h
  | f + 1, sp, l, k, h => by
    unfold textX at h
    split at h
    · cases h
    · simp only at h
      split at h
      · rename_i e h1
        cases h
        exact spendX_err h1
      · split at h
        · cases h
        · split at h
          · cases h; decide
          · split at h
            · rename_i e h2
              cases h
              exact hadd _ _ _ h2
            · split at h
              · rename_i e h3
                cases h
                exact textX_err hadd f _ _ _ h3
              · cases h
theorem addX_err {ents : List (List Nat × List Nat)} {flat : Bool} :
    ∀ (d : Nat) (opn : List (List Nat)) (sp : Nat) (r : Ref) (k : Nat), addX ents flat d opn sp r = .error k → k ≠ 0
  | 0, opn, sp, r, k, h => by
    unfold addX at h
    cases h
    decide
  | d + 1, opn, sp, r, k, h => by
    unfold addX at h
    split at h
    · split at h
      · rename_i e h1
        cases h
        exact spendX_err h1
      · cases h
    · split at h
      · cases h; decide
      · split at h
        · cases h; decide
        · split at h
          · rename_i e h1
            cases h
            exact spendX_err h1
          · exact textX_err (fun s r' k' h' => addX_err d (opn ++ [r.name]) s r' k' h') _ _ _ _ h
/-- add, whatever is declared and whatever is open. -/
theorem add_all (C B q p m : Nat) (flat : Bool) (ents : List (List Nat × List Nat)) (D : Nat) (hC : D ≤ C) (hp0 : D ≤ p) (he : ∀ x ∈ ents, okL x.2 ∧ (T x.2).size ≤ 32768) :
    ∀ (d : Nat) (opn : List (List Nat)), d + opn.length = 10 → ∀ (vt vo : Value) (tt : List Nat) (sp : Nat) (c : Array Value) (r : Ref) (n : Nat) (w : World),
      ExpS w C B q p m flat vt vo tt opn sp ents c → ExpOk tt opn sp ents → okL r.said → (T r.said).size ≤ 4 → okL r.name → (T r.name).size ≤ 100000 → XEnv D w →
      Calls Tryz.prog 107 #[.pointer (some ⟨q, 0, none⟩), .agg #[.string (T r.said), .string (T r.name), .int .i64 (n : Nat)]] w fun e w' =>
        AddOut (addX ents flat d opn sp r) C B q p m flat vt vo tt opn ents c e w w'
  | 0, opn, hd, vt, vo, tt, sp, c, r, n, w, S, hX, _, _, _, _, _ => by
    have := hX.len
    omega
  | d + 1, opn, hd, vt, vo, tt, sp, c, r, n, w, S, hX, h1, h2, h3, h4, hB => by
    refine add_any d C B q p m flat vt vo tt opn sp ents c r n w S hX h1 h2 h3 h4 ?_
    intro t ht W vt1 vo1 sp1 c1 S1 hX1 h8 hK
    have hmem : okL t ∧ (T t).size ≤ 32768 := by
      unfold entX at ht
      obtain ⟨y, hy, rfl⟩ := Option.map_eq_some_iff.1 ht
      exact he y (List.mem_of_find?_eq_some hy)
    have hBW : XEnv D W := hB.low (hK.low (Nat.le_trans (Nat.le_trans hC S.lo) (Nat.le_of_lt (Array.getElem?_eq_some_iff.1 S.blk).1)) (Nat.le_trans hC S.lo) hp0 (fun k hk => Nat.le_trans hC (S.txt.lt k hk).1) (fun k hk => Nat.le_trans hC (S.opn.lt k hk).1))
    have hl : d + (opn ++ [r.name]).length = 10 := by rw [List.length_append]; show d + (opn.length + 1) = 10; omega
    refine addText_any C B q p m flat vt1 vo1 tt (opn ++ [r.name]) sp1 ents c1 t W D S1 hX1 (by simp) hmem.1 hmem.2 hBW hC hp0 (addX ents flat d (opn ++ [r.name])) ?_ ?_ (fun s r' k h => addX_err d _ s r' k h) ?_
    · intro s
      obtain ⟨d', rfl⟩ : ∃ d', d = d' + 1 := ⟨d - 1, by omega⟩
      unfold addX
      rw [if_neg (fun h => h rfl)]
      have : entX ents [] = none := entX_none fun y hy => hX.some y hy
      simp only [this]
    · exact fun s r' t' s' hs h => addX_len (fun x hx => (he x hx).1) d (opn ++ [r.name]) s r' t' s' (by simp) hs h
    · intro W2 vt2 vo2 tt2 sp2 c2 r2 n2 S2 hX2 k1 k2 k3 k4 hB2
      exact add_all C B q p m flat ents D hC hp0 he d (opn ++ [r.name]) hl vt2 vo2 tt2 sp2 c2 r2 n2 W2 S2 hX2 k1 k2 k3 k4 hB2
end Go.Proofs.YtkklapoceknbcaaGreatDoor
