/- What the library's functions tell of a text, in terms of its characters: plain lemmas. -/
import Derived.Test.YtllhajjceecjdaaDoorGar
namespace Go.Proofs.YtllhajjceecjdaaDoor
open Go.RowKit
theorem valid_T {l : List Nat} (h : okL l) : Lib.validD (tx l) = true := by
  have key : ∀ (t p : List Nat), l = p ++ t → Lib.validD ((T l).data.toList.drop (tx p).length) = true := by
    intro t
    induction t with
    | nil =>
      intro p e
      rw [drop_nil _ _ (end_at e)]
      rfl
    | cons c t ih =>
      intro p e
      obtain ⟨hd, hlt, hc, hpos⟩ := dec_at e h
      rw [validD_at _ _ hlt, hd, if_neg]
      · have := ih (p ++ [c]) (by rw [e]; simp)
        rw [tx_snoc] at this
        exact this
      · rintro ⟨h1, h2⟩
        simp only at h1 h2
        subst h1
        rw [show (runeB 65533).length = 3 from by decide +kernel] at h2
        cases h2
  have := key l [] rfl
  rw [T_data] at this
  simpa [tx] using this
theorem nameFrom_T {l : List Nat} (h : okL l) : ∀ (t p : List Nat) (f : Nat), l = p ++ t → (T l).size < (tx p).length + f →
    nameFrom (T l) f (tx p).length = (if p = [] then (t.isEmpty || (match t with | [] => true | c :: u => begC c && u.all goC)) else t.all goC)
  | [], p, f, e, hf => by
    rw [nameFrom_end _ _ _ (end_at e)]
    split <;> rfl
  | c :: t, p, f, e, hf => by
    obtain ⟨hd, hlt, hc, hpos⟩ := dec_at e h
    obtain ⟨g, rfl, hg⟩ := nameFrom_step (T l) f (tx p).length hlt hf
    have ih := nameFrom_T h t (p ++ [c]) g (by rw [e]; simp) (by rw [tx_snoc]; omega)
    rw [tx_snoc, if_neg (by simp)] at ih
    rw [hg, hd]
    simp only
    rw [ih, begC_eq c hc, goC_eq c hc]
    by_cases hp : p = []
    · rw [if_pos hp, hp]
      cases hb : begC c
      · simp [tx]
      · simp [tx, goC_of_beg hb]
    · rw [if_neg hp]
      have : (((tx p).length : Int) == 0) = false := by
        have := tx_len_zero (okL_left (e ▸ h))
        simp
        intro h0
        exact hp (this (by simpa using h0))
      rw [this, Bool.false_and, Bool.false_or, List.all_cons]
      cases goC c <;> rfl
theorem nameB_T {l : List Nat} (h : okL l) : nameB (T l) = isNm l := by
  unfold nameB isNm
  rw [T_data, valid_T h, Bool.and_true]
  have := nameFrom_T h l [] ((T l).size + 1) rfl (by omega)
  rw [if_pos rfl] at this
  rw [show nameFrom (T l) ((T l).size + 1) 0 = _ from this]
  cases l with
  | nil => rfl
  | cons c t =>
    have e0 : (tx (c :: t)).isEmpty = false := by
      cases hx : tx (c :: t) with
      | nil => have := tx_len_zero h (by rw [hx]; rfl); cases this
      | cons _ _ => rfl
    rw [e0]
    simp only [List.isEmpty_cons, Bool.not_false, Bool.true_and, Bool.false_or]
    rw [nameA]
    cases hb : begC c
    · rfl
    · rw [if_pos rfl, Bool.true_and]
      rw [Bool.eq_iff_iff]
      simp only [List.all_eq_true, beq_iff_eq, List.cons.injEq, true_and]
      constructor
      · intro ha
        have := takeWhile_run goC t [] ha (fun _ hx => by cases hx)
        simpa using this
      · intro ha x hx
        exact all_takeWhile goC t x (by rw [ha]; exact hx)
/-- Equal texts are of equal characters. -/
theorem tx_inj : ∀ {a b : List Nat}, okL a → okL b → tx a = tx b → a = b
  | [], b, _, hb, e => (tx_len_zero hb (by rw [← e]; rfl)).symm
  | x :: a, [], ha, _, e => by have := tx_len_zero ha (by rw [e]; rfl); exact this
  | x :: a, y :: b, ha, hb, e => by
    have h1 := dec_rune x (charR_ok (ha x (by simp))) (tx a)
    have h2 := dec_rune y (charR_ok (hb y (by simp))) (tx b)
    rw [tx_cons, tx_cons] at e
    rw [e, h2] at h1
    have hxy : y = x := congrArg Prod.fst h1
    subst hxy
    rw [tx_inj (okL_tail ha) (okL_tail hb) (List.append_cancel_left e)]
theorem eq_T {a b : List Nat} (ha : okL a) (hb : okL b) : ((T a).toList == tx b) = (a == b) := by
  rw [T_toList, Bool.eq_iff_iff, beq_iff_eq, beq_iff_eq]
  exact ⟨tx_inj ha hb, fun e => by rw [e]⟩
end Go.Proofs.YtllhajjceecjdaaDoor
