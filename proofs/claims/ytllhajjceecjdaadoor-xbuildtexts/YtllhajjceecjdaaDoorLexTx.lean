/- Texts as lists of characters: their bytes, what is cut off them, what is decoded at a place: plain lemmas. -/
import Derived.Test.YtllhajjceecjdaaDoorGak
namespace Go.Proofs.YtllhajjceecjdaaDoor
open Go.RowKit
/-- A list of characters as bytes, as a text. -/
def tx (l : List Nat) : List UInt8 := l.flatMap runeB
def T (l : List Nat) : ByteArray := ⟨(tx l).toArray⟩
def okL (l : List Nat) : Prop := ∀ c ∈ l, charR (c : Int) = true
theorem tx_cons (c : Nat) (l : List Nat) : tx (c :: l) = runeB c ++ tx l := rfl
theorem tx_append (a b : List Nat) : tx (a ++ b) = tx a ++ tx b := by unfold tx; rw [List.flatMap_append]
theorem T_data (l : List Nat) : (T l).data.toList = tx l := by unfold T; simp
theorem T_toList (l : List Nat) : (T l).toList = tx l := by rw [toList_data, T_data]
theorem T_size (l : List Nat) : (T l).size = (tx l).length := rfl
theorem okL_left {a b : List Nat} (h : okL (a ++ b)) : okL a := fun c hc => h c (List.mem_append_left _ hc)
theorem okL_right {a b : List Nat} (h : okL (a ++ b)) : okL b := fun c hc => h c (List.mem_append_right _ hc)
theorem okL_tail {c : Nat} {l : List Nat} (h : okL (c :: l)) : okL l := fun x hx => h x (List.mem_cons_of_mem _ hx)
theorem runeB_pos {c : Nat} (h : charR (c : Int) = true) : 1 ≤ (runeB c).length := by
  obtain ⟨x, t, e, _⟩ := runeB_first (charR_ok h)
  rw [e]; simp
theorem tx_len_cons {c : Nat} {l : List Nat} (h : okL (c :: l)) : (tx l).length < (tx (c :: l)).length := by
  have := runeB_pos (h c (by simp))
  rw [tx_cons, List.length_append]; omega
theorem tx_len_ge : ∀ {l : List Nat}, okL l → l.length ≤ (tx l).length
  | [], _ => Nat.zero_le _
  | c :: l, h => by
    have h1 := tx_len_cons h
    have h2 := tx_len_ge (okL_tail h)
    simp only [List.length_cons]; omega
theorem tx_len_zero {l : List Nat} (h : okL l) (h0 : (tx l).length = 0) : l = [] := by
  have := tx_len_ge h
  exact List.length_eq_zero_iff.1 (by omega)
theorem tx_snoc (p : List Nat) (c : Nat) : (tx (p ++ [c])).length = (tx p).length + (runeB c).length := by
  rw [tx_append, List.length_append]; simp [tx]
theorem tx_len_app (p t : List Nat) : (tx (p ++ t)).length = (tx p).length + (tx t).length := by rw [tx_append, List.length_append]
/-- What is decoded at a character's place. -/
theorem dec_T (p : List Nat) (c : Nat) (t : List Nat) (h : charR (c : Int) = true) : Utf8.decode (T (p ++ c :: t)) (tx p).length = (c, (runeB c).length) ∧ (tx p).length < (T (p ++ c :: t)).size := by
  have hd : (T (p ++ c :: t)).data.toList.drop (tx p).length = runeB c ++ tx t := by
    rw [T_data, tx_append, List.drop_left, tx_cons]
  refine ⟨?_, ?_⟩
  · rw [← Lib.decodeL_drop, hd]
    exact dec_rune c (charR_ok h) _
  · have := runeB_pos h
    rw [T_size, tx_len_app, tx_cons, List.length_append]; omega
theorem dec_at {l p t : List Nat} {c : Nat} (e : l = p ++ c :: t) (h : okL l) : Utf8.decode (T l) (tx p).length = (c, (runeB c).length) ∧ (tx p).length < (T l).size ∧ charR (c : Int) = true ∧ 1 ≤ (runeB c).length := by
  subst e
  have hc := h c (by simp)
  exact ⟨(dec_T p c t hc).1, (dec_T p c t hc).2, hc, runeB_pos hc⟩
theorem end_at {l p : List Nat} (e : l = p ++ []) : ¬ (tx p).length < (T l).size := by
  subst e; rw [T_size, List.append_nil]; omega
theorem T_app (a b : List Nat) : T a ++ T b = T (a ++ b) := by
  unfold T
  apply ByteArray.ext
  rw [ByteArray.data_append, tx_append]
  simp
theorem T_empty {l : List Nat} (h : okL l) : ((T l).toList = [] ↔ l = []) := by
  rw [T_toList]
  constructor
  · intro h0; exact tx_len_zero h (by rw [h0]; rfl)
  · rintro rfl; rfl
theorem begC_eq (c : Nat) (h : charR (c : Int) = true) : beginB (c : Int) = begC c := beginB_eq _ (by have := charR_ok h; unfold okR at this; omega)
theorem goC_eq (c : Nat) (h : charR (c : Int) = true) : goesB (c : Int) = goC c := goesB_eq _ (by have := charR_ok h; unfold okR at this; omega)
theorem T_txt {l : List Nat} (h : okL l) : Txt (T l).data.toList := ⟨l, h, T_data l⟩
end Go.Proofs.YtllhajjceecjdaaDoor
