/- A text without blanks at its ends and with one space for those within: what the fields, joined, come to, byte by byte. -/
import Derived.Test.YtfgifocgkiploaaGreatDoorPosPlain
namespace Go.Proofs.YtfgifocgkiploaaGreatDoor
open Go.RowKit
def blankU (c : UInt8) : Bool := blankB c.toNat
/-- One byte more: what is written so far, and whether a blank has been met behind it. -/
def trStep (x : List UInt8 × Bool) (c : UInt8) : List UInt8 × Bool :=
  if blankU c then (x.1, true) else ((if x.2 && !x.1.isEmpty then x.1 ++ [32] else x.1) ++ [c], false)
def trimU (l : List UInt8) : List UInt8 := (l.foldl trStep ([], false)).1
theorem step_blank (x : List UInt8 × Bool) (c : UInt8) (h : blankU c = true) : trStep x c = (x.1, true) := by unfold trStep; rw [if_pos h]
theorem step_other (x : List UInt8 × Bool) (c : UInt8) (h : blankU c = false) : trStep x c = ((if x.2 && !x.1.isEmpty then x.1 ++ [32] else x.1) ++ [c], false) := by
  unfold trStep; rw [if_neg (by rw [h]; decide)]
/-- Bytes that are no blanks, behind one another. -/
theorem fold_others : ∀ (l : List UInt8) (o : List UInt8), (∀ c ∈ l, blankU c = false) → l.foldl trStep (o, false) = (o ++ l, false)
  | [], o, _ => by simp
  | c :: l, o, h => by
    rw [List.foldl_cons, step_other _ _ (h c (by simp))]
    simp only [Bool.false_and, Bool.false_eq_true, if_false]
    rw [fold_others l (o ++ [c]) (fun x hx => h x (List.mem_cons_of_mem _ hx))]
    simp
theorem fold_flag (l : List UInt8) : (l.foldl trStep ([], true)).1 = (l.foldl trStep ([], false)).1 := by
  induction l with
  | nil => rfl
  | cons c l ih =>
    rw [List.foldl_cons, List.foldl_cons]
    cases h : blankU c
    · rw [step_other _ _ h, step_other _ _ h]; rfl
    · rw [step_blank _ _ h, step_blank _ _ h]
theorem fold_again (l : List UInt8) : ∀ (o : List UInt8) (b : Bool), o.foldl trStep ([], false) = (o, false) → ((l.foldl trStep (o, b)).1).foldl trStep ([], false) = ((l.foldl trStep (o, b)).1, false) := by
  induction l with
  | nil => intro o b h; exact h
  | cons c l ih =>
    intro o b h
    rw [List.foldl_cons]
    cases hc : blankU c
    · rw [step_other _ _ hc]
      refine ih _ _ ?_
      by_cases hb : (b && !o.isEmpty) = true
      · simp only [hb, if_true]
        rw [List.foldl_append, List.foldl_append, h, List.foldl_cons, List.foldl_nil, List.foldl_cons, List.foldl_nil, step_blank _ 32 (by decide +kernel), step_other _ _ hc]
        have ho : o.isEmpty = false := by
          cases hx : o.isEmpty
          · rfl
          · rw [hx] at hb; simp at hb
        simp [ho]
      · simp only [hb]
        rw [if_neg (by decide), List.foldl_append, h, List.foldl_cons, List.foldl_nil, step_other _ _ hc]
        simp
    · rw [step_blank _ _ hc]
      exact ih _ _ h
theorem trimU_again (l : List UInt8) : trimU (trimU l) = trimU l := by
  have := fold_again l [] false rfl
  unfold trimU
  rw [this]
theorem trimU_around (l : List UInt8) : trimU (32 :: (l ++ [10])) = trimU l := by
  unfold trimU
  rw [List.foldl_cons, step_blank _ 32 (by decide +kernel), List.foldl_append, List.foldl_cons, List.foldl_nil, step_blank _ 10 (by decide +kernel)]
  exact fold_flag l
theorem trimU_le (l : List UInt8) : ∀ (o : List UInt8) (b : Bool), ((l.foldl trStep (o, b)).1).length ≤ o.length + 2 * l.length := by
  induction l with
  | nil => intro o b; simp
  | cons c l ih =>
    intro o b
    rw [List.foldl_cons]
    cases hc : blankU c
    · rw [step_other _ _ hc]
      have := ih ((if b && !o.isEmpty then o ++ [32] else o) ++ [c]) false
      have h2 : ((if b && !o.isEmpty then o ++ [32] else o) ++ [c]).length ≤ o.length + 2 := by
        split <;> simp
      simp only [List.length_cons]
      omega
    · rw [step_blank _ _ hc]
      have := ih o true
      simp only [List.length_cons]
      omega
/-- The fields between such places, joined by spaces. -/
def joinS (s : ByteArray) (acc : List (Nat × Nat)) : List UInt8 := Lib.join ((acc.map fun x => s.extract x.1 x.2).map (·.data.toList)) [32]
theorem join_snoc (F : List (List UInt8)) (x : List UInt8) : Lib.join (F ++ [x]) [32] = (if F.isEmpty then [] else Lib.join F [32] ++ [32]) ++ x := by
  cases F with
  | nil => simp [Lib.join_one]
  | cons f F => rw [List.cons_append, Lib.join_cons, Lib.join_cons]; simp [Lib.joinTail]
theorem piece_data (s : ByteArray) (a b : Nat) : (s.extract a b).data.toList = (s.data.toList.take b).drop a := by
  rw [ByteArray.data_extract]; simp [List.drop_take]
theorem piece_more (s : ByteArray) (a p n : Nat) (ha : a ≤ p) (hn : p + n ≤ s.size) : (s.extract a (p + n)).data.toList = (s.extract a p).data.toList ++ (s.data.toList.drop p).take n := by
  have hl : s.data.toList.length = s.size := rfl
  rw [piece_data, piece_data, List.take_add, List.drop_append_of_le_length (by rw [List.length_take]; omega)]
/-- The bytes of a character that is no blank are no blanks; a blank is one byte. -/
theorem char_bytes (s : ByteArray) (pos : Nat) (hp : pos < s.size) :
    (blankN (Utf8.decode s pos).1 = true → (Utf8.decode s pos).2 = 1 ∧ blankU (s.get! pos) = true) ∧ (blankN (Utf8.decode s pos).1 = false → ∀ c ∈ (s.data.toList.drop pos).take (Utf8.decode s pos).2, blankU c = false) := by
  have hl : s.data.toList.length = s.size := rfl
  have hi : ∀ n : Nat, 128 ≤ n → blankB n = false := fun n hn => by simp [blankB]; omega
  have key : ((s.get! pos).toNat < 128 ∧ Utf8.decode s pos = ((s.get! pos).toNat, 1)) ∨ (128 ≤ (s.get! pos).toNat ∧ 128 ≤ (Utf8.decode s pos).1 ∧ ∀ k, 1 ≤ k → k < (Utf8.decode s pos).2 → 128 ≤ (s.get! (pos + k)).toNat) := by
    rw [Lib.decode_at]
    generalize (s.get! pos).toNat = b0
    generalize h1 : (s.get! (pos + 1)).toNat = b1
    generalize h2 : (s.get! (pos + 2)).toNat = b2
    generalize h3 : (s.get! (pos + 3)).toNat = b3
    by_cases h : b0 < 128
    · left; exact ⟨h, by unfold Lib.decodeN; rw [if_pos h]⟩
    · right
      refine ⟨by omega, ?_, fun k hk hk' => ?_⟩
      · unfold Lib.decodeN
        repeat' split
        all_goals (simp only; omega)
      · have k3 : (k = 1 ∧ 128 ≤ b1) ∨ (k = 2 ∧ 128 ≤ b2) ∨ (k = 3 ∧ 128 ≤ b3) := by
          revert hk'
          unfold Lib.decodeN
          repeat' split
          all_goals (intro hk'; simp only at hk'; omega)
        rcases k3 with ⟨rfl, h⟩ | ⟨rfl, h⟩ | ⟨rfl, h⟩
        · rw [h1]; exact h
        · rw [h2]; exact h
        · rw [h3]; exact h
  rcases key with ⟨k1, k2⟩ | ⟨k1, k2, k3⟩
  · rw [k2]
    refine ⟨fun h => ⟨rfl, h⟩, fun h c hc => ?_⟩
    rw [List.drop_eq_getElem_cons (by omega)] at hc
    simp only [List.take_succ_cons, List.take_zero, List.mem_singleton] at hc
    rw [hc, ← get_data s pos hp]
    exact h
  · refine ⟨fun h => ?_, fun h c hc => ?_⟩
    · have := hi _ k2
      unfold blankN at h
      rw [this] at h
      cases h
    · obtain ⟨j, hj, he⟩ := List.getElem_of_mem hc
      rw [List.length_take, List.length_drop] at hj
      rw [List.getElem_take, List.getElem_drop] at he
      rw [← he, ← get_data s (pos + j) (by omega)]
      unfold blankU
      apply hi
      rcases Nat.eq_zero_or_pos j with h0 | h0
      · subst h0; exact k1
      · exact k3 j h0 (by omega)
theorem joinS_snoc (s : ByteArray) (acc : List (Nat × Nat)) (a b : Nat) : joinS s (acc ++ [(a, b)]) = (if acc.isEmpty then [] else joinS s acc ++ [32]) ++ (s.extract a b).data.toList := by
  unfold joinS
  rw [List.map_append, List.map_append]
  simp only [List.map_cons, List.map_nil]
  rw [join_snoc]
  simp
theorem joinS_ne (s : ByteArray) (acc : List (Nat × Nat)) (a b : Nat) (h : a < b) (hb : b ≤ s.size) : joinS s (acc ++ [(a, b)]) ≠ [] := by
  have hl : s.data.toList.length = s.size := rfl
  rw [joinS_snoc, piece_data]
  intro e
  have := congrArg List.length e
  simp only [List.length_append, List.length_drop, List.length_take, List.length_nil] at this
  omega
theorem take_drop_more (l : List UInt8) (p n : Nat) : l.drop p = (l.drop p).take n ++ l.drop (p + n) := by
  rw [← List.drop_drop, List.take_append_drop]
/-- What is written when the fields so far are 'acc' and one may have begun. -/
def written (s : ByteArray) (pos : Nat) (st : Option Nat) (acc : List (Nat × Nat)) : List UInt8 :=
  match st with | some a => joinS s (acc ++ [(a, pos)]) | none => joinS s acc
theorem spans_trim (s : ByteArray) : ∀ (f pos : Nat) (st : Option Nat) (acc : List (Nat × Nat)) (b : Bool), s.size ≤ pos + f → pos ≤ s.size → (∀ a, st = some a → a < pos ∧ b = false) → (st = none → acc ≠ [] → b = true) →
    (acc ≠ [] → joinS s acc ≠ []) →
    ((s.data.toList.drop pos).foldl trStep (written s pos st acc, b)).1 = joinS s (Lib.closeSpans s (Lib.spansFromP blankN s f pos st acc)) := by
  have hl : s.data.toList.length = s.size := rfl
  have fin : ∀ (f pos : Nat) (st : Option Nat) (acc : List (Nat × Nat)) (b : Bool), pos ≤ s.size → ¬ pos < s.size → ((s.data.toList.drop pos).foldl trStep (written s pos st acc, b)).1 = joinS s (Lib.closeSpans s (Lib.spansFromP blankN s f pos st acc)) := by
    intro f pos st acc b hp hlt
    rw [List.drop_eq_nil_of_le (by omega), Lib.spansFromP_end _ _ _ _ _ _ hlt]
    have e : pos = s.size := by omega
    subst e
    cases st with
    | none => rfl
    | some a => rfl
  intro f
  induction f with
  | zero => intro pos st acc b hf hp _ _ _; exact fin 0 pos st acc b hp (by omega)
  | succ f ih =>
    intro pos st acc b hf hp hst hb hJ
    by_cases hlt : pos < s.size
    · have hw := width_pos s pos hlt
      have hle := width_le s pos hlt
      obtain ⟨c1, c2⟩ := char_bytes s pos hlt
      unfold Lib.spansFromP
      rw [if_pos hlt, take_drop_more s.data.toList pos (Utf8.decode s pos).2, List.foldl_append]
      cases hbl : blankN (Utf8.decode s pos).1
      · have hB := c2 hbl
        simp only [Bool.false_eq_true, if_false]
        cases st with
        | some a =>
          obtain ⟨h1, rfl⟩ := hst a rfl
          simp only
          rw [fold_others _ _ hB]
          have e : written s pos (some a) acc ++ (s.data.toList.drop pos).take (Utf8.decode s pos).2 = written s (pos + (Utf8.decode s pos).2) (some a) acc := by
            show joinS s (acc ++ [(a, pos)]) ++ _ = joinS s (acc ++ [(a, pos + (Utf8.decode s pos).2)])
            rw [joinS_snoc, joinS_snoc, piece_more s a pos _ (by omega) hle, List.append_assoc]
          rw [e]
          exact ih _ (some a) acc false (by omega) hle (fun x hx => by cases hx; exact ⟨by omega, rfl⟩) (fun h => by cases h) hJ
        | none =>
          simp only
          have hne : ∃ c B, (s.data.toList.drop pos).take (Utf8.decode s pos).2 = c :: B := by
            cases hc : (s.data.toList.drop pos).take (Utf8.decode s pos).2 with
            | nil =>
              have := congrArg List.length hc
              rw [List.length_take, List.length_drop] at this
              simp only [List.length_nil] at this
              omega
            | cons c B => exact ⟨c, B, rfl⟩
          obtain ⟨c, B, hcB⟩ := hne
          have e : ((s.data.toList.drop pos).take (Utf8.decode s pos).2).foldl trStep (written s pos none acc, b) = (written s (pos + (Utf8.decode s pos).2) (some pos) acc, false) := by
            have hpc : (s.extract pos (pos + (Utf8.decode s pos).2)).data.toList = c :: B := by
              rw [piece_more s pos pos _ (Nat.le_refl _) hle, hcB, piece_data]
              have : (s.data.toList.take pos).drop pos = [] := List.drop_eq_nil_of_le (by rw [List.length_take]; omega)
              rw [this]; rfl
            show _ = (joinS s (acc ++ [(pos, pos + (Utf8.decode s pos).2)]), false)
            rw [joinS_snoc, hpc, hcB, List.foldl_cons, step_other _ _ (hB c (by rw [hcB]; simp)), fold_others _ _ (fun x hx => hB x (by rw [hcB]; exact List.mem_cons_of_mem _ hx))]
            show ((if b && !(joinS s acc).isEmpty then joinS s acc ++ [32] else joinS s acc) ++ [c] ++ B, false) = _
            cases acc with
            | nil => simp [joinS, Lib.join_nil]
            | cons x acc =>
              have h1 := hb rfl (by simp)
              have h2 := hJ (by simp)
              have h3 : (joinS s (x :: acc)).isEmpty = false := by
                cases hx : joinS s (x :: acc) with
                | nil => exact absurd hx h2
                | cons _ _ => rfl
              rw [h1, h3]
              simp
          rw [e]
          exact ih _ (some pos) acc false (by omega) hle (fun x hx => by cases hx; exact ⟨by omega, rfl⟩) (fun h => by cases h) hJ
      · obtain ⟨h1, h2⟩ := c1 hbl
        rw [h1] at hle ⊢
        have e1 : (s.data.toList.drop pos).take 1 = [s.get! pos] := by
          rw [List.drop_eq_getElem_cons (by omega), get_data s pos hlt]; rfl
        rw [e1, List.foldl_cons, List.foldl_nil, step_blank _ _ h2]
        simp only [if_true]
        cases st with
        | some a =>
          obtain ⟨h3, rfl⟩ := hst a rfl
          simp only
          exact ih (pos + 1) none (acc ++ [(a, pos)]) true (by omega) hle (fun x hx => by cases hx) (fun _ _ => rfl) (fun _ => joinS_ne s acc a pos h3 hp)
        | none =>
          simp only
          exact ih (pos + 1) none acc true (by omega) hle (fun x hx => by cases hx) (fun _ _ => rfl) hJ
    · exact fin (f + 1) pos st acc b hp hlt
theorem trimL_eq (s : ByteArray) : trimL s = trimU s.data.toList := by
  have := spans_trim s s.size 0 none [] false (by omega) (Nat.zero_le _) (fun a h => by cases h) (fun _ h => absurd rfl h) (fun h => absurd rfl h)
  rw [List.drop_zero] at this
  exact this.symm
theorem spans_len (s : ByteArray) : ∀ (f pos : Nat) (st : Option Nat) (acc : List (Nat × Nat)), (Lib.spansFromP blankN s f pos st acc).1.length ≤ acc.length + f
  | 0, pos, st, acc => by simp [Lib.spansFromP]
  | f + 1, pos, st, acc => by
    unfold Lib.spansFromP
    split
    · split
      · cases st with
        | some a => have := spans_len s f (pos + (Utf8.decode s pos).2) none (acc ++ [(a, pos)]); simp only [List.length_append, List.length_cons, List.length_nil] at this; simp only; omega
        | none => have := spans_len s f (pos + (Utf8.decode s pos).2) none acc; simp only; omega
      · cases st with
        | some a => have := spans_len s f (pos + (Utf8.decode s pos).2) (some a) acc; simp only; omega
        | none => have := spans_len s f (pos + (Utf8.decode s pos).2) (some pos) acc; simp only; omega
    · simp only; omega
theorem fields_len (s : ByteArray) : (Lib.goFieldsP blankN s).length ≤ s.size + 1 := by
  unfold Lib.goFieldsP Lib.spansOfP Lib.closeSpans
  rw [List.length_map]
  have := spans_len s s.size 0 none []
  simp only [List.length_nil] at this
  split
  · rw [List.length_append]; simp only [List.length_cons, List.length_nil]; omega
  · omega
theorem trimU_len (l : List UInt8) : (trimU l).length ≤ 2 * l.length := by
  have := trimU_le l [] false
  simpa [trimU] using this
theorem trim_is (s : ByteArray) (w : World) (hs : s.size ≤ 4294967296) :
    Calls Tryz.prog 10 #[.string s] w fun e w' => e = .returned (.string ⟨(trimU s.data.toList).toArray⟩) ∧ Below w.heap.size w w' := by
  have hl : s.data.toList.length = s.size := rfl
  have h := trim_any s w hs (by rw [trimL_eq]; have := trimU_len s.data.toList; omega) (by have := fields_len s; omega)
  rw [trimL_eq] at h
  exact h
end Go.Proofs.YtfgifocgkiploaaGreatDoor
