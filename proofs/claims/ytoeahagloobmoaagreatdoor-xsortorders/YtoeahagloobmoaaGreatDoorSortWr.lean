/- Formats: xsort.writer, and what it hands back. -/
import Derived.Test.YtoeahagloobmoaaGreatDoorSortScope
namespace Go.Proofs.YtoeahagloobmoaaGreatDoor
open Go.RowKit
theorem str_eq (s : ByteArray) (l : List UInt8) (h : s.data.toList = l) : s = ⟨l.toArray⟩ := by
  subst h
  simp
theorem str_ne (s : ByteArray) (x : UInt8) (h : s.data.toList ≠ [x]) : s ≠ ⟨#[x]⟩ := by
  intro e
  apply h
  rw [e]
set_option maxRecDepth 100000 in
set_option maxHeartbeats 1000000 in
theorem writer_a (w : World) :
    Calls Tryz.prog 15 #[.string ⟨#[97]⟩] w fun e w' => e = .returned (.tuple #[.func (.func 21) #[] #[], .bool true]) ∧ Below w.heap.size w w' := by
  go_enter Tryz.func15, Tryz.ntmps15
  go_wp2
  go_step3
  go_wp2
  rw [Exit.noGoto_ret]
  go_ret2
  exact ⟨rfl, (Below.refl _ w).alloc (Nat.le_refl _) _⟩
set_option maxRecDepth 100000 in
set_option maxHeartbeats 1000000 in
theorem writer_A (w : World) :
    Calls Tryz.prog 15 #[.string ⟨#[65]⟩] w fun e w' => e = .returned (.tuple #[.func (.func 22) #[] #[], .bool true]) ∧ Below w.heap.size w w' := by
  go_enter Tryz.func15, Tryz.ntmps15
  go_wp2
  go_step3
  go_wp2
  rw [Exit.noGoto_ret]
  go_ret2
  exact ⟨rfl, (Below.refl _ w).alloc (Nat.le_refl _) _⟩
set_option maxRecDepth 100000 in
set_option maxHeartbeats 1000000 in
theorem writer_i (w : World) :
    Calls Tryz.prog 15 #[.string ⟨#[105]⟩] w fun e w' => e = .returned (.tuple #[.func (.func 24) #[] #[], .bool true]) ∧ Below w.heap.size w w' := by
  go_enter Tryz.func15, Tryz.ntmps15
  go_wp2
  go_step3
  go_wp2
  rw [Exit.noGoto_ret]
  go_ret2
  exact ⟨rfl, (Below.refl _ w).alloc (Nat.le_refl _) _⟩
set_option maxRecDepth 100000 in
set_option maxHeartbeats 1000000 in
theorem writer_I (w : World) :
    Calls Tryz.prog 15 #[.string ⟨#[73]⟩] w fun e w' => e = .returned (.tuple #[.func (.func 26) #[] #[], .bool true]) ∧ Below w.heap.size w w' := by
  go_enter Tryz.func15, Tryz.ntmps15
  go_wp2
  go_step3
  go_wp2
  rw [Exit.noGoto_ret]
  go_ret2
  exact ⟨rfl, (Below.refl _ w).alloc (Nat.le_refl _) _⟩
theorem fm_cases (s : ByteArray) (f : Fm) (h : fmOf s.data.toList = some f) :
    f = .a ∧ s = ⟨#[97]⟩ ∨ f = .A ∧ s = ⟨#[65]⟩ ∨ f = .i ∧ s = ⟨#[105]⟩ ∨ f = .I ∧ s = ⟨#[73]⟩ ∨ f = .d s.size ∧ (s ≠ ⟨#[97]⟩ ∧ s ≠ ⟨#[65]⟩ ∧ s ≠ ⟨#[105]⟩ ∧ s ≠ ⟨#[73]⟩) ∧ Lib.trimLeftB s.data.toList 48 = [49] := by
  unfold fmOf at h
  split at h
  · rename_i e
    exact Or.inl ⟨(Option.some.inj h).symm, str_eq s _ e⟩
  · rename_i n1
    split at h
    · rename_i e
      exact Or.inr (Or.inl ⟨(Option.some.inj h).symm, str_eq s _ e⟩)
    · rename_i n2
      split at h
      · rename_i e
        exact Or.inr (Or.inr (Or.inl ⟨(Option.some.inj h).symm, str_eq s _ e⟩))
      · rename_i n3
        split at h
        · rename_i e
          exact Or.inr (Or.inr (Or.inr (Or.inl ⟨(Option.some.inj h).symm, str_eq s _ e⟩)))
        · rename_i n4
          split at h
          · rename_i e
            exact Or.inr (Or.inr (Or.inr (Or.inr ⟨(Option.some.inj h).symm, ⟨str_ne s _ n1, str_ne s _ n2, str_ne s _ n3, str_ne s _ n4⟩, e⟩)))
          · cases h
theorem fm_none (s : ByteArray) (h : fmOf s.data.toList = none) : (s ≠ ⟨#[97]⟩ ∧ s ≠ ⟨#[65]⟩ ∧ s ≠ ⟨#[105]⟩ ∧ s ≠ ⟨#[73]⟩) ∧ Lib.trimLeftB s.data.toList 48 ≠ [49] := by
  unfold fmOf at h
  split at h
  · cases h
  · rename_i n1
    split at h
    · cases h
    · rename_i n2
      split at h
      · cases h
      · rename_i n3
        split at h
        · cases h
        · rename_i n4
          split at h
          · cases h
          · rename_i n5
            exact ⟨⟨str_ne s _ n1, str_ne s _ n2, str_ne s _ n3, str_ne s _ n4⟩, n5⟩
theorem beq_ne (s : ByteArray) (x : UInt8) (h : s ≠ ⟨#[x]⟩) : (s.toList == [x]) = false := by
  rw [ByteArray.toList_eq]
  cases hb : (s.data.toList == [x]) with
  | false => rfl
  | true =>
    have e : s.data.toList = [x] := by simpa using hb
    exact absurd (str_eq s [x] e) h
theorem hmf (fn : Fn) (first cap : Array Value) (w : World) : (Instr.makeFunc fn first cap).run Tryz.prog w = .ok (.func fn first cap) w := rfl
set_option maxRecDepth 100000 in
set_option maxHeartbeats 1000000 in
theorem writer_d (s : ByteArray) (w : World) (h : s ≠ ⟨#[97]⟩ ∧ s ≠ ⟨#[65]⟩ ∧ s ≠ ⟨#[105]⟩ ∧ s ≠ ⟨#[73]⟩) (ht : Lib.trimLeftB s.data.toList 48 = [49]) :
    Calls Tryz.prog 15 #[.string s] w fun e w' => e = .returned (.tuple #[.func (.func 28) #[] #[.pointer (some ⟨w.heap.size, 0, none⟩)], .bool true]) ∧ Below w.heap.size w w' ∧ w'.cell? ⟨w.heap.size, 0, none⟩ = some (.string s) := by
  have HT := hide (show ∀ w, Calls Tryz.prog 27 #[.string s, .string ⟨#[48]⟩] w fun e w' => e = .returned (.string ⟨#[49]⟩) ∧ w' = w from fun w => by
    have := Tryz.strings_TrimLeft_one s 48 (by decide) w
    rw [ht] at this
    exact this)
  obtain ⟨n1, n2, n3, n4⟩ := h
  have h1 := beq_ne s _ n1
  have h2 := beq_ne s _ n2
  have h3 := beq_ne s _ n3
  have h4 := beq_ne s _ n4
  have hm := hmf
  clear ht n1 n2 n3 n4
  go_enter Tryz.func15, Tryz.ntmps15
  go_wp2
  go_step3
  go_wp2_with fail
  refine (unhide HT _).mono ?_
  rintro e w1 ⟨rfl, rfl⟩
  go_wp2_with fail
  rw [Exit.noGoto_ret]
  go_ret2
  exact ⟨rfl, (Below.refl _ w).alloc (Nat.le_refl _) _, by simp [go_sem]⟩
attribute [local go_sem] jumps_normal jumps_exit jumps_ret jumps_goto jumps_panic
set_option maxRecDepth 100000 in
set_option maxHeartbeats 1000000 in
theorem writer_none (s : ByteArray) (w : World) (h : s ≠ ⟨#[97]⟩ ∧ s ≠ ⟨#[65]⟩ ∧ s ≠ ⟨#[105]⟩ ∧ s ≠ ⟨#[73]⟩) (ht : Lib.trimLeftB s.data.toList 48 ≠ [49]) :
    Calls Tryz.prog 15 #[.string s] w fun e w' => e = .returned (.tuple #[.nilFunc, .bool false]) ∧ Below w.heap.size w w' := by
  have HT := hide (fun w => Tryz.strings_TrimLeft_one s 48 (by decide) w)
  have h5 : ((⟨(Lib.trimLeftB s.data.toList 48).toArray⟩ : ByteArray).toList == [49]) = false := beq_ne _ _ (fun e => ht (by
    have := congrArg (fun b : ByteArray => b.data.toList) e
    simpa using this))
  generalize (⟨(Lib.trimLeftB s.data.toList 48).toArray⟩ : ByteArray) = T at *
  obtain ⟨n1, n2, n3, n4⟩ := h
  have h1 := beq_ne s _ n1
  have h2 := beq_ne s _ n2
  have h3 := beq_ne s _ n3
  have h4 := beq_ne s _ n4
  clear ht n1 n2 n3 n4
  go_enter Tryz.func15, Tryz.ntmps15
  go_wp2
  refine wp_scope_one 0 (fun _ a' w' => ∃ (u0 u1 u2 u3 u4 u5 u6 u7 u8 u9 u10 u11 u12 u13 u14 u15 u16 : Value), w' = w.alloc (.cells #[.string s] 9) ∧ a' = { tmps := #[u0, u1, u2, u3, u4, u5, u6, u7, u8, u9, u10, u11, u12, u13, u14, u15, u16], defers := [] }) rfl ?_ ?_
  · rintro n a' w' ⟨u0, u1, u2, u3, u4, u5, u6, u7, u8, u9, u10, u11, u12, u13, u14, u15, u16, rfl, rfl⟩
    go_wp2_with fail
    rw [jumps_ret]
    go_ret2
    exact ⟨rfl, (Below.refl _ w).alloc (Nat.le_refl _) _⟩
  · intro hround
    go_wp2_with fail
    refine (unhide HT _).mono ?_
    rintro e w1 ⟨rfl, rfl⟩
    go_wp2_with fail
    go_step3
    exact ⟨rfl, 0, _, _, _, _, _, _, _, _, _, _, _, _, _, _, _, _, _, rfl, rfl⟩
end Go.Proofs.YtoeahagloobmoaaGreatDoor
