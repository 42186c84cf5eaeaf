/- What a text may say: xsort's saidByDigits, saidByLetters, saidByRoman. -/
import Derived.Test.YtmjjckindnffdaaDoorSortFormat
namespace Go.Proofs.YtmjjckindnffdaaDoor
open Go.RowKit
/-- What the walks of Read ask of the library's variables besides. -/
structure SEnv2 (w : World) : Prop extends SEnv w where
  synt : ∃ tp p, w.var? Tryd.prog "strconv.ErrSyntax" = some #[.iface tp p]
  rang : ∃ tp p, w.var? Tryd.prog "strconv.ErrRange" = some #[.iface tp p]
  cas : Lib.CaseVar 1 Lib.caseA w
  tabs : Lib.Utf8Tabs 4 5 w
theorem SEnv2.below {w w' : World} (h : SEnv2 w) (hb : Below w.heap.size w w') : SEnv2 w' := by
  obtain ⟨tp, p, h1⟩ := h.synt
  obtain ⟨tq, q, h2⟩ := h.rang
  exact ⟨h.toSEnv.below hb, ⟨tp, p, Joins.var_stays (show Tryd.prog.globalNamed "strconv.ErrSyntax" = some 2 by kernel_rfl) h1 hb (Nat.le_refl _)⟩, ⟨tq, q, Joins.var_stays (show Tryd.prog.globalNamed "strconv.ErrRange" = some 3 by kernel_rfl) h2 hb (Nat.le_refl _)⟩, Lib.CaseVar_below h.cas hb, Utf8Tabs_below h.tabs hb⟩
set_option maxRecDepth 100000 in
set_option maxHeartbeats 1000000 in
theorem saidByDigits_any (s : ByteArray) (w : World) (hs : s.size ≤ 281474976710656) (hE : SEnv2 w) :
    Calls Tryd.prog 28 #[.string s] w fun e w' => e = .returned (.int .i64 (digI s.data.toList)) ∧ Below w.heap.size w w' := by
  cases h : Lib.atoiAll s.data.toList with
  | ok v =>
    have HA := hide (Tryd.strconv_Atoi_ok s (by omega) v h w)
    rw [show digI s.data.toList = v by unfold digI; rw [h]]
    clear hE h
    go_enter Tryd.func28, Tryd.ntmps28
    go_wp2_with fail
    refine (unhide HA).mono ?_
    rintro e w1 ⟨rfl, hw⟩
    have hb1 : Below w.heap.size w w1 := by
      rcases hw with rfl | ⟨t, rfl⟩
      · exact Below.refl _ _
      · exact Joins.below_bytesWorld _ _ _ _ (Nat.le_refl _)
    go_wp2
    go_ret
    exact ⟨rfl, hb1⟩
  | «syntax» =>
    obtain ⟨tp, p, h1⟩ := hE.synt
    have HA := hide (Tryd.strconv_Atoi_syntax_var s (by omega) h tp p w h1)
    rw [show digI s.data.toList = 0 by unfold digI; rw [h]]
    clear hE h h1
    go_enter Tryd.func28, Tryd.ntmps28
    go_wp2_with fail
    refine (unhide HA).mono ?_
    rintro e w1 ⟨N, rfl, h2, h3, hb1⟩
    go_wp2
    go_ret
    exact ⟨rfl, hb1⟩
  | range =>
    obtain ⟨tp, p, h1⟩ := hE.rang
    have HA := hide (Tryd.strconv_Atoi_range_var s (by omega) h tp p w h1)
    rw [show digI s.data.toList = 0 by unfold digI; rw [h]]
    clear hE h h1
    go_enter Tryd.func28, Tryd.ntmps28
    go_wp2_with fail
    refine (unhide HA).mono ?_
    rintro e w1 ⟨N, rfl, h2, h3, hb1⟩
    go_wp2
    go_ret
    exact ⟨rfl, hb1⟩
/-- Letters alone. -/
def lettersB (t : List UInt8) : Bool := t.all (fun b => decide (97 ≤ b.toNat) && decide (b.toNat ≤ 122))
theorem lettersB_at (t : List UInt8) (i : Nat) (hi : i < t.length) (h : lettersB t = true) : 97 ≤ (t[i]).toNat ∧ (t[i]).toNat ≤ 122 := by
  have := List.all_eq_true.1 h (t[i]) (List.getElem_mem hi)
  simpa using this
theorem mk_at (t : List UInt8) (i : Nat) (h : i < (⟨t.toArray⟩ : ByteArray).size) : (⟨t.toArray⟩ : ByteArray)[i]'h = t[i]'(by rw [mk_size] at h; exact h) := rfl
theorem letV_bound (t : List UInt8) : ∀ k, t.length ≤ k → (∀ b ∈ t, b.toNat ≤ 122) → letV t < 27 ^ k := by
  intro k
  induction k generalizing t with
  | zero =>
    intro h _
    have : t = [] := List.eq_nil_of_length_eq_zero (by omega)
    subst this
    decide
  | succ k ih =>
    intro h hm
    rcases List.eq_nil_or_concat t with rfl | ⟨r, b, rfl⟩
    · show 0 < 27 ^ (k + 1)
      exact Nat.pos_of_ne_zero (by simp)
    · rw [List.concat_eq_append] at h hm ⊢
      rw [letV_snoc]
      have h1 := ih r (by simp at h; omega) (fun x hx => hm x (by simp [hx]))
      have h2 := hm b (by simp)
      rw [Nat.pow_succ]
      omega
theorem let_round (t : List UInt8) (pos : Nat) (v : Int) (hp : pos < t.length) (hl : 97 ≤ (t[pos]).toNat ∧ (t[pos]).toNat ≤ 122) (hv : lettersB t = true → t.length ≤ 9 → v = (letV (t.take pos) : Int)) :
    ∃ (C D E : Int), ((t[pos]).toNat : Int) = C ∧ ¬ C < 97 ∧ ¬ 122 < C ∧ IntKind.i32.wrap (C - 97) = D ∧ IntKind.i64.wrap D = D ∧ wrap64 D = D ∧ wrap64 (wrap64 (wrap64 (v * 26) + D) + 1) = E ∧ (lettersB t = true → t.length ≤ 9 → E = (letV (t.take (pos + 1)) : Int)) := by
  refine ⟨_, _, _, rfl, by omega, by omega, wrap32_same _ (by omega) (by omega), by rw [i64_is]; exact wrap_same _ (by omega) (by omega), wrap_same _ (by omega) (by omega), rfl, ?_⟩
  intro h1 h2
  have e := hv h1 h2
  have hb := letV_bound (t.take pos) 9 (by simp; omega) (fun b hb => by
    have := List.all_eq_true.1 h1 b (List.mem_of_mem_take hb)
    simp at this
    exact this.2)
  have h27 : 27 ^ 9 = 7625597484987 := by decide
  rw [h27] at hb
  rw [List.take_add_one, List.getElem?_eq_getElem hp, Option.toList_some, letV_snoc, e]
  clear hv e
  generalize letV (t.take pos) = V at *
  generalize (t[pos]).toNat = c at *
  have a1 : wrap64 ((V : Int) * 26) = (V : Int) * 26 := wrap_same _ (by omega) (by omega)
  have a2 : wrap64 ((V : Int) * 26 + ((c : Int) - 97)) = (V : Int) * 26 + ((c : Int) - 97) := wrap_same _ (by omega) (by omega)
  rw [a1, a2, wrap_same _ (by omega) (by omega)]
  omega
theorem let_stop (t : List UInt8) (pos : Nat) (hp : pos < t.length) (hl : ¬ (97 ≤ (t[pos]).toNat ∧ (t[pos]).toNat ≤ 122)) (hp' : pos < (⟨t.toArray⟩ : ByteArray).size) : ∃ (C : Int) (k : Nat), ((Utf8.decode ⟨t.toArray⟩ pos).1 : Int) = C ∧ (Utf8.decode ⟨t.toArray⟩ pos).2 = k ∧ (C < 97 ∨ ¬ C < 97 ∧ 122 < C) := by
  refine ⟨_, _, rfl, rfl, ?_⟩
  by_cases ha : (t[pos]).toNat < 128
  · rw [decode_ascii ⟨t.toArray⟩ pos hp' (by rw [mk_at]; exact ha), mk_at]
    show ((t[pos]).toNat : Int) < 97 ∨ _
    simp only
    omega
  · have := (decode_high ⟨t.toArray⟩ pos hp' (by rw [mk_at]; omega)).1
    omega
set_option maxRecDepth 100000 in
set_option maxHeartbeats 1000000 in
theorem saidByLetters_any (s : ByteArray) (w : World) (hs : s.size ≤ 7) (hE : SEnv2 w) :
    Calls Tryd.prog 29 #[.string s] w fun e w' => (∃ x, e = .returned (.int .i64 x) ∧ (lettersB (Lib.toLowerD s.data.toList) = true → (Lib.toLowerD s.data.toList).length ≤ 9 → x = (letV (Lib.toLowerD s.data.toList) : Int))) ∧ Below w.heap.size w w' := by
  have HL := hide (Tryd.strings_ToLower_any s w (by omega) hE.cas hE.tabs)
  have hs' : ¬ 7 < (s.size : Int) := by omega
  clear hE
  generalize Lib.toLowerD s.data.toList = t at *
  go_enter Tryd.func29, Tryd.ntmps29
  go_wp2_with fail
  refine (unhide HL).mono ?_
  rintro e w1 ⟨rfl, hb1⟩
  clear HL
  go_wp2_with fail
  go_loopw [3] (fun v wr => ∃ (pos : Nat) (x : Int), wr = w1.iter ⟨t.toArray⟩ pos ∧ pos ≤ t.length ∧ v = .int .i64 x ∧ Hid (lettersB t = true → t.length ≤ 9 → x = (letV (t.take pos) : Int))) (fun _ wr => t.length - wr.iterPos w1.heap.size)
  case atStart => exact ⟨0, 0, rfl, Nat.zero_le _, rfl, hide (fun _ _ => rfl)⟩
  case round =>
    obtain ⟨pos, x, rfl, hpl, rfl, hx⟩ := hrel
    by_cases hp : pos < t.length
    · have hp' : pos < (⟨t.toArray⟩ : ByteArray).size := by rw [mk_size]; exact hp
      have hnx : ∀ ty, (Instr.next (.pointer (some ⟨w1.heap.size, 0, none⟩)) true ty).run Tryd.prog (w1.iter ⟨t.toArray⟩ pos) = _ := fun ty => run_next_any w1 ⟨t.toArray⟩ pos ty hp'
      by_cases hl : 97 ≤ (t[pos]).toNat ∧ (t[pos]).toNat ≤ 122
      · obtain ⟨C, D, E, hC, c1, c2, e1, e2, e3, e4, hE⟩ := let_round t pos x hp hl (unhide hx)
        have hd := decode_ascii ⟨t.toArray⟩ pos hp' (by rw [mk_at]; omega)
        rw [mk_at] at hd
        rw [hd] at hnx
        simp only [hC] at hnx
        have HE := hide hE
        clear hE hd hl hx hC
        go_wp2_with fail
        refine ⟨⟨pos + 1, E, rfl, hp, by rw [e4], HE⟩, ?_⟩
        rw [World.iterPos_iter, World.iterPos_iter]
        omega
      · obtain ⟨C, k, hC, hk, hc⟩ := let_stop t pos hp hl hp'
        simp only [hC, hk] at hnx
        have HS := hide (show ¬ (lettersB t = true) from fun h => hl (lettersB_at t pos hp h))
        clear hl hx hC hk
        rcases hc with hc | ⟨hc, hd⟩
        · go_wp2_with fail
          go_ret
          exact ⟨⟨0, rfl, fun h _ => absurd h (unhide HS)⟩, hb1.alloc hb1.size _⟩
        · go_wp2_with fail
          go_ret
          exact ⟨⟨0, rfl, fun h _ => absurd h (unhide HS)⟩, hb1.alloc hb1.size _⟩
    · have hnx : ∀ ty, (Instr.next (.pointer (some ⟨w1.heap.size, 0, none⟩)) true ty).run Tryd.prog (w1.iter ⟨t.toArray⟩ pos) = _ := fun ty => run_next_end w1 ⟨t.toArray⟩ pos ty (by rw [mk_size]; exact hp)
      go_wp2_with fail
      go_ret
      refine ⟨⟨x, rfl, ?_⟩, hb1.alloc hb1.size _⟩
      intro h1 h2
      have := unhide hx h1 h2
      rw [List.take_of_length_le (by omega)] at this
      exact this
set_option maxRecDepth 100000 in
set_option maxHeartbeats 1000000 in
theorem saidByLetters_long (s : ByteArray) (w : World) (hs : ¬ s.size ≤ 7) :
    Calls Tryd.prog 29 #[.string s] w fun e w' => e = .returned (.int .i64 0) ∧ Below w.heap.size w w' := by
  have hs' : 7 < (s.size : Int) := by omega
  go_enter Tryd.func29, Tryd.ntmps29
  go_wp2
  go_ret
  exact ⟨rfl, Below.refl _ _⟩
end Go.Proofs.YtmjjckindnffdaaDoor
