/- Blanks as spaces: xmlscan's spaced. -/
import Derived.Test.YtkklapoceknbcaaGreatDoorXmlRefs
import Derived.Shelf.Strings.MapAny
namespace Go.Proofs.YtkklapoceknbcaaGreatDoor
open Go.RowKit
def spaceZ (r : Int) : Int := if blankB r then 32 else r
theorem spaced1_any (r : Int) (w : World) : Calls Tryz.prog 143 #[.int .i32 r] w fun e w' => e = .returned (.int .i32 (spaceZ r)) ∧ w' = w := by
  have HD : Hid (spaceZ r = if blankB r then 32 else r) := hide rfl
  cases hb : blankB r
  · have HE := hide (unhide HD)
    rw [hb, if_neg (by decide)] at HE
    have HB := hide hb
    clear hb
    go_enter Tryz.func143, Tryz.ntmps143
    go_wp2_with (go_at_call 70; refine (isBlank_any r _).mono ?_; rintro e w1 ⟨rfl, rfl⟩; rw [unhide HB])
    go_ret
    exact ⟨by rw [unhide HE]; rfl, rfl⟩
  · have HE := hide (unhide HD)
    rw [hb, if_pos rfl] at HE
    have HB := hide hb
    clear hb
    go_enter Tryz.func143, Tryz.ntmps143
    go_wp2_with (go_at_call 70; refine (isBlank_any r _).mono ?_; rintro e w1 ⟨rfl, rfl⟩; rw [unhide HB])
    go_ret
    exact ⟨by rw [unhide HE]; rfl, rfl⟩
theorem spaced1_runes (w : World) : MapAtRunes Tryz.prog 143 #[] spaceZ w := fun W x _ _ => by
  refine (spaced1_any x W).mono ?_
  rintro e w' ⟨rfl, rfl⟩
  exact ⟨rfl, 0, rfl⟩
theorem spaced1_enters : ∀ args w, (callFunc 143 args).run Tryz.prog w = .ok (.enter 143 args) w := fun _ _ => by kernel_rfl
theorem spaceZ_nat (c : Nat) : spaceZ (c : Int) = (spaceC c : Nat) := by
  unfold spaceZ spaceC
  rw [blankC_eq]
  split <;> rfl
theorem encRune (c : Nat) : Lib.encodeRune (c : Int) = runeB c := rfl
theorem mapGo_tx : ∀ (l : List Nat) (n : Nat), okL l → (tx l).length ≤ n → Lib.mapGoD spaceZ n (tx l) = tx (l.map spaceC)
  | [], 0, _, _ => rfl
  | [], n + 1, _, _ => by
    unfold Lib.mapGoD
    rw [if_pos (show tx [] = [] from rfl)]; rfl
  | c :: t, 0, h, hn => by
    have := runeB_pos (h c (List.mem_cons_self ..))
    have e : (tx (c :: t)).length = (runeB c).length + (tx t).length := by simp [tx]
    omega
  | c :: t, n + 1, h, hn => by
    have hc := h c (List.mem_cons_self ..)
    have hp := runeB_pos hc
    have e : (tx (c :: t)).length = (runeB c).length + (tx t).length := by simp [tx]
    have ed : Lib.decodeL (tx (c :: t)) = (c, (runeB c).length) := by
      show Lib.decodeL (runeB c ++ tx t) = _
      exact dec_rune c (charR_ok hc) _
    unfold Lib.mapGoD
    rw [if_neg (fun e0 => by rw [e0] at e; simp at e; omega), ed]
    show (if 0 ≤ spaceZ (c : Int) then Lib.encodeRune (spaceZ (c : Int)) else []) ++ Lib.mapGoD spaceZ n ((runeB c ++ tx t).drop (runeB c).length) = _
    rw [spaceZ_nat, if_pos (by omega), encRune, List.drop_left, mapGo_tx t n (okL_tail h) (by omega)]
    rfl
theorem okL_space {l : List Nat} (h : okL l) : okL (l.map spaceC) := by
  intro c hc
  obtain ⟨x, hx, rfl⟩ := List.mem_map.1 hc
  unfold spaceC
  split
  · decide
  · exact h x hx
theorem sz_space : ∀ {l : List Nat}, okL l → (T (l.map spaceC)).size = (T l).size
  | [], _ => rfl
  | c :: t, h => by
    have ih := sz_space (okL_tail h)
    rw [T_size, T_size] at ih ⊢
    have e1 : (tx ((c :: t).map spaceC)).length = (runeB (spaceC c)).length + (tx (t.map spaceC)).length := by simp [tx]
    have e2 : (tx (c :: t)).length = (runeB c).length + (tx t).length := by simp [tx]
    have e3 : (runeB (spaceC c)).length = (runeB c).length := by
      unfold spaceC
      split
      · rename_i hb
        have : c < 128 := by
          unfold blankC at hb
          simp at hb
          omega
        rw [runeB_one this, runeB_one (by omega)]
        rfl
      · rfl
    omega
set_option maxHeartbeats 1000000 in
theorem spaced_any (l : List Nat) (w : World) (hl : okL l) (hs : (T l).size ≤ 32768) (hE : Env w) :
    Calls Tryz.prog 120 #[.string (T l)] w fun e w' => e = .returned (.string (T (l.map spaceC))) ∧ Below w.heap.size w w' := by
  have HM : Hid (∀ W, Below w.heap.size w W → Calls Tryz.prog 142 #[.func (.func 143) #[] #[], .string (T l)] W fun e w' => e = .returned (.string (T (l.map spaceC))) ∧ Below W.heap.size W w') := by
    refine hide fun W hW => (Tryz.strings_Map_runes 143 #[] spaced1_enters spaceZ (T l) W (by omega) (spaced1_runes W) (fun x hx => ?_) (hE.below hW).tabs).mono ?_
    · rw [spaceZ_nat]
      unfold spaceC
      split <;> omega
    · rintro e w' ⟨rfl, hb⟩
      refine ⟨?_, hb⟩
      rw [T_data]
      unfold Lib.mapD
      rw [mapGo_tx l _ hl (Nat.le_refl _)]
      rfl
  clear hE
  go_enter Tryz.func120, Tryz.ntmps120
  go_wp2_with (go_at_call 142; refine (unhide HM _ (by (repeat first | assumption | with_reducible exact Below.refl _ _ | refine Below.drew ?_))).mono ?_; rintro e w1 ⟨rfl, hb1⟩)
  go_ret
  exact ⟨rfl, hb1⟩
end Go.Proofs.YtkklapoceknbcaaGreatDoor
