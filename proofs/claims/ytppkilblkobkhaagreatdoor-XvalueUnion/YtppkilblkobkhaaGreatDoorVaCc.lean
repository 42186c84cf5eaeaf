/- slices.Concat of two rows of numbers. -/
import Derived.Test.YtppkilblkobkhaaGreatDoorVaAd
import Derived.Lib.AppendZerosOnto
namespace Go.Proofs.YtppkilblkobkhaaGreatDoor
open Go.RowKit
set_option maxRecDepth 100000 in
set_option maxHeartbeats 2000000 in
theorem grow_int (n : Nat) (hn2 : n ≤ 9000000) (w : World) :
    Calls Tryz.prog 24 #[.slice none 0 0, .int .i64 (n : Nat)] w fun e w' => (∃ u, e = .returned u ∧ OwnI w' w.heap.size u []) ∧ Below w.heap.size w w' := by
  by_cases hn : n = 0
  · subst hn
    have HNIL : Hid (OwnI w w.heap.size (.slice none 0 0) []) := hide (World.ownsRow_nil _ _ _ _)
    go_enter Tryz.func24, Tryz.ntmps24
    go_wp2
    go_ret
    exact ⟨⟨_, rfl, unhide HNIL⟩, Below.refl _ _⟩
  obtain ⟨i0, hi, hz0, hz1, hz2⟩ := info_parts infoInt
  have hold : (Builtin.firstCells i0.size 0 (.slice none 0 0)).run Tryz.prog w.drew = .ok ([] : List Value).toArray w.drew := run_firstCells_none w.drew i0.size 0 0 0
  have hrz : ∀ ty, (Builtin.append_ #[22, 3] ty #[.slice none 0 0, .int .i64 (n : Int)]).run Tryz.prog w = .ok (.slice (some ⟨w.heap.size, 0, none⟩) n (grownCap w n 0 3)) (w.drew.alloc (.cells (#[] ++ Builtin.zeroCells (Value.int .i64 0).cells n ++ Builtin.zeroCells (Value.int .i64 0).cells (grownCap w n 0 3 - n)) 3)) := fun ty => by
    have h := Lib.run_append_grow_zeros w 22 3 ty 3 i0 (.int .i64 0) .i64 .i64 Tryz.underlying22 Tryz.underlying3 hi hz0 none 0 0 [] hold n (by omega) (by rw [hz1]; decide) (by omega) (by omega) (by rw [hz2]; omega) (growslice_fits (by omega) (by rw [hz2]; omega))
    rw [Nat.zero_add] at h
    exact h
  have hGn : n ≤ grownCap w n 0 3 := grownCap_ge w _ _ _
  have hGm := grownCap_le_maxLen w n 0 3 (by unfold maxLen; omega)
  generalize grownCap w n 0 3 = G at *
  have hG63 : G ≤ 9223372036854775807 := by unfold maxLen at hGm; omega
  have n1 : ¬ (n : Int) < 0 := by omega
  have n2 : (0 : Int) < (n : Int) := by omega
  have hcz : (Value.int .i64 0).cells.size = 1 := rfl
  have HOWN : Hid (∀ c : Array Value, c.size = G * 1 → OwnI (w.alloc (.cells c 3)).drew w.heap.size (.slice (some ⟨w.heap.size, 0, none⟩) 0 G) []) := hide fun c hc => ⟨rfl, .inr ⟨w.heap.size, G, c, rfl, Nat.le_refl _, new_block w _, Nat.zero_le _, hGm, hc, rfl⟩⟩
  generalize (Value.int .i64 0).cells = cs at *
  clear hold hGm
  go_enter Tryz.func24, Tryz.ntmps24
  go_wp2_with (at_builtin; refine Lib.wpList_append_run _ rfl _ _ _ _ rfl _ _ rfl rfl _ _ (hrz _) ?_)
  all_goals (go_ret; exact ⟨⟨_, rfl, unhide HOWN _ (by simp [Builtin.zeroCells, hcz]; omega)⟩, ((Below.refl _ _).alloc (Nat.le_refl _) _).drew⟩)
def catI (l m : List Int) : Nat → List Int
  | 0 => []
  | 1 => l
  | _ => l ++ m
def pickI (l m : List Int) (k : Nat) : List Int := if k = 0 then l else m
theorem catI_step (l m : List Int) (k : Nat) (h : k < 2) : catI l m k ++ pickI l m k = catI l m (k + 1) := by
  rcases (show k = 0 ∨ k = 1 by omega) with rfl | rfl <;> simp [catI, pickI]
theorem catI_le (l m : List Int) (k : Nat) : (catI l m k).length ≤ l.length + m.length := by
  unfold catI
  split <;> simp
set_option maxRecDepth 100000 in
set_option maxHeartbeats 4000000 in
theorem concatI_any (v u : Value) (l m : List Int) (gs cap : Nat) (w : World) (h0 : w.cell? ⟨gs, 0, none⟩ = some v) (h1 : w.cell? ⟨gs, 1, none⟩ = some u) (hv : IntsV w v l) (hu : IntsV w u m) (hl : l.length + m.length ≤ 8000000) :
    Calls Tryz.prog 17 #[.slice (some ⟨gs, 0, none⟩) 2 cap] w fun e w' => (∃ r, e = .returned r ∧ OwnI w' w.heap.size r (l ++ m)) ∧ Below w.heap.size w w' := by
  have HP : Hid (∀ (W : World) (k : Nat), Below w.heap.size w W → k < 2 → ∃ a c, W.cell? ⟨gs, k, none⟩ = some (.slice a (pickI l m k).length c) ∧ IntsV W (.slice a (pickI l m k).length c) (pickI l m k)) := hide fun W k hb hk => by
    rcases (show k = 0 ∨ k = 1 by omega) with rfl | rfl
    · obtain ⟨a, c, e, _⟩ := hv.on hb
      exact ⟨a, c, by rw [kept_cell hb h0, e]; rfl, by have h := hv.on hb; rw [e] at h; exact h⟩
    · obtain ⟨a, c, e, _⟩ := hu.on hb
      exact ⟨a, c, by rw [kept_cell hb h1, e]; rfl, by have h := hu.on hb; rw [e] at h; exact h⟩
  clear h0 h1 hv hu
  go_enter Tryz.func17, Tryz.ntmps17
  go_wp2_with fail
  go_loopw [3, 11] (fun a i wr => ∃ k : Nat, a = .int .i64 ((catI l m k).length : Nat) ∧ i = .int .i64 (k : Nat) ∧ k ≤ 2 ∧ wr = w) (fun _ i _ => 2 - (intOf i).toNat)
  case atStart => exact ⟨0, rfl, rfl, Nat.zero_le _, rfl⟩
  case round =>
    obtain ⟨k, rfl, rfl, hk, rfl⟩ := hrel
    by_cases hlt : k < 2
    · obtain ⟨a, c, hc, _⟩ := unhide HP wr k (Below.refl _ _) hlt
      have n1 : (0 : Int) ≤ (k : Int) := by omega
      have n2 : (k : Int) < 2 := by omega
      have hfl : (catI l m (k + 1)).length = (catI l m k).length + (pickI l m k).length := by rw [← catI_step l m k hlt, List.length_append]
      have hle := catI_le l m (k + 1)
      have HFL := hide hfl
      have hb1 : (catI l m k).length + (pickI l m k).length ≤ 8000000 := by omega
      clear hfl hle
      generalize (catI l m k).length = A at *
      generalize (pickI l m k).length = B' at *
      go_wp2_with fail
      exact ⟨⟨k + 1, by rw [unhide HFL]; simp, by simp, by omega, trivial⟩, by simp [intOf]; omega⟩
    · have n2 : ¬ (k : Int) < 2 := by omega
      have hk2 : k = 2 := by omega
      subst hk2
      have hNN : (catI l m 2).length = l.length + m.length := by show (l ++ m).length = _; rw [List.length_append]
      have HG := hide (grow_int (catI l m 2).length (by omega) wr)
      have HNN := hide hNN
      clear hNN
      go_wp2_with fail
      refine (unhide HG).mono ?_
      rintro e w1 ⟨⟨r, rfl, hr⟩, hb1⟩
      have HI0 : Hid (Below wr.heap.size wr w1 ∧ OwnI w1 wr.heap.size r (catI l m 0)) := hide ⟨hb1, hr⟩
      clear hr hb1
      go_wp2_with fail
      go_loopw [6, 27] (fun a i W => ∃ k : Nat, i = .int .i64 (k : Nat) ∧ k ≤ 2 ∧ Below wr.heap.size wr W ∧ OwnI W wr.heap.size a (catI l m k)) (fun _ i _ => 2 - (intOf i).toNat)
      case atStart => exact ⟨0, rfl, Nat.zero_le _, unhide HI0⟩
      case round =>
        clear HI0
        rename World => wq
        obtain ⟨j, rfl, hj, hb, hown⟩ := hrel
        by_cases hlt : j < 2
        · obtain ⟨a, c, hc, hI⟩ := unhide HP wq j hb hlt
          have n1 : (0 : Int) ≤ (j : Int) := by omega
          have n3 : (j : Int) < 2 := by omega
          have hsz := hb.size
          have HB := hide hb
          have HO := hide hown
          have HI := hide hI
          have HGE := hide (ownI_ge hown)
          have HLEN : Hid ((catI l m j).length + (pickI l m j).length ≤ 20000000) := hide (by
            rw [← List.length_append, catI_step l m j hlt]
            have := catI_le l m (j + 1)
            omega)
          obtain ⟨au, cu, rfl, _⟩ := ownI_room hown
          clear hb hown hI
          generalize hPL : (pickI l m j).length = PL at *
          generalize hLL : (catI l m j).length = LL at *
          go_wp2_with (at_builtin; refine wpList_app_ints rfl _ _ rfl wr.heap.size _ _ (catI l m j) (pickI l m j) rfl rfl (unhide HO) (unhide HI) (by rw [hPL, hLL]; exact unhide HLEN) hsz ?_)
          intro v8 w8 hown8 hgrow8
          have hbg : Below wr.heap.size wr w8 := (unhide HB).grown hgrow8 hsz (fun i hi => unhide HGE i hi)
          rw [catI_step l m j hlt] at hown8
          have HB8 := hide hbg
          have HO8 := hide hown8
          clear hbg hown8 hgrow8
          go_wp2_with fail
          exact ⟨⟨j + 1, by simp, by omega, unhide HB8, unhide HO8⟩, by simp [intOf]; omega⟩
        · have n3 : ¬ (j : Int) < 2 := by omega
          have hj2 : j = 2 := by omega
          subst hj2
          have HB := hide hb
          have HO : Hid (OwnI wq wr.heap.size _ (l ++ m)) := hide hown
          clear hb hown
          go_wp2
          go_ret
          exact ⟨⟨_, rfl, unhide HO⟩, unhide HB⟩
end Go.Proofs.YtppkilblkobkhaaGreatDoor
