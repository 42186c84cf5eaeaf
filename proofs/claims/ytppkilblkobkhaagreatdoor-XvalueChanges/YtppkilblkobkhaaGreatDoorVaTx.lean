/- law07.text: a function of texts, by what Call tells of it. -/
import Derived.Test.YtppkilblkobkhaaGreatDoorVaFn
import Derived.OwnWalk
import Derived.Deep.AppendLies
namespace Go.Proofs.YtppkilblkobkhaaGreatDoor
open Go.RowKit
abbrev OwnV (w : World) (B : Nat) (v : Value) (l : List PV) : Prop := w.ownsRow B 34 6 v l.length (l.flatMap PV.cells)
theorem ownV_on {w w' : World} {B : Nat} {v : Value} {l : List PV} (h : OwnV w B v l) (hb : Below w.heap.size w w') : OwnV w' B v l := by
  refine ⟨h.1, ?_⟩
  rcases h.2 with h | ⟨g, cap, cur, h1, h2, h3, h4⟩
  · exact .inl h
  · exact .inr ⟨g, cap, cur, h1, h2, block_kept h3 hb, h4⟩
theorem ownV_ge {w : World} {B : Nat} {v : Value} {l : List PV} (h : OwnV w B v l) : ∀ k, v.ownBlock = some k → B ≤ k := by
  intro k hk
  rcases h.2 with ⟨rfl, _⟩ | ⟨g, cap, cur, rfl, h2, _⟩
  · simp [Value.ownBlock] at hk
  · simp [Value.ownBlock] at hk; omega
theorem ownV_vals {w : World} {B : Nat} {v : Value} {l : List PV} (h : OwnV w B v l) (hl : l ≠ []) : ∃ g cap, v = .slice (some ⟨g, 0, none⟩) l.length cap ∧ ValsAt w g 0 l := by
  have hc := @World.ownsRow.cells _ _ _ _ _ _ _ h
  rcases h.2 with ⟨rfl, h0⟩ | ⟨g, cap, cur, rfl, h2, h3, h4⟩
  · exact absurd (List.length_eq_zero_iff.1 h0) hl
  · refine ⟨g, cap, rfl, fun i x hx j u hu => ?_⟩
    have a0 := hc (g := g) rfl _ _ (flat_at l i x hx j u hu)
    rw [Addr.add_mid] at a0
    rw [Nat.zero_add]
    simpa using a0
theorem infoVal : (Tryz.prog.info? 34).map (fun i => (i.zero, i.size, i.bytes)) = some (some (.agg #[.int .i64 0, .slice none 0 0, .int .i64 0, .int .i64 0, .string ⟨#[]⟩, .bool false]), 6, 72) := by kernel_rfl
theorem val_news (w : World) (z : ByteArray) (ty : Nat) : ∀ j u, (txtP z).cells[j]? = some u → (w.alloc (.cells #[.int .i64 2, .slice none 0 0, .int .i64 0, .int .i64 0, .string z, .bool false] ty)).cell? ((⟨w.heap.size, 0, none⟩ : Addr).add j) = some u :=
  World.news_of_block (cs := #[.int .i64 2, .slice none 0 0, .int .i64 0, .int .i64 0, .string z, .bool false]) (new_block w _)
theorem val_ones (z : ByteArray) : ∀ u ∈ (txtP z).cells, u.oneCell' = true := by
  intro u hu
  simp [PV.cells, txtP] at hu
  rcases hu with rfl | rfl | rfl | rfl | rfl | rfl <;> rfl
theorem take_snoc {α : Type} (l : List α) (k : Nat) (x : α) (h : l[k]? = some x) : l.take k ++ [x] = l.take (k + 1) := by
  rw [List.take_add_one, h]; rfl
set_option maxRecDepth 100000 in
set_option maxHeartbeats 4000000 in
theorem text_law (nm : ByteArray) (L : List ByteArray) (gl cl : Nat) (t : ByteArray) (w : World) (hlen : L.length ≤ 8) (hne : L ≠ []) (hL : ∀ (i : Nat) (z : ByteArray), L[i]? = some z → w.cell? ⟨gl, i, none⟩ = some (.string z)) (nk nv : Int) (tb : Bool)
    (HC : ∀ W g cap, Below w.heap.size w W → ValsAt W g 0 (L.map txtP) → Calls Tryz.prog 13 #[.pointer none, .string nm, .slice (some ⟨g, 0, none⟩) L.length cap] W fun e w' => e = .returned (.tuple #[.agg #[.int .i64 2, .slice none 0 0, .int .i64 nk, .int .i64 nv, .string t, .bool tb], .int .i64 0]) ∧ Below W.heap.size W w') :
    Calls Tryz.prog 12 #[.string nm, .slice (some ⟨gl, 0, none⟩) L.length cl] w fun e w' => e = .returned (.tuple #[.string t, .bool true]) ∧ Below w.heap.size w w' := by
  have HO := hide ofText_any
  have HCC := hide HC
  have HL := hide hL
  clear HC hL
  obtain ⟨iX, z1, z2, z3, z4⟩ := info_parts infoVal
  have HI0 : Hid (OwnV w w.heap.size (.slice none 0 0) ((L.map txtP).take 0)) := hide (World.ownsRow_nil _ _ _ _)
  go_enter Tryz.func12, Tryz.ntmps12
  go_wp2_with fail
  go_loopw [6, 7] (fun v i wr => ∃ k : Nat, i = .int .i64 (k : Nat) ∧ k ≤ L.length ∧ Below w.heap.size w wr ∧ OwnV wr w.heap.size v ((L.map txtP).take k)) (fun _ i _ => L.length - (intOf i).toNat)
  case atStart => exact ⟨0, rfl, Nat.zero_le _, Below.refl _ _, unhide HI0⟩
  case round =>
    obtain ⟨k, rfl, hk, hb, hown⟩ := hrel
    by_cases hkl : k < L.length
    · have n1 : (0 : Int) ≤ (k : Int) := by omega
      have n2 : (k : Int) < (L.length : Int) := by omega
      obtain ⟨z, hz⟩ : ∃ z, L[k]? = some z := ⟨L[k], List.getElem?_eq_getElem hkl⟩
      have hc := kept_cell hb (unhide HL k z hz)
      have hw1 := wrap_up k (by omega)
      have HB := hide hb
      have HOW := hide hown
      have HZ := hide hz
      clear hb hown hz
      go_wp2_with fail
      refine (unhide HO _ _).mono ?_
      rintro e w1 ⟨rfl, hb1⟩
      have e2 : ((L.map txtP).take k).length = k := by rw [List.length_take, List.length_map]; omega
      have hx1 := ownV_on (unhide HOW) hb1
      have HGE := hide (ownV_ge hx1)
      unfold OwnV at hx1
      rw [e2] at hx1
      have HX1 := hide hx1
      clear hx1 e2
      have HB1 := hide (Below.then (unhide HB) hb1)
      have hs1 := (unhide HB1).size
      clear hb1 hc
      go_wp2_with (at_builtin; refine wpList_append_own _ rfl _ _ 53 rfl w.heap.size 34 iX _ 6 72 Tryz.underlying53 z1 z2 z3 z4 rfl (by decide) _ _ _ rfl ((unhide HX1).alloc _) ⟨w1.heap.size, 0, none⟩ 1 1 (txtP z).cells rfl rfl (val_news w1 z _) (val_ones z) (by unfold maxLen; omega) (by omega) (by simp; omega) ?_)
      intro v8' w5 hown5 hgrow5 _
      have hbA : Below w.heap.size w (w1.alloc (.cells #[.int .i64 2, .slice none 0 0, .int .i64 0, .int .i64 0, .string z, .bool false] 34)) := (unhide HB1).alloc hs1 _
      have hb5 : Below w.heap.size w w5 := Below.grown hbA hgrow5 (by simp; omega) (unhide HGE)
      have HB5 := hide hb5
      have HO5 : Hid (OwnV w5 w.heap.size v8' ((L.map txtP).take (k + 1))) := hide (by
        have e1 : (L.map txtP)[k]? = some (txtP z) := by rw [List.getElem?_map, unhide HZ]; rfl
        rw [← take_snoc _ k _ e1]
        have e2 : ((L.map txtP).take k).length = k := by rw [List.length_take, List.length_map]; omega
        unfold OwnV
        rw [List.length_append, List.flatMap_append, e2]
        simpa using hown5)
      clear hbA hb5 hown5 hgrow5
      go_wp2
      go_roundw
      case rel => exact ⟨k + 1, by go_num, by omega, unhide HB5, unhide HO5⟩
      case measure => simp [intOf]; omega
    · have n2 : ¬ (k : Int) < (L.length : Int) := by omega
      have hkl2 : k = L.length := by omega
      rw [hkl2, show (L.map txtP).take L.length = L.map txtP by rw [← List.length_map (f := txtP)]; exact List.take_length] at hown
      obtain ⟨gv, cv, rfl, hvals⟩ := ownV_vals hown (by simpa using hne)
      rw [List.length_map]
      have HC5 := hide (unhide HCC wr gv cv hb hvals)
      have HB := hide hb
      clear hown hvals hb HCC hkl2
      go_wp2_with fail
      refine (unhide HC5).mono ?_
      rintro e w1 ⟨rfl, hb1⟩
      have HB1 := hide (Below.then (unhide HB) hb1)
      clear hb1 HC5
      obtain ⟨W2, hW2⟩ : ∃ W2, w1.alloc (.cells #[.int .i64 2, .slice none 0 0, .int .i64 nk, .int .i64 nv, .string t, .bool tb] 34) = W2 := ⟨_, rfl⟩
      have hb2 : Below w1.heap.size w1 W2 := by rw [← hW2]; exact (Below.refl _ _).alloc (Nat.le_refl _) _
      have hz2 : W2.heap[w1.heap.size]? = some (.cells #[.int .i64 2, .slice none 0 0, .int .i64 nk, .int .i64 nv, .string t, .bool tb] 34 (0, 0)) := by rw [← hW2]; exact new_block _ _
      have HX : Hid (ClsV W2 W2.drew) := hide ⟨(Below.refl _ _).drew⟩
      have HCE : Hid (∀ w', ClsV W2 w' → w'.cell? ⟨w1.heap.size, 0, none⟩ = some (.int .i64 2) ∧ w'.cell? ⟨w1.heap.size, 4, none⟩ = some (.string t)) := hide fun w' hC => ⟨kept_cell hC.bel (blk_c hz2 0), kept_cell hC.bel (blk_c hz2 4)⟩
      have HB2 := hide (Below.then (unhide HB1) hb2)
      have HW2 := hide hW2
      clear hb2 hz2 HB1 hW2
      go_wp2_with fail
      rw [unhide HW2]
      refine wp_region_cls (ClsV W2) (by kernel_rfl) (by kernel_rfl) (unhide HX) ?_
      repeat
        (first
          | go_big_quiet_skip
          | (go_big_quiet_want
             go_big_quiet_op
             first
               | go_big_quiet_on
               | (apply Exists.intro
                  refine ⟨fun w' hC => ?_, ?_⟩
                  · (obtain ⟨k0, k1⟩ := unhide HCE _ hC; go_simp; first | done | rfl)
                  go_big_quiet_on)))
      refine wpQuiet_nil ?_
      intro w4 hC4
      have hB4 := Below.then (unhide HB2) hC4.bel
      clear HCE hC4 HX HW2 HB2
      go_wp2
      refine bodyPost_ret (v := .tuple #[.string t, .bool true]) (by simp [results, Tryz.results12, go_sem]) rfl ⟨rfl, hB4⟩
end Go.Proofs.YtppkilblkobkhaaGreatDoor
