/- XsortOnce: each place is told once; what is ordered is ordered. -/
import Derived.Test.YtoeahagloobmoaaDoorLawRows
import Derived.Test.YtoeahagloobmoaaDoorSortLive
namespace Go.Proofs.YtoeahagloobmoaaDoor
open Go.RowKit
/-- Which places were met. -/
def seenF (r : Rw) (i j : Nat) : Value := .bool ((List.range i).any fun k => r k == j)
theorem seenF_none (r : Rw) (j : Nat) : seenF r 0 j = .bool false := rfl
theorem seenF_new {r : Rw} {m i : Nat} (h : ∀ i j, i < m → j < m → r i = r j → i = j) (hi : i < m) : seenF r i (r i) = .bool false := by
  unfold seenF
  congr 1
  rw [List.any_eq_false]
  intro k hk
  have hk' := List.mem_range.1 hk
  simp
  intro e
  have := h k i (by omega) hi e
  omega
theorem seenF_step (r : Rw) (i j : Nat) : seenF r (i + 1) j = if j = r i then .bool true else seenF r i j := by
  unfold seenF
  rw [List.range_succ, List.any_append]
  by_cases e : j = r i
  · rw [if_pos e]
    simp [e]
  · rw [if_neg e]
    have : (r i == j) = false := beq_eq_false_iff_ne.2 fun h => e h.symm
    simp [this]
theorem row_apart {w : World} {b : Nat} {t : TypeId} {n : Nat} {f : Nat → Value} {B : Nat} {e : TypeId} {size : Nat} {v : Value} {k : Nat} {xs : List Value} (h : w.rowIs b t n f) (h' : w.ownsRow B e size v k xs) (hte : t ≠ e) : some b ≠ v.ownBlock := by
  intro hb
  obtain ⟨c, hc, _⟩ := h
  rcases h'.2 with ⟨k0, _⟩ | ⟨g, cap, cur, k1, k2, k3, k4⟩
  · rw [k0] at hb
    simp [Value.ownBlock] at hb
  · rw [k1] at hb
    simp [Value.ownBlock] at hb
    subst hb
    rw [hc] at k3
    cases k3
    exact hte rfl
theorem set_news (w : World) (a : Addr) (z y : Value) (ty : Nat) : ∀ j u, ([y] : List Value)[j]? = some u → ((w.setCell a z).alloc (.cells #[y] ty)).cell? ((⟨w.heap.size, 0, none⟩ : Addr).add j) = some u := by
  intro j u hj
  rw [Addr.add_mid, Nat.zero_add]
  match j, hj with
  | 0, hj => simp at hj; subst hj; simp [go_sem]
theorem own_more {X : Nat → Value} (i : Nat) : (List.range i).map X ++ [X i] = (List.range (i + 1)).map X := by
  rw [List.range_succ, List.map_append]
  rfl
/-- The rows as they were sorted, behind the first one. -/
def behind (rows : Nat → List KeyD) (r : Rw) (j : Nat) : List KeyD := if j = 0 then rows 0 else rows (r (j - 1))
def behindX (X : Nat → Value) (r : Rw) (j : Nat) : Value := if j = 0 then X 0 else X (r (j - 1))
theorem rises {rows : Nat → List KeyD} {m k : Nat} {r rp : Rw} (hS : Srt (LexL fun x y => cmpRow (rows 0) (rows x) (rows y) < 0) 0 m r) (hk : k ≤ m + 1) (hlow : ∀ i, i < k → rp i < k) (hP : Srt (LexL fun x y => cmpRow (behind rows r 0) (behind rows r x) (behind rows r y) < 0) 0 k rp) (i j : Nat) (hij : i < j) (hj : j < k) (n1 : rp i ≠ 0) (n2 : rp j ≠ 0) : ¬ rp j < rp i := by
  intro hlt
  have hL := hP i j (Nat.zero_le _) hij hj
  have hv := hlow i (by omega)
  have h1 : LexL (fun x y => cmpRow (rows 0) (rows x) (rows y) < 0) (r (rp j - 1)) (r (rp i - 1)) := hS (rp j - 1) (rp i - 1) (Nat.zero_le _) (by omega) (by omega)
  have e0 : behind rows r 0 = rows 0 := rfl
  have e1 : behind rows r (rp i) = rows (r (rp i - 1)) := if_neg n1
  have e2 : behind rows r (rp j) = rows (r (rp j - 1)) := if_neg n2
  have h2 : LexL (fun x y => cmpRow (behind rows r 0) (behind rows r x) (behind rows r y) < 0) (rp j) (rp i) := by
    rcases h1 with h1 | ⟨h1, _⟩
    · refine .inl ?_
      show cmpRow (behind rows r 0) (behind rows r (rp j)) (behind rows r (rp i)) < 0
      rw [e0, e1, e2]
      exact h1
    · refine .inr ⟨?_, hlt⟩
      show ¬ cmpRow (behind rows r 0) (behind rows r (rp i)) (behind rows r (rp j)) < 0
      rw [e0, e1, e2]
      exact h1
  exact (lex_tot ((good_row (behind rows r 0)).of (behind rows r)).weak).asym hL h2
theorem own_new (w : World) (y : Value) (ty : TypeId) (B : Nat) (hB : B ≤ w.heap.size) : (w.alloc (.cells #[y] ty)).ownsRow B ty 1 (.slice (some ⟨w.heap.size, 0, none⟩) 1 1) 1 [y] :=
  ⟨rfl, .inr ⟨w.heap.size, 1, #[y], rfl, hB, heap_alloc_new w _, Nat.le_refl _, by unfold maxLen; omega, rfl, rfl⟩⟩
theorem behind_list (X : Nat → Value) (r : Rw) (m : Nat) : [X 0] ++ ((List.range m).map fun j => X (r j)) = (List.range (1 + m)).map (behindX X r) := by
  rw [Nat.add_comm, List.range_succ_eq_map, List.map_cons, List.map_map]
  rfl
set_option maxRecDepth 100000 in
set_option maxHeartbeats 4000000 in
theorem once_walk (ad : Option Addr) (n cap : Nat) (V : Nat → Value) (L : Nat → List KeyD) (w : World) (h : RowsArg w ad n V L) (hE : SEnv w) :
    Calls Tryd.prog 3 #[.slice ad n cap] w fun e w' => e = .returned (.bool true) ∧ Below w.heap.size w w' := by
  have HE := hide hE
  have HR := hide (rows_any ad n cap V L w h)
  clear hE h
  go_enter Tryd.func3, Tryd.ntmps3
  go_wp2_with fail
  refine (unhide HR).mono ?_
  rintro e w1 ⟨hout, hb1⟩
  rcases hout with rfl | ⟨m, va, vb, X, Y, hm, rfl, hA, hB, hRt⟩
  · have HB1 := hide hb1
    have HLV := hide (live_any w1 ((unhide HE).below hb1))
    clear hb1
    go_wp2_with fail
    refine (unhide HLV).mono ?_
    rintro e w4 ⟨rfl, hb4⟩
    go_wp2_with fail
    go_ret
    exact ⟨rfl, Below.then (unhide HB1) hb4⟩
  · have HA := hide hA.toV
    have HRT := hide hRt
    have HB1 := hide hb1
    have HO := hide (order_rows hA.toV hRt (by show ((L 0).take 6).length ≤ 1000; rw [List.length_take]; omega) (by omega))
    obtain ⟨ada, capa, rfl, hopa⟩ := hA.open
    have HOP := hide hopa
    have HM := hide hm
    clear hA hB hRt hb1 hopa hm
    go_wp2_with fail
    refine (unhide HO).mono ?_
    rintro e w2 ⟨q, r, rfl, hq, hr, hb2, hF, hS⟩
    have HF := hide (sorted_places hF)
    have HS := hide hS
    have HR1 := hide hr
    have HB2 := hide hb2
    have HQ := hide hq
    have hmk := fun w => run_make_row' (P := Tryd.prog) 29 4 (.bool false) 1 Tryd.underlying29 (by kernel_rfl) rfl .i64 .i64 m (by have := unhide HM; omega) (by have := unhide HM; omega) w
    clear hF hS hr HO hb2 hq
    go_wp2_with fail
    go_loopw [8, 9] (fun vs vi wr => ∃ i : Nat, vi = .int .i64 (i : Int) ∧ i ≤ m ∧ Hid (wr.ownsRow w2.heap.size 30 1 vs i ((List.range i).map fun j => X (r j))) ∧ Hid (wr.rowIs w2.heap.size 4 m (seenF r i)) ∧ Hid (i = 0 → vs = .slice none 0 0) ∧ Below w2.heap.size w2 wr) (fun _ vi _ => m - vNat vi)
    case atStart =>
      refine ⟨0, rfl, Nat.zero_le _, hide (World.ownsRow_nil _ _ _ _), hide ?_, hide (fun _ => rfl), (Below.refl _ _).alloc (Nat.le_refl _) _⟩
      exact (World.rowIs_made w2 (.bool false) m 4).congr fun j _ => (seenF_none r j).symm
    case round =>
      obtain ⟨i, rfl, hi1, hO, hSe, hNil, hbr⟩ := hrel
      by_cases hlt : i < m
      · have hlt' := nat_lt hlt
        have hri := (unhide HF).1 i hlt
        have hri' := nat_lt hri
        have hri0 : ¬ ((r i : Nat) : Int) < 0 := by omega
        have hri1 : ¬ (m : Int) ≤ ((r i : Nat) : Int) := by omega
        have o0 := kept_cell hbr (unhide HR1 i hlt).1
        have s0 := (unhide hSe).cell hri
        rw [seenF_new (unhide HF).2 hlt] at s0
        have s1 := (unhide hSe).frozen (r i)
        obtain ⟨g, rfl, hc⟩ := unhide HOP (by omega)
        have hbw := Below.then (unhide HB2) hbr
        have a0 := kept_cell hbw (hc _ hri)
        obtain ⟨ax, mx, cx, hXs⟩ := (unhide HA).isS _ hri
        rw [hXs] at a0
        have hap := row_apart (unhide hSe) (unhide hO) (by decide)
        have HSE2 := hide (show (wr.setCell ⟨w2.heap.size, r i, none⟩ (.bool true)).rowIs w2.heap.size 4 m (seenF r (i + 1)) from ((unhide hSe).set (r i) (.bool true)).congr fun j _ => (seenF_step r i j).symm)
        have HO2 := hide (ownsRow_setCell_other (unhide hO) (a := ⟨w2.heap.size, r i, none⟩) (fun e => hap e.symm) (.bool true))
        have HBS := hide (hbr.setCell (p := ⟨w2.heap.size, r i, none⟩) (Nat.le_refl _) (.bool true))
        have hsr := hbr.size
        have HXS := hide hXs
        have HLT := hide hlt
        have hm40 : m ≤ 40 := unhide HM
        obtain ⟨i0, z1, z2, z3, z4⟩ := info_parts infoRow
        have gne : g ≠ w2.heap.size := by
          have := block_lt_of_cell (hc _ hri)
          have := (unhide HB2).size
          show g ≠ w2.heap.size
          simp at *
          omega
        have qne : q ≠ w2.heap.size := by
          have := block_lt_of_cell (unhide HR1 i hlt).1
          show q ≠ w2.heap.size
          simp at *
          omega
        clear hc hbw hbr hO hSe hXs hap hri
        generalize hP : r i = P at *
        have HP := hide hP
        clear hP
        go_wp2_with (at_builtin; refine wpList_append_own _ rfl _ _ 22 rfl w2.heap.size 30 i0 _ 1 24 Tryd.underlying22 z1 z2 z3 z4 rfl (by decide) _ _ _ rfl ((unhide HO2).alloc _) ⟨wr.heap.size, 0, none⟩ 1 1 [.slice ax mx cx] rfl rfl (set_news wr _ _ _ _) (row_ones' _ _ _) (by unfold maxLen; omega) (by omega) (by simp; omega) ?_)
        intro v' w5 hown5 hgrow5 _
        have hbA : Below (wr.setCell ⟨w2.heap.size, P, none⟩ (.bool true)).heap.size (wr.setCell ⟨w2.heap.size, P, none⟩ (.bool true)) ((wr.setCell ⟨w2.heap.size, P, none⟩ (.bool true)).alloc (.cells #[.slice ax mx cx] 30)) := (Below.refl _ _).alloc (Nat.le_refl _) _
        have hap2 := row_apart ((unhide HSE2).alloc (.cells #[.slice ax mx cx] 30)) (own_below (unhide HO2) hbA) (by decide)
        have HSE5 := hide (((unhide HSE2).alloc (.cells #[.slice ax mx cx] 30)).of_block (hgrow5.block w2.heap.size (by simp; omega) hap2))
        have HO5 := hide (show w5.ownsRow w2.heap.size 30 1 v' (i + 1) ((List.range (i + 1)).map fun j => X (r j)) by
          rw [← own_more (X := fun j => X (r j)) i, unhide HP, unhide HXS]
          exact hown5)
        have HB5 := hide (Below.grown ((unhide HBS).trans (hbA.mono (by simp; omega))) hgrow5 (by simp; omega) (own_ge (unhide HO2)))
        have HM2 := hide (show m - (((i + 1 : Nat) : Int)).toNat < m - ((i : Nat) : Int).toNat by rw [Int.toNat_natCast, Int.toNat_natCast]; have := unhide HLT; omega)
        have HE1 := hide (show (i : Int) + 1 = ((i + 1 : Nat) : Int) by omega)
        clear hown5 hgrow5 hbA hap2
        go_wp2_with fail
        refine ⟨⟨i + 1, ?_, unhide HLT, HO5, HSE5, hide (fun h => absurd h (Nat.succ_ne_zero i)), unhide HB5⟩, ?_⟩
        · first | (rw [unhide HE1]) | rfl
        · first | (rw [unhide HE1]; exact unhide HM2) | exact unhide HM2
      · have hlt' := nat_nlt hlt
        obtain rfl : i = m := by omega
        have HBR := hide hbr
        have hsr := hbr.size
        have hm40 : i ≤ 40 := unhide HM
        clear hSe hbr hmk
        go_upto_if 79 with fail
        go_cut [8] (fun vs wx => ∃ (k : Nat) (X2 : Nat → Value), Hid (k ≤ i + 1) ∧ Hid (RowsV wx w2.heap.size vs k X2 (behind (sixOf L) r)) ∧ Hid (∀ j, j < k → rightL (behind (sixOf L) r j)) ∧ Below w2.heap.size w2 wx)
        case first =>
          rcases Nat.eq_zero_or_pos i with h0 | h0
          · obtain rfl := unhide hNil h0
            have h0' : ¬ (0 : Int) < (i : Int) := by omega
            have HX := hide (show RowsV wr w2.heap.size (.slice none 0 0) 0 (fun _ => .slice none 0 0) (behind (sixOf L) r) from RowsV.start _ _ _)
            clear h0 hlt'
            go_wp2_with fail
            go_meet
            exact ⟨0, _, hide (Nat.zero_le _), HX, hide (fun j hj => absurd hj (Nat.not_lt_zero j)), unhide HBR⟩
          · have h0' : (0 : Int) < (i : Int) := by omega
            obtain ⟨g, rfl, hc⟩ := unhide HOP h0
            have a0 := kept_cell (Below.then (unhide HB2) (unhide HBR)) (hc 0 h0)
            obtain ⟨ax, mx, cx, hX0⟩ := (unhide HA).isS 0 h0
            rw [hX0] at a0
            have HX0 := hide hX0
            obtain ⟨i0, z1, z2, z3, z4⟩ := info_parts infoRow
            obtain ⟨gs, cs, rfl⟩ : ∃ gs cs, u8 = .slice (some ⟨gs, 0, none⟩) i cs := by
              rcases (unhide hO).2 with ⟨_, hz⟩ | ⟨gs, cs, cur, e, _⟩
              · omega
              · exact ⟨gs, cs, e⟩
            have HNEW := hide (fun (o : Obj) => ((unhide hO).alloc o).cells (g := gs) rfl)
            have HONE := hide (show ∀ u ∈ ((List.range i).map fun j => X (r j)), u.oneCell' = true from fun u hu => by
              obtain ⟨j, hj, rfl⟩ := List.mem_map.1 hu
              obtain ⟨a1, m1, c1, e1⟩ := (unhide HA).isS _ ((unhide HF).1 j (List.mem_range.1 hj))
              rw [e1]
              rfl)
            have H0 := hide h0
            clear hc hX0 h0 hlt'
            go_wp2_with (at_builtin; refine wpList_append_own _ rfl _ _ 22 rfl w2.heap.size 30 i0 _ 1 24 Tryd.underlying22 z1 z2 z3 z4 rfl (by decide) _ _ _ rfl (own_new wr _ _ w2.heap.size hsr) ⟨gs, 0, none⟩ i cs ((List.range i).map fun j => X (r j)) rfl (by simp) (unhide HNEW _) (unhide HONE) (by unfold maxLen; omega) (by omega) (by simp; omega) ?_)
            intro v' w5 hown5 hgrow5 _
            have hb5 : Below w2.heap.size w2 w5 := Below.grown ((unhide HBR).alloc hsr _) hgrow5 (by simp; omega) (fun b hb => by simp [Value.ownBlock] at hb; omega)
            have hbw := Below.then (unhide HB2) hb5
            have HR2 := hide (show RowsV w5 w2.heap.size v' (1 + i) (behindX X r) (behind (sixOf L) r) from ⟨by
                rw [← behind_list, unhide HX0]
                exact hown5, fun h => absurd h (by omega), fun j hj => by
                unfold behindX
                by_cases c : j = 0
                · rw [if_pos c]
                  exact (unhide HA).isS 0 (unhide H0)
                · rw [if_neg c]
                  exact (unhide HA).isS _ ((unhide HF).1 (j - 1) (by omega)), fun j hj => by
                unfold behindX behind
                by_cases c : j = 0
                · rw [if_pos c, if_pos c]
                  exact ((unhide HA).keys 0 (unhide H0)).below hbw
                · rw [if_neg c, if_neg c]
                  exact ((unhide HA).keys _ ((unhide HF).1 (j - 1) (by omega))).below hbw⟩)
            have HRT2 := hide (show ∀ j, j < 1 + i → rightL (behind (sixOf L) r j) from fun j hj => by
              unfold behind
              by_cases c : j = 0
              · rw [if_pos c]
                exact unhide HRT 0 (unhide H0)
              · rw [if_neg c]
                exact unhide HRT _ ((unhide HF).1 (j - 1) (by omega)))
            have HB5 := hide hb5
            clear hown5 hgrow5 hb5 hbw
            go_wp2_with fail
            go_meet
            exact ⟨1 + i, _, hide (by omega), HR2, HRT2, unhide HB5⟩
        case rest =>
          obtain ⟨k, X2, hk, hR2, hRt2, hb3⟩ := hcut
          have HO2 := hide (order_rows (unhide hR2) (unhide hRt2) (by show ((L 0).take 6).length ≤ 1000; rw [List.length_take]; omega) (by have := unhide hk; omega))
          obtain ⟨ad2, cap2, rfl, _⟩ := (unhide hR2).open
          have HB3 := hide hb3
          clear hb3 hR2 hRt2
          go_wp2_with fail
          refine (unhide HO2).mono ?_
          rintro e w4 ⟨qp, rp, rfl, hqp, hrp, hb4, hFp, hSp⟩
          have HRISE := hide (rises (unhide HS) (unhide hk) (sorted_places hFp).1 hSp)
          have HFP := hide (sorted_places hFp).1
          have HRP := hide hrp
          have HB4 := hide hb4
          clear hFp hSp hrp hb4 hqp HO2
          go_wp2_with fail
          go_loopw [11, 12] (fun vl vi wq => ∃ c : Nat, vi = .int .i64 (c : Int) ∧ c ≤ k ∧ Hid (vl = .int .i64 (-1) ∨ ∃ j, j < c ∧ rp j ≠ 0 ∧ vl = .int .i64 ((rp j : Nat) : Int)) ∧ Below w4.heap.size w4 wq) (fun _ vi _ => k - vNat vi)
          case atStart => exact ⟨0, rfl, Nat.zero_le _, hide (.inl rfl), Below.refl _ _⟩
          case round =>
            rename World => wq
            obtain ⟨c, rfl, hc1, hl, hbq⟩ := hrel
            by_cases hck : c < k
            · have hck' := nat_lt hck
              have o0 := kept_cell hbq (unhide HRP c hck).1
              have HM3 := hide (show k - (((c + 1 : Nat) : Int)).toNat < k - ((c : Nat) : Int).toNat by rw [Int.toNat_natCast, Int.toNat_natCast]; omega)
              have HE3 := hide (show (c : Int) + 1 = ((c + 1 : Nat) : Int) by omega)
              have HE4 := hide (show wrap64 ((c : Int) + 1) = ((c + 1 : Nat) : Int) by
                have := unhide hk
                rw [wrap_same _ (by omega) (by omega)]
                omega)
              have HBQ := hide hbq
              have HCK := hide hck
              clear hbq hck
              by_cases hp0 : rp c = 0
              · rw [hp0] at o0
                have HL2 : Hid (u11 = .int .i64 (-1) ∨ ∃ j, j < c + 1 ∧ rp j ≠ 0 ∧ u11 = .int .i64 ((rp j : Nat) : Int)) := hide (by
                  rcases unhide hl with h | ⟨j, h1, h2, h3⟩
                  · exact .inl h
                  · exact .inr ⟨j, by omega, h2, h3⟩)
                have o1 : wq.cell? ⟨qp, c, none⟩ = some (.int .i64 0) := o0
                clear hl o0 hp0
                go_wp2_with fail
                refine ⟨⟨c + 1, ?_, unhide HCK, HL2, unhide HBQ⟩, ?_⟩
                · first | (rw [unhide HE4]) | (rw [unhide HE3]) | rfl
                · first | (rw [unhide HE4]; exact unhide HM3) | (rw [unhide HE3]; exact unhide HM3) | exact unhide HM3
              · have hp1 : (((rp c : Nat) : Int) == 0) = false := by simpa using hp0
                obtain ⟨last, rfl, hlast⟩ : ∃ z : Int, u11 = .int .i64 z ∧ ¬ ((rp c : Nat) : Int) < z := by
                  rcases unhide hl with h | ⟨j, h1, h2, h3⟩
                  · exact ⟨-1, h, by omega⟩
                  · refine ⟨_, h3, ?_⟩
                    have := unhide HRISE j c h1 (unhide HCK) h2 hp0
                    omega
                have HL2 : Hid ((Value.int .i64 ((rp c : Nat) : Int)) = .int .i64 (-1) ∨ ∃ j, j < c + 1 ∧ rp j ≠ 0 ∧ (Value.int .i64 ((rp c : Nat) : Int)) = .int .i64 ((rp j : Nat) : Int)) := hide (.inr ⟨c, Nat.lt_succ_self c, hp0, rfl⟩)
                clear hl hp0
                generalize ((rp c : Nat) : Int) = P at *
                go_wp2_with fail
                refine ⟨⟨c + 1, ?_, unhide HCK, HL2, unhide HBQ⟩, ?_⟩
                · first | (rw [unhide HE4]) | (rw [unhide HE3]) | rfl
                · first | (rw [unhide HE4]; exact unhide HM3) | (rw [unhide HE3]; exact unhide HM3) | exact unhide HM3
            · have hck' := nat_nlt hck
              have hbb := Below.then (unhide HB1) (Below.then (unhide HB2) (Below.then (unhide HB3) (Below.then (unhide HB4) hbq)))
              have HLV := hide (live_any wq ((unhide HE).below hbb))
              clear hbq
              go_wp2_with fail
              refine (unhide HLV).mono ?_
              rintro e w9 ⟨rfl, hb9⟩
              go_wp2_with fail
              go_ret
              exact ⟨rfl, Below.then hbb hb9⟩
end Go.Proofs.YtoeahagloobmoaaDoor
