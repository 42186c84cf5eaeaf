/- XsortTurns: rows turned about. -/
import Derived.Test.YtoeahagloobmoaaDoorSortDown
namespace Go.Proofs.YtoeahagloobmoaaDoor
open Go.RowKit
/-- Rows of rows stay where others grow. -/
theorem RowsV.other {w w' : World} {B : Nat} {va vb : Value} {n m : Nat} {X Y : Nat → Value} {rows rows' : Nat → List KeyD} (ha : RowsV w B va n X rows) (hb : RowsV w B vb m Y rows') (hd : 0 < n → 0 < m → X 0 ≠ Y 0) (hg : w.grownBy w' va.ownBlock) : RowsV w' B vb m Y rows' := by
  refine ⟨⟨hb.own.1, ?_⟩, hb.nil, hb.isS, fun j hj => ha.keeps hg (hb.keys j hj)⟩
  rcases hb.own.2 with h | ⟨g, cap, cur, h1, h2, h3, h4⟩
  · exact .inl h
  · refine .inr ⟨g, cap, cur, h1, h2, ?_, h4⟩
    have hne : some g ≠ va.ownBlock := by
      intro hgb
      by_cases h0 : n = 0
      · rw [ha.nil h0] at hgb
        simp [Value.ownBlock] at hgb
      · by_cases h0' : m = 0
        · rw [hb.nil h0'] at h1
          cases h1
        · obtain ⟨ad1, cap1, e1, hop1⟩ := ha.open
          obtain ⟨g1, rfl, hc1⟩ := hop1 (by omega)
          rw [e1] at hgb
          simp [Value.ownBlock] at hgb
          subst hgb
          obtain ⟨ad2, cap2, e2, hop2⟩ := hb.open
          obtain ⟨g2, rfl, hc2⟩ := hop2 (by omega)
          rw [h1] at e2
          simp at e2
          obtain ⟨rfl, _⟩ := e2
          have c1 := hc1 0 (by omega)
          have c2 := hc2 0 (by omega)
          rw [c1] at c2
          exact hd (by omega) (by omega) (Option.some.inj c2)
    rw [hg.block g (Array.getElem?_eq_some_iff.1 h3).1 hne]
    exact h3
theorem srt_le {t : Nat → ByteArray} {m : Nat} {r : Rw} (h : Srt (LexL fun x y => cmpRow (textRow false t 0) (textRow false t x) (textRow false t y) < 0) 0 m r) (i j : Nat) (hij : i < j) (hj : j < m) : Lib.compareBytes (t (r i)).data.toList (t (r j)).data.toList ≤ 0 := by
  have hL : cmpRow (textRow false t 0) (textRow false t (r i)) (textRow false t (r j)) < 0 ∨ (¬ cmpRow (textRow false t 0) (textRow false t (r j)) (textRow false t (r i)) < 0 ∧ r i < r j) := h i j (Nat.zero_le _) hij hj
  rw [cmp_textRow, cmp_textRow] at hL
  rcases hL with hL | ⟨hL, _⟩
  · have hL' : Lib.compareBytes (t (r i)).data.toList (t (r j)).data.toList < 0 := hL
    omega
  · have hL' : ¬ Lib.compareBytes (t (r j)).data.toList (t (r i)).data.toList < 0 := hL
    have g := good_bytes.anti (t (r j)).data.toList (t (r i)).data.toList
    by_cases q : 0 < Lib.compareBytes (t (r i)).data.toList (t (r j)).data.toList
    · exact absurd (g.2 q) hL'
    · omega
set_option maxRecDepth 100000 in
set_option maxHeartbeats 2000000 in
theorem turns_walk (ad : Option Addr) (n cap : Nat) (t : Nat → ByteArray) (w : World) (h : StrsAt w ad n t) (hE : SEnv w) :
    Calls Tryd.prog 4 #[.slice ad n cap] w fun e w' => e = .returned (.bool true) ∧ Below w.heap.size w w' := by
  have HE := hide hE
  have HT := hide h
  clear hE h
  obtain ⟨i0, hi, hz0, hz1, hz2⟩ := info_parts infoRow
  have HI := hide (And.intro hi (And.intro hz0 (And.intro hz1 hz2)))
  clear hi hz0 hz1 hz2
  go_enter Tryd.func4, Tryd.ntmps4
  go_upto_if 13 with fail
  go_cut [5] (fun v wx => ∃ m : Nat, v = .int .i64 (m : Int) ∧ Hid (m ≤ 30 ∧ m ≤ n) ∧ w = wx)
  case first =>
    by_cases hn : 30 < n
    · have hn' : (30 : Int) < (n : Int) := by omega
      have H30 := hide (show (30 : Nat) ≤ 30 ∧ 30 ≤ n by omega)
      clear hn
      go_wp2_with fail
      go_meet
      exact ⟨30, rfl, H30, rfl⟩
    · have hn' : ¬ (30 : Int) < (n : Int) := by omega
      have H30 := hide (show n ≤ 30 ∧ n ≤ n by omega)
      clear hn
      go_wp2_with fail
      go_meet
      exact ⟨n, rfl, H30, rfl⟩
  case rest =>
    obtain ⟨m, rfl, hm, rfl⟩ := hcut
    go_upto_block 0 with fail
    go_cut [3, 4] (fun va vb wx => ∃ (X Y : Nat → Value), RowsV wx w.heap.size va m X (textRow false t) ∧ RowsV wx w.heap.size vb m Y (textRow false fun j => t (m - 1 - j)) ∧ Below w.heap.size w wx)
    case first =>
      go_wp2_with fail
      go_loopw [3, 4, 6] (fun va vb vi wr => ∃ (i : Nat) (X Y : Nat → Value), vi = .int .i64 (i : Int) ∧ i ≤ m ∧ RowsV wr w.heap.size va i X (textRow false t) ∧ RowsV wr w.heap.size vb i Y (textRow false fun j => t (m - 1 - j)) ∧ Hid (0 < i → X 0 ≠ Y 0) ∧ Below w.heap.size w wr) (fun _ _ vi _ => m - vNat vi)
      case atStart => exact ⟨0, _, _, rfl, Nat.zero_le _, RowsV.start _ _ _, RowsV.start _ _ _, hide (fun h => absurd h (Nat.not_lt_zero 0)), Below.refl _ _⟩
      case round =>
        obtain ⟨i, X, Y, rfl, hi1, hA, hB, hD, hbr⟩ := hrel
        by_cases hlt : i < m
        · have hlt1 := nat_lt hlt
          have hm' := unhide hm
          obtain ⟨g, o, rfl, hc⟩ := (unhide HT) (by omega)
          obtain ⟨m1, hm1⟩ : ∃ m1, m1 + 1 = m := ⟨m - 1, by omega⟩
          obtain ⟨k, hk⟩ : ∃ k, k + i = m1 := ⟨m1 - i, by omega⟩
          have e1 := (sub_wrap m 1 m1 hm1 (by omega)).2
          have e2 := (sub_wrap m1 i k hk (by omega)).2
          rw [show ((1 : Nat) : Int) = 1 from rfl] at e1
          have hkn : k < n := by omega
          have hin : i < n := by omega
          have hkn' := nat_lt hkn
          have hin' := nat_lt hin
          have hkk : m - 1 - i = k := by omega
          have c1 := kept_cell hbr (hc i hin)
          have HCK := hide (fun u (hu : Below w.heap.size w u) => kept_cell hu (hc k hkn))
          have HA := hide hA
          have HB := hide hB
          have HBR := hide hbr
          have HKK := hide hkk
          have HLT := hide hlt
          have HM := hide (show m - (((i + 1 : Nat) : Int)).toNat < m - ((i : Nat) : Int).toNat by rw [Int.toNat_natCast, Int.toNat_natCast]; omega)
          have HE1 := hide (show (i : Int) + 1 = ((i + 1 : Nat) : Int) by omega)
          obtain ⟨z1, z2, z3, z4⟩ := unhide HI
          have hsz := hbr.size
          have hi30 : i < 30 := by omega
          clear hA hB hc hkk hbr hm1 hk hkn hin hm'
          go_wp2_with (at_builtin; refine wpList_append_own _ rfl _ _ 22 rfl w.heap.size 30 i0 _ 1 24 Tryd.underlying22 z1 z2 z3 z4 rfl (by decide) _ _ _ rfl (((unhide HA).own.alloc _).alloc _) ⟨wr.heap.size + 1, 0, none⟩ 1 1 [.slice (some ⟨wr.heap.size, 0, none⟩) 1 1] rfl rfl (row_news wr _ _ _) (row_ones _ _ _) (by unfold maxLen; omega) (by omega) (by simp; omega) ?_)
          intro va' w5 hown' hgrow _
          have hb2 : Below wr.heap.size wr ((wr.alloc (.cells #[.bool false, .bool false, .string (t i), .int .i64 0, .int .i64 0] 37)).alloc (.cells #[.slice (some ⟨wr.heap.size, 0, none⟩) 1 1] 30)) := ((Below.refl _ wr).alloc (Nat.le_refl _) _).alloc (by simp) _
          have HA5 := hide (RowsV.more ((unhide HA).below hb2) ⟨_, _, _, rfl⟩ ((textRow_at wr false t i 37).below ((Below.refl _ _).alloc (Nat.le_refl _) _)) hown' hgrow)
          have HB5 := hide (RowsV.other ((unhide HA).below hb2) ((unhide HB).below hb2) (fun h _ => unhide hD h) hgrow)
          have hb5 := Below.grown (Below.then (unhide HBR) hb2) hgrow (by simp; omega) (unhide HA).ge
          have h5s : wr.heap.size + 2 ≤ w5.heap.size := by have := hgrow.size; simp at this; omega
          have c2 := unhide HCK _ hb5
          have HBB5 := hide hb5
          have hsz5 := hb5.size
          clear hown' hgrow hb2 hb5
          go_wp2_with (at_builtin; refine wpList_append_own _ rfl _ _ 22 rfl w.heap.size 30 i0 _ 1 24 Tryd.underlying22 z1 z2 z3 z4 rfl (by decide) _ _ _ rfl (((unhide HB5).own.alloc _).alloc _) ⟨w5.heap.size + 1, 0, none⟩ 1 1 [.slice (some ⟨w5.heap.size, 0, none⟩) 1 1] rfl rfl (row_news w5 _ _ _) (row_ones _ _ _) (by unfold maxLen; omega) (by omega) (by simp; omega) ?_)
          intro vb' w6 hown2 hgrow2 _
          have hb3 : Below w5.heap.size w5 ((w5.alloc (.cells #[.bool false, .bool false, .string (t k), .int .i64 0, .int .i64 0] 37)).alloc (.cells #[.slice (some ⟨w5.heap.size, 0, none⟩) 1 1] 30)) := ((Below.refl _ w5).alloc (Nat.le_refl _) _).alloc (by simp) _
          have htx : RowKey (w5.alloc (.cells #[.bool false, .bool false, .string (t k), .int .i64 0, .int .i64 0] 37)) (.slice (some ⟨w5.heap.size, 0, none⟩) 1 1) (textRow false (fun j => t (m - 1 - j)) i) := by
            have h := textRow_at w5 false (fun j => t (m - 1 - j)) i 37
            have e : t (m - 1 - i) = t k := by rw [unhide HKK]
            rw [← e]
            exact h
          have HB6 := hide (RowsV.more ((unhide HB5).below hb3) ⟨_, _, _, rfl⟩ (htx.below ((Below.refl _ _).alloc (Nat.le_refl _) _)) hown2 hgrow2)
          have HA6 := hide (RowsV.other ((unhide HB5).below hb3) ((unhide HA5).below hb3) (fun h0 _ => by
            show Y 0 ≠ if 0 < i then X 0 else Value.slice (some ⟨wr.heap.size, 0, none⟩) 1 1
            rw [if_pos h0]
            exact fun e => unhide hD h0 e.symm) hgrow2)
          have HD6 : Hid (0 < i + 1 → (fun j => if j < i then X j else .slice (some ⟨wr.heap.size, 0, none⟩) 1 1) 0 ≠ (fun j => if j < i then Y j else .slice (some ⟨w5.heap.size, 0, none⟩) 1 1) 0) := hide (fun _ => by
            show (if 0 < i then X 0 else _) ≠ (if 0 < i then Y 0 else _)
            by_cases h0 : 0 < i
            · rw [if_pos h0, if_pos h0]
              exact unhide hD h0
            · rw [if_neg h0, if_neg h0]
              intro e
              simp at e <;> omega)
          have hb6 := Below.grown (Below.then (unhide HBB5) hb3) hgrow2 (by simp; omega) (unhide HB5).ge
          have HBB6 := hide hb6
          clear hown2 hgrow2 hb3 hb6 htx
          go_wp2_with fail
          refine ⟨⟨i + 1, _, _, ?_, unhide HLT, unhide HA6, unhide HB6, HD6, unhide HBB6⟩, ?_⟩
          · first | (rw [unhide HE1]) | rfl
          · first | (rw [unhide HE1]; exact unhide HM) | exact unhide HM
        · have hlt1 := nat_nlt hlt
          obtain rfl : i = m := by omega
          have HX := hide (And.intro hA (And.intro hB hbr))
          clear hA hB hbr
          go_wp2_with fail
          go_meet
          exact ⟨X, Y, (unhide HX).1, (unhide HX).2.1, (unhide HX).2.2⟩
    case rest =>
      obtain ⟨X, Y, hA, hB, hb⟩ := hcut
      have hm' := unhide hm
      have HOA := hide (order_rows hA (fun i _ => textRow_right false t i) (by show 1 ≤ 1000; decide) (by omega))
      have HOB := hide (fun u (hu : Below wc.heap.size wc u) => order_rows (hB.below hu) (fun i _ => textRow_right false _ i) (by show 1 ≤ 1000; decide) (by omega))
      obtain ⟨ada, capa, rfl, hopa⟩ := hA.open
      obtain ⟨adb, capb, rfl, hopb⟩ := hB.open
      have HA := hide hA
      have HB := hide hB
      have HPA := hide hopa
      have HPB := hide hopb
      clear hA hB hopa hopb hm'
      go_wp2_with fail
      refine (unhide HOA).mono ?_
      rintro e w1 ⟨qa, ra, rfl, hqa, hra, hb1, hFa, hSa⟩
      have HFa := hide (sorted_places hFa)
      have HSa := hide hSa
      have HRa := hide hra
      have HOB1 := hide (unhide HOB w1 hb1)
      clear hFa hSa hra HOA HOB
      go_wp2_with fail
      refine (unhide HOB1).mono ?_
      rintro e w2 ⟨qb, rb, rfl, hqb, hrb, hb2, hFb, hSb⟩
      have HFb := hide (sorted_places hFb)
      have HSb := hide hSb
      have HRb := hide hrb
      clear hFb hSb hrb HOB1
      have HSS := hide (sorted_same m (fun j => (t j).data.toList) ra rb (unhide HFa).1 (unhide HFa).2 (unhide HFb).1 (unhide HFb).2 (srt_le (unhide HSa)) (fun i j hij hj => srt_le (t := fun j => t (m - 1 - j)) (unhide HSb) i j hij hj))
      have HLE := hide (srt_le (unhide HSa))
      clear HSa HSb
      go_wp2_with fail
      go_loopw [9] (fun v wr => ∃ i : Nat, v = .int .i64 (i : Int) ∧ Below w2.heap.size w2 wr) (fun v _ => m - vNat v)
      case atStart => exact ⟨0, rfl, Below.refl _ _⟩
      case round =>
        obtain ⟨i, rfl, hbr⟩ := hrel
        by_cases hlt : i < m
        · have hlt' := nat_lt hlt
          have hpa := (unhide HFa).1 i hlt
          have hpb := (unhide HFb).1 i hlt
          have hpa' := nat_lt hpa
          have hpb' := nat_lt hpb
          have o0 := kept_cell (Below.then hb2 hbr) (unhide HRa i hlt).1
          have o1 := kept_cell hbr (unhide HRb i hlt).1
          obtain ⟨ga, rfl, hca⟩ := unhide HPA (by omega)
          obtain ⟨gb, rfl, hcb⟩ := unhide HPB (by omega)
          have hbw := Below.then hb1 (Below.then hb2 hbr)
          have a0 := kept_cell hbw (hca _ hpa)
          have a1 := kept_cell hbw (hcb _ hpb)
          obtain ⟨b0, k0, ex0, x0⟩ := textRow_open (((unhide HA).keys _ hpa).below hbw)
          obtain ⟨b1, k1, ex1, x1⟩ := textRow_open (((unhide HB).keys _ hpb).below hbw)
          rw [ex0] at a0
          rw [ex1] at a1
          have he : (t (ra i)).data.toList = (t (m - 1 - rb i)).data.toList := unhide HSS i hlt
          have HM := hide (show m - (((i + 1 : Nat) : Int)).toNat < m - ((i : Nat) : Int).toNat by rw [Int.toNat_natCast, Int.toNat_natCast]; omega)
          have HE1 := hide (show wrap64 ((i : Int) + 1) = ((i + 1 : Nat) : Int) by
            have := (unhide hm).1
            rw [wrap_same _ (by omega) (by omega)]
            omega)
          have HBR := hide hbr
          have he' : ((t (ra i)).toList == (t (m - 1 - rb i)).toList) = true := by
            rw [ByteArray.toList_eq, ByteArray.toList_eq, he]
            simp
          rcases Nat.eq_zero_or_pos i with h0 | h0
          · have h0' : decide (0 < i) = false := decide_eq_false (by omega)
            clear he hca hcb hbw hbr ex0 ex1 hpa hpb hlt h0
            generalize m - 1 - rb i = R at *
            generalize ra i = P at *
            generalize rb i = Q at *
            go_wp2_with fail
            go_quiet (fail)
            go_wp2_with fail
            refine ⟨⟨i + 1, ?_, Below.then (unhide HBR) (below_drewN _ _)⟩, ?_⟩
            · rw [unhide HE1]
            · rw [unhide HE1]
              exact unhide HM
          · obtain ⟨j, hj⟩ : ∃ j, j + 1 = i := ⟨i - 1, by omega⟩
            have h0' : decide (0 < i) = true := decide_eq_true h0
            have hjm : j < m := by omega
            have hjm' := nat_lt hjm
            have hpj := (unhide HFa).1 j hjm
            have hpj' := nat_lt hpj
            obtain ⟨e1, e1'⟩ := sub_wrap i 1 j hj (by have := (unhide hm).1; omega)
            rw [show ((1 : Nat) : Int) = 1 from rfl] at e1 e1'
            have o2 := kept_cell (Below.then hb2 hbr) (unhide HRa j hjm).1
            have a2 := kept_cell hbw (hca _ hpj)
            obtain ⟨b2, k2, ex2, x2⟩ := textRow_open (((unhide HA).keys _ hpj).below hbw)
            rw [ex2] at a2
            have hL1 : Op.bytesLess (t (ra j)).toList (t (ra i)).toList = true ∨ ((t (ra j)).toList == (t (ra i)).toList) = true := by
              rw [less_is, ByteArray.toList_eq, ByteArray.toList_eq]
              have hle := unhide HLE j i (by omega) hlt
              by_cases hq : Lib.compareBytes (t (ra j)).data.toList (t (ra i)).data.toList < 0
              · exact .inl (decide_eq_true hq)
              · refine .inr ?_
                have hz := bytes_zero (t (ra j)).data.toList (t (ra i)).data.toList (by omega)
                rw [hz]
                simp
            clear he hca hcb hbw hbr ex0 ex1 ex2 hpa hpb hpj hlt h0 hjm hj
            generalize m - 1 - rb i = R at *
            generalize ra i = P at *
            generalize rb i = Q at *
            generalize ra j = S at *
            rcases hL1 with hL1 | hL1
            all_goals
              go_wp2_with fail
              go_quiet (fail)
              go_wp2_with fail
              refine ⟨⟨i + 1, ?_, Below.then (unhide HBR) (below_drewN _ _)⟩, ?_⟩
              · rw [unhide HE1]
              · rw [unhide HE1]
                exact unhide HM
        · have hlt' := nat_nlt hlt
          have hbb := Below.then hb (Below.then hb1 (Below.then hb2 hbr))
          have HLV := hide (live_any wr ((unhide HE).below hbb))
          clear hbr
          go_wp2_with fail
          refine (unhide HLV).mono ?_
          rintro e w4 ⟨rfl, hb4⟩
          go_wp2_with fail
          go_ret
          exact ⟨rfl, Below.then hbb hb4⟩
end Go.Proofs.YtoeahagloobmoaaDoor
