/- The names of a tag: xbuild's qname and attribute. -/
import Derived.Test.YtllhajjceecjdaaDoorBuT
import Derived.Test.YtllhajjceecjdaaDoorClsTail
namespace Go.Proofs.YtllhajjceecjdaaDoor
open Go.RowKit Go.Maps
/-- Worlds behind one. -/
structure ClsB (W0 : World) (u : World) : Prop where
  bel : Below W0.heap.size W0 u
theorem qn_join (p l : List Nat) : (T p ++ (⟨#[58]⟩ : ByteArray)) ++ T l = T (p ++ 58 :: l) := by
  have e : (⟨#[58]⟩ : ByteArray) = T [58] := by rfl
  rw [e, T_app, T_app, List.append_assoc]
  rfl
theorem qnS_one {ar he : Sc} {n : Nm} {pr : List Nat} (h : preP ar he n = pr) (k : Bool) (hk : (pr == []) = k) : (qnS ar he n).1 = (if k then n.loc else pr ++ 58 :: n.loc) ∧ (qnS ar he n).2 = setS he pr n.uri := by
  unfold qnS qnN
  rw [h]
  refine ⟨?_, rfl⟩
  cases k
  · rw [if_neg (by simpa using hk)]
    rfl
  · rw [if_pos (by simpa using hk)]
    rfl
theorem TagV.set1 {w : World} {p b : Nat} {ma : Value} {ar he : Sc} (h : TagV w p b ma ar he) {k : Nat} {c : Array Value} (hk : w.heap[k]? = some (.cells c 61 (0, 0))) (v : Value) : TagV (w.setCell ⟨k, 1, none⟩ v) p b ma ar he := by
  have hkm : ∀ j es ck, w.heap[j]? = some (Obj.map es ck) → (w.setCell ⟨k, 1, none⟩ v).heap[j]? = some (Obj.map es ck) := fun j es ck hj => by
    rw [heap_setCell_other _ _ _ _ (by rintro rfl; rw [hk] at hj; cases hj)]
    exact hj
  refine ⟨?_, h.arV.kept fun b' es ck hb' _ => hkm _ _ _ hb', ?_, h.ok, h.ne⟩
  · rw [heap_setCell_other _ _ _ _ (by
      rintro rfl
      have := h.blk
      rw [hk] at this
      injection this with this
      injection this with h1 h2 h3
      revert h2
      decide)]
    exact h.blk
  · obtain ⟨es, ck, h1, h2⟩ := h.heV
    exact ⟨es, ck, hkm _ _ _ h1, h2⟩
theorem TagV.apart {w : World} {p b : Nat} {ma : Value} {ar he : Sc} (h : TagV w p b ma ar he) {k : Nat} {c : Array Value} {t : TypeId} (hk : w.heap[k]? = some (.cells c t (0, 0))) : k ≠ b := by
  rintro rfl
  obtain ⟨es, clock, hm, _⟩ := h.heV
  rw [hm] at hk
  cases hk
set_option maxRecDepth 100000 in
set_option maxHeartbeats 4000000 in
theorem qnameB_any (p b : Nat) (ma : Value) (ar he : Sc) (n : Nm) (w : World) (H : TagV w p b ma ar he) (h0 : okL n.uri) (h1 : okL n.pre) (z0 : (T n.uri).size ≤ 1048576) (z1 : (T n.pre).size ≤ 1048576) (z2 : (T n.loc).size ≤ 1048576) (hn : he.length + ar.length ≤ 90) (hE : BEnv w) :
    Calls Tryd.prog 66 #[.pointer (some ⟨p, 0, none⟩), .agg #[.string (T n.uri), .string (T n.pre), .string (T n.loc)]] w fun e w' => e = .returned (.string (T (qnS ar he n).1)) ∧ TagV w' p b ma ar (qnS ar he n).2 ∧ Kp (· = b) w w' := by
  obtain ⟨W1, hW1⟩ : ∃ W, w.alloc (.cells #[.string (T n.uri), .string (T n.pre), .string (T n.loc)] 61) = W := ⟨_, rfl⟩
  have hb1 : Below w.heap.size w W1 := by rw [← hW1]; exact (Below.refl _ _).alloc (Nat.le_refl _) _
  have hn1 : W1.heap[w.heap.size]? = some (.cells #[.string (T n.uri), .string (T n.pre), .string (T n.loc)] 61 (0, 0)) := by rw [← hW1]; exact alloc_new _ _
  have H1 := H.on hb1
  have l1 := H1.sc.lookB h1 z1
  have HW : Hid (wantB he n = ((lookS he n.pre).isSome && (!((lookS he n.pre).getD [] == n.uri) && !(n.uri == [])))) := hide rfl
  have hq1 : ((T ((lookS he n.pre).getD [])).toList == (T n.uri).toList) = ((lookS he n.pre).getD [] == n.uri) := by
    rw [T_toList n.uri]
    exact eq_T (lookS_ok H.ok _) h0
  have hq2 := is_empty h0
  obtain ⟨k1, e1⟩ : ∃ x, (lookS he n.pre).isSome = x := ⟨_, rfl⟩
  obtain ⟨k2, e2⟩ : ∃ x, ((lookS he n.pre).getD [] == n.uri) = x := ⟨_, rfl⟩
  obtain ⟨k3, e3⟩ : ∃ x, (n.uri == []) = x := ⟨_, rfl⟩
  rw [e1, e2, e3] at HW
  rw [e1] at l1
  rw [e2] at hq1
  rw [e3] at hq2
  clear e2 e3
  obtain ⟨uh, euh⟩ : ∃ x, T ((lookS he n.pre).getD []) = x := ⟨_, rfl⟩
  rw [euh] at l1 hq1
  have c1 : W1.cell? ⟨p, 1, none⟩ = some (.map (some b)) := blk_cell H1.blk 1
  have a0 : W1.cell? ⟨w.heap.size, 0, none⟩ = some (.string (T n.uri)) := blk_cell hn1 0
  have a1 : W1.cell? ⟨w.heap.size, 1, none⟩ = some (.string (T n.pre)) := blk_cell hn1 1
  have o1 := blk_open hn1 1
  have hlt1 : w.heap.size < W1.heap.size := (Array.getElem?_eq_some_iff.1 hn1).1
  have hltp := H1.lt
  have hb2 : Below W1.heap.size W1 (W1.alloc (.cells #[.string uh] 56)) := (Below.refl _ _).alloc (Nat.le_refl _) _
  have HFR := hide (fun W' (hb : Below W1.heap.size W1 W') => freePrefix_any p b ma ar he W' (H1.on hb) hn (hE.below (Below.then hb1 hb)))
  have HMK := hide (fun W' (hb : Below W1.heap.size W1 W') => And.intro (keptC hb c1) (And.intro (keptC hb a1) (And.intro (show (Instr.lookup 58 (.map (some b)) (.string (T n.pre)) true).run Tryd.prog W' = .ok (.tuple #[.agg #[.string uh], .bool k1]) W' from by
    have := ((H1.on hb).sc).lookB h1 z1
    rw [euh, e1] at this
    exact this) hb)))
  clear euh e1
  have HN1 := hide hn1
  have HB1 := hide hb1
  have HH := hide H1
  clear H H1 hE hn1 hb1 hb2 l1
  go_enter Tryd.func66, Tryd.ntmps66
  go_wp2_with fail
  clear hW1 c1 a0 a1 o1
  go_cut [5, 6, 7] (fun s5 s6 s7 wx => s6 = .bool k1 ∧ (∃ q : Nat, s5 = .pointer (some ⟨q, 0, none⟩) ∧ wx.cell? ⟨q, 0, none⟩ = some (.string uh)) ∧ Below W1.heap.size W1 wx)
  case first =>
    go_region_held3 (fun W => W.cell? ⟨p, 1, none⟩ = some (.map (some b)) ∧ W.cell? ⟨w.heap.size, 1, none⟩ = some (.string (T n.pre)) ∧ (Instr.lookup 58 (.map (some b)) (.string (T n.pre)) true).run Tryd.prog W = .ok (.tuple #[.agg #[.string uh], .bool k1]) W ∧ Below W1.heap.size W1 W)
      ((refine unhide HMK _ ?_; (repeat first | assumption | refine Below.drew ?_ | refine Below.setCell ?_ (by first | omega | (simp; omega) | (simp; done)) _ | refine Below.alloc ?_ (by first | omega | (simp; omega) | (simp; done)) _ | exact Below.refl _ _)))
      (fail)
    all_goals (try go_wp2_with fail)
    all_goals go_meet
    all_goals refine ⟨rfl, ⟨_, rfl, ?_⟩, ?_⟩
    all_goals first | (simp [go_sem]; done) | (repeat first | assumption | refine Below.drew ?_ | refine Below.setCell ?_ (by first | omega | (simp; omega) | (simp; done)) _ | refine Below.alloc ?_ (by first | omega | (simp; omega) | (simp; done)) _ | exact Below.refl _ _)
  case rest =>
    obtain ⟨rfl, ⟨q, rfl, cq⟩, hbx⟩ := hcut
    have hN2 := block_below (unhide HN1) hbx
    have H2 := (unhide HH).on hbx
    have a0 : wc.cell? ⟨w.heap.size, 0, none⟩ = some (.string (T n.uri)) := blk_cell hN2 0
    have a1 : wc.cell? ⟨w.heap.size, 1, none⟩ = some (.string (T n.pre)) := blk_cell hN2 1
    have a2 : wc.cell? ⟨w.heap.size, 2, none⟩ = some (.string (T n.loc)) := blk_cell hN2 2
    have o1 := blk_open hN2 1
    have c1 : wc.cell? ⟨p, 1, none⟩ = some (.map (some b)) := blk_cell H2.blk 1
    have HB := hide hbx
    have HH2 := hide H2
    have HN2 := hide hN2
    clear H2 hN2 hbx HN1 HH HMK
    by_cases hc : (k1 && (!k2 && !k3)) = true
    · obtain rfl : k1 = true := by simp_all
      obtain rfl : k2 = false := by simp_all
      obtain rfl : k3 = false := by simp_all
      have HWT : Hid (preP ar he n = freeP ar he) := hide (by unfold preP; rw [unhide HW]; rfl)
      clear hc HW
      go_wp2_with fail
      refine (unhide HFR _ (unhide HB)).mono ?_
      rintro e w1 ⟨rfl, hb1⟩
      have hN5 := block_below (unhide HN2) hb1
      have HH5 := hide ((unhide HH2).on hb1)
      have HB5 := hide (Below.then (unhide HB1) (Below.then (unhide HB) hb1))
      have hpr := freeP_ok hn
      have b1 : w1.cell? ⟨w.heap.size, 1, none⟩ = some (.string (T n.pre)) := blk_cell hN5 1
      have o5 := blk_open hN5 1
      have hN6 := heap_setCell_same w1 w.heap.size 1 _ _ (.string (T (freeP ar he))) hN5
      have hS : w.heap.size ≤ w1.heap.size := (unhide HB5).size
      have HN6 := hide hN6
      have HH6 := hide ((unhide HH5).set1 hN5 (.string (T (freeP ar he))))
      have HB6 := hide ((unhide HB5).setCell (show w.heap.size ≤ (⟨w.heap.size, 1, none⟩ : Addr).block from Nat.le_refl _) (.string (T (freeP ar he))))
      clear hq1 hq2 a0 a1 a2 o1 c1 cq hN5 hN6 hb1 HFR HB HN2 HH2 HH5 HB5
      go_wp2_with fail
      clear b1 o5
      generalize (w1.setCell ⟨w.heap.size, 1, none⟩ (.string (T (freeP ar he)))) = W6 at HN6 HH6 HB6 ⊢
      have HPR := hide hpr
      have HN3 := hide (show W6.heap[w.heap.size]? = some (.cells #[.string (T n.uri), .string (T (freeP ar he)), .string (T n.loc)] 61 (0, 0)) from unhide HN6)
      have HX := hide (show ClsB W6 W6.drew from ⟨(Below.refl _ _).drew⟩)
      have HCE := hide (fun w' (hC : ClsB W6 w') => And.intro (blk_cell (block_below (unhide HN3) hC.bel) 0) (And.intro (blk_cell (block_below (unhide HN3) hC.bel) 1) (blk_cell (((unhide HH6).on hC.bel).blk) 1)))
      have hkey : keyOf Tryd.prog 9 (.string (T (freeP ar he))) = some (.string (tx (freeP ar he))) := by
        have := Go.WideMaps.keyOf_string_mk Tryd.underlying9 (by have := (unhide HPR).2; unfold maxLen; omega : (T (freeP ar he)).size ≤ maxLen)
        rwa [T_data] at this
      have he4 := is_empty (unhide HPR).1
      obtain ⟨k4, e4⟩ : ∃ x, ((freeP ar he) == []) = x := ⟨_, rfl⟩
      rw [e4] at he4
      have HE4 := hide e4
      clear e4 hpr
      refine wp_region_cls_tail 9 (ClsB W6) (by kernel_rfl) (by kernel_rfl) (by kernel_rfl) (unhide HX) ?_
      simp only [List.take_succ_cons, List.take_zero, List.drop_succ_cons, List.drop_zero]
      repeat
        (first
          | go_big_quiet_skip
          | (go_big_quiet_want
             go_big_quiet_op
             first
               | go_big_quiet_on
               | (apply Exists.intro
                  refine ⟨fun w' hC => ?_, ?_⟩
                  · (obtain ⟨k0, k1, k2⟩ := unhide HCE _ hC; go_simp; first | done | rfl)
                  go_big_quiet_on)))
      refine wpQuiet_nil ?_
      intro w2 hC2
      have H3 := (unhide HH6).on hC2.bel
      have hown := H3.heV
      have hN4 := block_below (unhide HN3) hC2.bel
      have HN4 := hide hN4
      have HH3 := hide H3
      have HB3 := hide (Below.then (unhide HB6) hC2.bel)
      clear hC2 H3 hN4 HX HCE
      have hz4 := (unhide HPR).2
      cases k4
      all_goals
        go_wp2_with (first
          | (at_mapUpdate; refine wpList_mapUpdate_own _ rfl _ _ _ 58 rfl 9 56 strKeyed Tryd.underlying58 entElem b he.length (scD he) rfl hown (by unfold maxLen; omega) _ _ _ rfl rfl hkey (.agg [.lit (.string (tx n.uri))]) [] rfl ?_; intro w3 hown3 hg3; (have N3 := (hg3.block _ (Array.getElem?_eq_some_iff.1 (unhide HN4)).1 (fun e => (unhide HH3).apart (unhide HN4) (Option.some.inj e))).trans (unhide HN4)); (have a1 := blk_cell N3 1); (have a2 := blk_cell N3 2); (have HG3 := hide hg3); (have HO3 := hide hown3); clear hg3 hown3 N3; go_frame)
          | go_in)
        go_returns
        obtain ⟨x1, x2⟩ := qnS_one (unhide HWT) _ (unhide HE4)
        refine ⟨?_, ?_, (Kp.of (unhide HB3)).grown (unhide HG3) (fun j e _ => (Option.some.inj e).symm)⟩
        · rw [x1]
          first | rfl | (rw [qn_join]; rfl)
        · rw [x2]
          exact (unhide HH3).put (unhide HPR).1 h0 (unhide HPR).2 z0 (unhide HG3) (unhide HO3)
    · have HWT : Hid (preP ar he n = n.pre) := hide (by unfold preP; rw [unhide HW, if_neg hc])
      have hpr : okL n.pre ∧ (T n.pre).size ≤ 1048576 := ⟨h1, z1⟩
      have HBW := hide (Below.then (unhide HB1) (unhide HB))
      clear HW HFR
      rcases (show k1 = false ∨ (k1 = true ∧ k2 = true) ∨ (k1 = true ∧ k2 = false ∧ k3 = true) by cases k1 <;> cases k2 <;> cases k3 <;> simp_all) with rfl | ⟨rfl, rfl⟩ | ⟨rfl, rfl, rfl⟩
      all_goals
        clear hc
        go_wp2_with fail
        clear hq1 hq2 a0 a1 a2 o1 c1 cq
        have HPR := hide hpr
        have HN3 := hide (unhide HN2)
        have HX := hide (show ClsB wc wc.drew from ⟨(Below.refl _ _).drew⟩)
        have HCE := hide (fun w' (hC : ClsB wc w') => And.intro (blk_cell (block_below (unhide HN3) hC.bel) 0) (And.intro (blk_cell (block_below (unhide HN3) hC.bel) 1) (blk_cell (((unhide HH2).on hC.bel).blk) 1)))
        have hkey : keyOf Tryd.prog 9 (.string (T n.pre)) = some (.string (tx n.pre)) := by
          have := Go.WideMaps.keyOf_string_mk Tryd.underlying9 (by have := (unhide HPR).2; unfold maxLen; omega : (T n.pre).size ≤ maxLen)
          rwa [T_data] at this
        have he4 := is_empty (unhide HPR).1
        obtain ⟨k4, e4⟩ : ∃ x, (n.pre == []) = x := ⟨_, rfl⟩
        rw [e4] at he4
        have HE4 := hide e4
        clear e4 hpr
        refine wp_region_cls_tail 9 (ClsB wc) (by kernel_rfl) (by kernel_rfl) (by kernel_rfl) (unhide HX) ?_
        simp only [List.take_succ_cons, List.take_zero, List.drop_succ_cons, List.drop_zero]
        repeat
          (first
            | go_big_quiet_skip
            | (go_big_quiet_want
               go_big_quiet_op
               first
                 | go_big_quiet_on
                 | (apply Exists.intro
                    refine ⟨fun w' hC => ?_, ?_⟩
                    · (obtain ⟨k0, k1, k2⟩ := unhide HCE _ hC; go_simp; first | done | rfl)
                    go_big_quiet_on)))
        refine wpQuiet_nil ?_
        intro w2 hC2
        have H3 := (unhide HH2).on hC2.bel
        have hown := H3.heV
        have hN4 := block_below (unhide HN3) hC2.bel
        have HN4 := hide hN4
        have HH3 := hide H3
        have HB3 := hide (Below.then (unhide HBW) hC2.bel)
        clear hC2 H3 hN4 HX HCE
        have hz4 := (unhide HPR).2
        cases k4
        all_goals
          go_wp2_with (first
            | (at_mapUpdate; refine wpList_mapUpdate_own _ rfl _ _ _ 58 rfl 9 56 strKeyed Tryd.underlying58 entElem b he.length (scD he) rfl hown (by unfold maxLen; omega) _ _ _ rfl rfl hkey (.agg [.lit (.string (tx n.uri))]) [] rfl ?_; intro w3 hown3 hg3; (have N3 := (hg3.block _ (Array.getElem?_eq_some_iff.1 (unhide HN4)).1 (fun e => (unhide HH3).apart (unhide HN4) (Option.some.inj e))).trans (unhide HN4)); (have a1 := blk_cell N3 1); (have a2 := blk_cell N3 2); (have HG3 := hide hg3); (have HO3 := hide hown3); clear hg3 hown3 N3; go_frame)
            | go_in)
          go_returns
          obtain ⟨x1, x2⟩ := qnS_one (unhide HWT) _ (unhide HE4)
          refine ⟨?_, ?_, (Kp.of (unhide HB3)).grown (unhide HG3) (fun j e _ => (Option.some.inj e).symm)⟩
          · rw [x1]
            first | rfl | (rw [qn_join]; rfl)
          · rw [x2]
            exact (unhide HH3).put (unhide HPR).1 h0 (unhide HPR).2 z0 (unhide HG3) (unhide HO3)
end Go.Proofs.YtllhajjceecjdaaDoor
