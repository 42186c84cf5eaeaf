/- Rows of keys, compared: xsort's compareRows. -/
import Derived.Test.YtoeahagloobmoaaGreatDoorKeyGo
import Derived.Test.YtoeahagloobmoaaGreatDoorStabEnd
namespace Go.Proofs.YtoeahagloobmoaaGreatDoor
open Go.RowKit
/-- Worlds in which a key and two rows stand. -/
structure ClsK (X : World) (p : Nat) (x : KeyD) (va vb : Value) (la lb : List KeyD) (u : World) : Prop where
  bel : Below X.heap.size X u
  kh : KeyAt u p 0 x
  ka : RowKey u va la
  kb : RowKey u vb lb
theorem ClsK.below {X u u' : World} {p : Nat} {x : KeyD} {va vb : Value} {la lb : List KeyD} (c : ClsK X p x va vb la lb u) (hb : Below u.heap.size u u') : ClsK X p x va vb la lb u' :=
  ⟨Below.then c.bel hb, c.kh.below hb, c.ka.below hb, c.kb.below hb⟩
theorem cmpFrom_step (lh la lb : List KeyD) (i : Nat) (h : i < lh.length) : cmpFrom lh la lb i (lh.length - i) = thenC (cmpKey (keyG lh i) (keyG la i) (keyG lb i)) (cmpFrom lh la lb (i + 1) (lh.length - (i + 1))) := by
  obtain ⟨f, hf⟩ : ∃ f, lh.length - i = f + 1 := ⟨lh.length - i - 1, by omega⟩
  rw [hf, show lh.length - (i + 1) = f by omega]
  rfl
set_option maxRecDepth 100000 in
set_option maxHeartbeats 2000000 in
theorem compareRows_any (vh va vb : Value) (lh la lb : List KeyD) (w : World) (hh : RowKey w vh lh) (ha : RowKey w va la) (hb : RowKey w vb lb) (ra : rightL la) (rb : rightL lb) (hn : lh.length ≤ 1000) :
    Calls Tryz.prog 13 #[vh, va, vb] w fun e w' => e = .returned (.int .i64 (cmpRow lh la lb)) ∧ Below w.heap.size w w' := by
  rcases hh with ⟨rfl, a, c, rfl⟩ | ⟨b, cap, rfl, hh⟩
  · go_enter Tryz.func13, Tryz.ntmps13
    go_wp2_with fail
    refine wp_loop_rounds 1 ?_
    rw [rounds_succ]
    go_wp2_with fail
    go_ret
    exact ⟨rfl, by go_grown⟩
  · have HH := hide hh
    have HA := hide ha
    have HB := hide hb
    have HRA := hide ra
    have HRB := hide rb
    clear hh ha hb ra rb
    go_enter Tryz.func13, Tryz.ntmps13
    go_wp2_with fail
    go_loopw [12] (fun v wr => ∃ i : Nat, v = .int .i64 (i : Int) ∧ i ≤ lh.length ∧ Below w.heap.size w wr ∧ Hid (cmpRow lh la lb = cmpFrom lh la lb i (lh.length - i))) (fun v _ => lh.length - vNat v)
    case atStart => exact ⟨0, rfl, Nat.zero_le _, by go_grown, hide rfl⟩
    case round =>
      obtain ⟨i, rfl, hi, hbr, hR⟩ := hrel
      by_cases hlt : i < lh.length
      · have hlt' := nat_lt hlt
        have e : lh[i]? = some (keyG lh i) := by
          unfold keyG
          rw [List.getD_eq_getElem?_getD, List.getElem?_eq_getElem hlt]
          rfl
        have hk := (unhide HH i _ e)
        have hkr : KeyAt wr b (i * 5) (keyG lh i) := hk.below hbr
        clear hk e
        have HS := hide (cmpFrom_step lh la lb i hlt)
        have Hra := hide ((unhide HRA).at i)
        have Hrb := hide ((unhide HRB).at i)
        generalize keyG lh i = x at *
        have HX := hide (show ClsK w wr.heap.size x va vb la lb (wr.alloc (.cells #[.bool x.num, .bool x.down, .string x.t, .int .i64 x.k, .int .i64 x.v] 39)).drew from
          ⟨(hbr.alloc hbr.size _).drew, (keyAt_new wr x _).below (Below.refl _ _).drew, (unhide HA).below (hbr.alloc hbr.size _).drew, (unhide HB).below (hbr.alloc hbr.size _).drew⟩)
        obtain ⟨c0, c1, c2, c3, c4⟩ := hkr
        go_wp2_with fail
        clear c0 c1 c2 c3 c4
        have HK := hide (fun (v : Value) (l : List KeyD) (u : World) (h : RowKey u v l) => keyAt_any v l i u h)
        have HC := hide (fun (u : World) => compare_key x (keyG la i) (keyG lb i) u (unhide Hra) (unhide Hrb))
        unfold KeyD.val keyV at HK HC
        generalize hka : keyG la i = ka at *
        generalize hkb : keyG lb i = kb at *
        have Hka := hide hka
        have Hkb := hide hkb
        clear hka hkb
        generalize cmpKey x ka kb = c at *
        refine wp_region_cls (ClsK w wr.heap.size x va vb la lb) (by kernel_rfl) (by kernel_rfl) (unhide HX) ?_
        repeat
          (first
            | go_big_quiet_skip
            | (go_big_quiet_want
               go_big_quiet_op
               first
                 | go_big_quiet_on
                 | (apply Exists.intro
                    refine ⟨fun w' hC => ?_, ?_⟩
                    · (first
                        | (go_at_call 17; refine (unhide HC _).mono ?_; rintro e w3 ⟨rfl, hb3⟩; exact ⟨rfl, hC.below hb3⟩)
                        | (go_at_call 18; refine (unhide HK _ _ _ (by first | exact hC.ka | exact hC.kb)).mono ?_; rw [unhide Hka]; rintro e w3 ⟨rfl, hb3⟩; exact ⟨rfl, hC.below hb3⟩)
                        | (go_at_call 18; refine (unhide HK _ _ _ (by first | exact hC.kb | exact hC.ka)).mono ?_; rw [unhide Hkb]; rintro e w3 ⟨rfl, hb3⟩; exact ⟨rfl, hC.below hb3⟩)
                        | (have k0 := hC.kh.c0; have k1 := hC.kh.c1; have k2 := hC.kh.c2; have k3 := hC.kh.c3; have k4 := hC.kh.c4; go_simp; first | done | rfl))
                    go_big_quiet_on)))
        refine wpQuiet_nil ?_
        intro w4 hC4
        have hb4 := hC4.bel
        clear hC4 HX HK HC
        by_cases hc : c = 0
        · have HR2 := hide (show cmpRow lh la lb = cmpFrom lh la lb (i + 1) (lh.length - (i + 1)) by
            rw [unhide hR, unhide HS, hc]
            rfl)
          subst hc
          have HM := hide (show lh.length - (((i + 1 : Nat) : Int)).toNat < lh.length - ((i : Nat) : Int).toNat by rw [Int.toNat_natCast, Int.toNat_natCast]; exact Nat.sub_lt_sub_left hlt (Nat.lt_succ_self i))
          have HE1 := hide (show (i : Int) + 1 = ((i + 1 : Nat) : Int) by omega)
          go_wp2_with fail
          refine ⟨⟨i + 1, ?_, hlt, hb4, unhide HR2⟩, ?_⟩
          · first | (rw [unhide HE1]) | rfl
          · first | (rw [unhide HE1]; exact unhide HM) | exact unhide HM
        · have HR2 := hide (show cmpRow lh la lb = c by
            rw [unhide hR, unhide HS]
            unfold thenC
            rw [if_neg hc])
          have hc' : (c == 0) = false := by simpa using hc
          have hc2 : (c != 0) = true := by simpa using hc
          clear hc
          go_wp2_with fail
          go_ret
          exact ⟨ret_int (unhide HR2).symm, hb4⟩
      · have hlt' := nat_nlt hlt
        have HR2 := hide (show cmpRow lh la lb = 0 by
          rw [unhide hR, show lh.length - i = 0 by omega]
          rfl)
        go_wp2_with fail
        go_ret
        exact ⟨ret_int (unhide HR2).symm, hbr⟩
end Go.Proofs.YtoeahagloobmoaaGreatDoor
