/- Several texts, laid as one. -/
import Derived.Test.YtefjfjieoiegnaaGreatDoorGas
import Derived.BigQuiet
import Derived.BigGuard
import Derived.BigCall
import Derived.Deep.QuietTactic
import Derived.Test.YtefjfjieoiegnaaGreatDoorGan
import Derived.Test.YtefjfjieoiegnaaGreatDoorGam
/- Content: xmlscan's content. -/
namespace Go.Proofs.YtefjfjieoiegnaaGreatDoor
open Go.RowKit
attribute [local go_sem] jumps_normal jumps_exit jumps_ret jumps_goto jumps_panic
/-- What stands whenever content is read on. -/
def ContInv (spec : Except Er RS) (B p m : Nat) (w : World) (b : Bool) (n : Nat) (w' : World) : Prop := Below B w w' ∧ match b with
  | true => ∃ s' vo vt vr, Rd w' B p m vo vt vr s' ∧ Good s' ∧ OpnOk s' ∧ EOk s'.ents ∧ n = s'.rest.length + 1 ∧ ∃ f, s'.rest.length < f ∧ RS.content f s' = spec
  | false => n = 0 ∧ ∃ c pl, Wrong w' p c pl ∧ spec = .error (c, pl)
theorem cont_next {spec : Except Er RS} {B p m f : Nat} {w w1 w2 : World} {b : Bool} {s : RS} {o : Except Er RS} (hG : Good s) (hO : OpnOk s) (hN : EOk s.ents) (hne : s.opn ≠ []) (hf : s.rest.length < f + 1) (hs : RS.content (f + 1) s = spec) (ho : o = s.contentOne) (hb : Below B w w1) (h : outP o B p m (.returned (.bool b)) w1 w2) :
    ∃ n', n' < s.rest.length + 1 ∧ ContInv spec B p m w b n' w2 := by
  subst ho
  have he : (match s.contentOne with | .error e => (.error e : Except Er RS) | .ok s1 => RS.content f s1) = spec := by
    rw [← hs]
    unfold RS.content
    rw [if_neg hne]
    cases f with
    | zero => rfl
    | succ f => rfl
  obtain ⟨h1, h2⟩ := h
  cases hc : s.contentOne with
  | error x =>
    obtain ⟨c, pl⟩ := x
    rw [hc] at h2 he
    obtain ⟨hb', hw⟩ := h2
    cases hb'
    exact ⟨0, by omega, hb.trans h1, rfl, c, pl, hw, he.symm⟩
  | ok s1 =>
    rw [hc] at h2 he
    obtain ⟨hb', vo, vt, vr, R1⟩ := h2
    cases hb'
    obtain ⟨k1, k2, k3, k4⟩ := contentOne_ok hG hO hN hc
    exact ⟨s1.rest.length + 1, by omega, hb.trans h1, s1, vo, vt, vr, R1, k2, k3, k4, rfl, f, by omega, he⟩
set_option maxRecDepth 100000 in
set_option maxHeartbeats 8000000 in
theorem content_any (B p m : Nat) (vo vt vr : Value) (s : RS) (w : World) (R : Rd w B p m vo vt vr s) (hG : Good s) (hO : OpnOk s) (hE : XEnv B w) (hN : EOk s.ents) :
    Calls Tryz.prog 62 #[.pointer (some ⟨p, 0, none⟩)] w fun e w' => outP (RS.content (s.rest.length + 1) s) B p m e w w' := by
  have hlow := R.low
  have hlt := R.lt
  go_enter Tryz.func62, Tryz.ntmps62
  go_wp2_with fail
  refine wp_scope_one 0 (fun n a' w' => ∃ (b : Bool) (u1 u2 u4 u5 u6 u7 u8 u9 u10 u11 u12 u13 u14 u15 u16 u17 u18 u19 u20 u21 u22 u23 u24 u25 u26 u27 u28 u29 u30 u31 u32 u33 u34 u35 u36 u37 u38 u39 u40 u41 u42 u43 u44 u45 u46 u47 u48 u49 u50 u51 u52 u53 u54 u55 u56 u57 u58 u59 u60 u61 u62 u63 u64 u65 u66 u67 u68 u69 u70 u71 u72 u73 u74 u75 u76 : Value), ContInv (RS.content (s.rest.length + 1) s) B p m w b n w' ∧ a' = { tmps := #[.pointer (some ⟨p, 0, none⟩), u1, u2, .bool b, u4, u5, u6, u7, u8, u9, u10, u11, u12, u13, u14, u15, u16, u17, u18, u19, u20, u21, u22, u23, u24, u25, u26, u27, u28, u29, u30, u31, u32, u33, u34, u35, u36, u37, u38, u39, u40, u41, u42, u43, u44, u45, u46, u47, u48, u49, u50, u51, u52, u53, u54, u55, u56, u57, u58, u59, u60, u61, u62, u63, u64, u65, u66, u67, u68, u69, u70, u71, u72, u73, u74, u75, u76], defers := [] }) rfl ?_ ?_
  · rintro n a' w' ⟨b, u1, u2, u4, u5, u6, u7, u8, u9, u10, u11, u12, u13, u14, u15, u16, u17, u18, u19, u20, u21, u22, u23, u24, u25, u26, u27, u28, u29, u30, u31, u32, u33, u34, u35, u36, u37, u38, u39, u40, u41, u42, u43, u44, u45, u46, u47, u48, u49, u50, u51, u52, u53, u54, u55, u56, u57, u58, u59, u60, u61, u62, u63, u64, u65, u66, u67, u68, u69, u70, u71, u72, u73, u74, u75, u76, hI, rfl⟩
    obtain ⟨hbw, hI⟩ := hI
    cases b
    · obtain ⟨rfl, c, pl, hw, hsp⟩ := hI
      have HSP := hide hsp
      clear hsp
      go_wp2_with fail
      try rw [jumps_ret]
      go_ret
      rw [unhide HSP]
      exact ⟨hbw, rfl, hw⟩
    · obtain ⟨s1, vo1, vt1, vr1, R1, G1, O1, N1, rfl, f, hf, hsp⟩ := hI
      have hro := R1.opn
      obtain ⟨ao, co, rfl⟩ := owns_slice hro
      have c4 : w'.cell? ⟨p, 4, none⟩ = some (.slice ao s1.opn.length co) := blk_cell R1.blk 4
      clear hro
      by_cases hne : s1.opn = []
      · have hl : s1.opn.length = 0 := by rw [hne]; rfl
        rw [hl] at c4
        have HSP : Hid (RS.content (s.rest.length + 1) s = .ok s1) := by
          obtain ⟨g, rfl⟩ : ∃ g, f = g + 1 := ⟨f - 1, by omega⟩
          rw [← hsp]
          unfold RS.content
          exact hide (if_pos hne)
        have HR1 := hide R1
        clear hsp hne hl R1
        go_wp2_with fail
        try rw [jumps_ret]
        go_ret
        rw [unhide HSP]
        exact ⟨hbw, rfl, _, _, _, unhide HR1⟩
      · have hl : 0 < s1.opn.length := by
          cases hh : s1.opn with
          | nil => exact absurd hh hne
          | cons _ _ => simp
        have i1 : ((s1.opn.length : Int) == 0) = false := by simp; omega
        obtain ⟨g, rfl⟩ : ∃ g, f = g + 1 := ⟨f - 1, by omega⟩
        have HN := hide (fun (o : Except Er RS) (ho : o = s1.contentOne) (W w2 : World) (b : Bool) (hW : Below B w W) (h : outP o B p m (.returned (.bool b)) W w2) => cont_next G1 O1 N1 hne hf hsp ho hW h)
        have HNE := hide hne
        have hX1 := hE
        clear hsp hne
        go_wp2_with fail
        refine (sees_any [60, 47] ⟨#[60, 47]⟩ rfl (by decide) p s1 _ R1.at G1.fine).mono ?_
        rintro e w2 ⟨rfl, hb2⟩
        have R2 := R1.on hb2
        have hbw2 := hbw.trans (hb2.mono (by have := R1.lt; omega))
        have HC : Hid (s1.contentOne = if s1.sees [60, 47] then s1.endTag else if s1.sees [60, 33, 45, 45] then s1.tellComment else if s1.sees [60, 33, 91, 67, 68, 65, 84, 65, 91] then s1.section' else if s1.sees [60, 63] then s1.tellInstruction else if s1.sees [60] then s1.startTag else if s1.sees [38] then s1.refRun else if s1.rest ≠ [] ∧ s1.sees [93, 93, 62] = false then s1.plain else .error (5, s1.place)) := hide rfl
        clear c4 R1 hb2
        rw [show [60, 47].isPrefixOf s1.rest = s1.sees [60, 47] from rfl]
        cases h1 : s1.sees [60, 47]
        · have hc := unhide HC
          rw [h1, if_neg (by decide)] at hc
          have HC' := hide hc
          clear hc h1 HC
          have HC := HC'
          clear HC'
          go_wp2_with fail
          refine (sees_any [60, 33, 45, 45] ⟨#[60, 33, 45, 45]⟩ rfl (by decide) p s1 _ R2.at G1.fine).mono ?_
          rintro e w3 ⟨rfl, hb3⟩
          have R3 := R2.on hb3
          have hbw3 := hbw2.trans (hb3.mono (by have := R2.lt; omega))
          clear R2 hb3
          rw [show [60, 33, 45, 45].isPrefixOf s1.rest = s1.sees [60, 33, 45, 45] from rfl]
          cases h1 : s1.sees [60, 33, 45, 45]
          · have hc := unhide HC
            rw [h1, if_neg (by decide)] at hc
            have HC' := hide hc
            clear hc h1 HC
            have HC := HC'
            clear HC'
            go_wp2_with fail
            refine (sees_any [60, 33, 91, 67, 68, 65, 84, 65, 91] ⟨#[60, 33, 91, 67, 68, 65, 84, 65, 91]⟩ rfl (by decide) p s1 _ R3.at G1.fine).mono ?_
            rintro e w4 ⟨rfl, hb4⟩
            have R4 := R3.on hb4
            have hbw4 := hbw3.trans (hb4.mono (by have := R3.lt; omega))
            clear R3 hb4
            rw [show [60, 33, 91, 67, 68, 65, 84, 65, 91].isPrefixOf s1.rest = s1.sees [60, 33, 91, 67, 68, 65, 84, 65, 91] from rfl]
            cases h1 : s1.sees [60, 33, 91, 67, 68, 65, 84, 65, 91]
            · have hc := unhide HC
              rw [h1, if_neg (by decide)] at hc
              have HC' := hide hc
              clear hc h1 HC
              have HC := HC'
              clear HC'
              go_wp2_with fail
              refine (sees_any [60, 63] ⟨#[60, 63]⟩ rfl (by decide) p s1 _ R4.at G1.fine).mono ?_
              rintro e w5 ⟨rfl, hb5⟩
              have R5 := R4.on hb5
              have hbw5 := hbw4.trans (hb5.mono (by have := R4.lt; omega))
              clear R4 hb5
              rw [show [60, 63].isPrefixOf s1.rest = s1.sees [60, 63] from rfl]
              cases h1 : s1.sees [60, 63]
              · have hc := unhide HC
                rw [h1, if_neg (by decide)] at hc
                have HC' := hide hc
                clear hc h1 HC
                have HC := HC'
                clear HC'
                go_wp2_with fail
                refine (sees_any [60] ⟨#[60]⟩ rfl (by decide) p s1 _ R5.at G1.fine).mono ?_
                rintro e w6 ⟨rfl, hb6⟩
                have R6 := R5.on hb6
                have hbw6 := hbw5.trans (hb6.mono (by have := R5.lt; omega))
                clear R5 hb6
                rw [show [60].isPrefixOf s1.rest = s1.sees [60] from rfl]
                cases h1 : s1.sees [60]
                · have hc := unhide HC
                  rw [h1, if_neg (by decide)] at hc
                  have HC' := hide hc
                  clear hc h1 HC
                  have HC := HC'
                  clear HC'
                  go_wp2_with fail
                  refine (sees_any [38] ⟨#[38]⟩ rfl (by decide) p s1 _ R6.at G1.fine).mono ?_
                  rintro e w7 ⟨rfl, hb7⟩
                  have R7 := R6.on hb7
                  have hbw7 := hbw6.trans (hb7.mono (by have := R6.lt; omega))
                  clear R6 hb7
                  rw [show [38].isPrefixOf s1.rest = s1.sees [38] from rfl]
                  cases h1 : s1.sees [38]
                  · have hc := unhide HC
                    rw [h1, if_neg (by decide)] at hc
                    have HC' := hide hc
                    clear hc h1 HC
                    have HC := HC'
                    clear HC'
                    have c1 : w7.cell? ⟨p, 1, none⟩ = some (.int .i64 (s1.place : Nat)) := R7.at.pos
                    have c0 : w7.cell? ⟨p, 0, none⟩ = some (.string (T (s1.pre ++ s1.rest))) := R7.at.txt
                    have hsum := G1.fine.sum
                    have HFAIL : Hid (∀ W w8, Below B w7 W → Below B W w8 → Wrong w8 p 5 s1.place → s1.contentOne = .error (5, s1.place) → outP (RS.content (s.rest.length + 1) s) B p m (.returned (.bool false)) w w8) := by
                      refine hide fun W w8 h1 h2 h3 h4 => ?_
                      obtain ⟨n', _, hC⟩ := unhide HN (.error (5, s1.place)) h4.symm w7 w8 false hbw7 ⟨h1.trans h2, rfl, h3⟩
                      obtain ⟨h5, _, c, pl, h6, h7⟩ := hC
                      rw [h7]
                      exact ⟨h5, rfl, h6⟩
                    have HX := hide (show ClsW w7 w7.drew from ⟨(Below.refl _ _).drew⟩)
                    have HCE := hide (fun (u : World) (h : ClsW w7 u) => (⟨(R7.on h.bel).at.pos, (R7.on h.bel).at.txt⟩ : u.cell? ⟨p, 1, none⟩ = some (.int .i64 (s1.place : Nat)) ∧ u.cell? ⟨p, 0, none⟩ = some (.string (T (s1.pre ++ s1.rest)))))
                    have HCB := hide (fun (u u' : World) (h : ClsW w7 u) (hb : Below u.heap.size u u') => (⟨Below.then h.bel hb⟩ : ClsW w7 u'))
                    have HSE := hide (fun (u : World) (h : ClsW w7 u) => sees_any [93, 93, 62] ⟨#[93, 93, 62]⟩ rfl (by decide) p s1 u (R7.on h.bel).at G1.fine)
                    clear c1 c0
                    by_cases hre : s1.rest = []
                    · have HEQ : Hid (s1.contentOne = .error (5, s1.place)) := hide (by rw [unhide HC, if_neg (fun h => h.1 hre)])
                      have hz0 : s1.place = (T (s1.pre ++ s1.rest)).size := by
                        rw [hre] at hsum
                        have : (T []).size = 0 := rfl
                        rw [hre]
                        omega
                      have i5 : decide (s1.place < (T (s1.pre ++ s1.rest)).size) = false := decide_eq_false (by omega)
                      clear HC hre hz0
                      go_wp2_with fail
                      refine wp_region_cls (ClsW w7) (by kernel_rfl) (by kernel_rfl) (unhide HX) ?_
                      repeat
                        (first
                          | go_big_quiet_skip
                          | (go_big_quiet_want
                             go_big_quiet_op
                             first
                               | go_big_quiet_on
                               | (apply Exists.intro
                                  refine ⟨fun w' hC => ?_, ?_⟩
                                  · (first
                                      | (go_at_call 57; refine (unhide HSE _ hC).mono ?_; rintro e w3 ⟨rfl, hb3⟩; exact ⟨rfl, unhide HCB _ _ hC hb3⟩)
                                      | (obtain ⟨k0, k1⟩ := unhide HCE _ hC; go_simp; first | done | rfl))
                                  go_big_quiet_on)))
                      refine wpQuiet_nil ?_
                      intro w8 hC8
                      have hb8 := hC8.bel
                      clear hC8 HX HCB HSE HCE
                      have R8 := R7.on hb8
                      have c18 : w8.cell? ⟨p, 1, none⟩ = some (.int .i64 (s1.place : Nat)) := R8.at.pos
                      have hb8B : Below B w7 w8 := hb8.mono (by have := R7.lt; omega)
                      clear R7 hb8
                      go_wp2_with (go_at_call 63; refine (fail_rd B p 5 s1.place _ R8.blk rfl hlow).mono ?_; rintro e w9 ⟨rfl, hw9, hb9⟩)
                      try rw [jumps_ret]
                      go_ret
                      exact unhide HFAIL _ _ hb8B hb9 hw9 (unhide HEQ)
                    · have hpos : 0 < (T s1.rest).size := Nat.pos_of_ne_zero fun h0 => hre (tx_len_zero G1.fine.okR h0)
                      have i5 : decide (s1.place < (T (s1.pre ++ s1.rest)).size) = true := decide_eq_true (by omega)
                      have HRE := hide hre
                      clear hre hpos
                      cases h1 : s1.sees [93, 93, 62]
                      · have HO : Hid (s1.plain = s1.contentOne) := hide (by rw [unhide HC, if_pos ⟨unhide HRE, h1⟩])
                        rw [show [93, 93, 62].isPrefixOf s1.rest = s1.sees [93, 93, 62] from rfl, h1] at HSE
                        clear HC h1
                        go_wp2_with fail
                        refine wp_region_cls (ClsW w7) (by kernel_rfl) (by kernel_rfl) (unhide HX) ?_
                        repeat
                          (first
                            | go_big_quiet_skip
                            | (go_big_quiet_want
                               go_big_quiet_op
                               first
                                 | go_big_quiet_on
                                 | (apply Exists.intro
                                    refine ⟨fun w' hC => ?_, ?_⟩
                                    · (first
                                        | (go_at_call 57; refine (unhide HSE _ hC).mono ?_; rintro e w3 ⟨rfl, hb3⟩; exact ⟨rfl, unhide HCB _ _ hC hb3⟩)
                                        | (obtain ⟨k0, k1⟩ := unhide HCE _ hC; go_simp; first | done | rfl))
                                    go_big_quiet_on)))
                        refine wpQuiet_nil ?_
                        intro w8 hC8
                        have hb8 := hC8.bel
                        clear hC8 HX HCB HSE HCE
                        have R8 := R7.on hb8
                        have hbw8 := hbw7.trans (hb8.mono (by have := R7.lt; omega))
                        clear R7 hb8
                        go_wp2_with fail
                        refine (plain_any B p m _ _ _ s1 _ R8 G1 (hX1.low hbw8)).mono ?_
                        intro e w9 ho
                        obtain ⟨b, rfl, ho⟩ := outP_form ho
                        obtain ⟨n', hn', hC⟩ := unhide HN _ (unhide HO) _ _ b hbw8 ho
                        have HCI := hide hC
                        clear hC ho
                        go_wp2_with fail
                        go_step3
                        exact ⟨rfl, n', hn', b, _, _, _, _, _, _, _, _, _, _, _, _, _, _, _, _, _, _, _, _, _, _, _, _, _, _, _, _, _, _, _, _, _, _, _, _, _, _, _, _, _, _, _, _, _, _, _, _, _, _, _, _, _, _, _, _, _, _, _, _, _, _, _, _, _, _, _, _, _, _, _, _, _, _, _, unhide HCI, rfl⟩
                      · have HEQ : Hid (s1.contentOne = .error (5, s1.place)) := hide (by rw [unhide HC, if_neg (fun h => by rw [h.2] at h1; cases h1)])
                        rw [show [93, 93, 62].isPrefixOf s1.rest = s1.sees [93, 93, 62] from rfl, h1] at HSE
                        clear HC h1
                        go_wp2_with fail
                        refine wp_region_cls (ClsW w7) (by kernel_rfl) (by kernel_rfl) (unhide HX) ?_
                        repeat
                          (first
                            | go_big_quiet_skip
                            | (go_big_quiet_want
                               go_big_quiet_op
                               first
                                 | go_big_quiet_on
                                 | (apply Exists.intro
                                    refine ⟨fun w' hC => ?_, ?_⟩
                                    · (first
                                        | (go_at_call 57; refine (unhide HSE _ hC).mono ?_; rintro e w3 ⟨rfl, hb3⟩; exact ⟨rfl, unhide HCB _ _ hC hb3⟩)
                                        | (obtain ⟨k0, k1⟩ := unhide HCE _ hC; go_simp; first | done | rfl))
                                    go_big_quiet_on)))
                        refine wpQuiet_nil ?_
                        intro w8 hC8
                        have hb8 := hC8.bel
                        clear hC8 HX HCB HSE HCE
                        have R8 := R7.on hb8
                        have c18 : w8.cell? ⟨p, 1, none⟩ = some (.int .i64 (s1.place : Nat)) := R8.at.pos
                        have hb8B : Below B w7 w8 := hb8.mono (by have := R7.lt; omega)
                        clear R7 hb8
                        go_wp2_with (go_at_call 63; refine (fail_rd B p 5 s1.place _ R8.blk rfl hlow).mono ?_; rintro e w9 ⟨rfl, hw9, hb9⟩)
                        try rw [jumps_ret]
                        go_ret
                        exact unhide HFAIL _ _ hb8B hb9 hw9 (unhide HEQ)
                  · have hc := unhide HC
                    rw [h1, if_pos rfl] at hc
                    have HO := hide hc.symm
                    have H1 := hide h1
                    clear hc h1 HC
                    go_wp2_with fail
                    obtain ⟨ar, kr, rfl⟩ := owns_slice R7.run
                    have hrl1 := G1.rl
                    have hsp1 := G1.sp
                    have hpl1 := G1.fine.lt
                    have hB7 : B ≤ w7.heap.size := by have := R7.lt; omega
                    refine (reference_any B B p m p 6 false _ _ _ (.slice ar (tx s1.run).length kr) s1.run s1 _ R7 G1 (hX1.low hbw7) N1.u N1.ne N1.z (unhide H1) (blk_cell R7.blk 6) (blk_open R7.blk 6) R7.run (Nat.le_refl B) hB7 (by omega) (owns_not R7.run R7.blk (by decide)) (fun _ => rfl)).mono ?_
                    intro e w8 hr
                    cases hrf : s1.reference false with
                    | error x =>
                      obtain ⟨c, pl⟩ := x
                      rw [hrf] at hr
                      obtain ⟨rfl, hw8, hb8⟩ := hr
                      have hO : s1.refRun = .error (c, pl) := by unfold RS.refRun; rw [hrf]
                      obtain ⟨n', hn', hC⟩ := unhide HN _ (unhide HO) _ w8 false hbw7 (by rw [hO]; exact ⟨hb8, rfl, hw8⟩)
                      have HCI := hide hC
                      clear hC hO hrf
                      go_wp2_with fail
                      go_step3
                      exact ⟨rfl, n', hn', false, _, _, _, _, _, _, _, _, _, _, _, _, _, _, _, _, _, _, _, _, _, _, _, _, _, _, _, _, _, _, _, _, _, _, _, _, _, _, _, _, _, _, _, _, _, _, _, _, _, _, _, _, _, _, _, _, _, _, _, _, _, _, _, _, _, _, _, _, _, _, _, _, _, _, _, unhide HCI, rfl⟩
                    | ok x =>
                      obtain ⟨l, s2⟩ := x
                      rw [hrf] at hr
                      obtain ⟨rfl, wk, v', hkp, hblk, hrow, hm⟩ := hr
                      obtain ⟨r1, r2, r3, r3b, r4, r5⟩ := ref_t N1 G1.fine.okR G1.sp hrf
                      have hO : s1.refRun = { s2 with run := s1.run ++ l }.room := by unfold RS.refRun; rw [hrf]
                      have hran := R7.ranS (w' := wk) (v' := v') (x := l) hkp hblk hrow
                      have R8 : Rd w8 B p m _ _ v' { s2 with run := s1.run ++ l } := hran.moved hm (by obtain ⟨k, hk⟩ := r5; exact ⟨k, by rw [hk]; rfl⟩)
                      have hb8 : Below B w7 w8 := (hkp.low hB7 (fun k hk => by rcases hk with h | h; exact (R7.run.lt k h).1; omega)).trans (((Below.refl B wk).setCell hlow v').trans (hm.low hlow (by rw [blk_size]; have := hkp.size; omega)))
                      have HB8 := hide hb8
                      have HRR := hide (room_any B p m _ _ _ _ w8 R8 (fun hne => Nat.pos_of_ne_zero fun h0 => hne (tx_len_zero (okL_app G1.okr r2) h0)))
                      have HOO := hide ((unhide HO).symm.trans hO)
                      clear hran R8 hb8 hkp hblk hrow hm hrf hO R7
                      go_wp2_with fail
                      refine (unhide HRR).mono ?_
                      intro e w9 ho
                      obtain ⟨b, rfl, ho⟩ := outP_form ho
                      obtain ⟨n', hn', hC⟩ := unhide HN _ (unhide HOO).symm _ _ b (hbw7.trans (unhide HB8)) ho
                      have HCI := hide hC
                      clear hC ho
                      go_wp2_with fail
                      go_step3
                      exact ⟨rfl, n', hn', b, _, _, _, _, _, _, _, _, _, _, _, _, _, _, _, _, _, _, _, _, _, _, _, _, _, _, _, _, _, _, _, _, _, _, _, _, _, _, _, _, _, _, _, _, _, _, _, _, _, _, _, _, _, _, _, _, _, _, _, _, _, _, _, _, _, _, _, _, _, _, _, _, _, _, _, unhide HCI, rfl⟩
                · have hc := unhide HC
                  rw [h1, if_pos rfl] at hc
                  have HO := hide hc.symm
                  have H1 := hide h1
                  clear hc h1 HC
                  go_wp2_with fail
                  refine (startTag_any B p m _ _ _ s1 _ R6 G1 O1 (hX1.low hbw6) N1 (unhide H1)).mono ?_
                  intro e w9 ho
                  obtain ⟨b, rfl, ho⟩ := outP_form ho
                  obtain ⟨n', hn', hC⟩ := unhide HN _ (unhide HO) _ _ b hbw6 ho
                  have HCI := hide hC
                  clear hC ho
                  go_wp2_with fail
                  go_step3
                  exact ⟨rfl, n', hn', b, _, _, _, _, _, _, _, _, _, _, _, _, _, _, _, _, _, _, _, _, _, _, _, _, _, _, _, _, _, _, _, _, _, _, _, _, _, _, _, _, _, _, _, _, _, _, _, _, _, _, _, _, _, _, _, _, _, _, _, _, _, _, _, _, _, _, _, _, _, _, _, _, _, _, _, unhide HCI, rfl⟩
              · have hc := unhide HC
                rw [h1, if_pos rfl] at hc
                have HO := hide hc.symm
                have H1 := hide h1
                clear hc h1 HC
                go_wp2_with fail
                refine (tellInstruction_any B p m _ _ _ s1 _ R5 G1 (hX1.low hbw5) (unhide H1)).mono ?_
                intro e w9 ho
                obtain ⟨b, rfl, ho⟩ := outP_form ho
                obtain ⟨n', hn', hC⟩ := unhide HN _ (unhide HO) _ _ b hbw5 ho
                have HCI := hide hC
                clear hC ho
                go_wp2_with fail
                go_step3
                exact ⟨rfl, n', hn', b, _, _, _, _, _, _, _, _, _, _, _, _, _, _, _, _, _, _, _, _, _, _, _, _, _, _, _, _, _, _, _, _, _, _, _, _, _, _, _, _, _, _, _, _, _, _, _, _, _, _, _, _, _, _, _, _, _, _, _, _, _, _, _, _, _, _, _, _, _, _, _, _, _, _, _, unhide HCI, rfl⟩
            · have hc := unhide HC
              rw [h1, if_pos rfl] at hc
              have HO := hide hc.symm
              have H1 := hide h1
              clear hc h1 HC
              go_wp2_with fail
              refine (section_any B p m _ _ _ s1 _ R4 G1 (hX1.low hbw4) (unhide H1)).mono ?_
              intro e w9 ho
              obtain ⟨b, rfl, ho⟩ := outP_form ho
              obtain ⟨n', hn', hC⟩ := unhide HN _ (unhide HO) _ _ b hbw4 ho
              have HCI := hide hC
              clear hC ho
              go_wp2_with fail
              go_step3
              exact ⟨rfl, n', hn', b, _, _, _, _, _, _, _, _, _, _, _, _, _, _, _, _, _, _, _, _, _, _, _, _, _, _, _, _, _, _, _, _, _, _, _, _, _, _, _, _, _, _, _, _, _, _, _, _, _, _, _, _, _, _, _, _, _, _, _, _, _, _, _, _, _, _, _, _, _, _, _, _, _, _, _, unhide HCI, rfl⟩
          · have hc := unhide HC
            rw [h1, if_pos rfl] at hc
            have HO := hide hc.symm
            have H1 := hide h1
            clear hc h1 HC
            go_wp2_with fail
            refine (tellComment_any B p m _ _ _ s1 _ R3 G1 (hX1.low hbw3) (unhide H1)).mono ?_
            intro e w9 ho
            obtain ⟨b, rfl, ho⟩ := outP_form ho
            obtain ⟨n', hn', hC⟩ := unhide HN _ (unhide HO) _ _ b hbw3 ho
            have HCI := hide hC
            clear hC ho
            go_wp2_with fail
            go_step3
            exact ⟨rfl, n', hn', b, _, _, _, _, _, _, _, _, _, _, _, _, _, _, _, _, _, _, _, _, _, _, _, _, _, _, _, _, _, _, _, _, _, _, _, _, _, _, _, _, _, _, _, _, _, _, _, _, _, _, _, _, _, _, _, _, _, _, _, _, _, _, _, _, _, _, _, _, _, _, _, _, _, _, _, unhide HCI, rfl⟩
        · have hc := unhide HC
          rw [h1, if_pos rfl] at hc
          have HO := hide hc.symm
          have H1 := hide h1
          clear hc h1 HC
          go_wp2_with fail
          refine (endTag_any B p m _ _ _ s1 _ R2 G1 O1 (unhide HNE) (unhide H1)).mono ?_
          intro e w9 ho
          obtain ⟨b, rfl, ho⟩ := outP_form ho
          obtain ⟨n', hn', hC⟩ := unhide HN _ (unhide HO) _ _ b hbw2 ho
          have HCI := hide hC
          clear hC ho
          go_wp2_with fail
          go_step3
          exact ⟨rfl, n', hn', b, _, _, _, _, _, _, _, _, _, _, _, _, _, _, _, _, _, _, _, _, _, _, _, _, _, _, _, _, _, _, _, _, _, _, _, _, _, _, _, _, _, _, _, _, _, _, _, _, _, _, _, _, _, _, _, _, _, _, _, _, _, _, _, _, _, _, _, _, _, _, _, _, _, _, _, unhide HCI, rfl⟩
  · intro HR1
    have HR := hide HR1
    clear HR1
    have HI0 : Hid (ContInv (RS.content (s.rest.length + 1) s) B p m w true (s.rest.length + 1) w) := hide ⟨Below.refl _ _, s, vo, vt, vr, R, hG, hO, hN, rfl, s.rest.length + 1, by omega, rfl⟩
    go_wp2_with fail
    go_step3
    rename_i hK
    exact hK _ _ (unhide HR (s.rest.length + 1) _ _ ⟨true, _, _, _, _, _, _, _, _, _, _, _, _, _, _, _, _, _, _, _, _, _, _, _, _, _, _, _, _, _, _, _, _, _, _, _, _, _, _, _, _, _, _, _, _, _, _, _, _, _, _, _, _, _, _, _, _, _, _, _, _, _, _, _, _, _, _, _, _, _, _, _, _, _, _, _, unhide HI0, rfl⟩)
end Go.Proofs.YtefjfjieoiegnaaGreatDoor
/- Where an entity's text comes to a sign that it may not have: strings.IndexAny, ContainsAny. -/
namespace Go.Proofs.YtefjfjieoiegnaaGreatDoor
open Go.RowKit
def plainE (c : Nat) : Bool := c != 60 && c != 37
def anyE (l : List Nat) : Int := if l.takeWhile (plainE) = l then -1 else ((T (l.takeWhile (plainE))).size : Nat)
theorem anyE_none {l : List Nat} (h : ∀ x ∈ l, plainE x = true) : anyE l = -1 := by
  unfold anyE
  rw [if_pos (by have := List.takeWhile_append_of_pos (l₂ := []) h; simpa using this)]
theorem anyE_hit {p t : List Nat} {c : Nat} (h : ∀ x ∈ p, plainE x = true) (hc : plainE c = false) : anyE (p ++ c :: t) = (tx p).length := by
  have e : (p ++ c :: t).takeWhile (plainE) = p := by
    rw [List.takeWhile_append_of_pos h, List.takeWhile_cons_of_neg (by rw [hc]; decide), List.append_nil]
  unfold anyE
  rw [e, if_neg (by simp), T_size]
theorem signE_in : ∀ c, c < 128 → decide (0 ≤ Lib.indexByte [60, 37] (UInt8.ofNat c)) = !plainE c := by
  decide +kernel
theorem runeInE_any (c : Nat) (hc : charR (c : Int) = true) (w : World) :
    Calls Tryz.prog 186 #[.string (T [60, 37]), .int .i32 (c : Int)] w fun e w' => ∃ v : Int, e = .returned (.int .i64 v) ∧ decide (0 ≤ v) = !plainE c ∧ Below w.heap.size w w' := by
  have hT : (T [60, 37]).data.toList = [60, 37] := by
    rw [T_data]
    decide +kernel
  by_cases h : c < 128
  · refine (Tryz.strings_IndexRune_ascii _ (c : Int) w (by omega) (by omega)).mono ?_
    rintro e w' ⟨rfl, rfl⟩
    refine ⟨_, rfl, ?_, Below.refl _ _⟩
    rw [hT, ← signE_in c h]
    rfl
  · refine (indexRune_high [60, 37] ?_ ?_ (by simp) c (charR_ok hc) (by omega) w).mono ?_
    · unfold okL; decide +kernel
    · decide
    rintro e w' ⟨rfl, hb⟩
    refine ⟨_, rfl, ?_, hb⟩
    have : plainE c = true := by
      unfold plainE
      simp
      omega
    rw [this]
    rfl
set_option maxRecDepth 100000 in
set_option maxHeartbeats 2000000 in
theorem indexAnyE_few (l : List Nat) (w : World) (hl : okL l) (hs : (T l).size ≤ 8) :
    Calls Tryz.prog 161 #[.string (T l), .string (T [60, 37])] w fun e w' => e = .returned (.int .i64 (anyE l)) ∧ Below w.heap.size w w' := by
  have hz : (T [60, 37]).size = 2 := by
    rw [T_size]
    decide +kernel
  have hem : (T [60, 37]).toList.isEmpty = false := by
    rw [T_toList]
    decide +kernel
  have h8 : decide ((8 : Int) < ((T l).size : Int)) = false := decide_eq_false (by omega)
  have HR := hide (runeInE_any)
  generalize hX : T [60, 37] = X at *
  clear hX
  go_enter Tryz.func161, Tryz.ntmps161
  go_wp2_with (go_at_call 190; refine (Tryz.strings_shouldUseASCIISet _ _).mono ?_; rintro e w' ⟨rfl, hw⟩; rw [hw, h8])
  go_loopw [] (fun wr => ∃ p t : List Nat, l = p ++ t ∧ (∀ x ∈ p, plainE x = true) ∧ wr.heap[w.heap.size]? = some (.stringIter (T l) (tx p).length) ∧ Below w.heap.size w wr) (fun wr => (T l).size - wr.iterPos w.heap.size)
  case atStart =>
    refine ⟨[], l, rfl, (fun _ h => by cases h), ?_, ?_⟩
    · simpa [tx_nil] using World.iter_heap w (T l) 0
    · exact (Below.refl _ _).alloc (Nat.le_refl _) _
  case round =>
    obtain ⟨p, t, hpt, hp, hk, hbr⟩ := hrel
    cases t with
    | nil =>
      have hnx := fun ty => Lib.run_next_end_at (P := Tryz.prog) wr w.heap.size (T l) (tx p).length ty hk (end_at hpt)
      have HA := hide (show anyE l = -1 from by rw [hpt, List.append_nil]; exact anyE_none hp)
      clear hpt hk
      go_wp2
      go_ret
      exact ⟨ret_int (unhide HA).symm, hbr⟩
    | cons c t =>
      obtain ⟨hd, hlt, hc, hpos⟩ := dec_at hpt hl
      have hnx := fun ty => Lib.run_next_any_at (P := Tryz.prog) wr w.heap.size (T l) (tx p).length ty hk hlt
      rw [hd] at hnx
      simp only at hnx
      have HS := hide (tx_snoc p c)
      have HPT := hide hpt
      have HK := hide hk
      have hbl : w.heap.size < wr.heap.size := (Array.getElem?_eq_some_iff.1 hk).1
      have hbI : Below w.heap.size w (wr.iterAt w.heap.size (T l) ((tx p).length + (runeB c).length)) := Lib.below_iterAt hbr (by omega) _ _
      have hszI : w.heap.size ≤ (wr.iterAt w.heap.size (T l) ((tx p).length + (runeB c).length)).heap.size := by rw [Lib.iterAt_size]; omega
      have HKI : Hid ((wr.iterAt w.heap.size (T l) ((tx p).length + (runeB c).length)).heap[w.heap.size]? = some (.stringIter (T l) ((tx p).length + (runeB c).length))) := hide (Lib.iterAt_heap wr _ _ _ _ (unhide HK))
      clear hd hpt hk
      cases hpc : plainE c
      · have HA := hide (show anyE l = (tx p).length from by rw [unhide HPT]; exact anyE_hit hp hpc)
        go_wp2_with (go_at_call 186; refine (unhide HR c hc _).mono ?_; rintro e w1 ⟨v, rfl, hv, hb1⟩; rw [hpc] at hv)
        go_ret
        exact ⟨ret_int (unhide HA).symm, hbI.trans (hb1.mono hszI)⟩
      · go_wp2_with (go_at_call 186; refine (unhide HR c hc _).mono ?_; rintro e w1 ⟨v, rfl, hv, hb1⟩; rw [hpc] at hv)
        refine ⟨⟨p ++ [c], t, by rw [unhide HPT]; simp, ?_, ?_, hbI.trans (hb1.mono hszI)⟩, ?_⟩
        · intro x hx
          rcases List.mem_append.1 hx with hx | hx
          · exact hp x hx
          · rw [List.mem_singleton.1 hx]; exact hpc
        · rw [unhide HS]; exact block_below (unhide HKI) hb1
        · rw [iterPos_of (block_below (unhide HKI) hb1), iterPos_of (unhide HK)]
          omega
theorem plainE_bytes {x : Nat} (hx : charR (x : Int) = true) (hp : plainE x = true) (b : UInt8) (hb : b ∈ runeB x) : [60, 37].contains b = false := by
  by_cases h : x < 128
  · rw [runeB_one h] at hb
    obtain rfl := List.mem_singleton.1 hb
    have h1 := signE_in x h
    rw [← Lib.contains_iff_indexByte, hp] at h1
    exact h1
  · have h1 := runeB_high (charR_ok hx) (by omega) b hb
    cases hc : [60, 37].contains b
    · rfl
    · have h2 := List.contains_iff_mem.1 hc
      have : b.toNat < 128 := by
        simp at h2
        rcases h2 with rfl | rfl <;> decide
      omega
theorem plainE_tx {p : List Nat} (hl : okL p) (hp : ∀ x ∈ p, plainE x = true) (b : UInt8) (hb : b ∈ tx p) : [60, 37].contains b = false := by
  obtain ⟨x, hx, hbx⟩ := List.mem_flatMap.1 (by simpa [tx] using hb)
  exact plainE_bytes (hl x hx) (hp x hx) b hbx
theorem noE_any {p : List Nat} (hl : okL p) (hp : ∀ x ∈ p, plainE x = true) (t : List UInt8) : Lib.NoAny (tx p ++ t) [60, 37] (tx p).length := by
  intro j b hj hb
  rw [List.getElem?_append_left hj] at hb
  exact plainE_tx hl hp b (List.mem_of_getElem? hb)
theorem indexAnyE_bytes {l : List Nat} (hl : okL l) : Lib.indexAny (tx l) [60, 37] = anyE l := by
  by_cases h : ∀ x ∈ l, plainE x = true
  · rw [anyE_none h]
    have := noE_any hl h []
    rw [List.append_nil] at this
    exact Lib.indexAny_none this
  · have e := List.takeWhile_append_dropWhile (p := plainE) (l := l)
    cases hd : l.dropWhile (plainE) with
    | nil =>
      rw [hd, List.append_nil] at e
      exact absurd (fun x hx => by rw [← e] at hx; exact mem_tw hx) h
    | cons c t =>
      rw [hd] at e
      have hc : plainE c = false := by
        have := List.head_dropWhile_not (plainE) (l := l) (by rw [hd]; simp)
        simpa [hd] using this
      have hp : ∀ x ∈ l.takeWhile (plainE), plainE x = true := fun x hx => mem_tw hx
      generalize l.takeWhile (plainE) = p at *
      subst e
      rw [anyE_hit hp hc]
      have hlp : okL p := fun x hx => hl x (List.mem_append_left _ hx)
      have hcc := hl c (by simp)
      have h128 : c < 128 := by
        unfold plainE at hc
        simp at hc
        omega
      refine Lib.indexAny_hit (i := (tx p).length) (x := UInt8.ofNat c) ?_ ?_ ?_
      · rw [tx_append]; exact noE_any hlp hp _
      · rw [tx_append, List.getElem?_append_right (Nat.le_refl _), Nat.sub_self, tx_cons, runeB_one h128]
        rfl
      · rw [Lib.contains_iff_indexByte, signE_in c h128, hc]
        rfl
theorem indexAnyE_any (l : List Nat) (w : World) (hl : okL l) (hs : (T l).size ≤ 32768) :
    Calls Tryz.prog 161 #[.string (T l), .string (⟨#[60, 37]⟩ : ByteArray)] w fun e w' => e = .returned (.int .i64 (anyE l)) ∧ Below w.heap.size w w' := by
  rw [show (⟨#[60, 37]⟩ : ByteArray) = T [60, 37] by decide +kernel]
  by_cases h8 : (T l).size ≤ 8
  · exact indexAnyE_few l w hl h8
  · have hT : (T [60, 37]).data.toList = [60, 37] := by
      rw [T_data]
      decide +kernel
    have hz : (T [60, 37]).size = 2 := by
      rw [T_size]
      decide +kernel
    refine (Tryz.strings_IndexAny_long (zero_of_info (v := .agg (Array.replicate 256 (.bool false))) (n := 256) (by kernel_rfl)).1 (T l) (T [60, 37]) w (by omega) (by omega) (by omega) (by omega) ?_).mono ?_
    · rw [hT]
      intro j b hb
      have := List.mem_of_getElem? hb
      simp at this
      rcases this with rfl | rfl <;> decide
    · rintro e w' ⟨rfl, rfl⟩
      refine ⟨?_, ((Below.refl _ _).alloc (Nat.le_refl _) _).alloc (by simp) _⟩
      rw [T_data, hT, indexAnyE_bytes hl]
theorem anyE_neg {l : List Nat} : decide (0 ≤ anyE l) = !l.all plainE := by
  unfold anyE
  by_cases h : l.takeWhile plainE = l
  · rw [if_pos h]
    have : l.all plainE = true := List.all_eq_true.2 fun x hx => by rw [← h] at hx; exact mem_tw hx
    rw [this]
    rfl
  · rw [if_neg h]
    have : l.all plainE = false := by
      cases hh : l.all plainE with
      | false => rfl
      | true =>
        have h2 := List.all_eq_true.1 hh
        have h3 := List.takeWhile_append_of_pos (l₂ := []) h2
        rw [List.append_nil, List.takeWhile_nil, List.append_nil] at h3
        exact absurd h3 h
    rw [this]
    simp
set_option maxHeartbeats 1000000 in
theorem containsAnyE_any (l : List Nat) (w : World) (hl : okL l) (hs : (T l).size ≤ 32768) :
    Calls Tryz.prog 189 #[.string (T l), .string (⟨#[60, 37]⟩ : ByteArray)] w fun e w' => e = .returned (.bool (!l.all plainE)) ∧ Below w.heap.size w w' := by
  have HI := hide (indexAnyE_any l w hl hs)
  have HN := hide (anyE_neg (l := l))
  generalize anyE l = v at *
  go_enter Tryz.func189, Tryz.ntmps189
  go_wp2_with fail
  refine (unhide HI).mono ?_
  rintro e w1 ⟨rfl, hb1⟩
  go_wp2
  go_ret
  exact ⟨ret_bool (unhide HN), hb1⟩
end Go.Proofs.YtefjfjieoiegnaaGreatDoor
/- An entity's text: xmlscan's isEntityText. -/
namespace Go.Proofs.YtefjfjieoiegnaaGreatDoor
open Go.RowKit
theorem refsOk_cons (c : Nat) (t : List Nat) : refsOk (c :: t) = ((c != 38 || (readRef (c :: t)).isSome) && refsOk t) := rfl
theorem isEnt_eq (l : List Nat) : isEntText l = (l.all plainE && refsOk l) := rfl
set_option maxRecDepth 100000 in
set_option maxHeartbeats 2000000 in
theorem isEntityText_any (l : List Nat) (w : World) (hl : okL l) (hs : (T l).size ≤ 32768) :
    Calls Tryz.prog 159 #[.string (T l)] w fun e w' => e = .returned (.bool (isEntText l)) ∧ Below w.heap.size w w' := by
  have HC := hide (containsAnyE_any l w hl hs)
  have HD := hide (isEnt_eq l)
  have hfd : ∀ (x y : ByteArray) (n : Int) (W : World), (Instr.field 135 (.agg #[.string x, .string y, .int .i64 n]) 2).run Tryz.prog W = .ok (.int .i64 n) W := fun _ _ _ _ => by kernel_rfl
  go_enter Tryz.func159, Tryz.ntmps159
  go_wp2_with fail
  refine (unhide HC).mono ?_
  rintro e w1 ⟨rfl, hb1⟩
  cases hall : l.all plainE
  · have HR : Hid (isEntText l = false) := hide (by rw [unhide HD, hall]; rfl)
    clear hall HD
    go_wp2
    go_ret
    exact ⟨ret_bool (unhide HR).symm, hb1⟩
  · have HR : Hid (isEntText l = refsOk l) := hide (by rw [unhide HD, hall]; rfl)
    clear hall HD HC
    go_wp2_with fail
    go_loopw [] (fun wr => ∃ p t : List Nat, l = p ++ t ∧ refsOk l = refsOk t ∧ wr.heap[w1.heap.size]? = some (.stringIter (T l) (tx p).length) ∧ Below w1.heap.size w1 wr) (fun wr => (T l).size - wr.iterPos w1.heap.size)
    case atStart => exact ⟨[], l, rfl, rfl, World.iter_heap _ _ _, (Below.refl _ _).alloc (Nat.le_refl _) _⟩
    case round =>
      obtain ⟨p, t, hpt, hro, hk, hbr⟩ := hrel
      cases t with
      | nil =>
        have hnx := fun ty => Lib.run_next_end_at (P := Tryz.prog) wr w1.heap.size (T l) (tx p).length ty hk (end_at hpt)
        have HRO : Hid (refsOk l = true) := hide (by rw [hro]; rfl)
        clear hpt hro hk
        go_wp2
        go_ret
        exact ⟨ret_bool (by rw [unhide HR, unhide HRO]), Below.then hb1 hbr⟩
      | cons c t =>
        obtain ⟨hd, hlt, hc, hpos⟩ := dec_at hpt hl
        have hnx := fun ty => Lib.run_next_any_at (P := Tryz.prog) wr w1.heap.size (T l) (tx p).length ty hk hlt
        rw [hd] at hnx
        simp only at hnx
        have HS := hide (tx_snoc p c)
        have HX := hide (suf_at hpt)
        have HPT := hide hpt
        have HK := hide hk
        rw [refsOk_cons] at hro
        have hbl : w1.heap.size < wr.heap.size := (Array.getElem?_eq_some_iff.1 hk).1
        have hbI : Below w1.heap.size w1 (wr.iterAt w1.heap.size (T l) ((tx p).length + (runeB c).length)) := Lib.below_iterAt hbr (by omega) _ _
        have hszI : w1.heap.size ≤ (wr.iterAt w1.heap.size (T l) ((tx p).length + (runeB c).length)).heap.size := by rw [Lib.iterAt_size]; omega
        have HKI : Hid ((wr.iterAt w1.heap.size (T l) ((tx p).length + (runeB c).length)).heap[w1.heap.size]? = some (.stringIter (T l) ((tx p).length + (runeB c).length))) := hide (Lib.iterAt_heap wr _ _ _ _ (unhide HK))
        have hokc : okL (c :: t) := okL_right (hpt ▸ hl)
        have hszc : (T (c :: t)).size ≤ 32768 := by
          have h1 : (T l).size = (tx p).length + (T (c :: t)).size := by rw [hpt, T_size, T_size, tx_len_app]
          omega
        have i1 : (0 : Int) ≤ ((tx p).length : Int) := by omega
        have i2 : ((tx p).length : Int) ≤ ((T l).size : Int) := by omega
        by_cases h38 : c = 38
        · subst h38
          have HRR := hide (fun W => readReference_any (38 :: t) W hokc hszc rfl)
          cases hr : readRef (38 :: t) with
          | none =>
            rw [hr] at hro HRR
            have HF : Hid (refsOk l = false) := hide (by rw [hro]; rfl)
            clear hd hpt hk hro hr
            go_wp2_with fail
            rw [unhide HX]
            refine (unhide HRR _).mono ?_
            rintro e w2 ⟨rfl, hb2⟩
            rw [show refV (38 :: t) none = .agg #[.string ⟨#[]⟩, .string ⟨#[]⟩, .int .i64 0] from rfl]
            go_wp2
            go_ret
            exact ⟨ret_bool (by rw [unhide HR, unhide HF]), Below.then hb1 (hbI.trans (hb2.mono hszI))⟩
          | some r =>
            rw [hr] at hro HRR
            have HO : Hid (refsOk l = refsOk t) := hide (by rw [hro]; rfl)
            obtain ⟨f1, f2, f3, f4, f5, f6, f7⟩ := readRef_facts hokc hr
            have hsz : 1 ≤ (T ((38 :: t).take r.size)).size := by
              rw [show r.size = (r.size - 1) + 1 by omega, List.take_succ_cons, sz_cons (by decide)]
              omega
            have hvr : refV (38 :: t) (some r) = .agg #[.string (T r.said), .string (T r.name), .int .i64 ((T ((38 :: t).take r.size)).size : Nat)] := rfl
            rw [hvr] at HRR
            generalize (T ((38 :: t).take r.size)).size = n at *
            have hn0 : ((n : Int) == 0) = false := beq_eq_false_iff_ne.2 (by omega)
            clear hd hpt hk hro hr hvr f1 f2 f3 f4 f5 f6 f7
            go_wp2_with fail
            rw [unhide HX]
            refine (unhide HRR _).mono ?_
            rintro e w2 ⟨rfl, hb2⟩
            go_wp2_with fail
            have hki := block_below (unhide HKI) hb2
            refine ⟨⟨p ++ [38], t, by rw [unhide HPT]; simp, unhide HO, by rw [unhide HS]; exact hki, hbI.trans (hb2.mono hszI)⟩, ?_⟩
            rw [iterPos_of hki, iterPos_of (unhide HK)]
            omega
        · have g38 : ((c : Int) == 38) = false := beq_eq_false_iff_ne.2 (by omega)
          have HO : Hid (refsOk l = refsOk t) := hide (by
            rw [hro]
            have : (c != 38) = true := by simpa using h38
            rw [this]
            rfl)
          clear hd hpt hk hro h38
          go_wp2_with fail
          refine ⟨⟨p ++ [c], t, by rw [unhide HPT]; simp, unhide HO, by rw [unhide HS]; exact unhide HKI, hbI⟩, ?_⟩
          rw [iterPos_of (unhide HKI), iterPos_of (unhide HK)]
          omega
end Go.Proofs.YtefjfjieoiegnaaGreatDoor
