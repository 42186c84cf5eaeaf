/- Content: xmlscan's content. -/
import Derived.Test.YtefjfjieoiegnaaGreatDoorGax
import Derived.BigQuiet
import Derived.BigGuard
import Derived.BigCall
import Derived.Deep.QuietTactic
namespace Go.Proofs.YtefjfjieoiegnaaGreatDoor
open Go.RowKit
attribute [local go_sem] jumps_normal jumps_exit jumps_ret jumps_goto jumps_panic
/-- What stands whenever content is read on. -/
def ContInv (spec : Except Er RS) (B p m : Nat) (w : World) (b : Bool) (n : Nat) (w' : World) : Prop := Below B w w' ∧ match b with
  | true => ∃ s' vo vt vr, Rd w' B p m vo vt vr s' ∧ Good s' ∧ OpnOk s' ∧ EOk s'.ents ∧ n = s'.rest.length + 1 ∧ ∃ f, s'.rest.length < f ∧ RS.content f s' = spec
  | false => n = 0 ∧ ∃ c pl, Wrong w' p c pl ∧ spec = .error (c, pl)
theorem cont_next {spec : Except Er RS} {B p m f : Nat} {w w1 w2 : World} {b : Bool} {s : RS} {o : Except Er RS} (hG : Good s) (hO : OpnOk s) (hN : EOk s.ents) (hne : s.opn ≠ []) (hf : s.rest.length < f + 1) (hs : RS.content (f + 1) s = spec) (ho : o = s.contentOne) (hb : Below B w w1) (h : outP o B p m (.returned (.bool b)) w1 w2) :
    ∃ n', n' < s.rest.length + 1 ∧ ContInv spec B p m w b n' w2 := by
  subst ho
  have he : (match s.contentOne with | .error e => (.error e : Except Er RS) | .ok s1 => RS.content f s1) = spec := by
    rw [← hs]
    unfold RS.content
    rw [if_neg hne]
    cases f with
    | zero => rfl
    | succ f => rfl
  obtain ⟨h1, h2⟩ := h
  cases hc : s.contentOne with
  | error x =>
    obtain ⟨c, pl⟩ := x
    rw [hc] at h2 he
    obtain ⟨hb', hw⟩ := h2
    cases hb'
    exact ⟨0, by omega, hb.trans h1, rfl, c, pl, hw, he.symm⟩
  | ok s1 =>
    rw [hc] at h2 he
    obtain ⟨hb', vo, vt, vr, R1⟩ := h2
    cases hb'
    obtain ⟨k1, k2, k3, k4⟩ := contentOne_ok hG hO hN hc
    exact ⟨s1.rest.length + 1, by omega, hb.trans h1, s1, vo, vt, vr, R1, k2, k3, k4, rfl, f, by omega, he⟩
set_option maxRecDepth 100000 in
set_option maxHeartbeats 8000000 in
theorem content_any (B p m : Nat) (vo vt vr : Value) (s : RS) (w : World) (R : Rd w B p m vo vt vr s) (hG : Good s) (hO : OpnOk s) (hE : XEnv B w) (hN : EOk s.ents) :
    Calls Tryz.prog 62 #[.pointer (some ⟨p, 0, none⟩)] w fun e w' => outP (RS.content (s.rest.length + 1) s) B p m e w w' := by
  have hlow := R.low
  have hlt := R.lt
  go_enter Tryz.func62, Tryz.ntmps62
  go_wp2_with fail
  refine wp_scope_one 0 (fun n a' w' => ∃ (b : Bool) (u1 u2 u4 u5 u6 u7 u8 u9 u10 u11 u12 u13 u14 u15 u16 u17 u18 u19 u20 u21 u22 u23 u24 u25 u26 u27 u28 u29 u30 u31 u32 u33 u34 u35 u36 u37 u38 u39 u40 u41 u42 u43 u44 u45 u46 u47 u48 u49 u50 u51 u52 u53 u54 u55 u56 u57 u58 u59 u60 u61 u62 u63 u64 u65 u66 u67 u68 u69 u70 u71 u72 u73 u74 u75 u76 : Value), ContInv (RS.content (s.rest.length + 1) s) B p m w b n w' ∧ a' = { tmps := #[.pointer (some ⟨p, 0, none⟩), u1, u2, .bool b, u4, u5, u6, u7, u8, u9, u10, u11, u12, u13, u14, u15, u16, u17, u18, u19, u20, u21, u22, u23, u24, u25, u26, u27, u28, u29, u30, u31, u32, u33, u34, u35, u36, u37, u38, u39, u40, u41, u42, u43, u44, u45, u46, u47, u48, u49, u50, u51, u52, u53, u54, u55, u56, u57, u58, u59, u60, u61, u62, u63, u64, u65, u66, u67, u68, u69, u70, u71, u72, u73, u74, u75, u76], defers := [] }) rfl ?_ ?_
  · rintro n a' w' ⟨b, u1, u2, u4, u5, u6, u7, u8, u9, u10, u11, u12, u13, u14, u15, u16, u17, u18, u19, u20, u21, u22, u23, u24, u25, u26, u27, u28, u29, u30, u31, u32, u33, u34, u35, u36, u37, u38, u39, u40, u41, u42, u43, u44, u45, u46, u47, u48, u49, u50, u51, u52, u53, u54, u55, u56, u57, u58, u59, u60, u61, u62, u63, u64, u65, u66, u67, u68, u69, u70, u71, u72, u73, u74, u75, u76, hI, rfl⟩
    obtain ⟨hbw, hI⟩ := hI
    cases b
    · obtain ⟨rfl, c, pl, hw, hsp⟩ := hI
      have HSP := hide hsp
      clear hsp
      go_wp2_with fail
      try rw [jumps_ret]
      go_ret
      rw [unhide HSP]
      exact ⟨hbw, rfl, hw⟩
    · obtain ⟨s1, vo1, vt1, vr1, R1, G1, O1, N1, rfl, f, hf, hsp⟩ := hI
      have hro := R1.opn
      obtain ⟨ao, co, rfl⟩ := owns_slice hro
      have c4 : w'.cell? ⟨p, 4, none⟩ = some (.slice ao s1.opn.length co) := blk_cell R1.blk 4
      clear hro
      by_cases hne : s1.opn = []
      · have hl : s1.opn.length = 0 := by rw [hne]; rfl
        rw [hl] at c4
        have HSP : Hid (RS.content (s.rest.length + 1) s = .ok s1) := by
          obtain ⟨g, rfl⟩ : ∃ g, f = g + 1 := ⟨f - 1, by omega⟩
          rw [← hsp]
          unfold RS.content
          exact hide (if_pos hne)
        have HR1 := hide R1
        clear hsp hne hl R1
        go_wp2_with fail
        try rw [jumps_ret]
        go_ret
        rw [unhide HSP]
        exact ⟨hbw, rfl, _, _, _, unhide HR1⟩
      · have hl : 0 < s1.opn.length := by
          cases hh : s1.opn with
          | nil => exact absurd hh hne
          | cons _ _ => simp
        have i1 : ((s1.opn.length : Int) == 0) = false := by simp; omega
        obtain ⟨g, rfl⟩ : ∃ g, f = g + 1 := ⟨f - 1, by omega⟩
        have HN := hide (fun (o : Except Er RS) (ho : o = s1.contentOne) (W w2 : World) (b : Bool) (hW : Below B w W) (h : outP o B p m (.returned (.bool b)) W w2) => cont_next G1 O1 N1 hne hf hsp ho hW h)
        have HNE := hide hne
        have hX1 := hE
        clear hsp hne
        go_wp2_with fail
        refine (sees_any [60, 47] ⟨#[60, 47]⟩ rfl (by decide) p s1 _ R1.at G1.fine).mono ?_
        rintro e w2 ⟨rfl, hb2⟩
        have R2 := R1.on hb2
        have hbw2 := hbw.trans (hb2.mono (by have := R1.lt; omega))
        have HC : Hid (s1.contentOne = if s1.sees [60, 47] then s1.endTag else if s1.sees [60, 33, 45, 45] then s1.tellComment else if s1.sees [60, 33, 91, 67, 68, 65, 84, 65, 91] then s1.section' else if s1.sees [60, 63] then s1.tellInstruction else if s1.sees [60] then s1.startTag else if s1.sees [38] then s1.refRun else if s1.rest ≠ [] ∧ s1.sees [93, 93, 62] = false then s1.plain else .error (5, s1.place)) := hide rfl
        clear c4 R1 hb2
        rw [show [60, 47].isPrefixOf s1.rest = s1.sees [60, 47] from rfl]
        cases h1 : s1.sees [60, 47]
        · have hc := unhide HC
          rw [h1, if_neg (by decide)] at hc
          have HC' := hide hc
          clear hc h1 HC
          have HC := HC'
          clear HC'
          go_wp2_with fail
          refine (sees_any [60, 33, 45, 45] ⟨#[60, 33, 45, 45]⟩ rfl (by decide) p s1 _ R2.at G1.fine).mono ?_
          rintro e w3 ⟨rfl, hb3⟩
          have R3 := R2.on hb3
          have hbw3 := hbw2.trans (hb3.mono (by have := R2.lt; omega))
          clear R2 hb3
          rw [show [60, 33, 45, 45].isPrefixOf s1.rest = s1.sees [60, 33, 45, 45] from rfl]
          cases h1 : s1.sees [60, 33, 45, 45]
          · have hc := unhide HC
            rw [h1, if_neg (by decide)] at hc
            have HC' := hide hc
            clear hc h1 HC
            have HC := HC'
            clear HC'
            go_wp2_with fail
            refine (sees_any [60, 33, 91, 67, 68, 65, 84, 65, 91] ⟨#[60, 33, 91, 67, 68, 65, 84, 65, 91]⟩ rfl (by decide) p s1 _ R3.at G1.fine).mono ?_
            rintro e w4 ⟨rfl, hb4⟩
            have R4 := R3.on hb4
            have hbw4 := hbw3.trans (hb4.mono (by have := R3.lt; omega))
            clear R3 hb4
            rw [show [60, 33, 91, 67, 68, 65, 84, 65, 91].isPrefixOf s1.rest = s1.sees [60, 33, 91, 67, 68, 65, 84, 65, 91] from rfl]
            cases h1 : s1.sees [60, 33, 91, 67, 68, 65, 84, 65, 91]
            · have hc := unhide HC
              rw [h1, if_neg (by decide)] at hc
              have HC' := hide hc
              clear hc h1 HC
              have HC := HC'
              clear HC'
              go_wp2_with fail
              refine (sees_any [60, 63] ⟨#[60, 63]⟩ rfl (by decide) p s1 _ R4.at G1.fine).mono ?_
              rintro e w5 ⟨rfl, hb5⟩
              have R5 := R4.on hb5
              have hbw5 := hbw4.trans (hb5.mono (by have := R4.lt; omega))
              clear R4 hb5
              rw [show [60, 63].isPrefixOf s1.rest = s1.sees [60, 63] from rfl]
              cases h1 : s1.sees [60, 63]
              · have hc := unhide HC
                rw [h1, if_neg (by decide)] at hc
                have HC' := hide hc
                clear hc h1 HC
                have HC := HC'
                clear HC'
                go_wp2_with fail
                refine (sees_any [60] ⟨#[60]⟩ rfl (by decide) p s1 _ R5.at G1.fine).mono ?_
                rintro e w6 ⟨rfl, hb6⟩
                have R6 := R5.on hb6
                have hbw6 := hbw5.trans (hb6.mono (by have := R5.lt; omega))
                clear R5 hb6
                rw [show [60].isPrefixOf s1.rest = s1.sees [60] from rfl]
                cases h1 : s1.sees [60]
                · have hc := unhide HC
                  rw [h1, if_neg (by decide)] at hc
                  have HC' := hide hc
                  clear hc h1 HC
                  have HC := HC'
                  clear HC'
                  go_wp2_with fail
                  refine (sees_any [38] ⟨#[38]⟩ rfl (by decide) p s1 _ R6.at G1.fine).mono ?_
                  rintro e w7 ⟨rfl, hb7⟩
                  have R7 := R6.on hb7
                  have hbw7 := hbw6.trans (hb7.mono (by have := R6.lt; omega))
                  clear R6 hb7
                  rw [show [38].isPrefixOf s1.rest = s1.sees [38] from rfl]
                  cases h1 : s1.sees [38]
                  · have hc := unhide HC
                    rw [h1, if_neg (by decide)] at hc
                    have HC' := hide hc
                    clear hc h1 HC
                    have HC := HC'
                    clear HC'
                    have c1 : w7.cell? ⟨p, 1, none⟩ = some (.int .i64 (s1.place : Nat)) := R7.at.pos
                    have c0 : w7.cell? ⟨p, 0, none⟩ = some (.string (T (s1.pre ++ s1.rest))) := R7.at.txt
                    have hsum := G1.fine.sum
                    have HFAIL : Hid (∀ W w8, Below B w7 W → Below B W w8 → Wrong w8 p 5 s1.place → s1.contentOne = .error (5, s1.place) → outP (RS.content (s.rest.length + 1) s) B p m (.returned (.bool false)) w w8) := by
                      refine hide fun W w8 h1 h2 h3 h4 => ?_
                      obtain ⟨n', _, hC⟩ := unhide HN (.error (5, s1.place)) h4.symm w7 w8 false hbw7 ⟨h1.trans h2, rfl, h3⟩
                      obtain ⟨h5, _, c, pl, h6, h7⟩ := hC
                      rw [h7]
                      exact ⟨h5, rfl, h6⟩
                    have HX := hide (show ClsW w7 w7.drew from ⟨(Below.refl _ _).drew⟩)
                    have HCE := hide (fun (u : World) (h : ClsW w7 u) => (⟨(R7.on h.bel).at.pos, (R7.on h.bel).at.txt⟩ : u.cell? ⟨p, 1, none⟩ = some (.int .i64 (s1.place : Nat)) ∧ u.cell? ⟨p, 0, none⟩ = some (.string (T (s1.pre ++ s1.rest)))))
                    have HCB := hide (fun (u u' : World) (h : ClsW w7 u) (hb : Below u.heap.size u u') => (⟨Below.then h.bel hb⟩ : ClsW w7 u'))
                    have HSE := hide (fun (u : World) (h : ClsW w7 u) => sees_any [93, 93, 62] ⟨#[93, 93, 62]⟩ rfl (by decide) p s1 u (R7.on h.bel).at G1.fine)
                    clear c1 c0
                    by_cases hre : s1.rest = []
                    · have HEQ : Hid (s1.contentOne = .error (5, s1.place)) := hide (by rw [unhide HC, if_neg (fun h => h.1 hre)])
                      have hz0 : s1.place = (T (s1.pre ++ s1.rest)).size := by
                        rw [hre] at hsum
                        have : (T []).size = 0 := rfl
                        rw [hre]
                        omega
                      have i5 : decide (s1.place < (T (s1.pre ++ s1.rest)).size) = false := decide_eq_false (by omega)
                      clear HC hre hz0
                      go_wp2_with fail
                      refine wp_region_cls (ClsW w7) (by kernel_rfl) (by kernel_rfl) (unhide HX) ?_
                      repeat
                        (first
                          | go_big_quiet_skip
                          | (go_big_quiet_want
                             go_big_quiet_op
                             first
                               | go_big_quiet_on
                               | (apply Exists.intro
                                  refine ⟨fun w' hC => ?_, ?_⟩
                                  · (first
                                      | (go_at_call 57; refine (unhide HSE _ hC).mono ?_; rintro e w3 ⟨rfl, hb3⟩; exact ⟨rfl, unhide HCB _ _ hC hb3⟩)
                                      | (obtain ⟨k0, k1⟩ := unhide HCE _ hC; go_simp; first | done | rfl))
                                  go_big_quiet_on)))
                      refine wpQuiet_nil ?_
                      intro w8 hC8
                      have hb8 := hC8.bel
                      clear hC8 HX HCB HSE HCE
                      have R8 := R7.on hb8
                      have c18 : w8.cell? ⟨p, 1, none⟩ = some (.int .i64 (s1.place : Nat)) := R8.at.pos
                      have hb8B : Below B w7 w8 := hb8.mono (by have := R7.lt; omega)
                      clear R7 hb8
                      go_wp2_with (go_at_call 63; refine (fail_rd B p 5 s1.place _ R8.blk rfl hlow).mono ?_; rintro e w9 ⟨rfl, hw9, hb9⟩)
                      try rw [jumps_ret]
                      go_ret
                      exact unhide HFAIL _ _ hb8B hb9 hw9 (unhide HEQ)
                    · have hpos : 0 < (T s1.rest).size := Nat.pos_of_ne_zero fun h0 => hre (tx_len_zero G1.fine.okR h0)
                      have i5 : decide (s1.place < (T (s1.pre ++ s1.rest)).size) = true := decide_eq_true (by omega)
                      have HRE := hide hre
                      clear hre hpos
                      cases h1 : s1.sees [93, 93, 62]
                      · have HO : Hid (s1.plain = s1.contentOne) := hide (by rw [unhide HC, if_pos ⟨unhide HRE, h1⟩])
                        rw [show [93, 93, 62].isPrefixOf s1.rest = s1.sees [93, 93, 62] from rfl, h1] at HSE
                        clear HC h1
                        go_wp2_with fail
                        refine wp_region_cls (ClsW w7) (by kernel_rfl) (by kernel_rfl) (unhide HX) ?_
                        repeat
                          (first
                            | go_big_quiet_skip
                            | (go_big_quiet_want
                               go_big_quiet_op
                               first
                                 | go_big_quiet_on
                                 | (apply Exists.intro
                                    refine ⟨fun w' hC => ?_, ?_⟩
                                    · (first
                                        | (go_at_call 57; refine (unhide HSE _ hC).mono ?_; rintro e w3 ⟨rfl, hb3⟩; exact ⟨rfl, unhide HCB _ _ hC hb3⟩)
                                        | (obtain ⟨k0, k1⟩ := unhide HCE _ hC; go_simp; first | done | rfl))
                                    go_big_quiet_on)))
                        refine wpQuiet_nil ?_
                        intro w8 hC8
                        have hb8 := hC8.bel
                        clear hC8 HX HCB HSE HCE
                        have R8 := R7.on hb8
                        have hbw8 := hbw7.trans (hb8.mono (by have := R7.lt; omega))
                        clear R7 hb8
                        go_wp2_with fail
                        refine (plain_any B p m _ _ _ s1 _ R8 G1 (hX1.low hbw8)).mono ?_
                        intro e w9 ho
                        obtain ⟨b, rfl, ho⟩ := outP_form ho
                        obtain ⟨n', hn', hC⟩ := unhide HN _ (unhide HO) _ _ b hbw8 ho
                        have HCI := hide hC
                        clear hC ho
                        go_wp2_with fail
                        go_step3
                        exact ⟨rfl, n', hn', b, _, _, _, _, _, _, _, _, _, _, _, _, _, _, _, _, _, _, _, _, _, _, _, _, _, _, _, _, _, _, _, _, _, _, _, _, _, _, _, _, _, _, _, _, _, _, _, _, _, _, _, _, _, _, _, _, _, _, _, _, _, _, _, _, _, _, _, _, _, _, _, _, _, _, _, unhide HCI, rfl⟩
                      · have HEQ : Hid (s1.contentOne = .error (5, s1.place)) := hide (by rw [unhide HC, if_neg (fun h => by rw [h.2] at h1; cases h1)])
                        rw [show [93, 93, 62].isPrefixOf s1.rest = s1.sees [93, 93, 62] from rfl, h1] at HSE
                        clear HC h1
                        go_wp2_with fail
                        refine wp_region_cls (ClsW w7) (by kernel_rfl) (by kernel_rfl) (unhide HX) ?_
                        repeat
                          (first
                            | go_big_quiet_skip
                            | (go_big_quiet_want
                               go_big_quiet_op
                               first
                                 | go_big_quiet_on
                                 | (apply Exists.intro
                                    refine ⟨fun w' hC => ?_, ?_⟩
                                    · (first
                                        | (go_at_call 57; refine (unhide HSE _ hC).mono ?_; rintro e w3 ⟨rfl, hb3⟩; exact ⟨rfl, unhide HCB _ _ hC hb3⟩)
                                        | (obtain ⟨k0, k1⟩ := unhide HCE _ hC; go_simp; first | done | rfl))
                                    go_big_quiet_on)))
                        refine wpQuiet_nil ?_
                        intro w8 hC8
                        have hb8 := hC8.bel
                        clear hC8 HX HCB HSE HCE
                        have R8 := R7.on hb8
                        have c18 : w8.cell? ⟨p, 1, none⟩ = some (.int .i64 (s1.place : Nat)) := R8.at.pos
                        have hb8B : Below B w7 w8 := hb8.mono (by have := R7.lt; omega)
                        clear R7 hb8
                        go_wp2_with (go_at_call 63; refine (fail_rd B p 5 s1.place _ R8.blk rfl hlow).mono ?_; rintro e w9 ⟨rfl, hw9, hb9⟩)
                        try rw [jumps_ret]
                        go_ret
                        exact unhide HFAIL _ _ hb8B hb9 hw9 (unhide HEQ)
                  · have hc := unhide HC
                    rw [h1, if_pos rfl] at hc
                    have HO := hide hc.symm
                    have H1 := hide h1
                    clear hc h1 HC
                    go_wp2_with fail
                    obtain ⟨ar, kr, rfl⟩ := owns_slice R7.run
                    have hrl1 := G1.rl
                    have hsp1 := G1.sp
                    have hpl1 := G1.fine.lt
                    have hB7 : B ≤ w7.heap.size := by have := R7.lt; omega
                    refine (reference_any B B p m p 6 false _ _ _ (.slice ar (tx s1.run).length kr) s1.run s1 _ R7 G1 (hX1.low hbw7) N1.u N1.ne N1.z (unhide H1) (blk_cell R7.blk 6) (blk_open R7.blk 6) R7.run (Nat.le_refl B) hB7 (by omega) (owns_not R7.run R7.blk (by decide)) (fun _ => rfl)).mono ?_
                    intro e w8 hr
                    cases hrf : s1.reference false with
                    | error x =>
                      obtain ⟨c, pl⟩ := x
                      rw [hrf] at hr
                      obtain ⟨rfl, hw8, hb8⟩ := hr
                      have hO : s1.refRun = .error (c, pl) := by unfold RS.refRun; rw [hrf]
                      obtain ⟨n', hn', hC⟩ := unhide HN _ (unhide HO) _ w8 false hbw7 (by rw [hO]; exact ⟨hb8, rfl, hw8⟩)
                      have HCI := hide hC
                      clear hC hO hrf
                      go_wp2_with fail
                      go_step3
                      exact ⟨rfl, n', hn', false, _, _, _, _, _, _, _, _, _, _, _, _, _, _, _, _, _, _, _, _, _, _, _, _, _, _, _, _, _, _, _, _, _, _, _, _, _, _, _, _, _, _, _, _, _, _, _, _, _, _, _, _, _, _, _, _, _, _, _, _, _, _, _, _, _, _, _, _, _, _, _, _, _, _, _, unhide HCI, rfl⟩
                    | ok x =>
                      obtain ⟨l, s2⟩ := x
                      rw [hrf] at hr
                      obtain ⟨rfl, wk, v', hkp, hblk, hrow, hm⟩ := hr
                      obtain ⟨r1, r2, r3, r3b, r4, r5⟩ := ref_t N1 G1.fine.okR G1.sp hrf
                      have hO : s1.refRun = { s2 with run := s1.run ++ l }.room := by unfold RS.refRun; rw [hrf]
                      have hran := R7.ranS (w' := wk) (v' := v') (x := l) hkp hblk hrow
                      have R8 : Rd w8 B p m _ _ v' { s2 with run := s1.run ++ l } := hran.moved hm (by obtain ⟨k, hk⟩ := r5; exact ⟨k, by rw [hk]; rfl⟩)
                      have hb8 : Below B w7 w8 := (hkp.low hB7 (fun k hk => by rcases hk with h | h; exact (R7.run.lt k h).1; omega)).trans (((Below.refl B wk).setCell hlow v').trans (hm.low hlow (by rw [blk_size]; have := hkp.size; omega)))
                      have HB8 := hide hb8
                      have HRR := hide (room_any B p m _ _ _ _ w8 R8 (fun hne => Nat.pos_of_ne_zero fun h0 => hne (tx_len_zero (okL_app G1.okr r2) h0)))
                      have HOO := hide ((unhide HO).symm.trans hO)
                      clear hran R8 hb8 hkp hblk hrow hm hrf hO R7
                      go_wp2_with fail
                      refine (unhide HRR).mono ?_
                      intro e w9 ho
                      obtain ⟨b, rfl, ho⟩ := outP_form ho
                      obtain ⟨n', hn', hC⟩ := unhide HN _ (unhide HOO).symm _ _ b (hbw7.trans (unhide HB8)) ho
                      have HCI := hide hC
                      clear hC ho
                      go_wp2_with fail
                      go_step3
                      exact ⟨rfl, n', hn', b, _, _, _, _, _, _, _, _, _, _, _, _, _, _, _, _, _, _, _, _, _, _, _, _, _, _, _, _, _, _, _, _, _, _, _, _, _, _, _, _, _, _, _, _, _, _, _, _, _, _, _, _, _, _, _, _, _, _, _, _, _, _, _, _, _, _, _, _, _, _, _, _, _, _, _, unhide HCI, rfl⟩
                · have hc := unhide HC
                  rw [h1, if_pos rfl] at hc
                  have HO := hide hc.symm
                  have H1 := hide h1
                  clear hc h1 HC
                  go_wp2_with fail
                  refine (startTag_any B p m _ _ _ s1 _ R6 G1 O1 (hX1.low hbw6) N1 (unhide H1)).mono ?_
                  intro e w9 ho
                  obtain ⟨b, rfl, ho⟩ := outP_form ho
                  obtain ⟨n', hn', hC⟩ := unhide HN _ (unhide HO) _ _ b hbw6 ho
                  have HCI := hide hC
                  clear hC ho
                  go_wp2_with fail
                  go_step3
                  exact ⟨rfl, n', hn', b, _, _, _, _, _, _, _, _, _, _, _, _, _, _, _, _, _, _, _, _, _, _, _, _, _, _, _, _, _, _, _, _, _, _, _, _, _, _, _, _, _, _, _, _, _, _, _, _, _, _, _, _, _, _, _, _, _, _, _, _, _, _, _, _, _, _, _, _, _, _, _, _, _, _, _, unhide HCI, rfl⟩
              · have hc := unhide HC
                rw [h1, if_pos rfl] at hc
                have HO := hide hc.symm
                have H1 := hide h1
                clear hc h1 HC
                go_wp2_with fail
                refine (tellInstruction_any B p m _ _ _ s1 _ R5 G1 (hX1.low hbw5) (unhide H1)).mono ?_
                intro e w9 ho
                obtain ⟨b, rfl, ho⟩ := outP_form ho
                obtain ⟨n', hn', hC⟩ := unhide HN _ (unhide HO) _ _ b hbw5 ho
                have HCI := hide hC
                clear hC ho
                go_wp2_with fail
                go_step3
                exact ⟨rfl, n', hn', b, _, _, _, _, _, _, _, _, _, _, _, _, _, _, _, _, _, _, _, _, _, _, _, _, _, _, _, _, _, _, _, _, _, _, _, _, _, _, _, _, _, _, _, _, _, _, _, _, _, _, _, _, _, _, _, _, _, _, _, _, _, _, _, _, _, _, _, _, _, _, _, _, _, _, _, unhide HCI, rfl⟩
            · have hc := unhide HC
              rw [h1, if_pos rfl] at hc
              have HO := hide hc.symm
              have H1 := hide h1
              clear hc h1 HC
              go_wp2_with fail
              refine (section_any B p m _ _ _ s1 _ R4 G1 (hX1.low hbw4) (unhide H1)).mono ?_
              intro e w9 ho
              obtain ⟨b, rfl, ho⟩ := outP_form ho
              obtain ⟨n', hn', hC⟩ := unhide HN _ (unhide HO) _ _ b hbw4 ho
              have HCI := hide hC
              clear hC ho
              go_wp2_with fail
              go_step3
              exact ⟨rfl, n', hn', b, _, _, _, _, _, _, _, _, _, _, _, _, _, _, _, _, _, _, _, _, _, _, _, _, _, _, _, _, _, _, _, _, _, _, _, _, _, _, _, _, _, _, _, _, _, _, _, _, _, _, _, _, _, _, _, _, _, _, _, _, _, _, _, _, _, _, _, _, _, _, _, _, _, _, _, unhide HCI, rfl⟩
          · have hc := unhide HC
            rw [h1, if_pos rfl] at hc
            have HO := hide hc.symm
            have H1 := hide h1
            clear hc h1 HC
            go_wp2_with fail
            refine (tellComment_any B p m _ _ _ s1 _ R3 G1 (hX1.low hbw3) (unhide H1)).mono ?_
            intro e w9 ho
            obtain ⟨b, rfl, ho⟩ := outP_form ho
            obtain ⟨n', hn', hC⟩ := unhide HN _ (unhide HO) _ _ b hbw3 ho
            have HCI := hide hC
            clear hC ho
            go_wp2_with fail
            go_step3
            exact ⟨rfl, n', hn', b, _, _, _, _, _, _, _, _, _, _, _, _, _, _, _, _, _, _, _, _, _, _, _, _, _, _, _, _, _, _, _, _, _, _, _, _, _, _, _, _, _, _, _, _, _, _, _, _, _, _, _, _, _, _, _, _, _, _, _, _, _, _, _, _, _, _, _, _, _, _, _, _, _, _, _, unhide HCI, rfl⟩
        · have hc := unhide HC
          rw [h1, if_pos rfl] at hc
          have HO := hide hc.symm
          have H1 := hide h1
          clear hc h1 HC
          go_wp2_with fail
          refine (endTag_any B p m _ _ _ s1 _ R2 G1 O1 (unhide HNE) (unhide H1)).mono ?_
          intro e w9 ho
          obtain ⟨b, rfl, ho⟩ := outP_form ho
          obtain ⟨n', hn', hC⟩ := unhide HN _ (unhide HO) _ _ b hbw2 ho
          have HCI := hide hC
          clear hC ho
          go_wp2_with fail
          go_step3
          exact ⟨rfl, n', hn', b, _, _, _, _, _, _, _, _, _, _, _, _, _, _, _, _, _, _, _, _, _, _, _, _, _, _, _, _, _, _, _, _, _, _, _, _, _, _, _, _, _, _, _, _, _, _, _, _, _, _, _, _, _, _, _, _, _, _, _, _, _, _, _, _, _, _, _, _, _, _, _, _, _, _, _, unhide HCI, rfl⟩
  · intro HR1
    have HR := hide HR1
    clear HR1
    have HI0 : Hid (ContInv (RS.content (s.rest.length + 1) s) B p m w true (s.rest.length + 1) w) := hide ⟨Below.refl _ _, s, vo, vt, vr, R, hG, hO, hN, rfl, s.rest.length + 1, by omega, rfl⟩
    go_wp2_with fail
    go_step3
    rename_i hK
    exact hK _ _ (unhide HR (s.rest.length + 1) _ _ ⟨true, _, _, _, _, _, _, _, _, _, _, _, _, _, _, _, _, _, _, _, _, _, _, _, _, _, _, _, _, _, _, _, _, _, _, _, _, _, _, _, _, _, _, _, _, _, _, _, _, _, _, _, _, _, _, _, _, _, _, _, _, _, _, _, _, _, _, _, _, _, _, _, _, _, _, _, unhide HI0, rfl⟩)
end Go.Proofs.YtefjfjieoiegnaaGreatDoor
