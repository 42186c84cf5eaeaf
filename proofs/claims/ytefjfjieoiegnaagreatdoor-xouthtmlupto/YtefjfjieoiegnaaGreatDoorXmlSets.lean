/- The declaration: xmlscan's settings and declaration. -/
import Derived.Test.YtefjfjieoiegnaaGreatDoorGav
namespace Go.Proofs.YtefjfjieoiegnaaGreatDoor
open Go.RowKit
theorem settingIf_no {s : RS} {n : List Nat} {right : List Nat → Bool} : s.settingIf false n right = some (false, s) := rfl
theorem settingIf_un {s : RS} {n : List Nat} {right : List Nat → Bool} (h : s.sees n = false) : s.settingIf true n right = some (true, s) := by
  unfold RS.settingIf
  rw [h]
  rfl
theorem settingIf_yes {s : RS} {n : List Nat} {right : List Nat → Bool} (h : s.sees n = true) : s.settingIf true n right = (s.setting n right).map fun x => (x.blank, x.blanks) := by
  unfold RS.settingIf
  rw [h]
  rfl
theorem settings_eq (s : RS) : s.settings = if !(s.adv 5).blank then none else match (s.adv 5).blanks.setting [118, 101, 114, 115, 105, 111, 110] isVersion with
  | none => none
  | some s1 => match s1.blanks.settingIf s1.blank [101, 110, 99, 111, 100, 105, 110, 103] isEncoding with
    | none => none
    | some (sp, s2) => match s2.settingIf sp [115, 116, 97, 110, 100, 97, 108, 111, 110, 101] isChoice with
      | none => none
      | some (_, s3) => if s3.sees [63, 62] then some (s3.adv 2) else none := rfl
set_option maxRecDepth 100000 in
set_option maxHeartbeats 8000000 in
theorem settings_any (B p m : Nat) (vo vt vr : Value) (s : RS) (w : World) (R : Rd w B p m vo vt vr s) (hG : Good s) (hE : XEnv B w) (hpl : (s.adv 5).place = 5) :
    Calls Tryz.prog 93 #[.pointer (some ⟨p, 0, none⟩)] w fun e w' => entP s.settings B p m vo vt vr e w w' := by
  have hlow := R.low
  have hlt := R.lt
  have HD := hide (settings_eq s)
  have c1 : w.cell? ⟨p, 1, none⟩ = some (.int .i64 (s.place : Nat)) := R.at.pos
  have o1 := blk_open R.blk 1
  have hm0 : Moves p (s.adv 5).place w (w.setCell ⟨p, 1, none⟩ (.int .i64 5)) := by unfold Moves; rw [hpl]; exact Below.refl _ _
  have R0 := R.moved hm0 (Adv.by s 5)
  have G0 := hG.adv 5
  have hb0 := hm0.low hlow (show B ≤ w.heap.size by omega)
  generalize hg0 : s.adv 5 = s0 at *
  clear hm0 hg0 hpl
  have HR0 := hide R0
  clear R0
  go_enter Tryz.func93, Tryz.ntmps93
  go_wp2_with fail
  refine (blanks_any p s0 _ (unhide HR0).at G0.fine).mono ?_
  rintro e w1 ⟨rfl, hm1⟩
  have R1 := (unhide HR0).moved hm1 (Adv.blanks s0)
  have G1 := G0.to (Adv.blanks s0)
  have hb1 := hb0.trans (hm1.low hlow (by have := (unhide HR0).lt; omega))
  clear hm1 HR0
  cases hbl : s0.blank
  · have HEQ : Hid (s.settings = none) := hide (by rw [unhide HD, hbl]; rfl)
    clear HD hbl
    go_wp2
    go_ret
    rw [unhide HEQ]
    exact ⟨hb1, rfl, _, R1.blk, rfl⟩
  · have hd := unhide HD
    rw [hbl, Bool.not_true, if_neg (by decide)] at hd
    generalize hg1 : s0.blanks = s1 at *
    clear HD hbl hg1
    have HD := hide hd
    clear hd
    go_wp2_with fail
    refine (settingV_any B p m vo vt vr s1 _ R1 G1 (hE.low hb1)).mono ?_
    intro e w2 hP
    obtain ⟨hb2', hP⟩ := hP
    have hb2 := hb1.trans hb2'
    cases hst : s1.setting [118, 101, 114, 115, 105, 111, 110] isVersion with
    | none =>
      rw [hst] at hP
      obtain ⟨rfl, cc, hcc, hcs⟩ := hP
      have HEQ : Hid (s.settings = none) := hide (by rw [unhide HD, hst])
      clear HD hst
      go_wp2
      go_ret
      rw [unhide HEQ]
      exact ⟨hb2, rfl, cc, hcc, hcs⟩
    | some s2 =>
      rw [hst] at hP
      obtain ⟨rfl, R2⟩ := hP
      have G2 := G1.to (setting_adv hst)
      have hd := unhide HD
      rw [hst] at hd
      simp only at hd
      clear HD hst hb2'
      have HD := hide hd
      clear hd
      go_wp2_with fail
      refine (blanks_any p s2 _ R2.at G2.fine).mono ?_
      rintro e w3 ⟨rfl, hm3⟩
      have R3 := R2.moved hm3 (Adv.blanks s2)
      have G3 := G2.to (Adv.blanks s2)
      have hb3 := hb2.trans (hm3.low hlow (by have := R2.lt; omega))
      have hd := unhide HD
      generalize hg3 : s2.blanks = s3 at *
      generalize hgb : s2.blank = b3 at *
      clear HD hm3 hg3 hgb
      have HD1 := hide hd
      clear hd
      cases hsp1 : b3
      · have hd := unhide HD1
        rw [hsp1, settingIf_no] at hd
        simp only at hd
        have HD1a := hide hd
        clear hd HD1 hsp1
        have hd := unhide HD1a
        rw [settingIf_no] at hd
        simp only at hd
        have HD2z := hide hd
        clear hd HD1a
        go_wp2_with fail
        cases hf : s3.sees [63, 62]
        · refine (take_no [63, 62] ⟨#[63, 62]⟩ rfl (by decide) p s3 _ R3.at G3.fine hf).mono ?_
          rintro e wf ⟨rfl, hbf⟩
          have HEQ : Hid (s.settings = none) := hide (by rw [unhide HD2z, hf]; rfl)
          have RF := R3.on hbf
          have hb9 := hb3.trans (hbf.mono (by have := R3.lt; omega))
          clear hf
          go_wp2
          go_ret
          rw [unhide HEQ]
          exact ⟨hb9, rfl, _, RF.blk, rfl⟩
        · refine (take_yes [63, 62] ⟨#[63, 62]⟩ rfl (by decide) p s3 _ R3.at G3.fine hf).mono ?_
          rintro e wf ⟨rfl, hmf⟩
          have HEQ : Hid (s.settings = some (s3.adv 2)) := hide (by rw [unhide HD2z, hf]; rfl)
          have HRF := hide (R3.moved hmf (Adv.by s3 2))
          have hb9 := hb3.trans (hmf.low hlow (by have := R3.lt; omega))
          clear hf hmf
          go_wp2
          go_ret
          rw [unhide HEQ]
          exact ⟨hb9, rfl, unhide HRF⟩
      · go_wp2_with fail
        refine (sees_any [101, 110, 99, 111, 100, 105, 110, 103] ⟨#[101, 110, 99, 111, 100, 105, 110, 103]⟩ rfl (by decide) p s3 _ R3.at G3.fine).mono ?_
        rintro e w1a ⟨rfl, hb1a'⟩
        have R1a := R3.on hb1a'
        have hb1a := hb3.trans (hb1a'.mono (by have := R3.lt; omega))
        rw [show [101, 110, 99, 111, 100, 105, 110, 103].isPrefixOf s3.rest = s3.sees [101, 110, 99, 111, 100, 105, 110, 103] from rfl]
        clear hb1a'
        cases hse1 : s3.sees [101, 110, 99, 111, 100, 105, 110, 103]
        · have hd := unhide HD1
          rw [hsp1, settingIf_un hse1] at hd
          simp only at hd
          have HD1a := hide hd
          clear hd HD1 hsp1 hse1
          have HD2 := HD1a
          clear HD1a
          go_wp2_with fail
          refine (sees_any [115, 116, 97, 110, 100, 97, 108, 111, 110, 101] ⟨#[115, 116, 97, 110, 100, 97, 108, 111, 110, 101]⟩ rfl (by decide) p s3 _ R1a.at G3.fine).mono ?_
          rintro e w2a ⟨rfl, hb2a'⟩
          have R2a := R1a.on hb2a'
          have hb2a := hb1a.trans (hb2a'.mono (by have := R1a.lt; omega))
          rw [show [115, 116, 97, 110, 100, 97, 108, 111, 110, 101].isPrefixOf s3.rest = s3.sees [115, 116, 97, 110, 100, 97, 108, 111, 110, 101] from rfl]
          clear hb2a'
          cases hse2 : s3.sees [115, 116, 97, 110, 100, 97, 108, 111, 110, 101]
          · have hd := unhide HD2
            rw [settingIf_un hse2] at hd
            simp only at hd
            have HD2a := hide hd
            clear hd HD2 hse2
            go_wp2_with fail
            cases hf : s3.sees [63, 62]
            · refine (take_no [63, 62] ⟨#[63, 62]⟩ rfl (by decide) p s3 _ R2a.at G3.fine hf).mono ?_
              rintro e wf ⟨rfl, hbf⟩
              have HEQ : Hid (s.settings = none) := hide (by rw [unhide HD2a, hf]; rfl)
              have RF := R2a.on hbf
              have hb9 := hb2a.trans (hbf.mono (by have := R2a.lt; omega))
              clear hf
              go_wp2
              go_ret
              rw [unhide HEQ]
              exact ⟨hb9, rfl, _, RF.blk, rfl⟩
            · refine (take_yes [63, 62] ⟨#[63, 62]⟩ rfl (by decide) p s3 _ R2a.at G3.fine hf).mono ?_
              rintro e wf ⟨rfl, hmf⟩
              have HEQ : Hid (s.settings = some (s3.adv 2)) := hide (by rw [unhide HD2a, hf]; rfl)
              have HRF := hide (R2a.moved hmf (Adv.by s3 2))
              have hb9 := hb2a.trans (hmf.low hlow (by have := R2a.lt; omega))
              clear hf hmf
              go_wp2
              go_ret
              rw [unhide HEQ]
              exact ⟨hb9, rfl, unhide HRF⟩
          · have hd := unhide HD2
            rw [settingIf_yes hse2] at hd
            have HD2a := hide hd
            clear hd HD2 hse2
            go_wp2_with fail
            refine (settingC_any B p m vo vt vr s3 _ R2a G3 (hE.low hb2a)).mono ?_
            intro e w2b hP
            obtain ⟨hb2b', hP⟩ := hP
            have hb2b := hb2a.trans hb2b'
            cases hst2 : s3.setting [115, 116, 97, 110, 100, 97, 108, 111, 110, 101] isChoice with
            | none =>
              rw [hst2] at hP
              obtain ⟨rfl, cc, hcc, hcs⟩ := hP
              have HEQ : Hid (s.settings = none) := hide (by rw [unhide HD2a, hst2]; rfl)
              clear HD2a hst2
              go_wp2
              go_ret
              rw [unhide HEQ]
              exact ⟨hb2b, rfl, cc, hcc, hcs⟩
            | some x2 =>
              rw [hst2] at hP
              obtain ⟨rfl, R2b⟩ := hP
              have G2b := G3.to (setting_adv hst2)
              have hd := unhide HD2a
              rw [hst2] at hd
              simp only [Option.map_some] at hd
              have HD2b := hide hd
              clear hd HD2a hst2 hb2b'
              go_wp2_with fail
              refine (blanks_any p x2 _ R2b.at G2b.fine).mono ?_
              rintro e w2c ⟨rfl, hm2c⟩
              have R2c := R2b.moved hm2c (Adv.blanks x2)
              have G2c := G2b.to (Adv.blanks x2)
              have hb2c := hb2b.trans (hm2c.low hlow (by have := R2b.lt; omega))
              have hd := unhide HD2b
              generalize hgb2 : x2.blank = bb2 at *
              generalize hgs2 : x2.blanks = ss2 at *
              clear hm2c HD2b hgb2 hgs2
              have HD2b := hide hd
              clear hd
              go_wp2_with fail
              cases hf : ss2.sees [63, 62]
              · refine (take_no [63, 62] ⟨#[63, 62]⟩ rfl (by decide) p ss2 _ R2c.at G2c.fine hf).mono ?_
                rintro e wf ⟨rfl, hbf⟩
                have HEQ : Hid (s.settings = none) := hide (by rw [unhide HD2b, hf]; rfl)
                have RF := R2c.on hbf
                have hb9 := hb2c.trans (hbf.mono (by have := R2c.lt; omega))
                clear hf
                go_wp2
                go_ret
                rw [unhide HEQ]
                exact ⟨hb9, rfl, _, RF.blk, rfl⟩
              · refine (take_yes [63, 62] ⟨#[63, 62]⟩ rfl (by decide) p ss2 _ R2c.at G2c.fine hf).mono ?_
                rintro e wf ⟨rfl, hmf⟩
                have HEQ : Hid (s.settings = some (ss2.adv 2)) := hide (by rw [unhide HD2b, hf]; rfl)
                have HRF := hide (R2c.moved hmf (Adv.by ss2 2))
                have hb9 := hb2c.trans (hmf.low hlow (by have := R2c.lt; omega))
                clear hf hmf
                go_wp2
                go_ret
                rw [unhide HEQ]
                exact ⟨hb9, rfl, unhide HRF⟩
        · have hd := unhide HD1
          rw [hsp1, settingIf_yes hse1] at hd
          have HD1a := hide hd
          clear hd HD1 hsp1 hse1
          go_wp2_with fail
          refine (settingE_any B p m vo vt vr s3 _ R1a G3 (hE.low hb1a)).mono ?_
          intro e w1b hP
          obtain ⟨hb1b', hP⟩ := hP
          have hb1b := hb1a.trans hb1b'
          cases hst1 : s3.setting [101, 110, 99, 111, 100, 105, 110, 103] isEncoding with
          | none =>
            rw [hst1] at hP
            obtain ⟨rfl, cc, hcc, hcs⟩ := hP
            have HEQ : Hid (s.settings = none) := hide (by rw [unhide HD1a, hst1]; rfl)
            clear HD1a hst1
            go_wp2
            go_ret
            rw [unhide HEQ]
            exact ⟨hb1b, rfl, cc, hcc, hcs⟩
          | some x1 =>
            rw [hst1] at hP
            obtain ⟨rfl, R1b⟩ := hP
            have G1b := G3.to (setting_adv hst1)
            have hd := unhide HD1a
            rw [hst1] at hd
            simp only [Option.map_some] at hd
            have HD1b := hide hd
            clear hd HD1a hst1 hb1b'
            go_wp2_with fail
            refine (blanks_any p x1 _ R1b.at G1b.fine).mono ?_
            rintro e w1c ⟨rfl, hm1c⟩
            have R1c := R1b.moved hm1c (Adv.blanks x1)
            have G1c := G1b.to (Adv.blanks x1)
            have hb1c := hb1b.trans (hm1c.low hlow (by have := R1b.lt; omega))
            have hd := unhide HD1b
            generalize hgb1 : x1.blank = bb1 at *
            generalize hgs1 : x1.blanks = ss1 at *
            clear hm1c HD1b hgb1 hgs1
            have HD1b := hide hd
            clear hd
            have HD2 := HD1b
            clear HD1b
            cases hsp2 : bb1
            · have hd := unhide HD2
              rw [hsp2, settingIf_no] at hd
              simp only at hd
              have HD2a := hide hd
              clear hd HD2 hsp2
              go_wp2_with fail
              cases hf : ss1.sees [63, 62]
              · refine (take_no [63, 62] ⟨#[63, 62]⟩ rfl (by decide) p ss1 _ R1c.at G1c.fine hf).mono ?_
                rintro e wf ⟨rfl, hbf⟩
                have HEQ : Hid (s.settings = none) := hide (by rw [unhide HD2a, hf]; rfl)
                have RF := R1c.on hbf
                have hb9 := hb1c.trans (hbf.mono (by have := R1c.lt; omega))
                clear hf
                go_wp2
                go_ret
                rw [unhide HEQ]
                exact ⟨hb9, rfl, _, RF.blk, rfl⟩
              · refine (take_yes [63, 62] ⟨#[63, 62]⟩ rfl (by decide) p ss1 _ R1c.at G1c.fine hf).mono ?_
                rintro e wf ⟨rfl, hmf⟩
                have HEQ : Hid (s.settings = some (ss1.adv 2)) := hide (by rw [unhide HD2a, hf]; rfl)
                have HRF := hide (R1c.moved hmf (Adv.by ss1 2))
                have hb9 := hb1c.trans (hmf.low hlow (by have := R1c.lt; omega))
                clear hf hmf
                go_wp2
                go_ret
                rw [unhide HEQ]
                exact ⟨hb9, rfl, unhide HRF⟩
            · go_wp2_with fail
              refine (sees_any [115, 116, 97, 110, 100, 97, 108, 111, 110, 101] ⟨#[115, 116, 97, 110, 100, 97, 108, 111, 110, 101]⟩ rfl (by decide) p ss1 _ R1c.at G1c.fine).mono ?_
              rintro e w2a ⟨rfl, hb2a'⟩
              have R2a := R1c.on hb2a'
              have hb2a := hb1c.trans (hb2a'.mono (by have := R1c.lt; omega))
              rw [show [115, 116, 97, 110, 100, 97, 108, 111, 110, 101].isPrefixOf ss1.rest = ss1.sees [115, 116, 97, 110, 100, 97, 108, 111, 110, 101] from rfl]
              clear hb2a'
              cases hse2 : ss1.sees [115, 116, 97, 110, 100, 97, 108, 111, 110, 101]
              · have hd := unhide HD2
                rw [hsp2, settingIf_un hse2] at hd
                simp only at hd
                have HD2a := hide hd
                clear hd HD2 hsp2 hse2
                go_wp2_with fail
                cases hf : ss1.sees [63, 62]
                · refine (take_no [63, 62] ⟨#[63, 62]⟩ rfl (by decide) p ss1 _ R2a.at G1c.fine hf).mono ?_
                  rintro e wf ⟨rfl, hbf⟩
                  have HEQ : Hid (s.settings = none) := hide (by rw [unhide HD2a, hf]; rfl)
                  have RF := R2a.on hbf
                  have hb9 := hb2a.trans (hbf.mono (by have := R2a.lt; omega))
                  clear hf
                  go_wp2
                  go_ret
                  rw [unhide HEQ]
                  exact ⟨hb9, rfl, _, RF.blk, rfl⟩
                · refine (take_yes [63, 62] ⟨#[63, 62]⟩ rfl (by decide) p ss1 _ R2a.at G1c.fine hf).mono ?_
                  rintro e wf ⟨rfl, hmf⟩
                  have HEQ : Hid (s.settings = some (ss1.adv 2)) := hide (by rw [unhide HD2a, hf]; rfl)
                  have HRF := hide (R2a.moved hmf (Adv.by ss1 2))
                  have hb9 := hb2a.trans (hmf.low hlow (by have := R2a.lt; omega))
                  clear hf hmf
                  go_wp2
                  go_ret
                  rw [unhide HEQ]
                  exact ⟨hb9, rfl, unhide HRF⟩
              · have hd := unhide HD2
                rw [hsp2, settingIf_yes hse2] at hd
                have HD2a := hide hd
                clear hd HD2 hsp2 hse2
                go_wp2_with fail
                refine (settingC_any B p m vo vt vr ss1 _ R2a G1c (hE.low hb2a)).mono ?_
                intro e w2b hP
                obtain ⟨hb2b', hP⟩ := hP
                have hb2b := hb2a.trans hb2b'
                cases hst2 : ss1.setting [115, 116, 97, 110, 100, 97, 108, 111, 110, 101] isChoice with
                | none =>
                  rw [hst2] at hP
                  obtain ⟨rfl, cc, hcc, hcs⟩ := hP
                  have HEQ : Hid (s.settings = none) := hide (by rw [unhide HD2a, hst2]; rfl)
                  clear HD2a hst2
                  go_wp2
                  go_ret
                  rw [unhide HEQ]
                  exact ⟨hb2b, rfl, cc, hcc, hcs⟩
                | some x2 =>
                  rw [hst2] at hP
                  obtain ⟨rfl, R2b⟩ := hP
                  have G2b := G1c.to (setting_adv hst2)
                  have hd := unhide HD2a
                  rw [hst2] at hd
                  simp only [Option.map_some] at hd
                  have HD2b := hide hd
                  clear hd HD2a hst2 hb2b'
                  go_wp2_with fail
                  refine (blanks_any p x2 _ R2b.at G2b.fine).mono ?_
                  rintro e w2c ⟨rfl, hm2c⟩
                  have R2c := R2b.moved hm2c (Adv.blanks x2)
                  have G2c := G2b.to (Adv.blanks x2)
                  have hb2c := hb2b.trans (hm2c.low hlow (by have := R2b.lt; omega))
                  have hd := unhide HD2b
                  generalize hgb2 : x2.blank = bb2 at *
                  generalize hgs2 : x2.blanks = ss2 at *
                  clear hm2c HD2b hgb2 hgs2
                  have HD2b := hide hd
                  clear hd
                  go_wp2_with fail
                  cases hf : ss2.sees [63, 62]
                  · refine (take_no [63, 62] ⟨#[63, 62]⟩ rfl (by decide) p ss2 _ R2c.at G2c.fine hf).mono ?_
                    rintro e wf ⟨rfl, hbf⟩
                    have HEQ : Hid (s.settings = none) := hide (by rw [unhide HD2b, hf]; rfl)
                    have RF := R2c.on hbf
                    have hb9 := hb2c.trans (hbf.mono (by have := R2c.lt; omega))
                    clear hf
                    go_wp2
                    go_ret
                    rw [unhide HEQ]
                    exact ⟨hb9, rfl, _, RF.blk, rfl⟩
                  · refine (take_yes [63, 62] ⟨#[63, 62]⟩ rfl (by decide) p ss2 _ R2c.at G2c.fine hf).mono ?_
                    rintro e wf ⟨rfl, hmf⟩
                    have HEQ : Hid (s.settings = some (ss2.adv 2)) := hide (by rw [unhide HD2b, hf]; rfl)
                    have HRF := hide (R2c.moved hmf (Adv.by ss2 2))
                    have hb9 := hb2c.trans (hmf.low hlow (by have := R2c.lt; omega))
                    clear hf hmf
                    go_wp2
                    go_ret
                    rw [unhide HEQ]
                    exact ⟨hb9, rfl, unhide HRF⟩
/-- What the declaration leaves. -/
def declX (s : RS) : Except Er RS := match s.settings with
  | none => .error (5, 0)
  | some s1 => .ok s1
/-- The declaration as one call. -/
theorem declaration_any (B p m : Nat) (vo vt vr : Value) (s : RS) (w : World) (R : Rd w B p m vo vt vr s) (hG : Good s) (hE : XEnv B w) (hpl : (s.adv 5).place = 5) :
    Calls Tryz.prog 55 #[.pointer (some ⟨p, 0, none⟩)] w fun e w' => outP (declX s) B p m e w w' := by
  have hlow := R.low
  have HS := hide (settings_any B p m vo vt vr s w R hG hE hpl)
  go_enter Tryz.func55, Tryz.ntmps55
  go_wp2_with fail
  refine (unhide HS).mono ?_
  intro e w1 hP
  obtain ⟨hb1, hP⟩ := hP
  cases hst : s.settings with
  | none =>
    rw [hst] at hP
    obtain ⟨rfl, cc, hcc, hcs⟩ := hP
    have HEQ : Hid (declX s = .error (5, 0)) := hide (by unfold declX; rw [hst])
    clear hst HS
    go_wp2_with (go_at_call 63; refine (fail_rd B p 5 0 _ hcc hcs hlow).mono ?_; rintro e w9 ⟨rfl, hw9, hb9⟩)
    go_ret
    rw [unhide HEQ]
    exact ⟨hb1.trans hb9, rfl, hw9⟩
  | some s1 =>
    rw [hst] at hP
    obtain ⟨rfl, R1⟩ := hP
    have HEQ : Hid (declX s = .ok s1) := hide (by unfold declX; rw [hst])
    clear hst HS
    have HR1 := hide R1
    clear R1
    go_wp2
    go_ret
    rw [unhide HEQ]
    exact ⟨hb1, rfl, _, _, _, unhide HR1⟩
end Go.Proofs.YtefjfjieoiegnaaGreatDoor
