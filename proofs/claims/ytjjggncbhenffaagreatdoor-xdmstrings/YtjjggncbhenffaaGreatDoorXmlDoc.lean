/- The whole document: xmlscan's document. -/
import Derived.Test.YtjjggncbhenffaaGreatDoorGbc
import Derived.Test.YtjjggncbhenffaaGreatDoorGbe
import Derived.Test.YtjjggncbhenffaaGreatDoorXmlSets
namespace Go.Proofs.YtjjggncbhenffaaGreatDoor
open Go.RowKit
attribute [local go_sem] jumps_normal jumps_exit jumps_ret jumps_goto jumps_panic
theorem content_ok : ∀ (f : Nat) (s s' : RS), Good s → OpnOk s → EOk s.ents → RS.content f s = .ok s' → s'.rest.length ≤ s.rest.length ∧ Good s' ∧ OpnOk s' ∧ EOk s'.ents
  | 0, s, s', hG, hO, hN, h => by
    unfold RS.content at h
    cases h
    exact ⟨Nat.le_refl _, hG, hO, hN⟩
  | f + 1, s, s', hG, hO, hN, h => by
    unfold RS.content at h
    split at h
    · cases h
      exact ⟨Nat.le_refl _, hG, hO, hN⟩
    · cases hc : s.contentOne with
      | error e => rw [hc] at h; cases h
      | ok s1 =>
        rw [hc] at h
        obtain ⟨k1, k2, k3, k4⟩ := contentOne_ok hG hO hN hc
        obtain ⟨j1, j2⟩ := content_ok f s1 s' k2 k3 k4 h
        exact ⟨by omega, j2⟩
/-- What stands whenever the document is read on. -/
def DocInv (spec : Except Er RS) (B p m : Nat) (w : World) (ok typed rooted : Bool) (n : Nat) (w' : World) : Prop := Below B w w' ∧ match ok with
  | true => ∃ s' vo vt vr, Rd w' B p m vo vt vr s' ∧ Good s' ∧ OpnOk s' ∧ EOk s'.ents ∧ n = s'.rest.length + 1 ∧ ∃ f, s'.rest.length < f ∧ RS.docGo f typed rooted s' = spec ∧ (typed = false → rooted = false → s'.ents = [])
  | false => n = 0 ∧ ∃ c pl, Wrong w' p c pl ∧ spec = .error (c, pl)
def docMore (f : Nat) (typed rooted : Bool) (o : Except Er RS) : Except Er RS := match o with
  | .error e => .error e
  | .ok s1 => RS.docGo f typed rooted s1
theorem doc_next {spec : Except Er RS} {B p m f : Nat} {w w1 w2 : World} {b typed rooted : Bool} {s0 : RS} {o : Except Er RS} (hf : s0.rest.length < f + 1) (hs : docMore f typed rooted o = spec)
    (hL : ∀ s1, o = .ok s1 → Less s0 s1 ∧ (typed = false → rooted = false → s1.ents = [])) (hb : Below B w w1) (h : outP o B p m (.returned (.bool b)) w1 w2) :
    ∃ n', n' < s0.rest.length + 1 ∧ DocInv spec B p m w b typed rooted n' w2 := by
  obtain ⟨h1, h2⟩ := h
  cases o with
  | error x =>
    obtain ⟨c, pl⟩ := x
    obtain ⟨hb', hw⟩ := h2
    cases hb'
    exact ⟨0, by omega, hb.trans h1, rfl, c, pl, hw, hs.symm⟩
  | ok s1 =>
    obtain ⟨hb', vo, vt, vr, R1⟩ := h2
    cases hb'
    obtain ⟨⟨k1, k2, k3, k4⟩, k5⟩ := hL s1 rfl
    exact ⟨s1.rest.length + 1, by omega, hb.trans h1, s1, vo, vt, vr, R1, k2, k3, k4, rfl, f, by omega, hs, k5⟩
theorem com_ents {s s' : RS} (hG : Good s) (h : s.tellComment = .ok s') : s'.ents = s.ents := by
  unfold RS.tellComment at h
  split at h
  · cases h
  · rename_i t s1 hc
    have ha := Adv.comment hc
    obtain ⟨_, _, _, _, h4, _⟩ := (hG.to ha).tell h
    exact h4.trans ha.same.1
theorem instr_ents {s s' : RS} (hG : Good s) (h : s.tellInstruction = .ok s') : s'.ents = s.ents := by
  unfold RS.tellInstruction at h
  split at h
  · cases h
  · rename_i n t s1 hc
    have ha := (Adv.instruction hc).1
    obtain ⟨_, _, _, _, h4, _⟩ := (hG.to ha).tell h
    exact h4.trans ha.same.1
theorem less_of {s0 s s1 : RS} (h : s.rest.length ≤ s0.rest.length) (hl : Less s s1) : Less s0 s1 := ⟨by have := hl.1; omega, hl.2⟩
def docElem (s : RS) : Except Er RS := match s.startTag with
  | .error e => .error e
  | .ok s1 => RS.content (s1.rest.length + 1) s1
theorem settingIf_adv {s s' : RS} {sp b : Bool} {n : List Nat} {right : List Nat → Bool} (h : s.settingIf sp n right = some (b, s')) : Adv s s' := by
  unfold RS.settingIf at h
  split at h
  · cases hs : s.setting n right with
    | none => rw [hs] at h; cases h
    | some x =>
      rw [hs] at h
      cases h
      exact (setting_adv hs).then (Adv.blanks _)
  · cases h
    exact ⟨0, (by unfold RS.adv; simp)⟩
theorem settings_adv {s s' : RS} (h : s.settings = some s') : Adv s s' := by
  rw [settings_eq] at h
  split at h
  · cases h
  · split at h
    · cases h
    · rename_i s1 h1
      split at h
      · cases h
      · rename_i sp s2 h2
        split at h
        · cases h
        · rename_i b s3 h3
          split at h
          · cases h
            exact (((((Adv.by s 5).then (Adv.blanks _)).then (setting_adv h1)).then (Adv.blanks _)).then (settingIf_adv h2)).then ((settingIf_adv h3).then (Adv.by _ 2))
          · cases h
theorem decl_place {s : RS} (hpre : s.pre = []) (h1 : [60, 63].isPrefixOf s.rest = true) (h2 : nameA (s.rest.drop 2) = [120, 109, 108]) : (s.adv 5).place = 5 := by
  have hp := nameA_pre (s.rest.drop 2)
  rw [h2] at hp
  obtain ⟨u, hu⟩ := hp
  obtain ⟨v, hv⟩ := List.isPrefixOf_iff_prefix.1 h1
  rw [← hv] at hu
  have hu' : [120, 109, 108] ++ u = v := hu
  unfold RS.place RS.adv
  simp only
  rw [hpre, ← hv, ← hu']
  show (tx [60, 63, 120, 109, 108]).length = 5
  decide +kernel
theorem decl_start {B p m : Nat} {w w1 w2 : World} {b : Bool} {s : RS} (hG : Good s) (hO : OpnOk s) (hN : s.ents = [])
    (hq : s.document = match declX s with | .error e => .error e | .ok s1 => RS.docGo (s1.rest.length + 1) false false s1) (hb : Below B w w1) (h : outP (declX s) B p m (.returned (.bool b)) w1 w2) :
    ∃ n, DocInv s.document B p m w b false false n w2 := by
  obtain ⟨h1, h2⟩ := h
  cases hd : declX s with
  | error x =>
    obtain ⟨c, pl⟩ := x
    rw [hd] at h2 hq
    obtain ⟨hb', hw⟩ := h2
    cases hb'
    exact ⟨0, hb.trans h1, rfl, c, pl, hw, hq⟩
  | ok s1 =>
    rw [hd] at h2 hq
    obtain ⟨hb', vo, vt, vr, R1⟩ := h2
    cases hb'
    have ha : Adv s s1 := by
      unfold declX at hd
      split at hd
      · cases hd
      · rename_i hs; cases hd; exact settings_adv hs
    exact ⟨s1.rest.length + 1, hb.trans h1, s1, vo, vt, vr, R1, hG.to ha, hO.to ha.same.2.1, EOk.of (ha.same.1.trans hN) EOk.nil, rfl, s1.rest.length + 1, by omega, hq.symm, fun _ _ => ha.same.1.trans hN⟩
theorem docGo_eq (f : Nat) (typed rooted : Bool) (s0 : RS) : RS.docGo (f + 1) typed rooted s0 =
    if s0.blanks.sees [60, 33, 45, 45] then docMore f typed rooted s0.blanks.tellComment
    else if s0.blanks.sees [60, 63] then docMore f typed rooted s0.blanks.tellInstruction
    else if s0.blanks.sees [60, 33, 68, 79, 67, 84, 89, 80, 69] && (!typed && !rooted) then docMore f true rooted s0.blanks.doctype
    else if s0.blanks.sees [60] && !rooted then docMore f typed true (docElem s0.blanks)
    else if s0.blanks.rest ≠ [] ∨ rooted = false then .error (5, s0.blanks.place) else .ok s0.blanks := by
  rw [RS.docGo]
  unfold docMore docElem
  cases s0.blanks.tellComment <;> cases s0.blanks.tellInstruction <;> cases s0.blanks.doctype <;> cases s0.blanks.startTag <;> rfl
theorem rest_pos {s : RS} (h : okL (s.pre ++ s.rest)) (hr : ¬ s.rest = []) : s.place < (T (s.pre ++ s.rest)).size := by
  cases hs : s.rest with
  | nil => exact absurd hs hr
  | cons c t =>
    have hc := runeB_pos (h c (by rw [hs]; simp))
    rw [T_size, tx_len_app, tx_cons, List.length_append]
    unfold RS.place
    omega
set_option maxRecDepth 100000 in
theorem doc_frame {a : Act} {x0 x3 x4 x5 : Value} (hd : a.defers = []) (hs : a.tmps.size = 85) (h0 : a.tmps[0]? = some x0) (h3 : a.tmps[3]? = some x3) (h4 : a.tmps[4]? = some x4) (h5 : a.tmps[5]? = some x5) : ∃ u : Nat → Value, a = { tmps := #[x0, u 1, u 2, x3, x4, x5, u 6, u 7, u 8, u 9, u 10, u 11, u 12, u 13, u 14, u 15, u 16, u 17, u 18, u 19, u 20, u 21, u 22, u 23, u 24, u 25, u 26, u 27, u 28, u 29, u 30, u 31, u 32, u 33, u 34, u 35, u 36, u 37, u 38, u 39, u 40, u 41, u 42, u 43, u 44, u 45, u 46, u 47, u 48, u 49, u 50, u 51, u 52, u 53, u 54, u 55, u 56, u 57, u 58, u 59, u 60, u 61, u 62, u 63, u 64, u 65, u 66, u 67, u 68, u 69, u 70, u 71, u 72, u 73, u 74, u 75, u 76, u 77, u 78, u 79, u 80, u 81, u 82, u 83, u 84], defers := [] } := by
  obtain ⟨tmps, defers⟩ := a
  simp only at hd hs h0 h3 h4 h5
  subst hd
  refine ⟨fun i => tmps[i]!, ?_⟩
  have e := arr_of hs
  have e0 : tmps[0]! = x0 := by rw [getElem!_def, h0]
  have e3 : tmps[3]! = x3 := by rw [getElem!_def, h3]
  have e4 : tmps[4]! = x4 := by rw [getElem!_def, h4]
  have e5 : tmps[5]! = x5 := by rw [getElem!_def, h5]
  have e' : tmps = #[tmps[0]!, tmps[1]!, tmps[2]!, tmps[3]!, tmps[4]!, tmps[5]!, tmps[6]!, tmps[7]!, tmps[8]!, tmps[9]!, tmps[10]!, tmps[11]!, tmps[12]!, tmps[13]!, tmps[14]!, tmps[15]!, tmps[16]!, tmps[17]!, tmps[18]!, tmps[19]!, tmps[20]!, tmps[21]!, tmps[22]!, tmps[23]!, tmps[24]!, tmps[25]!, tmps[26]!, tmps[27]!, tmps[28]!, tmps[29]!, tmps[30]!, tmps[31]!, tmps[32]!, tmps[33]!, tmps[34]!, tmps[35]!, tmps[36]!, tmps[37]!, tmps[38]!, tmps[39]!, tmps[40]!, tmps[41]!, tmps[42]!, tmps[43]!, tmps[44]!, tmps[45]!, tmps[46]!, tmps[47]!, tmps[48]!, tmps[49]!, tmps[50]!, tmps[51]!, tmps[52]!, tmps[53]!, tmps[54]!, tmps[55]!, tmps[56]!, tmps[57]!, tmps[58]!, tmps[59]!, tmps[60]!, tmps[61]!, tmps[62]!, tmps[63]!, tmps[64]!, tmps[65]!, tmps[66]!, tmps[67]!, tmps[68]!, tmps[69]!, tmps[70]!, tmps[71]!, tmps[72]!, tmps[73]!, tmps[74]!, tmps[75]!, tmps[76]!, tmps[77]!, tmps[78]!, tmps[79]!, tmps[80]!, tmps[81]!, tmps[82]!, tmps[83]!, tmps[84]!] := e
  rw [e0, e3, e4, e5] at e'
  exact congrArg (fun t => ({ tmps := t, defers := [] } : Act)) e'
set_option maxRecDepth 100000 in
theorem doc_goto {spec : Except Er RS} {B p m n : Nat} {w w' : World} {ok typed rooted : Bool} {a' : Act} (h1 : a'.defers = []) (h2 : a'.tmps.size = 85) (h3 : a'.tmps[0]? = some (.pointer (some ⟨p, 0, none⟩))) (h4 : a'.tmps[3]? = some (.bool typed)) (h5 : a'.tmps[4]? = some (.bool rooted)) (h6 : a'.tmps[5]? = some (.bool ok))
    (hI : DocInv spec B p m w ok typed rooted n w') : ∃ (ok typed rooted : Bool) (u : Nat → Value), DocInv spec B p m w ok typed rooted n w' ∧ a' = { tmps := #[.pointer (some ⟨p, 0, none⟩), u 1, u 2, .bool typed, .bool rooted, .bool ok, u 6, u 7, u 8, u 9, u 10, u 11, u 12, u 13, u 14, u 15, u 16, u 17, u 18, u 19, u 20, u 21, u 22, u 23, u 24, u 25, u 26, u 27, u 28, u 29, u 30, u 31, u 32, u 33, u 34, u 35, u 36, u 37, u 38, u 39, u 40, u 41, u 42, u 43, u 44, u 45, u 46, u 47, u 48, u 49, u 50, u 51, u 52, u 53, u 54, u 55, u 56, u 57, u 58, u 59, u 60, u 61, u 62, u 63, u 64, u 65, u 66, u 67, u 68, u 69, u 70, u 71, u 72, u 73, u 74, u 75, u 76, u 77, u 78, u 79, u 80, u 81, u 82, u 83, u 84], defers := [] } := by
  obtain ⟨u, hu⟩ := doc_frame h1 h2 h3 h4 h5 h6
  exact ⟨ok, typed, rooted, u, hI, hu⟩
set_option maxRecDepth 100000 in
set_option maxHeartbeats 8000000 in
theorem document_any (B p m : Nat) (vo vt vr : Value) (s : RS) (w : World) (R : Rd w B p m vo vt vr s) (hG : Good s) (hO : OpnOk s) (hE : XEnv B w) (hN0 : s.ents = []) (hpre : s.pre = []) :
    Calls Tryz.prog 85 #[.pointer (some ⟨p, 0, none⟩)] w fun e w' => outP s.document B p m e w w' := by
  have hlow := R.low
  have hlt := R.lt
  have hN : EOk s.ents := EOk.of hN0 EOk.nil
  go_enter Tryz.func85, Tryz.ntmps85
  go_wp2_with fail
  refine wp_scope_one 0 (fun n a' w' => ∃ (ok typed rooted : Bool) (u : Nat → Value), DocInv (s.document) B p m w ok typed rooted n w' ∧ a' = { tmps := #[.pointer (some ⟨p, 0, none⟩), u 1, u 2, .bool typed, .bool rooted, .bool ok, u 6, u 7, u 8, u 9, u 10, u 11, u 12, u 13, u 14, u 15, u 16, u 17, u 18, u 19, u 20, u 21, u 22, u 23, u 24, u 25, u 26, u 27, u 28, u 29, u 30, u 31, u 32, u 33, u 34, u 35, u 36, u 37, u 38, u 39, u 40, u 41, u 42, u 43, u 44, u 45, u 46, u 47, u 48, u 49, u 50, u 51, u 52, u 53, u 54, u 55, u 56, u 57, u 58, u 59, u 60, u 61, u 62, u 63, u 64, u 65, u 66, u 67, u 68, u 69, u 70, u 71, u 72, u 73, u 74, u 75, u 76, u 77, u 78, u 79, u 80, u 81, u 82, u 83, u 84], defers := [] }) rfl ?_ ?_
  · rintro n a' w' ⟨ok, typed, rooted, u, hI, rfl⟩
    obtain ⟨hbw, hI⟩ := hI
    cases ok
    · obtain ⟨rfl, c, pl, hw, hsp⟩ := hI
      have HSP := hide hsp
      clear hsp
      go_wp2_with fail
      try rw [jumps_ret]
      go_ret
      rw [unhide HSP]
      exact ⟨hbw, rfl, hw⟩
    · obtain ⟨s1, vo1, vt1, vr1, R1, G1, O1, N1, rfl, f, hf, hsp, hty⟩ := hI
      obtain ⟨g, rfl⟩ : ∃ g, f = g + 1 := ⟨f - 1, by omega⟩
      rw [docGo_eq] at hsp
      have hsp' := hide hsp
      have hty' := hide (show typed = false → rooted = false → s1.blanks.ents = [] from hty)
      clear hsp hty
      go_wp2_with fail
      refine (blanks_any p s1 _ R1.at G1.fine).mono ?_
      rintro e w2 ⟨rfl, hm2⟩
      have R2 := R1.moved hm2 (Adv.blanks s1)
      have G2 := G1.to (Adv.blanks s1)
      have O2 : OpnOk s1.blanks := O1.to (Adv.blanks s1).same.2.1
      have N2 : EOk s1.blanks.ents := N1
      have hln : s1.blanks.rest.length ≤ s1.rest.length := (Adv.blanks s1).len
      have hb2 := hbw.trans (hm2.low hlow (by have := R1.lt; omega))
      have hsp := unhide hsp'
      have HTY := hty'
      clear hsp' hty'
      generalize hg : s1.blanks = s2 at *
      clear hg R1 hm2 G1 O1 N1
      have HSP0 := hide hsp
      clear hsp
      go_wp2_with fail
      refine (sees_any [60, 33, 45, 45] ⟨#[60, 33, 45, 45]⟩ rfl (by decide) p s2 _ R2.at G2.fine).mono ?_
      rintro e w3 ⟨rfl, hc3⟩
      have R3 := R2.on hc3
      have hb3 := hb2.trans (hc3.mono (by have := R2.lt; omega))
      clear R2 hc3
      rw [show [60, 33, 45, 45].isPrefixOf s2.rest = s2.sees [60, 33, 45, 45] from rfl]
      have hsp := unhide HSP0
      clear HSP0
      cases h1 : s2.sees [60, 33, 45, 45]
      · rw [h1, if_neg (by decide)] at hsp
        have HSP0 := hide hsp
        clear hsp
        go_wp2_with fail
        refine (sees_any [60, 63] ⟨#[60, 63]⟩ rfl (by decide) p s2 _ R3.at G2.fine).mono ?_
        rintro e w4 ⟨rfl, hc4⟩
        have R4 := R3.on hc4
        have hb4 := hb3.trans (hc4.mono (by have := R3.lt; omega))
        clear R3 hc4
        rw [show [60, 63].isPrefixOf s2.rest = s2.sees [60, 63] from rfl]
        have hsp := unhide HSP0
        clear HSP0
        cases h2 : s2.sees [60, 63]
        · rw [h2, if_neg (by decide)] at hsp
          have HSP0 := hide hsp
          clear hsp h1 h2
          go_wp2_with fail
          refine (sees_any [60, 33, 68, 79, 67, 84, 89, 80, 69] ⟨#[60, 33, 68, 79, 67, 84, 89, 80, 69]⟩ rfl (by decide) p s2 _ R4.at G2.fine).mono ?_
          rintro e w5 ⟨rfl, hc5⟩
          have R5 := R4.on hc5
          have hb5 := hb4.trans (hc5.mono (by have := R4.lt; omega))
          clear R4 hc5
          rw [show [60, 33, 68, 79, 67, 84, 89, 80, 69].isPrefixOf s2.rest = s2.sees [60, 33, 68, 79, 67, 84, 89, 80, 69] from rfl]
          cases h3 : s2.sees [60, 33, 68, 79, 67, 84, 89, 80, 69]
          · have hsp := unhide HSP0
            rw [h3, Bool.false_and, if_neg (by decide)] at hsp
            clear HSP0 HTY h3
            have HSP0 := hide hsp
            clear hsp
            go_wp2_with fail
            refine (sees_any [60] ⟨#[60]⟩ rfl (by decide) p s2 _ R5.at G2.fine).mono ?_
            rintro e w6 ⟨rfl, hc6⟩
            have R6 := R5.on hc6
            have hb6 := hb5.trans (hc6.mono (by have := R5.lt; omega))
            clear R5 hc6
            rw [show [60].isPrefixOf s2.rest = s2.sees [60] from rfl]
            have hsp := unhide HSP0
            clear HSP0
            cases h4 : s2.sees [60]
            · rw [h4, Bool.false_and, if_neg (by decide)] at hsp
              have HSP0 := hide hsp
              clear hsp h4
              have hsum := G2.fine.sum
              have HX := hide (show ClsW w6 w6.drew from ⟨(Below.refl _ _).drew⟩)
              have HCE := hide (fun (u : World) (h : ClsW w6 u) => (⟨(R6.on h.bel).at.pos, (R6.on h.bel).at.txt⟩ : u.cell? ⟨p, 1, none⟩ = some (.int .i64 (s2.place : Nat)) ∧ u.cell? ⟨p, 0, none⟩ = some (.string (T (s2.pre ++ s2.rest)))))
              by_cases hr : s2.rest = []
              · have hz : (T (s2.pre ++ s2.rest)).size = s2.place := by rw [hr, List.append_nil, T_size]; rfl
                cases rooted
                · have i5 : decide (s2.place < (T (s2.pre ++ s2.rest)).size) = false := decide_eq_false (by omega)
                  have HE' : Hid (s.document = .error (5, s2.place)) := hide (by rw [← unhide HSP0, if_pos (.inr rfl)])
                  clear HSP0 hsum hr
                  go_wp2_with fail
                  refine wp_region_cls (ClsW w6) (by kernel_rfl) (by kernel_rfl) (unhide HX) ?_
                  repeat
                    (first
                      | go_big_quiet_skip
                      | (go_big_quiet_want
                         go_big_quiet_op
                         first
                           | go_big_quiet_on
                           | (apply Exists.intro
                              refine ⟨fun w' hC => ?_, ?_⟩
                              · (obtain ⟨k0, k1⟩ := unhide HCE _ hC; go_simp; first | done | rfl)
                              go_big_quiet_on)))
                  refine wpQuiet_nil ?_
                  intro w8 hC8
                  have hb8 := hC8.bel
                  clear hC8 HX HCE
                  have R8 := R6.on hb8
                  have c18 : w8.cell? ⟨p, 1, none⟩ = some (.int .i64 (s2.place : Nat)) := R8.at.pos
                  have hb8B : Below B w w8 := hb6.trans (hb8.mono (by have := R6.lt; omega))
                  clear R6 hb8
                  go_wp2_with (go_at_call 123; refine (fail_rd B p 5 s2.place _ R8.blk rfl hlow).mono ?_; rintro e w9 ⟨rfl, hw9, hb9⟩)
                  try rw [jumps_ret]
                  go_ret
                  rw [unhide HE']
                  exact ⟨hb8B.trans hb9, rfl, hw9⟩
                · have i5 : decide (s2.place < (T (s2.pre ++ s2.rest)).size) = false := decide_eq_false (by omega)
                  have HE' : Hid (s.document = .ok s2) := hide (by rw [← unhide HSP0, if_neg (by rw [hr]; simp)])
                  clear HSP0 hsum hr
                  go_wp2_with fail
                  refine wp_region_cls (ClsW w6) (by kernel_rfl) (by kernel_rfl) (unhide HX) ?_
                  repeat
                    (first
                      | go_big_quiet_skip
                      | (go_big_quiet_want
                         go_big_quiet_op
                         first
                           | go_big_quiet_on
                           | (apply Exists.intro
                              refine ⟨fun w' hC => ?_, ?_⟩
                              · (obtain ⟨k0, k1⟩ := unhide HCE _ hC; go_simp; first | done | rfl)
                              go_big_quiet_on)))
                  refine wpQuiet_nil ?_
                  intro w8 hC8
                  have hb8 := hC8.bel
                  clear hC8 HX HCE
                  have R8 := R6.on hb8
                  have hb8B : Below B w w8 := hb6.trans (hb8.mono (by have := R6.lt; omega))
                  have HR8 := hide R8
                  clear R6 hb8 R8
                  go_wp2_with fail
                  try rw [jumps_ret]
                  go_ret
                  rw [unhide HE']
                  exact ⟨hb8B, rfl, _, _, _, unhide HR8⟩
              · have i5 : decide (s2.place < (T (s2.pre ++ s2.rest)).size) = true := decide_eq_true (by have := rest_pos G2.fine.ok hr; omega)
                have HE' : Hid (s.document = .error (5, s2.place)) := hide (by rw [← unhide HSP0, if_pos (.inl hr)])
                clear HSP0 hsum hr
                go_wp2_with fail
                refine wp_region_cls (ClsW w6) (by kernel_rfl) (by kernel_rfl) (unhide HX) ?_
                repeat
                  (first
                    | go_big_quiet_skip
                    | (go_big_quiet_want
                       go_big_quiet_op
                       first
                         | go_big_quiet_on
                         | (apply Exists.intro
                            refine ⟨fun w' hC => ?_, ?_⟩
                            · (obtain ⟨k0, k1⟩ := unhide HCE _ hC; go_simp; first | done | rfl)
                            go_big_quiet_on)))
                refine wpQuiet_nil ?_
                intro w8 hC8
                have hb8 := hC8.bel
                clear hC8 HX HCE
                have R8 := R6.on hb8
                have c18 : w8.cell? ⟨p, 1, none⟩ = some (.int .i64 (s2.place : Nat)) := R8.at.pos
                have hb8B : Below B w w8 := hb6.trans (hb8.mono (by have := R6.lt; omega))
                clear R6 hb8
                go_wp2_with (go_at_call 123; refine (fail_rd B p 5 s2.place _ R8.blk rfl hlow).mono ?_; rintro e w9 ⟨rfl, hw9, hb9⟩)
                try rw [jumps_ret]
                go_ret
                rw [unhide HE']
                exact ⟨hb8B.trans hb9, rfl, hw9⟩
            · cases rooted
              · rw [h4, Bool.not_false, Bool.true_and, if_pos rfl] at hsp
                have HSP0 := hide hsp
                have H4 := hide h4
                clear hsp h4
                have HL : Hid (∀ s', docElem s2 = .ok s' → Less s1 s') := hide (fun s' hs' => by
                  unfold docElem at hs'
                  cases hst : s2.startTag with
                  | error x => rw [hst] at hs'; cases hs'
                  | ok s5 =>
                    rw [hst] at hs'
                    obtain ⟨k1, k2, k3, k4⟩ := start_less G2 O2 N2 (unhide H4) hst
                    obtain ⟨j1, j2⟩ := content_ok _ s5 s' k2 k3 k4 hs'
                    exact ⟨by omega, j2⟩)
                go_wp2_with fail
                refine (startTag_any B p m _ _ _ s2 _ R6 G2 O2 (hE.low hb6) N2 (unhide H4)).mono ?_
                intro e w7 ho
                obtain ⟨b, rfl, ho⟩ := outP_form ho
                cases hst : s2.startTag with
                | error x =>
                  rw [hst] at ho
                  have ho' : outP (docElem s2) B p m (.returned (.bool b)) w6 w7 := by
                    unfold docElem
                    rw [hst]
                    exact ho
                  obtain ⟨n', hn', hC⟩ := doc_next hf (unhide HSP0) (fun s' hs' => ⟨unhide HL s' hs', fun _ h => (by cases h)⟩) hb6 ho'
                  obtain ⟨_, hb', _⟩ := ho
                  cases hb'
                  have HCI := hide hC
                  clear hC ho'
                  go_wp2_with fail
                  go_step3
                  exact ⟨rfl, n', hn', doc_goto rfl rfl rfl rfl rfl rfl (unhide HCI)⟩
                | ok s5 =>
                  rw [hst] at ho
                  obtain ⟨hb7, hb', vo5, vt5, vr5, R7⟩ := ho
                  cases hb'
                  obtain ⟨k1, G5, O5, N5⟩ := start_less G2 O2 N2 (unhide H4) hst
                  have HOE : Hid (docElem s2 = RS.content (s5.rest.length + 1) s5) := hide (by unfold docElem; rw [hst])
                  clear hst
                  go_wp2_with fail
                  refine (content_any B p m _ _ _ s5 _ R7 G5 O5 (hE.low (hb6.trans hb7)) N5).mono ?_
                  intro e w8 ho
                  obtain ⟨b, rfl, ho⟩ := outP_form ho
                  obtain ⟨n', hn', hC⟩ := doc_next hf (unhide HSP0) (fun s' hs' => ⟨unhide HL s' hs', fun _ h => (by cases h)⟩) hb6 (by rw [unhide HOE]; exact outP_low hb7 ho)
                  have HCI := hide hC
                  clear hC ho
                  go_wp2_with fail
                  go_step3
                  exact ⟨rfl, n', hn', doc_goto rfl rfl rfl rfl rfl rfl (unhide HCI)⟩
              · rw [h4, Bool.not_true, Bool.and_false, if_neg (by decide)] at hsp
                have HSP0 := hide hsp
                clear hsp h4
                have hsum := G2.fine.sum
                have HX := hide (show ClsW w6 w6.drew from ⟨(Below.refl _ _).drew⟩)
                have HCE := hide (fun (u : World) (h : ClsW w6 u) => (⟨(R6.on h.bel).at.pos, (R6.on h.bel).at.txt⟩ : u.cell? ⟨p, 1, none⟩ = some (.int .i64 (s2.place : Nat)) ∧ u.cell? ⟨p, 0, none⟩ = some (.string (T (s2.pre ++ s2.rest)))))
                by_cases hr : s2.rest = []
                · have hz : (T (s2.pre ++ s2.rest)).size = s2.place := by rw [hr, List.append_nil, T_size]; rfl
                  have i5 : decide (s2.place < (T (s2.pre ++ s2.rest)).size) = false := decide_eq_false (by omega)
                  have HE' : Hid (s.document = .ok s2) := hide (by rw [← unhide HSP0, if_neg (by rw [hr]; simp)])
                  clear HSP0 hsum hr
                  go_wp2_with fail
                  refine wp_region_cls (ClsW w6) (by kernel_rfl) (by kernel_rfl) (unhide HX) ?_
                  repeat
                    (first
                      | go_big_quiet_skip
                      | (go_big_quiet_want
                         go_big_quiet_op
                         first
                           | go_big_quiet_on
                           | (apply Exists.intro
                              refine ⟨fun w' hC => ?_, ?_⟩
                              · (obtain ⟨k0, k1⟩ := unhide HCE _ hC; go_simp; first | done | rfl)
                              go_big_quiet_on)))
                  refine wpQuiet_nil ?_
                  intro w8 hC8
                  have hb8 := hC8.bel
                  clear hC8 HX HCE
                  have R8 := R6.on hb8
                  have hb8B : Below B w w8 := hb6.trans (hb8.mono (by have := R6.lt; omega))
                  have HR8 := hide R8
                  clear R6 hb8 R8
                  go_wp2_with fail
                  try rw [jumps_ret]
                  go_ret
                  rw [unhide HE']
                  exact ⟨hb8B, rfl, _, _, _, unhide HR8⟩
                · have i5 : decide (s2.place < (T (s2.pre ++ s2.rest)).size) = true := decide_eq_true (by have := rest_pos G2.fine.ok hr; omega)
                  have HE' : Hid (s.document = .error (5, s2.place)) := hide (by rw [← unhide HSP0, if_pos (.inl hr)])
                  clear HSP0 hsum hr
                  go_wp2_with fail
                  refine wp_region_cls (ClsW w6) (by kernel_rfl) (by kernel_rfl) (unhide HX) ?_
                  repeat
                    (first
                      | go_big_quiet_skip
                      | (go_big_quiet_want
                         go_big_quiet_op
                         first
                           | go_big_quiet_on
                           | (apply Exists.intro
                              refine ⟨fun w' hC => ?_, ?_⟩
                              · (obtain ⟨k0, k1⟩ := unhide HCE _ hC; go_simp; first | done | rfl)
                              go_big_quiet_on)))
                  refine wpQuiet_nil ?_
                  intro w8 hC8
                  have hb8 := hC8.bel
                  clear hC8 HX HCE
                  have R8 := R6.on hb8
                  have c18 : w8.cell? ⟨p, 1, none⟩ = some (.int .i64 (s2.place : Nat)) := R8.at.pos
                  have hb8B : Below B w w8 := hb6.trans (hb8.mono (by have := R6.lt; omega))
                  clear R6 hb8
                  go_wp2_with (go_at_call 123; refine (fail_rd B p 5 s2.place _ R8.blk rfl hlow).mono ?_; rintro e w9 ⟨rfl, hw9, hb9⟩)
                  try rw [jumps_ret]
                  go_ret
                  rw [unhide HE']
                  exact ⟨hb8B.trans hb9, rfl, hw9⟩
          · cases typed
            · cases rooted
              · have hsp := unhide HSP0
                rw [h3, if_pos (by rfl : (true && (!false && !false)) = true)] at hsp
                have hen : s2.ents = [] := unhide HTY rfl rfl
                have HSP := hide hsp
                have H3 := hide h3
                have hle2 : s2.ents.length + s2.rest.length ≤ 40000 := by
                  have h := take_szT s2.rest.length s2.rest G2.fine.okR (Nat.le_refl _)
                  rw [List.take_length] at h
                  have := G2.fine.lt
                  rw [hen]
                  simp only [List.length_nil]
                  omega
                clear hsp h3 HTY HSP0 hen
                go_wp2_with fail
                refine (doctype_any B p m _ _ _ s2 _ R5 G2 (hE.low hb5) N2 hle2 (unhide H3)).mono ?_
                intro e w9 ho
                obtain ⟨b, rfl, ho⟩ := outP_form ho
                obtain ⟨n', hn', hC⟩ := doc_next hf (unhide HSP) (fun s' hs' => ⟨less_of hln (doctype_less G2 O2 N2 (unhide H3) hs'), fun h => (by cases h)⟩) hb5 ho
                have HCI := hide hC
                clear hC ho
                go_wp2_with fail
                go_step3
                exact ⟨rfl, n', hn', doc_goto rfl rfl rfl rfl rfl rfl (unhide HCI)⟩
              · have hsp := unhide HSP0
                rw [h3, if_neg (by decide : ¬ (true && (!false && !true)) = true)] at hsp
                clear HSP0 HTY h3
                have HSP0 := hide hsp
                clear hsp
                go_wp2_with fail
                refine (sees_any [60] ⟨#[60]⟩ rfl (by decide) p s2 _ R5.at G2.fine).mono ?_
                rintro e w6 ⟨rfl, hc6⟩
                have R6 := R5.on hc6
                have hb6 := hb5.trans (hc6.mono (by have := R5.lt; omega))
                clear R5 hc6
                rw [show [60].isPrefixOf s2.rest = s2.sees [60] from rfl]
                have hsp := unhide HSP0
                clear HSP0
                cases h4 : s2.sees [60]
                · rw [h4, Bool.false_and, if_neg (by decide)] at hsp
                  have HSP0 := hide hsp
                  clear hsp h4
                  have hsum := G2.fine.sum
                  have HX := hide (show ClsW w6 w6.drew from ⟨(Below.refl _ _).drew⟩)
                  have HCE := hide (fun (u : World) (h : ClsW w6 u) => (⟨(R6.on h.bel).at.pos, (R6.on h.bel).at.txt⟩ : u.cell? ⟨p, 1, none⟩ = some (.int .i64 (s2.place : Nat)) ∧ u.cell? ⟨p, 0, none⟩ = some (.string (T (s2.pre ++ s2.rest)))))
                  by_cases hr : s2.rest = []
                  · have hz : (T (s2.pre ++ s2.rest)).size = s2.place := by rw [hr, List.append_nil, T_size]; rfl
                    have i5 : decide (s2.place < (T (s2.pre ++ s2.rest)).size) = false := decide_eq_false (by omega)
                    have HE' : Hid (s.document = .ok s2) := hide (by rw [← unhide HSP0, if_neg (by rw [hr]; simp)])
                    clear HSP0 hsum hr
                    go_wp2_with fail
                    refine wp_region_cls (ClsW w6) (by kernel_rfl) (by kernel_rfl) (unhide HX) ?_
                    repeat
                      (first
                        | go_big_quiet_skip
                        | (go_big_quiet_want
                           go_big_quiet_op
                           first
                             | go_big_quiet_on
                             | (apply Exists.intro
                                refine ⟨fun w' hC => ?_, ?_⟩
                                · (obtain ⟨k0, k1⟩ := unhide HCE _ hC; go_simp; first | done | rfl)
                                go_big_quiet_on)))
                    refine wpQuiet_nil ?_
                    intro w8 hC8
                    have hb8 := hC8.bel
                    clear hC8 HX HCE
                    have R8 := R6.on hb8
                    have hb8B : Below B w w8 := hb6.trans (hb8.mono (by have := R6.lt; omega))
                    have HR8 := hide R8
                    clear R6 hb8 R8
                    go_wp2_with fail
                    try rw [jumps_ret]
                    go_ret
                    rw [unhide HE']
                    exact ⟨hb8B, rfl, _, _, _, unhide HR8⟩
                  · have i5 : decide (s2.place < (T (s2.pre ++ s2.rest)).size) = true := decide_eq_true (by have := rest_pos G2.fine.ok hr; omega)
                    have HE' : Hid (s.document = .error (5, s2.place)) := hide (by rw [← unhide HSP0, if_pos (.inl hr)])
                    clear HSP0 hsum hr
                    go_wp2_with fail
                    refine wp_region_cls (ClsW w6) (by kernel_rfl) (by kernel_rfl) (unhide HX) ?_
                    repeat
                      (first
                        | go_big_quiet_skip
                        | (go_big_quiet_want
                           go_big_quiet_op
                           first
                             | go_big_quiet_on
                             | (apply Exists.intro
                                refine ⟨fun w' hC => ?_, ?_⟩
                                · (obtain ⟨k0, k1⟩ := unhide HCE _ hC; go_simp; first | done | rfl)
                                go_big_quiet_on)))
                    refine wpQuiet_nil ?_
                    intro w8 hC8
                    have hb8 := hC8.bel
                    clear hC8 HX HCE
                    have R8 := R6.on hb8
                    have c18 : w8.cell? ⟨p, 1, none⟩ = some (.int .i64 (s2.place : Nat)) := R8.at.pos
                    have hb8B : Below B w w8 := hb6.trans (hb8.mono (by have := R6.lt; omega))
                    clear R6 hb8
                    go_wp2_with (go_at_call 123; refine (fail_rd B p 5 s2.place _ R8.blk rfl hlow).mono ?_; rintro e w9 ⟨rfl, hw9, hb9⟩)
                    try rw [jumps_ret]
                    go_ret
                    rw [unhide HE']
                    exact ⟨hb8B.trans hb9, rfl, hw9⟩
                · rw [h4, Bool.not_true, Bool.and_false, if_neg (by decide)] at hsp
                  have HSP0 := hide hsp
                  clear hsp h4
                  have hsum := G2.fine.sum
                  have HX := hide (show ClsW w6 w6.drew from ⟨(Below.refl _ _).drew⟩)
                  have HCE := hide (fun (u : World) (h : ClsW w6 u) => (⟨(R6.on h.bel).at.pos, (R6.on h.bel).at.txt⟩ : u.cell? ⟨p, 1, none⟩ = some (.int .i64 (s2.place : Nat)) ∧ u.cell? ⟨p, 0, none⟩ = some (.string (T (s2.pre ++ s2.rest)))))
                  by_cases hr : s2.rest = []
                  · have hz : (T (s2.pre ++ s2.rest)).size = s2.place := by rw [hr, List.append_nil, T_size]; rfl
                    have i5 : decide (s2.place < (T (s2.pre ++ s2.rest)).size) = false := decide_eq_false (by omega)
                    have HE' : Hid (s.document = .ok s2) := hide (by rw [← unhide HSP0, if_neg (by rw [hr]; simp)])
                    clear HSP0 hsum hr
                    go_wp2_with fail
                    refine wp_region_cls (ClsW w6) (by kernel_rfl) (by kernel_rfl) (unhide HX) ?_
                    repeat
                      (first
                        | go_big_quiet_skip
                        | (go_big_quiet_want
                           go_big_quiet_op
                           first
                             | go_big_quiet_on
                             | (apply Exists.intro
                                refine ⟨fun w' hC => ?_, ?_⟩
                                · (obtain ⟨k0, k1⟩ := unhide HCE _ hC; go_simp; first | done | rfl)
                                go_big_quiet_on)))
                    refine wpQuiet_nil ?_
                    intro w8 hC8
                    have hb8 := hC8.bel
                    clear hC8 HX HCE
                    have R8 := R6.on hb8
                    have hb8B : Below B w w8 := hb6.trans (hb8.mono (by have := R6.lt; omega))
                    have HR8 := hide R8
                    clear R6 hb8 R8
                    go_wp2_with fail
                    try rw [jumps_ret]
                    go_ret
                    rw [unhide HE']
                    exact ⟨hb8B, rfl, _, _, _, unhide HR8⟩
                  · have i5 : decide (s2.place < (T (s2.pre ++ s2.rest)).size) = true := decide_eq_true (by have := rest_pos G2.fine.ok hr; omega)
                    have HE' : Hid (s.document = .error (5, s2.place)) := hide (by rw [← unhide HSP0, if_pos (.inl hr)])
                    clear HSP0 hsum hr
                    go_wp2_with fail
                    refine wp_region_cls (ClsW w6) (by kernel_rfl) (by kernel_rfl) (unhide HX) ?_
                    repeat
                      (first
                        | go_big_quiet_skip
                        | (go_big_quiet_want
                           go_big_quiet_op
                           first
                             | go_big_quiet_on
                             | (apply Exists.intro
                                refine ⟨fun w' hC => ?_, ?_⟩
                                · (obtain ⟨k0, k1⟩ := unhide HCE _ hC; go_simp; first | done | rfl)
                                go_big_quiet_on)))
                    refine wpQuiet_nil ?_
                    intro w8 hC8
                    have hb8 := hC8.bel
                    clear hC8 HX HCE
                    have R8 := R6.on hb8
                    have c18 : w8.cell? ⟨p, 1, none⟩ = some (.int .i64 (s2.place : Nat)) := R8.at.pos
                    have hb8B : Below B w w8 := hb6.trans (hb8.mono (by have := R6.lt; omega))
                    clear R6 hb8
                    go_wp2_with (go_at_call 123; refine (fail_rd B p 5 s2.place _ R8.blk rfl hlow).mono ?_; rintro e w9 ⟨rfl, hw9, hb9⟩)
                    try rw [jumps_ret]
                    go_ret
                    rw [unhide HE']
                    exact ⟨hb8B.trans hb9, rfl, hw9⟩
            · have hsp := unhide HSP0
              rw [h3, if_neg (by simp : ¬ (true && (!true && !rooted)) = true)] at hsp
              clear HSP0 HTY h3
              have HSP0 := hide hsp
              clear hsp
              go_wp2_with fail
              refine (sees_any [60] ⟨#[60]⟩ rfl (by decide) p s2 _ R5.at G2.fine).mono ?_
              rintro e w6 ⟨rfl, hc6⟩
              have R6 := R5.on hc6
              have hb6 := hb5.trans (hc6.mono (by have := R5.lt; omega))
              clear R5 hc6
              rw [show [60].isPrefixOf s2.rest = s2.sees [60] from rfl]
              have hsp := unhide HSP0
              clear HSP0
              cases h4 : s2.sees [60]
              · rw [h4, Bool.false_and, if_neg (by decide)] at hsp
                have HSP0 := hide hsp
                clear hsp h4
                have hsum := G2.fine.sum
                have HX := hide (show ClsW w6 w6.drew from ⟨(Below.refl _ _).drew⟩)
                have HCE := hide (fun (u : World) (h : ClsW w6 u) => (⟨(R6.on h.bel).at.pos, (R6.on h.bel).at.txt⟩ : u.cell? ⟨p, 1, none⟩ = some (.int .i64 (s2.place : Nat)) ∧ u.cell? ⟨p, 0, none⟩ = some (.string (T (s2.pre ++ s2.rest)))))
                by_cases hr : s2.rest = []
                · have hz : (T (s2.pre ++ s2.rest)).size = s2.place := by rw [hr, List.append_nil, T_size]; rfl
                  cases rooted
                  · have i5 : decide (s2.place < (T (s2.pre ++ s2.rest)).size) = false := decide_eq_false (by omega)
                    have HE' : Hid (s.document = .error (5, s2.place)) := hide (by rw [← unhide HSP0, if_pos (.inr rfl)])
                    clear HSP0 hsum hr
                    go_wp2_with fail
                    refine wp_region_cls (ClsW w6) (by kernel_rfl) (by kernel_rfl) (unhide HX) ?_
                    repeat
                      (first
                        | go_big_quiet_skip
                        | (go_big_quiet_want
                           go_big_quiet_op
                           first
                             | go_big_quiet_on
                             | (apply Exists.intro
                                refine ⟨fun w' hC => ?_, ?_⟩
                                · (obtain ⟨k0, k1⟩ := unhide HCE _ hC; go_simp; first | done | rfl)
                                go_big_quiet_on)))
                    refine wpQuiet_nil ?_
                    intro w8 hC8
                    have hb8 := hC8.bel
                    clear hC8 HX HCE
                    have R8 := R6.on hb8
                    have c18 : w8.cell? ⟨p, 1, none⟩ = some (.int .i64 (s2.place : Nat)) := R8.at.pos
                    have hb8B : Below B w w8 := hb6.trans (hb8.mono (by have := R6.lt; omega))
                    clear R6 hb8
                    go_wp2_with (go_at_call 123; refine (fail_rd B p 5 s2.place _ R8.blk rfl hlow).mono ?_; rintro e w9 ⟨rfl, hw9, hb9⟩)
                    try rw [jumps_ret]
                    go_ret
                    rw [unhide HE']
                    exact ⟨hb8B.trans hb9, rfl, hw9⟩
                  · have i5 : decide (s2.place < (T (s2.pre ++ s2.rest)).size) = false := decide_eq_false (by omega)
                    have HE' : Hid (s.document = .ok s2) := hide (by rw [← unhide HSP0, if_neg (by rw [hr]; simp)])
                    clear HSP0 hsum hr
                    go_wp2_with fail
                    refine wp_region_cls (ClsW w6) (by kernel_rfl) (by kernel_rfl) (unhide HX) ?_
                    repeat
                      (first
                        | go_big_quiet_skip
                        | (go_big_quiet_want
                           go_big_quiet_op
                           first
                             | go_big_quiet_on
                             | (apply Exists.intro
                                refine ⟨fun w' hC => ?_, ?_⟩
                                · (obtain ⟨k0, k1⟩ := unhide HCE _ hC; go_simp; first | done | rfl)
                                go_big_quiet_on)))
                    refine wpQuiet_nil ?_
                    intro w8 hC8
                    have hb8 := hC8.bel
                    clear hC8 HX HCE
                    have R8 := R6.on hb8
                    have hb8B : Below B w w8 := hb6.trans (hb8.mono (by have := R6.lt; omega))
                    have HR8 := hide R8
                    clear R6 hb8 R8
                    go_wp2_with fail
                    try rw [jumps_ret]
                    go_ret
                    rw [unhide HE']
                    exact ⟨hb8B, rfl, _, _, _, unhide HR8⟩
                · have i5 : decide (s2.place < (T (s2.pre ++ s2.rest)).size) = true := decide_eq_true (by have := rest_pos G2.fine.ok hr; omega)
                  have HE' : Hid (s.document = .error (5, s2.place)) := hide (by rw [← unhide HSP0, if_pos (.inl hr)])
                  clear HSP0 hsum hr
                  go_wp2_with fail
                  refine wp_region_cls (ClsW w6) (by kernel_rfl) (by kernel_rfl) (unhide HX) ?_
                  repeat
                    (first
                      | go_big_quiet_skip
                      | (go_big_quiet_want
                         go_big_quiet_op
                         first
                           | go_big_quiet_on
                           | (apply Exists.intro
                              refine ⟨fun w' hC => ?_, ?_⟩
                              · (obtain ⟨k0, k1⟩ := unhide HCE _ hC; go_simp; first | done | rfl)
                              go_big_quiet_on)))
                  refine wpQuiet_nil ?_
                  intro w8 hC8
                  have hb8 := hC8.bel
                  clear hC8 HX HCE
                  have R8 := R6.on hb8
                  have c18 : w8.cell? ⟨p, 1, none⟩ = some (.int .i64 (s2.place : Nat)) := R8.at.pos
                  have hb8B : Below B w w8 := hb6.trans (hb8.mono (by have := R6.lt; omega))
                  clear R6 hb8
                  go_wp2_with (go_at_call 123; refine (fail_rd B p 5 s2.place _ R8.blk rfl hlow).mono ?_; rintro e w9 ⟨rfl, hw9, hb9⟩)
                  try rw [jumps_ret]
                  go_ret
                  rw [unhide HE']
                  exact ⟨hb8B.trans hb9, rfl, hw9⟩
              · cases rooted
                · rw [h4, Bool.not_false, Bool.true_and, if_pos rfl] at hsp
                  have HSP0 := hide hsp
                  have H4 := hide h4
                  clear hsp h4
                  have HL : Hid (∀ s', docElem s2 = .ok s' → Less s1 s') := hide (fun s' hs' => by
                    unfold docElem at hs'
                    cases hst : s2.startTag with
                    | error x => rw [hst] at hs'; cases hs'
                    | ok s5 =>
                      rw [hst] at hs'
                      obtain ⟨k1, k2, k3, k4⟩ := start_less G2 O2 N2 (unhide H4) hst
                      obtain ⟨j1, j2⟩ := content_ok _ s5 s' k2 k3 k4 hs'
                      exact ⟨by omega, j2⟩)
                  go_wp2_with fail
                  refine (startTag_any B p m _ _ _ s2 _ R6 G2 O2 (hE.low hb6) N2 (unhide H4)).mono ?_
                  intro e w7 ho
                  obtain ⟨b, rfl, ho⟩ := outP_form ho
                  cases hst : s2.startTag with
                  | error x =>
                    rw [hst] at ho
                    have ho' : outP (docElem s2) B p m (.returned (.bool b)) w6 w7 := by
                      unfold docElem
                      rw [hst]
                      exact ho
                    obtain ⟨n', hn', hC⟩ := doc_next hf (unhide HSP0) (fun s' hs' => ⟨unhide HL s' hs', fun _ h => (by cases h)⟩) hb6 ho'
                    obtain ⟨_, hb', _⟩ := ho
                    cases hb'
                    have HCI := hide hC
                    clear hC ho'
                    go_wp2_with fail
                    go_step3
                    exact ⟨rfl, n', hn', doc_goto rfl rfl rfl rfl rfl rfl (unhide HCI)⟩
                  | ok s5 =>
                    rw [hst] at ho
                    obtain ⟨hb7, hb', vo5, vt5, vr5, R7⟩ := ho
                    cases hb'
                    obtain ⟨k1, G5, O5, N5⟩ := start_less G2 O2 N2 (unhide H4) hst
                    have HOE : Hid (docElem s2 = RS.content (s5.rest.length + 1) s5) := hide (by unfold docElem; rw [hst])
                    clear hst
                    go_wp2_with fail
                    refine (content_any B p m _ _ _ s5 _ R7 G5 O5 (hE.low (hb6.trans hb7)) N5).mono ?_
                    intro e w8 ho
                    obtain ⟨b, rfl, ho⟩ := outP_form ho
                    obtain ⟨n', hn', hC⟩ := doc_next hf (unhide HSP0) (fun s' hs' => ⟨unhide HL s' hs', fun _ h => (by cases h)⟩) hb6 (by rw [unhide HOE]; exact outP_low hb7 ho)
                    have HCI := hide hC
                    clear hC ho
                    go_wp2_with fail
                    go_step3
                    exact ⟨rfl, n', hn', doc_goto rfl rfl rfl rfl rfl rfl (unhide HCI)⟩
                · rw [h4, Bool.not_true, Bool.and_false, if_neg (by decide)] at hsp
                  have HSP0 := hide hsp
                  clear hsp h4
                  have hsum := G2.fine.sum
                  have HX := hide (show ClsW w6 w6.drew from ⟨(Below.refl _ _).drew⟩)
                  have HCE := hide (fun (u : World) (h : ClsW w6 u) => (⟨(R6.on h.bel).at.pos, (R6.on h.bel).at.txt⟩ : u.cell? ⟨p, 1, none⟩ = some (.int .i64 (s2.place : Nat)) ∧ u.cell? ⟨p, 0, none⟩ = some (.string (T (s2.pre ++ s2.rest)))))
                  by_cases hr : s2.rest = []
                  · have hz : (T (s2.pre ++ s2.rest)).size = s2.place := by rw [hr, List.append_nil, T_size]; rfl
                    have i5 : decide (s2.place < (T (s2.pre ++ s2.rest)).size) = false := decide_eq_false (by omega)
                    have HE' : Hid (s.document = .ok s2) := hide (by rw [← unhide HSP0, if_neg (by rw [hr]; simp)])
                    clear HSP0 hsum hr
                    go_wp2_with fail
                    refine wp_region_cls (ClsW w6) (by kernel_rfl) (by kernel_rfl) (unhide HX) ?_
                    repeat
                      (first
                        | go_big_quiet_skip
                        | (go_big_quiet_want
                           go_big_quiet_op
                           first
                             | go_big_quiet_on
                             | (apply Exists.intro
                                refine ⟨fun w' hC => ?_, ?_⟩
                                · (obtain ⟨k0, k1⟩ := unhide HCE _ hC; go_simp; first | done | rfl)
                                go_big_quiet_on)))
                    refine wpQuiet_nil ?_
                    intro w8 hC8
                    have hb8 := hC8.bel
                    clear hC8 HX HCE
                    have R8 := R6.on hb8
                    have hb8B : Below B w w8 := hb6.trans (hb8.mono (by have := R6.lt; omega))
                    have HR8 := hide R8
                    clear R6 hb8 R8
                    go_wp2_with fail
                    try rw [jumps_ret]
                    go_ret
                    rw [unhide HE']
                    exact ⟨hb8B, rfl, _, _, _, unhide HR8⟩
                  · have i5 : decide (s2.place < (T (s2.pre ++ s2.rest)).size) = true := decide_eq_true (by have := rest_pos G2.fine.ok hr; omega)
                    have HE' : Hid (s.document = .error (5, s2.place)) := hide (by rw [← unhide HSP0, if_pos (.inl hr)])
                    clear HSP0 hsum hr
                    go_wp2_with fail
                    refine wp_region_cls (ClsW w6) (by kernel_rfl) (by kernel_rfl) (unhide HX) ?_
                    repeat
                      (first
                        | go_big_quiet_skip
                        | (go_big_quiet_want
                           go_big_quiet_op
                           first
                             | go_big_quiet_on
                             | (apply Exists.intro
                                refine ⟨fun w' hC => ?_, ?_⟩
                                · (obtain ⟨k0, k1⟩ := unhide HCE _ hC; go_simp; first | done | rfl)
                                go_big_quiet_on)))
                    refine wpQuiet_nil ?_
                    intro w8 hC8
                    have hb8 := hC8.bel
                    clear hC8 HX HCE
                    have R8 := R6.on hb8
                    have c18 : w8.cell? ⟨p, 1, none⟩ = some (.int .i64 (s2.place : Nat)) := R8.at.pos
                    have hb8B : Below B w w8 := hb6.trans (hb8.mono (by have := R6.lt; omega))
                    clear R6 hb8
                    go_wp2_with (go_at_call 123; refine (fail_rd B p 5 s2.place _ R8.blk rfl hlow).mono ?_; rintro e w9 ⟨rfl, hw9, hb9⟩)
                    try rw [jumps_ret]
                    go_ret
                    rw [unhide HE']
                    exact ⟨hb8B.trans hb9, rfl, hw9⟩
        · rw [h2, if_pos rfl] at hsp
          have HL : Hid (∀ s', s2.tellInstruction = .ok s' → Less s1 s' ∧ (typed = false → rooted = false → s'.ents = [])) := hide (fun s' hs' => ⟨less_of hln (instruction_less G2 O2 N2 h2 hs'), fun a b => (instr_ents G2 hs').trans (unhide HTY a b)⟩)
          have HSP := hide hsp
          have H1 := hide h2
          clear hsp h2 HTY
          go_wp2_with fail
          refine (tellInstruction_any B p m _ _ _ s2 _ R4 G2 (hE.low hb4) (unhide H1)).mono ?_
          intro e w9 ho
          obtain ⟨b, rfl, ho⟩ := outP_form ho
          obtain ⟨n', hn', hC⟩ := doc_next hf (unhide HSP) (unhide HL) hb4 ho
          have HCI := hide hC
          clear hC ho
          go_wp2_with fail
          go_step3
          exact ⟨rfl, n', hn', doc_goto rfl rfl rfl rfl rfl rfl (unhide HCI)⟩
      · rw [h1, if_pos rfl] at hsp
        have HL : Hid (∀ s', s2.tellComment = .ok s' → Less s1 s' ∧ (typed = false → rooted = false → s'.ents = [])) := hide (fun s' hs' => ⟨less_of hln (comment_less G2 O2 N2 h1 hs'), fun a b => (com_ents G2 hs').trans (unhide HTY a b)⟩)
        have HSP := hide hsp
        have H1 := hide h1
        clear hsp h1 HTY
        go_wp2_with fail
        refine (tellComment_any B p m _ _ _ s2 _ R3 G2 (hE.low hb3) (unhide H1)).mono ?_
        intro e w9 ho
        obtain ⟨b, rfl, ho⟩ := outP_form ho
        obtain ⟨n', hn', hC⟩ := doc_next hf (unhide HSP) (unhide HL) hb3 ho
        have HCI := hide hC
        clear hC ho
        go_wp2_with fail
        go_step3
        exact ⟨rfl, n', hn', doc_goto rfl rfl rfl rfl rfl rfl (unhide HCI)⟩
  · intro HR1
    have HR := hide HR1
    clear HR1
    have HI0 : Hid (∀ W, Below w.heap.size w W → RS.docGo (s.rest.length + 1) false false s = s.document → DocInv (s.document) B p m w true false false (s.rest.length + 1) W) := hide (fun W hW he => ⟨hW.mono (by omega), s, vo, vt, vr, R.on hW, hG, hO, hN, rfl, s.rest.length + 1, by omega, he, fun _ _ => hN0⟩)
    have c0 : w.cell? ⟨p, 0, none⟩ = some (.string (T s.rest)) := by
      have := R.at.txt
      rw [hpre, List.nil_append] at this
      exact this
    have hok : okL s.rest := by
      have := hG.fine.ok
      rw [hpre, List.nil_append] at this
      exact this
    have hod := okL_drop hok 2
    have HP := hide hpre
    clear hpre
    cases hp : [60, 63].isPrefixOf s.rest
    · have HQ : Hid (RS.docGo (s.rest.length + 1) false false s = s.document) := hide (by unfold RS.document; rw [hp]; rfl)
      go_wp2_with fail
      refine (cutPrefix_T [60, 63] ⟨#[60, 63]⟩ rfl (by decide) s.rest hok _).mono ?_
      rintro e w1 ⟨rfl, rfl⟩
      rw [hp, if_neg (by decide)]
      go_wp2_with fail
      go_step3
      rename_i hK
      exact hK _ _ (unhide HR (s.rest.length + 1) _ _ (doc_goto rfl rfl rfl rfl rfl rfl (unhide HI0 _ (Below.refl _ _) (unhide HQ))))
    · have hne : ((T (nameA (s.rest.drop 2))).toList == [120, 109, 108]) = (nameA (s.rest.drop 2) == [120, 109, 108]) := five_T (a := [120, 109, 108]) (okL_pre hod (nameA_pre _)) (by decide) (by decide +kernel)
      cases hx : nameA (s.rest.drop 2) == [120, 109, 108]
      · rw [hx] at hne
        have HQ : Hid (RS.docGo (s.rest.length + 1) false false s = s.document) := hide (by unfold RS.document; rw [hp, hx]; rfl)
        clear hx
        go_wp2_with fail
        refine (cutPrefix_T [60, 63] ⟨#[60, 63]⟩ rfl (by decide) s.rest hok _).mono ?_
        rintro e w1 ⟨rfl, rfl⟩
        rw [hp, if_pos rfl]
        go_wp2_with fail
        refine (xNameAhead_any (s.rest.drop 2) _ hod).mono ?_
        rintro e w2 ⟨rfl, hb2⟩
        go_wp2_with fail
        go_step3
        rename_i hK
        exact hK _ _ (unhide HR (s.rest.length + 1) _ _ (doc_goto rfl rfl rfl rfl rfl rfl (unhide HI0 _ hb2 (unhide HQ))))
      · rw [hx] at hne
        have HQ : Hid (s.document = match declX s with | .error e => .error e | .ok s1 => RS.docGo (s1.rest.length + 1) false false s1) := hide (by unfold RS.document declX; rw [hp, hx]; cases s.settings <;> rfl)
        have HPL := hide (decl_place (unhide HP) hp (by simpa using hx))
        clear hx
        go_wp2_with fail
        refine (cutPrefix_T [60, 63] ⟨#[60, 63]⟩ rfl (by decide) s.rest hok _).mono ?_
        rintro e w1 ⟨rfl, rfl⟩
        rw [hp, if_pos rfl]
        go_wp2_with fail
        refine (xNameAhead_any (s.rest.drop 2) _ hod).mono ?_
        rintro e w2 ⟨rfl, hb2⟩
        have hb2B : Below B w1 w2 := hb2.mono (by omega)
        go_wp2_with fail
        refine (declaration_any B p m vo vt vr s _ (R.on hb2) hG (hE.low hb2B) (unhide HPL)).mono ?_
        intro e w3 ho
        obtain ⟨b, rfl, ho⟩ := outP_form ho
        obtain ⟨n', hC⟩ := decl_start hG hO hN0 (unhide HQ) hb2B ho
        have HCI := hide hC
        clear hC ho
        go_wp2_with fail
        go_step3
        rename_i hK
        exact hK _ _ (unhide HR n' _ _ (doc_goto rfl rfl rfl rfl rfl rfl (unhide HCI)))
end Go.Proofs.YtjjggncbhenffaaGreatDoor
