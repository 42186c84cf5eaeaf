/- End tags: xmlscan's endTag. -/
import Derived.Test.YtkklapoceknbcaaGreatDoorXmlEnd
namespace Go.Proofs.YtkklapoceknbcaaGreatDoor
open Go.RowKit
/-- The names that are open are texts, and not too many. -/
def OpnOk (s : RS) : Prop := (∀ x ∈ s.opn, okL x ∧ (T x).size ≤ 32768) ∧ s.opn.length ≤ 32
theorem T_ne {a b : List Nat} (ha : okL a) (hb : okL b) (h : a ≠ b) : ((T a).toList == (T b).toList) = false := by
  rw [T_toList b, eq_T ha hb]
  simpa using h
theorem endTag_eq (s : RS) : s.endTag = if s.opn.getLast? = some (qnameA (s.take [60, 47]).rest) ∧ heads 62 (s.take [60, 47]).qname.blanks.rest = true then { (s.take [60, 47]).qname.blanks.adv 1 with opn := s.opn.dropLast }.tell ⟨7, qnameA (s.take [60, 47]).rest, [], []⟩ s.place else .error (5, s.place) := rfl
theorem opn_last {w : World} {B : Nat} {vo : Value} {l : List (List Nat)} (h : w.ownsRow B 9 1 vo l.length (opnRow l)) {x : List Nat} (hx : l.getLast? = some x) : ∃ g c, vo = .slice (some ⟨g, 0, none⟩) l.length c ∧ w.cell? ⟨g, l.length - 1, none⟩ = some (.string (T x)) ∧ l.length ≤ c := by
  rcases h.2 with ⟨_, h0⟩ | ⟨g, cap, cur, rfl, h2, h3, h4⟩
  · rw [List.length_eq_zero_iff.1 h0] at hx
    cases hx
  · refine ⟨g, cap, rfl, ?_, h4.1⟩
    have hl : 0 < l.length := by
      cases l with
      | nil => cases hx
      | cons _ _ => simp
    have hc := h.cellAt (l.length - 1) (by omega)
    rw [hc]
    unfold opnRow
    rw [List.getElem?_map, ← List.getLast?_eq_getElem?, hx]
    rfl
set_option maxRecDepth 100000 in
set_option maxHeartbeats 2000000 in
theorem endTag_any (B p m : Nat) (vo vt vr : Value) (s : RS) (w : World) (R : Rd w B p m vo vt vr s) (hG : Good s) (hO : OpnOk s) (hne : s.opn ≠ []) (hs : s.sees [60, 47] = true) :
    Calls Tryz.prog 79 #[.pointer (some ⟨p, 0, none⟩)] w fun e w' => outP s.endTag B p m e w w' := by
  have hlow := R.low
  have hlt := R.lt
  have HD := hide (endTag_eq s)
  rw [take_adv hs] at HD
  have c1 : w.cell? ⟨p, 1, none⟩ = some (.int .i64 (s.place : Nat)) := R.at.pos
  have G1 := hG.adv 2
  obtain ⟨x, hx⟩ : ∃ x, s.opn.getLast? = some x := by
    cases h : s.opn.getLast? with
    | none => exact absurd (List.getLast?_eq_none_iff.1 h) hne
    | some x => exact ⟨x, rfl⟩
  have hox := hO.1 x (List.mem_of_getLast? hx)
  have hl1 : 1 ≤ s.opn.length := by
    cases hh : s.opn with
    | nil => exact absurd hh hne
    | cons _ _ => simp
  have hl2 := hO.2
  go_enter Tryz.func79, Tryz.ntmps79
  go_wp2_with fail
  refine (take_yes [60, 47] ⟨#[60, 47]⟩ rfl (by decide) p s _ R.at hG.fine hs).mono ?_
  rintro e w1 ⟨rfl, hm1⟩
  have hs1 : Hid (([60, 47] : List Nat).length = 2) := hide rfl
  rw [unhide hs1] at hm1 HD
  have R1 := R.moved hm1 (Adv.by s 2)
  have hb1 := hm1.low hlow (by omega)
  have ho1 : (s.adv 2).opn = s.opn := rfl
  generalize hg : s.adv 2 = s1 at *
  clear hg
  go_wp2_with fail
  refine (qname_any p s1 _ R1.at G1.fine).mono ?_
  rintro e w2 ⟨rfl, hm2⟩
  have R2 := R1.moved hm2 (Adv.qname s1)
  have G2 := G1.to (Adv.qname s1)
  have hb2 := hb1.trans (hm2.low hlow (by have := R1.lt; omega))
  have hoq := okL_pre G1.fine.okR (qnameA_pre s1.rest)
  have ho2 : s1.qname.opn = s.opn := ho1
  have hd := unhide HD
  clear HD
  generalize qnameA s1.rest = q at *
  generalize hg : s1.qname = s2 at *
  clear hg
  go_wp2_with fail
  refine (blanks_any p s2 _ R2.at G2.fine).mono ?_
  rintro e w3 ⟨rfl, hm3⟩
  have R3 := R2.moved hm3 (Adv.blanks s2)
  have G3 := G2.to (Adv.blanks s2)
  have hb3 := hb2.trans (hm3.low hlow (by have := R2.lt; omega))
  have ho3 : s2.blanks.opn = s.opn := ho2
  generalize hg : s2.blanks = s3 at *
  clear hg
  have hro := R3.opn
  rw [ho3] at hro
  obtain ⟨g, c, rfl, hcl, hlc⟩ := opn_last hro hx
  have c4 : w3.cell? ⟨p, 4, none⟩ = some (.slice (some ⟨g, 0, none⟩) s.opn.length c) := blk_cell R3.blk 4
  have HR3 := hide R3
  have i1 : (0 : Int) ≤ (s.opn.length : Int) - 1 := by omega
  have i2 : (s.opn.length : Int) - 1 < (s.opn.length : Int) := by omega
  have i3 : ((s.opn.length : Int) - 1).toNat = s.opn.length - 1 := by omega
  have HO3 := hide ho3
  have hx' := hx
  clear ho3 ho2 ho1 hro hm3 hm2 hm1
  by_cases hqx : q = x
  · subst hqx
    have hcmp : ((T q).toList == (T q).toList) = true := by simp
    cases hh : heads 62 s3.rest
    · rw [hh] at hd
      have HEQ : Hid (s.endTag = .error (5, s.place)) := hide (by rw [hd, if_neg (fun h => by cases h.2)])
      have HH := hide hh
      clear hd hh hx hx'
      go_wp2_with (first
        | (go_at_call 75; refine (take_no [62] ⟨#[62]⟩ rfl (by decide) p s3 _ (unhide HR3).at G3.fine (by rw [isPre_one]; exact unhide HH)).mono ?_; rintro e w4 ⟨rfl, hb4⟩; have R4 := (unhide HR3).on hb4)
        | (go_at_call 44; refine (fail_rd B p 5 s.place _ R4.blk rfl hlow).mono ?_; rintro e w5 ⟨rfl, hw5, hb5⟩))
      go_ret
      rw [unhide HEQ]
      exact ⟨(hb3.trans (hb4.mono (by have := (unhide HR3).lt; omega))).trans hb5, rfl, hw5⟩
    · rw [hh] at hd
      have HEQ := hide (hd.trans (if_pos ⟨hx, rfl⟩))
      have HH := hide hh
      clear hd hh hx hx'
      go_wp2_with fail
      refine (take_yes [62] ⟨#[62]⟩ rfl (by decide) p s3 _ (unhide HR3).at G3.fine (by rw [isPre_one]; exact unhide HH)).mono ?_
      rintro e w4 ⟨rfl, hm4⟩
      have R4 := (unhide HR3).moved hm4 (Adv.by s3 1)
      have G4 := G3.adv 1
      have hb4 := hb3.trans (hm4.low hlow (by have := (unhide HR3).lt; omega))
      have ho4 : (s3.adv 1).opn = s.opn := unhide HO3
      generalize hg : s3.adv 1 = s4 at *
      clear hg
      have c4' : w4.cell? ⟨p, 4, none⟩ = some (.slice (some ⟨g, 0, none⟩) s.opn.length c) := blk_cell R4.blk 4
      have o4' : w4.frozen? ⟨p, 4, none⟩ = false := blk_open R4.blk 4
      have RC := R4.closed
      rw [ho4] at RC
      have GC : Good { s4 with opn := s.opn.dropLast } := ⟨⟨G4.fine.ok, G4.fine.le⟩, G4.n1, G4.n2, G4.okr, G4.rl, G4.sp⟩
      have hBC : Below B w (w4.setCell ⟨p, 4, none⟩ (.slice (some ⟨g, 0, none⟩) (s.opn.length - 1) c)) := hb4.setCell hlow _
      have hzC : B ≤ (w4.setCell ⟨p, 4, none⟩ (.slice (some ⟨g, 0, none⟩) (s.opn.length - 1) c)).heap.size := by rw [blk_size]; have := R4.lt; omega
      have HT : Hid (Calls Tryz.prog 73 #[.pointer (some ⟨p, 0, none⟩), .agg #[.int .i64 7, .string (T q), .slice none 0 0, .string ⟨#[]⟩], .int .i64 (s.place : Nat)] (w4.setCell ⟨p, 4, none⟩ (.slice (some ⟨g, 0, none⟩) (s.opn.length - 1) c)) fun e w' => outP ({ s4 with opn := s.opn.dropLast }.tell ⟨7, q, [], []⟩ s.place) B p m e (w4.setCell ⟨p, 4, none⟩ (.slice (some ⟨g, 0, none⟩) (s.opn.length - 1) c)) w') :=
        hide (tell_any B p m _ _ _ (.slice none 0 0) _ ⟨7, q, [], []⟩ s.place _ RC (World.ownsRow_nil _ _ _ _) GC.flush GC.pos hzC)
      clear RC R4 ho4
      go_wp2_with (go_at_call 73; refine (unhide HT).mono ?_; intro e w6 ho; obtain ⟨b, rfl, ho⟩ := outP_form ho)
      go_ret
      rw [unhide HEQ]
      exact outP_low hBC ho
  · have hcmp := T_ne hoq hox.1 hqx
    have HEQ : Hid (s.endTag = .error (5, s.place)) := hide (by rw [hd, if_neg]; rintro ⟨h1, _⟩; rw [hx] at h1; cases h1; exact hqx rfl)
    clear hd hx hx' hqx
    go_wp2_with (go_at_call 44; refine (fail_rd B p 5 s.place _ (unhide HR3).blk rfl hlow).mono ?_; rintro e w5 ⟨rfl, hw5, hb5⟩)
    go_ret
    rw [unhide HEQ]
    exact ⟨hb3.trans hb5, rfl, hw5⟩
end Go.Proofs.YtkklapoceknbcaaGreatDoor
