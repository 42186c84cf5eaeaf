/- Several texts, laid as one. -/
import Derived.Test.YtefjfjieoiegnaaGreatDoorGau
import Derived.Test.YtefjfjieoiegnaaGreatDoorGam
import Derived.Test.YtefjfjieoiegnaaGreatDoorGai
import Derived.Shelf.Strings.SlTrimAscii
import Derived.Test.YtefjfjieoiegnaaGreatDoorGat
import Derived.Test.YtefjfjieoiegnaaGreatDoorGal
/- The document type: xmlscan's doctype. -/
namespace Go.Proofs.YtefjfjieoiegnaaGreatDoor
open Go.RowKit
/-- The declarations, where a [ begins them. -/
def typeMid (s : RS) : Except Er RS := if heads 91 s.rest then RS.declGo ((s.adv 1).rest.length + 1) (s.adv 1) else .ok s
theorem doctype_eq (s : RS) : s.doctype = if !(s.take [60, 33, 68, 79, 67, 84, 89, 80, 69]).blank || (qnameA (s.take [60, 33, 68, 79, 67, 84, 89, 80, 69]).blanks.rest).isEmpty then .error (5, s.place) else
    match typeMid (s.take [60, 33, 68, 79, 67, 84, 89, 80, 69]).blanks.qname.blanks with
    | .error e => .error e
    | .ok s3 => if heads 62 s3.blanks.rest then .ok (s3.blanks.adv 1) else .error (5, s.place) := rfl
theorem typeMid_ok {s s' : RS} (hG : Good s) (hN : EOk s.ents) (h : typeMid s = .ok s') : s'.rest.length ≤ s.rest.length ∧ Good s' ∧ EOk s'.ents ∧ s'.opn = s.opn := by
  unfold typeMid at h
  split at h
  · obtain ⟨k1, k2, k3, k4⟩ := declGo_ok _ _ _ (hG.adv 1) (show EOk (s.adv 1).ents from hN) h
    have hl := (Adv.by s 1).len
    exact ⟨by omega, k2, k3, k4⟩
  · cases h
    exact ⟨Nat.le_refl _, hG, hN, rfl⟩
theorem doctype_less {s s' : RS} (hG : Good s) (hO : OpnOk s) (hN : EOk s.ents) (hs : s.sees [60, 33, 68, 79, 67, 84, 89, 80, 69] = true) (h : s.doctype = .ok s') : Less s s' := by
  rw [doctype_eq, take_adv hs] at h
  split at h
  · cases h
  · split at h
    · cases h
    · rename_i s3 h3
      split at h
      · cases h
        have ha : Adv (s.adv 9) (s.adv 9).blanks.qname.blanks := ((Adv.blanks _).then (Adv.qname _)).then (Adv.blanks _)
        have ha' := (Adv.by s 9).then ha
        obtain ⟨k1, k2, k3, k4⟩ := typeMid_ok (hG.to ha') (EOk.of ha'.same.1 hN) h3
        have hl := ha.len
        have hl2 := sees_len 9 rfl hs
        have hb : Adv s3 (s3.blanks.adv 1) := (Adv.blanks s3).then (Adv.by _ 1)
        have hl3 := hb.len
        exact ⟨by omega, k2.to hb, hO.to (hb.same.2.1.trans (k4.trans ha'.same.2.1)), EOk.of hb.same.1 k3⟩
      · cases h
set_option maxRecDepth 100000 in
set_option maxHeartbeats 4000000 in
theorem doctype_any (B p m : Nat) (vo vt vr : Value) (s : RS) (w : World) (R : Rd w B p m vo vt vr s) (hG : Good s) (hE : XEnv B w) (hN : EOk s.ents) (hle : s.ents.length + s.rest.length ≤ 40000) (hs : s.sees [60, 33, 68, 79, 67, 84, 89, 80, 69] = true) :
    Calls Tryz.prog 60 #[.pointer (some ⟨p, 0, none⟩)] w fun e w' => outP s.doctype B p m e w w' := by
  have hlow := R.low
  have hlt := R.lt
  have c1 : w.cell? ⟨p, 1, none⟩ = some (.int .i64 (s.place : Nat)) := R.at.pos
  have hd := doctype_eq s
  rw [take_adv hs] at hd
  have HD : Hid (s.doctype = if !(s.adv 9).blank || (qnameA (s.adv 9).blanks.rest).isEmpty then .error (5, s.place) else
    match typeMid (s.adv 9).blanks.qname.blanks with
    | .error e => .error e
    | .ok s3 => if heads 62 s3.blanks.rest then .ok (s3.blanks.adv 1) else .error (5, s.place)) := hide hd
  clear hd
  go_enter Tryz.func60, Tryz.ntmps60
  go_wp2_with fail
  refine (take_yes [60, 33, 68, 79, 67, 84, 89, 80, 69] ⟨#[60, 33, 68, 79, 67, 84, 89, 80, 69]⟩ rfl (by decide) p s _ R.at hG.fine hs).mono ?_
  rintro e w1 ⟨rfl, hm1⟩
  have R1 := R.moved hm1 (Adv.by s 9)
  have G1 := hG.adv 9
  have hb1 := hm1.low hlow (show B ≤ w.heap.size by omega)
  have ha1 := Adv.by s 9
  generalize hg1 : s.adv 9 = s1 at *
  clear hg1 hm1
  go_wp2_with fail
  refine (blanks_any p s1 _ R1.at G1.fine).mono ?_
  rintro e w2 ⟨rfl, hm2⟩
  have R2 := R1.moved hm2 (Adv.blanks s1)
  have G2 := G1.to (Adv.blanks s1)
  have hb2 := hb1.trans (hm2.low hlow (by have := R1.lt; omega))
  have ha2 := ha1.then (Adv.blanks s1)
  cases hbl : s1.blank
  · have HEQ : Hid (s.doctype = .error (5, s.place)) := hide (by rw [unhide HD, hbl]; rfl)
    clear HD hbl
    go_wp2_with (go_at_call 63; refine (fail_rd B p 5 s.place _ R2.blk rfl hlow).mono ?_; rintro e w9 ⟨rfl, hw9, hb9⟩)
    go_ret
    rw [unhide HEQ]
    exact ⟨hb2.trans hb9, rfl, hw9⟩
  · have hd := unhide HD
    rw [hbl, Bool.not_true, Bool.false_or] at hd
    clear HD hbl hm2
    generalize hg2 : s1.blanks = s2 at *
    clear hg2
    go_wp2_with fail
    refine (qname_any p s2 _ R2.at G2.fine).mono ?_
    rintro e w3 ⟨rfl, hm3⟩
    have R3 := R2.moved hm3 (Adv.qname s2)
    have G3 := G2.to (Adv.qname s2)
    have hb3 := hb2.trans (hm3.low hlow (by have := R2.lt; omega))
    have ha3 := ha2.then (Adv.qname s2)
    have hon := okL_pre G2.fine.okR (qnameA_pre s2.rest)
    have hsn := size_pre (qnameA_pre s2.rest)
    have hz2 := G2.fine.lt
    clear hm3
    generalize hgn : qnameA s2.rest = n at *
    generalize hg3 : s2.qname = s3 at *
    clear hgn hg3
    by_cases hn0 : n = []
    · have e1 := nil_T hn0
      have HEQ : Hid (s.doctype = .error (5, s.place)) := hide (by rw [hd, hn0]; rfl)
      clear hd hn0
      go_wp2_with (go_at_call 63; refine (fail_rd B p 5 s.place _ R3.blk rfl hlow).mono ?_; rintro e w9 ⟨rfl, hw9, hb9⟩)
      go_ret
      rw [unhide HEQ]
      exact ⟨hb3.trans hb9, rfl, hw9⟩
    · have e1 := ne_T hon hn0
      have hne : n.isEmpty = false := by cases n with | nil => exact absurd rfl hn0 | cons _ _ => rfl
      rw [hne, if_neg (by decide)] at hd
      have HD := hide hd
      clear hn0 hd hne
      go_wp2_with fail
      refine (blanks_any p s3 _ R3.at G3.fine).mono ?_
      rintro e w4 ⟨rfl, hm4⟩
      have R4 := R3.moved hm4 (Adv.blanks s3)
      have G4 := G3.to (Adv.blanks s3)
      have hb4 := hb3.trans (hm4.low hlow (by have := R3.lt; omega))
      have ha4 := ha3.then (Adv.blanks s3)
      have hd := unhide HD
      clear HD hm4
      generalize hg4 : s3.blanks = s4 at *
      clear hg4
      have N4 : EOk s4.ents := EOk.of ha4.same.1 hN
      have hle4 : s4.ents.length + s4.rest.length ≤ 40000 := by
        have := ha4.len
        rw [ha4.same.1]
        omega
      have HD := hide hd
      clear hd
      go_wp2_with fail
      cases h91 : heads 91 s4.rest
      · have ht : typeMid s4 = .ok s4 := by unfold typeMid; rw [h91]; rfl
        refine (take_no [91] ⟨#[91]⟩ rfl (by decide) p s4 _ R4.at G4.fine (by rw [isPre_one]; exact h91)).mono ?_
        rintro e w5 ⟨rfl, hc5⟩
        have R5 := R4.on hc5
        have hb5 := hb4.trans (hc5.mono (by have := R4.lt; omega))
        have hd := unhide HD
        rw [ht] at hd
        simp only at hd
        have HD1 := hide hd
        clear hd HD ht h91 R4 hc5
        go_wp2_with fail
        refine (blanks_any p s4 _ R5.at G4.fine).mono ?_
        rintro e w6 ⟨rfl, hm6⟩
        have R6 := R5.moved hm6 (Adv.blanks s4)
        have G6 := G4.to (Adv.blanks s4)
        have hb6 := hb5.trans (hm6.low hlow (by have := R5.lt; omega))
        have hd := unhide HD1
        clear HD1 hm6
        generalize hg6 : s4.blanks = s6 at *
        clear hg6
        go_wp2_with fail
        cases h62 : heads 62 s6.rest
        · have HEQ : Hid (s.doctype = .error (5, s.place)) := hide (by rw [hd, h62]; rfl)
          refine (take_no [62] ⟨#[62]⟩ rfl (by decide) p s6 _ R6.at G6.fine (by rw [isPre_one]; exact h62)).mono ?_
          rintro e w7 ⟨rfl, hb7⟩
          have R7 := R6.on hb7
          have hb07 := hb6.trans (hb7.mono (by have := R6.lt; omega))
          clear hd h62
          go_wp2_with (go_at_call 63; refine (fail_rd B p 5 s.place _ R7.blk rfl hlow).mono ?_; rintro e w9 ⟨rfl, hw9, hb9⟩)
          go_ret
          rw [unhide HEQ]
          exact ⟨hb07.trans hb9, rfl, hw9⟩
        · have HEQ : Hid (s.doctype = .ok (s6.adv 1)) := hide (by rw [hd, h62]; rfl)
          refine (take_yes [62] ⟨#[62]⟩ rfl (by decide) p s6 _ R6.at G6.fine (by rw [isPre_one]; exact h62)).mono ?_
          rintro e w7 ⟨rfl, hm7⟩
          have R7 := R6.moved hm7 (Adv.by s6 1)
          have hb7 := hb6.trans (hm7.low hlow (by have := R6.lt; omega))
          have HR7 := hide R7
          clear hd h62 hm7 R7
          go_wp2_with fail
          go_ret
          rw [unhide HEQ]
          exact ⟨hb7, rfl, _, _, _, unhide HR7⟩
      · have ht : typeMid s4 = RS.declGo ((s4.adv 1).rest.length + 1) (s4.adv 1) := by unfold typeMid; rw [h91]; rfl
        refine (take_yes [91] ⟨#[91]⟩ rfl (by decide) p s4 _ R4.at G4.fine (by rw [isPre_one]; exact h91)).mono ?_
        rintro e w5 ⟨rfl, hm5⟩
        have R5 := R4.moved hm5 (Adv.by s4 1)
        have G5 := G4.adv 1
        have hb5 := hb4.trans (hm5.low hlow (by have := R4.lt; omega))
        have hl5 := (Adv.by s4 1).len
        have hd := unhide HD
        rw [ht] at hd
        have HD1 := hide hd
        clear hd HD ht h91 R4 hm5
        go_wp2_with fail
        refine (declarations_any B p m vo vt vr (s4.adv 1) _ R5 G5 (hE.low hb5) N4 (show s4.ents.length + (s4.adv 1).rest.length ≤ 40000 by omega)).mono ?_
        intro e w6 ho
        cases hdg : RS.declGo ((s4.adv 1).rest.length + 1) (s4.adv 1) with
        | error x =>
          obtain ⟨c, pl⟩ := x
          rw [hdg] at ho
          obtain ⟨hb6, rfl, hw6⟩ := ho
          have HEQ : Hid (s.doctype = .error (c, pl)) := hide (by rw [unhide HD1, hdg])
          clear HD1 hdg
          go_wp2_with fail
          go_ret
          rw [unhide HEQ]
          exact ⟨hb5.trans hb6, rfl, hw6⟩
        | ok s6 =>
          rw [hdg] at ho
          obtain ⟨hb6', rfl, vo6, vt6, vr6, R6⟩ := ho
          have hb6 := hb5.trans hb6'
          obtain ⟨_, G6, _⟩ := declGo_ok _ _ _ G5 N4 hdg
          have hd := unhide HD1
          rw [hdg] at hd
          simp only at hd
          have HD2 := hide hd
          clear hd HD1 hdg R5 hb6'
          go_wp2_with fail
          refine (blanks_any p s6 _ R6.at G6.fine).mono ?_
          rintro e w7 ⟨rfl, hm7⟩
          have R7 := R6.moved hm7 (Adv.blanks s6)
          have G7 := G6.to (Adv.blanks s6)
          have hb7 := hb6.trans (hm7.low hlow (by have := R6.lt; omega))
          have hd := unhide HD2
          clear HD2 hm7
          generalize hg7 : s6.blanks = s7 at *
          clear hg7
          go_wp2_with fail
          cases h62 : heads 62 s7.rest
          · have HEQ : Hid (s.doctype = .error (5, s.place)) := hide (by rw [hd, h62]; rfl)
            refine (take_no [62] ⟨#[62]⟩ rfl (by decide) p s7 _ R7.at G7.fine (by rw [isPre_one]; exact h62)).mono ?_
            rintro e w8 ⟨rfl, hb8⟩
            have R8 := R7.on hb8
            have hb08 := hb7.trans (hb8.mono (by have := R7.lt; omega))
            clear hd h62
            go_wp2_with (go_at_call 63; refine (fail_rd B p 5 s.place _ R8.blk rfl hlow).mono ?_; rintro e w9 ⟨rfl, hw9, hb9⟩)
            go_ret
            rw [unhide HEQ]
            exact ⟨hb08.trans hb9, rfl, hw9⟩
          · have HEQ : Hid (s.doctype = .ok (s7.adv 1)) := hide (by rw [hd, h62]; rfl)
            refine (take_yes [62] ⟨#[62]⟩ rfl (by decide) p s7 _ R7.at G7.fine (by rw [isPre_one]; exact h62)).mono ?_
            rintro e w8 ⟨rfl, hm8⟩
            have R8 := R7.moved hm8 (Adv.by s7 1)
            have hb8 := hb7.trans (hm8.low hlow (by have := R7.lt; omega))
            have HR8 := hide R8
            clear hd h62 hm8 R8
            go_wp2_with fail
            go_ret
            rw [unhide HEQ]
            exact ⟨hb8, rfl, _, _, _, unhide HR8⟩
end Go.Proofs.YtefjfjieoiegnaaGreatDoor
/- What a declaration may say: xmlscan's isChoice and isVersion. -/
namespace Go.Proofs.YtefjfjieoiegnaaGreatDoor
open Go.RowKit
theorem isChoice_any (l : List Nat) (w : World) (hl : okL l) :
    Calls Tryz.prog 131 #[.string (T l)] w fun e w' => e = .returned (.bool (isChoice l)) ∧ w' = w := by
  have e1 : ((T l).toList == [121, 101, 115]) = (l == [121, 101, 115]) := five_T (a := [121, 101, 115]) hl (by decide) (by decide +kernel)
  have e2 : ((T l).toList == [110, 111]) = (l == [110, 111]) := five_T (a := [110, 111]) hl (by decide) (by decide +kernel)
  have HD : Hid (isChoice l = (l == [121, 101, 115] || l == [110, 111])) := hide rfl
  generalize (l == [121, 101, 115]) = b1 at *
  generalize (l == [110, 111]) = b2 at *
  cases b1 <;> cases b2 <;>
    (go_enter Tryz.func131, Tryz.ntmps131
     go_wp2
     go_ret
     exact ⟨by rw [unhide HD]; rfl, rfl⟩)
theorem mem_dropW {p : UInt8 → Bool} {b : UInt8} (hb : p b = false) : ∀ {l : List UInt8}, b ∈ l → b ∈ l.dropWhile p
  | [], h => h
  | c :: t, h => by
    rw [List.dropWhile_cons]
    split
    · rename_i hc
      rcases List.mem_cons.1 h with rfl | h
      · rw [hb] at hc; cases hc
      · exact mem_dropW hb h
    · exact h
theorem all_dropW {p : UInt8 → Bool} : ∀ {l : List UInt8}, (∀ b ∈ l, p b = true) → l.dropWhile p = []
  | [], _ => rfl
  | c :: t, h => by rw [List.dropWhile_cons, h c (by simp), if_pos rfl]; exact all_dropW fun b hb => h b (by simp [hb])
theorem trimS_empty (l cs : List UInt8) : (Lib.trimS l cs).isEmpty = l.all (cs.contains ·) := by
  cases ha : l.all (cs.contains ·)
  · obtain ⟨b, hb, hc⟩ : ∃ b ∈ l, cs.contains b = false := by
      have := List.all_eq_false.1 ha
      obtain ⟨b, hb, hc⟩ := this
      exact ⟨b, hb, by simpa using hc⟩
    have h1 : b ∈ Lib.trimS l cs := by
      unfold Lib.trimS Lib.trimLeftS Lib.trimRightS
      refine mem_dropW hc (List.mem_reverse.2 (mem_dropW hc (List.mem_reverse.2 hb)))
    cases he : Lib.trimS l cs with
    | nil => rw [he] at h1; cases h1
    | cons => rfl
  · have hA : ∀ b ∈ l, cs.contains b = true := fun b hb => List.all_eq_true.1 ha b hb
    unfold Lib.trimS Lib.trimLeftS Lib.trimRightS
    rw [all_dropW (l := l.reverse) (fun b hb => hA b (List.mem_reverse.1 hb))]
    rfl
theorem dig_in : ∀ c, c < 128 → ([48, 49, 50, 51, 52, 53, 54, 55, 56, 57] : List UInt8).contains (UInt8.ofNat c) = digC c := by decide +kernel
theorem dig_low : ∀ b ∈ ([48, 49, 50, 51, 52, 53, 54, 55, 56, 57] : List UInt8), b.toNat < 128 := by decide
theorem dig_rune {c : Nat} (hc : charR (c : Int) = true) : (runeB c).all (([48, 49, 50, 51, 52, 53, 54, 55, 56, 57] : List UInt8).contains ·) = digC c := by
  by_cases h : c < 128
  · rw [runeB_one h, ← dig_in c h]
    simp
  · have hd : digC c = false := by unfold digC; simp; omega
    rw [hd]
    have hp := runeB_pos hc
    cases hr : runeB c with
    | nil => rw [hr] at hp; cases hp
    | cons b t =>
      have h1 := runeB_high (charR_ok hc) (by omega) b (by rw [hr]; simp)
      have h2 : ([48, 49, 50, 51, 52, 53, 54, 55, 56, 57] : List UInt8).contains b = false := by
        cases hx : ([48, 49, 50, 51, 52, 53, 54, 55, 56, 57] : List UInt8).contains b
        · rfl
        · have := dig_low b (List.contains_iff_mem.1 hx)
          omega
      rw [List.all_cons, h2, Bool.false_and]
theorem dig_tx : ∀ (l : List Nat), okL l → (tx l).all (([48, 49, 50, 51, 52, 53, 54, 55, 56, 57] : List UInt8).contains ·) = l.all digC
  | [], _ => rfl
  | c :: t, h => by
    rw [tx_cons, List.all_append, dig_rune (h c (by simp)), dig_tx t (okL_tail h), List.all_cons]
set_option maxRecDepth 100000 in
theorem isVersion_any (l : List Nat) (w : World) (hl : okL l) (hs : (T l).size ≤ 32768) :
    Calls Tryz.prog 129 #[.string (T l)] w fun e w' => e = .returned (.bool (isVersion l)) ∧ Below w.heap.size w w' := by
  have hod := okL_drop hl 2
  have HD : Hid (isVersion l = ([49, 46].isPrefixOf l && (!(l.drop 2).isEmpty && (l.drop 2).all digC))) := hide rfl
  have hz : (T (l.drop 2)).size ≤ 32768 := by
    have e : T l = T (l.take 2) ++ T (l.drop 2) := by rw [T_app, List.take_append_drop]
    rw [e, ByteArray.size_append] at hs
    omega
  have HT := hide (fun W => Any.strings_Trim_laid Tryz.lays160 (by kernel_rfl) (T (l.drop 2)) ⟨#[48, 49, 50, 51, 52, 53, 54, 55, 56, 57]⟩ W (by omega) (by decide) (ascii_of_all (by decide)))
  go_enter Tryz.func129, Tryz.ntmps129
  cases hp : [49, 46].isPrefixOf l
  · have HEQ : Hid (isVersion l = false) := hide (by rw [unhide HD, hp]; rfl)
    go_wp2_with fail
    refine (cutPrefix_T [49, 46] ⟨#[49, 46]⟩ rfl (by decide) l hl _).mono ?_
    rintro e w1 ⟨rfl, rfl⟩
    rw [hp, if_neg (by decide)]
    clear hp HD
    go_wp2
    go_ret
    exact ⟨ret_bool (unhide HEQ).symm, Below.refl _ _⟩
  · go_wp2_with fail
    refine (cutPrefix_T [49, 46] ⟨#[49, 46]⟩ rfl (by decide) l hl _).mono ?_
    rintro e w1 ⟨rfl, rfl⟩
    have hd := unhide HD
    rw [hp, Bool.true_and] at hd
    rw [hp, if_pos rfl, show ([49, 46] : List Nat).length = 2 from rfl]
    clear hp HD
    generalize hg : l.drop 2 = m at *
    clear hg
    by_cases hm : m = []
    · have e1 := nil_T hm
      have HEQ : Hid (isVersion l = false) := hide (by rw [hd, hm]; rfl)
      clear hd hm HT
      go_wp2
      go_ret
      exact ⟨ret_bool (unhide HEQ).symm, Below.refl _ _⟩
    · have e1 := ne_T hod hm
      have hne : m.isEmpty = false := by cases m with | nil => exact absurd rfl hm | cons _ _ => rfl
      rw [hne, Bool.not_false, Bool.true_and] at hd
      have HD := hide hd
      have HM : Hid ((Lib.trimS (T m).data.toList [48, 49, 50, 51, 52, 53, 54, 55, 56, 57]).isEmpty = m.all digC) := hide (by rw [trimS_empty, T_data, dig_tx m hod])
      clear hd hm hne
      go_wp2_with fail
      refine (unhide HT _).mono ?_
      rintro e w2 ⟨rfl, hb2⟩
      have he : (⟨(Lib.trimS (T m).data.toList [48, 49, 50, 51, 52, 53, 54, 55, 56, 57]).toArray⟩ : ByteArray).toList = Lib.trimS (T m).data.toList [48, 49, 50, 51, 52, 53, 54, 55, 56, 57] := by rw [Lib.toList_data]
      cases ha : m.all digC
      · have HEQ : Hid (isVersion l = false) := hide (by rw [unhide HD, ha])
        have hx : (⟨(Lib.trimS (T m).data.toList [48, 49, 50, 51, 52, 53, 54, 55, 56, 57]).toArray⟩ : ByteArray).toList.isEmpty = false := by rw [he, unhide HM, ha]
        generalize (⟨(Lib.trimS (T m).data.toList [48, 49, 50, 51, 52, 53, 54, 55, 56, 57]).toArray⟩ : ByteArray) = X at *
        clear he ha HD HM HT
        go_wp2
        go_ret
        exact ⟨ret_bool (unhide HEQ).symm, hb2⟩
      · have HEQ : Hid (isVersion l = true) := hide (by rw [unhide HD, ha])
        have hx : (⟨(Lib.trimS (T m).data.toList [48, 49, 50, 51, 52, 53, 54, 55, 56, 57]).toArray⟩ : ByteArray).toList = [] := by rw [he]; exact List.isEmpty_iff.1 (by rw [unhide HM, ha])
        generalize (⟨(Lib.trimS (T m).data.toList [48, 49, 50, 51, 52, 53, 54, 55, 56, 57]).toArray⟩ : ByteArray) = X at *
        clear he ha HD HM HT
        go_wp2
        go_ret
        exact ⟨ret_bool (unhide HEQ).symm, hb2⟩
end Go.Proofs.YtefjfjieoiegnaaGreatDoor
/- An encoding's name: xmlscan's isEncoding. -/
namespace Go.Proofs.YtefjfjieoiegnaaGreatDoor
open Go.RowKit
def signC (c : Nat) : Bool := digC c || (c == 46 || (c == 95 || c == 45))
def encP (l : List Nat) : Bool := match l with | [] => true | c :: t => letterC c && t.all encC
theorem encP_on {p : List Nat} {c : Nat} (h : encP p = true) (he : encC c = true) (hl : p = [] → letterC c = true) : encP (p ++ [c]) = true := by
  cases p with
  | nil => show (letterC c && true) = true; rw [hl rfl]; rfl
  | cons d t =>
    have h' : (letterC d && t.all encC) = true := h
    rw [Bool.and_eq_true] at h'
    show (letterC d && (t ++ [c]).all encC) = true
    rw [List.all_append, h'.1, h'.2]
    simp [he]
theorem encP_bad {l p t : List Nat} {c : Nat} (h : l = p ++ c :: t) (hp : p ≠ []) (h1 : letterC c = false) (h2 : signC c = false) : isEncoding l = false := by
  cases p with
  | nil => exact absurd rfl hp
  | cons d u =>
    rw [h]
    show (letterC d && (u ++ c :: t).all encC) = false
    have : encC c = false := by
      unfold encC
      rw [h1, show (digC c || (c == 46 || (c == 95 || c == 45))) = false from h2]
      rfl
    rw [List.all_append, List.all_cons, this, Bool.false_and, Bool.and_false, Bool.and_false]
theorem sign_enc : ∀ c, c < 128 → decide (0 ≤ Lib.indexByte [48, 49, 50, 51, 52, 53, 54, 55, 56, 57, 46, 95, 45] (UInt8.ofNat c)) = signC c := by decide +kernel
theorem encRune_any (c : Nat) (hc : charR (c : Int) = true) (w : World) :
    Calls Tryz.prog 156 #[.string ⟨#[48, 49, 50, 51, 52, 53, 54, 55, 56, 57, 46, 95, 45]⟩, .int .i32 (c : Int)] w fun e w' => e = .returned (.bool (signC c)) ∧ Below w.heap.size w w' := by
  by_cases h : c < 128
  · refine (Tryz.strings_ContainsRune_ascii _ (c : Int) w (by omega) (by omega)).mono ?_
    rintro e w' ⟨rfl, rfl⟩
    refine ⟨?_, Below.refl _ _⟩
    rw [← sign_enc c h]
    rfl
  · have hT : (⟨#[48, 49, 50, 51, 52, 53, 54, 55, 56, 57, 46, 95, 45]⟩ : ByteArray) = T [48, 49, 50, 51, 52, 53, 54, 55, 56, 57, 46, 95, 45] := by decide +kernel
    have hs : signC c = false := by unfold signC digC; simp; omega
    have HI := hide (fun W => indexRune_high [48, 49, 50, 51, 52, 53, 54, 55, 56, 57, 46, 95, 45] (by unfold okL; decide +kernel) (by decide) (by decide) c (charR_ok hc) (by omega) W)
    rw [hs, hT]
    clear hT hs
    generalize T [48, 49, 50, 51, 52, 53, 54, 55, 56, 57, 46, 95, 45] = X at *
    go_enter Tryz.func156, Tryz.ntmps156
    go_wp2_with fail
    refine (unhide HI _).mono ?_
    rintro e w1 ⟨rfl, hb1⟩
    go_wp2
    go_ret
    exact ⟨rfl, hb1⟩
set_option maxRecDepth 100000 in
set_option maxHeartbeats 4000000 in
theorem isEncoding_any (l : List Nat) (w : World) (hl : okL l) (hs : (T l).size ≤ 32768) :
    Calls Tryz.prog 130 #[.string (T l)] w fun e w' => e = .returned (.bool (isEncoding l)) ∧ Below w.heap.size w w' := by
  go_enter Tryz.func130, Tryz.ntmps130
  go_wp2_with fail
  go_loopw [] (fun wr => ∃ p t : List Nat, l = p ++ t ∧ encP p = true ∧ wr.heap[w.heap.size]? = some (.stringIter (T l) (tx p).length) ∧ Below w.heap.size w wr) (fun wr => (T l).size - wr.iterPos w.heap.size)
  case atStart => exact ⟨[], l, rfl, rfl, World.iter_heap _ _ _, (Below.refl _ _).alloc (Nat.le_refl _) _⟩
  case round =>
    obtain ⟨p, t, hpt, hpe, hk, hbr⟩ := hrel
    cases t with
    | nil =>
      have hnx := fun ty => Lib.run_next_end_at (P := Tryz.prog) wr w.heap.size (T l) (tx p).length ty hk (end_at hpt)
      rw [List.append_nil] at hpt
      subst hpt
      by_cases hm : l = []
      · have e1 := nil_T hm
        have HF : Hid (isEncoding l = false) := hide (by rw [hm]; rfl)
        clear hk hpe hm
        go_wp2
        go_ret
        exact ⟨ret_bool (unhide HF).symm, hbr⟩
      · have e1 := ne_T hl hm
        have HF : Hid (isEncoding l = true) := hide (by cases l with | nil => exact absurd rfl hm | cons d u => exact hpe)
        clear hk hpe hm
        go_wp2
        go_ret
        exact ⟨ret_bool (unhide HF).symm, hbr⟩
    | cons c t =>
      obtain ⟨hd, hlt, hc, hpos⟩ := dec_at hpt hl
      have hc' : charR (c : Int) = true := (okL_right (hpt ▸ hl)) c (by simp)
      have hnx := fun ty => Lib.run_next_any_at (P := Tryz.prog) wr w.heap.size (T l) (tx p).length ty hk hlt
      rw [hd] at hnx
      simp only at hnx
      have HS := hide (tx_snoc p c)
      have HPT := hide hpt
      have HK := hide hk
      have hbl : w.heap.size < wr.heap.size := (Array.getElem?_eq_some_iff.1 hk).1
      have hbI : Below w.heap.size w (wr.iterAt w.heap.size (T l) ((tx p).length + (runeB c).length)) := Lib.below_iterAt hbr (by omega) _ _
      have hszI : w.heap.size ≤ (wr.iterAt w.heap.size (T l) ((tx p).length + (runeB c).length)).heap.size := by rw [Lib.iterAt_size]; omega
      have HKI : Hid ((wr.iterAt w.heap.size (T l) ((tx p).length + (runeB c).length)).heap[w.heap.size]? = some (.stringIter (T l) ((tx p).length + (runeB c).length))) := hide (Lib.iterAt_heap wr _ _ _ _ (unhide HK))
      by_cases q1 : 97 ≤ c
      · by_cases q2 : c ≤ 122
        · have d1 : decide ((97 : Int) ≤ (c : Int)) = true := by simp; omega
          have d2 : decide ((c : Int) ≤ 122) = true := by simp; omega
          have d3 : decide ((65 : Int) ≤ (c : Int)) = true := by simp; omega
          have d4 : decide ((c : Int) ≤ 90) = false := by simp; omega
          have HO : Hid (encP (p ++ [c]) = true) := hide (encP_on hpe (by unfold encC letterC; simp; omega) (fun _ => by unfold letterC; simp; omega))
          clear hd hpt hk hpe
          go_wp2_with fail
          refine ⟨⟨p ++ [c], t, by rw [unhide HPT]; simp, unhide HO, by rw [unhide HS]; exact unhide HKI, hbI⟩, ?_⟩
          rw [iterPos_of (unhide HKI), iterPos_of (unhide HK)]
          omega
        · have d1 : decide ((97 : Int) ≤ (c : Int)) = true := by simp; omega
          have d2 : decide ((c : Int) ≤ 122) = false := by simp; omega
          have d3 : decide ((65 : Int) ≤ (c : Int)) = true := by simp; omega
          have d4 : decide ((c : Int) ≤ 90) = false := by simp; omega
          have hlc : letterC c = false := by unfold letterC; simp; omega
          by_cases hp0 : p = []
          · have hz0 : (((tx p).length : Nat) : Int) = 0 := by rw [hp0]; rfl
            have HF : Hid (isEncoding l = false) := hide (by rw [hpt, hp0]; show (letterC c && _) = false; rw [hlc, Bool.false_and])
            rw [hz0] at hnx
            clear hd hpt hk hpe hp0
            go_wp2
            go_ret
            exact ⟨ret_bool (unhide HF).symm, hbI⟩
          · have hz0 : ((((tx p).length : Nat) : Int) == 0) = false := beq_eq_false_iff_ne.2 (by
              have := tx_len_zero (okL_left (hpt ▸ hl))
              intro h0
              exact hp0 (this (by omega)))
            have HCR := hide (fun W => encRune_any c hc' W)
            cases hsc : signC c
            · have HF : Hid (isEncoding l = false) := hide (encP_bad hpt hp0 hlc hsc)
              rw [hsc] at HCR
              clear hd hpt hk hpe hp0 hsc hlc
              go_wp2_with fail
              refine (unhide HCR _).mono ?_
              rintro e w2 ⟨rfl, hb2⟩
              go_wp2
              go_ret
              exact ⟨ret_bool (unhide HF).symm, hbI.trans (hb2.mono hszI)⟩
            · have HO : Hid (encP (p ++ [c]) = true) := hide (encP_on hpe (by unfold encC; rw [show (digC c || (c == 46 || (c == 95 || c == 45))) = true from hsc, Bool.or_true]) (fun h => absurd h hp0))
              rw [hsc] at HCR
              clear hd hpt hk hpe hp0 hsc hlc
              go_wp2_with fail
              refine (unhide HCR _).mono ?_
              rintro e w2 ⟨rfl, hb2⟩
              go_wp2_with fail
              have hki := block_below (unhide HKI) hb2
              refine ⟨⟨p ++ [c], t, by rw [unhide HPT]; simp, unhide HO, by rw [unhide HS]; exact hki, hbI.trans (hb2.mono hszI)⟩, ?_⟩
              rw [iterPos_of hki, iterPos_of (unhide HK)]
              omega
      · by_cases q2 : 65 ≤ c
        · by_cases q3 : c ≤ 90
          · have d1 : decide ((97 : Int) ≤ (c : Int)) = false := by simp; omega
            have d2 : decide ((c : Int) ≤ 122) = true := by simp; omega
            have d3 : decide ((65 : Int) ≤ (c : Int)) = true := by simp; omega
            have d4 : decide ((c : Int) ≤ 90) = true := by simp; omega
            have HO : Hid (encP (p ++ [c]) = true) := hide (encP_on hpe (by unfold encC letterC; simp; omega) (fun _ => by unfold letterC; simp; omega))
            clear hd hpt hk hpe
            go_wp2_with fail
            refine ⟨⟨p ++ [c], t, by rw [unhide HPT]; simp, unhide HO, by rw [unhide HS]; exact unhide HKI, hbI⟩, ?_⟩
            rw [iterPos_of (unhide HKI), iterPos_of (unhide HK)]
            omega
          · have d1 : decide ((97 : Int) ≤ (c : Int)) = false := by simp; omega
            have d2 : decide ((c : Int) ≤ 122) = true := by simp; omega
            have d3 : decide ((65 : Int) ≤ (c : Int)) = true := by simp; omega
            have d4 : decide ((c : Int) ≤ 90) = false := by simp; omega
            have hlc : letterC c = false := by unfold letterC; simp; omega
            by_cases hp0 : p = []
            · have hz0 : (((tx p).length : Nat) : Int) = 0 := by rw [hp0]; rfl
              have HF : Hid (isEncoding l = false) := hide (by rw [hpt, hp0]; show (letterC c && _) = false; rw [hlc, Bool.false_and])
              rw [hz0] at hnx
              clear hd hpt hk hpe hp0
              go_wp2
              go_ret
              exact ⟨ret_bool (unhide HF).symm, hbI⟩
            · have hz0 : ((((tx p).length : Nat) : Int) == 0) = false := beq_eq_false_iff_ne.2 (by
                have := tx_len_zero (okL_left (hpt ▸ hl))
                intro h0
                exact hp0 (this (by omega)))
              have HCR := hide (fun W => encRune_any c hc' W)
              cases hsc : signC c
              · have HF : Hid (isEncoding l = false) := hide (encP_bad hpt hp0 hlc hsc)
                rw [hsc] at HCR
                clear hd hpt hk hpe hp0 hsc hlc
                go_wp2_with fail
                refine (unhide HCR _).mono ?_
                rintro e w2 ⟨rfl, hb2⟩
                go_wp2
                go_ret
                exact ⟨ret_bool (unhide HF).symm, hbI.trans (hb2.mono hszI)⟩
              · have HO : Hid (encP (p ++ [c]) = true) := hide (encP_on hpe (by unfold encC; rw [show (digC c || (c == 46 || (c == 95 || c == 45))) = true from hsc, Bool.or_true]) (fun h => absurd h hp0))
                rw [hsc] at HCR
                clear hd hpt hk hpe hp0 hsc hlc
                go_wp2_with fail
                refine (unhide HCR _).mono ?_
                rintro e w2 ⟨rfl, hb2⟩
                go_wp2_with fail
                have hki := block_below (unhide HKI) hb2
                refine ⟨⟨p ++ [c], t, by rw [unhide HPT]; simp, unhide HO, by rw [unhide HS]; exact hki, hbI.trans (hb2.mono hszI)⟩, ?_⟩
                rw [iterPos_of hki, iterPos_of (unhide HK)]
                omega
        · have d1 : decide ((97 : Int) ≤ (c : Int)) = false := by simp; omega
          have d2 : decide ((c : Int) ≤ 122) = true := by simp; omega
          have d3 : decide ((65 : Int) ≤ (c : Int)) = false := by simp; omega
          have d4 : decide ((c : Int) ≤ 90) = true := by simp; omega
          have hlc : letterC c = false := by unfold letterC; simp; omega
          by_cases hp0 : p = []
          · have hz0 : (((tx p).length : Nat) : Int) = 0 := by rw [hp0]; rfl
            have HF : Hid (isEncoding l = false) := hide (by rw [hpt, hp0]; show (letterC c && _) = false; rw [hlc, Bool.false_and])
            rw [hz0] at hnx
            clear hd hpt hk hpe hp0
            go_wp2
            go_ret
            exact ⟨ret_bool (unhide HF).symm, hbI⟩
          · have hz0 : ((((tx p).length : Nat) : Int) == 0) = false := beq_eq_false_iff_ne.2 (by
              have := tx_len_zero (okL_left (hpt ▸ hl))
              intro h0
              exact hp0 (this (by omega)))
            have HCR := hide (fun W => encRune_any c hc' W)
            cases hsc : signC c
            · have HF : Hid (isEncoding l = false) := hide (encP_bad hpt hp0 hlc hsc)
              rw [hsc] at HCR
              clear hd hpt hk hpe hp0 hsc hlc
              go_wp2_with fail
              refine (unhide HCR _).mono ?_
              rintro e w2 ⟨rfl, hb2⟩
              go_wp2
              go_ret
              exact ⟨ret_bool (unhide HF).symm, hbI.trans (hb2.mono hszI)⟩
            · have HO : Hid (encP (p ++ [c]) = true) := hide (encP_on hpe (by unfold encC; rw [show (digC c || (c == 46 || (c == 95 || c == 45))) = true from hsc, Bool.or_true]) (fun h => absurd h hp0))
              rw [hsc] at HCR
              clear hd hpt hk hpe hp0 hsc hlc
              go_wp2_with fail
              refine (unhide HCR _).mono ?_
              rintro e w2 ⟨rfl, hb2⟩
              go_wp2_with fail
              have hki := block_below (unhide HKI) hb2
              refine ⟨⟨p ++ [c], t, by rw [unhide HPT]; simp, unhide HO, by rw [unhide HS]; exact hki, hbI.trans (hb2.mono hszI)⟩, ?_⟩
              rw [iterPos_of hki, iterPos_of (unhide HK)]
              omega
end Go.Proofs.YtefjfjieoiegnaaGreatDoor
/- A setting of the declaration, and all of them: xmlscan's setting. -/
namespace Go.Proofs.YtefjfjieoiegnaaGreatDoor
open Go.RowKit
theorem isChoice_low (l : List Nat) (w : World) (hl : okL l) :
    Calls Tryz.prog 131 #[.string (T l)] w fun e w' => e = .returned (.bool (isChoice l)) ∧ Below w.heap.size w w' :=
  (isChoice_any l w hl).mono fun _ _ h => ⟨h.1, h.2 ▸ Below.refl _ _⟩
theorem setting_eq (s : RS) (n : List Nat) (right : List Nat → Bool) : s.setting n right = if !s.sees n then none else match (s.adv n.length).equals with
  | none => none
  | some s1 => match s1.quoted with
    | none => none
    | some (v, s2) => if right v then some s2 else none := rfl
theorem setting_adv {s s' : RS} {n : List Nat} {right : List Nat → Bool} (h : s.setting n right = some s') : Adv s s' := by
  rw [setting_eq] at h
  split at h
  · cases h
  · split at h
    · cases h
    · rename_i s1 h1
      split at h
      · cases h
      · rename_i v s2 h2
        split at h
        · cases h
          exact ((Adv.by s _).then (Adv.equals h1)).then (Adv.quoted h2)
        · cases h
set_option maxRecDepth 100000 in
set_option maxHeartbeats 2000000 in
theorem settingV_any (B p m : Nat) (vo vt vr : Value) (s : RS) (w : World) (R : Rd w B p m vo vt vr s) (hG : Good s) (hE : XEnv B w) :
    Calls Tryz.prog 128 #[.pointer (some ⟨p, 0, none⟩), .string ⟨#[118, 101, 114, 115, 105, 111, 110]⟩, .func (.func 129) #[] #[]] w fun e w' => entP (s.setting [118, 101, 114, 115, 105, 111, 110] isVersion) B p m vo vt vr e w w' := by
  have hlow := R.low
  have hlt := R.lt
  have HD := hide (setting_eq s [118, 101, 114, 115, 105, 111, 110] isVersion)
  go_enter Tryz.func128, Tryz.ntmps128
  go_wp2_with fail
  cases h1 : s.sees [118, 101, 114, 115, 105, 111, 110]
  · refine (take_no [118, 101, 114, 115, 105, 111, 110] ⟨#[118, 101, 114, 115, 105, 111, 110]⟩ rfl (by decide) p s _ R.at hG.fine h1).mono ?_
    rintro e w1 ⟨rfl, hb1⟩
    have HEQ : Hid (s.setting [118, 101, 114, 115, 105, 111, 110] isVersion = none) := hide (by rw [unhide HD, h1]; rfl)
    have R1 := R.on hb1
    clear HD h1
    go_wp2
    go_ret
    rw [unhide HEQ]
    exact ⟨hb1.mono (by omega), rfl, _, R1.blk, rfl⟩
  · refine (take_yes [118, 101, 114, 115, 105, 111, 110] ⟨#[118, 101, 114, 115, 105, 111, 110]⟩ rfl (by decide) p s _ R.at hG.fine h1).mono ?_
    rintro e w1 ⟨rfl, hm1⟩
    have hd := unhide HD
    rw [h1, Bool.not_true, if_neg (by decide)] at hd
    have R1 := R.moved hm1 (Adv.by s _)
    have G1 := hG.adv ([118, 101, 114, 115, 105, 111, 110] : List Nat).length
    have hb1 := hm1.low hlow (show B ≤ w.heap.size by omega)
    generalize hg1 : s.adv ([118, 101, 114, 115, 105, 111, 110] : List Nat).length = s1 at *
    clear HD h1 hg1 hm1
    have HD := hide hd
    clear hd
    go_wp2_with fail
    refine (equals_any p s1 _ R1.at G1.fine).mono ?_
    intro e w2 hq
    cases heq : s1.equals with
    | none =>
      rw [heq] at hq
      obtain ⟨k, rfl, hm2⟩ := hq
      have HEQ : Hid (s.setting [118, 101, 114, 115, 105, 111, 110] isVersion = none) := hide (by rw [unhide HD, heq])
      obtain ⟨cc, hcc, hcs⟩ := moved_blk R1 hm2
      have hb2 := hb1.trans (hm2.low hlow (by have := R1.lt; omega))
      clear HD heq hm2
      go_wp2
      go_ret
      rw [unhide HEQ]
      exact ⟨hb2, rfl, cc, hcc, hcs⟩
    | some s2 =>
      rw [heq] at hq
      obtain ⟨rfl, hm2⟩ := hq
      have R2 := R1.moved hm2 (Adv.equals heq)
      have G2 := G1.to (Adv.equals heq)
      have hb2 := hb1.trans (hm2.low hlow (by have := R1.lt; omega))
      have hd := unhide HD
      rw [heq] at hd
      simp only at hd
      clear HD heq hm2
      have HD := hide hd
      clear hd
      go_wp2_with fail
      refine (quoted_any B p s2 _ R2.at G2.fine (hE.low hb2) hlow).mono ?_
      intro e w3 hq
      cases hqu : s2.quoted with
      | none =>
        rw [hqu] at hq
        obtain ⟨y, k, rfl, hm3⟩ := hq
        have HEQ : Hid (s.setting [118, 101, 114, 115, 105, 111, 110] isVersion = none) := hide (by rw [unhide HD, hqu])
        obtain ⟨cc, hcc, hcs⟩ := moved_blk R2 hm3
        have hb3 := hb2.trans (hm3.low hlow (by have := R2.lt; omega))
        clear HD hqu hm3
        go_wp2
        go_ret
        rw [unhide HEQ]
        exact ⟨hb3, rfl, cc, hcc, hcs⟩
      | some x =>
        obtain ⟨v, s3⟩ := x
        rw [hqu] at hq
        obtain ⟨rfl, hm3⟩ := hq
        have R3 := R2.moved hm3 (Adv.quoted hqu)
        have hb3 := hb2.trans (hm3.low hlow (by have := R2.lt; omega))
        obtain ⟨hv, hz⟩ := quoted_ok G2.fine hqu
        have HX := hide (fun (W : World) => (isVersion_any v W hv hz))
        have hd := unhide HD
        rw [hqu] at hd
        simp only at hd
        clear HD hqu hm3
        cases hr : isVersion v
        · have HEQ : Hid (s.setting [118, 101, 114, 115, 105, 111, 110] isVersion = none) := hide (by rw [hd, hr]; rfl)
          rw [hr] at HX
          clear hd hr
          go_wp2_with fail
          refine (unhide HX _).mono ?_
          rintro e w4 ⟨rfl, hb4⟩
          have R4 := R3.on hb4
          have hb04 := hb3.trans (hb4.mono (by have := R3.lt; omega))
          go_wp2
          go_ret
          rw [unhide HEQ]
          exact ⟨hb04, rfl, _, R4.blk, rfl⟩
        · have HEQ : Hid (s.setting [118, 101, 114, 115, 105, 111, 110] isVersion = some s3) := hide (by rw [hd, hr]; rfl)
          rw [hr] at HX
          clear hd hr
          go_wp2_with fail
          refine (unhide HX _).mono ?_
          rintro e w4 ⟨rfl, hb4⟩
          have HR4 := hide (R3.on hb4)
          have hb04 := hb3.trans (hb4.mono (by have := R3.lt; omega))
          clear R3
          go_wp2
          go_ret
          rw [unhide HEQ]
          exact ⟨hb04, rfl, unhide HR4⟩
set_option maxRecDepth 100000 in
set_option maxHeartbeats 2000000 in
theorem settingE_any (B p m : Nat) (vo vt vr : Value) (s : RS) (w : World) (R : Rd w B p m vo vt vr s) (hG : Good s) (hE : XEnv B w) :
    Calls Tryz.prog 128 #[.pointer (some ⟨p, 0, none⟩), .string ⟨#[101, 110, 99, 111, 100, 105, 110, 103]⟩, .func (.func 130) #[] #[]] w fun e w' => entP (s.setting [101, 110, 99, 111, 100, 105, 110, 103] isEncoding) B p m vo vt vr e w w' := by
  have hlow := R.low
  have hlt := R.lt
  have HD := hide (setting_eq s [101, 110, 99, 111, 100, 105, 110, 103] isEncoding)
  go_enter Tryz.func128, Tryz.ntmps128
  go_wp2_with fail
  cases h1 : s.sees [101, 110, 99, 111, 100, 105, 110, 103]
  · refine (take_no [101, 110, 99, 111, 100, 105, 110, 103] ⟨#[101, 110, 99, 111, 100, 105, 110, 103]⟩ rfl (by decide) p s _ R.at hG.fine h1).mono ?_
    rintro e w1 ⟨rfl, hb1⟩
    have HEQ : Hid (s.setting [101, 110, 99, 111, 100, 105, 110, 103] isEncoding = none) := hide (by rw [unhide HD, h1]; rfl)
    have R1 := R.on hb1
    clear HD h1
    go_wp2
    go_ret
    rw [unhide HEQ]
    exact ⟨hb1.mono (by omega), rfl, _, R1.blk, rfl⟩
  · refine (take_yes [101, 110, 99, 111, 100, 105, 110, 103] ⟨#[101, 110, 99, 111, 100, 105, 110, 103]⟩ rfl (by decide) p s _ R.at hG.fine h1).mono ?_
    rintro e w1 ⟨rfl, hm1⟩
    have hd := unhide HD
    rw [h1, Bool.not_true, if_neg (by decide)] at hd
    have R1 := R.moved hm1 (Adv.by s _)
    have G1 := hG.adv ([101, 110, 99, 111, 100, 105, 110, 103] : List Nat).length
    have hb1 := hm1.low hlow (show B ≤ w.heap.size by omega)
    generalize hg1 : s.adv ([101, 110, 99, 111, 100, 105, 110, 103] : List Nat).length = s1 at *
    clear HD h1 hg1 hm1
    have HD := hide hd
    clear hd
    go_wp2_with fail
    refine (equals_any p s1 _ R1.at G1.fine).mono ?_
    intro e w2 hq
    cases heq : s1.equals with
    | none =>
      rw [heq] at hq
      obtain ⟨k, rfl, hm2⟩ := hq
      have HEQ : Hid (s.setting [101, 110, 99, 111, 100, 105, 110, 103] isEncoding = none) := hide (by rw [unhide HD, heq])
      obtain ⟨cc, hcc, hcs⟩ := moved_blk R1 hm2
      have hb2 := hb1.trans (hm2.low hlow (by have := R1.lt; omega))
      clear HD heq hm2
      go_wp2
      go_ret
      rw [unhide HEQ]
      exact ⟨hb2, rfl, cc, hcc, hcs⟩
    | some s2 =>
      rw [heq] at hq
      obtain ⟨rfl, hm2⟩ := hq
      have R2 := R1.moved hm2 (Adv.equals heq)
      have G2 := G1.to (Adv.equals heq)
      have hb2 := hb1.trans (hm2.low hlow (by have := R1.lt; omega))
      have hd := unhide HD
      rw [heq] at hd
      simp only at hd
      clear HD heq hm2
      have HD := hide hd
      clear hd
      go_wp2_with fail
      refine (quoted_any B p s2 _ R2.at G2.fine (hE.low hb2) hlow).mono ?_
      intro e w3 hq
      cases hqu : s2.quoted with
      | none =>
        rw [hqu] at hq
        obtain ⟨y, k, rfl, hm3⟩ := hq
        have HEQ : Hid (s.setting [101, 110, 99, 111, 100, 105, 110, 103] isEncoding = none) := hide (by rw [unhide HD, hqu])
        obtain ⟨cc, hcc, hcs⟩ := moved_blk R2 hm3
        have hb3 := hb2.trans (hm3.low hlow (by have := R2.lt; omega))
        clear HD hqu hm3
        go_wp2
        go_ret
        rw [unhide HEQ]
        exact ⟨hb3, rfl, cc, hcc, hcs⟩
      | some x =>
        obtain ⟨v, s3⟩ := x
        rw [hqu] at hq
        obtain ⟨rfl, hm3⟩ := hq
        have R3 := R2.moved hm3 (Adv.quoted hqu)
        have hb3 := hb2.trans (hm3.low hlow (by have := R2.lt; omega))
        obtain ⟨hv, hz⟩ := quoted_ok G2.fine hqu
        have HX := hide (fun (W : World) => (isEncoding_any v W hv hz))
        have hd := unhide HD
        rw [hqu] at hd
        simp only at hd
        clear HD hqu hm3
        cases hr : isEncoding v
        · have HEQ : Hid (s.setting [101, 110, 99, 111, 100, 105, 110, 103] isEncoding = none) := hide (by rw [hd, hr]; rfl)
          rw [hr] at HX
          clear hd hr
          go_wp2_with fail
          refine (unhide HX _).mono ?_
          rintro e w4 ⟨rfl, hb4⟩
          have R4 := R3.on hb4
          have hb04 := hb3.trans (hb4.mono (by have := R3.lt; omega))
          go_wp2
          go_ret
          rw [unhide HEQ]
          exact ⟨hb04, rfl, _, R4.blk, rfl⟩
        · have HEQ : Hid (s.setting [101, 110, 99, 111, 100, 105, 110, 103] isEncoding = some s3) := hide (by rw [hd, hr]; rfl)
          rw [hr] at HX
          clear hd hr
          go_wp2_with fail
          refine (unhide HX _).mono ?_
          rintro e w4 ⟨rfl, hb4⟩
          have HR4 := hide (R3.on hb4)
          have hb04 := hb3.trans (hb4.mono (by have := R3.lt; omega))
          clear R3
          go_wp2
          go_ret
          rw [unhide HEQ]
          exact ⟨hb04, rfl, unhide HR4⟩
set_option maxRecDepth 100000 in
set_option maxHeartbeats 2000000 in
theorem settingC_any (B p m : Nat) (vo vt vr : Value) (s : RS) (w : World) (R : Rd w B p m vo vt vr s) (hG : Good s) (hE : XEnv B w) :
    Calls Tryz.prog 128 #[.pointer (some ⟨p, 0, none⟩), .string ⟨#[115, 116, 97, 110, 100, 97, 108, 111, 110, 101]⟩, .func (.func 131) #[] #[]] w fun e w' => entP (s.setting [115, 116, 97, 110, 100, 97, 108, 111, 110, 101] isChoice) B p m vo vt vr e w w' := by
  have hlow := R.low
  have hlt := R.lt
  have HD := hide (setting_eq s [115, 116, 97, 110, 100, 97, 108, 111, 110, 101] isChoice)
  go_enter Tryz.func128, Tryz.ntmps128
  go_wp2_with fail
  cases h1 : s.sees [115, 116, 97, 110, 100, 97, 108, 111, 110, 101]
  · refine (take_no [115, 116, 97, 110, 100, 97, 108, 111, 110, 101] ⟨#[115, 116, 97, 110, 100, 97, 108, 111, 110, 101]⟩ rfl (by decide) p s _ R.at hG.fine h1).mono ?_
    rintro e w1 ⟨rfl, hb1⟩
    have HEQ : Hid (s.setting [115, 116, 97, 110, 100, 97, 108, 111, 110, 101] isChoice = none) := hide (by rw [unhide HD, h1]; rfl)
    have R1 := R.on hb1
    clear HD h1
    go_wp2
    go_ret
    rw [unhide HEQ]
    exact ⟨hb1.mono (by omega), rfl, _, R1.blk, rfl⟩
  · refine (take_yes [115, 116, 97, 110, 100, 97, 108, 111, 110, 101] ⟨#[115, 116, 97, 110, 100, 97, 108, 111, 110, 101]⟩ rfl (by decide) p s _ R.at hG.fine h1).mono ?_
    rintro e w1 ⟨rfl, hm1⟩
    have hd := unhide HD
    rw [h1, Bool.not_true, if_neg (by decide)] at hd
    have R1 := R.moved hm1 (Adv.by s _)
    have G1 := hG.adv ([115, 116, 97, 110, 100, 97, 108, 111, 110, 101] : List Nat).length
    have hb1 := hm1.low hlow (show B ≤ w.heap.size by omega)
    generalize hg1 : s.adv ([115, 116, 97, 110, 100, 97, 108, 111, 110, 101] : List Nat).length = s1 at *
    clear HD h1 hg1 hm1
    have HD := hide hd
    clear hd
    go_wp2_with fail
    refine (equals_any p s1 _ R1.at G1.fine).mono ?_
    intro e w2 hq
    cases heq : s1.equals with
    | none =>
      rw [heq] at hq
      obtain ⟨k, rfl, hm2⟩ := hq
      have HEQ : Hid (s.setting [115, 116, 97, 110, 100, 97, 108, 111, 110, 101] isChoice = none) := hide (by rw [unhide HD, heq])
      obtain ⟨cc, hcc, hcs⟩ := moved_blk R1 hm2
      have hb2 := hb1.trans (hm2.low hlow (by have := R1.lt; omega))
      clear HD heq hm2
      go_wp2
      go_ret
      rw [unhide HEQ]
      exact ⟨hb2, rfl, cc, hcc, hcs⟩
    | some s2 =>
      rw [heq] at hq
      obtain ⟨rfl, hm2⟩ := hq
      have R2 := R1.moved hm2 (Adv.equals heq)
      have G2 := G1.to (Adv.equals heq)
      have hb2 := hb1.trans (hm2.low hlow (by have := R1.lt; omega))
      have hd := unhide HD
      rw [heq] at hd
      simp only at hd
      clear HD heq hm2
      have HD := hide hd
      clear hd
      go_wp2_with fail
      refine (quoted_any B p s2 _ R2.at G2.fine (hE.low hb2) hlow).mono ?_
      intro e w3 hq
      cases hqu : s2.quoted with
      | none =>
        rw [hqu] at hq
        obtain ⟨y, k, rfl, hm3⟩ := hq
        have HEQ : Hid (s.setting [115, 116, 97, 110, 100, 97, 108, 111, 110, 101] isChoice = none) := hide (by rw [unhide HD, hqu])
        obtain ⟨cc, hcc, hcs⟩ := moved_blk R2 hm3
        have hb3 := hb2.trans (hm3.low hlow (by have := R2.lt; omega))
        clear HD hqu hm3
        go_wp2
        go_ret
        rw [unhide HEQ]
        exact ⟨hb3, rfl, cc, hcc, hcs⟩
      | some x =>
        obtain ⟨v, s3⟩ := x
        rw [hqu] at hq
        obtain ⟨rfl, hm3⟩ := hq
        have R3 := R2.moved hm3 (Adv.quoted hqu)
        have hb3 := hb2.trans (hm3.low hlow (by have := R2.lt; omega))
        obtain ⟨hv, hz⟩ := quoted_ok G2.fine hqu
        have HX := hide (fun (W : World) => (isChoice_low v W hv))
        have hd := unhide HD
        rw [hqu] at hd
        simp only at hd
        clear HD hqu hm3
        cases hr : isChoice v
        · have HEQ : Hid (s.setting [115, 116, 97, 110, 100, 97, 108, 111, 110, 101] isChoice = none) := hide (by rw [hd, hr]; rfl)
          rw [hr] at HX
          clear hd hr
          go_wp2_with fail
          refine (unhide HX _).mono ?_
          rintro e w4 ⟨rfl, hb4⟩
          have R4 := R3.on hb4
          have hb04 := hb3.trans (hb4.mono (by have := R3.lt; omega))
          go_wp2
          go_ret
          rw [unhide HEQ]
          exact ⟨hb04, rfl, _, R4.blk, rfl⟩
        · have HEQ : Hid (s.setting [115, 116, 97, 110, 100, 97, 108, 111, 110, 101] isChoice = some s3) := hide (by rw [hd, hr]; rfl)
          rw [hr] at HX
          clear hd hr
          go_wp2_with fail
          refine (unhide HX _).mono ?_
          rintro e w4 ⟨rfl, hb4⟩
          have HR4 := hide (R3.on hb4)
          have hb04 := hb3.trans (hb4.mono (by have := R3.lt; omega))
          clear R3
          go_wp2
          go_ret
          rw [unhide HEQ]
          exact ⟨hb04, rfl, unhide HR4⟩
end Go.Proofs.YtefjfjieoiegnaaGreatDoor
