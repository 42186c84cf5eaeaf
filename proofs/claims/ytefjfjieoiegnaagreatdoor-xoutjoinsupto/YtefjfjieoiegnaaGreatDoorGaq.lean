/- Several texts, laid as one. -/
import Derived.Test.YtefjfjieoiegnaaGreatDoorGap
import Derived.Test.YtefjfjieoiegnaaGreatDoorGao
/- CDATA and end tags: xmlscan's section and endTag. -/
namespace Go.Proofs.YtefjfjieoiegnaaGreatDoor
open Go.RowKit
theorem section_eq (s : RS) : s.section' = match (s.take [60, 33, 91, 67, 68, 65, 84, 65, 91]).takeTo [93, 93, 62] with | none => .error (5, s.place) | some (t, s1) => { s1 with run := s.run ++ t }.room := rfl
set_option maxRecDepth 100000 in
set_option maxHeartbeats 2000000 in
theorem section_any (B p m : Nat) (vo vt vr : Value) (s : RS) (w : World) (R : Rd w B p m vo vt vr s) (hG : Good s) (hE : XEnv B w) (hs : s.sees [60, 33, 91, 67, 68, 65, 84, 65, 91] = true) :
    Calls Tryz.prog 106 #[.pointer (some ⟨p, 0, none⟩)] w fun e w' => outP s.section' B p m e w w' := by
  have hlow := R.low
  have hlt := R.lt
  have HD := hide (section_eq s)
  rw [take_adv hs] at HD
  have c1 : w.cell? ⟨p, 1, none⟩ = some (.int .i64 (s.place : Nat)) := R.at.pos
  have G1 := hG.adv 9
  obtain ⟨t0, hi, hz0, hz1, hz2⟩ := info_parts infoU8
  go_enter Tryz.func106, Tryz.ntmps106
  go_wp2_with fail
  refine (take_yes [60, 33, 91, 67, 68, 65, 84, 65, 91] ⟨#[60, 33, 91, 67, 68, 65, 84, 65, 91]⟩ rfl (by decide) p s _ R.at hG.fine hs).mono ?_
  rintro e w1 ⟨rfl, hm1⟩
  have hs1 : Hid (([60, 33, 91, 67, 68, 65, 84, 65, 91] : List Nat).length = 9) := hide rfl
  rw [unhide hs1] at hm1 HD
  have R1 := R.moved hm1 (Adv.by s 9)
  have hE1 := hE.moved hm1 hlow hlt
  have hb1 := hm1.low hlow (by omega)
  have hru : (s.adv 9).run = s.run := rfl
  have hsp1 : (s.adv 9).spent = s.spent := rfl
  generalize hg : s.adv 9 = s1 at *
  clear hg
  cases ht : s1.takeTo [93, 93, 62] with
  | none =>
    have HC := hide (takeTo_none ht)
    have HEQ : Hid (s.section' = .error (5, s.place)) := hide (by rw [unhide HD, ht])
    clear ht c1
    go_wp2_with fail
    refine (takeTo_no [93, 93, 62] ⟨#[93, 93, 62]⟩ rfl (by decide) (by simp) p s1 _ R1.at G1.fine hE1.env (unhide HC)).mono ?_
    rintro e w2 ⟨rfl, hb2⟩
    have R2 := R1.on hb2
    have hb2' := hb1.trans (hb2.mono (by have := R1.lt; omega))
    go_wp2_with (go_at_call 63; refine (fail_rd B p 5 s.place _ R2.blk rfl hlow).mono ?_; rintro e w3 ⟨rfl, hw3, hb3⟩)
    go_ret
    rw [unhide HEQ]
    exact ⟨hb2'.trans hb3, rfl, hw3⟩
  | some xs =>
    obtain ⟨x, s2⟩ := xs
    have HEQ : Hid (s.section' = { s2 with run := s.run ++ x }.room) := hide (by rw [unhide HD, ht])
    obtain ⟨hA, y, hc, hs2⟩ := Adv.takeTo ht
    have HC := hide hc
    have happ := cutL_app (by decide) (by simp) G1.fine.okR hc
    have hox : okL x := okL_left (okL_left (happ ▸ G1.fine.okR))
    obtain ⟨hpl, hzx⟩ := cut_place (by decide) (by simp) G1.fine hc
    rw [← hs2] at hpl
    have G2 := G1.to hA
    have hru2 : s2.run = s.run := by rw [hs2]; exact hru
    have hsp2 : s2.spent = s.spent := by rw [hs2]; exact hsp1
    have hsum := G1.fine.lt
    have hrl := G1.rl
    rw [hru] at hrl
    have hbound : (tx s.run).length + (T x).size ≤ 98304 := by have := G1.sp; omega
    rw [hs2] at HEQ
    clear ht c1 hc happ
    go_wp2_with fail
    refine (takeTo_yes [93, 93, 62] ⟨#[93, 93, 62]⟩ rfl (by decide) (by simp) p s1 x y _ R1.at G1.fine hE1.env (unhide HC)).mono ?_
    rintro e w2 ⟨rfl, hm2⟩
    have R2 := R1.moved hm2 (Adv.by _ _)
    have hb2' := hb1.trans (hm2.low hlow (by have := R1.lt; omega))
    rw [← hs2] at R2 HEQ
    have hr2 := R2.run
    rw [hru2] at hr2
    obtain ⟨ar, cr, rfl⟩ := owns_slice hr2
    have c6 : w2.cell? ⟨p, 6, none⟩ = some (.slice ar (tx s.run).length cr) := blk_cell R2.blk 6
    have o6 : w2.frozen? ⟨p, 6, none⟩ = false := blk_open R2.blk 6
    have HRUN := hide hr2
    have HR2 := hide R2
    have HO := hide G1.okr
    have hz2' : B ≤ w2.heap.size := by have := R2.lt; omega
    have HRU := hide hru2
    have HRU1 := hide hru
    clear hru2 hru hs2 hpl hzx hsum hrl hr2 R2 hsp1 hsp2
    go_wp2_with (first
      | (at_builtin; (refine Lib.wpList_append_own_string _ rfl _ _ 48 9 rfl B 5 t0 Tryz.underlying48 Tryz.underlying9 hi hz0 hz1 hz2 (.slice ar (tx s.run).length cr) (tx s.run).length (byteCells (tx s.run)) rfl (unhide HRUN) (T x) rfl (by unfold maxLen; omega) (by omega) hz2' ?_); intro v' w' hown hgrow _; obtain ⟨a6, b6, rfl⟩ := owns_slice hown; have hR := Rd.ran (x := x) (unhide HR2) hgrow (by rw [unhide HRU]; exact hown); have c6' : w'.cell? ⟨p, 6, none⟩ = some (.slice ar (tx s.run).length cr) := blk_cell hR.2 6; have o6' := blk_open hR.2 6; have HRR := hide hR.1; have hB' := Below.grown hb2' hgrow hz2' (owns_ge (unhide HRUN)); clear hR)
      | (go_at_call 108; refine (room_any B p m _ _ _ _ _ (unhide HRR) (fun hne => Nat.pos_of_ne_zero fun h0 => hne (tx_len_zero (by rw [unhide HRU]; exact okL_app (by rw [← unhide HRU1]; exact unhide HO) hox) h0))).mono ?_; intro e w6 ho; obtain ⟨b, rfl, ho⟩ := outP_form ho))
    go_ret
    rw [unhide HEQ, ← unhide HRU]
    exact outP_low (hB'.setCell hlow _) ho
/-- What is open, without the innermost one. -/
theorem Rd.closed {w : World} {B p m n co : Nat} {ao : Option Addr} {vt vr : Value} {s : RS} (R : Rd w B p m (.slice ao n co) vt vr s) : Rd (w.setCell ⟨p, 4, none⟩ (.slice ao (s.opn.length - 1) co)) B p m (.slice ao (s.opn.length - 1) co) vt vr { s with opn := s.opn.dropLast } := by
  have hk : ∀ k o, w.heap[k]? = some o → ¬ k = p → (w.setCell ⟨p, 4, none⟩ (.slice ao (s.opn.length - 1) co)).heap[k]? = some o := fun k o hk hs => by rw [blk_other hs]; exact hk
  have hrow : ∀ {base : Nat} {e : TypeId} {size : Nat} {v : Value} {n : Nat} {xs : List Value}, w.ownsRow base e size v n xs → e ≠ 63 → (w.setCell ⟨p, 4, none⟩ (.slice ao (s.opn.length - 1) co)).ownsRow base e size v n xs := fun ho he => owns_kept ho hk fun k hb hs => by
    subst hs
    exact owns_not ho R.blk he hb
  refine ⟨by rw [blk_set R.blk]; rfl, R.low, R.ents.kept (by rw [blk_other (R.ents.ne R.blk)]), ?_, ?_, hrow R.run (by decide)⟩
  · have hf := R.opn
    obtain ⟨a, c, e⟩ := owns_slice hf
    cases e
    have h1 := hrow (owns_pre hf (k := s.opn.length - 1) (by omega)) (by decide)
    rw [List.dropLast_eq_take, Nat.mul_one] at *
    show World.ownsRow _ _ _ _ _ (s.opn.take (s.opn.length - 1)).length (opnRow (s.opn.take (s.opn.length - 1)))
    rw [List.length_take, Nat.min_eq_left (by omega)]
    unfold opnRow at h1 ⊢
    rw [List.map_take]
    exact h1
  · refine R.toks.kept (· = p) hk fun k c hs => ?_
    subst hs
    rw [R.blk]
    exact ⟨fun e => (by cases e), fun e => (by cases e)⟩
end Go.Proofs.YtefjfjieoiegnaaGreatDoor
/- End tags: xmlscan's endTag. -/
namespace Go.Proofs.YtefjfjieoiegnaaGreatDoor
open Go.RowKit
/-- The names that are open are texts, and not too many. -/
def OpnOk (s : RS) : Prop := (∀ x ∈ s.opn, okL x ∧ (T x).size ≤ 32768) ∧ s.opn.length ≤ 32
theorem T_ne {a b : List Nat} (ha : okL a) (hb : okL b) (h : a ≠ b) : ((T a).toList == (T b).toList) = false := by
  rw [T_toList b, eq_T ha hb]
  simpa using h
theorem endTag_eq (s : RS) : s.endTag = if s.opn.getLast? = some (qnameA (s.take [60, 47]).rest) ∧ heads 62 (s.take [60, 47]).qname.blanks.rest = true then { (s.take [60, 47]).qname.blanks.adv 1 with opn := s.opn.dropLast }.tell ⟨7, qnameA (s.take [60, 47]).rest, [], []⟩ s.place else .error (5, s.place) := rfl
theorem opn_last {w : World} {B : Nat} {vo : Value} {l : List (List Nat)} (h : w.ownsRow B 9 1 vo l.length (opnRow l)) {x : List Nat} (hx : l.getLast? = some x) : ∃ g c, vo = .slice (some ⟨g, 0, none⟩) l.length c ∧ w.cell? ⟨g, l.length - 1, none⟩ = some (.string (T x)) ∧ l.length ≤ c := by
  rcases h.2 with ⟨_, h0⟩ | ⟨g, cap, cur, rfl, h2, h3, h4⟩
  · rw [List.length_eq_zero_iff.1 h0] at hx
    cases hx
  · refine ⟨g, cap, rfl, ?_, h4.1⟩
    have hl : 0 < l.length := by
      cases l with
      | nil => cases hx
      | cons _ _ => simp
    have hc := h.cellAt (l.length - 1) (by omega)
    rw [hc]
    unfold opnRow
    rw [List.getElem?_map, ← List.getLast?_eq_getElem?, hx]
    rfl
set_option maxRecDepth 100000 in
set_option maxHeartbeats 2000000 in
theorem endTag_any (B p m : Nat) (vo vt vr : Value) (s : RS) (w : World) (R : Rd w B p m vo vt vr s) (hG : Good s) (hO : OpnOk s) (hne : s.opn ≠ []) (hs : s.sees [60, 47] = true) :
    Calls Tryz.prog 105 #[.pointer (some ⟨p, 0, none⟩)] w fun e w' => outP s.endTag B p m e w w' := by
  have hlow := R.low
  have hlt := R.lt
  have HD := hide (endTag_eq s)
  rw [take_adv hs] at HD
  have c1 : w.cell? ⟨p, 1, none⟩ = some (.int .i64 (s.place : Nat)) := R.at.pos
  have G1 := hG.adv 2
  obtain ⟨x, hx⟩ : ∃ x, s.opn.getLast? = some x := by
    cases h : s.opn.getLast? with
    | none => exact absurd (List.getLast?_eq_none_iff.1 h) hne
    | some x => exact ⟨x, rfl⟩
  have hox := hO.1 x (List.mem_of_getLast? hx)
  have hl1 : 1 ≤ s.opn.length := by
    cases hh : s.opn with
    | nil => exact absurd hh hne
    | cons _ _ => simp
  have hl2 := hO.2
  go_enter Tryz.func105, Tryz.ntmps105
  go_wp2_with fail
  refine (take_yes [60, 47] ⟨#[60, 47]⟩ rfl (by decide) p s _ R.at hG.fine hs).mono ?_
  rintro e w1 ⟨rfl, hm1⟩
  have hs1 : Hid (([60, 47] : List Nat).length = 2) := hide rfl
  rw [unhide hs1] at hm1 HD
  have R1 := R.moved hm1 (Adv.by s 2)
  have hb1 := hm1.low hlow (by omega)
  have ho1 : (s.adv 2).opn = s.opn := rfl
  generalize hg : s.adv 2 = s1 at *
  clear hg
  go_wp2_with fail
  refine (qname_any p s1 _ R1.at G1.fine).mono ?_
  rintro e w2 ⟨rfl, hm2⟩
  have R2 := R1.moved hm2 (Adv.qname s1)
  have G2 := G1.to (Adv.qname s1)
  have hb2 := hb1.trans (hm2.low hlow (by have := R1.lt; omega))
  have hoq := okL_pre G1.fine.okR (qnameA_pre s1.rest)
  have ho2 : s1.qname.opn = s.opn := ho1
  have hd := unhide HD
  clear HD
  generalize qnameA s1.rest = q at *
  generalize hg : s1.qname = s2 at *
  clear hg
  go_wp2_with fail
  refine (blanks_any p s2 _ R2.at G2.fine).mono ?_
  rintro e w3 ⟨rfl, hm3⟩
  have R3 := R2.moved hm3 (Adv.blanks s2)
  have G3 := G2.to (Adv.blanks s2)
  have hb3 := hb2.trans (hm3.low hlow (by have := R2.lt; omega))
  have ho3 : s2.blanks.opn = s.opn := ho2
  generalize hg : s2.blanks = s3 at *
  clear hg
  have hro := R3.opn
  rw [ho3] at hro
  obtain ⟨g, c, rfl, hcl, hlc⟩ := opn_last hro hx
  have c4 : w3.cell? ⟨p, 4, none⟩ = some (.slice (some ⟨g, 0, none⟩) s.opn.length c) := blk_cell R3.blk 4
  have HR3 := hide R3
  have i1 : (0 : Int) ≤ (s.opn.length : Int) - 1 := by omega
  have i2 : (s.opn.length : Int) - 1 < (s.opn.length : Int) := by omega
  have i3 : ((s.opn.length : Int) - 1).toNat = s.opn.length - 1 := by omega
  have HO3 := hide ho3
  have hx' := hx
  clear ho3 ho2 ho1 hro hm3 hm2 hm1
  by_cases hqx : q = x
  · subst hqx
    have hcmp : ((T q).toList == (T q).toList) = true := by simp
    cases hh : heads 62 s3.rest
    · rw [hh] at hd
      have HEQ : Hid (s.endTag = .error (5, s.place)) := hide (by rw [hd, if_neg (fun h => by cases h.2)])
      have HH := hide hh
      clear hd hh hx hx'
      go_wp2_with (first
        | (go_at_call 101; refine (take_no [62] ⟨#[62]⟩ rfl (by decide) p s3 _ (unhide HR3).at G3.fine (by rw [isPre_one]; exact unhide HH)).mono ?_; rintro e w4 ⟨rfl, hb4⟩; have R4 := (unhide HR3).on hb4)
        | (go_at_call 63; refine (fail_rd B p 5 s.place _ R4.blk rfl hlow).mono ?_; rintro e w5 ⟨rfl, hw5, hb5⟩))
      go_ret
      rw [unhide HEQ]
      exact ⟨(hb3.trans (hb4.mono (by have := (unhide HR3).lt; omega))).trans hb5, rfl, hw5⟩
    · rw [hh] at hd
      have HEQ := hide (hd.trans (if_pos ⟨hx, rfl⟩))
      have HH := hide hh
      clear hd hh hx hx'
      go_wp2_with fail
      refine (take_yes [62] ⟨#[62]⟩ rfl (by decide) p s3 _ (unhide HR3).at G3.fine (by rw [isPre_one]; exact unhide HH)).mono ?_
      rintro e w4 ⟨rfl, hm4⟩
      have R4 := (unhide HR3).moved hm4 (Adv.by s3 1)
      have G4 := G3.adv 1
      have hb4 := hb3.trans (hm4.low hlow (by have := (unhide HR3).lt; omega))
      have ho4 : (s3.adv 1).opn = s.opn := unhide HO3
      generalize hg : s3.adv 1 = s4 at *
      clear hg
      have c4' : w4.cell? ⟨p, 4, none⟩ = some (.slice (some ⟨g, 0, none⟩) s.opn.length c) := blk_cell R4.blk 4
      have o4' : w4.frozen? ⟨p, 4, none⟩ = false := blk_open R4.blk 4
      have RC := R4.closed
      rw [ho4] at RC
      have GC : Good { s4 with opn := s.opn.dropLast } := ⟨⟨G4.fine.ok, G4.fine.le⟩, G4.n1, G4.n2, G4.okr, G4.rl, G4.sp⟩
      have hBC : Below B w (w4.setCell ⟨p, 4, none⟩ (.slice (some ⟨g, 0, none⟩) (s.opn.length - 1) c)) := hb4.setCell hlow _
      have hzC : B ≤ (w4.setCell ⟨p, 4, none⟩ (.slice (some ⟨g, 0, none⟩) (s.opn.length - 1) c)).heap.size := by rw [blk_size]; have := R4.lt; omega
      have HT : Hid (Calls Tryz.prog 99 #[.pointer (some ⟨p, 0, none⟩), .agg #[.int .i64 7, .string (T q), .slice none 0 0, .string ⟨#[]⟩], .int .i64 (s.place : Nat)] (w4.setCell ⟨p, 4, none⟩ (.slice (some ⟨g, 0, none⟩) (s.opn.length - 1) c)) fun e w' => outP ({ s4 with opn := s.opn.dropLast }.tell ⟨7, q, [], []⟩ s.place) B p m e (w4.setCell ⟨p, 4, none⟩ (.slice (some ⟨g, 0, none⟩) (s.opn.length - 1) c)) w') :=
        hide (tell_any B p m _ _ _ (.slice none 0 0) _ ⟨7, q, [], []⟩ s.place _ RC (World.ownsRow_nil _ _ _ _) GC.flush GC.pos hzC)
      clear RC R4 ho4
      go_wp2_with (go_at_call 99; refine (unhide HT).mono ?_; intro e w6 ho; obtain ⟨b, rfl, ho⟩ := outP_form ho)
      go_ret
      rw [unhide HEQ]
      exact outP_low hBC ho
  · have hcmp := T_ne hoq hox.1 hqx
    have HEQ : Hid (s.endTag = .error (5, s.place)) := hide (by rw [hd, if_neg]; rintro ⟨h1, _⟩; rw [hx] at h1; cases h1; exact hqx rfl)
    clear hd hx hx' hqx
    go_wp2_with (go_at_call 63; refine (fail_rd B p 5 s.place _ (unhide HR3).blk rfl hlow).mono ?_; rintro e w5 ⟨rfl, hw5, hb5⟩)
    go_ret
    rw [unhide HEQ]
    exact ⟨hb3.trans hb5, rfl, hw5⟩
end Go.Proofs.YtefjfjieoiegnaaGreatDoor
/- Whether tokens are a document's: xmlscan's isDocument. -/
namespace Go.Proofs.YtefjfjieoiegnaaGreatDoor
open Go.RowKit
structure DocSt (w : World) (ts : List BTok) (k : Nat) (o : List ByteArray) (r : Bool) (last : Int) (vo : Value) (w' : World) : Prop where
  le : k ≤ ts.length
  bel : Below w.heap.size w w'
  row : w'.ownsRow w.heap.size 9 1 vo o.length (o.map Value.string)
  few : o.length ≤ k
  spec : docB [] false 0 ts = docB o r last (ts.drop k)
theorem docB_cons (o : List ByteArray) (r : Bool) (last : Int) (t : BTok) (ts : List BTok) : docB o r last (t :: ts) = (okB t && (match docStp o r last t with
    | none => false
    | some x => docB x.1 x.2 t.kind ts)) := rfl
theorem ok_kinds {t : BTok} (h : okB t = true) : t.kind = 2 ∨ t.kind = 7 ∨ t.kind = 4 ∨ t.kind = 5 ∨ t.kind = 6 := by
  unfold okB at h
  by_cases h2 : t.kind = 2
  · exact .inl h2
  · by_cases h7 : t.kind = 7
    · exact .inr (.inl h7)
    · by_cases h4 : t.kind = 4
      · exact .inr (.inr (.inl h4))
      · by_cases h5 : t.kind = 5
        · exact .inr (.inr (.inr (.inl h5)))
        · by_cases h6 : t.kind = 6
          · exact .inr (.inr (.inr (.inr h6)))
          · simp only [if_neg h2, if_neg h7, if_neg h4, if_neg h5, if_neg h6] at h
            cases h
theorem strs_last {w : World} {B : Nat} {vo : Value} {o : List ByteArray} (h : w.ownsRow B 9 1 vo o.length (o.map Value.string)) {y : ByteArray} (hy : o.getLast? = some y) : ∃ g c, vo = .slice (some ⟨g, 0, none⟩) o.length c ∧ w.cell? ⟨g, o.length - 1, none⟩ = some (.string y) ∧ o.length ≤ c := by
  have hne : o ≠ [] := fun h0 => by rw [h0] at hy; cases hy
  have hl := List.length_pos_iff.2 hne
  rcases h.2 with ⟨_, h0⟩ | ⟨g, c, cur, rfl, h2, h3, h4⟩
  · omega
  · refine ⟨g, c, rfl, ?_, h4.1⟩
    have hc := h.cellAt (o.length - 1) (by omega)
    rw [List.getLast?_eq_getElem?] at hy
    rw [hc, List.getElem?_map, hy]
    rfl
theorem strs_drop {w : World} {B : Nat} {a : Option Addr} {c : Nat} {o : List ByteArray} (h : w.ownsRow B 9 1 (.slice a o.length c) o.length (o.map Value.string)) : w.ownsRow B 9 1 (.slice a (o.length - 1) c) o.dropLast.length (o.dropLast.map Value.string) := by
  have h1 := owns_pre h (k := o.length - 1) (by omega)
  rw [Nat.mul_one, ← List.map_take, ← List.dropLast_eq_take] at h1
  rw [List.length_dropLast]
  exact h1
theorem box_kept {W W' : World} {p : Nat} {c : Array Value} {t : TypeId} {z : Nat × Nat} {own : Option Nat} (hp : W.heap[p]? = some (.cells c t z)) (hg : W.grownBy W' own) (hne : own ≠ some p) : W'.heap[p]? = some (.cells c t z) := by
  rw [hg.block p (Array.getElem?_eq_some_iff.1 hp).1 (fun e => hne e.symm)]
  exact hp
theorem alloc_blk (w : World) (o : Obj) : (w.alloc o).heap[w.heap.size]? = some o := by
  show (w.heap.push o)[w.heap.size]? = some o
  exact Array.getElem?_push_size
theorem infoStrD : (Tryz.prog.info? 9).map (fun i => (i.zero, i.size, i.bytes)) = some (some (.string ⟨#[]⟩), 1, 16) := by kernel_rfl
theorem newsOne {W : World} {g : Nat} {a : Value} (h0 : W.cell? ⟨g, 0, none⟩ = some a) : ∀ j u, [a][j]? = some u → W.cell? ((⟨g, 0, none⟩ : Addr).add j) = some u := by
  intro j u h
  rw [Addr.add_mid, Nat.zero_add]
  match j, h with
  | 0, h => cases h; exact h0
theorem docS2 (o : List ByteArray) (r : Bool) (last : Int) (n : ByteArray) (l : List (ByteArray × ByteArray)) (x : ByteArray) : docStp o r last ⟨2, n, l, x⟩ = if (o.isEmpty && r) = true then none else some (o ++ [n], true) := rfl
theorem docS7 (o : List ByteArray) (r : Bool) (last : Int) (n : ByteArray) (l : List (ByteArray × ByteArray)) (x : ByteArray) : docStp o r last ⟨7, n, l, x⟩ = match o.getLast? with | none => none | some y => if (y.toList == n.toList) = true then some (o.dropLast, r) else none := rfl
theorem docS4 (o : List ByteArray) (r : Bool) (last : Int) (n : ByteArray) (l : List (ByteArray × ByteArray)) (x : ByteArray) : docStp o r last ⟨4, n, l, x⟩ = if (o.isEmpty || last == 4) = true then none else some (o, r) := rfl
set_option maxRecDepth 100000 in
set_option maxHeartbeats 8000000 in
theorem isDocument_any (ts : List BTok) (a : Option Addr) (cap : Nat) (w : World) (hv : ToksArg w a ts) (hn : ts.length ≤ 1048580) (hs : ∀ t ∈ ts, Small t) (B : Nat) (hB : B ≤ w.heap.size) (hE : XEnv B w) :
    Calls Tryz.prog 115 #[.slice a ts.length cap] w fun e w' => e = .returned (.bool (docB [] false 0 ts)) ∧ Below w.heap.size w w' := by
  have HV := hide hv
  have HS := hide hs
  have HE := hide hE
  have HI0 : Hid (DocSt w ts 0 [] false 0 (.slice none 0 0) w) := hide ⟨Nat.zero_le _, Below.refl _ _, World.ownsRow_nil _ _ _ _, Nat.le_refl _, rfl⟩
  clear hv hs hE
  go_enter Tryz.func115, Tryz.ntmps115
  go_wp2_with fail
  go_loopw [3, 4, 5, 11] (fun s3 s4 s5 i wr => ∃ (k : Nat) (o : List ByteArray) (r : Bool) (last : Int), i = .int .i64 (k : Nat) ∧ s4 = .bool r ∧ s5 = .int .i64 last ∧ DocSt w ts k o r last s3 wr) (fun _ _ _ i _ => ts.length - (intOf i).toNat)
  case atStart => exact ⟨0, [], false, 0, rfl, rfl, rfl, unhide HI0⟩
  case round =>
    clear HI0
    obtain ⟨k, o, r, last, rfl, rfl, rfl, hI⟩ := hrel
    have hk := hI.le
    obtain ⟨ao, co, rfl⟩ := owns_slice hI.row
    by_cases hlt : k < ts.length
    · obtain ⟨t, ht⟩ : ∃ t, ts[k]? = some t := ⟨ts[k], List.getElem?_eq_getElem hlt⟩
      have hts := unhide HS t (List.mem_of_getElem? ht)
      obtain ⟨g, oo, ha, hc⟩ := ((unhide HV).below hI.bel) (by intro h0; rw [h0] at hlt; cases hlt)
      subst ha
      obtain ⟨c0, c1, ⟨v, c2, hpv⟩, c3⟩ := hc k t ht
      obtain ⟨va, vc, hve, _⟩ := id hpv
      subst hve
      have n1 : (0 : Int) ≤ (k : Int) := by omega
      have n2 : (k : Int) < (ts.length : Int) := by omega
      have hdr : ts.drop k = t :: ts.drop (k + 1) := by
        rw [← List.getElem_cons_drop hlt]
        congr 1
        exact (List.getElem?_eq_some_iff.1 ht).2
      have hspec := hI.spec
      rw [hdr, docB_cons] at hspec
      have HSP := hide hspec
      have hbA : Below wr.heap.size wr (wr.alloc (.cells (tokV t (.slice va t.attrs.length vc)) 37 (0, 0))) := (Below.refl _ _).alloc (Nat.le_refl _) _
      have HBX : Hid (TokBox wr t (.slice va t.attrs.length vc) (wr.alloc (.cells (tokV t (.slice va t.attrs.length vc)) 37 (0, 0)))) := hide (by
        unfold tokV
        refine ⟨(Below.refl _ _).alloc (Nat.le_refl _) _, by simp, ?_, ?_, ?_, ?_⟩
        all_goals simp [go_sem])
      have hb00 := hI.bel.size
      have hb0 := Below.then hI.bel hbA
      have HR := hide (owns_below hI.row hbA)
      have hfew := hI.few
      have HPV := hide (hpv.below hbA)
      unfold tokV at hbA HBX hb0 HR HPV
      clear hc hI hdr ht hspec hpv
      go_wp2_with fail
      refine (isToken_any t _ _ (unhide HPV) hts B (Nat.le_trans (Nat.le_trans hB hb00) hbA.size) ((unhide HE).low (hb0.mono hB))).mono ?_
      rintro e w2 ⟨rfl, hb2⟩
      have hb02 := Below.then hb0 hb2
      have hbk := block_below (show (wr.alloc (.cells #[.int .i64 t.kind, .string t.name, .slice va t.attrs.length vc, .string t.text] 37 (0, 0))).heap[wr.heap.size]? = some (.cells #[.int .i64 t.kind, .string t.name, .slice va t.attrs.length vc, .string t.text] 37 (0, 0)) from alloc_blk _ _) hb2
      have HBK := hide hbk
      have HR2 := hide (owns_below (unhide HR) hb2)
      have hlt2 : w.heap.size ≤ w2.heap.size := hb02.size
      have d0 : w2.cell? ⟨wr.heap.size, 0, none⟩ = some (.int .i64 t.kind) := blk_cell hbk 0
      have d1 : w2.cell? ⟨wr.heap.size, 1, none⟩ = some (.string t.name) := blk_cell hbk 1
      clear HR HBX HPV hbk c0 c1 c2 c3
      cases hok : okB t
      · have HF : Hid (docB [] false 0 ts = false) := hide (by rw [unhide HSP, hok]; rfl)
        clear HSP hok
        go_wp2
        go_ret
        exact ⟨ret_bool (unhide HF).symm, hb02⟩
      · have HS2 : Hid (docB [] false 0 ts = (match docStp o r last t with | none => false | some x => docB x.1 x.2 t.kind (ts.drop (k + 1)))) := hide (by rw [unhide HSP, hok, Bool.true_and])
        have hkk := ok_kinds hok
        clear HSP hok
        obtain ⟨kd, nm, ats, tx'⟩ := t
        simp only at *
        have HI := hide (fun (o' : List ByteArray) (r' : Bool) (v' : Value) (W' : World) (h1 : Below w.heap.size w W') (h2 : W'.ownsRow w.heap.size 9 1 v' o'.length (o'.map Value.string)) (h3 : o'.length ≤ k + 1) (h4 : docStp o r last ⟨kd, nm, ats, tx'⟩ = some (o', r')) => (⟨by omega, h1, h2, h3, by rw [unhide HS2, h4]⟩ : DocSt w ts (k + 1) o' r' kd v' W'))
        have HF : Hid (docStp o r last ⟨kd, nm, ats, tx'⟩ = none → docB [] false 0 ts = false) := hide fun h => by rw [unhide HS2, h]
        clear HS2
        rcases hkk with rfl | rfl | rfl | rfl | rfl
        · -- an element
          have HD := hide (docS2 o r last nm ats tx')
          cases hoe : o.isEmpty
          · have htop : (((o.length : Nat) : Int) == 0) = false := by cases o with | nil => cases hoe | cons _ _ => simp; omega
            have HDS : Hid (docStp o r last ⟨2, nm, ats, tx'⟩ = some (o ++ [nm], true)) := hide (by rw [unhide HD, hoe, Bool.false_and]; rfl)
            obtain ⟨i0, hi, hz0, hz1, hz2⟩ := info_parts infoStrD
            go_wp2_with (at_builtin; refine wpList_append_own _ rfl _ _ 45 rfl w.heap.size 9 i0 _ 1 16 Tryz.underlying45 hi hz0 hz1 hz2 rfl (by decide) _ o.length (o.map Value.string) rfl (owns_below (unhide HR2) ((Below.refl _ _).alloc (Nat.le_refl _) _)) ⟨w2.heap.size, 0, none⟩ 1 1 [.string nm] rfl rfl (newsOne (by simp [go_sem])) (fun u hu => by simp at hu; subst hu; rfl) (by unfold maxLen; omega) (by omega) (by simp; omega) ?_; intro v8 w8 hown8 hgrow8 _; have e0 : w8.cell? ⟨wr.heap.size, 0, none⟩ = some (.int .i64 2) := blk_cell (box_kept (block_below (unhide HBK) ((Below.refl _ _).alloc (Nat.le_refl _) _)) hgrow8 (owns_not (unhide HR2) (unhide HBK) (by decide))) 0)
            have hb8 : Below w.heap.size w w8 := (Below.then hb02 ((Below.refl _ _).alloc (Nat.le_refl _) _)).grown hgrow8 (by simp; omega) (fun j hj => ((unhide HR2).lt j hj).1)
            have HI8 := hide (unhide HI (o ++ [nm]) true v8 w8 hb8 (by rw [List.length_append, List.map_append]; exact hown8) (by rw [List.length_append]; simp; omega) (unhide HDS))
            clear HI HF HDS HD hown8 hgrow8 hi hz0 hz1 hz2
            go_round
            case measure => simp [intOf]; omega
            case rel => exact ⟨k + 1, o ++ [nm], true, 2, by simp, rfl, rfl, unhide HI8⟩
          · have htop : (((o.length : Nat) : Int) == 0) = true := by cases o with | nil => rfl | cons _ _ => cases hoe
            cases r
            · have HDS : Hid (docStp o false last ⟨2, nm, ats, tx'⟩ = some (o ++ [nm], true)) := hide (by rw [unhide HD, hoe, Bool.and_false]; rfl)
              obtain ⟨i0, hi, hz0, hz1, hz2⟩ := info_parts infoStrD
              go_wp2_with (at_builtin; refine wpList_append_own _ rfl _ _ 45 rfl w.heap.size 9 i0 _ 1 16 Tryz.underlying45 hi hz0 hz1 hz2 rfl (by decide) _ o.length (o.map Value.string) rfl (owns_below (unhide HR2) ((Below.refl _ _).alloc (Nat.le_refl _) _)) ⟨w2.heap.size, 0, none⟩ 1 1 [.string nm] rfl rfl (newsOne (by simp [go_sem])) (fun u hu => by simp at hu; subst hu; rfl) (by unfold maxLen; omega) (by omega) (by simp; omega) ?_; intro v8 w8 hown8 hgrow8 _; have e0 : w8.cell? ⟨wr.heap.size, 0, none⟩ = some (.int .i64 2) := blk_cell (box_kept (block_below (unhide HBK) ((Below.refl _ _).alloc (Nat.le_refl _) _)) hgrow8 (owns_not (unhide HR2) (unhide HBK) (by decide))) 0)
              have hb8 : Below w.heap.size w w8 := (Below.then hb02 ((Below.refl _ _).alloc (Nat.le_refl _) _)).grown hgrow8 (by simp; omega) (fun j hj => ((unhide HR2).lt j hj).1)
              have HI8 := hide (unhide HI (o ++ [nm]) true v8 w8 hb8 (by rw [List.length_append, List.map_append]; exact hown8) (by rw [List.length_append]; simp; omega) (unhide HDS))
              clear HI HF HDS HD hown8 hgrow8 hi hz0 hz1 hz2
              go_round
              case measure => simp [intOf]; omega
              case rel => exact ⟨k + 1, o ++ [nm], true, 2, by simp, rfl, rfl, unhide HI8⟩
            · have HNO : docStp o true last ⟨2, nm, ats, tx'⟩ = none := by rw [unhide HD, hoe]; rfl
              clear HI
              go_wp2
              go_ret
              exact ⟨ret_bool (unhide HF HNO).symm, hb02⟩
        · have HD := hide (docS7 o r last nm ats tx')
          cases hg : o.getLast? with
          | none =>
            have HNO : Hid (docStp o r last ⟨7, nm, ats, tx'⟩ = none) := hide (by rw [unhide HD, hg])
            have hoe : o = [] := List.getLast?_eq_none_iff.1 hg
            have htop : (((o.length : Nat) : Int) == 0) = true := by rw [hoe]; rfl
            clear HI HD hg hoe
            go_wp2_with fail
            rw [htop]
            clear htop
            go_quiet (fail)
            go_wp2
            go_ret
            exact ⟨ret_bool (unhide HF (unhide HNO)).symm, Below.then hb02 (below_drewN _ _)⟩
          | some y =>
            have hne : o ≠ [] := fun h0 => by rw [h0] at hg; cases hg
            have hol := List.length_pos_iff.2 hne
            have htop : (((o.length : Nat) : Int) == 0) = false := by simp; omega
            obtain ⟨g7, c7, he7, hc7, hle7⟩ := strs_last (unhide HR2) hg
            cases he7
            have i1 : (0 : Int) ≤ (o.length : Int) - 1 := by omega
            have i2 : (o.length : Int) - 1 < (o.length : Int) := by omega
            have i3 : ((o.length : Int) - 1).toNat = o.length - 1 := by omega
            have i4 : IntKind.i64.wrap ((o.length : Int) - 1) = (o.length : Int) - 1 := by rw [IntKind.wrap_i64]; omega
            cases hcmp : (y.toList == nm.toList)
            · have HNO : Hid (docStp o r last ⟨7, nm, ats, tx'⟩ = none) := hide (by rw [unhide HD, hg]; simp only; rw [hcmp]; rfl)
              clear HI HD hg hne
              go_wp2_with fail
              rw [htop]
              clear htop
              go_quiet (fail)
              go_wp2
              go_ret
              exact ⟨ret_bool (unhide HF (unhide HNO)).symm, Below.then hb02 (below_drewN _ _)⟩
            · have HDS : Hid (docStp o r last ⟨7, nm, ats, tx'⟩ = some (o.dropLast, r)) := hide (by rw [unhide HD, hg]; simp only; rw [hcmp]; rfl)
              clear HF HD hg hne
              go_wp2_with fail
              rw [htop]
              clear htop
              go_quiet (fail)
              have hbq := below_drewN w2 nq
              have e0 := keptC hbq d0
              have HI8 := hide (unhide HI o.dropLast r _ (w2.drewN nq) (Below.then hb02 hbq) (strs_drop (owns_below (unhide HR2) hbq)) (by rw [List.length_dropLast]; omega) (unhide HDS))
              clear HI HDS
              generalize w2.drewN nq = W at *
              go_wp2_with fail
              go_round
              case measure => simp [intOf]; omega
              case rel => exact ⟨k + 1, o.dropLast, r, 7, by simp, rfl, rfl, unhide HI8⟩
        · have HD := hide (docS4 o r last nm ats tx')
          have htop : (((o.length : Nat) : Int) == 0) = o.isEmpty := by cases o with | nil => rfl | cons _ _ => simp; omega
          cases hoe : o.isEmpty
          · rw [hoe] at htop
            cases hla : (last == 4)
            · have HDS : Hid (docStp o r last ⟨4, nm, ats, tx'⟩ = some (o, r)) := hide (by rw [unhide HD, hoe, hla]; rfl)
              clear HF HD hoe
              go_wp2_with fail
              rw [htop]
              clear htop
              go_quiet (fail)
              have hbq := below_drewN w2 nq
              have e0 := keptC hbq d0
              have HI8 := hide (unhide HI o r (.slice ao o.length co) (w2.drewN nq) (Below.then hb02 hbq) (owns_below (unhide HR2) hbq) (by omega) (unhide HDS))
              clear HI HDS
              generalize w2.drewN nq = W at *
              go_wp2_with fail
              go_round
              case measure => simp [intOf]; omega
              case rel => exact ⟨k + 1, o, r, 4, by simp, rfl, rfl, unhide HI8⟩
            · have HNO : Hid (docStp o r last ⟨4, nm, ats, tx'⟩ = none) := hide (by rw [unhide HD, hoe, hla]; rfl)
              have hl4 : last = 4 := by simpa using hla
              subst hl4
              clear HI HD hoe hla
              go_wp2_with fail
              rw [htop]
              clear htop
              go_quiet (fail)
              have hbq := below_drewN w2 nq
              have e0 := keptC hbq d0
              generalize w2.drewN nq = W at *
              go_wp2
              go_ret
              exact ⟨ret_bool (unhide HF (unhide HNO)).symm, Below.then hb02 hbq⟩
          · rw [hoe] at htop
            have HNO : Hid (docStp o r last ⟨4, nm, ats, tx'⟩ = none) := hide (by rw [unhide HD, hoe]; rfl)
            clear HI HD hoe
            go_wp2_with fail
            rw [htop]
            clear htop
            go_quiet (fail)
            have hbq := below_drewN w2 nq
            have e0 := keptC hbq d0
            generalize w2.drewN nq = W at *
            go_wp2
            go_ret
            exact ⟨ret_bool (unhide HF (unhide HNO)).symm, Below.then hb02 hbq⟩
        · have HDS : Hid (docStp o r last ⟨5, nm, ats, tx'⟩ = some (o, r)) := hide rfl
          clear HF
          go_wp2_with fail
          generalize (((o.length : Nat) : Int) == 0) = b at *
          go_quiet (fail)
          have hbq := below_drewN w2 nq
          have e0 := keptC hbq d0
          have HI8 := hide (unhide HI o r (.slice ao o.length co) (w2.drewN nq) (Below.then hb02 hbq) (owns_below (unhide HR2) hbq) (by omega) (unhide HDS))
          clear HI HDS
          generalize w2.drewN nq = W at *
          go_wp2_with fail
          go_round
          case measure => simp [intOf]; omega
          case rel => exact ⟨k + 1, o, r, 5, by simp, rfl, rfl, unhide HI8⟩
        · have HDS : Hid (docStp o r last ⟨6, nm, ats, tx'⟩ = some (o, r)) := hide rfl
          clear HF
          go_wp2_with fail
          generalize (((o.length : Nat) : Int) == 0) = b at *
          go_quiet (fail)
          have hbq := below_drewN w2 nq
          have e0 := keptC hbq d0
          have HI8 := hide (unhide HI o r (.slice ao o.length co) (w2.drewN nq) (Below.then hb02 hbq) (owns_below (unhide HR2) hbq) (by omega) (unhide HDS))
          clear HI HDS
          generalize w2.drewN nq = W at *
          go_wp2_with fail
          go_round
          case measure => simp [intOf]; omega
          case rel => exact ⟨k + 1, o, r, 6, by simp, rfl, rfl, unhide HI8⟩
    · have n2 : ¬ (k : Int) < (ts.length : Int) := by omega
      have hkl : k = ts.length := by omega
      have hsp := hI.spec
      rw [hkl, List.drop_length] at hsp
      have HSP : Hid (docB [] false 0 ts = (r && o.isEmpty)) := hide hsp
      have hbI := hI.bel
      have htop : (((o.length : Nat) : Int) == 0) = o.isEmpty := by cases o with | nil => rfl | cons _ _ => simp; omega
      clear hI hsp
      cases r
      · clear htop
        go_wp2
        go_ret
        exact ⟨ret_bool (by rw [unhide HSP]; rfl), hbI⟩
      · go_wp2
        go_ret
        exact ⟨ret_bool (by rw [unhide HSP]; rfl), hbI⟩
end Go.Proofs.YtefjfjieoiegnaaGreatDoor
