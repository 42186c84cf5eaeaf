/- CDATA and end tags: xmlscan's section and endTag. -/
import Derived.Test.YtkklapoceknbcaaGreatDoorXmlPlainGo
namespace Go.Proofs.YtkklapoceknbcaaGreatDoor
open Go.RowKit
theorem section_eq (s : RS) : s.section' = match (s.take [60, 33, 91, 67, 68, 65, 84, 65, 91]).takeTo [93, 93, 62] with | none => .error (5, s.place) | some (t, s1) => { s1 with run := s.run ++ t }.room := rfl
set_option maxRecDepth 100000 in
set_option maxHeartbeats 2000000 in
theorem section_any (B p m : Nat) (vo vt vr : Value) (s : RS) (w : World) (R : Rd w B p m vo vt vr s) (hG : Good s) (hE : XEnv B w) (hs : s.sees [60, 33, 91, 67, 68, 65, 84, 65, 91] = true) :
    Calls Tryz.prog 80 #[.pointer (some ⟨p, 0, none⟩)] w fun e w' => outP s.section' B p m e w w' := by
  have hlow := R.low
  have hlt := R.lt
  have HD := hide (section_eq s)
  rw [take_adv hs] at HD
  have c1 : w.cell? ⟨p, 1, none⟩ = some (.int .i64 (s.place : Nat)) := R.at.pos
  have G1 := hG.adv 9
  obtain ⟨t0, hi, hz0, hz1, hz2⟩ := info_parts infoU8
  go_enter Tryz.func80, Tryz.ntmps80
  go_wp2_with fail
  refine (take_yes [60, 33, 91, 67, 68, 65, 84, 65, 91] ⟨#[60, 33, 91, 67, 68, 65, 84, 65, 91]⟩ rfl (by decide) p s _ R.at hG.fine hs).mono ?_
  rintro e w1 ⟨rfl, hm1⟩
  have hs1 : Hid (([60, 33, 91, 67, 68, 65, 84, 65, 91] : List Nat).length = 9) := hide rfl
  rw [unhide hs1] at hm1 HD
  have R1 := R.moved hm1 (Adv.by s 9)
  have hE1 := hE.moved hm1 hlow hlt
  have hb1 := hm1.low hlow (by omega)
  have hru : (s.adv 9).run = s.run := rfl
  have hsp1 : (s.adv 9).spent = s.spent := rfl
  generalize hg : s.adv 9 = s1 at *
  clear hg
  cases ht : s1.takeTo [93, 93, 62] with
  | none =>
    have HC := hide (takeTo_none ht)
    have HEQ : Hid (s.section' = .error (5, s.place)) := hide (by rw [unhide HD, ht])
    clear ht c1
    go_wp2_with fail
    refine (takeTo_no [93, 93, 62] ⟨#[93, 93, 62]⟩ rfl (by decide) (by simp) p s1 _ R1.at G1.fine hE1.env (unhide HC)).mono ?_
    rintro e w2 ⟨rfl, hb2⟩
    have R2 := R1.on hb2
    have hb2' := hb1.trans (hb2.mono (by have := R1.lt; omega))
    go_wp2_with (go_at_call 44; refine (fail_rd B p 5 s.place _ R2.blk rfl hlow).mono ?_; rintro e w3 ⟨rfl, hw3, hb3⟩)
    go_ret
    rw [unhide HEQ]
    exact ⟨hb2'.trans hb3, rfl, hw3⟩
  | some xs =>
    obtain ⟨x, s2⟩ := xs
    have HEQ : Hid (s.section' = { s2 with run := s.run ++ x }.room) := hide (by rw [unhide HD, ht])
    obtain ⟨hA, y, hc, hs2⟩ := Adv.takeTo ht
    have HC := hide hc
    have happ := cutL_app (by decide) (by simp) G1.fine.okR hc
    have hox : okL x := okL_left (okL_left (happ ▸ G1.fine.okR))
    obtain ⟨hpl, hzx⟩ := cut_place (by decide) (by simp) G1.fine hc
    rw [← hs2] at hpl
    have G2 := G1.to hA
    have hru2 : s2.run = s.run := by rw [hs2]; exact hru
    have hsp2 : s2.spent = s.spent := by rw [hs2]; exact hsp1
    have hsum := G1.fine.lt
    have hrl := G1.rl
    rw [hru] at hrl
    have hbound : (tx s.run).length + (T x).size ≤ 98304 := by have := G1.sp; omega
    rw [hs2] at HEQ
    clear ht c1 hc happ
    go_wp2_with fail
    refine (takeTo_yes [93, 93, 62] ⟨#[93, 93, 62]⟩ rfl (by decide) (by simp) p s1 x y _ R1.at G1.fine hE1.env (unhide HC)).mono ?_
    rintro e w2 ⟨rfl, hm2⟩
    have R2 := R1.moved hm2 (Adv.by _ _)
    have hb2' := hb1.trans (hm2.low hlow (by have := R1.lt; omega))
    rw [← hs2] at R2 HEQ
    have hr2 := R2.run
    rw [hru2] at hr2
    obtain ⟨ar, cr, rfl⟩ := owns_slice hr2
    have c6 : w2.cell? ⟨p, 6, none⟩ = some (.slice ar (tx s.run).length cr) := blk_cell R2.blk 6
    have o6 : w2.frozen? ⟨p, 6, none⟩ = false := blk_open R2.blk 6
    have HRUN := hide hr2
    have HR2 := hide R2
    have HO := hide G1.okr
    have hz2' : B ≤ w2.heap.size := by have := R2.lt; omega
    have HRU := hide hru2
    have HRU1 := hide hru
    clear hru2 hru hs2 hpl hzx hsum hrl hr2 R2 hsp1 hsp2
    go_wp2_with (first
      | (at_builtin; (refine Lib.wpList_append_own_string _ rfl _ _ 43 9 rfl B 5 t0 Tryz.underlying43 Tryz.underlying9 hi hz0 hz1 hz2 (.slice ar (tx s.run).length cr) (tx s.run).length (byteCells (tx s.run)) rfl (unhide HRUN) (T x) rfl (by unfold maxLen; omega) (by omega) hz2' ?_); intro v' w' hown hgrow _; obtain ⟨a6, b6, rfl⟩ := owns_slice hown; have hR := Rd.ran (x := x) (unhide HR2) hgrow (by rw [unhide HRU]; exact hown); have c6' : w'.cell? ⟨p, 6, none⟩ = some (.slice ar (tx s.run).length cr) := blk_cell hR.2 6; have o6' := blk_open hR.2 6; have HRR := hide hR.1; have hB' := Below.grown hb2' hgrow hz2' (owns_ge (unhide HRUN)); clear hR)
      | (go_at_call 82; refine (room_any B p m _ _ _ _ _ (unhide HRR) (fun hne => Nat.pos_of_ne_zero fun h0 => hne (tx_len_zero (by rw [unhide HRU]; exact okL_app (by rw [← unhide HRU1]; exact unhide HO) hox) h0))).mono ?_; intro e w6 ho; obtain ⟨b, rfl, ho⟩ := outP_form ho))
    go_ret
    rw [unhide HEQ, ← unhide HRU]
    exact outP_low (hB'.setCell hlow _) ho
/-- What is open, without the innermost one. -/
theorem Rd.closed {w : World} {B p m n co : Nat} {ao : Option Addr} {vt vr : Value} {s : RS} (R : Rd w B p m (.slice ao n co) vt vr s) : Rd (w.setCell ⟨p, 4, none⟩ (.slice ao (s.opn.length - 1) co)) B p m (.slice ao (s.opn.length - 1) co) vt vr { s with opn := s.opn.dropLast } := by
  have hk : ∀ k o, w.heap[k]? = some o → ¬ k = p → (w.setCell ⟨p, 4, none⟩ (.slice ao (s.opn.length - 1) co)).heap[k]? = some o := fun k o hk hs => by rw [blk_other hs]; exact hk
  have hrow : ∀ {base : Nat} {e : TypeId} {size : Nat} {v : Value} {n : Nat} {xs : List Value}, w.ownsRow base e size v n xs → e ≠ 56 → (w.setCell ⟨p, 4, none⟩ (.slice ao (s.opn.length - 1) co)).ownsRow base e size v n xs := fun ho he => owns_kept ho hk fun k hb hs => by
    subst hs
    exact owns_not ho R.blk he hb
  refine ⟨by rw [blk_set R.blk]; rfl, R.low, R.ents.kept (by rw [blk_other (R.ents.ne R.blk)]), ?_, ?_, hrow R.run (by decide)⟩
  · have hf := R.opn
    obtain ⟨a, c, e⟩ := owns_slice hf
    cases e
    have h1 := hrow (owns_pre hf (k := s.opn.length - 1) (by omega)) (by decide)
    rw [List.dropLast_eq_take, Nat.mul_one] at *
    show World.ownsRow _ _ _ _ _ (s.opn.take (s.opn.length - 1)).length (opnRow (s.opn.take (s.opn.length - 1)))
    rw [List.length_take, Nat.min_eq_left (by omega)]
    unfold opnRow at h1 ⊢
    rw [List.map_take]
    exact h1
  · refine R.toks.kept (· = p) hk fun k c hs => ?_
    subst hs
    rw [R.blk]
    exact ⟨fun e => (by cases e), fun e => (by cases e)⟩
end Go.Proofs.YtkklapoceknbcaaGreatDoor
