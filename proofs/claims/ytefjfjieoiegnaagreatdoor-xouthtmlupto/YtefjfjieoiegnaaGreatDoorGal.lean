/- Several texts, laid as one. -/
import Derived.Test.YtefjfjieoiegnaaGreatDoorGak
import Derived.Test.YtefjfjieoiegnaaGreatDoorGaj
/- Text as it stands, and CDATA: xmlscan's plain and section. -/
namespace Go.Proofs.YtefjfjieoiegnaaGreatDoor
open Go.RowKit
theorem ahead_pre (a l : List Nat) : ahead a l <+: l := by
  unfold ahead
  induction l with
  | nil => exact List.prefix_refl _
  | cons c t ih =>
    rw [cutL]
    split
    · rename_i h
      split at h
      · cases h
      · cases hc : cutL a t with
        | none => exact List.prefix_refl _
        | some x => rw [hc] at h; cases h
    · rename_i x h
      split at h
      · cases h; exact List.nil_prefix
      · cases hc : cutL a t with
        | none => rw [hc] at h; cases h
        | some y =>
          rw [hc] at h ih
          cases h
          exact List.cons_prefix_cons.2 ⟨rfl, ih⟩
theorem cut_ahead (a : List Nat) (u : ByteArray) (hu : u.data.toList = a.map UInt8.ofNat) (ha : ∀ c ∈ a, c < 128) (hne : a ≠ []) (l : List Nat) (hl : okL l) (hs : (T l).size ≤ 32768) (w : World) (hE : Env w) :
    Calls Tryz.prog 141 #[.string (T l), .string u] w fun e w' => (∃ y b, e = .returned (.tuple #[.string (T (ahead a l)), .string y, .bool b])) ∧ Below w.heap.size w w' := by
  refine (cut_T a u hu ha hne l hl hs w hE).mono ?_
  rintro e w' ⟨rfl, hb⟩
  refine ⟨?_, hb⟩
  unfold ahead
  cases cutL a l with
  | none => exact ⟨_, _, rfl⟩
  | some x => exact ⟨_, _, rfl⟩
theorem plainA_pre (l : List Nat) : plainA l <+: l := (ahead_pre _ _).trans ((ahead_pre _ _).trans (ahead_pre _ _))
theorem infoU8 : (Tryz.prog.info? 5).map (fun i => (i.zero, i.size, i.bytes)) = some (some (.int .u8 0), 1, 1) := by kernel_rfl
/-- A text more behind the last token, as far as there is room. -/
theorem Good.ran {s : RS} (h : Good s) {x : List Nat} (hx : okL x) (hl : (tx s.run).length + (T x).size ≤ s.place + s.spent) {s' : RS} (hr : { s with run := s.run ++ x }.room = .ok s') : Good s' ∧ s' = { s with run := s.run ++ x } := by
  unfold RS.room at hr
  split at hr
  · cases hr
  · rename_i hne
    cases hr
    refine ⟨⟨⟨h.fine.ok, h.fine.le⟩, h.n1, fun hx => ?_, okL_app h.okr hx, ?_, h.sp⟩, rfl⟩
    · have := h.n1
      have h2 : ¬ s.toks.length = 4096 := fun e => hne ⟨hx, e⟩
      show s.toks.length < 4096
      omega
    · show (tx (s.run ++ x)).length ≤ s.place + s.spent
      rw [tx_len_app, ← T_size x]; exact hl
set_option maxRecDepth 100000 in
set_option maxHeartbeats 2000000 in
theorem plain_any (B p m : Nat) (vo vt vr : Value) (s : RS) (w : World) (R : Rd w B p m vo vt vr s) (hG : Good s) (hE : XEnv B w) :
    Calls Tryz.prog 109 #[.pointer (some ⟨p, 0, none⟩)] w fun e w' => outP s.plain B p m e w w' := by
  have hlow := R.low
  have hlt := R.lt
  have i0 : ∀ w, (Instr.index 140 (.agg #[.string ⟨#[60]⟩, .string ⟨#[38]⟩, .string ⟨#[93, 93, 62]⟩]) (.int .i64 0)).run Tryz.prog w = .ok (.string ⟨#[60]⟩) w := fun _ => by kernel_rfl
  have i1 : ∀ w, (Instr.index 140 (.agg #[.string ⟨#[60]⟩, .string ⟨#[38]⟩, .string ⟨#[93, 93, 62]⟩]) (.int .i64 1)).run Tryz.prog w = .ok (.string ⟨#[38]⟩) w := fun _ => by kernel_rfl
  have i2 : ∀ w, (Instr.index 140 (.agg #[.string ⟨#[60]⟩, .string ⟨#[38]⟩, .string ⟨#[93, 93, 62]⟩]) (.int .i64 2)).run Tryz.prog w = .ok (.string ⟨#[93, 93, 62]⟩) w := fun _ => by kernel_rfl
  have hok := hG.fine.okR
  have hsz := hG.fine.lt
  have p1 := ahead_pre [60] s.rest
  have p2 := ahead_pre [38] (ahead [60] s.rest)
  have k1 := okL_pre hok p1
  have k2 := okL_pre k1 p2
  have z1 := size_pre p1
  have z2 := size_pre p2
  have z3 := size_pre (plainA_pre s.rest)
  have HPL := hide (place_pre s (plainA_pre s.rest))
  have HG := hide hG
  have hrl := hG.rl
  have hsp := hG.sp
  have hB0 : B ≤ w.heap.size := by omega
  have HD : Hid (s.plain = { s.adv (plainA s.rest).length with run := s.run ++ plainA s.rest }.room) := hide rfl
  have hoP := okL_pre hok (plainA_pre s.rest)
  have H3 : Hid (∀ W : World, Env W → Calls Tryz.prog 141 #[.string (T (ahead [38] (ahead [60] s.rest))), .string ⟨#[93, 93, 62]⟩] W fun e w' => (∃ y b, e = .returned (.tuple #[.string (T (plainA s.rest)), .string y, .bool b])) ∧ Below W.heap.size W w') :=
    hide fun W hW => cut_ahead [93, 93, 62] ⟨#[93, 93, 62]⟩ rfl (by decide) (by simp) _ k2 (by omega) W hW
  obtain ⟨t0, hi, hz0, hz1, hz2⟩ := info_parts infoU8
  generalize plainA s.rest = x at *
  go_enter Tryz.func109, Tryz.ntmps109
  go_wp2_with fail
  refine (rest_any p s _ R.at).mono ?_
  rintro e w1 ⟨rfl, hb1⟩
  go_wp2_with fail
  refine wp_loop_rounds 4 ?_
  rw [rounds_succ]
  go_wp2_with fail
  refine (cut_ahead [60] ⟨#[60]⟩ rfl (by decide) (by simp) s.rest hok (by omega) _ (hE.on hB0 hb1).env).mono ?_
  rintro e w2 ⟨⟨y1, b1, rfl⟩, hb2⟩
  have hbb2 := Below.then hb1 hb2
  go_wp2_with fail
  rw [rounds_succ]
  go_wp2_with fail
  refine (cut_ahead [38] ⟨#[38]⟩ rfl (by decide) (by simp) _ k1 (by omega) _ (hE.on hB0 hbb2).env).mono ?_
  rintro e w3 ⟨⟨y2, b2, rfl⟩, hb3⟩
  have hbb3 := Below.then hbb2 hb3
  go_wp2_with fail
  rw [rounds_succ]
  go_wp2_with fail
  refine (unhide H3 _ (hE.on hB0 hbb3).env).mono ?_
  rintro e w4 ⟨⟨y3, b3, rfl⟩, hb4⟩
  have hbb4 := Below.then hbb3 hb4
  have R4 := R.on hbb4
  have c1 : w4.cell? ⟨p, 1, none⟩ = some (.int .i64 (s.place : Nat)) := R4.at.pos
  have o1 : w4.frozen? ⟨p, 1, none⟩ = false := R4.at.thaw
  have R5 : Rd (w4.setCell ⟨p, 1, none⟩ (.int .i64 ((s.adv x.length).place : Nat))) B p m vo vt vr (s.adv x.length) := R4.moved (Below.refl _ _) (Adv.by _ _)
  have hB5 : Below B w (w4.setCell ⟨p, 1, none⟩ (.int .i64 ((s.adv x.length).place : Nat))) := (hbb4.mono hB0).setCell hlow _
  have hz5 : B ≤ (w4.setCell ⟨p, 1, none⟩ (.int .i64 ((s.adv x.length).place : Nat))).heap.size := by rw [blk_size]; have := R4.lt; omega
  obtain ⟨ar, cr, rfl⟩ := owns_slice R4.run
  have c6 : w4.cell? ⟨p, 6, none⟩ = some (.slice ar (tx s.run).length cr) := blk_cell R4.blk 6
  have o6 : w4.frozen? ⟨p, 6, none⟩ = false := blk_open R4.blk 6
  have HR5 := hide R5
  have HRUN : Hid ((w4.setCell ⟨p, 1, none⟩ (.int .i64 ((s.adv x.length).place : Nat))).ownsRow B 5 1 (.slice ar (tx s.run).length cr) (tx s.run).length (byteCells (tx s.run))) := hide R5.run
  have e1 : ((s.place : Int) + ((T x).size : Int)) = (((s.adv x.length).place : Nat) : Int) := by rw [unhide HPL]; omega
  have hsum : s.place + (T x).size ≤ 32768 := by omega
  have G5 : Good (s.adv x.length) := (unhide HG).adv _
  have hrl5 : (tx s.run).length + (T x).size ≤ (s.adv x.length).place + s.spent := by rw [unhide HPL]; omega
  clear hsz z1 z2 z3 R R4
  go_wp2_with fail
  rw [rounds_succ]
  go_wp2_with (first
    | (at_builtin; (refine Lib.wpList_append_own_string _ rfl _ _ 48 9 rfl B 5 t0 Tryz.underlying48 Tryz.underlying9 hi hz0 hz1 hz2 (.slice ar (tx s.run).length cr) (tx s.run).length (byteCells (tx s.run)) rfl (unhide HRUN) (T x) rfl (by unfold maxLen; omega) (by omega) hz5 ?_); intro v' w' hown hgrow _; obtain ⟨a6, b6, rfl⟩ := owns_slice hown; have hR := Rd.ran (unhide HR5) hgrow hown; have c6' : w'.cell? ⟨p, 6, none⟩ = some (.slice ar (tx s.run).length cr) := blk_cell hR.2 6; have o6' := blk_open hR.2 6; have HRR := hide hR.1; have hB' := Below.grown hB5 hgrow hz5 (owns_ge (unhide HRUN)); clear hR)
    | (go_at_call 108; refine (room_any B p m _ _ _ _ _ (unhide HRR) (fun hne => Nat.pos_of_ne_zero fun h0 => hne (tx_len_zero (okL_app (unhide HG).okr hoP) h0))).mono ?_; intro e w6 ho; obtain ⟨b, rfl, ho⟩ := outP_form ho))
  go_ret
  rw [unhide HD]
  exact outP_low (hB'.setCell hlow _) ho
end Go.Proofs.YtefjfjieoiegnaaGreatDoor
/- CDATA and end tags: xmlscan's section and endTag. -/
namespace Go.Proofs.YtefjfjieoiegnaaGreatDoor
open Go.RowKit
theorem section_eq (s : RS) : s.section' = match (s.take [60, 33, 91, 67, 68, 65, 84, 65, 91]).takeTo [93, 93, 62] with | none => .error (5, s.place) | some (t, s1) => { s1 with run := s.run ++ t }.room := rfl
set_option maxRecDepth 100000 in
set_option maxHeartbeats 2000000 in
theorem section_any (B p m : Nat) (vo vt vr : Value) (s : RS) (w : World) (R : Rd w B p m vo vt vr s) (hG : Good s) (hE : XEnv B w) (hs : s.sees [60, 33, 91, 67, 68, 65, 84, 65, 91] = true) :
    Calls Tryz.prog 106 #[.pointer (some ⟨p, 0, none⟩)] w fun e w' => outP s.section' B p m e w w' := by
  have hlow := R.low
  have hlt := R.lt
  have HD := hide (section_eq s)
  rw [take_adv hs] at HD
  have c1 : w.cell? ⟨p, 1, none⟩ = some (.int .i64 (s.place : Nat)) := R.at.pos
  have G1 := hG.adv 9
  obtain ⟨t0, hi, hz0, hz1, hz2⟩ := info_parts infoU8
  go_enter Tryz.func106, Tryz.ntmps106
  go_wp2_with fail
  refine (take_yes [60, 33, 91, 67, 68, 65, 84, 65, 91] ⟨#[60, 33, 91, 67, 68, 65, 84, 65, 91]⟩ rfl (by decide) p s _ R.at hG.fine hs).mono ?_
  rintro e w1 ⟨rfl, hm1⟩
  have hs1 : Hid (([60, 33, 91, 67, 68, 65, 84, 65, 91] : List Nat).length = 9) := hide rfl
  rw [unhide hs1] at hm1 HD
  have R1 := R.moved hm1 (Adv.by s 9)
  have hE1 := hE.moved hm1 hlow hlt
  have hb1 := hm1.low hlow (by omega)
  have hru : (s.adv 9).run = s.run := rfl
  have hsp1 : (s.adv 9).spent = s.spent := rfl
  generalize hg : s.adv 9 = s1 at *
  clear hg
  cases ht : s1.takeTo [93, 93, 62] with
  | none =>
    have HC := hide (takeTo_none ht)
    have HEQ : Hid (s.section' = .error (5, s.place)) := hide (by rw [unhide HD, ht])
    clear ht c1
    go_wp2_with fail
    refine (takeTo_no [93, 93, 62] ⟨#[93, 93, 62]⟩ rfl (by decide) (by simp) p s1 _ R1.at G1.fine hE1.env (unhide HC)).mono ?_
    rintro e w2 ⟨rfl, hb2⟩
    have R2 := R1.on hb2
    have hb2' := hb1.trans (hb2.mono (by have := R1.lt; omega))
    go_wp2_with (go_at_call 63; refine (fail_rd B p 5 s.place _ R2.blk rfl hlow).mono ?_; rintro e w3 ⟨rfl, hw3, hb3⟩)
    go_ret
    rw [unhide HEQ]
    exact ⟨hb2'.trans hb3, rfl, hw3⟩
  | some xs =>
    obtain ⟨x, s2⟩ := xs
    have HEQ : Hid (s.section' = { s2 with run := s.run ++ x }.room) := hide (by rw [unhide HD, ht])
    obtain ⟨hA, y, hc, hs2⟩ := Adv.takeTo ht
    have HC := hide hc
    have happ := cutL_app (by decide) (by simp) G1.fine.okR hc
    have hox : okL x := okL_left (okL_left (happ ▸ G1.fine.okR))
    obtain ⟨hpl, hzx⟩ := cut_place (by decide) (by simp) G1.fine hc
    rw [← hs2] at hpl
    have G2 := G1.to hA
    have hru2 : s2.run = s.run := by rw [hs2]; exact hru
    have hsp2 : s2.spent = s.spent := by rw [hs2]; exact hsp1
    have hsum := G1.fine.lt
    have hrl := G1.rl
    rw [hru] at hrl
    have hbound : (tx s.run).length + (T x).size ≤ 98304 := by have := G1.sp; omega
    rw [hs2] at HEQ
    clear ht c1 hc happ
    go_wp2_with fail
    refine (takeTo_yes [93, 93, 62] ⟨#[93, 93, 62]⟩ rfl (by decide) (by simp) p s1 x y _ R1.at G1.fine hE1.env (unhide HC)).mono ?_
    rintro e w2 ⟨rfl, hm2⟩
    have R2 := R1.moved hm2 (Adv.by _ _)
    have hb2' := hb1.trans (hm2.low hlow (by have := R1.lt; omega))
    rw [← hs2] at R2 HEQ
    have hr2 := R2.run
    rw [hru2] at hr2
    obtain ⟨ar, cr, rfl⟩ := owns_slice hr2
    have c6 : w2.cell? ⟨p, 6, none⟩ = some (.slice ar (tx s.run).length cr) := blk_cell R2.blk 6
    have o6 : w2.frozen? ⟨p, 6, none⟩ = false := blk_open R2.blk 6
    have HRUN := hide hr2
    have HR2 := hide R2
    have HO := hide G1.okr
    have hz2' : B ≤ w2.heap.size := by have := R2.lt; omega
    have HRU := hide hru2
    have HRU1 := hide hru
    clear hru2 hru hs2 hpl hzx hsum hrl hr2 R2 hsp1 hsp2
    go_wp2_with (first
      | (at_builtin; (refine Lib.wpList_append_own_string _ rfl _ _ 48 9 rfl B 5 t0 Tryz.underlying48 Tryz.underlying9 hi hz0 hz1 hz2 (.slice ar (tx s.run).length cr) (tx s.run).length (byteCells (tx s.run)) rfl (unhide HRUN) (T x) rfl (by unfold maxLen; omega) (by omega) hz2' ?_); intro v' w' hown hgrow _; obtain ⟨a6, b6, rfl⟩ := owns_slice hown; have hR := Rd.ran (x := x) (unhide HR2) hgrow (by rw [unhide HRU]; exact hown); have c6' : w'.cell? ⟨p, 6, none⟩ = some (.slice ar (tx s.run).length cr) := blk_cell hR.2 6; have o6' := blk_open hR.2 6; have HRR := hide hR.1; have hB' := Below.grown hb2' hgrow hz2' (owns_ge (unhide HRUN)); clear hR)
      | (go_at_call 108; refine (room_any B p m _ _ _ _ _ (unhide HRR) (fun hne => Nat.pos_of_ne_zero fun h0 => hne (tx_len_zero (by rw [unhide HRU]; exact okL_app (by rw [← unhide HRU1]; exact unhide HO) hox) h0))).mono ?_; intro e w6 ho; obtain ⟨b, rfl, ho⟩ := outP_form ho))
    go_ret
    rw [unhide HEQ, ← unhide HRU]
    exact outP_low (hB'.setCell hlow _) ho
/-- What is open, without the innermost one. -/
theorem Rd.closed {w : World} {B p m n co : Nat} {ao : Option Addr} {vt vr : Value} {s : RS} (R : Rd w B p m (.slice ao n co) vt vr s) : Rd (w.setCell ⟨p, 4, none⟩ (.slice ao (s.opn.length - 1) co)) B p m (.slice ao (s.opn.length - 1) co) vt vr { s with opn := s.opn.dropLast } := by
  have hk : ∀ k o, w.heap[k]? = some o → ¬ k = p → (w.setCell ⟨p, 4, none⟩ (.slice ao (s.opn.length - 1) co)).heap[k]? = some o := fun k o hk hs => by rw [blk_other hs]; exact hk
  have hrow : ∀ {base : Nat} {e : TypeId} {size : Nat} {v : Value} {n : Nat} {xs : List Value}, w.ownsRow base e size v n xs → e ≠ 63 → (w.setCell ⟨p, 4, none⟩ (.slice ao (s.opn.length - 1) co)).ownsRow base e size v n xs := fun ho he => owns_kept ho hk fun k hb hs => by
    subst hs
    exact owns_not ho R.blk he hb
  refine ⟨by rw [blk_set R.blk]; rfl, R.low, R.ents.kept (by rw [blk_other (R.ents.ne R.blk)]), ?_, ?_, hrow R.run (by decide)⟩
  · have hf := R.opn
    obtain ⟨a, c, e⟩ := owns_slice hf
    cases e
    have h1 := hrow (owns_pre hf (k := s.opn.length - 1) (by omega)) (by decide)
    rw [List.dropLast_eq_take, Nat.mul_one] at *
    show World.ownsRow _ _ _ _ _ (s.opn.take (s.opn.length - 1)).length (opnRow (s.opn.take (s.opn.length - 1)))
    rw [List.length_take, Nat.min_eq_left (by omega)]
    unfold opnRow at h1 ⊢
    rw [List.map_take]
    exact h1
  · refine R.toks.kept (· = p) hk fun k c hs => ?_
    subst hs
    rw [R.blk]
    exact ⟨fun e => (by cases e), fun e => (by cases e)⟩
end Go.Proofs.YtefjfjieoiegnaaGreatDoor
/- End tags: xmlscan's endTag. -/
namespace Go.Proofs.YtefjfjieoiegnaaGreatDoor
open Go.RowKit
/-- The names that are open are texts, and not too many. -/
def OpnOk (s : RS) : Prop := (∀ x ∈ s.opn, okL x ∧ (T x).size ≤ 32768) ∧ s.opn.length ≤ 32
theorem T_ne {a b : List Nat} (ha : okL a) (hb : okL b) (h : a ≠ b) : ((T a).toList == (T b).toList) = false := by
  rw [T_toList b, eq_T ha hb]
  simpa using h
theorem endTag_eq (s : RS) : s.endTag = if s.opn.getLast? = some (qnameA (s.take [60, 47]).rest) ∧ heads 62 (s.take [60, 47]).qname.blanks.rest = true then { (s.take [60, 47]).qname.blanks.adv 1 with opn := s.opn.dropLast }.tell ⟨7, qnameA (s.take [60, 47]).rest, [], []⟩ s.place else .error (5, s.place) := rfl
theorem opn_last {w : World} {B : Nat} {vo : Value} {l : List (List Nat)} (h : w.ownsRow B 9 1 vo l.length (opnRow l)) {x : List Nat} (hx : l.getLast? = some x) : ∃ g c, vo = .slice (some ⟨g, 0, none⟩) l.length c ∧ w.cell? ⟨g, l.length - 1, none⟩ = some (.string (T x)) ∧ l.length ≤ c := by
  rcases h.2 with ⟨_, h0⟩ | ⟨g, cap, cur, rfl, h2, h3, h4⟩
  · rw [List.length_eq_zero_iff.1 h0] at hx
    cases hx
  · refine ⟨g, cap, rfl, ?_, h4.1⟩
    have hl : 0 < l.length := by
      cases l with
      | nil => cases hx
      | cons _ _ => simp
    have hc := h.cellAt (l.length - 1) (by omega)
    rw [hc]
    unfold opnRow
    rw [List.getElem?_map, ← List.getLast?_eq_getElem?, hx]
    rfl
set_option maxRecDepth 100000 in
set_option maxHeartbeats 2000000 in
theorem endTag_any (B p m : Nat) (vo vt vr : Value) (s : RS) (w : World) (R : Rd w B p m vo vt vr s) (hG : Good s) (hO : OpnOk s) (hne : s.opn ≠ []) (hs : s.sees [60, 47] = true) :
    Calls Tryz.prog 105 #[.pointer (some ⟨p, 0, none⟩)] w fun e w' => outP s.endTag B p m e w w' := by
  have hlow := R.low
  have hlt := R.lt
  have HD := hide (endTag_eq s)
  rw [take_adv hs] at HD
  have c1 : w.cell? ⟨p, 1, none⟩ = some (.int .i64 (s.place : Nat)) := R.at.pos
  have G1 := hG.adv 2
  obtain ⟨x, hx⟩ : ∃ x, s.opn.getLast? = some x := by
    cases h : s.opn.getLast? with
    | none => exact absurd (List.getLast?_eq_none_iff.1 h) hne
    | some x => exact ⟨x, rfl⟩
  have hox := hO.1 x (List.mem_of_getLast? hx)
  have hl1 : 1 ≤ s.opn.length := by
    cases hh : s.opn with
    | nil => exact absurd hh hne
    | cons _ _ => simp
  have hl2 := hO.2
  go_enter Tryz.func105, Tryz.ntmps105
  go_wp2_with fail
  refine (take_yes [60, 47] ⟨#[60, 47]⟩ rfl (by decide) p s _ R.at hG.fine hs).mono ?_
  rintro e w1 ⟨rfl, hm1⟩
  have hs1 : Hid (([60, 47] : List Nat).length = 2) := hide rfl
  rw [unhide hs1] at hm1 HD
  have R1 := R.moved hm1 (Adv.by s 2)
  have hb1 := hm1.low hlow (by omega)
  have ho1 : (s.adv 2).opn = s.opn := rfl
  generalize hg : s.adv 2 = s1 at *
  clear hg
  go_wp2_with fail
  refine (qname_any p s1 _ R1.at G1.fine).mono ?_
  rintro e w2 ⟨rfl, hm2⟩
  have R2 := R1.moved hm2 (Adv.qname s1)
  have G2 := G1.to (Adv.qname s1)
  have hb2 := hb1.trans (hm2.low hlow (by have := R1.lt; omega))
  have hoq := okL_pre G1.fine.okR (qnameA_pre s1.rest)
  have ho2 : s1.qname.opn = s.opn := ho1
  have hd := unhide HD
  clear HD
  generalize qnameA s1.rest = q at *
  generalize hg : s1.qname = s2 at *
  clear hg
  go_wp2_with fail
  refine (blanks_any p s2 _ R2.at G2.fine).mono ?_
  rintro e w3 ⟨rfl, hm3⟩
  have R3 := R2.moved hm3 (Adv.blanks s2)
  have G3 := G2.to (Adv.blanks s2)
  have hb3 := hb2.trans (hm3.low hlow (by have := R2.lt; omega))
  have ho3 : s2.blanks.opn = s.opn := ho2
  generalize hg : s2.blanks = s3 at *
  clear hg
  have hro := R3.opn
  rw [ho3] at hro
  obtain ⟨g, c, rfl, hcl, hlc⟩ := opn_last hro hx
  have c4 : w3.cell? ⟨p, 4, none⟩ = some (.slice (some ⟨g, 0, none⟩) s.opn.length c) := blk_cell R3.blk 4
  have HR3 := hide R3
  have i1 : (0 : Int) ≤ (s.opn.length : Int) - 1 := by omega
  have i2 : (s.opn.length : Int) - 1 < (s.opn.length : Int) := by omega
  have i3 : ((s.opn.length : Int) - 1).toNat = s.opn.length - 1 := by omega
  have HO3 := hide ho3
  have hx' := hx
  clear ho3 ho2 ho1 hro hm3 hm2 hm1
  by_cases hqx : q = x
  · subst hqx
    have hcmp : ((T q).toList == (T q).toList) = true := by simp
    cases hh : heads 62 s3.rest
    · rw [hh] at hd
      have HEQ : Hid (s.endTag = .error (5, s.place)) := hide (by rw [hd, if_neg (fun h => by cases h.2)])
      have HH := hide hh
      clear hd hh hx hx'
      go_wp2_with (first
        | (go_at_call 101; refine (take_no [62] ⟨#[62]⟩ rfl (by decide) p s3 _ (unhide HR3).at G3.fine (by rw [isPre_one]; exact unhide HH)).mono ?_; rintro e w4 ⟨rfl, hb4⟩; have R4 := (unhide HR3).on hb4)
        | (go_at_call 63; refine (fail_rd B p 5 s.place _ R4.blk rfl hlow).mono ?_; rintro e w5 ⟨rfl, hw5, hb5⟩))
      go_ret
      rw [unhide HEQ]
      exact ⟨(hb3.trans (hb4.mono (by have := (unhide HR3).lt; omega))).trans hb5, rfl, hw5⟩
    · rw [hh] at hd
      have HEQ := hide (hd.trans (if_pos ⟨hx, rfl⟩))
      have HH := hide hh
      clear hd hh hx hx'
      go_wp2_with fail
      refine (take_yes [62] ⟨#[62]⟩ rfl (by decide) p s3 _ (unhide HR3).at G3.fine (by rw [isPre_one]; exact unhide HH)).mono ?_
      rintro e w4 ⟨rfl, hm4⟩
      have R4 := (unhide HR3).moved hm4 (Adv.by s3 1)
      have G4 := G3.adv 1
      have hb4 := hb3.trans (hm4.low hlow (by have := (unhide HR3).lt; omega))
      have ho4 : (s3.adv 1).opn = s.opn := unhide HO3
      generalize hg : s3.adv 1 = s4 at *
      clear hg
      have c4' : w4.cell? ⟨p, 4, none⟩ = some (.slice (some ⟨g, 0, none⟩) s.opn.length c) := blk_cell R4.blk 4
      have o4' : w4.frozen? ⟨p, 4, none⟩ = false := blk_open R4.blk 4
      have RC := R4.closed
      rw [ho4] at RC
      have GC : Good { s4 with opn := s.opn.dropLast } := ⟨⟨G4.fine.ok, G4.fine.le⟩, G4.n1, G4.n2, G4.okr, G4.rl, G4.sp⟩
      have hBC : Below B w (w4.setCell ⟨p, 4, none⟩ (.slice (some ⟨g, 0, none⟩) (s.opn.length - 1) c)) := hb4.setCell hlow _
      have hzC : B ≤ (w4.setCell ⟨p, 4, none⟩ (.slice (some ⟨g, 0, none⟩) (s.opn.length - 1) c)).heap.size := by rw [blk_size]; have := R4.lt; omega
      have HT : Hid (Calls Tryz.prog 99 #[.pointer (some ⟨p, 0, none⟩), .agg #[.int .i64 7, .string (T q), .slice none 0 0, .string ⟨#[]⟩], .int .i64 (s.place : Nat)] (w4.setCell ⟨p, 4, none⟩ (.slice (some ⟨g, 0, none⟩) (s.opn.length - 1) c)) fun e w' => outP ({ s4 with opn := s.opn.dropLast }.tell ⟨7, q, [], []⟩ s.place) B p m e (w4.setCell ⟨p, 4, none⟩ (.slice (some ⟨g, 0, none⟩) (s.opn.length - 1) c)) w') :=
        hide (tell_any B p m _ _ _ (.slice none 0 0) _ ⟨7, q, [], []⟩ s.place _ RC (World.ownsRow_nil _ _ _ _) GC.flush GC.pos hzC)
      clear RC R4 ho4
      go_wp2_with (go_at_call 99; refine (unhide HT).mono ?_; intro e w6 ho; obtain ⟨b, rfl, ho⟩ := outP_form ho)
      go_ret
      rw [unhide HEQ]
      exact outP_low hBC ho
  · have hcmp := T_ne hoq hox.1 hqx
    have HEQ : Hid (s.endTag = .error (5, s.place)) := hide (by rw [hd, if_neg]; rintro ⟨h1, _⟩; rw [hx] at h1; cases h1; exact hqx rfl)
    clear hd hx hx' hqx
    go_wp2_with (go_at_call 63; refine (fail_rd B p 5 s.place _ (unhide HR3).blk rfl hlow).mono ?_; rintro e w5 ⟨rfl, hw5, hb5⟩)
    go_ret
    rw [unhide HEQ]
    exact ⟨hb3.trans hb5, rfl, hw5⟩
end Go.Proofs.YtefjfjieoiegnaaGreatDoor
/- Characters looked for among signs below 128: strings.IndexRune. -/
namespace Go.Proofs.YtefjfjieoiegnaaGreatDoor
open Go.RowKit
theorem xEncode_eq (r : Nat) (ho : okR r) : (Utf8.encode (r : Int)).data.toList = runeB r := by
  have ho' := ho
  unfold okR at ho'
  have hv : Utf8.valid (r : Int) = true := by
    unfold Utf8.valid
    simp
    omega
  unfold Utf8.encode
  simp only [hv, if_true, Int.toNat_natCast]
  by_cases h1 : r < 128
  · rw [if_pos h1, runeB_one h1]
  · rw [if_neg h1]
    by_cases h2 : r < 2048
    · rw [if_pos h2, runeB_two (by omega) h2]
    · rw [if_neg h2]
      by_cases h3 : r < 65536
      · rw [if_pos h3, runeB_three (by omega) h3 ho]
      · rw [if_neg h3, runeB_four (by omega) (by omega)]
theorem encode_T (c : Nat) (ho : okR c) : Utf8.encode (c : Int) = T [c] := by
  apply ByteArray.ext
  apply Array.toList_inj.1
  rw [xEncode_eq c ho, T_data]
  simp [tx]
/-- A character as a text. -/
theorem conv_rune (c : Nat) (ho : okR c) (w : World) : (convert 21 9 (.int .i32 (c : Int))).run Tryz.prog w = .ok (.string (T [c])) w := by
  rw [← encode_T c ho]
  exact run_convert_int_string w 21 9 .i32 (c : Int) (by rw [Tryz.underlying21]; rfl) Tryz.underlying9
/-- A character above 127 as a text: how long it is, and its last byte. -/
theorem high_text (c : Nat) (ho : okR c) (hc : 128 ≤ c) : ∃ X : ByteArray, (∀ w, (convert 21 9 (.int .i32 (c : Int))).run Tryz.prog w = .ok (.string X) w) ∧ (X.size = 2 ∨ X.size = 3 ∨ X.size = 4) ∧
    ∃ y : Nat, 128 ≤ y ∧ y < 256 ∧ ∀ w, (Instr.index 9 (.string X) (.int .i64 ((X.size : Int) - 1))).run Tryz.prog w = .ok (.int .u8 (y : Int)) w := by
  have hok := ho
  unfold okR at hok
  refine ⟨T [c], conv_rune c ho, ?_, ?_⟩
  · rw [T_size]
    have : tx [c] = runeB c := by simp [tx]
    rw [this]
    by_cases h2 : c < 2048
    · rw [runeB_two hc h2]; simp
    · by_cases h3 : c < 65536
      · rw [runeB_three (by omega) h3 ho]; simp
      · rw [runeB_four (by omega) (by omega)]; simp
  · have e : (T [c]).data.toList = runeB c := by rw [T_data]; simp [tx]
    have hne : runeB c ≠ [] := by
      obtain ⟨x, t, h, _⟩ := runeB_first ho
      rw [h]; simp
    have hs : (T [c]).size = (runeB c).length := by rw [← e]; rfl
    have hpos : 0 < (T [c]).size := by rw [hs]; exact List.length_pos_iff.2 hne
    have hlast := runeB_high ho hc ((T [c])[(T [c]).size - 1]'(by omega)) (by
      rw [← e]
      exact Array.mem_toList_iff.2 (Array.getElem_mem _))
    refine ⟨((T [c])[(T [c]).size - 1]'(by omega)).toNat, hlast, UInt8.toNat_lt _, fun w => ?_⟩
    rw [run_index_string w 9 (T [c]) .i64 _ Tryz.underlying9, dif_pos ⟨by omega, by omega⟩]
    congr 3
    · congr 2
      omega
end Go.Proofs.YtefjfjieoiegnaaGreatDoor
/- A character above 127 among signs below 128: strings.IndexRune. -/
namespace Go.Proofs.YtefjfjieoiegnaaGreatDoor
open Go.RowKit
set_option maxRecDepth 100000 in
set_option maxHeartbeats 2000000 in
theorem indexRune_error (l : List Nat) (hl : okL l) (ha : ∀ x ∈ l, x < 128) (w : World) :
    Calls Tryz.prog 186 #[.string (T l), .int .i32 65533] w fun e w' => e = .returned (.int .i64 (-1)) ∧ Below w.heap.size w w' := by
  go_enter Tryz.func186, Tryz.ntmps186
  go_wp2_with fail
  go_loopw [5, 6] (fun _ _ w' => ∃ p t : List Nat, l = p ++ t ∧ w' = w.iter (T l) (tx p).length) (fun _ _ w' => (T l).size - w'.iterPos w.heap.size)
  case atStart => exact ⟨[], l, rfl, rfl⟩
  case round =>
    obtain ⟨p, t, hpt, rfl⟩ := hrel
    cases t with
    | nil =>
      have hnx : ∀ ty, (Instr.next (.pointer (some ⟨w.heap.size, 0, none⟩)) true ty).run Tryz.prog (w.iter (T l) (tx p).length) = _ := fun ty => run_next_end w (T l) (tx p).length ty (end_at hpt)
      clear hpt
      go_wp2
      go_ret
      exact ⟨rfl, (Below.refl _ _).alloc (Nat.le_refl _) _⟩
    | cons c t =>
      obtain ⟨hd, hlt, hc, hpos⟩ := dec_at hpt hl
      have hnx : ∀ ty, (Instr.next (.pointer (some ⟨w.heap.size, 0, none⟩)) true ty).run Tryz.prog (w.iter (T l) (tx p).length) = _ := fun ty => run_next_any w (T l) (tx p).length ty hlt
      rw [hd] at hnx
      simp only at hnx
      have HS := hide (tx_snoc p c)
      have HPT := hide hpt
      have hcl : c < 128 := ha c (by rw [hpt]; simp)
      have hne : ((c : Int) == 65533) = false := by simp; omega
      clear hd hpt
      go_wp2
      exact ⟨⟨p ++ [c], t, by rw [unhide HPT]; simp, by rw [unhide HS]⟩, by simp; omega⟩
set_option maxRecDepth 100000 in
set_option maxHeartbeats 4000000 in
theorem indexRune_two (l : List Nat) (ha : ∀ x ∈ l, x < 128) (hz : l.length ≤ 64) (k : Nat) (hk : k = 1 ∨ k = 2 ∨ k = 3) (X : ByteArray) (hs : X.size = k + 1) (c y : Nat) (ho : okR c) (hc : 128 ≤ c) (hne : c ≠ 65533)
    (hX : ∀ w, (convert 21 9 (.int .i32 (c : Int))).run Tryz.prog w = .ok (.string X) w) (hy1 : 128 ≤ y) (hy2 : y < 256)
    (hix : ∀ w, (Instr.index 9 (.string X) (.int .i64 (k : Int))).run Tryz.prog w = .ok (.int .u8 (y : Int)) w) (w : World) :
    Calls Tryz.prog 186 #[.string (T l), .int .i32 (c : Int)] w fun e w' => e = .returned (.int .i64 (-1)) ∧ Below w.heap.size w w' := by
  have h1 : decide ((c : Int) < 128) = false := decide_eq_false (by omega)
  have h2 : ((c : Int) == 65533) = false := by simpa using (by omega : ¬ (c : Int) = 65533)
  have HV := hide (Tryz.utf8_ValidRune (c : Int))
  have hvt : Lib.validRune (c : Int) = true := by
    have hok := ho
    unfold okR at hok
    unfold Lib.validRune
    simp
    omega
  have hsz : (T l).size = l.length := by rw [T_size, sign_len_tx ha, List.length_map]
  have hb : ∀ b ∈ (T l).data.toList, b.toNat < 128 := by
    rw [T_data]
    intro b hb
    obtain ⟨x, hx, hbx⟩ := List.mem_flatMap.1 (by simpa [tx] using hb)
    have := ha x hx
    rw [runeB_one this] at hbx
    simp at hbx
    subst hbx
    simp
    omega
  generalize hS : T l = S at *
  have hi : ((X.size : Int) - 1) = (k : Int) := by omega
  have hw1 : wrap64 ((X.size : Int) - 1) = (k : Int) := by rw [hi]; unfold wrap64; omega
  have HIB : Hid (∀ (n : Nat) (w : World), Calls Tryz.prog 201 #[.string (S.extract n S.size), .int .u8 (y : Int)] w fun e w' => e = .returned (.int .i64 (-1)) ∧ w' = w) := by
    refine hide fun n w => (Tryz.strings_IndexByte _ _ w).mono ?_
    rintro e w' ⟨rfl, rfl⟩
    refine ⟨?_, rfl⟩
    rw [indexByte_none]
    intro hm
    have hm' : ((y : Int).toNat.toUInt8) ∈ S.data.toList := by
      rw [ByteArray.data_extract, Array.toList_extract] at hm
      exact List.mem_of_mem_drop (List.mem_of_mem_take hm)
    have hy : ((y : Int).toNat.toUInt8).toNat = y := by
      simp
      omega
    have := hb _ hm'
    omega
  have hcmp : ∀ (k : Nat) (hk : k < S.size), (((S[k]'hk).toNat : Int) != (y : Int)) = true := fun k hk => by
    have := hb (S[k]'hk) (Array.mem_toList_iff.2 (Array.getElem_mem _))
    simp
    omega
  clear hb hS ha
  go_enter Tryz.func186, Tryz.ntmps186
  go_wp2_with fail
  refine (unhide HV _).mono ?_
  rintro e w1 ⟨rfl, rfl⟩
  rw [hvt]
  go_wp2_with fail
  go_step3
  go_wp2_with fail
  refine wp_loop_rounds 2 ?_
  rw [rounds_succ]
  by_cases hkS : k < S.size
  · have hne1 := hcmp k hkS
    have hk1 : (k : Int) < (S.size : Int) := by omega
    obtain ⟨z, hz'⟩ : ∃ z : Int, ((S[k]'hkS).toNat : Int) = z := ⟨_, rfl⟩
    rw [hz'] at hne1
    have hSi : ∀ w, (Instr.index 9 (.string S) (.int .i64 (k : Int))).run Tryz.prog w = .ok (.int .u8 z) w := fun w => by
      rw [run_index_string w 9 S .i64 _ Tryz.underlying9, dif_pos ⟨by omega, by omega⟩]
      rw [← hz']
      simp
    have HKS := hide hkS
    have HZ : Hid ((S.size : Int) ≤ 64) := hide (by omega)
    obtain ⟨K, hK⟩ : ∃ K : Int, (k : Int) = K := ⟨_, rfl⟩
    have HK := hide hK
    rw [hK] at hSi hk1 hix
    rw [hK]
    have hd : decide (K < (S.size : Int)) = true := decide_eq_true hk1
    have HD := hide hk1
    clear hcmp hz' hkS hs hi hw1 hk hK hz hsz h1 h2 hvt HV hc hne ho hX hy1 hy2 hk1
    go_wp2_with fail
    go_step3
    go_wp2_with fail
    have HX : Hid (ClsW w1 w1.drew) := hide ⟨Below.drew (Below.refl _ _)⟩
    refine wp_region_cls (ClsW w1) (by kernel_rfl) (by kernel_rfl) (unhide HX) ?_
    repeat
      (first
        | go_big_quiet_skip
        | (go_big_quiet_want
           go_big_quiet_op
           first
             | go_big_quiet_on
             | (apply Exists.intro
                refine ⟨fun w' hC => ?_, ?_⟩
                · (go_simp; first | done | rfl)
                go_big_quiet_on)))
    refine wpQuiet_nil ?_
    intro w4 hC4
    have hb4 := hC4.bel
    obtain ⟨M, hM0, hM1, hM2⟩ : ∃ M : Int, IntKind.i64.wrap (K + 1) = M ∧ 0 ≤ M ∧ M ≤ (S.size : Int) := by
      have a1 := unhide HD
      have a2 := unhide HK
      have a3 := unhide HZ
      refine ⟨K + 1, ?_, by omega, by omega⟩
      rw [IntKind.wrap_i64]; omega
    go_wp2_with fail
    have HX4 : Hid (ClsW w4 w4.drew) := hide ⟨Below.drew (Below.refl _ _)⟩
    refine wp_region_cls (ClsW w4) (by kernel_rfl) (by kernel_rfl) (unhide HX4) ?_
    repeat
      (first
        | go_big_quiet_skip
        | (go_big_quiet_want
           go_big_quiet_op
           first
             | go_big_quiet_on
             | (apply Exists.intro
                refine ⟨fun w' hC => ?_, ?_⟩
                · (first
                    | (go_at_call 201; refine (unhide HIB _ _).mono ?_; rintro e w3 ⟨rfl, rfl⟩; exact ⟨rfl, hC⟩)
                    | (go_simp; first | done | rfl))
                go_big_quiet_on)))
    refine wpQuiet_nil ?_
    intro w5 hC5
    have hb5 := hC5.bel
    go_wp2
    simp only [Exit.noGoto, Exit.inBlock, Exit.then]
    go_ret
    exact ⟨rfl, hb4.trans (hb5.mono hb4.size)⟩
  · have hk1 : decide ((k : Int) < (S.size : Int)) = false := decide_eq_false (by omega)
    obtain ⟨K, hK⟩ : ∃ K : Int, (k : Int) = K := ⟨_, rfl⟩
    rw [hK] at hk1
    rw [hK]
    clear hcmp hkS hs hi hw1 hk hK hz hsz h1 h2 hvt HV hc hne ho hX hy1 hy2
    go_wp2
    rw [Exit.noGoto_ret]
    go_ret
    exact ⟨rfl, Below.refl _ _⟩
theorem indexRune_high (l : List Nat) (hl : okL l) (ha : ∀ x ∈ l, x < 128) (hz : l.length ≤ 64) (c : Nat) (ho : okR c) (hc : 128 ≤ c) (w : World) :
    Calls Tryz.prog 186 #[.string (T l), .int .i32 (c : Int)] w fun e w' => e = .returned (.int .i64 (-1)) ∧ Below w.heap.size w w' := by
  by_cases hne : c = 65533
  · subst hne; exact indexRune_error l hl ha w
  · obtain ⟨X, hX, hsz, y, hy1, hy2, hix⟩ := high_text c ho hc
    refine indexRune_two l ha hz (X.size - 1) (by omega) X (by omega) c y ho hc hne hX hy1 hy2 ?_ w
    rw [show ((X.size - 1 : Nat) : Int) = (X.size : Int) - 1 by omega]
    exact hix
end Go.Proofs.YtefjfjieoiegnaaGreatDoor
