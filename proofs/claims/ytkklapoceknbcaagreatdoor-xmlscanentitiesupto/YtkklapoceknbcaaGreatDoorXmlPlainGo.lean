/- Text as it stands, and CDATA: xmlscan's plain and section. -/
import Derived.Test.YtkklapoceknbcaaGreatDoorXmlText
namespace Go.Proofs.YtkklapoceknbcaaGreatDoor
open Go.RowKit
theorem ahead_pre (a l : List Nat) : ahead a l <+: l := by
  unfold ahead
  induction l with
  | nil => exact List.prefix_refl _
  | cons c t ih =>
    rw [cutL]
    split
    · rename_i h
      split at h
      · cases h
      · cases hc : cutL a t with
        | none => exact List.prefix_refl _
        | some x => rw [hc] at h; cases h
    · rename_i x h
      split at h
      · cases h; exact List.nil_prefix
      · cases hc : cutL a t with
        | none => rw [hc] at h; cases h
        | some y =>
          rw [hc] at h ih
          cases h
          exact List.cons_prefix_cons.2 ⟨rfl, ih⟩
theorem cut_ahead (a : List Nat) (u : ByteArray) (hu : u.data.toList = a.map UInt8.ofNat) (ha : ∀ c ∈ a, c < 128) (hne : a ≠ []) (l : List Nat) (hl : okL l) (hs : (T l).size ≤ 32768) (w : World) (hE : Env w) :
    Calls Tryz.prog 108 #[.string (T l), .string u] w fun e w' => (∃ y b, e = .returned (.tuple #[.string (T (ahead a l)), .string y, .bool b])) ∧ Below w.heap.size w w' := by
  refine (cut_T a u hu ha hne l hl hs w hE).mono ?_
  rintro e w' ⟨rfl, hb⟩
  refine ⟨?_, hb⟩
  unfold ahead
  cases cutL a l with
  | none => exact ⟨_, _, rfl⟩
  | some x => exact ⟨_, _, rfl⟩
theorem plainA_pre (l : List Nat) : plainA l <+: l := (ahead_pre _ _).trans ((ahead_pre _ _).trans (ahead_pre _ _))
theorem infoU8 : (Tryz.prog.info? 5).map (fun i => (i.zero, i.size, i.bytes)) = some (some (.int .u8 0), 1, 1) := by kernel_rfl
/-- A text more behind the last token, as far as there is room. -/
theorem Good.ran {s : RS} (h : Good s) {x : List Nat} (hx : okL x) (hl : (tx s.run).length + (T x).size ≤ s.place + s.spent) {s' : RS} (hr : { s with run := s.run ++ x }.room = .ok s') : Good s' ∧ s' = { s with run := s.run ++ x } := by
  unfold RS.room at hr
  split at hr
  · cases hr
  · rename_i hne
    cases hr
    refine ⟨⟨⟨h.fine.ok, h.fine.le⟩, h.n1, fun hx => ?_, okL_app h.okr hx, ?_, h.sp⟩, rfl⟩
    · have := h.n1
      have h2 : ¬ s.toks.length = 4096 := fun e => hne ⟨hx, e⟩
      show s.toks.length < 4096
      omega
    · show (tx (s.run ++ x)).length ≤ s.place + s.spent
      rw [tx_len_app, ← T_size x]; exact hl
set_option maxRecDepth 100000 in
set_option maxHeartbeats 2000000 in
theorem plain_any (B p m : Nat) (vo vt vr : Value) (s : RS) (w : World) (R : Rd w B p m vo vt vr s) (hG : Good s) (hE : XEnv B w) :
    Calls Tryz.prog 83 #[.pointer (some ⟨p, 0, none⟩)] w fun e w' => outP s.plain B p m e w w' := by
  have hlow := R.low
  have hlt := R.lt
  have i0 : ∀ w, (Instr.index 110 (.agg #[.string ⟨#[60]⟩, .string ⟨#[38]⟩, .string ⟨#[93, 93, 62]⟩]) (.int .i64 0)).run Tryz.prog w = .ok (.string ⟨#[60]⟩) w := fun _ => by kernel_rfl
  have i1 : ∀ w, (Instr.index 110 (.agg #[.string ⟨#[60]⟩, .string ⟨#[38]⟩, .string ⟨#[93, 93, 62]⟩]) (.int .i64 1)).run Tryz.prog w = .ok (.string ⟨#[38]⟩) w := fun _ => by kernel_rfl
  have i2 : ∀ w, (Instr.index 110 (.agg #[.string ⟨#[60]⟩, .string ⟨#[38]⟩, .string ⟨#[93, 93, 62]⟩]) (.int .i64 2)).run Tryz.prog w = .ok (.string ⟨#[93, 93, 62]⟩) w := fun _ => by kernel_rfl
  have hok := hG.fine.okR
  have hsz := hG.fine.lt
  have p1 := ahead_pre [60] s.rest
  have p2 := ahead_pre [38] (ahead [60] s.rest)
  have k1 := okL_pre hok p1
  have k2 := okL_pre k1 p2
  have z1 := size_pre p1
  have z2 := size_pre p2
  have z3 := size_pre (plainA_pre s.rest)
  have HPL := hide (place_pre s (plainA_pre s.rest))
  have HG := hide hG
  have hrl := hG.rl
  have hsp := hG.sp
  have hB0 : B ≤ w.heap.size := by omega
  have HD : Hid (s.plain = { s.adv (plainA s.rest).length with run := s.run ++ plainA s.rest }.room) := hide rfl
  have hoP := okL_pre hok (plainA_pre s.rest)
  have H3 : Hid (∀ W : World, Env W → Calls Tryz.prog 108 #[.string (T (ahead [38] (ahead [60] s.rest))), .string ⟨#[93, 93, 62]⟩] W fun e w' => (∃ y b, e = .returned (.tuple #[.string (T (plainA s.rest)), .string y, .bool b])) ∧ Below W.heap.size W w') :=
    hide fun W hW => cut_ahead [93, 93, 62] ⟨#[93, 93, 62]⟩ rfl (by decide) (by simp) _ k2 (by omega) W hW
  obtain ⟨t0, hi, hz0, hz1, hz2⟩ := info_parts infoU8
  generalize plainA s.rest = x at *
  go_enter Tryz.func83, Tryz.ntmps83
  go_wp2_with fail
  refine (rest_any p s _ R.at).mono ?_
  rintro e w1 ⟨rfl, hb1⟩
  go_wp2_with fail
  refine wp_loop_rounds 4 ?_
  rw [rounds_succ]
  go_wp2_with fail
  refine (cut_ahead [60] ⟨#[60]⟩ rfl (by decide) (by simp) s.rest hok (by omega) _ (hE.on hB0 hb1).env).mono ?_
  rintro e w2 ⟨⟨y1, b1, rfl⟩, hb2⟩
  have hbb2 := Below.then hb1 hb2
  go_wp2_with fail
  rw [rounds_succ]
  go_wp2_with fail
  refine (cut_ahead [38] ⟨#[38]⟩ rfl (by decide) (by simp) _ k1 (by omega) _ (hE.on hB0 hbb2).env).mono ?_
  rintro e w3 ⟨⟨y2, b2, rfl⟩, hb3⟩
  have hbb3 := Below.then hbb2 hb3
  go_wp2_with fail
  rw [rounds_succ]
  go_wp2_with fail
  refine (unhide H3 _ (hE.on hB0 hbb3).env).mono ?_
  rintro e w4 ⟨⟨y3, b3, rfl⟩, hb4⟩
  have hbb4 := Below.then hbb3 hb4
  have R4 := R.on hbb4
  have c1 : w4.cell? ⟨p, 1, none⟩ = some (.int .i64 (s.place : Nat)) := R4.at.pos
  have o1 : w4.frozen? ⟨p, 1, none⟩ = false := R4.at.thaw
  have R5 : Rd (w4.setCell ⟨p, 1, none⟩ (.int .i64 ((s.adv x.length).place : Nat))) B p m vo vt vr (s.adv x.length) := R4.moved (Below.refl _ _) (Adv.by _ _)
  have hB5 : Below B w (w4.setCell ⟨p, 1, none⟩ (.int .i64 ((s.adv x.length).place : Nat))) := (hbb4.mono hB0).setCell hlow _
  have hz5 : B ≤ (w4.setCell ⟨p, 1, none⟩ (.int .i64 ((s.adv x.length).place : Nat))).heap.size := by rw [blk_size]; have := R4.lt; omega
  obtain ⟨ar, cr, rfl⟩ := owns_slice R4.run
  have c6 : w4.cell? ⟨p, 6, none⟩ = some (.slice ar (tx s.run).length cr) := blk_cell R4.blk 6
  have o6 : w4.frozen? ⟨p, 6, none⟩ = false := blk_open R4.blk 6
  have HR5 := hide R5
  have HRUN : Hid ((w4.setCell ⟨p, 1, none⟩ (.int .i64 ((s.adv x.length).place : Nat))).ownsRow B 5 1 (.slice ar (tx s.run).length cr) (tx s.run).length (byteCells (tx s.run))) := hide R5.run
  have e1 : ((s.place : Int) + ((T x).size : Int)) = (((s.adv x.length).place : Nat) : Int) := by rw [unhide HPL]; omega
  have hsum : s.place + (T x).size ≤ 32768 := by omega
  have G5 : Good (s.adv x.length) := (unhide HG).adv _
  have hrl5 : (tx s.run).length + (T x).size ≤ (s.adv x.length).place + s.spent := by rw [unhide HPL]; omega
  clear hsz z1 z2 z3 R R4
  go_wp2_with fail
  rw [rounds_succ]
  go_wp2_with (first
    | (at_builtin; (refine Lib.wpList_append_own_string _ rfl _ _ 43 9 rfl B 5 t0 Tryz.underlying43 Tryz.underlying9 hi hz0 hz1 hz2 (.slice ar (tx s.run).length cr) (tx s.run).length (byteCells (tx s.run)) rfl (unhide HRUN) (T x) rfl (by unfold maxLen; omega) (by omega) hz5 ?_); intro v' w' hown hgrow _; obtain ⟨a6, b6, rfl⟩ := owns_slice hown; have hR := Rd.ran (unhide HR5) hgrow hown; have c6' : w'.cell? ⟨p, 6, none⟩ = some (.slice ar (tx s.run).length cr) := blk_cell hR.2 6; have o6' := blk_open hR.2 6; have HRR := hide hR.1; have hB' := Below.grown hB5 hgrow hz5 (owns_ge (unhide HRUN)); clear hR)
    | (go_at_call 82; refine (room_any B p m _ _ _ _ _ (unhide HRR) (fun hne => Nat.pos_of_ne_zero fun h0 => hne (tx_len_zero (okL_app (unhide HG).okr hoP) h0))).mono ?_; intro e w6 ho; obtain ⟨b, rfl, ho⟩ := outP_form ho))
  go_ret
  rw [unhide HD]
  exact outP_low (hB'.setCell hlow _) ho
end Go.Proofs.YtkklapoceknbcaaGreatDoor
