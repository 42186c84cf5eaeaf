/- An attribute's value: xmlscan's value. -/
import Derived.Test.YtjjggncbhenffaaGreatDoorGav
import Derived.Test.YtjjggncbhenffaaGreatDoorGaz
namespace Go.Proofs.YtjjggncbhenffaaGreatDoor
open Go.RowKit
attribute [local go_sem] jumps_normal jumps_exit jumps_ret jumps_goto jumps_panic
/-- What a value leaves: its text, the reader behind it. -/
def valP (o : Except Er (List Nat × RS)) (B p m : Nat) (vo vt vr : Value) (s : RS) (e : Ending) (w w' : World) : Prop := Below B w w' ∧ match o with
  | .ok (v, s') => e = .returned (.tuple #[.string (T v), .bool true]) ∧ Rd w' B p m vo vt vr s' ∧ AdvT s s' ∧ okL v ∧ (T v).size ≤ 100000 ∧ Kp (fun k => k = p) w w'
  | .error (c, pl) => e = .returned (.tuple #[.string ⟨#[]⟩, .bool false]) ∧ Wrong w' p c pl
/-- A value's text in its variable, beside the reader. -/
structure ValAt (w : World) (p m : Nat) (vo vt vr : Value) (s s' : RS) (t : List Nat) (vx : Value) (w' : World) : Prop where
  adv : AdvT s s'
  kp : Kp (fun k => k = p) w w'
  blk : w'.heap[p]? = some (.cells (rdArr s' m vo vt vr) 131 (0, 0))
  box : w'.heap[w.heap.size]? = some (.cells #[vx] 97 (0, 0))
  row : w'.ownsRow w.heap.size 5 1 vx (tx t).length (byteCells (tx t))
  ok : okL t
/-- What holds as often as a value is read on. -/
structure ValInv (w : World) (p m tag : Nat) (vo vt vr : Value) (s : RS) (q n : Nat) (s' : RS) (t : List Nat) (vx : Value) (w' : World) : Prop where
  stand : ValAt w p m vo vt vr s s' t vx w'
  len : (tx t).length + s.spent ≤ 2 * s'.place + s'.spent
  qs : q = 34 ∨ q = 39
  n : s'.rest.length = n
  spec : ∃ f, s'.rest.length < f ∧ RS.valueGo q tag f s' t = s.value tag
theorem Kp.rd {w w' : World} {B p m : Nat} {vo vt vr : Value} {s s' : RS} (R : Rd w B p m vo vt vr s) (hk : Kp (fun k => k = p) w w') (ha : AdvT s s')
    (hb : w'.heap[p]? = some (.cells (rdArr s' m vo vt vr) 131 (0, 0))) : Rd w' B p m vo vt vr s' := by
  refine R.keep (· = p) (fun k o hk' hs => ?_) (fun k hs => ?_) hb ?_ ?_ ?_ ?_
  · rw [hk.block k (Array.getElem?_eq_some_iff.1 hk').1 hs]; exact hk'
  · subst hs
    exact ⟨_, _, R.blk, by decide, by decide, by decide, by decide⟩
  all_goals (obtain ⟨k, n, rfl, _⟩ := ha; rfl)
section
variable {w : World} {p m : Nat} {vo vt vr : Value} {s s' : RS} {t : List Nat} {vx : Value} {w' : World}
theorem ValAt.rd {B : Nat} (h : ValAt w p m vo vt vr s s' t vx w') (R : Rd w B p m vo vt vr s) : Rd w' B p m vo vt vr s' := h.kp.rd R h.adv h.blk
theorem ValAt.boxlt (h : ValAt w p m vo vt vr s s' t vx w') : w.heap.size < w'.heap.size := (Array.getElem?_eq_some_iff.1 h.box).1
theorem ValAt.rowlow (h : ValAt w p m vo vt vr s s' t vx w') : ∀ k, vx.ownBlock = some k → w.heap.size ≤ k ∧ k < w'.heap.size ∧ k ≠ w.heap.size := fun k hk =>
  ⟨(h.row.lt k hk).1, (h.row.lt k hk).2, fun e => owns_not h.row h.box (by decide) (e ▸ hk)⟩
theorem ValAt.low {B : Nat} (h : ValAt w p m vo vt vr s s' t vx w') (hB : B ≤ p) (hp : p < w.heap.size) : Below B w w' := h.kp.low (by omega) (fun k hk => by omega)
theorem ValAt.moved (h : ValAt w p m vo vt vr s s' t vx w') (hp : p < w.heap.size) {s2 : RS} {W : World} (ha : Adv s' s2) (hm : Moves p s2.place w' W) : ValAt w p m vo vt vr s s2 t vx W := by
  have hz := h.boxlt
  refine ⟨h.adv.then ha.t, ?_, ?_, ?_, ?_, h.ok⟩
  · have hb := hm.low (B := p) (Nat.le_refl _) (by omega)
    refine ⟨hb.os.trans h.kp.os, hb.tape.trans h.kp.tape, hb.output.trans h.kp.output, by have := hb.size; have := h.kp.size; omega, fun k hk hs => ?_⟩
    rw [hm.block (by have := h.kp.size; omega) hs, h.kp.block k hk hs]
  · rw [hm.own h.blk]
    obtain ⟨k, rfl⟩ := ha
    unfold rdArr
    rw [adv_whole]
    rfl
  · rw [hm.block hz (by omega)]; exact h.box
  · refine owns_kept (S := (· = p)) h.row (fun k o hk hs => ?_) (fun k hk hs => by have := (h.rowlow k hk).1; omega)
    rw [hm.block (Array.getElem?_eq_some_iff.1 hk).1 hs]; exact hk
theorem Adv.refl (s : RS) : Adv s s := ⟨0, by unfold RS.adv; simp⟩
theorem ValAt.on (h : ValAt w p m vo vt vr s s' t vx w') {W : World} (hb : Below w'.heap.size w' W) : ValAt w p m vo vt vr s s' t vx W := by
  have hz := h.boxlt
  refine ⟨h.adv, ⟨hb.os.trans h.kp.os, hb.tape.trans h.kp.tape, hb.output.trans h.kp.output, by have := hb.size; have := h.kp.size; omega, fun k hk hs => ?_⟩, block_below h.blk hb, block_below h.box hb, owns_below h.row hb, h.ok⟩
  rw [hb.block k (by have := h.kp.size; omega), h.kp.block k hk hs]
/-- A text grew, and its variable holds it; the reader may have spent. -/
theorem ValAt.grownS (h : ValAt w p m vo vt vr s s' t vx w') (hp : p < w.heap.size) {w2 : World} {s2 : RS} (ha : AdvT s s2) (hg : ∀ k, k < w'.heap.size → vx.ownBlock ≠ some k → k ≠ p → w2.heap[k]? = w'.heap[k]?) (hbl : w2.heap[p]? = some (.cells (rdArr s2 m vo vt vr) 131 (0, 0))) (hk2 : w2.os = w'.os ∧ w2.tape = w'.tape ∧ w2.output = w'.output ∧ w'.heap.size ≤ w2.heap.size) {v2 : Value} {t2 : List Nat} (hok : okL t2) (hown : w2.ownsRow w.heap.size 5 1 v2 (tx t2).length (byteCells (tx t2))) :
    w2.heap[w.heap.size]? = some (.cells #[vx] 97 (0, 0)) ∧ ValAt w p m vo vt vr s s2 t2 v2 (w2.setCell ⟨w.heap.size, 0, none⟩ v2) := by
  have hz := h.boxlt
  have hk := h.kp.size
  have e1 : w2.heap[w.heap.size]? = some (.cells #[vx] 97 (0, 0)) := by
    rw [hg _ hz (fun e => (h.rowlow _ e).2.2 rfl) (by omega)]
    exact h.box
  refine ⟨e1, ha, ?_, ?_, (blk_set e1 0 v2).trans rfl, owns_kept (S := (· = w.heap.size)) hown (fun k o hk hs => by rw [blk_other hs]; exact hk) (fun k hk' hs => by subst hs; exact owns_not hown e1 (by decide) hk'), hok⟩
  · refine ⟨hk2.1.trans h.kp.os, hk2.2.1.trans h.kp.tape, hk2.2.2.1.trans h.kp.output, by rw [blk_size]; have := hk2.2.2.2; omega, fun k hk hs => ?_⟩
    rw [blk_other (by omega), hg k (by omega) (fun e => by have := (h.rowlow k e).1; omega) hs, h.kp.block k hk hs]
  · rw [blk_other (by omega), hbl]
theorem ValAt.grown (h : ValAt w p m vo vt vr s s' t vx w') (hp : p < w.heap.size) {w2 : World} (hg : ∀ k, k < w'.heap.size → vx.ownBlock ≠ some k → w2.heap[k]? = w'.heap[k]?) (hk2 : w2.os = w'.os ∧ w2.tape = w'.tape ∧ w2.output = w'.output ∧ w'.heap.size ≤ w2.heap.size) {v2 : Value} {t2 : List Nat} (hok : okL t2) (hown : w2.ownsRow w.heap.size 5 1 v2 (tx t2).length (byteCells (tx t2))) :
    w2.heap[w.heap.size]? = some (.cells #[vx] 97 (0, 0)) ∧ ValAt w p m vo vt vr s s' t2 v2 (w2.setCell ⟨w.heap.size, 0, none⟩ v2) :=
  h.grownS hp h.adv (fun k hk hne _ => hg k hk hne) (by have := h.kp.size; rw [hg p (by omega) (fun e => by have := (h.rowlow p e).1; omega)]; exact h.blk) hk2 hok hown
end
theorem one_size {q : Nat} (h : q = 34 ∨ q = 39) : (T [q]).size = 1 := by
  rcases h with rfl | rfl <;> rfl
theorem anyX_cases (q : Nat) (l : List Nat) : (l.takeWhile (plainC q) = l ∧ anyX q l = -1) ∨ (l.takeWhile (plainC q) ≠ l ∧ anyX q l = ((T (l.takeWhile (plainC q))).size : Nat)) := by
  unfold anyX
  by_cases h : l.takeWhile (plainC q) = l
  · exact .inl ⟨h, if_pos h⟩
  · exact .inr ⟨h, if_neg h⟩
theorem plain_heads {q : Nat} {l : List Nat} (h : l.takeWhile (plainC q) = l) : heads q l = false ∧ heads 38 l = false := by
  cases l with
  | nil => exact ⟨rfl, rfl⟩
  | cons c t =>
    rw [List.takeWhile_cons] at h
    split at h
    · rename_i hc
      unfold plainC at hc
      simp at hc
      constructor
      · unfold heads; simp; exact hc.2
      · unfold heads; simp; exact hc.1.2
    · cases h
theorem valueGo_eq (q tag f : Nat) (s : RS) (t : List Nat) : RS.valueGo q tag (f + 1) s t = if heads q (s.adv (s.rest.takeWhile (plainC q)).length).rest then .ok (t ++ (s.rest.takeWhile (plainC q)).map spaceC, (s.adv (s.rest.takeWhile (plainC q)).length).adv 1) else
    if heads 38 (s.adv (s.rest.takeWhile (plainC q)).length).rest then match (s.adv (s.rest.takeWhile (plainC q)).length).reference true with
      | .error e => .error e
      | .ok (u, s2) => RS.valueGo q tag f s2 (t ++ (s.rest.takeWhile (plainC q)).map spaceC ++ u)
    else .error (5, tag) := rfl
theorem take_sz : ∀ (n : Nat) (l : List Nat), okL l → n ≤ l.length → n ≤ (T (l.take n)).size
  | 0, _, _, _ => Nat.zero_le _
  | n + 1, [], _, h => by simp at h
  | n + 1, c :: t, h, hn => by
    have ih := take_sz n t (okL_tail h) (by simpa using hn)
    have hp := runeB_pos (h c (List.mem_cons_self ..))
    rw [List.take_succ_cons, T_size]
    rw [T_size] at ih
    have e : (tx (c :: t.take n)).length = (runeB c).length + (tx (t.take n)).length := by simp [tx]
    omega
set_option maxRecDepth 100000 in
set_option maxHeartbeats 8000000 in
theorem value_any (B p m tag : Nat) (vo vt vr : Value) (s : RS) (w : World) (R : Rd w B p m vo vt vr s) (hG : Good s) (hE : XEnv B w) (hN : EOk s.ents) :
    Calls Tryz.prog 198 #[.pointer (some ⟨p, 0, none⟩), .int .i64 (tag : Nat)] w fun e w' => valP (s.value tag) B p m vo vt vr s e w w' := by
  have hlow := R.low
  have hlt := R.lt
  have hBw : B ≤ w.heap.size := by omega
  go_enter Tryz.func198, Tryz.ntmps198
  go_wp2_with fail
  refine wp_scope_next 0 1 (fun n a' w' => ∃ (q : Nat) (s' : RS) (t : List Nat) (vx : Value) (u2 u3 u8 u9 u10 u11 u12 u13 u14 u15 u16 u17 u18 u19 u20 u21 u22 u23 u24 u25 u26 u27 u28 u29 u30 u31 u32 u33 u34 u35 u36 u37 u38 u39 u40 u41 u42 u43 u44 u45 u46 u47 u48 u49 u50 u51 u52 u53 u54 : Value), ValInv w p m tag vo vt vr s q n s' t vx w' ∧ a' = { tmps := #[.pointer (some ⟨p, 0, none⟩), .int .i64 (tag : Nat), u2, u3, .string ⟨#[]⟩, .bool false, .pointer (some ⟨w.heap.size, 0, none⟩), .string (T [q]), u8, u9, u10, u11, u12, u13, u14, u15, u16, u17, u18, u19, u20, u21, u22, u23, u24, u25, u26, u27, u28, u29, u30, u31, u32, u33, u34, u35, u36, u37, u38, u39, u40, u41, u42, u43, u44, u45, u46, u47, u48, u49, u50, u51, u52, u53, u54], defers := [] }) rfl rfl ?_ ?_
  · rintro n a' w' ⟨q, s', t, vx, u2, u3, u8, u9, u10, u11, u12, u13, u14, u15, u16, u17, u18, u19, u20, u21, u22, u23, u24, u25, u26, u27, u28, u29, u30, u31, u32, u33, u34, u35, u36, u37, u38, u39, u40, u41, u42, u43, u44, u45, u46, u47, u48, u49, u50, u51, u52, u53, u54, hI, rfl⟩
    have R' := hI.stand.rd R
    have G' := hG.t hI.stand.adv
    have hq1 := one_size hI.qs
    have hBlow : Below B w w' := hI.stand.low hlow hlt
    go_wp2_with fail
    refine (rest_any p s' _ R'.at).mono ?_
    rintro e w1 ⟨rfl, hb1⟩
    have hz := G'.fine.lt
    go_wp2_with fail
    refine (indexAny_any q hI.qs s'.rest _ G'.fine.okR (by omega)).mono ?_
    rintro e w2 ⟨rfl, hb2⟩
    have hbb := Below.then hb1 hb2
    have hqa := quote_asc hI.qs
    rcases anyX_cases q s'.rest with ⟨hp, hx⟩ | ⟨hp, hx⟩
    · rw [hx]
      obtain ⟨h1, h2⟩ := plain_heads hp
      have HEQ : Hid (s.value tag = .error (5, tag)) := by
        obtain ⟨f, hf, he⟩ := hI.spec
        obtain ⟨g, rfl⟩ : ∃ g, f = g + 1 := ⟨f - 1, by omega⟩
        have hn : (s'.adv (s'.rest.takeWhile (plainC q)).length).rest = [] := by rw [hp]; exact List.drop_length
        rw [← he, valueGo_eq, hn]
        exact hide rfl
      have R2 := R'.on hbb
      clear hI hx hp
      go_wp2_with fail
      refine (take_no [q] (T [q]) hqa.1 hqa.2 p s' _ R2.at G'.fine (by rw [isPre_one]; exact h1)).mono ?_
      rintro e w3 ⟨rfl, hb3⟩
      have R3 := R2.on hb3
      go_wp2_with fail
      refine (sees_any [38] ⟨#[38]⟩ rfl (by decide) p s' _ R3.at G'.fine).mono ?_
      rintro e w4 ⟨rfl, hb4⟩
      have R4 := R3.on hb4
      rw [show [38].isPrefixOf s'.rest = false by rw [isPre_one]; exact h2]
      have hbB := (hBlow.trans (hbb.mono (by have := hBlow.size; omega))).trans ((Below.then hb3 hb4).mono (by have := R2.lt; omega))
      go_wp2_with fail
      go_step3
      refine .inl ⟨rfl, ?_⟩
      go_wp2_with (go_at_call 123; refine (fail_rd B p 5 tag _ R4.blk rfl hlow).mono ?_; rintro e w5 ⟨rfl, hw5, hb5⟩)
      try rw [jumps_ret]
      go_ret2
      rw [unhide HEQ]
      exact ⟨hbB.trans hb5, rfl, hw5⟩
    · rw [hx]
      have hpp : s'.rest.takeWhile (plainC q) <+: s'.rest := List.takeWhile_prefix _
      have hzp := size_pre hpp
      have hop := okL_pre G'.fine.okR hpp
      have hppd := pre_drop hpp
      have hplc := place_pre s' hpp
      have hex : (T s'.rest).extract 0 (T (s'.rest.takeWhile (plainC q))).size = T (s'.rest.takeWhile (plainC q)) := by
        have := T_pre (s'.rest.takeWhile (plainC q)) (s'.rest.drop (s'.rest.takeWhile (plainC q)).length)
        rw [hppd] at this
        exact this
      have hspec := hI.spec
      have HSPEC : Hid (∃ f, s'.rest.length < f + 1 ∧ s.value tag = if heads q (s'.adv (s'.rest.takeWhile (plainC q)).length).rest then .ok (t ++ (s'.rest.takeWhile (plainC q)).map spaceC, (s'.adv (s'.rest.takeWhile (plainC q)).length).adv 1) else
          if heads 38 (s'.adv (s'.rest.takeWhile (plainC q)).length).rest then match (s'.adv (s'.rest.takeWhile (plainC q)).length).reference true with
            | .error e => .error e
            | .ok (u, s2) => RS.valueGo q tag f s2 (t ++ (s'.rest.takeWhile (plainC q)).map spaceC ++ u)
          else .error (5, tag)) := by
        obtain ⟨f, hf, he⟩ := hI.spec
        obtain ⟨g, rfl⟩ : ∃ g, f = g + 1 := ⟨f - 1, by omega⟩
        exact hide ⟨g, hf, by rw [← he, valueGo_eq]⟩
      have G1 := G'.adv (s'.rest.takeWhile (plainC q)).length
      have HADV := hide (Adv.by s' (s'.rest.takeWhile (plainC q)).length)
      have HSPT : Hid ((s'.adv (s'.rest.takeWhile (plainC q)).length).spent = s'.spent) := hide rfl
      have hrl1 : (s'.adv (s'.rest.takeWhile (plainC q)).length).rest.length ≤ s'.rest.length := by
        show (s'.rest.drop _).length ≤ _
        rw [List.length_drop]; omega
      generalize hg : s'.rest.takeWhile (plainC q) = pl at *
      generalize hg1 : s'.adv pl.length = s1 at *
      clear hg hg1
      have hszb : (T (pl.map spaceC)).size ≤ 32768 := by rw [sz_space hop]; omega
      have HSZ := hide (sz_space hop)
      have hosp := okL_space hop
      obtain ⟨ax, kx, rfl⟩ := owns_slice hI.stand.row
      have V2 := hI.stand.on hbb
      have c6 : w2.cell? ⟨w.heap.size, 0, none⟩ = some (.slice ax (tx t).length kx) := blk_cell V2.box 0
      have hself : Below w2.heap.size w2 w2 := Below.refl _ _
      have hlen := hI.len
      have hspG := G'.sp
      have htb : (tx t).length ≤ 98304 := by omega
      have HE2 : Hid (∀ W, Below w2.heap.size w2 W → Env W) := hide fun W hW => ((hE.low hBlow).on (by have := hI.stand.kp.size; omega) (Below.then hbb hW)).env
      have HI := hide hI
      have HV2 := hide V2
      have HR2 := hide (V2.rd R)
      have HEX := hide hex
      have HSP := hide (fun W hW => spaced_any pl W hop (by omega) hW)
      have HOK : Hid (okL (t ++ pl.map spaceC)) := hide (okL_app V2.ok hosp)
      have HBC : Hid (byteCells (tx t) ++ Lib.strCells (T (pl.map spaceC)) = byteCells (tx (t ++ pl.map spaceC)) ∧ (tx t).length + (T (pl.map spaceC)).size = (tx (t ++ pl.map spaceC)).length) := by
        refine hide ⟨?_, by rw [T_size, tx_len_app]⟩
        rw [tx_append, byteCells_append]
        unfold Lib.strCells byteCells
        rw [T_data]
      obtain ⟨t0, hi, hz0, hz1, hz2⟩ := info_parts infoU8
      clear hI R' hpp hppd hex hp hx V2 hspec hbb hb1 hb2
      go_wp2_with fail
      go_cut [] (fun wx => ∃ v2, ValAt w p m vo vt vr s s' (t ++ pl.map spaceC) v2 wx)
      case first =>
        go_region_law (first
          | (go_simp; go_at_call 153; refine (rest_any p s' _ ((unhide HR2).on (by (repeat first | assumption | refine Below.drew ?_))).at).mono ?_; rintro e w3 ⟨rfl, hb3⟩; (have hb3' : Below w2.heap.size w2 w3 := Below.then (by (repeat first | assumption | refine Below.drew ?_)) hb3); have c63 : w3.cell? ⟨w.heap.size, 0, none⟩ = some (.slice ax (tx t).length kx) := keptC hb3' c6)
          | (go_simp; go_at_call 219; rw [unhide HEX]; refine (unhide HSP _ (unhide HE2 _ (by (repeat first | assumption | refine Below.drew ?_)))).mono ?_; rintro e w4 ⟨rfl, hb4⟩; (have hb4' : Below w2.heap.size w2 w4 := Below.then (by (repeat first | assumption | refine Below.drew ?_)) hb4); have c64 : w4.cell? ⟨w.heap.size, 0, none⟩ = some (.slice ax (tx t).length kx) := keptC hb4' c6)
          | (refine step_append_own_string rfl (.tmp 24) (.tmp 29) 97 9 rfl w.heap.size 5 t0 Tryz.underlying97 Tryz.underlying9 hi hz0 hz1 hz2 (.slice ax (tx t).length kx) (tx t).length (byteCells (tx t)) rfl (owns_below (unhide HV2).row (by (repeat first | assumption | refine Below.drew ?_))) (T (pl.map spaceC)) rfl (by unfold maxLen; omega) (by omega) (by have := (unhide HV2).boxlt; have := hb4'.size; simp; omega) ?_; intro v5 w5 hown hgrow; obtain ⟨a5, k5, rfl⟩ := owns_slice hown; (have VW := (unhide HV2).on (W := _) (by (repeat first | exact hb4' | refine Below.drew ?_))); rw [(unhide HBC).1, (unhide HBC).2] at hown; rw [(unhide HBC).2]; obtain ⟨g1, g2⟩ := VW.grown hlt (w2 := w5) (fun k hk hne => hgrow.block k hk (fun e => hne e.symm)) ⟨hgrow.os, hgrow.tape, hgrow.output, hgrow.size⟩ (unhide HOK) hown; have c65 : w5.cell? ⟨w.heap.size, 0, none⟩ = some (.slice ax (tx t).length kx) := blk_cell g1 0; have o65 := blk_open g1 0; clear VW))
        all_goals (try go_wp2_with fail)
        all_goals go_meet
        all_goals exact ⟨_, g2⟩
      case rest =>
        obtain ⟨v2, V3⟩ := hcut
        obtain ⟨a2, k2, rfl⟩ := owns_slice V3.row
        have hl1 : (tx (t ++ pl.map spaceC)).length + s.spent ≤ 2 * s1.place + s1.spent := by
          rw [tx_len_app, ← T_size (pl.map spaceC), unhide HSZ, unhide HSPT]; omega
        have hz1' := G1.fine.lt
        have V4 : ValAt w p m vo vt vr s s1 (t ++ pl.map spaceC) (.slice a2 (tx (t ++ pl.map spaceC)).length k2) (wc.setCell ⟨p, 1, none⟩ (.int .i64 ((s'.place : Int) + ((T pl).size : Int)))) :=
          V3.moved hlt (unhide HADV) (by unfold Moves; rw [hplc]; exact Below.refl _ _)
        have c1 : wc.cell? ⟨p, 1, none⟩ = some (.int .i64 (s'.place : Nat)) := blk_cell V3.blk 1
        have o1 := blk_open V3.blk 1
        have HV4 := hide V4
        have hqs := (unhide HI).qs
        have hn := (unhide HI).n
        generalize t ++ pl.map spaceC = t1 at *
        have HN1 : Hid (EOk s1.ents) := hide (EOk.of V4.adv.same.1 hN)
        have hsp1 := G1.sp
        clear V3 V4 HI HV2 HR2 HSP HE2 HBC HOK HEX
        go_wp2_with fail
        generalize hW : wc.setCell ⟨p, 1, none⟩ (.int .i64 ((s'.place : Int) + ((T pl).size : Int))) = w5 at HV4 ⊢
        clear c1 o1 hW
        have V5 := unhide HV4
        clear HV4
        obtain ⟨f, hf, hsp⟩ := unhide HSPEC
        clear HSPEC
        cases hh : heads q s1.rest
        · rw [hh, if_neg (by decide)] at hsp
          refine (take_no [q] (T [q]) hqa.1 hqa.2 p s1 _ (V5.rd R).at G1.fine (by rw [isPre_one]; exact hh)).mono ?_
          rintro e w6 ⟨rfl, hb6⟩
          have V6 := V5.on hb6
          clear V5
          go_wp2_with fail
          refine (sees_any [38] ⟨#[38]⟩ rfl (by decide) p s1 _ (V6.rd R).at G1.fine).mono ?_
          rintro e w7 ⟨rfl, hb7⟩
          have V7 := V6.on hb7
          clear V6
          rw [isPre_one]
          cases h38 : heads 38 s1.rest
          · rw [h38, if_neg (by decide)] at hsp
            have HEQ := hide hsp
            have R7 := V7.rd R
            have hb7B := V7.low hlow hlt
            clear hsp V7
            go_wp2_with fail
            go_step3
            refine .inl ⟨rfl, ?_⟩
            go_wp2_with (go_at_call 123; refine (fail_rd B p 5 tag _ R7.blk rfl hlow).mono ?_; rintro e w8 ⟨rfl, hw8, hb8⟩)
            try rw [jumps_ret]
            go_ret2
            rw [unhide HEQ]
            exact ⟨hb7B.trans hb8, rfl, hw8⟩
          · rw [h38, if_pos rfl] at hsp
            have HV7 := hide V7
            have hb7B := V7.low hlow hlt
            have HR7 := hide (V7.rd R)
            have HSP := hide hsp
            clear V7 hsp
            go_wp2_with fail
            refine (reference_any B w.heap.size p m w.heap.size 0 true vo vt vr (.slice a2 (tx t1).length k2) t1 s1 _ (unhide HR7) G1 (hE.low hb7B) (unhide HN1).u (unhide HN1).ne (unhide HN1).z (by unfold RS.sees; rw [isPre_one]; exact h38) (blk_cell (unhide HV7).box 0) (blk_open (unhide HV7).box 0) (unhide HV7).row hBw (by have := (unhide HV7).boxlt; omega) (by omega) (fun e => ((unhide HV7).rowlow _ e).2.2 rfl) (fun e => by omega)).mono ?_
            intro e w8 hr
            cases hrf : s1.reference true with
            | error x =>
              obtain ⟨c, pl'⟩ := x
              rw [hrf] at hr
              obtain ⟨rfl, hw8, hb8⟩ := hr
              have HEQ : Hid (s.value tag = .error (c, pl')) := hide (by rw [unhide HSP, hrf])
              clear HSP hrf
              go_wp2_with fail
              try rw [jumps_ret]
              go_ret2
              rw [unhide HEQ]
              exact ⟨hb7B.trans hb8, rfl, hw8⟩
            | ok x =>
              obtain ⟨l, s2⟩ := x
              rw [hrf] at hr
              obtain ⟨rfl, wk, v', hkp, hblk, hrow, hm⟩ := hr
              obtain ⟨r1, r2, r3, r3b, r4, r5⟩ := ref_t (unhide HN1) G1.fine.okR G1.sp hrf
              have V8 := (((unhide HV7).grownS hlt (w2 := wk) ((unhide HV7).adv.then r1.only) (fun k hk hne hkp' => hkp.block k hk (fun h => h.elim hne hkp')) hblk ⟨hkp.os, hkp.tape, hkp.output, hkp.size⟩ (okL_app (unhide HV7).ok r2) hrow).2).moved hlt r5 hm
              have HI8 : Hid (ValInv w p m tag vo vt vr s q s2.rest.length s2 (t1 ++ l) v' w8) := hide ⟨V8, by rw [tx_len_app]; omega, hqs, rfl, f, by omega, by rw [unhide HSP, hrf]⟩
              have HLT : Hid (s2.rest.length < n) := hide (by omega)
              clear V8 hkp hblk hrow hm HSP hrf HV7 HR7
              go_wp2_with fail
              go_step3
              exact .inr ⟨rfl, s2.rest.length, unhide HLT, q, s2, t1 ++ l, v', _, _, _, _, _, _, _, _, _, _, _, _, _, _, _, _, _, _, _, _, _, _, _, _, _, _, _, _, _, _, _, _, _, _, _, _, _, _, _, _, _, _, _, _, _, _, _, _, _, unhide HI8, rfl⟩
        · rw [hh, if_pos rfl] at hsp
          have HEQ := hide hsp
          refine (take_yes [q] (T [q]) hqa.1 hqa.2 p s1 _ (V5.rd R).at G1.fine (by rw [isPre_one]; exact hh)).mono ?_
          rintro e w6 ⟨rfl, hm6⟩
          have V6 := V5.moved hlt (Adv.by s1 [q].length) hm6
          have hcv := conv_owned V6.row
          have c66 : w6.cell? ⟨w.heap.size, 0, none⟩ = some (.slice a2 (tx t1).length k2) := blk_cell V6.box 0
          have HV6 := hide V6
          clear V5 V6 hm6 hsp
          go_wp2_with fail
          try rw [jumps_ret]
          go_ret2
          rw [unhide HEQ]
          exact ⟨(unhide HV6).low hlow hlt, rfl, (unhide HV6).rd R, (unhide HV6).adv, (unhide HV6).ok, by rw [T_size]; omega, (unhide HV6).kp⟩
  intro HR1
  have HR := hide HR1
  clear HR1
  go_wp2_with fail
  refine (quote_any p s _ (R.on (by (repeat first | assumption | with_reducible exact Below.refl _ _ | refine Below.drew ?_ | refine Below.setCell ?_ (by first | omega | (simp; omega) | (simp; done)) _ | refine Below.alloc ?_ (by first | omega | (simp; omega) | (simp; done)) _ | exact Below.refl _ _))).at hG.fine).mono ?_
  intro e w1 hq
  cases hqu : s.quote with
  | none =>
    rw [hqu] at hq
    obtain ⟨rfl, hb1⟩ := hq
    have R1 : Rd w1 B p m vo vt vr s := (R.on (by (repeat first | assumption | with_reducible exact Below.refl _ _ | refine Below.drew ?_ | refine Below.setCell ?_ (by first | omega | (simp; omega) | (simp; done)) _ | refine Below.alloc ?_ (by first | omega | (simp; omega) | (simp; done)) _ | exact Below.refl _ _))).on hb1
    go_wp2_with fail
    go_step3
    refine .inl ⟨rfl, ?_⟩
    go_wp2_with (go_at_call 123; refine (fail_rd B p 5 tag _ R1.blk rfl hlow).mono ?_; rintro e w5 ⟨rfl, hw5, hb5⟩)
    try rw [jumps_ret]
    go_ret2
    have hv : s.value tag = .error (5, tag) := by unfold RS.value; rw [hqu]
    rw [hv]
    exact ⟨(Below.trans (by (repeat first | assumption | with_reducible exact Below.refl _ _ | refine Below.drew ?_ | refine Below.setCell ?_ (by first | omega | (simp; omega) | (simp; done)) _ | refine Below.alloc ?_ (by first | omega | (simp; omega) | (simp; done)) _ | exact Below.refl _ _)) (hb1.mono (by simp; omega))).trans hb5, rfl, hw5⟩
  | some x =>
    obtain ⟨q, s1⟩ := x
    rw [hqu] at hq
    obtain ⟨rfl, hm1⟩ := hq
    have h0 : ValAt w p m vo vt vr s s [] (.slice none 0 0) (w.alloc (.cells #[.slice none 0 0] 97)) :=
      ⟨AdvT.refl s, ⟨rfl, rfl, rfl, by simp, fun k hk _ => (Below.refl w.heap.size w |>.alloc (Nat.le_refl _) _).block k hk⟩, block_below R.blk ((Below.refl _ _).alloc (Nat.le_refl _) _), (MapKept.heap_alloc w _).1, World.ownsRow_nil _ _ _ _, fun c hc => (by cases hc)⟩
    have h1 := h0.moved hlt (Adv.quote hqu) hm1
    have HV : Hid (RS.valueGo q tag (s1.rest.length + 1) s1 [] = s.value tag) := hide (by unfold RS.value; rw [hqu])
    have HQ : Hid (q = 34 ∨ q = 39) := hide (by rcases (quote_some hqu).2.2 with h | ⟨h, _⟩ <;> simp [h])
    go_wp2_with fail
    go_step3
    rename_i hK
    exact hK _ _ (unhide HR s1.rest.length _ _ ⟨q, s1, [], .slice none 0 0, _, _, _, _, _, _, _, _, _, _, _, _, _, _, _, _, _, _, _, _, _, _, _, _, _, _, _, _, _, _, _, _, _, _, _, _, _, _, _, _, _, _, _, _, _, _, _, _, _, ⟨h1, by have e := (quote_some hqu).1; subst e; show 0 + s.spent ≤ 2 * _ + s.spent; omega, unhide HQ, rfl, s1.rest.length + 1, by omega, unhide HV⟩, rfl⟩)
end Go.Proofs.YtjjggncbhenffaaGreatDoor
