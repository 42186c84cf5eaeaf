/- Several texts, laid as one. -/
import Derived.Test.YtefjfjieoiegnaaGreatDoorGan
import Derived.Test.YtefjfjieoiegnaaGreatDoorGaq
/- An attribute's value: xmlscan's value. -/
namespace Go.Proofs.YtefjfjieoiegnaaGreatDoor
open Go.RowKit
attribute [local go_sem] jumps_normal jumps_exit jumps_ret jumps_goto jumps_panic
/-- What a value leaves: its text, the reader behind it. -/
def valP (o : Except Er (List Nat × RS)) (B p m : Nat) (vo vt vr : Value) (s : RS) (e : Ending) (w w' : World) : Prop := Below B w w' ∧ match o with
  | .ok (v, s') => e = .returned (.tuple #[.string (T v), .bool true]) ∧ Rd w' B p m vo vt vr s' ∧ AdvT s s' ∧ okL v ∧ (T v).size ≤ 100000 ∧ Kp (fun k => k = p) w w'
  | .error (c, pl) => e = .returned (.tuple #[.string ⟨#[]⟩, .bool false]) ∧ Wrong w' p c pl
/-- A value's text in its variable, beside the reader. -/
structure ValAt (w : World) (p m : Nat) (vo vt vr : Value) (s s' : RS) (t : List Nat) (vx : Value) (w' : World) : Prop where
  adv : AdvT s s'
  kp : Kp (fun k => k = p) w w'
  blk : w'.heap[p]? = some (.cells (rdArr s' m vo vt vr) 63 (0, 0))
  box : w'.heap[w.heap.size]? = some (.cells #[vx] 48 (0, 0))
  row : w'.ownsRow w.heap.size 5 1 vx (tx t).length (byteCells (tx t))
  ok : okL t
/-- What holds as often as a value is read on. -/
structure ValInv (w : World) (p m tag : Nat) (vo vt vr : Value) (s : RS) (q n : Nat) (s' : RS) (t : List Nat) (vx : Value) (w' : World) : Prop where
  stand : ValAt w p m vo vt vr s s' t vx w'
  len : (tx t).length + s.spent ≤ 2 * s'.place + s'.spent
  qs : q = 34 ∨ q = 39
  n : s'.rest.length = n
  spec : ∃ f, s'.rest.length < f ∧ RS.valueGo q tag f s' t = s.value tag
theorem Kp.rd {w w' : World} {B p m : Nat} {vo vt vr : Value} {s s' : RS} (R : Rd w B p m vo vt vr s) (hk : Kp (fun k => k = p) w w') (ha : AdvT s s')
    (hb : w'.heap[p]? = some (.cells (rdArr s' m vo vt vr) 63 (0, 0))) : Rd w' B p m vo vt vr s' := by
  refine R.keep (· = p) (fun k o hk' hs => ?_) (fun k hs => ?_) hb ?_ ?_ ?_ ?_
  · rw [hk.block k (Array.getElem?_eq_some_iff.1 hk').1 hs]; exact hk'
  · subst hs
    exact ⟨_, _, R.blk, by decide, by decide, by decide, by decide⟩
  all_goals (obtain ⟨k, n, rfl, _⟩ := ha; rfl)
section
variable {w : World} {p m : Nat} {vo vt vr : Value} {s s' : RS} {t : List Nat} {vx : Value} {w' : World}
theorem ValAt.rd {B : Nat} (h : ValAt w p m vo vt vr s s' t vx w') (R : Rd w B p m vo vt vr s) : Rd w' B p m vo vt vr s' := h.kp.rd R h.adv h.blk
theorem ValAt.boxlt (h : ValAt w p m vo vt vr s s' t vx w') : w.heap.size < w'.heap.size := (Array.getElem?_eq_some_iff.1 h.box).1
theorem ValAt.rowlow (h : ValAt w p m vo vt vr s s' t vx w') : ∀ k, vx.ownBlock = some k → w.heap.size ≤ k ∧ k < w'.heap.size ∧ k ≠ w.heap.size := fun k hk =>
  ⟨(h.row.lt k hk).1, (h.row.lt k hk).2, fun e => owns_not h.row h.box (by decide) (e ▸ hk)⟩
theorem ValAt.low {B : Nat} (h : ValAt w p m vo vt vr s s' t vx w') (hB : B ≤ p) (hp : p < w.heap.size) : Below B w w' := h.kp.low (by omega) (fun k hk => by omega)
theorem ValAt.moved (h : ValAt w p m vo vt vr s s' t vx w') (hp : p < w.heap.size) {s2 : RS} {W : World} (ha : Adv s' s2) (hm : Moves p s2.place w' W) : ValAt w p m vo vt vr s s2 t vx W := by
  have hz := h.boxlt
  refine ⟨h.adv.then ha.t, ?_, ?_, ?_, ?_, h.ok⟩
  · have hb := hm.low (B := p) (Nat.le_refl _) (by omega)
    refine ⟨hb.os.trans h.kp.os, hb.tape.trans h.kp.tape, hb.output.trans h.kp.output, by have := hb.size; have := h.kp.size; omega, fun k hk hs => ?_⟩
    rw [hm.block (by have := h.kp.size; omega) hs, h.kp.block k hk hs]
  · rw [hm.own h.blk]
    obtain ⟨k, rfl⟩ := ha
    unfold rdArr
    rw [adv_whole]
    rfl
  · rw [hm.block hz (by omega)]; exact h.box
  · refine owns_kept (S := (· = p)) h.row (fun k o hk hs => ?_) (fun k hk hs => by have := (h.rowlow k hk).1; omega)
    rw [hm.block (Array.getElem?_eq_some_iff.1 hk).1 hs]; exact hk
theorem Adv.refl (s : RS) : Adv s s := ⟨0, by unfold RS.adv; simp⟩
theorem ValAt.on (h : ValAt w p m vo vt vr s s' t vx w') {W : World} (hb : Below w'.heap.size w' W) : ValAt w p m vo vt vr s s' t vx W := by
  have hz := h.boxlt
  refine ⟨h.adv, ⟨hb.os.trans h.kp.os, hb.tape.trans h.kp.tape, hb.output.trans h.kp.output, by have := hb.size; have := h.kp.size; omega, fun k hk hs => ?_⟩, block_below h.blk hb, block_below h.box hb, owns_below h.row hb, h.ok⟩
  rw [hb.block k (by have := h.kp.size; omega), h.kp.block k hk hs]
/-- A text grew, and its variable holds it; the reader may have spent. -/
theorem ValAt.grownS (h : ValAt w p m vo vt vr s s' t vx w') (hp : p < w.heap.size) {w2 : World} {s2 : RS} (ha : AdvT s s2) (hg : ∀ k, k < w'.heap.size → vx.ownBlock ≠ some k → k ≠ p → w2.heap[k]? = w'.heap[k]?) (hbl : w2.heap[p]? = some (.cells (rdArr s2 m vo vt vr) 63 (0, 0))) (hk2 : w2.os = w'.os ∧ w2.tape = w'.tape ∧ w2.output = w'.output ∧ w'.heap.size ≤ w2.heap.size) {v2 : Value} {t2 : List Nat} (hok : okL t2) (hown : w2.ownsRow w.heap.size 5 1 v2 (tx t2).length (byteCells (tx t2))) :
    w2.heap[w.heap.size]? = some (.cells #[vx] 48 (0, 0)) ∧ ValAt w p m vo vt vr s s2 t2 v2 (w2.setCell ⟨w.heap.size, 0, none⟩ v2) := by
  have hz := h.boxlt
  have hk := h.kp.size
  have e1 : w2.heap[w.heap.size]? = some (.cells #[vx] 48 (0, 0)) := by
    rw [hg _ hz (fun e => (h.rowlow _ e).2.2 rfl) (by omega)]
    exact h.box
  refine ⟨e1, ha, ?_, ?_, (blk_set e1 0 v2).trans rfl, owns_kept (S := (· = w.heap.size)) hown (fun k o hk hs => by rw [blk_other hs]; exact hk) (fun k hk' hs => by subst hs; exact owns_not hown e1 (by decide) hk'), hok⟩
  · refine ⟨hk2.1.trans h.kp.os, hk2.2.1.trans h.kp.tape, hk2.2.2.1.trans h.kp.output, by rw [blk_size]; have := hk2.2.2.2; omega, fun k hk hs => ?_⟩
    rw [blk_other (by omega), hg k (by omega) (fun e => by have := (h.rowlow k e).1; omega) hs, h.kp.block k hk hs]
  · rw [blk_other (by omega), hbl]
theorem ValAt.grown (h : ValAt w p m vo vt vr s s' t vx w') (hp : p < w.heap.size) {w2 : World} (hg : ∀ k, k < w'.heap.size → vx.ownBlock ≠ some k → w2.heap[k]? = w'.heap[k]?) (hk2 : w2.os = w'.os ∧ w2.tape = w'.tape ∧ w2.output = w'.output ∧ w'.heap.size ≤ w2.heap.size) {v2 : Value} {t2 : List Nat} (hok : okL t2) (hown : w2.ownsRow w.heap.size 5 1 v2 (tx t2).length (byteCells (tx t2))) :
    w2.heap[w.heap.size]? = some (.cells #[vx] 48 (0, 0)) ∧ ValAt w p m vo vt vr s s' t2 v2 (w2.setCell ⟨w.heap.size, 0, none⟩ v2) :=
  h.grownS hp h.adv (fun k hk hne _ => hg k hk hne) (by have := h.kp.size; rw [hg p (by omega) (fun e => by have := (h.rowlow p e).1; omega)]; exact h.blk) hk2 hok hown
end
theorem one_size {q : Nat} (h : q = 34 ∨ q = 39) : (T [q]).size = 1 := by
  rcases h with rfl | rfl <;> rfl
theorem anyX_cases (q : Nat) (l : List Nat) : (l.takeWhile (plainC q) = l ∧ anyX q l = -1) ∨ (l.takeWhile (plainC q) ≠ l ∧ anyX q l = ((T (l.takeWhile (plainC q))).size : Nat)) := by
  unfold anyX
  by_cases h : l.takeWhile (plainC q) = l
  · exact .inl ⟨h, if_pos h⟩
  · exact .inr ⟨h, if_neg h⟩
theorem plain_heads {q : Nat} {l : List Nat} (h : l.takeWhile (plainC q) = l) : heads q l = false ∧ heads 38 l = false := by
  cases l with
  | nil => exact ⟨rfl, rfl⟩
  | cons c t =>
    rw [List.takeWhile_cons] at h
    split at h
    · rename_i hc
      unfold plainC at hc
      simp at hc
      constructor
      · unfold heads; simp; exact hc.2
      · unfold heads; simp; exact hc.1.2
    · cases h
theorem valueGo_eq (q tag f : Nat) (s : RS) (t : List Nat) : RS.valueGo q tag (f + 1) s t = if heads q (s.adv (s.rest.takeWhile (plainC q)).length).rest then .ok (t ++ (s.rest.takeWhile (plainC q)).map spaceC, (s.adv (s.rest.takeWhile (plainC q)).length).adv 1) else
    if heads 38 (s.adv (s.rest.takeWhile (plainC q)).length).rest then match (s.adv (s.rest.takeWhile (plainC q)).length).reference true with
      | .error e => .error e
      | .ok (u, s2) => RS.valueGo q tag f s2 (t ++ (s.rest.takeWhile (plainC q)).map spaceC ++ u)
    else .error (5, tag) := rfl
theorem take_sz : ∀ (n : Nat) (l : List Nat), okL l → n ≤ l.length → n ≤ (T (l.take n)).size
  | 0, _, _, _ => Nat.zero_le _
  | n + 1, [], _, h => by simp at h
  | n + 1, c :: t, h, hn => by
    have ih := take_sz n t (okL_tail h) (by simpa using hn)
    have hp := runeB_pos (h c (List.mem_cons_self ..))
    rw [List.take_succ_cons, T_size]
    rw [T_size] at ih
    have e : (tx (c :: t.take n)).length = (runeB c).length + (tx (t.take n)).length := by simp [tx]
    omega
theorem ref_ok {s : RS} {flat : Bool} {l : List Nat} {s2 : RS} (hE : s.ents = []) (hk : okL s.rest) (h : s.reference flat = .ok (l, s2)) : Adv s s2 ∧ okL l ∧ s.place + (T l).size ≤ s2.place ∧ s2.rest.length < s.rest.length := by
  rw [reference_eq s flat hE] at h
  cases hr : readRef s.rest with
  | none => rw [hr] at h; cases h
  | some r =>
    rw [hr] at h
    simp only at h
    obtain ⟨f1, f2, f3, f4, f5, f6, f7⟩ := readRef_facts hk hr
    split at h
    · cases h
    · cases h
      refine ⟨Adv.by _ _, f1, ?_, ?_⟩
      · rw [place_adv]
        have := take_sz r.size s.rest hk f5
        omega
      · show (s.rest.drop r.size).length < _
        rw [List.length_drop]
        omega
set_option maxRecDepth 100000 in
set_option maxHeartbeats 8000000 in
theorem value_any (B p m tag : Nat) (vo vt vr : Value) (s : RS) (w : World) (R : Rd w B p m vo vt vr s) (hG : Good s) (hE : XEnv B w) (hN : EOk s.ents) :
    Calls Tryz.prog 138 #[.pointer (some ⟨p, 0, none⟩), .int .i64 (tag : Nat)] w fun e w' => valP (s.value tag) B p m vo vt vr s e w w' := by
  have hlow := R.low
  have hlt := R.lt
  have hBw : B ≤ w.heap.size := by omega
  go_enter Tryz.func138, Tryz.ntmps138
  go_wp2_with fail
  refine wp_scope_next 0 1 (fun n a' w' => ∃ (q : Nat) (s' : RS) (t : List Nat) (vx : Value) (u2 u3 u8 u9 u10 u11 u12 u13 u14 u15 u16 u17 u18 u19 u20 u21 u22 u23 u24 u25 u26 u27 u28 u29 u30 u31 u32 u33 u34 u35 u36 u37 u38 u39 u40 u41 u42 u43 u44 u45 u46 u47 u48 u49 u50 u51 u52 u53 u54 : Value), ValInv w p m tag vo vt vr s q n s' t vx w' ∧ a' = { tmps := #[.pointer (some ⟨p, 0, none⟩), .int .i64 (tag : Nat), u2, u3, .string ⟨#[]⟩, .bool false, .pointer (some ⟨w.heap.size, 0, none⟩), .string (T [q]), u8, u9, u10, u11, u12, u13, u14, u15, u16, u17, u18, u19, u20, u21, u22, u23, u24, u25, u26, u27, u28, u29, u30, u31, u32, u33, u34, u35, u36, u37, u38, u39, u40, u41, u42, u43, u44, u45, u46, u47, u48, u49, u50, u51, u52, u53, u54], defers := [] }) rfl rfl ?_ ?_
  · rintro n a' w' ⟨q, s', t, vx, u2, u3, u8, u9, u10, u11, u12, u13, u14, u15, u16, u17, u18, u19, u20, u21, u22, u23, u24, u25, u26, u27, u28, u29, u30, u31, u32, u33, u34, u35, u36, u37, u38, u39, u40, u41, u42, u43, u44, u45, u46, u47, u48, u49, u50, u51, u52, u53, u54, hI, rfl⟩
    have R' := hI.stand.rd R
    have G' := hG.t hI.stand.adv
    have hq1 := one_size hI.qs
    have hBlow : Below B w w' := hI.stand.low hlow hlt
    go_wp2_with fail
    refine (rest_any p s' _ R'.at).mono ?_
    rintro e w1 ⟨rfl, hb1⟩
    have hz := G'.fine.lt
    go_wp2_with fail
    refine (indexAny_any q hI.qs s'.rest _ G'.fine.okR (by omega)).mono ?_
    rintro e w2 ⟨rfl, hb2⟩
    have hbb := Below.then hb1 hb2
    have hqa := quote_asc hI.qs
    rcases anyX_cases q s'.rest with ⟨hp, hx⟩ | ⟨hp, hx⟩
    · rw [hx]
      obtain ⟨h1, h2⟩ := plain_heads hp
      have HEQ : Hid (s.value tag = .error (5, tag)) := by
        obtain ⟨f, hf, he⟩ := hI.spec
        obtain ⟨g, rfl⟩ : ∃ g, f = g + 1 := ⟨f - 1, by omega⟩
        have hn : (s'.adv (s'.rest.takeWhile (plainC q)).length).rest = [] := by rw [hp]; exact List.drop_length
        rw [← he, valueGo_eq, hn]
        exact hide rfl
      have R2 := R'.on hbb
      clear hI hx hp
      go_wp2_with fail
      refine (take_no [q] (T [q]) hqa.1 hqa.2 p s' _ R2.at G'.fine (by rw [isPre_one]; exact h1)).mono ?_
      rintro e w3 ⟨rfl, hb3⟩
      have R3 := R2.on hb3
      go_wp2_with fail
      refine (sees_any [38] ⟨#[38]⟩ rfl (by decide) p s' _ R3.at G'.fine).mono ?_
      rintro e w4 ⟨rfl, hb4⟩
      have R4 := R3.on hb4
      rw [show [38].isPrefixOf s'.rest = false by rw [isPre_one]; exact h2]
      have hbB := (hBlow.trans (hbb.mono (by have := hBlow.size; omega))).trans ((Below.then hb3 hb4).mono (by have := R2.lt; omega))
      go_wp2_with fail
      go_step3
      refine .inl ⟨rfl, ?_⟩
      go_wp2_with (go_at_call 63; refine (fail_rd B p 5 tag _ R4.blk rfl hlow).mono ?_; rintro e w5 ⟨rfl, hw5, hb5⟩)
      try rw [jumps_ret]
      go_ret2
      rw [unhide HEQ]
      exact ⟨hbB.trans hb5, rfl, hw5⟩
    · rw [hx]
      have hpp : s'.rest.takeWhile (plainC q) <+: s'.rest := List.takeWhile_prefix _
      have hzp := size_pre hpp
      have hop := okL_pre G'.fine.okR hpp
      have hppd := pre_drop hpp
      have hplc := place_pre s' hpp
      have hex : (T s'.rest).extract 0 (T (s'.rest.takeWhile (plainC q))).size = T (s'.rest.takeWhile (plainC q)) := by
        have := T_pre (s'.rest.takeWhile (plainC q)) (s'.rest.drop (s'.rest.takeWhile (plainC q)).length)
        rw [hppd] at this
        exact this
      have hspec := hI.spec
      have HSPEC : Hid (∃ f, s'.rest.length < f + 1 ∧ s.value tag = if heads q (s'.adv (s'.rest.takeWhile (plainC q)).length).rest then .ok (t ++ (s'.rest.takeWhile (plainC q)).map spaceC, (s'.adv (s'.rest.takeWhile (plainC q)).length).adv 1) else
          if heads 38 (s'.adv (s'.rest.takeWhile (plainC q)).length).rest then match (s'.adv (s'.rest.takeWhile (plainC q)).length).reference true with
            | .error e => .error e
            | .ok (u, s2) => RS.valueGo q tag f s2 (t ++ (s'.rest.takeWhile (plainC q)).map spaceC ++ u)
          else .error (5, tag)) := by
        obtain ⟨f, hf, he⟩ := hI.spec
        obtain ⟨g, rfl⟩ : ∃ g, f = g + 1 := ⟨f - 1, by omega⟩
        exact hide ⟨g, hf, by rw [← he, valueGo_eq]⟩
      have G1 := G'.adv (s'.rest.takeWhile (plainC q)).length
      have HADV := hide (Adv.by s' (s'.rest.takeWhile (plainC q)).length)
      have HSPT : Hid ((s'.adv (s'.rest.takeWhile (plainC q)).length).spent = s'.spent) := hide rfl
      have hrl1 : (s'.adv (s'.rest.takeWhile (plainC q)).length).rest.length ≤ s'.rest.length := by
        show (s'.rest.drop _).length ≤ _
        rw [List.length_drop]; omega
      generalize hg : s'.rest.takeWhile (plainC q) = pl at *
      generalize hg1 : s'.adv pl.length = s1 at *
      clear hg hg1
      have hszb : (T (pl.map spaceC)).size ≤ 32768 := by rw [sz_space hop]; omega
      have HSZ := hide (sz_space hop)
      have hosp := okL_space hop
      obtain ⟨ax, kx, rfl⟩ := owns_slice hI.stand.row
      have V2 := hI.stand.on hbb
      have c6 : w2.cell? ⟨w.heap.size, 0, none⟩ = some (.slice ax (tx t).length kx) := blk_cell V2.box 0
      have hself : Below w2.heap.size w2 w2 := Below.refl _ _
      have hlen := hI.len
      have hspG := G'.sp
      have htb : (tx t).length ≤ 98304 := by omega
      have HE2 : Hid (∀ W, Below w2.heap.size w2 W → Env W) := hide fun W hW => ((hE.low hBlow).on (by have := hI.stand.kp.size; omega) (Below.then hbb hW)).env
      have HI := hide hI
      have HV2 := hide V2
      have HR2 := hide (V2.rd R)
      have HEX := hide hex
      have HSP := hide (fun W hW => spaced_any pl W hop (by omega) hW)
      have HOK : Hid (okL (t ++ pl.map spaceC)) := hide (okL_app V2.ok hosp)
      have HBC : Hid (byteCells (tx t) ++ Lib.strCells (T (pl.map spaceC)) = byteCells (tx (t ++ pl.map spaceC)) ∧ (tx t).length + (T (pl.map spaceC)).size = (tx (t ++ pl.map spaceC)).length) := by
        refine hide ⟨?_, by rw [T_size, tx_len_app]⟩
        rw [tx_append, byteCells_append]
        unfold Lib.strCells byteCells
        rw [T_data]
      obtain ⟨t0, hi, hz0, hz1, hz2⟩ := info_parts infoU8
      clear hI R' hpp hppd hex hp hx V2 hspec hbb hb1 hb2
      go_wp2_with fail
      go_cut [] (fun wx => ∃ v2, ValAt w p m vo vt vr s s' (t ++ pl.map spaceC) v2 wx)
      case first =>
        go_region_law (first
          | (go_simp; go_at_call 94; refine (rest_any p s' _ ((unhide HR2).on (by (repeat first | assumption | refine Below.drew ?_))).at).mono ?_; rintro e w3 ⟨rfl, hb3⟩; (have hb3' : Below w2.heap.size w2 w3 := Below.then (by (repeat first | assumption | refine Below.drew ?_)) hb3); have c63 : w3.cell? ⟨w.heap.size, 0, none⟩ = some (.slice ax (tx t).length kx) := keptC hb3' c6)
          | (go_simp; go_at_call 162; rw [unhide HEX]; refine (unhide HSP _ (unhide HE2 _ (by (repeat first | assumption | refine Below.drew ?_)))).mono ?_; rintro e w4 ⟨rfl, hb4⟩; (have hb4' : Below w2.heap.size w2 w4 := Below.then (by (repeat first | assumption | refine Below.drew ?_)) hb4); have c64 : w4.cell? ⟨w.heap.size, 0, none⟩ = some (.slice ax (tx t).length kx) := keptC hb4' c6)
          | (refine step_append_own_string rfl (.tmp 24) (.tmp 29) 48 9 rfl w.heap.size 5 t0 Tryz.underlying48 Tryz.underlying9 hi hz0 hz1 hz2 (.slice ax (tx t).length kx) (tx t).length (byteCells (tx t)) rfl (owns_below (unhide HV2).row (by (repeat first | assumption | refine Below.drew ?_))) (T (pl.map spaceC)) rfl (by unfold maxLen; omega) (by omega) (by have := (unhide HV2).boxlt; have := hb4'.size; simp; omega) ?_; intro v5 w5 hown hgrow; obtain ⟨a5, k5, rfl⟩ := owns_slice hown; (have VW := (unhide HV2).on (W := _) (by (repeat first | exact hb4' | refine Below.drew ?_))); rw [(unhide HBC).1, (unhide HBC).2] at hown; rw [(unhide HBC).2]; obtain ⟨g1, g2⟩ := VW.grown hlt (w2 := w5) (fun k hk hne => hgrow.block k hk (fun e => hne e.symm)) ⟨hgrow.os, hgrow.tape, hgrow.output, hgrow.size⟩ (unhide HOK) hown; have c65 : w5.cell? ⟨w.heap.size, 0, none⟩ = some (.slice ax (tx t).length kx) := blk_cell g1 0; have o65 := blk_open g1 0; clear VW))
        all_goals (try go_wp2_with fail)
        all_goals go_meet
        all_goals exact ⟨_, g2⟩
      case rest =>
        obtain ⟨v2, V3⟩ := hcut
        obtain ⟨a2, k2, rfl⟩ := owns_slice V3.row
        have hl1 : (tx (t ++ pl.map spaceC)).length + s.spent ≤ 2 * s1.place + s1.spent := by
          rw [tx_len_app, ← T_size (pl.map spaceC), unhide HSZ, unhide HSPT]; omega
        have hz1' := G1.fine.lt
        have V4 : ValAt w p m vo vt vr s s1 (t ++ pl.map spaceC) (.slice a2 (tx (t ++ pl.map spaceC)).length k2) (wc.setCell ⟨p, 1, none⟩ (.int .i64 ((s'.place : Int) + ((T pl).size : Int)))) :=
          V3.moved hlt (unhide HADV) (by unfold Moves; rw [hplc]; exact Below.refl _ _)
        have c1 : wc.cell? ⟨p, 1, none⟩ = some (.int .i64 (s'.place : Nat)) := blk_cell V3.blk 1
        have o1 := blk_open V3.blk 1
        have HV4 := hide V4
        have hqs := (unhide HI).qs
        have hn := (unhide HI).n
        generalize t ++ pl.map spaceC = t1 at *
        have HN1 : Hid (EOk s1.ents) := hide (EOk.of V4.adv.same.1 hN)
        have hsp1 := G1.sp
        clear V3 V4 HI HV2 HR2 HSP HE2 HBC HOK HEX
        go_wp2_with fail
        generalize hW : wc.setCell ⟨p, 1, none⟩ (.int .i64 ((s'.place : Int) + ((T pl).size : Int))) = w5 at HV4 ⊢
        clear c1 o1 hW
        have V5 := unhide HV4
        clear HV4
        obtain ⟨f, hf, hsp⟩ := unhide HSPEC
        clear HSPEC
        cases hh : heads q s1.rest
        · rw [hh, if_neg (by decide)] at hsp
          refine (take_no [q] (T [q]) hqa.1 hqa.2 p s1 _ (V5.rd R).at G1.fine (by rw [isPre_one]; exact hh)).mono ?_
          rintro e w6 ⟨rfl, hb6⟩
          have V6 := V5.on hb6
          clear V5
          go_wp2_with fail
          refine (sees_any [38] ⟨#[38]⟩ rfl (by decide) p s1 _ (V6.rd R).at G1.fine).mono ?_
          rintro e w7 ⟨rfl, hb7⟩
          have V7 := V6.on hb7
          clear V6
          rw [isPre_one]
          cases h38 : heads 38 s1.rest
          · rw [h38, if_neg (by decide)] at hsp
            have HEQ := hide hsp
            have R7 := V7.rd R
            have hb7B := V7.low hlow hlt
            clear hsp V7
            go_wp2_with fail
            go_step3
            refine .inl ⟨rfl, ?_⟩
            go_wp2_with (go_at_call 63; refine (fail_rd B p 5 tag _ R7.blk rfl hlow).mono ?_; rintro e w8 ⟨rfl, hw8, hb8⟩)
            try rw [jumps_ret]
            go_ret2
            rw [unhide HEQ]
            exact ⟨hb7B.trans hb8, rfl, hw8⟩
          · rw [h38, if_pos rfl] at hsp
            have HV7 := hide V7
            have hb7B := V7.low hlow hlt
            have HR7 := hide (V7.rd R)
            have HSP := hide hsp
            clear V7 hsp
            go_wp2_with fail
            refine (reference_any B w.heap.size p m w.heap.size 0 true vo vt vr (.slice a2 (tx t1).length k2) t1 s1 _ (unhide HR7) G1 (hE.low hb7B) (unhide HN1).u (unhide HN1).ne (unhide HN1).z (by unfold RS.sees; rw [isPre_one]; exact h38) (blk_cell (unhide HV7).box 0) (blk_open (unhide HV7).box 0) (unhide HV7).row hBw (by have := (unhide HV7).boxlt; omega) (by omega) (fun e => ((unhide HV7).rowlow _ e).2.2 rfl) (fun e => by omega)).mono ?_
            intro e w8 hr
            cases hrf : s1.reference true with
            | error x =>
              obtain ⟨c, pl'⟩ := x
              rw [hrf] at hr
              obtain ⟨rfl, hw8, hb8⟩ := hr
              have HEQ : Hid (s.value tag = .error (c, pl')) := hide (by rw [unhide HSP, hrf])
              clear HSP hrf
              go_wp2_with fail
              try rw [jumps_ret]
              go_ret2
              rw [unhide HEQ]
              exact ⟨hb7B.trans hb8, rfl, hw8⟩
            | ok x =>
              obtain ⟨l, s2⟩ := x
              rw [hrf] at hr
              obtain ⟨rfl, wk, v', hkp, hblk, hrow, hm⟩ := hr
              obtain ⟨r1, r2, r3, r3b, r4, r5⟩ := ref_t (unhide HN1) G1.fine.okR G1.sp hrf
              have V8 := (((unhide HV7).grownS hlt (w2 := wk) ((unhide HV7).adv.then r1.only) (fun k hk hne hkp' => hkp.block k hk (fun h => h.elim hne hkp')) hblk ⟨hkp.os, hkp.tape, hkp.output, hkp.size⟩ (okL_app (unhide HV7).ok r2) hrow).2).moved hlt r5 hm
              have HI8 : Hid (ValInv w p m tag vo vt vr s q s2.rest.length s2 (t1 ++ l) v' w8) := hide ⟨V8, by rw [tx_len_app]; omega, hqs, rfl, f, by omega, by rw [unhide HSP, hrf]⟩
              have HLT : Hid (s2.rest.length < n) := hide (by omega)
              clear V8 hkp hblk hrow hm HSP hrf HV7 HR7
              go_wp2_with fail
              go_step3
              exact .inr ⟨rfl, s2.rest.length, unhide HLT, q, s2, t1 ++ l, v', _, _, _, _, _, _, _, _, _, _, _, _, _, _, _, _, _, _, _, _, _, _, _, _, _, _, _, _, _, _, _, _, _, _, _, _, _, _, _, _, _, _, _, _, _, _, _, _, _, unhide HI8, rfl⟩
        · rw [hh, if_pos rfl] at hsp
          have HEQ := hide hsp
          refine (take_yes [q] (T [q]) hqa.1 hqa.2 p s1 _ (V5.rd R).at G1.fine (by rw [isPre_one]; exact hh)).mono ?_
          rintro e w6 ⟨rfl, hm6⟩
          have V6 := V5.moved hlt (Adv.by s1 [q].length) hm6
          have hcv := conv_owned V6.row
          have c66 : w6.cell? ⟨w.heap.size, 0, none⟩ = some (.slice a2 (tx t1).length k2) := blk_cell V6.box 0
          have HV6 := hide V6
          clear V5 V6 hm6 hsp
          go_wp2_with fail
          try rw [jumps_ret]
          go_ret2
          rw [unhide HEQ]
          exact ⟨(unhide HV6).low hlow hlt, rfl, (unhide HV6).rd R, (unhide HV6).adv, (unhide HV6).ok, by rw [T_size]; omega, (unhide HV6).kp⟩
  intro HR1
  have HR := hide HR1
  clear HR1
  go_wp2_with fail
  refine (quote_any p s _ (R.on (by (repeat first | assumption | with_reducible exact Below.refl _ _ | refine Below.drew ?_ | refine Below.setCell ?_ (by first | omega | (simp; omega) | (simp; done)) _ | refine Below.alloc ?_ (by first | omega | (simp; omega) | (simp; done)) _ | exact Below.refl _ _))).at hG.fine).mono ?_
  intro e w1 hq
  cases hqu : s.quote with
  | none =>
    rw [hqu] at hq
    obtain ⟨rfl, hb1⟩ := hq
    have R1 : Rd w1 B p m vo vt vr s := (R.on (by (repeat first | assumption | with_reducible exact Below.refl _ _ | refine Below.drew ?_ | refine Below.setCell ?_ (by first | omega | (simp; omega) | (simp; done)) _ | refine Below.alloc ?_ (by first | omega | (simp; omega) | (simp; done)) _ | exact Below.refl _ _))).on hb1
    go_wp2_with fail
    go_step3
    refine .inl ⟨rfl, ?_⟩
    go_wp2_with (go_at_call 63; refine (fail_rd B p 5 tag _ R1.blk rfl hlow).mono ?_; rintro e w5 ⟨rfl, hw5, hb5⟩)
    try rw [jumps_ret]
    go_ret2
    have hv : s.value tag = .error (5, tag) := by unfold RS.value; rw [hqu]
    rw [hv]
    exact ⟨(Below.trans (by (repeat first | assumption | with_reducible exact Below.refl _ _ | refine Below.drew ?_ | refine Below.setCell ?_ (by first | omega | (simp; omega) | (simp; done)) _ | refine Below.alloc ?_ (by first | omega | (simp; omega) | (simp; done)) _ | exact Below.refl _ _)) (hb1.mono (by simp; omega))).trans hb5, rfl, hw5⟩
  | some x =>
    obtain ⟨q, s1⟩ := x
    rw [hqu] at hq
    obtain ⟨rfl, hm1⟩ := hq
    have h0 : ValAt w p m vo vt vr s s [] (.slice none 0 0) (w.alloc (.cells #[.slice none 0 0] 48)) :=
      ⟨AdvT.refl s, ⟨rfl, rfl, rfl, by simp, fun k hk _ => (Below.refl w.heap.size w |>.alloc (Nat.le_refl _) _).block k hk⟩, block_below R.blk ((Below.refl _ _).alloc (Nat.le_refl _) _), (MapKept.heap_alloc w _).1, World.ownsRow_nil _ _ _ _, fun c hc => (by cases hc)⟩
    have h1 := h0.moved hlt (Adv.quote hqu) hm1
    have HV : Hid (RS.valueGo q tag (s1.rest.length + 1) s1 [] = s.value tag) := hide (by unfold RS.value; rw [hqu])
    have HQ : Hid (q = 34 ∨ q = 39) := hide (by rcases (quote_some hqu).2.2 with h | ⟨h, _⟩ <;> simp [h])
    go_wp2_with fail
    go_step3
    rename_i hK
    exact hK _ _ (unhide HR s1.rest.length _ _ ⟨q, s1, [], .slice none 0 0, _, _, _, _, _, _, _, _, _, _, _, _, _, _, _, _, _, _, _, _, _, _, _, _, _, _, _, _, _, _, _, _, _, _, _, _, _, _, _, _, _, _, _, _, _, _, _, _, _, ⟨h1, by have e := (quote_some hqu).1; subst e; show 0 + s.spent ≤ 2 * _ + s.spent; omega, unhide HQ, rfl, s1.rest.length + 1, by omega, unhide HV⟩, rfl⟩)
end Go.Proofs.YtefjfjieoiegnaaGreatDoor
/- Attributes: xmlscan's attributes. -/
namespace Go.Proofs.YtefjfjieoiegnaaGreatDoor
open Go.RowKit
abbrev PlacesAt (w : World) (b n : Nat) (D : DataW Unit) : Prop := w.ownsMap Tryz.prog 9 (plainElem Tryz.prog 3) b n D
def hasAll (D : DataW Unit) (names : List (List Nat)) : Prop := ∀ x, okL x → Maps.has D (.string (tx x)) = names.contains x
/-- Attributes in their variable, and the names in theirs, beside the reader. -/
structure AttAt (w : World) (p m : Nat) (vo vt vr : Value) (s s' : RS) (acc : List (List Nat × List Nat)) (names : List (List Nat)) (va : Value) (w' : World) : Prop where
  adv : AdvT s s'
  kp : Kp (fun k => k = p) w w'
  blk : w'.heap[p]? = some (.cells (rdArr s' m vo vt vr) 63 (0, 0))
  row : AttrsAt w' w.heap.size va acc
  map : ∃ D, PlacesAt w' w.heap.size names.length D ∧ hasAll D names
section
variable {w : World} {p m : Nat} {vo vt vr : Value} {s s' : RS} {acc : List (List Nat × List Nat)} {names : List (List Nat)} {va : Value} {w' : World}
theorem AttAt.rd {B : Nat} (h : AttAt w p m vo vt vr s s' acc names va w') (R : Rd w B p m vo vt vr s) : Rd w' B p m vo vt vr s' := h.kp.rd R h.adv h.blk
theorem AttAt.low {B : Nat} (h : AttAt w p m vo vt vr s s' acc names va w') (hB : B ≤ p) (hp : p < w.heap.size) : Below B w w' := h.kp.low (by omega) (fun k hk => by omega)
theorem AttAt.maplt (h : AttAt w p m vo vt vr s s' acc names va w') : w.heap.size < w'.heap.size := by
  obtain ⟨D, hD, _⟩ := h.map
  exact hD.lt
theorem Kp.then {S : Nat → Prop} {a b c : World} (h : Kp S a b) (g : Kp S b c) : Kp S a c :=
  ⟨g.os.trans h.os, g.tape.trans h.tape, g.output.trans h.output, Nat.le_trans h.size g.size, fun k hk hs => (g.block k (Nat.lt_of_lt_of_le hk h.size) hs).trans (h.block k hk hs)⟩
theorem Kp.below {p : Nat} {a b : World} (h : Below a.heap.size a b) : Kp (fun k => k = p) a b := ⟨h.os, h.tape, h.output, h.size, fun k hk _ => h.block k hk⟩
theorem Kp.moves {p n : Nat} {a b : World} (h : Moves p n a b) (hp : p < a.heap.size) : Kp (fun k => k = p) a b := by
  have hb := h.low (B := p) (Nat.le_refl _) (by omega)
  exact ⟨hb.os, hb.tape, hb.output, hb.size, fun k hk hs => h.block hk hs⟩
theorem AttAt.step (h : AttAt w p m vo vt vr s s' acc names va w') (hp : p < w.heap.size) {s2 : RS} {W : World} (ha : AdvT s' s2) (hk : Kp (fun k => k = p) w' W) (hb : W.heap[p]? = some (.cells (rdArr s2 m vo vt vr) 63 (0, 0))) : AttAt w p m vo vt vr s s2 acc names va W := by
  refine ⟨h.adv.then ha, h.kp.then hk, hb, ?_, ?_⟩
  · refine owns_kept (S := (· = p)) h.row (fun k o hk' hs => ?_) (fun k hk' hs => by have := (h.row.lt k hk').1; omega)
    rw [hk.block k (Array.getElem?_eq_some_iff.1 hk').1 hs]; exact hk'
  · obtain ⟨D, ⟨es, ck, h1, h2⟩, h3⟩ := h.map
    exact ⟨D, ⟨es, ck, by rw [hk.block _ h.maplt (by omega)]; exact h1, h2⟩, h3⟩
theorem AttAt.moved (h : AttAt w p m vo vt vr s s' acc names va w') (hp : p < w.heap.size) {s2 : RS} {W : World} (ha : Adv s' s2) (hm : Moves p s2.place w' W) : AttAt w p m vo vt vr s s2 acc names va W := by
  refine h.step hp ha.t (Kp.moves hm (by have := h.kp.size; omega)) ?_
  rw [hm.own h.blk]
  obtain ⟨k, rfl⟩ := ha
  unfold rdArr
  rw [adv_whole]
  rfl
theorem AttAt.on (h : AttAt w p m vo vt vr s s' acc names va w') (hp : p < w.heap.size) {W : World} (hb : Below w'.heap.size w' W) : AttAt w p m vo vt vr s s' acc names va W :=
  h.step hp (AdvT.refl _) (Kp.below hb) (block_below h.blk hb)
/-- A look-up among the names. -/
theorem AttAt.look (h : AttAt w p m vo vt vr s s' acc names va w') {n : List Nat} (hn : okL n) (hz : (T n).size ≤ 1000000) : ∃ c, (Instr.lookup 132 (.map (some w.heap.size)) (.string (T n)) true).run Tryz.prog w' = .ok (.tuple #[.int .i64 c, .bool (names.contains n)]) w' := by
  obtain ⟨D, hD, hh⟩ := h.map
  have hz0 : (zeroValue 3).run Tryz.prog w' = .ok (.int .i64 0) w' := by kernel_rfl
  obtain ⟨v, ps, hrun, hv⟩ := hD.look_ok (Maps.string_keyed Tryz.underlying9) Tryz.underlying132 hz0 (plainElem_int Tryz.underlying3 (by decide)) (Go.WideMaps.keyOf_string_mk Tryz.underlying9 (by unfold maxLen; omega : (T n).size ≤ maxLen))
  obtain ⟨c, rfl, _, _⟩ := plainElem_int_inv Tryz.underlying3 hv
  rw [T_data, hh n hn] at hrun
  exact ⟨c, hrun⟩
/-- A name more. -/
theorem AttAt.named (h : AttAt w p m vo vt vr s s' acc names va w') (hp : p < w.heap.size) {n : List Nat} (hn : okL n) {W : World} {D : DataW Unit} (hk : WideAt.IsKeyLit (.string (tx n))) (hD : PlacesAt w' w.heap.size names.length D) (hh : hasAll D names) {d : DataW Unit} (hW : PlacesAt W w.heap.size (names.length + 1) (D.put (.string (tx n)) d)) (hg : w'.grownBy W (some w.heap.size)) : AttAt w p m vo vt vr s s' acc (names ++ [n]) va W := by
  have hz := h.kp.size
  refine ⟨h.adv, ⟨hg.os.trans h.kp.os, hg.tape.trans h.kp.tape, hg.output.trans h.kp.output, Nat.le_trans hz hg.size, fun k hk hs => ?_⟩, ?_, ?_, ?_⟩
  · rw [hg.block k (by omega) (fun e => by cases e; omega), h.kp.block k hk hs]
  · rw [hg.block p (by omega) (fun e => by cases e; omega)]; exact h.blk
  · refine owns_kept (S := (· = w.heap.size)) h.row (fun k o hk' hs => ?_) (fun k hk' hs => ?_)
    · rw [hg.block k (Array.getElem?_eq_some_iff.1 hk').1 (fun e => hs (by cases e; rfl))]; exact hk'
    · subst hs
      obtain ⟨es, ck, h1, _⟩ := hD
      obtain ⟨c, hc⟩ := owns_type h.row hk'
      rw [h1] at hc
      cases hc
  · refine ⟨_, by rw [List.length_append]; exact hW, fun x hx => ?_⟩
    by_cases e : x = n
    · subst e
      rw [Maps.has_put_same hD.isMap hk]
      simp
    · rw [Maps.has_put_other (fun e' => e (tx_inj hx hn (Lit.string.inj e'))), hh x hx]
      simp [e]
/-- A pair more. -/
theorem AttAt.grown (h : AttAt w p m vo vt vr s s' acc names va w') (hp : p < w.heap.size) {W w2 : World} (hb : Below w'.heap.size w' W) (hg : W.grownBy w2 va.ownBlock) {v2 : Value} {acc2 : List (List Nat × List Nat)} (hown : AttrsAt w2 w.heap.size v2 acc2) : AttAt w p m vo vt vr s s' acc2 names v2 w2 := by
  have hz := h.kp.size
  have hz2 := hb.size
  have hlow : ∀ k, va.ownBlock = some k → w.heap.size ≤ k := fun k hk => (h.row.lt k hk).1
  have hml := h.maplt
  refine ⟨h.adv, ⟨hg.os.trans (hb.os.trans h.kp.os), hg.tape.trans (hb.tape.trans h.kp.tape), hg.output.trans (hb.output.trans h.kp.output), by have := hg.size; omega, fun k hk hs => ?_⟩, ?_, hown, ?_⟩
  · rw [hg.block k (by omega) (fun e => by have := hlow k e.symm; omega), hb.block k (by omega), h.kp.block k hk hs]
  · rw [hg.block p (by omega) (fun e => by have := hlow p e.symm; omega), hb.block p (by omega)]; exact h.blk
  · obtain ⟨D, ⟨es, ck, h1, h2⟩, h3⟩ := h.map
    refine ⟨D, ⟨es, ck, ?_, h2⟩, h3⟩
    rw [hg.block _ (by omega) (fun e => ?_), hb.block _ hml]
    · exact h1
    · obtain ⟨c, hc⟩ := owns_type h.row e.symm
      rw [h1] at hc
      cases hc
end
theorem str_key (x : List UInt8) : WideAt.IsKeyLit (.string x) := by
  first | exact trivial | simp [WideAt.IsKeyLit] | rfl
theorem pairRow_snoc (l : List (List Nat × List Nat)) (n v : List Nat) : pairRow (l ++ [(n, v)]) = pairRow l ++ [.string (T n), .string (T v)] := by
  unfold pairRow
  rw [List.flatMap_append]
  rfl
theorem owns_base {w : World} {b b' : Nat} {e : TypeId} {size : Nat} {v : Value} {n : Nat} {xs : List Value} (h : w.ownsRow b e size v n xs) (hb : b' ≤ b) : w.ownsRow b' e size v n xs := by
  refine ⟨h.1, ?_⟩
  rcases h.2 with h | ⟨g, cap, cur, h1, h2, h3⟩
  · exact .inl h
  · exact .inr ⟨g, cap, cur, h1, by omega, h3⟩
theorem attrsGo_eq (tag f : Nat) (s : RS) (acc : List (List Nat × List Nat)) : RS.attrsGo tag (f + 1) s acc = if !s.blank || (heads 47 s.blanks.rest || heads 62 s.blanks.rest) then .ok (acc, s.blanks) else
    if qnameA s.blanks.rest = [] ∨ (acc.map (·.1)).contains (qnameA s.blanks.rest) = true then .error (5, tag) else
    match s.blanks.qname.equals with
    | none => .error (5, tag)
    | some s3 => match s3.value tag with
      | .error e => .error e
      | .ok (v, s4) => RS.attrsGo tag f s4 (acc ++ [(qnameA s.blanks.rest, v)]) := rfl
def attP (o : Except Er (List (List Nat × List Nat) × RS)) (B p m : Nat) (vo vt vr : Value) (s : RS) (e : Ending) (w w' : World) : Prop := Below B w w' ∧ match o with
  | .ok (a, s') => ∃ va, e = .returned (.tuple #[va, .bool true]) ∧ Rd w' B p m vo vt vr s' ∧ AdvT s s' ∧ AttrsAt w' B va a
  | .error (c, pl) => e = .returned (.tuple #[.slice none 0 0, .bool false]) ∧ Wrong w' p c pl
end Go.Proofs.YtefjfjieoiegnaaGreatDoor
/- Attributes: xmlscan's attributes, walked. -/
namespace Go.Proofs.YtefjfjieoiegnaaGreatDoor
open Go.RowKit
theorem infoPair : (Tryz.prog.info? 40).map (fun i => (i.zero, i.size, i.bytes)) = some (some (.agg #[.string ⟨#[]⟩, .string ⟨#[]⟩]), 2, 32) := by kernel_rfl
theorem news2 {W : World} {g : Nat} {a b : Value} (h0 : W.cell? ⟨g, 0, none⟩ = some a) (h1 : W.cell? ⟨g, 1, none⟩ = some b) :
    ∀ j u, [a, b][j]? = some u → W.cell? ((⟨g, 0, none⟩ : Addr).add j) = some u := by
  intro j u h
  rw [Addr.add_mid, Nat.zero_add]
  match j, h with
  | 0, h => cases h; exact h0
  | 1, h => cases h; exact h1
theorem wf_i64 {n : Nat} (h : n ≤ 32768) : (Lit.int .i64 (n : Nat)).wf = true := by
  have h1 : IntKind.i64.min = -9223372036854775808 := by decide
  have h2 : IntKind.i64.max = 9223372036854775807 := by decide
  simp only [Lit.wf, Bool.and_eq_true, decide_eq_true_eq]
  rw [h1, h2]
  omega
structure AttInv (w : World) (p m tag : Nat) (vo vt vr : Value) (s : RS) (gk : Nat) (s' : RS) (acc : List (List Nat × List Nat)) (va : Value) (w' : World) : Prop where
  stand : AttAt w p m vo vt vr s s' acc (acc.map (·.1)) va w'
  few : acc.length ≤ s'.pre.length
  n : s'.rest.length = gk
  spec : ∃ f, s'.rest.length < f ∧ RS.attrsGo tag f s' acc = s.attributes tag
set_option maxRecDepth 100000 in
set_option maxHeartbeats 8000000 in
theorem attributes_any (B p m tag : Nat) (vo vt vr : Value) (s : RS) (w : World) (R : Rd w B p m vo vt vr s) (hG : Good s) (hE : XEnv B w) (hN : EOk s.ents) :
    Calls Tryz.prog 104 #[.pointer (some ⟨p, 0, none⟩), .int .i64 (tag : Nat)] w fun e w' => attP (s.attributes tag) B p m vo vt vr s e w w' := by
  have hlow := R.low
  have hlt := R.lt
  have hBw : B ≤ w.heap.size := by omega
  have hmk : ∀ W : World, (Instr.makeMap 132 none).run Tryz.prog W = .ok (.map (some W.heap.size)) (W.alloc (.map #[] 0)) := fun W => rfl
  obtain ⟨i0, hi, hz0, hz1, hz2⟩ := info_parts infoPair
  have h0 : AttAt w p m vo vt vr s s [] [] (.slice none 0 0) (w.alloc (.map #[] 0)) :=
    ⟨AdvT.refl s, Kp.below ((Below.refl _ _).alloc (Nat.le_refl _) _), block_below R.blk ((Below.refl _ _).alloc (Nat.le_refl _) _), World.ownsRow_nil _ _ _ _, .map [], World.ownsMap_made _ _ _ _, fun x _ => rfl⟩
  have HI0 : Hid (AttInv w p m tag vo vt vr s s.rest.length s [] (.slice none 0 0) (w.alloc (.map #[] 0))) := hide ⟨h0, Nat.zero_le _, rfl, s.rest.length + 1, by omega, rfl⟩
  clear h0
  go_enter Tryz.func104, Tryz.ntmps104
  go_wp2_with fail
  clear hmk
  go_loopg [6] s.rest.length (fun gk s6 wx => ∃ s' acc, AttInv w p m tag vo vt vr s gk s' acc s6 wx)
  case atStart => exact ⟨s, [], unhide HI0⟩
  case round =>
    obtain ⟨s', acc, hI⟩ := hrel
    have A0 := hI.stand
    have G0 := hG.t A0.adv
    obtain ⟨f, hf, hsp⟩ : ∃ f, s'.rest.length < f + 1 ∧ s.attributes tag = RS.attrsGo tag (f + 1) s' acc := by
      obtain ⟨f, hf, he⟩ := hI.spec
      obtain ⟨g, rfl⟩ : ∃ g, f = g + 1 := ⟨f - 1, by omega⟩
      exact ⟨g, hf, he.symm⟩
    rw [attrsGo_eq] at hsp
    have HSP := hide hsp
    have HI := hide hI
    clear hsp hI HI0
    go_wp2_with fail
    refine (blanks_any p s' _ (A0.rd R).at G0.fine).mono ?_
    rintro e w1 ⟨rfl, hm1⟩
    have A1 := A0.moved hlt (Adv.blanks s') hm1
    have G1 := G0.to (Adv.blanks s')
    cases hbl : s'.blank
    · have HEQ : Hid (s.attributes tag = .ok (acc, s'.blanks)) := hide (by rw [unhide HSP, hbl]; rfl)
      have HA1 := hide A1
      clear HSP A1 A0 hbl hm1
      go_wp2_with fail
      go_ret2
      rw [unhide HEQ]
      exact ⟨(unhide HA1).low hlow hlt, _, rfl, (unhide HA1).rd R, (unhide HA1).adv, owns_base (unhide HA1).row hBw⟩
    · have hsp := unhide HSP
      clear HSP
      rw [hbl, Bool.not_true, Bool.false_or] at hsp
      have hrl : s'.blanks.rest.length ≤ s'.rest.length := by
        show (s'.rest.drop _).length ≤ _
        rw [List.length_drop]; omega
      have hfew := (unhide HI).few
      have hpl : s'.pre.length ≤ s'.blanks.pre.length := by
        show _ ≤ (s'.pre ++ _).length
        rw [List.length_append]; omega
      have hgn := (unhide HI).n
      clear HI A0 hm1 hbl
      generalize hgs : s'.blanks = s1 at *
      clear hgs
      go_wp2_with fail
      refine (sees_any [47] ⟨#[47]⟩ rfl (by decide) p s1 _ (A1.rd R).at G1.fine).mono ?_
      rintro e w2 ⟨rfl, hb2⟩
      have A2 := A1.on hlt hb2
      clear A1
      rw [isPre_one]
      cases h47 : heads 47 s1.rest
      · rw [h47, Bool.false_or] at hsp
        clear h47
        go_wp2_with fail
        refine (sees_any [62] ⟨#[62]⟩ rfl (by decide) p s1 _ (A2.rd R).at G1.fine).mono ?_
        rintro e w3 ⟨rfl, hb3⟩
        have A3 := A2.on hlt hb3
        clear A2
        rw [isPre_one]
        cases h62 : heads 62 s1.rest
        · rw [h62, if_neg (by decide)] at hsp
          clear h62
          go_wp2_with fail
          refine (qname_any p s1 _ (A3.rd R).at G1.fine).mono ?_
          rintro e w4 ⟨rfl, hm4⟩
          have A4 := A3.moved hlt (Adv.qname s1) hm4
          have G4 := G1.to (Adv.qname s1)
          have hon := okL_pre G1.fine.okR (qnameA_pre s1.rest)
          have hsn := size_pre (qnameA_pre s1.rest)
          have hzz := G1.fine.lt
          have hrl4 : s1.qname.rest.length + (qnameA s1.rest).length = s1.rest.length := by
            have := congrArg List.length (pre_drop (qnameA_pre s1.rest))
            rw [List.length_append] at this
            show (s1.rest.drop _).length + _ = _
            omega
          have hpl4 : s1.qname.pre.length = s1.pre.length + (qnameA s1.rest).length := by
            show (s1.pre ++ s1.rest.take _).length = _
            rw [List.length_append, List.length_take]
            have := List.IsPrefix.length_le (qnameA_pre s1.rest)
            omega
          clear A3 hm4
          obtain ⟨c, hlk⟩ := A4.look hon (by omega)
          generalize hgq : qnameA s1.rest = n at *
          generalize hgs : s1.qname = s2 at *
          clear hgq hgs
          by_cases hn : n = []
          · have e1 := nil_T hn
            have HEQ : Hid (s.attributes tag = .error (5, tag)) := hide (by rw [hsp, if_pos (.inl hn)])
            have R4 := A4.rd R
            have hB4 := A4.low hlow hlt
            clear hsp hn A4
            go_wp2_with (go_at_call 63; refine (fail_rd B p 5 tag _ R4.blk rfl hlow).mono ?_; rintro e w5 ⟨rfl, hw5, hb5⟩)
            go_ret2
            rw [unhide HEQ]
            exact ⟨hB4.trans hb5, rfl, hw5⟩
          · have e1 := ne_T hon hn
            cases htw : (acc.map (·.1)).contains n
            · rw [htw] at hlk
              rw [if_neg (by rw [htw]; simp [hn])] at hsp
              have HA4 := hide A4
              have HNE := hide hn
              clear A4 htw hn
              go_wp2_with fail
              refine (equals_any p s2 _ ((unhide HA4).rd R).at G4.fine).mono ?_
              intro e w5 heq
              cases hes : s2.equals with
              | none =>
                rw [hes] at heq hsp
                obtain ⟨k5, rfl, hm5⟩ := heq
                have HEQ := hide hsp
                obtain ⟨cc, hb5', hcs⟩ := moved_blk ((unhide HA4).rd R) hm5
                have hB5 : Below B w w5 := ((unhide HA4).low hlow hlt).trans (hm5.low hlow (by have := ((unhide HA4).rd R).lt; omega))
                clear hsp hm5 HA4 hlk hes
                go_wp2_with (go_at_call 63; refine (fail_rd B p 5 tag _ hb5' hcs hlow).mono ?_; rintro e w6 ⟨rfl, hw6, hb6⟩)
                go_ret2
                rw [unhide HEQ]
                exact ⟨hB5.trans hb6, rfl, hw6⟩
              | some s3 =>
                rw [hes] at heq hsp
                obtain ⟨rfl, hm5⟩ := heq
                have A5 := (unhide HA4).moved hlt (Adv.equals hes) hm5
                have G5 := G4.to (Adv.equals hes)
                have ha5 := Adv.equals hes
                obtain ⟨D, hD, hh⟩ := A5.map
                have hlen : (acc.map (·.1)).length < maxLen := by
                  rw [List.length_map]
                  unfold maxLen
                  have := take_sz s2.pre.length s2.pre (okL_left G4.fine.ok) (Nat.le_refl _)
                  rw [List.take_length] at this
                  have h4 := G4.fine.lt
                  have h5 : s2.place = (T s2.pre).size := rfl
                  omega
                obtain ⟨aa, ca, rfl⟩ := owns_slice A5.row
                have hacc : acc.length ≤ 32768 := by
                  have := take_sz s2.pre.length s2.pre (okL_left G4.fine.ok) (Nat.le_refl _)
                  rw [List.take_length] at this
                  have h4 := G4.fine.lt
                  have h5 : s2.place = (T s2.pre).size := rfl
                  omega
                have HKY : Hid (keyOf Tryz.prog 9 (.string (T n)) = some (.string (tx n))) := hide (by rw [← T_data]; exact Go.WideMaps.keyOf_string_mk Tryz.underlying9 (by unfold maxLen; omega : (T n).size ≤ maxLen))
                have HPE : Hid (plainElem (H := Unit) Tryz.prog 3 (.int .i64 (acc.length : Nat)) = some (.lit (.int .i64 (acc.length : Nat)), [])) := hide (plainElem_int Tryz.underlying3 (wf_i64 hacc))
                have HSPS := hide hsp
                have HA5 := hide A5
                have HD := hide hD
                have HH := hide hh
                clear hsp hm5 HA4 hlk hes A5 hD hh
                go_wp2_with (at_mapUpdate; refine wpList_mapUpdate_own _ rfl _ _ _ 132 rfl 9 3 (Maps.string_keyed Tryz.underlying9) Tryz.underlying132 (plainElem Tryz.prog 3) w.heap.size (acc.map (·.1)).length D rfl (unhide HD) hlen _ _ (.string (tx n)) rfl rfl (unhide HKY) (.lit (.int .i64 (acc.length : Nat))) [] (unhide HPE) ?_; intro w6 hown6 hgrow6)
                have A6 := (unhide HA5).named hlt hon (str_key _) (unhide HD) (unhide HH) hown6 hgrow6
                clear hown6 hgrow6 HA5 HD HH
                have hb6B := A6.low hlow hlt
                refine (value_any B p m tag vo vt vr s3 _ (A6.rd R) G5 (hE.low hb6B) (EOk.of A6.adv.same.1 hN)).mono ?_
                intro e w7 hv
                obtain ⟨hb7, hv⟩ := hv
                cases hvs : s3.value tag with
                | error x =>
                  obtain ⟨cc, pl⟩ := x
                  rw [hvs] at hv
                  obtain ⟨rfl, hw7⟩ := hv
                  have HEQ : Hid (s.attributes tag = .error (cc, pl)) := hide (by rw [unhide HSPS, hvs])
                  clear HSPS hvs A6
                  go_wp2_with fail
                  go_ret2
                  rw [unhide HEQ]
                  exact ⟨hb6B.trans hb7, rfl, hw7⟩
                | ok x =>
                  obtain ⟨v, s4⟩ := x
                  rw [hvs] at hv
                  obtain ⟨rfl, R7, ha7, hov, hsv, hk7⟩ := hv
                  have A7 := A6.step hlt ha7 hk7 R7.blk
                  have HA7 := hide A7
                  have HSV : Hid (s.attributes tag = RS.attrsGo tag f s4 (acc ++ [(n, v)])) := hide (by rw [unhide HSPS, hvs])
                  have hn1 : 1 ≤ n.length := by
                    cases hnn : n with
                    | nil => exact absurd hnn (unhide HNE)
                    | cons _ _ => simp
                  have hr3 : s3.rest.length ≤ s2.rest.length := by
                    obtain ⟨k, rfl⟩ := ha5
                    show (s2.rest.drop _).length ≤ _
                    rw [List.length_drop]; omega
                  have hr4 : s4.rest.length ≤ s3.rest.length := ha7.len
                  have hp3 : s2.pre.length ≤ s3.pre.length := by
                    obtain ⟨k, rfl⟩ := ha5
                    show _ ≤ (s2.pre ++ _).length
                    rw [List.length_append]; omega
                  have hp4 : s3.pre.length ≤ s4.pre.length := ha7.pre
                  have HLT : Hid (s4.rest.length < gk) := hide (by omega)
                  have HFW : Hid ((acc ++ [(n, v)]).length ≤ s4.pre.length) := hide (by rw [List.length_append]; simp; omega)
                  have HF : Hid (s4.rest.length < f) := hide (by omega)
                  have hm7 := A7.maplt
                  clear A6 A7 HSPS hvs R7 hk7
                  go_wp2_with (at_builtin; refine wpList_append_own _ rfl _ _ 35 rfl w.heap.size 40 i0 _ 2 32 Tryz.underlying35 hi hz0 hz1 hz2 rfl (by decide) _ acc.length (pairRow acc) rfl (owns_below (unhide HA7).row ((Below.refl _ _).alloc (Nat.le_refl _) _)) ⟨w7.heap.size, 0, none⟩ 1 1 [.string (T n), .string (T v)] rfl rfl (news2 (by simp [go_sem]) (by simp [go_sem])) (fun u hu => by simp at hu; rcases hu with rfl | rfl <;> rfl) (by unfold maxLen; omega) (by omega) (by simp; omega) ?_; intro v8 w8 hown8 hgrow8 _)
                  have hrow8 : AttrsAt w8 w.heap.size v8 (acc ++ [(n, v)]) := by
                    unfold AttrsAt
                    rw [pairRow_snoc, List.length_append]
                    exact hown8
                  have A8 := (unhide HA7).grown hlt ((Below.refl _ _).alloc (Nat.le_refl _) _) hgrow8 hrow8
                  have HI8 : Hid (AttInv w p m tag vo vt vr s s4.rest.length s4 (acc ++ [(n, v)]) v8 w8) := hide ⟨by rw [List.map_append]; exact A8, unhide HFW, rfl, f, unhide HF, (unhide HSV).symm⟩
                  go_roundg s4.rest.length
                  case measure => exact unhide HLT
                  case rel => exact ⟨s4, acc ++ [(n, v)], unhide HI8⟩
            · rw [htw] at hlk
              have HEQ : Hid (s.attributes tag = .error (5, tag)) := hide (by rw [hsp, if_pos (.inr htw)])
              have R4 := A4.rd R
              have hB4 := A4.low hlow hlt
              clear hsp hn A4 htw
              go_wp2_with (go_at_call 63; refine (fail_rd B p 5 tag _ R4.blk rfl hlow).mono ?_; rintro e w5 ⟨rfl, hw5, hb5⟩)
              go_ret2
              rw [unhide HEQ]
              exact ⟨hB4.trans hb5, rfl, hw5⟩
        · rw [h62, if_pos rfl] at hsp
          have HEQ := hide hsp
          have HA3 := hide A3
          clear hsp A3 h62
          go_wp2_with fail
          go_ret2
          rw [unhide HEQ]
          exact ⟨(unhide HA3).low hlow hlt, _, rfl, (unhide HA3).rd R, (unhide HA3).adv, owns_base (unhide HA3).row hBw⟩
      · rw [h47, Bool.true_or, if_pos rfl] at hsp
        have HEQ := hide hsp
        have HA2 := hide A2
        clear hsp A2 h47
        go_wp2_with fail
        go_ret2
        rw [unhide HEQ]
        exact ⟨(unhide HA2).low hlow hlt, _, rfl, (unhide HA2).rd R, (unhide HA2).adv, owns_base (unhide HA2).row hBw⟩
end Go.Proofs.YtefjfjieoiegnaaGreatDoor
