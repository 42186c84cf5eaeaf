/- Several texts, laid as one. -/
import Derived.Test.YtefjfjieoiegnaaGreatDoorGan
import Derived.Lib.AppendStr
/- Text, comments and instructions as tokens: xmlscan's tellComment, tellInstruction, roomForRun, plain, section. -/
namespace Go.Proofs.YtefjfjieoiegnaaGreatDoor
open Go.RowKit
/-- What always holds of a reader's state. -/
structure Good (s : RS) : Prop where
  fine : Fine s
  n1 : s.toks.length ≤ 4096
  n2 : s.run ≠ [] → s.toks.length < 4096
  okr : okL s.run
  rl : (tx s.run).length ≤ s.place + s.spent
  sp : s.spent ≤ 32768
theorem Good.adv {s : RS} (h : Good s) (n : Nat) : Good (s.adv n) :=
  ⟨h.fine.adv n, h.n1, h.n2, h.okr, by have := h.rl; have e := place_adv s n; show (tx s.run).length ≤ (s.adv n).place + s.spent; omega, h.sp⟩
theorem Good.to {s s' : RS} (h : Good s) (ha : Adv s s') : Good s' := by
  obtain ⟨k, rfl⟩ := ha
  exact h.adv k
theorem Good.flush {s : RS} (h : Good s) : s.flush.toks.length ≤ 4096 := by
  by_cases hr : s.run = []
  · rw [(flush_eq s).1 hr]; exact h.n1
  · rw [(flush_eq s).2 hr]
    have := h.n2 hr
    simp; omega
theorem Good.pos {s : RS} (h : Good s) (hr : s.run ≠ []) : 0 < (tx s.run).length := Nat.pos_of_ne_zero fun h0 => hr (tx_len_zero h.okr h0)
theorem Good.tell {s s' : RS} {t : XTok} {pl : Nat} (h : Good s) (ht : s.tell t pl = .ok s') : Good s' ∧ s'.run = [] ∧ s'.pre = s.pre ∧ s'.rest = s.rest ∧ s'.ents = s.ents ∧ s'.opn = s.opn ∧ s'.spent = s.spent := by
  rw [tell_eq] at ht
  split at ht
  · cases ht
  · rename_i hne
    cases ht
    have hf := h.flush
    by_cases hr : s.run = []
    · have e := (flush_eq s).1 hr
      rw [e] at hne hf ⊢
      refine ⟨⟨⟨h.fine.ok, h.fine.le⟩, ?_, fun hx => absurd hr hx, h.okr, h.rl, h.sp⟩, hr, rfl, rfl, rfl, rfl, rfl⟩
      show (s.toks ++ [t]).length ≤ 4096
      rw [List.length_append, List.length_singleton]
      omega
    · have e := (flush_eq s).2 hr
      rw [e] at hne hf ⊢
      refine ⟨⟨⟨h.fine.ok, h.fine.le⟩, ?_, fun hx => absurd rfl hx, fun c hc => (by cases hc), Nat.zero_le _, h.sp⟩, rfl, rfl, rfl, rfl, rfl, rfl⟩
      show ((s.toks ++ [(⟨4, [], [], s.run⟩ : XTok)]) ++ [t]).length ≤ 4096
      simp at hne hf ⊢
      omega
theorem outP_low {o : Except Er RS} {B p m : Nat} {e : Ending} {w w1 w' : World} (h : Below B w w1) (ho : outP o B p m e w1 w') : outP o B p m e w w' := ⟨h.trans ho.1, ho.2⟩
theorem outP_form {o : Except Er RS} {B p m : Nat} {e : Ending} {w w' : World} (ho : outP o B p m e w w') : ∃ b, e = .returned (.bool b) ∧ outP o B p m (.returned (.bool b)) w w' := by
  obtain ⟨h1, h2⟩ := ho
  cases o with
  | error c => obtain ⟨rfl, h3⟩ := h2; exact ⟨false, rfl, h1, rfl, h3⟩
  | ok s => obtain ⟨rfl, h3⟩ := h2; exact ⟨true, rfl, h1, rfl, h3⟩
theorem rd_size (s : RS) (m : Nat) (vo vt vr : Value) : (rdArr s m vo vt vr).size = 10 := rfl
theorem moved_blk {w w' : World} {B p m k : Nat} {vo vt vr : Value} {s : RS} (R : Rd w B p m vo vt vr s) (hm : Moves p k w w') : ∃ c, w'.heap[p]? = some (.cells c 63 (0, 0)) ∧ c.size = 10 :=
  ⟨_, hm.own R.blk, by simp [rdArr]⟩
set_option maxHeartbeats 1000000 in
theorem tellComment_any (B p m : Nat) (vo vt vr : Value) (s : RS) (w : World) (R : Rd w B p m vo vt vr s) (hG : Good s) (hE : XEnv B w) (hs : s.sees [60, 33, 45, 45] = true) :
    Calls Tryz.prog 58 #[.pointer (some ⟨p, 0, none⟩)] w fun e w' => outP s.tellComment B p m e w w' := by
  have hlow := R.low
  have hlt := R.lt
  have c1 : w.cell? ⟨p, 1, none⟩ = some (.int .i64 (s.place : Nat)) := R.at.pos
  have HD : Hid (s.tellComment = match s.comment with | none => .error (5, s.place) | some (t, s1) => s1.tell ⟨5, [], [], t⟩ s.place) := hide rfl
  go_enter Tryz.func58, Tryz.ntmps58
  go_wp2_with fail
  refine (comment_any B p s _ R.at hG.fine hE hlow hs).mono ?_
  intro e w1 hq
  cases hc : s.comment with
  | none =>
    rw [hc] at hq
    obtain ⟨y, k, rfl, hm⟩ := hq
    obtain ⟨c, hcb, hcs⟩ := moved_blk R hm
    have HEQ : Hid (s.tellComment = .error (5, s.place)) := hide (by rw [unhide HD, hc])
    have hb1 := hm.low hlow (by omega)
    clear hc
    go_wp2_with (go_at_call 63; refine (fail_rd B p 5 s.place _ hcb hcs hlow).mono ?_; rintro e w2 ⟨rfl, hw2, hb2⟩)
    go_ret
    rw [unhide HEQ]
    exact ⟨hb1.trans hb2, rfl, hw2⟩
  | some xs =>
    obtain ⟨x, s1⟩ := xs
    rw [hc] at hq
    obtain ⟨rfl, hm⟩ := hq
    have hA := Adv.comment hc
    have R1 := R.moved hm hA
    have G1 := hG.to hA
    have HEQ : Hid (s.tellComment = s1.tell ⟨5, [], [], x⟩ s.place) := hide (by rw [unhide HD, hc])
    have hb1 := hm.low hlow (by omega)
    have hB1 : B ≤ w1.heap.size := by have := R1.lt; omega
    have HT := hide (tell_any B p m vo vt vr (.slice none 0 0) s1 ⟨5, [], [], x⟩ s.place w1 R1 (World.ownsRow_nil _ _ _ _) G1.flush G1.pos hB1)
    clear hc
    go_wp2_with (go_at_call 99; refine (unhide HT).mono ?_; intro e w2 ho; obtain ⟨b, rfl, ho⟩ := outP_form ho)
    go_ret
    rw [unhide HEQ]
    exact outP_low hb1 ho
set_option maxRecDepth 100000 in
set_option maxHeartbeats 1000000 in
theorem tellInstruction_any (B p m : Nat) (vo vt vr : Value) (s : RS) (w : World) (R : Rd w B p m vo vt vr s) (hG : Good s) (hE : XEnv B w) (hs : s.sees [60, 63] = true) :
    Calls Tryz.prog 59 #[.pointer (some ⟨p, 0, none⟩)] w fun e w' => outP s.tellInstruction B p m e w w' := by
  have hlow := R.low
  have hlt := R.lt
  have c1 : w.cell? ⟨p, 1, none⟩ = some (.int .i64 (s.place : Nat)) := R.at.pos
  have HD : Hid (s.tellInstruction = match s.instruction with | none => .error (5, s.place) | some (n, t, s1) => s1.tell ⟨6, n, [], t⟩ s.place) := hide rfl
  go_enter Tryz.func59, Tryz.ntmps59
  go_wp2_with fail
  refine (instruction_any B p s _ R.at hG.fine hE hlow hs).mono ?_
  intro e w1 hq
  cases hc : s.instruction with
  | none =>
    rw [hc] at hq
    obtain ⟨y, z, k, rfl, hm⟩ := hq
    obtain ⟨c, hcb, hcs⟩ := moved_blk R hm
    have HEQ : Hid (s.tellInstruction = .error (5, s.place)) := hide (by rw [unhide HD, hc])
    have hb1 := hm.low hlow (by omega)
    clear hc
    go_wp2_with (go_at_call 63; refine (fail_rd B p 5 s.place _ hcb hcs hlow).mono ?_; rintro e w2 ⟨rfl, hw2, hb2⟩)
    go_ret
    rw [unhide HEQ]
    exact ⟨hb1.trans hb2, rfl, hw2⟩
  | some xs =>
    obtain ⟨n, x, s1⟩ := xs
    rw [hc] at hq
    obtain ⟨rfl, hm⟩ := hq
    have hA := (Adv.instruction hc).1
    have R1 := R.moved hm hA
    have G1 := hG.to hA
    have HEQ : Hid (s.tellInstruction = s1.tell ⟨6, n, [], x⟩ s.place) := hide (by rw [unhide HD, hc])
    have hb1 := hm.low hlow (by omega)
    have hB1 : B ≤ w1.heap.size := by have := R1.lt; omega
    have HT : Hid (Calls Tryz.prog 99 #[.pointer (some ⟨p, 0, none⟩), .agg #[.int .i64 6, .string (T n), .slice none 0 0, .string (T x)], .int .i64 (s.place : Nat)] w1 fun e w' => outP (s1.tell ⟨6, n, [], x⟩ s.place) B p m e w1 w') := hide (tell_any B p m vo vt vr (.slice none 0 0) s1 ⟨6, n, [], x⟩ s.place w1 R1 (World.ownsRow_nil _ _ _ _) G1.flush G1.pos hB1)
    clear hc
    go_wp2_with (go_at_call 99; refine (unhide HT).mono ?_; intro e w2 ho; obtain ⟨b, rfl, ho⟩ := outP_form ho)
    go_ret
    rw [unhide HEQ]
    exact outP_low hb1 ho
/-- Where the text's row was written, and all else stands. -/
theorem Rd.ran {W w' : World} {B p m : Nat} {vo vt vr v' : Value} {s : RS} {x : List Nat} (R : Rd W B p m vo vt vr s) (hg : W.grownBy w' vr.ownBlock) (hown : w'.ownsRow B 5 1 v' ((tx s.run).length + (T x).size) (byteCells (tx s.run) ++ Lib.strCells (T x))) :
    Rd (w'.setCell ⟨p, 6, none⟩ v') B p m vo vt v' { s with run := s.run ++ x } ∧ w'.heap[p]? = some (.cells (rdArr s m vo vt vr) 63 (0, 0)) := by
  have hvr : vr.ownBlock ≠ some p := owns_not R.run R.blk (by decide)
  have hp : w'.heap[p]? = some (.cells (rdArr s m vo vt vr) 63 (0, 0)) := by
    rw [hg.block p R.lt (fun e => hvr e.symm)]; exact R.blk
  have hk : ∀ k o, W.heap[k]? = some o → ¬ (vr.ownBlock = some k ∨ k = p) → (w'.setCell ⟨p, 6, none⟩ v').heap[k]? = some o := fun k o ho hs => by
    rw [blk_other (fun e => hs (.inr e)), hg.block k (Array.getElem?_eq_some_iff.1 ho).1 (fun e => hs (.inl e.symm))]; exact ho
  have hrow : ∀ {base : Nat} {e : TypeId} {size : Nat} {v : Value} {n : Nat} {xs : List Value}, W.ownsRow base e size v n xs → e ≠ 5 → e ≠ 63 → (w'.setCell ⟨p, 6, none⟩ v').ownsRow base e size v n xs := fun ho e1 e2 =>
    owns_kept ho hk fun k hk' hs => by
      rcases hs with hs | rfl
      · exact owns_apart ho R.run e1 k hk' hs
      · exact owns_not ho R.blk e2 hk'
  refine ⟨⟨?_, R.low, ?_, hrow R.opn (by decide) (by decide), ?_, ?_⟩, hp⟩
  · rw [blk_set hp]; rfl
  · refine R.ents.kept ?_
    obtain ⟨es, clock, hm⟩ := R.ents.map
    rw [hm]
    refine hk m _ hm fun hs => ?_
    rcases hs with e | e
    · obtain ⟨c, hc⟩ := owns_type R.run e
      rw [hm] at hc
      cases hc
    · exact R.ents.ne R.blk e
  · refine R.toks.kept _ hk fun k c hs => ?_
    rcases hs with e | rfl
    · obtain ⟨c', hc⟩ := owns_type R.run e
      rw [hc]
      exact ⟨fun e => (by cases e), fun e => (by cases e)⟩
    · rw [R.blk]
      exact ⟨fun e => (by cases e), fun e => (by cases e)⟩
  · have e1 : byteCells (tx s.run) ++ Lib.strCells (T x) = byteCells (tx (s.run ++ x)) := by
      rw [tx_append, byteCells_append]
      unfold Lib.strCells byteCells
      rw [T_data]
    have e2 : (tx s.run).length + (T x).size = (tx (s.run ++ x)).length := by rw [T_size, tx_len_app]
    rw [e1, e2] at hown
    exact owns_kept (S := (· = p)) hown (fun k o hk hs => by rw [blk_other hs]; exact hk) fun k hk' hs => by
      subst hs
      exact owns_not hown hp (by decide) hk'
set_option maxHeartbeats 1000000 in
theorem room_any (B p m : Nat) (vo vt vr : Value) (s : RS) (w : World) (R : Rd w B p m vo vt vr s) (hrp : s.run ≠ [] → 0 < (tx s.run).length) :
    Calls Tryz.prog 108 #[.pointer (some ⟨p, 0, none⟩)] w fun e w' => outP s.room B p m e w w' := by
  have hlow := R.low
  have HR := hide R
  have HD : Hid (s.room = if s.run ≠ [] ∧ s.toks.length = 4096 then .error (6, s.runAt) else .ok s) := hide rfl
  have HFR := hide (fail_rd B p 6 s.runAt w R.blk rfl hlow)
  obtain ⟨vs, _, hrow, _⟩ := R.toks
  obtain ⟨at', ct, rfl⟩ := owns_slice hrow
  obtain ⟨ar, cr, rfl⟩ := owns_slice R.run
  have c5 : w.cell? ⟨p, 5, none⟩ = some (.slice at' s.toks.length ct) := blk_cell R.blk 5
  have c6 : w.cell? ⟨p, 6, none⟩ = some (.slice ar (tx s.run).length cr) := blk_cell R.blk 6
  have c7 : w.cell? ⟨p, 7, none⟩ = some (.int .i64 (s.runAt : Nat)) := blk_cell R.blk 7
  clear hrow R
  by_cases hr : s.run = []
  · have hz : (tx s.run).length = 0 := by rw [hr]; rfl
    rw [hz] at c6
    have HEQ : Hid (s.room = .ok s) := hide (by rw [unhide HD, if_neg (fun h => h.1 hr)])
    clear hr hz
    go_enter Tryz.func108, Tryz.ntmps108
    go_wp2
    go_ret
    rw [unhide HEQ]
    exact ⟨Below.refl _ _, rfl, _, _, _, unhide HR⟩
  · have hz := hrp hr
    by_cases hf : s.toks.length = 4096
    · have HEQ : Hid (s.room = .error (6, s.runAt)) := hide (by rw [unhide HD, if_pos ⟨hr, hf⟩])
      have hf' : ((s.toks.length : Int) == 4096) = true := by rw [hf]; rfl
      have hz' : 0 < (tx s.run).length := hz
      clear hr hf hz
      go_enter Tryz.func108, Tryz.ntmps108
      go_wp2_with (go_at_call 63; refine (unhide HFR).mono ?_; rintro e w2 ⟨rfl, hw2, hb2⟩)
      go_ret
      rw [unhide HEQ]
      exact ⟨hb2, rfl, hw2⟩
    · have HEQ : Hid (s.room = .ok s) := hide (by rw [unhide HD, if_neg (fun h => hf h.2)])
      have hf' : ((s.toks.length : Int) == 4096) = false := by simpa using (by omega : ¬ (s.toks.length : Int) = 4096)
      have hz' : 0 < (tx s.run).length := hz
      clear hr hf hz
      go_enter Tryz.func108, Tryz.ntmps108
      go_wp2
      go_ret
      rw [unhide HEQ]
      exact ⟨Below.refl _ _, rfl, _, _, _, unhide HR⟩
end Go.Proofs.YtefjfjieoiegnaaGreatDoor
/- Text as it stands, and CDATA: xmlscan's plain and section. -/
namespace Go.Proofs.YtefjfjieoiegnaaGreatDoor
open Go.RowKit
theorem ahead_pre (a l : List Nat) : ahead a l <+: l := by
  unfold ahead
  induction l with
  | nil => exact List.prefix_refl _
  | cons c t ih =>
    rw [cutL]
    split
    · rename_i h
      split at h
      · cases h
      · cases hc : cutL a t with
        | none => exact List.prefix_refl _
        | some x => rw [hc] at h; cases h
    · rename_i x h
      split at h
      · cases h; exact List.nil_prefix
      · cases hc : cutL a t with
        | none => rw [hc] at h; cases h
        | some y =>
          rw [hc] at h ih
          cases h
          exact List.cons_prefix_cons.2 ⟨rfl, ih⟩
theorem cut_ahead (a : List Nat) (u : ByteArray) (hu : u.data.toList = a.map UInt8.ofNat) (ha : ∀ c ∈ a, c < 128) (hne : a ≠ []) (l : List Nat) (hl : okL l) (hs : (T l).size ≤ 32768) (w : World) (hE : Env w) :
    Calls Tryz.prog 141 #[.string (T l), .string u] w fun e w' => (∃ y b, e = .returned (.tuple #[.string (T (ahead a l)), .string y, .bool b])) ∧ Below w.heap.size w w' := by
  refine (cut_T a u hu ha hne l hl hs w hE).mono ?_
  rintro e w' ⟨rfl, hb⟩
  refine ⟨?_, hb⟩
  unfold ahead
  cases cutL a l with
  | none => exact ⟨_, _, rfl⟩
  | some x => exact ⟨_, _, rfl⟩
theorem plainA_pre (l : List Nat) : plainA l <+: l := (ahead_pre _ _).trans ((ahead_pre _ _).trans (ahead_pre _ _))
theorem infoU8 : (Tryz.prog.info? 5).map (fun i => (i.zero, i.size, i.bytes)) = some (some (.int .u8 0), 1, 1) := by kernel_rfl
/-- A text more behind the last token, as far as there is room. -/
theorem Good.ran {s : RS} (h : Good s) {x : List Nat} (hx : okL x) (hl : (tx s.run).length + (T x).size ≤ s.place + s.spent) {s' : RS} (hr : { s with run := s.run ++ x }.room = .ok s') : Good s' ∧ s' = { s with run := s.run ++ x } := by
  unfold RS.room at hr
  split at hr
  · cases hr
  · rename_i hne
    cases hr
    refine ⟨⟨⟨h.fine.ok, h.fine.le⟩, h.n1, fun hx => ?_, okL_app h.okr hx, ?_, h.sp⟩, rfl⟩
    · have := h.n1
      have h2 : ¬ s.toks.length = 4096 := fun e => hne ⟨hx, e⟩
      show s.toks.length < 4096
      omega
    · show (tx (s.run ++ x)).length ≤ s.place + s.spent
      rw [tx_len_app, ← T_size x]; exact hl
set_option maxRecDepth 100000 in
set_option maxHeartbeats 2000000 in
theorem plain_any (B p m : Nat) (vo vt vr : Value) (s : RS) (w : World) (R : Rd w B p m vo vt vr s) (hG : Good s) (hE : XEnv B w) :
    Calls Tryz.prog 109 #[.pointer (some ⟨p, 0, none⟩)] w fun e w' => outP s.plain B p m e w w' := by
  have hlow := R.low
  have hlt := R.lt
  have i0 : ∀ w, (Instr.index 140 (.agg #[.string ⟨#[60]⟩, .string ⟨#[38]⟩, .string ⟨#[93, 93, 62]⟩]) (.int .i64 0)).run Tryz.prog w = .ok (.string ⟨#[60]⟩) w := fun _ => by kernel_rfl
  have i1 : ∀ w, (Instr.index 140 (.agg #[.string ⟨#[60]⟩, .string ⟨#[38]⟩, .string ⟨#[93, 93, 62]⟩]) (.int .i64 1)).run Tryz.prog w = .ok (.string ⟨#[38]⟩) w := fun _ => by kernel_rfl
  have i2 : ∀ w, (Instr.index 140 (.agg #[.string ⟨#[60]⟩, .string ⟨#[38]⟩, .string ⟨#[93, 93, 62]⟩]) (.int .i64 2)).run Tryz.prog w = .ok (.string ⟨#[93, 93, 62]⟩) w := fun _ => by kernel_rfl
  have hok := hG.fine.okR
  have hsz := hG.fine.lt
  have p1 := ahead_pre [60] s.rest
  have p2 := ahead_pre [38] (ahead [60] s.rest)
  have k1 := okL_pre hok p1
  have k2 := okL_pre k1 p2
  have z1 := size_pre p1
  have z2 := size_pre p2
  have z3 := size_pre (plainA_pre s.rest)
  have HPL := hide (place_pre s (plainA_pre s.rest))
  have HG := hide hG
  have hrl := hG.rl
  have hsp := hG.sp
  have hB0 : B ≤ w.heap.size := by omega
  have HD : Hid (s.plain = { s.adv (plainA s.rest).length with run := s.run ++ plainA s.rest }.room) := hide rfl
  have hoP := okL_pre hok (plainA_pre s.rest)
  have H3 : Hid (∀ W : World, Env W → Calls Tryz.prog 141 #[.string (T (ahead [38] (ahead [60] s.rest))), .string ⟨#[93, 93, 62]⟩] W fun e w' => (∃ y b, e = .returned (.tuple #[.string (T (plainA s.rest)), .string y, .bool b])) ∧ Below W.heap.size W w') :=
    hide fun W hW => cut_ahead [93, 93, 62] ⟨#[93, 93, 62]⟩ rfl (by decide) (by simp) _ k2 (by omega) W hW
  obtain ⟨t0, hi, hz0, hz1, hz2⟩ := info_parts infoU8
  generalize plainA s.rest = x at *
  go_enter Tryz.func109, Tryz.ntmps109
  go_wp2_with fail
  refine (rest_any p s _ R.at).mono ?_
  rintro e w1 ⟨rfl, hb1⟩
  go_wp2_with fail
  refine wp_loop_rounds 4 ?_
  rw [rounds_succ]
  go_wp2_with fail
  refine (cut_ahead [60] ⟨#[60]⟩ rfl (by decide) (by simp) s.rest hok (by omega) _ (hE.on hB0 hb1).env).mono ?_
  rintro e w2 ⟨⟨y1, b1, rfl⟩, hb2⟩
  have hbb2 := Below.then hb1 hb2
  go_wp2_with fail
  rw [rounds_succ]
  go_wp2_with fail
  refine (cut_ahead [38] ⟨#[38]⟩ rfl (by decide) (by simp) _ k1 (by omega) _ (hE.on hB0 hbb2).env).mono ?_
  rintro e w3 ⟨⟨y2, b2, rfl⟩, hb3⟩
  have hbb3 := Below.then hbb2 hb3
  go_wp2_with fail
  rw [rounds_succ]
  go_wp2_with fail
  refine (unhide H3 _ (hE.on hB0 hbb3).env).mono ?_
  rintro e w4 ⟨⟨y3, b3, rfl⟩, hb4⟩
  have hbb4 := Below.then hbb3 hb4
  have R4 := R.on hbb4
  have c1 : w4.cell? ⟨p, 1, none⟩ = some (.int .i64 (s.place : Nat)) := R4.at.pos
  have o1 : w4.frozen? ⟨p, 1, none⟩ = false := R4.at.thaw
  have R5 : Rd (w4.setCell ⟨p, 1, none⟩ (.int .i64 ((s.adv x.length).place : Nat))) B p m vo vt vr (s.adv x.length) := R4.moved (Below.refl _ _) (Adv.by _ _)
  have hB5 : Below B w (w4.setCell ⟨p, 1, none⟩ (.int .i64 ((s.adv x.length).place : Nat))) := (hbb4.mono hB0).setCell hlow _
  have hz5 : B ≤ (w4.setCell ⟨p, 1, none⟩ (.int .i64 ((s.adv x.length).place : Nat))).heap.size := by rw [blk_size]; have := R4.lt; omega
  obtain ⟨ar, cr, rfl⟩ := owns_slice R4.run
  have c6 : w4.cell? ⟨p, 6, none⟩ = some (.slice ar (tx s.run).length cr) := blk_cell R4.blk 6
  have o6 : w4.frozen? ⟨p, 6, none⟩ = false := blk_open R4.blk 6
  have HR5 := hide R5
  have HRUN : Hid ((w4.setCell ⟨p, 1, none⟩ (.int .i64 ((s.adv x.length).place : Nat))).ownsRow B 5 1 (.slice ar (tx s.run).length cr) (tx s.run).length (byteCells (tx s.run))) := hide R5.run
  have e1 : ((s.place : Int) + ((T x).size : Int)) = (((s.adv x.length).place : Nat) : Int) := by rw [unhide HPL]; omega
  have hsum : s.place + (T x).size ≤ 32768 := by omega
  have G5 : Good (s.adv x.length) := (unhide HG).adv _
  have hrl5 : (tx s.run).length + (T x).size ≤ (s.adv x.length).place + s.spent := by rw [unhide HPL]; omega
  clear hsz z1 z2 z3 R R4
  go_wp2_with fail
  rw [rounds_succ]
  go_wp2_with (first
    | (at_builtin; (refine Lib.wpList_append_own_string _ rfl _ _ 48 9 rfl B 5 t0 Tryz.underlying48 Tryz.underlying9 hi hz0 hz1 hz2 (.slice ar (tx s.run).length cr) (tx s.run).length (byteCells (tx s.run)) rfl (unhide HRUN) (T x) rfl (by unfold maxLen; omega) (by omega) hz5 ?_); intro v' w' hown hgrow _; obtain ⟨a6, b6, rfl⟩ := owns_slice hown; have hR := Rd.ran (unhide HR5) hgrow hown; have c6' : w'.cell? ⟨p, 6, none⟩ = some (.slice ar (tx s.run).length cr) := blk_cell hR.2 6; have o6' := blk_open hR.2 6; have HRR := hide hR.1; have hB' := Below.grown hB5 hgrow hz5 (owns_ge (unhide HRUN)); clear hR)
    | (go_at_call 108; refine (room_any B p m _ _ _ _ _ (unhide HRR) (fun hne => Nat.pos_of_ne_zero fun h0 => hne (tx_len_zero (okL_app (unhide HG).okr hoP) h0))).mono ?_; intro e w6 ho; obtain ⟨b, rfl, ho⟩ := outP_form ho))
  go_ret
  rw [unhide HD]
  exact outP_low (hB'.setCell hlow _) ho
end Go.Proofs.YtefjfjieoiegnaaGreatDoor
