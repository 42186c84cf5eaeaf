/- Text, comments and instructions as tokens: xmlscan's tellComment, tellInstruction, roomForRun, plain, section. -/
import Derived.Test.YtkklapoceknbcaaGreatDoorXmlCom
import Derived.Lib.AppendStr
namespace Go.Proofs.YtkklapoceknbcaaGreatDoor
open Go.RowKit
/-- What always holds of a reader's state. -/
structure Good (s : RS) : Prop where
  fine : Fine s
  n1 : s.toks.length ≤ 4096
  n2 : s.run ≠ [] → s.toks.length < 4096
  okr : okL s.run
  rl : (tx s.run).length ≤ s.place + s.spent
  sp : s.spent ≤ 32768
theorem Good.adv {s : RS} (h : Good s) (n : Nat) : Good (s.adv n) :=
  ⟨h.fine.adv n, h.n1, h.n2, h.okr, by have := h.rl; have e := place_adv s n; show (tx s.run).length ≤ (s.adv n).place + s.spent; omega, h.sp⟩
theorem Good.to {s s' : RS} (h : Good s) (ha : Adv s s') : Good s' := by
  obtain ⟨k, rfl⟩ := ha
  exact h.adv k
theorem Good.flush {s : RS} (h : Good s) : s.flush.toks.length ≤ 4096 := by
  by_cases hr : s.run = []
  · rw [(flush_eq s).1 hr]; exact h.n1
  · rw [(flush_eq s).2 hr]
    have := h.n2 hr
    simp; omega
theorem Good.pos {s : RS} (h : Good s) (hr : s.run ≠ []) : 0 < (tx s.run).length := Nat.pos_of_ne_zero fun h0 => hr (tx_len_zero h.okr h0)
theorem Good.tell {s s' : RS} {t : XTok} {pl : Nat} (h : Good s) (ht : s.tell t pl = .ok s') : Good s' ∧ s'.run = [] ∧ s'.pre = s.pre ∧ s'.rest = s.rest ∧ s'.ents = s.ents ∧ s'.opn = s.opn ∧ s'.spent = s.spent := by
  rw [tell_eq] at ht
  split at ht
  · cases ht
  · rename_i hne
    cases ht
    have hf := h.flush
    by_cases hr : s.run = []
    · have e := (flush_eq s).1 hr
      rw [e] at hne hf ⊢
      refine ⟨⟨⟨h.fine.ok, h.fine.le⟩, ?_, fun hx => absurd hr hx, h.okr, h.rl, h.sp⟩, hr, rfl, rfl, rfl, rfl, rfl⟩
      show (s.toks ++ [t]).length ≤ 4096
      rw [List.length_append, List.length_singleton]
      omega
    · have e := (flush_eq s).2 hr
      rw [e] at hne hf ⊢
      refine ⟨⟨⟨h.fine.ok, h.fine.le⟩, ?_, fun hx => absurd rfl hx, fun c hc => (by cases hc), Nat.zero_le _, h.sp⟩, rfl, rfl, rfl, rfl, rfl, rfl⟩
      show ((s.toks ++ [(⟨4, [], [], s.run⟩ : XTok)]) ++ [t]).length ≤ 4096
      simp at hne hf ⊢
      omega
theorem outP_low {o : Except Er RS} {B p m : Nat} {e : Ending} {w w1 w' : World} (h : Below B w w1) (ho : outP o B p m e w1 w') : outP o B p m e w w' := ⟨h.trans ho.1, ho.2⟩
theorem outP_form {o : Except Er RS} {B p m : Nat} {e : Ending} {w w' : World} (ho : outP o B p m e w w') : ∃ b, e = .returned (.bool b) ∧ outP o B p m (.returned (.bool b)) w w' := by
  obtain ⟨h1, h2⟩ := ho
  cases o with
  | error c => obtain ⟨rfl, h3⟩ := h2; exact ⟨false, rfl, h1, rfl, h3⟩
  | ok s => obtain ⟨rfl, h3⟩ := h2; exact ⟨true, rfl, h1, rfl, h3⟩
theorem rd_size (s : RS) (m : Nat) (vo vt vr : Value) : (rdArr s m vo vt vr).size = 10 := rfl
theorem moved_blk {w w' : World} {B p m k : Nat} {vo vt vr : Value} {s : RS} (R : Rd w B p m vo vt vr s) (hm : Moves p k w w') : ∃ c, w'.heap[p]? = some (.cells c 56 (0, 0)) ∧ c.size = 10 :=
  ⟨_, hm.own R.blk, by simp [rdArr]⟩
set_option maxHeartbeats 1000000 in
theorem tellComment_any (B p m : Nat) (vo vt vr : Value) (s : RS) (w : World) (R : Rd w B p m vo vt vr s) (hG : Good s) (hE : XEnv B w) (hs : s.sees [60, 33, 45, 45] = true) :
    Calls Tryz.prog 39 #[.pointer (some ⟨p, 0, none⟩)] w fun e w' => outP s.tellComment B p m e w w' := by
  have hlow := R.low
  have hlt := R.lt
  have c1 : w.cell? ⟨p, 1, none⟩ = some (.int .i64 (s.place : Nat)) := R.at.pos
  have HD : Hid (s.tellComment = match s.comment with | none => .error (5, s.place) | some (t, s1) => s1.tell ⟨5, [], [], t⟩ s.place) := hide rfl
  go_enter Tryz.func39, Tryz.ntmps39
  go_wp2_with fail
  refine (comment_any B p s _ R.at hG.fine hE hlow hs).mono ?_
  intro e w1 hq
  cases hc : s.comment with
  | none =>
    rw [hc] at hq
    obtain ⟨y, k, rfl, hm⟩ := hq
    obtain ⟨c, hcb, hcs⟩ := moved_blk R hm
    have HEQ : Hid (s.tellComment = .error (5, s.place)) := hide (by rw [unhide HD, hc])
    have hb1 := hm.low hlow (by omega)
    clear hc
    go_wp2_with (go_at_call 44; refine (fail_rd B p 5 s.place _ hcb hcs hlow).mono ?_; rintro e w2 ⟨rfl, hw2, hb2⟩)
    go_ret
    rw [unhide HEQ]
    exact ⟨hb1.trans hb2, rfl, hw2⟩
  | some xs =>
    obtain ⟨x, s1⟩ := xs
    rw [hc] at hq
    obtain ⟨rfl, hm⟩ := hq
    have hA := Adv.comment hc
    have R1 := R.moved hm hA
    have G1 := hG.to hA
    have HEQ : Hid (s.tellComment = s1.tell ⟨5, [], [], x⟩ s.place) := hide (by rw [unhide HD, hc])
    have hb1 := hm.low hlow (by omega)
    have hB1 : B ≤ w1.heap.size := by have := R1.lt; omega
    have HT := hide (tell_any B p m vo vt vr (.slice none 0 0) s1 ⟨5, [], [], x⟩ s.place w1 R1 (World.ownsRow_nil _ _ _ _) G1.flush G1.pos hB1)
    clear hc
    go_wp2_with (go_at_call 73; refine (unhide HT).mono ?_; intro e w2 ho; obtain ⟨b, rfl, ho⟩ := outP_form ho)
    go_ret
    rw [unhide HEQ]
    exact outP_low hb1 ho
set_option maxRecDepth 100000 in
set_option maxHeartbeats 1000000 in
theorem tellInstruction_any (B p m : Nat) (vo vt vr : Value) (s : RS) (w : World) (R : Rd w B p m vo vt vr s) (hG : Good s) (hE : XEnv B w) (hs : s.sees [60, 63] = true) :
    Calls Tryz.prog 40 #[.pointer (some ⟨p, 0, none⟩)] w fun e w' => outP s.tellInstruction B p m e w w' := by
  have hlow := R.low
  have hlt := R.lt
  have c1 : w.cell? ⟨p, 1, none⟩ = some (.int .i64 (s.place : Nat)) := R.at.pos
  have HD : Hid (s.tellInstruction = match s.instruction with | none => .error (5, s.place) | some (n, t, s1) => s1.tell ⟨6, n, [], t⟩ s.place) := hide rfl
  go_enter Tryz.func40, Tryz.ntmps40
  go_wp2_with fail
  refine (instruction_any B p s _ R.at hG.fine hE hlow hs).mono ?_
  intro e w1 hq
  cases hc : s.instruction with
  | none =>
    rw [hc] at hq
    obtain ⟨y, z, k, rfl, hm⟩ := hq
    obtain ⟨c, hcb, hcs⟩ := moved_blk R hm
    have HEQ : Hid (s.tellInstruction = .error (5, s.place)) := hide (by rw [unhide HD, hc])
    have hb1 := hm.low hlow (by omega)
    clear hc
    go_wp2_with (go_at_call 44; refine (fail_rd B p 5 s.place _ hcb hcs hlow).mono ?_; rintro e w2 ⟨rfl, hw2, hb2⟩)
    go_ret
    rw [unhide HEQ]
    exact ⟨hb1.trans hb2, rfl, hw2⟩
  | some xs =>
    obtain ⟨n, x, s1⟩ := xs
    rw [hc] at hq
    obtain ⟨rfl, hm⟩ := hq
    have hA := (Adv.instruction hc).1
    have R1 := R.moved hm hA
    have G1 := hG.to hA
    have HEQ : Hid (s.tellInstruction = s1.tell ⟨6, n, [], x⟩ s.place) := hide (by rw [unhide HD, hc])
    have hb1 := hm.low hlow (by omega)
    have hB1 : B ≤ w1.heap.size := by have := R1.lt; omega
    have HT : Hid (Calls Tryz.prog 73 #[.pointer (some ⟨p, 0, none⟩), .agg #[.int .i64 6, .string (T n), .slice none 0 0, .string (T x)], .int .i64 (s.place : Nat)] w1 fun e w' => outP (s1.tell ⟨6, n, [], x⟩ s.place) B p m e w1 w') := hide (tell_any B p m vo vt vr (.slice none 0 0) s1 ⟨6, n, [], x⟩ s.place w1 R1 (World.ownsRow_nil _ _ _ _) G1.flush G1.pos hB1)
    clear hc
    go_wp2_with (go_at_call 73; refine (unhide HT).mono ?_; intro e w2 ho; obtain ⟨b, rfl, ho⟩ := outP_form ho)
    go_ret
    rw [unhide HEQ]
    exact outP_low hb1 ho
/-- Where the text's row was written, and all else stands. -/
theorem Rd.ran {W w' : World} {B p m : Nat} {vo vt vr v' : Value} {s : RS} {x : List Nat} (R : Rd W B p m vo vt vr s) (hg : W.grownBy w' vr.ownBlock) (hown : w'.ownsRow B 5 1 v' ((tx s.run).length + (T x).size) (byteCells (tx s.run) ++ Lib.strCells (T x))) :
    Rd (w'.setCell ⟨p, 6, none⟩ v') B p m vo vt v' { s with run := s.run ++ x } ∧ w'.heap[p]? = some (.cells (rdArr s m vo vt vr) 56 (0, 0)) := by
  have hvr : vr.ownBlock ≠ some p := owns_not R.run R.blk (by decide)
  have hp : w'.heap[p]? = some (.cells (rdArr s m vo vt vr) 56 (0, 0)) := by
    rw [hg.block p R.lt (fun e => hvr e.symm)]; exact R.blk
  have hk : ∀ k o, W.heap[k]? = some o → ¬ (vr.ownBlock = some k ∨ k = p) → (w'.setCell ⟨p, 6, none⟩ v').heap[k]? = some o := fun k o ho hs => by
    rw [blk_other (fun e => hs (.inr e)), hg.block k (Array.getElem?_eq_some_iff.1 ho).1 (fun e => hs (.inl e.symm))]; exact ho
  have hrow : ∀ {base : Nat} {e : TypeId} {size : Nat} {v : Value} {n : Nat} {xs : List Value}, W.ownsRow base e size v n xs → e ≠ 5 → e ≠ 56 → (w'.setCell ⟨p, 6, none⟩ v').ownsRow base e size v n xs := fun ho e1 e2 =>
    owns_kept ho hk fun k hk' hs => by
      rcases hs with hs | rfl
      · exact owns_apart ho R.run e1 k hk' hs
      · exact owns_not ho R.blk e2 hk'
  refine ⟨⟨?_, R.low, ?_, hrow R.opn (by decide) (by decide), ?_, ?_⟩, hp⟩
  · rw [blk_set hp]; rfl
  · refine R.ents.kept ?_
    obtain ⟨es, clock, hm⟩ := R.ents.map
    rw [hm]
    refine hk m _ hm fun hs => ?_
    rcases hs with e | e
    · obtain ⟨c, hc⟩ := owns_type R.run e
      rw [hm] at hc
      cases hc
    · exact R.ents.ne R.blk e
  · refine R.toks.kept _ hk fun k c hs => ?_
    rcases hs with e | rfl
    · obtain ⟨c', hc⟩ := owns_type R.run e
      rw [hc]
      exact ⟨fun e => (by cases e), fun e => (by cases e)⟩
    · rw [R.blk]
      exact ⟨fun e => (by cases e), fun e => (by cases e)⟩
  · have e1 : byteCells (tx s.run) ++ Lib.strCells (T x) = byteCells (tx (s.run ++ x)) := by
      rw [tx_append, byteCells_append]
      unfold Lib.strCells byteCells
      rw [T_data]
    have e2 : (tx s.run).length + (T x).size = (tx (s.run ++ x)).length := by rw [T_size, tx_len_app]
    rw [e1, e2] at hown
    exact owns_kept (S := (· = p)) hown (fun k o hk hs => by rw [blk_other hs]; exact hk) fun k hk' hs => by
      subst hs
      exact owns_not hown hp (by decide) hk'
set_option maxHeartbeats 1000000 in
theorem room_any (B p m : Nat) (vo vt vr : Value) (s : RS) (w : World) (R : Rd w B p m vo vt vr s) (hrp : s.run ≠ [] → 0 < (tx s.run).length) :
    Calls Tryz.prog 82 #[.pointer (some ⟨p, 0, none⟩)] w fun e w' => outP s.room B p m e w w' := by
  have hlow := R.low
  have HR := hide R
  have HD : Hid (s.room = if s.run ≠ [] ∧ s.toks.length = 4096 then .error (6, s.runAt) else .ok s) := hide rfl
  have HFR := hide (fail_rd B p 6 s.runAt w R.blk rfl hlow)
  obtain ⟨vs, _, hrow, _⟩ := R.toks
  obtain ⟨at', ct, rfl⟩ := owns_slice hrow
  obtain ⟨ar, cr, rfl⟩ := owns_slice R.run
  have c5 : w.cell? ⟨p, 5, none⟩ = some (.slice at' s.toks.length ct) := blk_cell R.blk 5
  have c6 : w.cell? ⟨p, 6, none⟩ = some (.slice ar (tx s.run).length cr) := blk_cell R.blk 6
  have c7 : w.cell? ⟨p, 7, none⟩ = some (.int .i64 (s.runAt : Nat)) := blk_cell R.blk 7
  clear hrow R
  by_cases hr : s.run = []
  · have hz : (tx s.run).length = 0 := by rw [hr]; rfl
    rw [hz] at c6
    have HEQ : Hid (s.room = .ok s) := hide (by rw [unhide HD, if_neg (fun h => h.1 hr)])
    clear hr hz
    go_enter Tryz.func82, Tryz.ntmps82
    go_wp2
    go_ret
    rw [unhide HEQ]
    exact ⟨Below.refl _ _, rfl, _, _, _, unhide HR⟩
  · have hz := hrp hr
    by_cases hf : s.toks.length = 4096
    · have HEQ : Hid (s.room = .error (6, s.runAt)) := hide (by rw [unhide HD, if_pos ⟨hr, hf⟩])
      have hf' : ((s.toks.length : Int) == 4096) = true := by rw [hf]; rfl
      have hz' : 0 < (tx s.run).length := hz
      clear hr hf hz
      go_enter Tryz.func82, Tryz.ntmps82
      go_wp2_with (go_at_call 44; refine (unhide HFR).mono ?_; rintro e w2 ⟨rfl, hw2, hb2⟩)
      go_ret
      rw [unhide HEQ]
      exact ⟨hb2, rfl, hw2⟩
    · have HEQ : Hid (s.room = .ok s) := hide (by rw [unhide HD, if_neg (fun h => hf h.2)])
      have hf' : ((s.toks.length : Int) == 4096) = false := by simpa using (by omega : ¬ (s.toks.length : Int) = 4096)
      have hz' : 0 < (tx s.run).length := hz
      clear hr hf hz
      go_enter Tryz.func82, Tryz.ntmps82
      go_wp2
      go_ret
      rw [unhide HEQ]
      exact ⟨Below.refl _ _, rfl, _, _, _, unhide HR⟩
end Go.Proofs.YtkklapoceknbcaaGreatDoor
