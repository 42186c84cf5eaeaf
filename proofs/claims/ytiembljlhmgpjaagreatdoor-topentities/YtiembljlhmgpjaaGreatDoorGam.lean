/- Several texts, laid as one. -/
import Derived.Test.YtiembljlhmgpjaaGreatDoorXmlFold
import Derived.Lib.AppendStr
/- Comments and processing instructions: xmlscan's comment, instruction, and what tells them. -/
namespace Go.Proofs.YtiembljlhmgpjaaGreatDoor
open Go.RowKit
theorem xIsName_T (l : List Nat) (hl : okL l) (hs : (T l).size ≤ 32768) (w : World) (hE : Env w) :
    Calls Tryz.prog 116 #[.string (T l)] w fun e w' => e = .returned (.bool (isNm l)) ∧ Below w.heap.size w w' := by
  rw [← nameB_T hl]
  exact isName_any (T l) w (by unfold maxLen; omega) hE
set_option maxHeartbeats 1000000 in
theorem isTarget_any (l : List Nat) (w : World) (hl : okL l) (hs : (T l).size ≤ 32768) (B : Nat) (hB : B ≤ w.heap.size) (hE : XEnv B w) :
    Calls Tryz.prog 81 #[.string (T l)] w fun e w' => e = .returned (.bool (isTarget l)) ∧ Below w.heap.size w w' := by
  have HD : Hid (isTarget l = (isNm l && !(l.map lowC == [120, 109, 108]))) := hide rfl
  go_enter Tryz.func81, Tryz.ntmps81
  cases hn : isNm l
  · have HN := hide hn
    clear hn
    go_wp2_with (go_at_call 116; refine (xIsName_T l hl hs _ hE.env).mono ?_; rintro e w1 ⟨rfl, hb1⟩; rw [unhide HN])
    go_ret
    exact ⟨ret_bool (by rw [unhide HD, unhide HN]; rfl), hb1⟩
  · have HN := hide hn
    clear hn
    go_wp2_with (first | (go_at_call 116; refine (xIsName_T l hl hs _ hE.env).mono ?_; rintro e w1 ⟨rfl, hb1⟩; rw [unhide HN]) | (go_at_call 117; refine (foldXml_any l _ hl hs B (hE.on hB hb1) (Nat.le_trans hB hb1.size)).mono ?_; rintro e w2 ⟨rfl, hb2⟩))
    go_ret
    exact ⟨ret_bool (by rw [unhide HD, unhide HN, Bool.true_and]), Below.then hb1 hb2⟩
/-- What a part that is read, and may be none, tells. -/
def partP (o : Option (List Nat × RS)) (p : Nat) (e : Ending) (w w' : World) : Prop := match o with
  | some (x, s1) => e = .returned (.tuple #[.string (T x), .bool true]) ∧ Moves p s1.place w w'
  | none => ∃ y k, e = .returned (.tuple #[.string y, .bool false]) ∧ Moves p k w w'
theorem take_adv {s : RS} {a : List Nat} (h : s.sees a = true) : s.take a = s.adv a.length := by
  unfold RS.take RS.sees at *
  rw [if_pos h]
theorem comment_eq (s : RS) : s.comment = match (s.take [60, 33, 45, 45]).takeTo [45, 45] with | none => none | some (t, s1) => if heads 62 s1.rest then some (t, s1.adv 1) else none := rfl
theorem Adv.comment {s s' : RS} {x : List Nat} (h : s.comment = some (x, s')) : Adv s s' := by
  rw [comment_eq] at h
  cases ht : (s.take [60, 33, 45, 45]).takeTo [45, 45] with
  | none => rw [ht] at h; cases h
  | some xs =>
    rw [ht] at h
    simp only at h
    split at h
    · cases h
      exact (Adv.take s _).then ((Adv.takeTo ht).1.then (Adv.by _ 1))
    · cases h
set_option maxHeartbeats 1000000 in
theorem comment_any (B p : Nat) (s : RS) (w : World) (h : AtS w p s) (hf : Fine s) (hE : XEnv B w) (hB : B ≤ p) (hs : s.sees [60, 33, 45, 45] = true) :
    Calls Tryz.prog 66 #[.pointer (some ⟨p, 0, none⟩)] w fun e w' => partP s.comment p e w w' := by
  have HD := hide (comment_eq s)
  rw [take_adv hs] at HD
  have hf1 := hf.adv 4
  have hp := h.lt
  go_enter Tryz.func66, Tryz.ntmps66
  go_wp2_with fail
  refine (take_yes [60, 33, 45, 45] ⟨#[60, 33, 45, 45]⟩ rfl (by decide) p s _ h hf hs).mono ?_
  rintro e w1 ⟨rfl, hm1⟩
  have h1 := h.to hm1
  have hE1 := hE.moved hm1 hB hp
  have hs1 : Hid (([60, 33, 45, 45] : List Nat).length = 4) := hide rfl
  rw [unhide hs1] at h1 hm1 HD
  generalize hg : s.adv 4 = s1 at *
  clear hg
  cases ht : s1.takeTo [45, 45] with
  | none =>
    have HC := hide (takeTo_none ht)
    have HEQ : Hid (s.comment = none) := hide (by rw [unhide HD, ht])
    clear ht
    go_wp2_with fail
    refine (takeTo_no [45, 45] ⟨#[45, 45]⟩ rfl (by decide) (by simp) p s1 _ h1 hf1 hE1.env (unhide HC)).mono ?_
    rintro e w2 ⟨rfl, hb2⟩
    go_wp2
    go_ret2
    rw [unhide HEQ]
    exact ⟨_, _, rfl, hm1.then (h1.stay hb2)⟩
  | some xs =>
    obtain ⟨x, s2⟩ := xs
    have hd := unhide HD
    rw [ht] at hd
    simp only at hd
    obtain ⟨hA, y, hc, rfl⟩ := Adv.takeTo ht
    have HC := hide hc
    have hf2 := hA.fine hf1
    clear ht hc
    go_wp2_with fail
    refine (takeTo_yes [45, 45] ⟨#[45, 45]⟩ rfl (by decide) (by simp) p s1 x y _ h1 hf1 hE1.env (unhide HC)).mono ?_
    rintro e w2 ⟨rfl, hm2⟩
    have h2 := h1.to hm2
    generalize hg : s1.adv (x.length + [45, 45].length) = s2 at *
    clear hg
    cases hh : heads 62 s2.rest
    · rw [hh, if_neg (by decide)] at hd
      have HH := hide hh
      have HEQ := hide hd
      clear hh hd
      go_wp2_with (go_at_call 69; refine (take_no [62] ⟨#[62]⟩ rfl (by decide) p s2 _ h2 hf2 (by rw [isPre_one]; exact unhide HH)).mono ?_; rintro e w3 ⟨rfl, hb3⟩)
      go_ret2
      rw [unhide HEQ]
      exact ⟨_, _, rfl, (hm1.then hm2).then (h2.stay hb3)⟩
    · rw [hh, if_pos rfl] at hd
      have HH := hide hh
      have HEQ := hide hd
      clear hh hd
      go_wp2_with (go_at_call 69; refine (take_yes [62] ⟨#[62]⟩ rfl (by decide) p s2 _ h2 hf2 (by rw [isPre_one]; exact unhide HH)).mono ?_; rintro e w3 ⟨rfl, hm3⟩)
      go_ret2
      rw [unhide HEQ]
      exact ⟨rfl, (hm1.then hm2).then hm3⟩
def instrP (o : Option (List Nat × List Nat × RS)) (p : Nat) (e : Ending) (w w' : World) : Prop := match o with
  | some (n, x, s1) => e = .returned (.tuple #[.string (T n), .string (T x), .bool true]) ∧ Moves p s1.place w w'
  | none => ∃ y z k, e = .returned (.tuple #[.string y, .string z, .bool false]) ∧ Moves p k w w'
theorem instruction_eq (s : RS) : s.instruction = if !isTarget (nameA (s.take [60, 63]).rest) then none else
  if (s.take [60, 63]).name.sees [63, 62] then some (nameA (s.take [60, 63]).rest, [], (s.take [60, 63]).name.adv 2) else
  if !(s.take [60, 63]).name.blank then none else
  ((s.take [60, 63]).name.blanks.takeTo [63, 62]).map fun x => (nameA (s.take [60, 63]).rest, x.1, x.2) := rfl
theorem Adv.instruction {s s' : RS} {n x : List Nat} (h : s.instruction = some (n, x, s')) : Adv s s' ∧ n = nameA (s.take [60, 63]).rest := by
  rw [instruction_eq] at h
  split at h
  · cases h
  · split at h
    · cases h
      exact ⟨(Adv.take s _).then ((Adv.name _).then (Adv.by _ 2)), rfl⟩
    · split at h
      · cases h
      · cases ht : (s.take [60, 63]).name.blanks.takeTo [63, 62] with
        | none => rw [ht] at h; cases h
        | some xs =>
          rw [ht] at h
          cases h
          exact ⟨(Adv.take s _).then ((Adv.name _).then ((Adv.blanks _).then (Adv.takeTo ht).1)), rfl⟩
set_option maxHeartbeats 2000000 in
theorem instruction_any (B p : Nat) (s : RS) (w : World) (h : AtS w p s) (hf : Fine s) (hE : XEnv B w) (hB : B ≤ p) (hs : s.sees [60, 63] = true) :
    Calls Tryz.prog 68 #[.pointer (some ⟨p, 0, none⟩)] w fun e w' => instrP s.instruction p e w w' := by
  have HD := hide (instruction_eq s)
  rw [take_adv hs] at HD
  have hf1 := hf.adv 2
  have hp := h.lt
  go_enter Tryz.func68, Tryz.ntmps68
  go_wp2_with fail
  refine (take_yes [60, 63] ⟨#[60, 63]⟩ rfl (by decide) p s _ h hf hs).mono ?_
  rintro e w1 ⟨rfl, hm1⟩
  have h1 := h.to hm1
  have hE1 := hE.moved hm1 hB hp
  have hs1 : Hid (([60, 63] : List Nat).length = 2) := hide rfl
  rw [unhide hs1] at h1 hm1 HD
  generalize hg : s.adv 2 = s1 at *
  clear hg
  go_wp2_with fail
  refine (name_any p s1 _ h1 hf1).mono ?_
  rintro e w2 ⟨rfl, hm2⟩
  have hA2 := Adv.name s1
  have h2 := hA2.at h1 hm2
  have hf2 := hA2.fine hf1
  have hE2 := hE1.moved hm2 hB h1.lt
  have hon := okL_pre hf1.okR (nameA_pre s1.rest)
  have hzn : (T (nameA s1.rest)).size ≤ 32768 := by have := size_pre (nameA_pre s1.rest); have := hf1.lt; omega
  have hB2 : B ≤ w2.heap.size := by have := h2.lt; omega
  have hd := unhide HD
  clear HD
  generalize nameA s1.rest = n at *
  generalize hg : s1.name = s2 at *
  clear hg
  go_wp2_with fail
  refine (isTarget_any n _ hon hzn B hB2 hE2).mono ?_
  rintro e w3 ⟨rfl, hb3⟩
  have h3 := h2.keep hb3
  have hm3 := (hm1.then hm2).then (h2.stay hb3)
  have hE3 := hE2.on hB2 hb3
  cases ht : isTarget n
  · rw [ht] at hd
    have HEQ : Hid (s.instruction = none) := hide hd
    clear hd ht
    go_wp2
    go_ret3
    rw [unhide HEQ]
    exact ⟨_, _, _, rfl, hm3⟩
  · rw [ht] at hd
    simp only [Bool.not_true, Bool.false_eq_true, if_false] at hd
    clear ht
    cases hq : s2.sees [63, 62]
    · rw [hq, if_neg (by decide)] at hd
      have HQ := hide hq
      clear hq
      go_wp2_with fail
      refine (take_no [63, 62] ⟨#[63, 62]⟩ rfl (by decide) p s2 _ h3 hf2 (unhide HQ)).mono ?_
      rintro e w4 ⟨rfl, hb4⟩
      have h4 := h3.keep hb4
      have hm4 := hm3.then (h3.stay hb4)
      go_wp2_with fail
      refine (blanks_any p s2 _ h4 hf2).mono ?_
      rintro e w5 ⟨rfl, hm5⟩
      have hm5' := hm4.then hm5
      cases hbl : s2.blank
      · rw [hbl] at hd
        have HEQ : Hid (s.instruction = none) := hide hd
        clear hd hbl
        go_wp2
        go_ret3
        rw [unhide HEQ]
        exact ⟨_, _, _, rfl, hm5'⟩
      · rw [hbl] at hd
        simp only [Bool.not_true, Bool.false_eq_true, if_false] at hd
        clear hbl
        have hA5 := Adv.blanks s2
        have h5 := hA5.at h4 hm5
        have hf5 := hA5.fine hf2
        have hE5 := ((hE3.on (by have := h3.lt; omega) hb4).moved hm5 hB h4.lt).env
        generalize hg : s2.blanks = s5 at *
        clear hg
        cases ht : s5.takeTo [63, 62] with
        | none =>
          have HC := hide (takeTo_none ht)
          have HEQ : Hid (s.instruction = none) := hide (by rw [hd, ht]; rfl)
          clear ht hd
          go_wp2_with fail
          refine (takeTo_no [63, 62] ⟨#[63, 62]⟩ rfl (by decide) (by simp) p s5 _ h5 hf5 hE5 (unhide HC)).mono ?_
          rintro e w6 ⟨rfl, hb6⟩
          go_wp2
          go_ret3
          rw [unhide HEQ]
          exact ⟨_, _, _, rfl, hm5'.then (h5.stay hb6)⟩
        | some xs =>
          obtain ⟨x, s6⟩ := xs
          have HEQ : Hid (s.instruction = some (n, x, s6)) := hide (by rw [hd, ht]; rfl)
          obtain ⟨hA, y, hc, rfl⟩ := Adv.takeTo ht
          have HC := hide hc
          clear ht hd hc
          go_wp2_with fail
          refine (takeTo_yes [63, 62] ⟨#[63, 62]⟩ rfl (by decide) (by simp) p s5 x y _ h5 hf5 hE5 (unhide HC)).mono ?_
          rintro e w6 ⟨rfl, hm6⟩
          go_wp2
          go_ret3
          rw [unhide HEQ]
          exact ⟨rfl, hm5'.then hm6⟩
    · rw [hq, if_pos rfl] at hd
      have HEQ := hide hd
      have HQ := hide hq
      clear hd hq
      go_wp2_with fail
      refine (take_yes [63, 62] ⟨#[63, 62]⟩ rfl (by decide) p s2 _ h3 hf2 (unhide HQ)).mono ?_
      rintro e w4 ⟨rfl, hm4⟩
      go_wp2
      go_ret3
      rw [unhide HEQ]
      exact ⟨rfl, hm3.then hm4⟩
end Go.Proofs.YtiembljlhmgpjaaGreatDoor
/- Text, comments and instructions as tokens: xmlscan's tellComment, tellInstruction, roomForRun, plain, section. -/
namespace Go.Proofs.YtiembljlhmgpjaaGreatDoor
open Go.RowKit
/-- What always holds of a reader's state. -/
structure Good (s : RS) : Prop where
  fine : Fine s
  n1 : s.toks.length ≤ 4096
  n2 : s.run ≠ [] → s.toks.length < 4096
  okr : okL s.run
  rl : (tx s.run).length ≤ s.place + s.spent
  sp : s.spent ≤ 32768
theorem Good.adv {s : RS} (h : Good s) (n : Nat) : Good (s.adv n) :=
  ⟨h.fine.adv n, h.n1, h.n2, h.okr, by have := h.rl; have e := place_adv s n; show (tx s.run).length ≤ (s.adv n).place + s.spent; omega, h.sp⟩
theorem Good.to {s s' : RS} (h : Good s) (ha : Adv s s') : Good s' := by
  obtain ⟨k, rfl⟩ := ha
  exact h.adv k
theorem Good.flush {s : RS} (h : Good s) : s.flush.toks.length ≤ 4096 := by
  by_cases hr : s.run = []
  · rw [(flush_eq s).1 hr]; exact h.n1
  · rw [(flush_eq s).2 hr]
    have := h.n2 hr
    simp; omega
theorem Good.pos {s : RS} (h : Good s) (hr : s.run ≠ []) : 0 < (tx s.run).length := Nat.pos_of_ne_zero fun h0 => hr (tx_len_zero h.okr h0)
theorem Good.tell {s s' : RS} {t : XTok} {pl : Nat} (h : Good s) (ht : s.tell t pl = .ok s') : Good s' ∧ s'.run = [] ∧ s'.pre = s.pre ∧ s'.rest = s.rest ∧ s'.ents = s.ents ∧ s'.opn = s.opn ∧ s'.spent = s.spent := by
  rw [tell_eq] at ht
  split at ht
  · cases ht
  · rename_i hne
    cases ht
    have hf := h.flush
    by_cases hr : s.run = []
    · have e := (flush_eq s).1 hr
      rw [e] at hne hf ⊢
      refine ⟨⟨⟨h.fine.ok, h.fine.le⟩, ?_, fun hx => absurd hr hx, h.okr, h.rl, h.sp⟩, hr, rfl, rfl, rfl, rfl, rfl⟩
      show (s.toks ++ [t]).length ≤ 4096
      rw [List.length_append, List.length_singleton]
      omega
    · have e := (flush_eq s).2 hr
      rw [e] at hne hf ⊢
      refine ⟨⟨⟨h.fine.ok, h.fine.le⟩, ?_, fun hx => absurd rfl hx, fun c hc => (by cases hc), Nat.zero_le _, h.sp⟩, rfl, rfl, rfl, rfl, rfl, rfl⟩
      show ((s.toks ++ [(⟨4, [], [], s.run⟩ : XTok)]) ++ [t]).length ≤ 4096
      simp at hne hf ⊢
      omega
theorem outP_low {o : Except Er RS} {B p m : Nat} {e : Ending} {w w1 w' : World} (h : Below B w w1) (ho : outP o B p m e w1 w') : outP o B p m e w w' := ⟨h.trans ho.1, ho.2⟩
theorem outP_form {o : Except Er RS} {B p m : Nat} {e : Ending} {w w' : World} (ho : outP o B p m e w w') : ∃ b, e = .returned (.bool b) ∧ outP o B p m (.returned (.bool b)) w w' := by
  obtain ⟨h1, h2⟩ := ho
  cases o with
  | error c => obtain ⟨rfl, h3⟩ := h2; exact ⟨false, rfl, h1, rfl, h3⟩
  | ok s => obtain ⟨rfl, h3⟩ := h2; exact ⟨true, rfl, h1, rfl, h3⟩
theorem moved_blk {w w' : World} {B p m k : Nat} {vo vt vr : Value} {s : RS} (R : Rd w B p m vo vt vr s) (hm : Moves p k w w') : ∃ c, w'.heap[p]? = some (.cells c 47 (0, 0)) ∧ c.size = 10 :=
  ⟨_, hm.own R.blk, by simp [rdArr]⟩
set_option maxHeartbeats 1000000 in
theorem tellComment_any (B p m : Nat) (vo vt vr : Value) (s : RS) (w : World) (R : Rd w B p m vo vt vr s) (hG : Good s) (hE : XEnv B w) (hs : s.sees [60, 33, 45, 45] = true) :
    Calls Tryz.prog 36 #[.pointer (some ⟨p, 0, none⟩)] w fun e w' => outP s.tellComment B p m e w w' := by
  have hlow := R.low
  have hlt := R.lt
  have c1 : w.cell? ⟨p, 1, none⟩ = some (.int .i64 (s.place : Nat)) := R.at.pos
  have HD : Hid (s.tellComment = match s.comment with | none => .error (5, s.place) | some (t, s1) => s1.tell ⟨5, [], [], t⟩ s.place) := hide rfl
  go_enter Tryz.func36, Tryz.ntmps36
  go_wp2_with fail
  refine (comment_any B p s _ R.at hG.fine hE hlow hs).mono ?_
  intro e w1 hq
  cases hc : s.comment with
  | none =>
    rw [hc] at hq
    obtain ⟨y, k, rfl, hm⟩ := hq
    obtain ⟨c, hcb, hcs⟩ := moved_blk R hm
    have HEQ : Hid (s.tellComment = .error (5, s.place)) := hide (by rw [unhide HD, hc])
    have hb1 := hm.low hlow (by omega)
    clear hc
    go_wp2_with (go_at_call 41; refine (fail_rd B p 5 s.place _ hcb hcs hlow).mono ?_; rintro e w2 ⟨rfl, hw2, hb2⟩)
    go_ret
    rw [unhide HEQ]
    exact ⟨hb1.trans hb2, rfl, hw2⟩
  | some xs =>
    obtain ⟨x, s1⟩ := xs
    rw [hc] at hq
    obtain ⟨rfl, hm⟩ := hq
    have hA := Adv.comment hc
    have R1 := R.moved hm hA
    have G1 := hG.to hA
    have HEQ : Hid (s.tellComment = s1.tell ⟨5, [], [], x⟩ s.place) := hide (by rw [unhide HD, hc])
    have hb1 := hm.low hlow (by omega)
    have hB1 : B ≤ w1.heap.size := by have := R1.lt; omega
    have HT := hide (tell_any B p m vo vt vr (.slice none 0 0) s1 ⟨5, [], [], x⟩ s.place w1 R1 (World.ownsRow_nil _ _ _ _) G1.flush G1.pos hB1)
    clear hc
    go_wp2_with (go_at_call 67; refine (unhide HT).mono ?_; intro e w2 ho; obtain ⟨b, rfl, ho⟩ := outP_form ho)
    go_ret
    rw [unhide HEQ]
    exact outP_low hb1 ho
set_option maxRecDepth 100000 in
set_option maxHeartbeats 1000000 in
theorem tellInstruction_any (B p m : Nat) (vo vt vr : Value) (s : RS) (w : World) (R : Rd w B p m vo vt vr s) (hG : Good s) (hE : XEnv B w) (hs : s.sees [60, 63] = true) :
    Calls Tryz.prog 37 #[.pointer (some ⟨p, 0, none⟩)] w fun e w' => outP s.tellInstruction B p m e w w' := by
  have hlow := R.low
  have hlt := R.lt
  have c1 : w.cell? ⟨p, 1, none⟩ = some (.int .i64 (s.place : Nat)) := R.at.pos
  have HD : Hid (s.tellInstruction = match s.instruction with | none => .error (5, s.place) | some (n, t, s1) => s1.tell ⟨6, n, [], t⟩ s.place) := hide rfl
  go_enter Tryz.func37, Tryz.ntmps37
  go_wp2_with fail
  refine (instruction_any B p s _ R.at hG.fine hE hlow hs).mono ?_
  intro e w1 hq
  cases hc : s.instruction with
  | none =>
    rw [hc] at hq
    obtain ⟨y, z, k, rfl, hm⟩ := hq
    obtain ⟨c, hcb, hcs⟩ := moved_blk R hm
    have HEQ : Hid (s.tellInstruction = .error (5, s.place)) := hide (by rw [unhide HD, hc])
    have hb1 := hm.low hlow (by omega)
    clear hc
    go_wp2_with (go_at_call 41; refine (fail_rd B p 5 s.place _ hcb hcs hlow).mono ?_; rintro e w2 ⟨rfl, hw2, hb2⟩)
    go_ret
    rw [unhide HEQ]
    exact ⟨hb1.trans hb2, rfl, hw2⟩
  | some xs =>
    obtain ⟨n, x, s1⟩ := xs
    rw [hc] at hq
    obtain ⟨rfl, hm⟩ := hq
    have hA := (Adv.instruction hc).1
    have R1 := R.moved hm hA
    have G1 := hG.to hA
    have HEQ : Hid (s.tellInstruction = s1.tell ⟨6, n, [], x⟩ s.place) := hide (by rw [unhide HD, hc])
    have hb1 := hm.low hlow (by omega)
    have hB1 : B ≤ w1.heap.size := by have := R1.lt; omega
    have HT : Hid (Calls Tryz.prog 67 #[.pointer (some ⟨p, 0, none⟩), .agg #[.int .i64 6, .string (T n), .slice none 0 0, .string (T x)], .int .i64 (s.place : Nat)] w1 fun e w' => outP (s1.tell ⟨6, n, [], x⟩ s.place) B p m e w1 w') := hide (tell_any B p m vo vt vr (.slice none 0 0) s1 ⟨6, n, [], x⟩ s.place w1 R1 (World.ownsRow_nil _ _ _ _) G1.flush G1.pos hB1)
    clear hc
    go_wp2_with (go_at_call 67; refine (unhide HT).mono ?_; intro e w2 ho; obtain ⟨b, rfl, ho⟩ := outP_form ho)
    go_ret
    rw [unhide HEQ]
    exact outP_low hb1 ho
/-- Where the text's row was written, and all else stands. -/
theorem Rd.ran {W w' : World} {B p m : Nat} {vo vt vr v' : Value} {s : RS} {x : List Nat} (R : Rd W B p m vo vt vr s) (hg : W.grownBy w' vr.ownBlock) (hown : w'.ownsRow B 5 1 v' ((tx s.run).length + (T x).size) (byteCells (tx s.run) ++ Lib.strCells (T x))) :
    Rd (w'.setCell ⟨p, 6, none⟩ v') B p m vo vt v' { s with run := s.run ++ x } ∧ w'.heap[p]? = some (.cells (rdArr s m vo vt vr) 47 (0, 0)) := by
  have hvr : vr.ownBlock ≠ some p := owns_not R.run R.blk (by decide)
  have hp : w'.heap[p]? = some (.cells (rdArr s m vo vt vr) 47 (0, 0)) := by
    rw [hg.block p R.lt (fun e => hvr e.symm)]; exact R.blk
  have hk : ∀ k o, W.heap[k]? = some o → ¬ (vr.ownBlock = some k ∨ k = p) → (w'.setCell ⟨p, 6, none⟩ v').heap[k]? = some o := fun k o ho hs => by
    rw [blk_other (fun e => hs (.inr e)), hg.block k (Array.getElem?_eq_some_iff.1 ho).1 (fun e => hs (.inl e.symm))]; exact ho
  have hrow : ∀ {base : Nat} {e : TypeId} {size : Nat} {v : Value} {n : Nat} {xs : List Value}, W.ownsRow base e size v n xs → e ≠ 5 → e ≠ 47 → (w'.setCell ⟨p, 6, none⟩ v').ownsRow base e size v n xs := fun ho e1 e2 =>
    owns_kept ho hk fun k hk' hs => by
      rcases hs with hs | rfl
      · exact owns_apart ho R.run e1 k hk' hs
      · exact owns_not ho R.blk e2 hk'
  refine ⟨⟨?_, R.low, ?_, hrow R.opn (by decide) (by decide), ?_, ?_⟩, hp⟩
  · rw [blk_set hp]; rfl
  · refine R.ents.kept ?_
    obtain ⟨es, clock, hm⟩ := R.ents.map
    rw [hm]
    refine hk m _ hm fun hs => ?_
    rcases hs with e | e
    · obtain ⟨c, hc⟩ := owns_type R.run e
      rw [hm] at hc
      cases hc
    · exact R.ents.ne R.blk e
  · refine R.toks.kept _ hk fun k c hs => ?_
    rcases hs with e | rfl
    · obtain ⟨c', hc⟩ := owns_type R.run e
      rw [hc]
      exact ⟨fun e => (by cases e), fun e => (by cases e)⟩
    · rw [R.blk]
      exact ⟨fun e => (by cases e), fun e => (by cases e)⟩
  · have e1 : byteCells (tx s.run) ++ Lib.strCells (T x) = byteCells (tx (s.run ++ x)) := by
      rw [tx_append, byteCells_append]
      unfold Lib.strCells byteCells
      rw [T_data]
    have e2 : (tx s.run).length + (T x).size = (tx (s.run ++ x)).length := by rw [T_size, tx_len_app]
    rw [e1, e2] at hown
    exact owns_kept (S := (· = p)) hown (fun k o hk hs => by rw [blk_other hs]; exact hk) fun k hk' hs => by
      subst hs
      exact owns_not hown hp (by decide) hk'
set_option maxHeartbeats 1000000 in
theorem room_any (B p m : Nat) (vo vt vr : Value) (s : RS) (w : World) (R : Rd w B p m vo vt vr s) (hrp : s.run ≠ [] → 0 < (tx s.run).length) :
    Calls Tryz.prog 76 #[.pointer (some ⟨p, 0, none⟩)] w fun e w' => outP s.room B p m e w w' := by
  have hlow := R.low
  have HR := hide R
  have HD : Hid (s.room = if s.run ≠ [] ∧ s.toks.length = 4096 then .error (6, s.runAt) else .ok s) := hide rfl
  have HFR := hide (fail_rd B p 6 s.runAt w R.blk rfl hlow)
  obtain ⟨vs, _, hrow, _⟩ := R.toks
  obtain ⟨at', ct, rfl⟩ := owns_slice hrow
  obtain ⟨ar, cr, rfl⟩ := owns_slice R.run
  have c5 : w.cell? ⟨p, 5, none⟩ = some (.slice at' s.toks.length ct) := blk_cell R.blk 5
  have c6 : w.cell? ⟨p, 6, none⟩ = some (.slice ar (tx s.run).length cr) := blk_cell R.blk 6
  have c7 : w.cell? ⟨p, 7, none⟩ = some (.int .i64 (s.runAt : Nat)) := blk_cell R.blk 7
  clear hrow R
  by_cases hr : s.run = []
  · have hz : (tx s.run).length = 0 := by rw [hr]; rfl
    rw [hz] at c6
    have HEQ : Hid (s.room = .ok s) := hide (by rw [unhide HD, if_neg (fun h => h.1 hr)])
    clear hr hz
    go_enter Tryz.func76, Tryz.ntmps76
    go_wp2
    go_ret
    rw [unhide HEQ]
    exact ⟨Below.refl _ _, rfl, _, _, _, unhide HR⟩
  · have hz := hrp hr
    by_cases hf : s.toks.length = 4096
    · have HEQ : Hid (s.room = .error (6, s.runAt)) := hide (by rw [unhide HD, if_pos ⟨hr, hf⟩])
      have hf' : ((s.toks.length : Int) == 4096) = true := by rw [hf]; rfl
      have hz' : 0 < (tx s.run).length := hz
      clear hr hf hz
      go_enter Tryz.func76, Tryz.ntmps76
      go_wp2_with (go_at_call 41; refine (unhide HFR).mono ?_; rintro e w2 ⟨rfl, hw2, hb2⟩)
      go_ret
      rw [unhide HEQ]
      exact ⟨hb2, rfl, hw2⟩
    · have HEQ : Hid (s.room = .ok s) := hide (by rw [unhide HD, if_neg (fun h => hf h.2)])
      have hf' : ((s.toks.length : Int) == 4096) = false := by simpa using (by omega : ¬ (s.toks.length : Int) = 4096)
      have hz' : 0 < (tx s.run).length := hz
      clear hr hf hz
      go_enter Tryz.func76, Tryz.ntmps76
      go_wp2
      go_ret
      rw [unhide HEQ]
      exact ⟨Below.refl _ _, rfl, _, _, _, unhide HR⟩
end Go.Proofs.YtiembljlhmgpjaaGreatDoor
