/- Several texts, laid as one. -/
import Derived.Test.YtjjggncbhenffaaGreatDoorGba
/- Start tags: xmlscan's startTag. -/
namespace Go.Proofs.YtjjggncbhenffaaGreatDoor
open Go.RowKit
theorem startTag_eq (s : RS) : s.startTag = if qnameA (s.take [60]).rest = [] then .error (5, s.place) else
    match (s.take [60]).qname.attributes s.place with
    | .error e => .error e
    | .ok (a, s3) => if !heads 62 (s3.take [47]).rest then .error (5, s.place) else
      if ((s3.take [47]).adv 1).opn.length = 32 ∨ 64 < a.length then .error (6, s.place) else
      match ((s3.take [47]).adv 1).tell ⟨2, qnameA (s.take [60]).rest, a, []⟩ s.place with
      | .error e => .error e
      | .ok s6 => if heads 47 s3.rest then s6.tell ⟨7, qnameA (s.take [60]).rest, [], []⟩ s.place else .ok { s6 with opn := s6.opn ++ [qnameA (s.take [60]).rest] } := rfl
theorem take_any (a : List Nat) (u : ByteArray) (hu : u.data.toList = a.map UInt8.ofNat) (ha : ∀ c ∈ a, c < 128) (p : Nat) (s : RS) (w : World) (h : AtS w p s) (hf : Fine s) :
    Calls Tryz.prog 159 #[.pointer (some ⟨p, 0, none⟩), .string u] w fun e w' => e = .returned (.bool (a.isPrefixOf s.rest)) ∧ Moves p (s.take a).place w w' := by
  cases hp : a.isPrefixOf s.rest
  · refine (take_no a u hu ha p s w h hf hp).mono ?_
    rintro e w' ⟨rfl, hb⟩
    refine ⟨rfl, ?_⟩
    rw [show s.take a = s by unfold RS.take; rw [hp]; rfl]
    exact h.stay hb
  · refine (take_yes a u hu ha p s w h hf hp).mono ?_
    rintro e w' ⟨rfl, hm⟩
    refine ⟨rfl, ?_⟩
    rw [show s.take a = s.adv a.length by unfold RS.take; rw [hp]; rfl]
    exact hm
theorem attrs_moved {w w' : World} {B p n : Nat} {va : Value} {l : List (List Nat × List Nat)} {c : Array Value} (h : AttrsAt w B va l) (hp : w.heap[p]? = some (.cells c 131 (0, 0))) (hm : Moves p n w w') : AttrsAt w' B va l :=
  owns_kept (S := (· = p)) h (fun k o hk hs => by rw [hm.block (Array.getElem?_eq_some_iff.1 hk).1 hs]; exact hk) (fun k hk hs => by subst hs; exact owns_not h hp (by decide) hk)
theorem infoStr : (Tryz.prog.info? 9).map (fun i => (i.zero, i.size, i.bytes)) = some (some (.string ⟨#[]⟩), 1, 16) := by kernel_rfl
theorem news1 {W : World} {g : Nat} {a : Value} (h0 : W.cell? ⟨g, 0, none⟩ = some a) : ∀ j u, [a][j]? = some u → W.cell? ((⟨g, 0, none⟩ : Addr).add j) = some u := by
  intro j u h
  rw [Addr.add_mid, Nat.zero_add]
  match j, h with
  | 0, h => cases h; exact h0
/-- An element more is open. -/
theorem Rd.opened {w W w2 : World} {B p m : Nat} {vo vt vr v2 : Value} {s : RS} {q : List Nat} (R : Rd w B p m vo vt vr s) (hb : Below w.heap.size w W) (hg : W.grownBy w2 vo.ownBlock) (hown : w2.ownsRow B 9 1 v2 (s.opn.length + 1) (opnRow s.opn ++ [.string (T q)])) :
    w2.heap[p]? = some (.cells (rdArr s m vo vt vr) 131 (0, 0)) ∧ Rd (w2.setCell ⟨p, 4, none⟩ v2) B p m v2 vt vr { s with opn := s.opn ++ [q] } ∧ Below B w (w2.setCell ⟨p, 4, none⟩ v2) := by
  have hz := hb.size
  have hz2 := hg.size
  have hlt := R.lt
  have hlow := R.low
  have hk : ∀ k o, w.heap[k]? = some o → ¬ (vo.ownBlock = some k ∨ k = p) → (w2.setCell ⟨p, 4, none⟩ v2).heap[k]? = some o := by
    intro k o ho hS
    have hkl := (Array.getElem?_eq_some_iff.1 ho).1
    rw [blk_other (fun e => hS (.inr e)), hg.block k (by omega) (fun e => hS (.inl e.symm)), hb.block k hkl]
    exact ho
  have ep : w2.heap[p]? = some (.cells (rdArr s m vo vt vr) 131 (0, 0)) := by
    rw [hg.block p (by omega) (fun e => owns_not R.opn R.blk (by decide) e.symm), hb.block p hlt]
    exact R.blk
  have hS : ∀ k, (vo.ownBlock = some k ∨ k = p) → ∃ c t, w.heap[k]? = some (.cells c t (0, 0)) ∧ (t = 9 ∨ t = 131) := by
    rintro k (h | rfl)
    · obtain ⟨c, hc⟩ := owns_type R.opn h
      exact ⟨c, _, hc, .inl rfl⟩
    · exact ⟨_, _, R.blk, .inr rfl⟩
  refine ⟨ep, ⟨(blk_set ep 4 v2).trans rfl, hlow, ?_, ?_, ?_, ?_⟩, ?_⟩
  · refine R.ents.kept ?_
    obtain ⟨es, ck, hm⟩ := R.ents.map
    rw [hm]
    refine hk m _ hm fun h => ?_
    obtain ⟨c, t, hc, _⟩ := hS m h
    rw [hm] at hc
    cases hc
  · show World.ownsRow _ B _ 1 v2 (s.opn ++ [q]).length (opnRow (s.opn ++ [q]))
    rw [List.length_append, show opnRow (s.opn ++ [q]) = opnRow s.opn ++ [.string (T q)] by simp [opnRow]]
    exact owns_kept (S := (· = p)) hown (fun k o ho hs => by rw [blk_other hs]; exact ho) (fun k hk' hs => by subst hs; exact owns_not hown ep (by decide) hk')
  · refine R.toks.kept _ hk fun k c h => ?_
    obtain ⟨c', t, hc, ht⟩ := hS k h
    rw [hc]
    constructor
    · intro e; cases e; rcases ht with h | h <;> exact absurd h (by decide)
    · intro e; cases e; rcases ht with h | h <;> exact absurd h (by decide)
  · refine owns_kept R.run hk fun k hk' h => ?_
    obtain ⟨c', t, hc, ht⟩ := hS k h
    obtain ⟨c, hc2⟩ := owns_type R.run hk'
    rw [hc] at hc2
    cases hc2
    rcases ht with h | h <;> exact absurd h (by decide)
  · refine ⟨hg.os.trans hb.os, hg.tape.trans hb.tape, hg.output.trans hb.output, by rw [blk_size]; omega, fun k hk' => ?_⟩
    rw [blk_other (by omega), hg.block k (by omega) (fun e => by have := (R.opn.lt k e.symm).1; omega), hb.block k (by omega)]
set_option maxRecDepth 100000 in
set_option maxHeartbeats 4000000 in
theorem startTag_any (B p m : Nat) (vo vt vr : Value) (s : RS) (w : World) (R : Rd w B p m vo vt vr s) (hG : Good s) (hO : OpnOk s) (hE : XEnv B w) (hN : EOk s.ents) (hs : s.sees [60] = true) :
    Calls Tryz.prog 121 #[.pointer (some ⟨p, 0, none⟩)] w fun e w' => outP s.startTag B p m e w w' := by
  have hlow := R.low
  have hlt := R.lt
  have HD := hide (startTag_eq s)
  rw [take_adv hs] at HD
  have c1 : w.cell? ⟨p, 1, none⟩ = some (.int .i64 (s.place : Nat)) := R.at.pos
  have G1 := hG.adv 1
  have hl2 := hO.2
  go_enter Tryz.func121, Tryz.ntmps121
  go_wp2_with fail
  refine (take_yes [60] ⟨#[60]⟩ rfl (by decide) p s _ R.at hG.fine hs).mono ?_
  rintro e w1 ⟨rfl, hm1⟩
  have hs1 : Hid (([60] : List Nat).length = 1) := hide rfl
  rw [unhide hs1] at hm1 HD
  have R1 := R.moved hm1 (Adv.by s 1)
  have hb1 := hm1.low hlow (by omega)
  have hn1 : EOk (s.adv 1).ents := hN
  have ho1 : (s.adv 1).opn = s.opn := rfl
  generalize hg : s.adv 1 = s1 at *
  clear hg
  go_wp2_with fail
  refine (qname_any p s1 _ R1.at G1.fine).mono ?_
  rintro e w2 ⟨rfl, hm2⟩
  have R2 := R1.moved hm2 (Adv.qname s1)
  have G2 := G1.to (Adv.qname s1)
  have hb2 := hb1.trans (hm2.low hlow (by have := R1.lt; omega))
  have hoq := okL_pre G1.fine.okR (qnameA_pre s1.rest)
  have hsq := size_pre (qnameA_pre s1.rest)
  have hzq := G1.fine.lt
  have hn2 : EOk s1.qname.ents := hn1
  have ho2 : s1.qname.opn = s.opn := ho1
  have hd := unhide HD
  clear HD
  generalize qnameA s1.rest = q at *
  generalize hg : s1.qname = s2 at *
  clear hg
  by_cases hq : q = []
  · have e1 := nil_T hq
    rw [if_pos hq] at hd
    have HEQ := hide hd
    clear hd hq
    go_wp2_with (go_at_call 123; refine (fail_rd B p 5 s.place _ R2.blk rfl hlow).mono ?_; rintro e w5 ⟨rfl, hw5, hb5⟩)
    go_ret
    rw [unhide HEQ]
    exact ⟨hb2.trans hb5, rfl, hw5⟩
  · have e1 := ne_T hoq hq
    rw [if_neg hq] at hd
    clear hq
    go_wp2_with fail
    refine (attributes_any B p m s.place vo vt vr s2 _ R2 G2 (hE.low hb2) hn2).mono ?_
    intro e w3 ha
    obtain ⟨hb3, ha⟩ := ha
    have hb3' := hb2.trans hb3
    cases hat : s2.attributes s.place with
    | error x =>
      obtain ⟨cc, pl⟩ := x
      rw [hat] at ha hd
      obtain ⟨rfl, hw3⟩ := ha
      have HEQ := hide hd
      clear hd hat
      go_wp2_with fail
      go_ret
      rw [unhide HEQ]
      exact ⟨hb3', rfl, hw3⟩
    | ok x =>
      obtain ⟨a, s3⟩ := x
      rw [hat] at ha hd
      obtain ⟨va, rfl, R3, ha3, hrow3⟩ := ha
      have G3 := G2.t ha3
      have ho3 : s3.opn = s.opn := ha3.same.2.1.trans ho2
      simp only at hd
      clear hat
      obtain ⟨aa, ca, rfl⟩ := owns_slice hrow3
      go_wp2_with fail
      refine (take_any [47] ⟨#[47]⟩ rfl (by decide) p s3 _ R3.at G3.fine).mono ?_
      rintro e w4 ⟨rfl, hm4⟩
      have R4 := R3.moved hm4 (Adv.take s3 [47])
      have G4 := G3.to (Adv.take s3 [47])
      have hrow4 := attrs_moved hrow3 R3.blk hm4
      have hb4 := hb3'.trans (hm4.low hlow (by have := R3.lt; omega))
      have ho4 : (s3.take [47]).opn = s.opn := by obtain ⟨k, hk⟩ := Adv.take s3 [47]; rw [hk]; exact ho3
      rw [isPre_one]
      generalize hb : heads 47 s3.rest = b at *
      generalize hgt : s3.take [47] = s4 at *
      clear hb hgt hrow3 hm4
      have HD := hide hd
      clear hd
      go_wp2_with fail
      cases h62 : heads 62 s4.rest
      · have HEQ : Hid (s.startTag = .error (5, s.place)) := hide (by rw [unhide HD, h62]; rfl)
        refine (take_no [62] ⟨#[62]⟩ rfl (by decide) p s4 _ R4.at G4.fine (by rw [isPre_one]; exact h62)).mono ?_
        rintro e w5 ⟨rfl, hb5⟩
        have R5 := R4.on hb5
        clear HD h62
        go_wp2_with (go_at_call 123; refine (fail_rd B p 5 s.place _ R5.blk rfl hlow).mono ?_; rintro e w6 ⟨rfl, hw6, hb6⟩)
        go_ret
        rw [unhide HEQ]
        exact ⟨(hb4.trans (hb5.mono (by have := R4.lt; omega))).trans hb6, rfl, hw6⟩
      · refine (take_yes [62] ⟨#[62]⟩ rfl (by decide) p s4 _ R4.at G4.fine (by rw [isPre_one]; exact h62)).mono ?_
        rintro e w5 ⟨rfl, hm5⟩
        have hs5 : Hid (([62] : List Nat).length = 1) := hide rfl
        rw [unhide hs5] at hm5
        have R5 := R4.moved hm5 (Adv.by s4 1)
        have G5 := G4.adv 1
        have hrow5 := attrs_moved hrow4 R4.blk hm5
        have hb5 := hb4.trans (hm5.low hlow (by have := R4.lt; omega))
        have ho5 : (s4.adv 1).opn = s.opn := ho4
        have hd := unhide HD
        rw [h62, if_neg (by decide), ho5] at hd
        have HD5 := hide hd
        clear HD hd hrow4 hm5 h62
        generalize hg5 : s4.adv 1 = s5 at *
        clear hg5
        have hro := R5.opn
        rw [ho5] at hro
        obtain ⟨ao, co, rfl⟩ := owns_slice hro
        have c4 : w5.cell? ⟨p, 4, none⟩ = some (.slice ao s.opn.length co) := by
          have := blk_cell R5.blk 4
          exact this
        by_cases hl : s.opn.length = 32 ∨ 64 < a.length
        · have HEQ : Hid (s.startTag = .error (6, s.place)) := hide (by rw [unhide HD5, if_pos hl])
          clear HD5
          rcases (show s.opn.length = 32 ∨ (s.opn.length < 32 ∧ 64 < a.length) by omega) with h32 | ⟨h32, h64⟩
          · rw [h32] at c4
            clear hl
            go_wp2_with (go_at_call 123; refine (fail_rd B p 6 s.place _ R5.blk rfl hlow).mono ?_; rintro e w6 ⟨rfl, hw6, hb6⟩)
            go_ret
            rw [unhide HEQ]
            exact ⟨hb5.trans hb6, rfl, hw6⟩
          · have i1 : ((s.opn.length : Int) == 32) = false := by simp; omega
            have i2 : decide ((64 : Int) < (a.length : Int)) = true := decide_eq_true (by omega)
            clear hl
            go_wp2_with (go_at_call 123; refine (fail_rd B p 6 s.place _ R5.blk rfl hlow).mono ?_; rintro e w6 ⟨rfl, hw6, hb6⟩)
            go_ret
            rw [unhide HEQ]
            exact ⟨hb5.trans hb6, rfl, hw6⟩
        · have hd := unhide HD5
          rw [if_neg hl] at hd
          have HD6 := hide hd
          clear hd HD5
          have i1 : ((s.opn.length : Int) == 32) = false := by simp; omega
          have i2 : decide ((64 : Int) < (a.length : Int)) = false := decide_eq_false (by omega)
          have h32 : s.opn.length < 32 := by omega
          clear hl
          have HT : Hid (∀ W, Below w5.heap.size w5 W → Calls Tryz.prog 157 #[.pointer (some ⟨p, 0, none⟩), .agg #[.int .i64 2, .string (T q), .slice aa a.length ca, .string ⟨#[]⟩], .int .i64 (s.place : Nat)] W fun e w' => outP (s5.tell ⟨2, q, a, []⟩ s.place) B p m e W w') :=
            hide fun W hW => tell_any B p m _ _ _ (.slice aa a.length ca) _ ⟨2, q, a, []⟩ s.place W (R5.on hW) (owns_below hrow5 hW) G5.flush G5.pos (by have := hW.size; have := R5.lt; omega)
          have HRO := hide ho5
          have hb5w : B ≤ w5.heap.size := by have := R5.lt; omega
          clear R5 hrow5 hro
          go_wp2_with fail
          refine (unhide HT _ (by (repeat first | assumption | with_reducible exact Below.refl _ _ | refine Below.drew ?_))).mono ?_
          intro e w6 ho
          obtain ⟨hb6, ho⟩ := ho
          have hb6' := hb5.trans hb6
          cases htl : s5.tell ⟨2, q, a, []⟩ s.place with
          | error x =>
            obtain ⟨cc, pl⟩ := x
            rw [htl] at ho
            obtain ⟨rfl, hw6⟩ := ho
            have HEQ : Hid (s.startTag = .error (cc, pl)) := hide (by rw [unhide HD6, htl])
            clear HD6 htl
            go_wp2_with fail
            go_ret
            rw [unhide HEQ]
            exact ⟨hb6', rfl, hw6⟩
          | ok s6 =>
            rw [htl] at ho
            obtain ⟨rfl, vo6, vt6, vr6, R6⟩ := ho
            obtain ⟨G6, _, _, _, _, ho6, _⟩ := G5.tell htl
            rw [unhide HRO] at ho6
            have HD7 : Hid (s.startTag = if b = true then s6.tell ⟨7, q, [], []⟩ s.place else .ok { s6 with opn := s6.opn ++ [q] }) := hide (by rw [unhide HD6, htl])
            clear HD6 htl HT c4
            cases b
            · have HEQ : Hid (s.startTag = .ok { s6 with opn := s6.opn ++ [q] }) := hide (by rw [unhide HD7]; rfl)
              clear HD7
              have hro := R6.opn
              obtain ⟨a6, k6, rfl⟩ := owns_slice hro
              have c4 : w6.cell? ⟨p, 4, none⟩ = some (.slice a6 s6.opn.length k6) := blk_cell R6.blk 4
              have o4 := blk_open R6.blk 4
              have HR6 := hide R6
              have HRO6 := hide hro
              obtain ⟨i0, hi, hz0, hz1, hz2⟩ := info_parts infoStr
              have hn6 : s6.opn.length < 32 := by rw [ho6]; exact h32
              have hbw6 : B ≤ w6.heap.size := by have := R6.lt; omega
              clear R6 hro ho6 G6
              go_wp2_with (at_builtin; refine wpList_append_own _ rfl _ _ 89 rfl B 9 i0 _ 1 16 Tryz.underlying89 hi hz0 hz1 hz2 rfl (by decide) _ s6.opn.length (opnRow s6.opn) rfl (owns_below (unhide HRO6) ((Below.refl _ _).alloc (Nat.le_refl _) _)) ⟨w6.heap.size, 0, none⟩ 1 1 [.string (T q)] rfl rfl (news1 (by simp [go_sem])) (fun u hu => by simp at hu; subst hu; rfl) (by unfold maxLen; omega) (by omega) (by simp; omega) ?_; intro v7 w7 hown7 hgrow7 _; obtain ⟨a7, k7, rfl⟩ := owns_slice hown7; obtain ⟨ep, R7, hb7⟩ := (unhide HR6).opened ((Below.refl _ _).alloc (Nat.le_refl _) _) hgrow7 hown7; have c47 : w7.cell? ⟨p, 4, none⟩ = some (.slice a6 s6.opn.length k6) := blk_cell ep 4; have o47 := blk_open ep 4; have HF := hide (And.intro R7 hb7); clear R7 hb7 ep hown7 hgrow7)
              go_ret
              rw [unhide HEQ]
              exact ⟨hb6'.trans (unhide HF).2, rfl, _, _, _, (unhide HF).1⟩
            · have HEQ : Hid (s.startTag = s6.tell ⟨7, q, [], []⟩ s.place) := hide (by rw [unhide HD7]; rfl)
              have HT2 : Hid (∀ W, Below w6.heap.size w6 W → Calls Tryz.prog 157 #[.pointer (some ⟨p, 0, none⟩), .agg #[.int .i64 7, .string (T q), .slice none 0 0, .string ⟨#[]⟩], .int .i64 (s.place : Nat)] W fun e w' => outP (s6.tell ⟨7, q, [], []⟩ s.place) B p m e W w') :=
                hide fun W hW => tell_any B p m _ _ _ (.slice none 0 0) _ ⟨7, q, [], []⟩ s.place W (R6.on hW) (World.ownsRow_nil _ _ _ _) G6.flush G6.pos (by have := hW.size; have := R6.lt; omega)
              clear HD7 R6
              go_wp2_with (go_at_call 157; refine (unhide HT2 _ (by (repeat first | assumption | with_reducible exact Below.refl _ _ | refine Below.drew ?_))).mono ?_; intro e w7 ho; obtain ⟨b7, rfl, ho⟩ := outP_form ho)
              go_ret
              rw [unhide HEQ]
              exact outP_low hb6' ho
end Go.Proofs.YtjjggncbhenffaaGreatDoor
/- What one step through content leaves. -/
namespace Go.Proofs.YtjjggncbhenffaaGreatDoor
theorem Adv.len {s s' : RS} (h : Adv s s') : s'.rest.length ≤ s.rest.length := by
  obtain ⟨k, rfl⟩ := h
  show (s.rest.drop k).length ≤ _
  rw [List.length_drop]; omega
theorem Adv.same {s s' : RS} (h : Adv s s') : s'.ents = s.ents ∧ s'.opn = s.opn ∧ s'.run = s.run ∧ s'.toks = s.toks ∧ s'.spent = s.spent ∧ s'.runAt = s.runAt := by
  obtain ⟨k, rfl⟩ := h
  exact ⟨rfl, rfl, rfl, rfl, rfl, rfl⟩
theorem sees_len {s : RS} {a : List Nat} (n : Nat) (hn : a.length = n) (h : s.sees a = true) : (s.adv n).rest.length + n = s.rest.length := by
  have := List.IsPrefix.length_le (List.isPrefixOf_iff_prefix.1 h)
  show (s.rest.drop _).length + _ = _
  rw [List.length_drop]; omega
/-- Less is left, and all stands as it should. -/
def Less (s s' : RS) : Prop := s'.rest.length < s.rest.length ∧ Good s' ∧ OpnOk s' ∧ EOk s'.ents
theorem OpnOk.to {s s' : RS} (h : OpnOk s) (e : s'.opn = s.opn) : OpnOk s' := by
  unfold OpnOk
  rw [e]; exact h
theorem tell_less {s s1 s' : RS} {t : XTok} {pl : Nat} (hl : s1.rest.length < s.rest.length) (hG : Good s1) (hO : OpnOk s1) (hN : EOk s1.ents) (h : s1.tell t pl = .ok s') : Less s s' := by
  obtain ⟨g, _, _, h3, h4, h5, _⟩ := hG.tell h
  exact ⟨by rw [h3]; exact hl, g, hO.to h5, by rw [h4]; exact hN⟩
theorem Good.opn {s : RS} (h : Good s) (l : List (List Nat)) : Good { s with opn := l } := ⟨⟨h.fine.ok, h.fine.le⟩, h.n1, h.n2, h.okr, h.rl, h.sp⟩
theorem endTag_less {s s' : RS} (hG : Good s) (hO : OpnOk s) (hN : EOk s.ents) (hs : s.sees [60, 47] = true) (h : s.endTag = .ok s') : Less s s' := by
  rw [endTag_eq, take_adv hs] at h
  split at h
  · have ha : Adv s ((s.adv 2).qname.blanks.adv 1) := (((Adv.by s 2).then (Adv.qname _)).then (Adv.blanks _)).then (Adv.by _ 1)
    have hl := (((Adv.qname (s.adv 2)).then (Adv.blanks _)).then (Adv.by _ 1)).len
    have hl2 := sees_len 2 rfl hs
    refine tell_less ?_ ((hG.to ha).opn _) ?_ ?_ h
    · show ((s.adv 2).qname.blanks.adv 1).rest.length < _
      omega
    · refine ⟨fun x hx => hO.1 x ((List.dropLast_prefix _).subset hx), ?_⟩
      show s.opn.dropLast.length ≤ 32
      rw [List.length_dropLast]
      have := hO.2
      omega
    · exact EOk.of ha.same.1 hN
  · cases h
theorem comment_adv {s s1 : RS} {t : List Nat} (hs : s.sees [60, 33, 45, 45] = true) (h : s.comment = some (t, s1)) : Adv (s.adv 4) s1 := by
  unfold RS.comment at h
  rw [take_adv hs] at h
  split at h
  · cases h
  · rename_i x s2 hx
    split at h
    · cases h
      exact (Adv.takeTo hx).1.then (Adv.by _ 1)
    · cases h
theorem comment_less {s s' : RS} (hG : Good s) (hO : OpnOk s) (hN : EOk s.ents) (hs : s.sees [60, 33, 45, 45] = true) (h : s.tellComment = .ok s') : Less s s' := by
  unfold RS.tellComment at h
  split at h
  · cases h
  · rename_i t s1 hc
    have ha := comment_adv hs hc
    have ha' := (Adv.by s 4).then ha
    have hl := ha.len
    have hl2 := sees_len 4 rfl hs
    exact tell_less (by omega) (hG.to ha') (hO.to ha'.same.2.1) (EOk.of ha'.same.1 hN) h
theorem instruction_adv {s s1 : RS} {n t : List Nat} (hs : s.sees [60, 63] = true) (h : s.instruction = some (n, t, s1)) : Adv (s.adv 2) s1 := by
  unfold RS.instruction at h
  rw [take_adv hs] at h
  simp only at h
  split at h
  · cases h
  · split at h
    · cases h
      exact (Adv.name _).then (Adv.by _ 2)
    · split at h
      · cases h
      · cases hx : (RS.name (s.adv ([60, 63] : List Nat).length)).blanks.takeTo [63, 62] with
        | none => rw [hx] at h; cases h
        | some x =>
          rw [hx] at h
          cases h
          exact ((Adv.name _).then (Adv.blanks _)).then (Adv.takeTo hx).1
theorem instruction_less {s s' : RS} (hG : Good s) (hO : OpnOk s) (hN : EOk s.ents) (hs : s.sees [60, 63] = true) (h : s.tellInstruction = .ok s') : Less s s' := by
  unfold RS.tellInstruction at h
  split at h
  · cases h
  · rename_i n t s1 hc
    have ha := instruction_adv hs hc
    have ha' := (Adv.by s 2).then ha
    have hl := ha.len
    have hl2 := sees_len 2 rfl hs
    exact tell_less (by omega) (hG.to ha') (hO.to ha'.same.2.1) (EOk.of ha'.same.1 hN) h
theorem section_less {s s' : RS} (hG : Good s) (hO : OpnOk s) (hN : EOk s.ents) (hs : s.sees [60, 33, 91, 67, 68, 65, 84, 65, 91] = true) (h : s.section' = .ok s') : Less s s' := by
  rw [section_eq, take_adv hs] at h
  split at h
  · cases h
  · rename_i t s1 hc
    obtain ⟨ha, y, hcut, e⟩ := Adv.takeTo hc
    have ha' := (Adv.by s _).then ha
    have G1 := hG.to ha'
    have hf := (hG.adv 9).fine
    obtain ⟨p1, p2⟩ := cut_place (by decide) (by simp) hf hcut
    have hot : okL t := okL_left (okL_left ((cutL_app (by decide) (by simp) hf.okR hcut) ▸ hf.okR))
    have hrun : s1.run = s.run := ha'.same.2.2.1
    have hspent : s1.spent = s.spent := ha'.same.2.2.2.2.1
    rw [← hrun] at h
    have hpl := place_adv s 9
    have hrl := hG.rl
    obtain ⟨g, rfl⟩ := G1.ran hot (by
      rw [hrun, hspent, e]
      simp only [List.length_cons, List.length_nil] at p1 ⊢
      rw [p1]
      omega) h
    have hl := ha.len
    have hl2 := sees_len 9 rfl hs
    have hl3 : s1.rest.length ≤ (s.adv 9).rest.length := hl
    refine ⟨?_, g, hO.to ha'.same.2.1, EOk.of ha'.same.1 hN⟩
    show s1.rest.length < _
    omega
theorem ref_less {s s' : RS} (hG : Good s) (hO : OpnOk s) (hN : EOk s.ents) (h : s.refRun = .ok s') : Less s s' := by
  unfold RS.refRun at h
  split at h
  · cases h
  · rename_i t s1 hc
    obtain ⟨r1, r2, r3, r3b, r4, r5⟩ := ref_t hN hG.fine.okR hG.sp hc
    have rs := ref_sum hN hG.fine.okR hG.sp hc
    have G1 := hG.t r1
    have hrun := r1.same.2.2.1
    rw [← hrun] at h
    have hrl := hG.rl
    have hts : (T t).size = (tx t).length := T_size _
    obtain ⟨g, rfl⟩ := G1.ran r2 (by rw [hrun]; omega) h
    exact ⟨r4, g, hO.to r1.same.2.1, EOk.of r1.same.1 hN⟩
theorem ahead_one {c : Nat} {a t : List Nat} (h : a.isPrefixOf (c :: t) = false) : ∃ x, ahead a (c :: t) = c :: x := by
  unfold ahead cutL
  rw [h]
  cases cutL a t with
  | none => exact ⟨t, rfl⟩
  | some x => exact ⟨x.1, rfl⟩
theorem pre_of_head {c : Nat} {a t x : List Nat} (h : a.isPrefixOf (c :: t) = false) (hx : c :: x <+: c :: t) : a.isPrefixOf (c :: x) = false := by
  cases hh : a.isPrefixOf (c :: x)
  · rfl
  · have := (List.isPrefixOf_iff_prefix.1 hh).trans hx
    rw [List.isPrefixOf_iff_prefix.2 this] at h
    cases h
theorem plain_pos {s : RS} (hne : s.rest ≠ []) (h1 : s.sees [60] = false) (h2 : s.sees [38] = false) (h3 : s.sees [93, 93, 62] = false) : 1 ≤ (plainA s.rest).length := by
  unfold RS.sees at h1 h2 h3
  cases hr : s.rest with
  | nil => exact absurd hr hne
  | cons c t =>
    rw [hr] at h1 h2 h3
    obtain ⟨x, e1⟩ := ahead_one h1
    have p1 : c :: x <+: c :: t := e1 ▸ ahead_pre [60] (c :: t)
    obtain ⟨y, e2⟩ := ahead_one (pre_of_head h2 p1)
    have p2 : c :: y <+: c :: x := e2 ▸ ahead_pre [38] (c :: x)
    obtain ⟨z, e3⟩ := ahead_one (pre_of_head h3 (p2.trans p1))
    unfold plainA
    rw [e1, e2, e3]
    simp
theorem plain_less {s s' : RS} (hG : Good s) (hO : OpnOk s) (hN : EOk s.ents) (hne : s.rest ≠ []) (h1 : s.sees [60] = false) (h2 : s.sees [38] = false) (h3 : s.sees [93, 93, 62] = false) (h : s.plain = .ok s') : Less s s' := by
  unfold RS.plain at h
  have hp := plain_pos hne h1 h2 h3
  have hpre := plainA_pre s.rest
  have hle := List.IsPrefix.length_le hpre
  have hpl := place_pre s hpre
  have G1 := hG.adv (plainA s.rest).length
  have hrl := hG.rl
  obtain ⟨g, rfl⟩ := G1.ran (s := s.adv (plainA s.rest).length) (okL_pre hG.fine.okR hpre) (by
    rw [hpl]
    show (tx s.run).length + _ ≤ _ + s.spent
    omega) h
  refine ⟨?_, g, hO, hN⟩
  show (s.rest.drop _).length < _
  rw [List.length_drop]
  omega
theorem valueGo_adv (q tag : Nat) : ∀ (f : Nat) (s : RS) (t v : List Nat) (s' : RS), EOk s.ents → okL s.rest → s.spent ≤ 32768 → RS.valueGo q tag f s t = .ok (v, s') → AdvT s s'
  | 0, _, _, _, _, _, _, _, h => by cases h
  | f + 1, s, t, v, s', hN, hk, hs, h => by
    rw [valueGo_eq] at h
    split at h
    · cases h
      exact ((Adv.by _ _).then (Adv.by _ _)).t
    · split at h
      · split at h
        · cases h
        · rename_i u s2 hr
          have ha := Adv.by s (s.rest.takeWhile (plainC q)).length
          obtain ⟨r1, _⟩ := ref_t (EOk.of ha.same.1 hN) (okL_drop hk _) hs hr
          have hs2 : s2.spent ≤ 32768 := by
            obtain ⟨k, n, rfl, h1, h2⟩ := r1
            have h2' : n ≤ 32768 ∨ n = s.spent := h2
            show n ≤ 32768
            omega
          exact (ha.t.then r1).then (valueGo_adv q tag f s2 _ v s' (EOk.of r1.same.1 (EOk.of ha.same.1 hN)) (r1.okR (okL_drop hk _)) hs2 h)
      · cases h
theorem value_adv {tag : Nat} {s s' : RS} {v : List Nat} (hN : EOk s.ents) (hk : okL s.rest) (hs : s.spent ≤ 32768) (h : s.value tag = .ok (v, s')) : AdvT s s' := by
  unfold RS.value at h
  split at h
  · cases h
  · rename_i q s1 hq
    have ha := Adv.quote hq
    obtain ⟨k, rfl⟩ := ha
    exact (Adv.by s k).t.then (valueGo_adv q tag _ _ [] v s' hN (okL_drop hk _) hs h)
theorem attrsGo_adv (tag : Nat) : ∀ (f : Nat) (s : RS) (acc a : List (List Nat × List Nat)) (s' : RS), EOk s.ents → okL s.rest → s.spent ≤ 32768 → RS.attrsGo tag f s acc = .ok (a, s') → AdvT s s'
  | 0, _, _, _, _, _, _, _, h => by cases h
  | f + 1, s, acc, a, s', hN, hk, hs, h => by
    rw [attrsGo_eq] at h
    split at h
    · cases h
      exact (Adv.blanks s).t
    · split at h
      · cases h
      · split at h
        · cases h
        · rename_i s3 hs3
          have h3 : Adv s s3 := ((Adv.blanks s).then (Adv.qname _)).then (Adv.equals hs3)
          obtain ⟨k, rfl⟩ := h3
          split at h
          · cases h
          · rename_i v s4 hv
            have h4 := value_adv (s := s.adv k) hN (okL_drop hk k) hs hv
            have hs4 : s4.spent ≤ 32768 := by
              obtain ⟨j, n, rfl, h1, h2⟩ := h4
              have h2' : n ≤ 32768 ∨ n = s.spent := h2
              show n ≤ 32768
              omega
            exact ((Adv.by s k).t.then h4).then (attrsGo_adv tag f _ _ a s' (EOk.of h4.same.1 hN) (h4.okR (okL_drop hk k)) hs4 h)
theorem start_less {s s' : RS} (hG : Good s) (hO : OpnOk s) (hN : EOk s.ents) (hs : s.sees [60] = true) (h : s.startTag = .ok s') : Less s s' := by
  rw [startTag_eq, take_adv hs] at h
  split at h
  · cases h
  · have h2 : Adv (s.adv 1) (s.adv 1).qname := Adv.qname _
    split at h
    · cases h
    · rename_i a s3 hat
      obtain ⟨k, hk⟩ := h2
      have h3 : AdvT (s.adv 1) s3 := (Adv.qname _).t.then (attrsGo_adv s.place _ _ [] a s3 (by show EOk s.ents; exact hN) (by rw [hk]; exact okL_drop (okL_drop hG.fine.okR 1) k) hG.sp hat)
      have h5 : AdvT (s.adv 1) ((s3.take [47]).adv 1) := (h3.then (Adv.take s3 [47]).t).then (Adv.by _ 1).t
      have hl := h5.len
      have hl2 := sees_len 1 rfl hs
      have h5' := (Adv.by s 1).t.then h5
      have G5 := hG.t h5'
      have O5 := hO.to h5'.same.2.1
      have N5 := EOk.of h5'.same.1 hN
      split at h
      · cases h
      · split at h
        · cases h
        · rename_i hlim
          split at h
          · cases h
          · rename_i s6 htl
            obtain ⟨l6, g6, o6, n6⟩ := tell_less (s := s) (by omega) G5 O5 N5 htl
            split at h
            · exact tell_less l6 g6 o6 n6 h
            · cases h
              refine ⟨l6, g6.opn _, ⟨fun x hx => ?_, ?_⟩, n6⟩
              · rcases List.mem_append.1 hx with hx | hx
                · exact o6.1 x hx
                · rw [List.mem_singleton.1 hx]
                  have G1 := hG.adv 1
                  refine ⟨okL_pre G1.fine.okR (qnameA_pre _), ?_⟩
                  have := size_pre (qnameA_pre (s.adv 1).rest)
                  have h1 := G1.fine.lt
                  show (T (qnameA (s.adv 1).rest)).size ≤ _
                  omega
              · show (s6.opn ++ [_]).length ≤ 32
                obtain ⟨_, _, _, _, _, e6, _⟩ := G5.tell htl
                rw [List.length_append, e6]
                have := O5.2
                simp at hlim ⊢
                omega
theorem contentOne_ok {s s' : RS} (hG : Good s) (hO : OpnOk s) (hN : EOk s.ents) (h : s.contentOne = .ok s') : s'.rest.length < s.rest.length ∧ Good s' ∧ OpnOk s' ∧ EOk s'.ents := by
  unfold RS.contentOne at h
  split at h
  · rename_i h1; exact endTag_less hG hO hN h1 h
  · split at h
    · rename_i h1; exact comment_less hG hO hN h1 h
    · split at h
      · rename_i h1; exact section_less hG hO hN h1 h
      · split at h
        · rename_i h1; exact instruction_less hG hO hN h1 h
        · split at h
          · rename_i h1; exact start_less hG hO hN h1 h
          · rename_i h60
            split at h
            · exact ref_less hG hO hN h
            · rename_i h38
              split at h
              · rename_i h1; exact plain_less hG hO hN h1.1 (Bool.eq_false_iff.2 h60) (Bool.eq_false_iff.2 h38) h1.2 h
              · cases h
end Go.Proofs.YtjjggncbhenffaaGreatDoor
