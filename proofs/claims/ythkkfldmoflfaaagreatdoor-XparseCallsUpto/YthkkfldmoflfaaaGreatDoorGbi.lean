/- Several texts, laid as one. -/
import Derived.Test.YthkkfldmoflfaaaGreatDoorGau
import Derived.Test.YthkkfldmoflfaaaGreatDoorGaa
/- xparse's judge: its contracts, and right. -/
namespace Go.Proofs.YthkkfldmoflfaaaGreatDoor
open Go.RowKit Go.Maps
/-- A judge at block p that has seen c expressions. -/
def JV (w : World) (p c : Nat) : Prop := w.heap[p]? = some (.cells #[.int .i64 (c : Nat)] 94 (0, 0))
/-- A judge, where what was there at the beginning stands. -/
structure JQ (W0 w : World) (p c : Nat) : Prop where
  jv : JV w p c
  lo : W0.heap.size ≤ p
  bel : Below W0.heap.size W0 w
theorem JQ.go {W0 w w' : World} {p c c' : Nat} (h : JQ W0 w p c) (hk : Kq (fun j => j = p) w w') (hv : JV w' p c') : JQ W0 w' p c' :=
  ⟨hv, h.lo, ⟨hk.os.trans h.bel.os, hk.tape.trans h.bel.tape, hk.output.trans h.bel.output, Nat.le_trans h.bel.size hk.size, fun k hk' => by
    rw [hk.block k (Nat.lt_of_lt_of_le hk' h.bel.size) (by have := h.lo; omega)]
    exact h.bel.block k hk'⟩⟩
theorem JQ.below {W0 w w' : World} {p c : Nat} (h : JQ W0 w p c) (hb : Below w.heap.size w w') : JQ W0 w' p c := h.go (Kq.of hb) (blockK (Kq.of (S := fun _ => False) hb) h.jv (fun h => h))
theorem JQ.lt {W0 w : World} {p c : Nat} (h : JQ W0 w p c) : p < w.heap.size := (Array.getElem?_eq_some_iff.1 h.jv).1
/-- Kids in memory. -/
def KsV (w : World) (S : Nat → Prop) (ks : List Ex) (v : Value) : Prop := ∃ ys, slAt w S v ks.length ys ∧ kidsIn w S ks ys
theorem KsV.kept {w w' : World} {S : Nat → Prop} {ks : List Ex} {v : Value} (h : KsV w S ks v) {Q : Nat → Prop} (hk : Kq Q w w') (hS : ∀ j, S j → j < w.heap.size → ¬ Q j) : KsV w' S ks v := by
  obtain ⟨ys, h1, h2⟩ := h
  exact ⟨ys, h1.mono (fun _ h => h) (fun k o hs ho => blockK hk ho (hS k hs (Array.getElem?_eq_some_iff.1 ho).1)), kidsIn.mono (fun _ h => h) (fun k o hs ho => blockK hk ho (hS k hs (Array.getElem?_eq_some_iff.1 ho).1)) _ _ h2⟩
def outJ (p : Nat) (w : World) (b : Bool) (c : Nat) (e : Ending) (w' : World) : Prop := e = .returned (.bool b) ∧ JV w' p c ∧ Kq (fun j => j = p) w w'
section
variable (fl : Ex → Bool) (W0 : World) (n : Nat)
def JPartC : Prop := ∀ (p d c : Nat) (x : Ex) (al : Option Addr) (cc : Nat) (w : World) (S : Nat → Prop) (b : Bool) (c' : Nat), JQ W0 w p c → smallX x = true → exV w S x (.slice al x.kids.length cc) → (∀ j, S j → j ≠ p) → d ≤ 100 → c ≤ 1000 → jPart fl n d c x = some (b, c') → Calls Tryz.prog 84 #[.pointer (some ⟨p, 0, none⟩), exAgg x (.slice al x.kids.length cc), .int .i64 (d : Nat)] w (outJ p w b c')
def JRightC : Prop := ∀ (p d c : Nat) (x : Ex) (al : Option Addr) (cc : Nat) (w : World) (S : Nat → Prop) (b : Bool) (c' : Nat), JQ W0 w p c → smallX x = true → exV w S x (.slice al x.kids.length cc) → (∀ j, S j → j ≠ p) → d ≤ 100 → c ≤ 1000 → jRight fl n d c x = some (b, c') → Calls Tryz.prog 49 #[.pointer (some ⟨p, 0, none⟩), exAgg x (.slice al x.kids.length cc), .int .i64 (d : Nat)] w (outJ p w b c')
def JKidsC : Prop := ∀ (p d c : Nat) (x : Ex) (al : Option Addr) (cc : Nat) (w : World) (S : Nat → Prop) (b : Bool) (c' : Nat), JQ W0 w p c → smallX x = true → exV w S x (.slice al x.kids.length cc) → (∀ j, S j → j ≠ p) → d ≤ 100 → c ≤ 1000 → jKids fl n d c x = some (b, c') → Calls Tryz.prog 115 #[.pointer (some ⟨p, 0, none⟩), exAgg x (.slice al x.kids.length cc), .int .i64 (d : Nat)] w (outJ p w b c')
def JAllC : Prop := ∀ (p d c : Nat) (ks : List Ex) (al : Option Addr) (cc : Nat) (w : World) (S : Nat → Prop) (b : Bool) (c' : Nat), JQ W0 w p c → smallKs ks = true → KsV w S ks (.slice al ks.length cc) → (∀ j, S j → j ≠ p) → d ≤ 100 → c ≤ 1000 → jAll fl n d c ks = some (b, c') → Calls Tryz.prog 139 #[.pointer (some ⟨p, 0, none⟩), .slice al ks.length cc, .int .i64 (d : Nat)] w (outJ p w b c')
def JPathC : Prop := ∀ (p d c : Nat) (ks : List Ex) (al : Option Addr) (cc : Nat) (w : World) (S : Nat → Prop) (b : Bool) (c' : Nat), JQ W0 w p c → smallKs ks = true → KsV w S ks (.slice al ks.length cc) → (∀ j, S j → j ≠ p) → d ≤ 100 → c ≤ 1000 → jPath fl n d c ks = some (b, c') → Calls Tryz.prog 138 #[.pointer (some ⟨p, 0, none⟩), .slice al ks.length cc, .int .i64 (d : Nat)] w (outJ p w b c')
end
/-- What rightFields tells of an expression. -/
def FieldsC (fl : Ex → Bool) (W0 : World) : Prop := ∀ (x : Ex) (al : Option Addr) (cc : Nat) (w : World) (S : Nat → Prop), Below W0.heap.size W0 w → smallX x = true → exV w S x (.slice al x.kids.length cc) → Calls Tryz.prog 114 #[exAgg x (.slice al x.kids.length cc)] w fun e w' => e = .returned (.bool (fl x)) ∧ Below w.heap.size w w'
set_option maxRecDepth 100000 in
set_option maxHeartbeats 4000000 in
theorem jright_step (fl : Ex → Bool) (W0 : World) (n : Nat) (hP : JPartC fl W0 n) : JRightC fl W0 (n + 1) := by
  intro p d c x al cc w S b c' hj hz hx hS hd hc hr
  have hb : Below w.heap.size w (w.alloc (oneB x (.slice al x.kids.length cc))) := (Below.refl _ _).alloc (Nat.le_refl _) _
  have HB := hide hb
  have HJ : Hid (JQ W0 (w.alloc (oneB x (.slice al x.kids.length cc))) p c) := hide (hj.below hb)
  have HX := hide (hx.kept (Kq.of (S := fun _ => False) hb) (fun _ _ _ h => h))
  clear hb
  rw [jRight] at hr
  by_cases h1 : 1 ≤ x.op
  · have n1 : decide ((1 : Int) ≤ ((x.op : Nat) : Int)) = true := decide_eq_true (by omega)
    by_cases h2 : x.op ≤ 21
    · have n2 : decide (((x.op : Nat) : Int) ≤ (21 : Int)) = true := decide_eq_true (by omega)
      rw [if_pos (by unfold selfX; simp [h1, h2])] at hr
      have HC := hide (hP p d c x al cc _ S b c' (unhide HJ) hz (unhide HX) hS hd hc hr)
      clear hP hj hx hS hr
      go_enter Tryz.func49, Tryz.ntmps49
      go_wp2_with fail
      refine (unhide HC).mono ?_
      rintro e w1 ⟨rfl, r1, r2⟩
      have HK := hide ((Kq.of (S := fun j => j = p) (unhide HB)).andThen r2 (fun _ _ h => h))
      have HJ1 := hide r1
      clear r1 r2 HC
      go_wp2_with fail
      go_returns
      exact ⟨rfl, unhide HJ1, unhide HK⟩
    · have n2 : decide (((x.op : Nat) : Int) ≤ (21 : Int)) = false := decide_eq_false (by omega)
      rw [if_neg (by unfold selfX; simp [h1, h2])] at hr
      cases hr
      clear hP hj hx hS
      go_enter Tryz.func49, Tryz.ntmps49
      go_wp2_with fail
      go_returns
      exact ⟨rfl, (unhide HJ).jv, Kq.of (unhide HB)⟩
  · have n1 : decide ((1 : Int) ≤ ((x.op : Nat) : Int)) = false := decide_eq_false (by omega)
    rw [if_neg (by unfold selfX; simp [h1])] at hr
    cases hr
    clear hP hj hx hS
    go_enter Tryz.func49, Tryz.ntmps49
    go_wp2_with fail
    go_returns
    exact ⟨rfl, (unhide HJ).jv, Kq.of (unhide HB)⟩
end Go.Proofs.YthkkfldmoflfaaaGreatDoor
/- xparse's judge: rightPart. -/
namespace Go.Proofs.YthkkfldmoflfaaaGreatDoor
open Go.RowKit Go.Maps
set_option maxRecDepth 100000 in
set_option maxHeartbeats 4000000 in
theorem jpart_step (fl : Ex → Bool) (W0 : World) (n : Nat) (hF : FieldsC fl W0) (hK : JKidsC fl W0 n) : JPartC fl W0 (n + 1) := by
  intro p d c x al cc w S b c' hj hz hx hS hd hc hr
  rw [jPart] at hr
  have w1 : IntKind.i64.wrap ((c : Int) + 1) = (c : Int) + 1 := by rw [wrap_small] <;> omega
  obtain ⟨W1, e1⟩ : ∃ W1, w.alloc (oneB x (.slice al x.kids.length cc)) = W1 := ⟨_, rfl⟩
  have hb : Below w.heap.size w W1 := by rw [← e1]; exact (Below.refl _ _).alloc (Nat.le_refl _) _
  have hq1 : W1.heap[w.heap.size]? = some (oneB x (.slice al x.kids.length cc)) := by rw [← e1]; exact palloc_new _ _
  have hj1 := hj.below hb
  have hx1 := hx.kept (Kq.of (S := fun _ => False) hb) (fun _ _ _ h => h)
  have hset : JV (W1.setCell ⟨p, 0, none⟩ (.int .i64 ((c : Int) + 1))) p (c + 1) := by
    have := pset hj1.jv 0 (.int .i64 ((c : Int) + 1))
    simpa [JV] using this
  have hk2 := Kq.set W1 p 0 (.int .i64 ((c : Int) + 1))
  have hpq : p < w.heap.size := hj.lt
  have hx2 := hx1.kept hk2 (fun j hj _ e => hS j hj e)
  have hj2 := hj1.go hk2 hset
  have hq2 := blockK hk2 hq1 (by omega)
  have hk02 : Kq (fun j => j = p) w (W1.setCell ⟨p, 0, none⟩ (.int .i64 ((c : Int) + 1))) := (Kq.of (S := fun j => j = p) hb).andThen hk2 (fun _ _ h => h)
  have c0 : W1.cell? ⟨p, 0, none⟩ = some (.int .i64 (c : Nat)) := pcell hj1.jv 0
  have c1 : W1.frozen? ⟨p, 0, none⟩ = false := popen hj1.jv 0
  obtain ⟨W2, e2⟩ : ∃ W2, W1.setCell ⟨p, 0, none⟩ (.int .i64 ((c : Int) + 1)) = W2 := ⟨_, rfl⟩
  rw [e2] at hset hx2 hj2 hq2 hk02
  have d0 : W2.cell? ⟨p, 0, none⟩ = some (.int .i64 ((c : Int) + 1)) := pcell hj2.jv 0
  generalize hq : w.heap.size = q at hq2 hpq
  have HQW := hide hq
  obtain ⟨a0, a1, a2, a3, a4, a5, a6⟩ := var_cells hq2
  have HQ2 := hide hq2
  have HJ2 := hide hj2
  have HX2 := hide hx2
  have HK2 := hide hk02
  have HS := hide hS
  have HPQ := hide hpq
  have hne : q ≠ p := by omega
  have hne2 : p ≠ q := by omega
  clear hj hx hj1 hx1 hset hk2 hq1 hb hq2 hj2 hx2 hk02 hS hpq
  by_cases h1 : d ≤ 32
  · have n1 : decide (((d : Nat) : Int) ≤ (32 : Int)) = true := decide_eq_true (by omega)
    by_cases h2 : c + 1 ≤ 512
    · have n2 : decide ((c : Int) + 1 ≤ (512 : Int)) = true := decide_eq_true (by omega)
      have w2 : IntKind.i64.wrap ((d : Int) + 1) = (d : Int) + 1 := by rw [wrap_small] <;> omega
      have HFC := hide (hF x al cc W2 S (unhide HJ2).bel hz (unhide HX2))
      have HKC := hide hK
      have HW1 := hide w1
      have HD := hide (show d + 1 ≤ 100 ∧ c + 1 ≤ 1000 by omega)
      clear hF hK hd hc
      go_enter Tryz.func84, Tryz.ntmps84
      go_wp2_with fail
      refine (unhide HFC).mono ?_
      rintro e W3 ⟨rfl, hb3⟩
      have hq3 := blockK (Kq.of (S := fun _ => False) hb3) (unhide HQ2) (fun h => h)
      have hj3 := (unhide HJ2).below hb3
      have hx3 := (unhide HX2).kept (Kq.of (S := fun _ => False) hb3) (fun _ _ _ h => h)
      have hk3 := (unhide HK2).andThen (Kq.of (S := fun _ => False) hb3) (fun _ _ h => h.elim)
      obtain ⟨b0, b1, b2, b3, b4, b5, b6⟩ := var_cells hq3
      have HK3 := hide hk3
      have HJ3 := hide hj3
      cases h3 : fl x with
      | false =>
        rw [if_neg (by rw [h3]; simp)] at hr
        cases hr
        clear hq3 hj3 hx3 hk3 hb3 HFC HKC
        go_wp2_with fail
        go_returns
        exact ⟨rfl, (unhide HJ3).jv, unhide HK3⟩
      | true =>
        rw [if_pos ⟨h1, h2, h3⟩] at hr
        have hC := (unhide HKC) p (d + 1) (c + 1) x al cc W3 S b c' hj3 hz hx3 (unhide HS) (unhide HD).1 (unhide HD).2 hr
        rw [show ((d + 1 : Nat) : Int) = (d : Int) + 1 from rfl] at hC
        have HC := hide hC
        clear hC
        clear hq3 hj3 hx3 hk3 hb3 HFC HKC hr
        go_wp2_with fail
        refine (unhide HC).mono ?_
        rintro e W4 ⟨rfl, r1, r2⟩
        have HR1 := hide r1
        have HK4 := hide ((unhide HK3).andThen r2 (fun _ _ h => h))
        clear r1 r2 HC
        go_wp2_with fail
        go_returns
        exact ⟨rfl, unhide HR1, unhide HK4⟩
    · have n2 : decide ((c : Int) + 1 ≤ (512 : Int)) = false := decide_eq_false (by omega)
      rw [if_neg (by omega)] at hr
      cases hr
      clear hF hK hd hc
      go_enter Tryz.func84, Tryz.ntmps84
      go_wp2_with fail
      go_returns
      exact ⟨rfl, (unhide HJ2).jv, unhide HK2⟩
  · have n1 : decide (((d : Nat) : Int) ≤ (32 : Int)) = false := decide_eq_false (by omega)
    rw [if_neg (by omega)] at hr
    cases hr
    clear hF hK hd hc
    go_enter Tryz.func84, Tryz.ntmps84
    go_wp2_with fail
    go_returns
    exact ⟨rfl, (unhide HJ2).jv, unhide HK2⟩
end Go.Proofs.YthkkfldmoflfaaaGreatDoor
/- xparse's judge: rightKids. -/
namespace Go.Proofs.YthkkfldmoflfaaaGreatDoor
open Go.RowKit Go.Maps
theorem exV.ks {w : World} {S : Nat → Prop} {x : Ex} {v : Value} (h : exV w S x v) : KsV w S x.kids v := h.2
theorem icast_beq (a b : Nat) : (((a : Nat) : Int) == ((b : Nat) : Int)) = (a == b) := by
  rw [Bool.eq_iff_iff, beq_iff_eq, beq_iff_eq]
  omega
theorem icast_ne {a : Nat} {b : Int} (h : (a : Int) ≠ b) : (((a : Nat) : Int) == b) = false := by
  rw [beq_eq_false_iff_ne]
  exact h
theorem icast_eq {a : Nat} {b : Int} (h : (a : Int) = b) : (((a : Nat) : Int) == b) = true := by
  rw [beq_iff_eq]
  exact h
theorem jAll_nil {fl : Ex → Bool} {n d c c' : Nat} {b : Bool} (h : jAll fl n d c [] = some (b, c')) : b = true ∧ c' = c := by
  cases n with
  | zero => rw [jAll] at h; cases h
  | succ n => rw [jAll] at h; cases h; exact ⟨rfl, rfl⟩
theorem kidsN_mk (o a t : Nat) (tt : List Nat) (m : Int) (ks : List Ex) : kidsN (.mk o tt m a t ks) = (if o = 0 ∨ o = 22 ∨ o = 16 ∨ o = 17 ∨ o = 18 then ks.length == 0
  else if o = 19 ∨ o = 23 then true
  else if o = 14 then ks.length == 1
  else if o = 20 then decide (2 ≤ ks.length) && (ks.headD noX).op != 20
  else ks.length == 2) := rfl
theorem jKids_mk (fl : Ex → Bool) (n d c o a t : Nat) (tt : List Nat) (m : Int) (ks : List Ex) : jKids fl (n + 1) d c (.mk o tt m a t ks) = (if o = 21 then jPath fl n d c ks else if kidsN (.mk o tt m a t ks) then jAll fl n d c ks else some (false, c)) := by
  rw [jKids]
  rfl
theorem jkids_leaf {fl : Ex → Bool} {n d c c' o a t : Nat} {b : Bool} {tt : List Nat} {m : Int} {ks : List Ex} (ho : o = 0 ∨ o = 22 ∨ o = 16 ∨ o = 17 ∨ o = 18) (h : jKids fl (n + 1) d c (.mk o tt m a t ks) = some (b, c')) : b = (ks.length == 0) ∧ c' = c := by
  rw [jKids_mk, if_neg (show ¬ o = 21 by omega)] at h
  have e : kidsN (.mk o tt m a t ks) = (ks.length == 0) := by rw [kidsN_mk, if_pos ho]
  rw [e] at h
  cases ks with
  | nil =>
    rw [if_pos (by simp)] at h
    exact jAll_nil h
  | cons k ks =>
    rw [if_neg (by simp)] at h
    cases h
    exact ⟨rfl, rfl⟩
theorem jkids_of {fl : Ex → Bool} {n d c o a t : Nat} {tt : List Nat} {m : Int} {ks : List Ex} (ho : o ≠ 21) (v : Bool) (e : kidsN (.mk o tt m a t ks) = v) : jKids fl (n + 1) d c (.mk o tt m a t ks) = if v then jAll fl n d c ks else some (false, c) := by
  rw [jKids_mk, if_neg ho, e]
theorem kidsN_any {o a t : Nat} {tt : List Nat} {m : Int} {ks : List Ex} (ho : o = 19 ∨ o = 23) : kidsN (.mk o tt m a t ks) = true := by
  rw [kidsN_mk, if_neg (by omega), if_pos ho]
theorem kidsN_neg {a t : Nat} {tt : List Nat} {m : Int} {ks : List Ex} : kidsN (.mk 14 tt m a t ks) = (ks.length == 1) := rfl
theorem kidsN_fil {a t : Nat} {tt : List Nat} {m : Int} {ks : List Ex} : kidsN (.mk 20 tt m a t ks) = (decide (2 ≤ ks.length) && ((ks.headD noX).op != 20)) := rfl
theorem kidsN_two {o a t : Nat} {tt : List Nat} {m : Int} {ks : List Ex} (h : o ≠ 0 ∧ o ≠ 22 ∧ o ≠ 16 ∧ o ≠ 17 ∧ o ≠ 18 ∧ o ≠ 19 ∧ o ≠ 23 ∧ o ≠ 14 ∧ o ≠ 20) : kidsN (.mk o tt m a t ks) = (ks.length == 2) := by
  rw [kidsN_mk, if_neg (by omega), if_neg (by omega), if_neg (by omega), if_neg (by omega)]
/-- The first Kid's Op in memory. -/
theorem KsV.op0 {w : World} {S : Nat → Prop} {ks : List Ex} {v : Value} (h : KsV w S ks v) (hl : 0 < ks.length) : ∃ g o c, v = .slice (some ⟨g, o, none⟩) ks.length c ∧ S g ∧ w.cell? ⟨g, o, none⟩ = some (.int .i64 ((ks.headD noX).op : Nat)) := by
  obtain ⟨ys, h1, h2⟩ := h
  obtain ⟨g, o, c, e, hg, _, hc⟩ := h1.2 hl
  refine ⟨g, o, c, e, hg, ?_⟩
  cases ks with
  | nil => cases hl
  | cons k ks =>
    obtain ⟨xs, h3, h4⟩ := h2.at 0 k rfl
    have h5 : xs[0]? = some (.int .i64 (k.op : Nat)) := by
      cases k
      rw [exIn] at h3
      obtain ⟨_, u, rfl, _⟩ := h3
      rfl
    have := hc 0 _ ((h4 0 (by decide)).trans h5)
    simpa using this
set_option maxRecDepth 100000 in
set_option maxHeartbeats 4000000 in
theorem jkids_step (fl : Ex → Bool) (W0 : World) (n : Nat) (hA : JAllC fl W0 n) (hP : JPathC fl W0 n) : JKidsC fl W0 (n + 1) := by
  intro p d c x al cc w S b c' hj hz hx hS hd hc hr
  obtain ⟨W1, e1⟩ : ∃ W1, w.alloc (oneB x (.slice al x.kids.length cc)) = W1 := ⟨_, rfl⟩
  have hb : Below w.heap.size w W1 := by rw [← e1]; exact (Below.refl _ _).alloc (Nat.le_refl _) _
  have hq1 : W1.heap[w.heap.size]? = some (oneB x (.slice al x.kids.length cc)) := by rw [← e1]; exact palloc_new _ _
  have HJ1 := hide (hj.below hb)
  have hx1 := hx.kept (Kq.of (S := fun _ => False) hb) (fun _ _ _ h => h)
  have HX1 := hide hx1
  have HB := hide hb
  have hZ := smallX.kids hz
  clear hz
  have HA := hide hA
  have HP := hide hP
  obtain ⟨a0, a1, a2, a3, a4, a5, a6⟩ := var_cells hq1
  clear hj hx hq1 hb hA hP hx1
  generalize hq : w.heap.size = q at a0 a1 a2 a3 a4 a5 a6
  have HQW := hide hq
  obtain ⟨o, tt, nm, ax, ts, ks⟩ := x
  simp only [Ex.op, Ex.text, Ex.num, Ex.axis, Ex.test, Ex.kids] at e1 a0 a1 a2 a3 a4 a5 a6 HX1 hZ ⊢
  by_cases hzz : o = 0 ∨ o = 22 ∨ o = 16 ∨ o = 17 ∨ o = 18
  · obtain ⟨hb, hc1⟩ := jkids_leaf hzz hr
    subst hb hc1
    have HN := hide (icast_beq ks.length 0)
    clear hr hS hd hc HX1
    rcases hzz with rfl | rfl | rfl | rfl | rfl
    ·
      go_enter Tryz.func115, Tryz.ntmps115
      go_wp2_with fail
      go_returns
      exact ⟨congrArg (fun b => Ending.returned (.bool b)) (unhide HN), (unhide HJ1).jv, Kq.of (unhide HB)⟩
    ·
      go_enter Tryz.func115, Tryz.ntmps115
      go_wp2_with fail
      go_returns
      exact ⟨congrArg (fun b => Ending.returned (.bool b)) (unhide HN), (unhide HJ1).jv, Kq.of (unhide HB)⟩
    ·
      go_enter Tryz.func115, Tryz.ntmps115
      go_wp2_with fail
      go_returns
      exact ⟨congrArg (fun b => Ending.returned (.bool b)) (unhide HN), (unhide HJ1).jv, Kq.of (unhide HB)⟩
    ·
      go_enter Tryz.func115, Tryz.ntmps115
      go_wp2_with fail
      go_returns
      exact ⟨congrArg (fun b => Ending.returned (.bool b)) (unhide HN), (unhide HJ1).jv, Kq.of (unhide HB)⟩
    ·
      go_enter Tryz.func115, Tryz.ntmps115
      go_wp2_with fail
      go_returns
      exact ⟨congrArg (fun b => Ending.returned (.bool b)) (unhide HN), (unhide HJ1).jv, Kq.of (unhide HB)⟩
  · by_cases h21 : o = 21
    · subst h21
      rw [jKids_mk, if_pos rfl] at hr
      have HC := hide ((unhide HP) p d c ks al cc W1 S b c' (unhide HJ1) hZ (unhide HX1).ks hS hd hc hr)
      clear hS hd hc hr HX1 hZ
      go_enter Tryz.func115, Tryz.ntmps115
      go_wp2_with fail
      refine (unhide HC).mono ?_
      rintro e W2 ⟨rfl, r1, r2⟩
      have HR1 := hide r1
      have HK2 := hide ((Kq.of (S := fun j => j = p) (unhide HB)).andThen r2 (fun _ _ h => h))
      clear r1 r2 HC
      go_wp2_with fail
      go_returns
      exact ⟨rfl, unhide HR1, unhide HK2⟩
    · rw [jkids_of h21 _ rfl] at hr
      by_cases h19 : o = 19 ∨ o = 23
      · rw [kidsN_any h19, if_pos rfl] at hr
        rcases h19 with rfl | rfl
        ·
          have HC := hide ((unhide HA) p d c ks al cc W1 S b c' (unhide HJ1) hZ (unhide HX1).ks hS hd hc hr)
          clear hS hd hc hr HX1 hZ
          go_enter Tryz.func115, Tryz.ntmps115
          go_wp2_with fail
          refine (unhide HC).mono ?_
          rintro e W2 ⟨rfl, r1, r2⟩
          have HR1 := hide r1
          have HK2 := hide ((Kq.of (S := fun j => j = p) (unhide HB)).andThen r2 (fun _ _ h => h))
          clear r1 r2 HC
          go_wp2_with fail
          go_returns
          exact ⟨rfl, unhide HR1, unhide HK2⟩
        ·
          have HC := hide ((unhide HA) p d c ks al cc W1 S b c' (unhide HJ1) hZ (unhide HX1).ks hS hd hc hr)
          clear hS hd hc hr HX1 hZ
          go_enter Tryz.func115, Tryz.ntmps115
          go_wp2_with fail
          refine (unhide HC).mono ?_
          rintro e W2 ⟨rfl, r1, r2⟩
          have HR1 := hide r1
          have HK2 := hide ((Kq.of (S := fun j => j = p) (unhide HB)).andThen r2 (fun _ _ h => h))
          clear r1 r2 HC
          go_wp2_with fail
          go_returns
          exact ⟨rfl, unhide HR1, unhide HK2⟩
      · by_cases h14 : o = 14
        · subst h14
          rw [kidsN_neg] at hr
          by_cases hl : ks.length = 1
          · rw [show (ks.length == 1) = true from by simp [hl], if_pos rfl] at hr
            have n1 : (((ks.length : Nat) : Int) != 1) = false := by rw [hl]; rfl
            have HC := hide ((unhide HA) p d c ks al cc W1 S b c' (unhide HJ1) hZ (unhide HX1).ks hS hd hc hr)
            clear hS hd hc hr HX1 hZ
            clear hl
            go_enter Tryz.func115, Tryz.ntmps115
            go_wp2_with fail
            refine (unhide HC).mono ?_
            rintro e W2 ⟨rfl, r1, r2⟩
            have HR1 := hide r1
            have HK2 := hide ((Kq.of (S := fun j => j = p) (unhide HB)).andThen r2 (fun _ _ h => h))
            clear r1 r2 HC
            go_wp2_with fail
            go_returns
            exact ⟨rfl, unhide HR1, unhide HK2⟩
          · rw [show (ks.length == 1) = false from by simpa using hl, if_neg (by decide)] at hr
            cases hr
            have n1 : (((ks.length : Nat) : Int) != 1) = true := by unfold bne; rw [icast_ne (by omega)]; rfl
            clear hl hS HX1
            go_enter Tryz.func115, Tryz.ntmps115
            go_wp2_with fail
            go_returns
            exact ⟨rfl, (unhide HJ1).jv, Kq.of (unhide HB)⟩
        · by_cases h20 : o = 20
          · subst h20
            rw [kidsN_fil] at hr
            by_cases hl : 2 ≤ ks.length
            · have n1 : decide (((ks.length : Nat) : Int) < 2) = false := decide_eq_false (by omega)
              obtain ⟨g, og, cg, ev, hg, hcell⟩ := (show KsV W1 S ks (.slice al ks.length cc) from (unhide HX1).ks).op0 (by omega)
              rw [show decide (2 ≤ ks.length) = true from decide_eq_true hl, Bool.true_and] at hr
              cases ev
              have n3 : (0 : Int) < ((ks.length : Nat) : Int) := by omega
              have HR := hide hr
              clear hr
              generalize hk0 : (ks.headD noX).op = k0 at hcell
              have HK0 := hide hk0
              clear hk0 hg
              by_cases h0 : k0 = 20
              · have hr := unhide HR
                rw [unhide HK0, show (k0 != 20) = false from by simp [h0], if_neg (by decide)] at hr
                cases hr
                have n2 : (((k0 : Nat) : Int) == 20) = true := icast_eq (by omega)
                clear hl hS HX1 h0
                go_enter Tryz.func115, Tryz.ntmps115
                go_wp2_with fail
                go_returns
                exact ⟨rfl, (unhide HJ1).jv, Kq.of (unhide HB)⟩
              · have hr := unhide HR
                rw [unhide HK0, show (k0 != 20) = true from by simp [h0], if_pos rfl] at hr
                have n2 : (((k0 : Nat) : Int) == 20) = false := icast_ne (by omega)
                have HC := hide ((unhide HA) p d c ks _ cc W1 S b c' (unhide HJ1) hZ (unhide HX1).ks hS hd hc hr)
                clear hS hd hc hr HX1 hZ
                clear hl h0
                go_enter Tryz.func115, Tryz.ntmps115
                go_wp2_with fail
                refine (unhide HC).mono ?_
                rintro e W2 ⟨rfl, r1, r2⟩
                have HR1 := hide r1
                have HK2 := hide ((Kq.of (S := fun j => j = p) (unhide HB)).andThen r2 (fun _ _ h => h))
                clear r1 r2 HC
                go_wp2_with fail
                go_returns
                exact ⟨rfl, unhide HR1, unhide HK2⟩
            · have n1 : decide (((ks.length : Nat) : Int) < 2) = true := decide_eq_true (by omega)
              rw [show decide (2 ≤ ks.length) = false from decide_eq_false hl, Bool.false_and, if_neg (by decide)] at hr
              cases hr
              clear hl hS HX1
              go_enter Tryz.func115, Tryz.ntmps115
              go_wp2_with fail
              go_returns
              exact ⟨rfl, (unhide HJ1).jv, Kq.of (unhide HB)⟩
          · rw [kidsN_two (by omega)] at hr
            have m0 : (((o : Nat) : Int) == 0) = false := icast_ne (by omega)
            have m22 : (((o : Nat) : Int) == 22) = false := icast_ne (by omega)
            have m16 : (((o : Nat) : Int) == 16) = false := icast_ne (by omega)
            have m17 : (((o : Nat) : Int) == 17) = false := icast_ne (by omega)
            have m18 : (((o : Nat) : Int) == 18) = false := icast_ne (by omega)
            have m21 : (((o : Nat) : Int) == 21) = false := icast_ne (by omega)
            have m19 : (((o : Nat) : Int) == 19) = false := icast_ne (by omega)
            have m23 : (((o : Nat) : Int) == 23) = false := icast_ne (by omega)
            have m14 : (((o : Nat) : Int) == 14) = false := icast_ne (by omega)
            have m20 : (((o : Nat) : Int) == 20) = false := icast_ne (by omega)
            clear hzz h21 h19 h14 h20
            by_cases hl : ks.length = 2
            · rw [show (ks.length == 2) = true from by simp [hl], if_pos rfl] at hr
              have n1 : (((ks.length : Nat) : Int) != 2) = false := by rw [hl]; rfl
              have HC := hide ((unhide HA) p d c ks al cc W1 S b c' (unhide HJ1) hZ (unhide HX1).ks hS hd hc hr)
              clear hS hd hc hr HX1 hZ
              clear hl
              go_enter Tryz.func115, Tryz.ntmps115
              go_wp2_with fail
              refine (unhide HC).mono ?_
              rintro e W2 ⟨rfl, r1, r2⟩
              have HR1 := hide r1
              have HK2 := hide ((Kq.of (S := fun j => j = p) (unhide HB)).andThen r2 (fun _ _ h => h))
              clear r1 r2 HC
              go_wp2_with fail
              go_returns
              exact ⟨rfl, unhide HR1, unhide HK2⟩
            · rw [show (ks.length == 2) = false from by simpa using hl, if_neg (by decide)] at hr
              cases hr
              have n1 : (((ks.length : Nat) : Int) != 2) = true := by unfold bne; rw [icast_ne (by omega)]; rfl
              clear hl hS HX1
              go_enter Tryz.func115, Tryz.ntmps115
              go_wp2_with fail
              go_returns
              exact ⟨rfl, (unhide HJ1).jv, Kq.of (unhide HB)⟩
end Go.Proofs.YthkkfldmoflfaaaGreatDoor
