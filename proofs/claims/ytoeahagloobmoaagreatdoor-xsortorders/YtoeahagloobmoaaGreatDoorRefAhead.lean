/- The reference's rows of keys, compared: stencilref13's key and ahead. -/
import Derived.Test.YtoeahagloobmoaaGreatDoorKeyGo
import Derived.Test.YtoeahagloobmoaaGreatDoorNumRefs
import Derived.Test.YtoeahagloobmoaaGreatDoorStabGo
import Derived.Test.YtoeahagloobmoaaGreatDoorPermPlain
namespace Go.Proofs.YtoeahagloobmoaaGreatDoor
open Go.RowKit
set_option maxRecDepth 100000 in
set_option maxHeartbeats 2000000 in
theorem refKey_in (b cap n i : Nat) (x : KeyD) (w : World) (h : KeyAt w b (i * 5) x) (hi : i < n) :
    Calls Tryz.prog 19 #[.slice (some ⟨b, 0, none⟩) n cap, .int .i64 (i : Int)] w fun e w' => e = .returned x.val ∧ Below w.heap.size w w' := by
  have hA : ∀ o, KeyAt (w.alloc o) b (i * 5) x := fun o => h.below ((Below.refl _ w).alloc (Nat.le_refl _) o)
  have d0 := fun o => (hA o).c0
  have d1 := fun o => (hA o).c1
  have d2 := fun o => (hA o).c2
  have d3 := fun o => (hA o).c3
  have d4 := fun o => (hA o).c4
  have hi' : (i : Int) < (n : Int) := by omega
  clear hA h
  unfold KeyD.val keyV
  go_enter Tryz.func19, Tryz.ntmps19
  go_wp2_with fail
  go_returns
  exact ⟨rfl, (Below.refl _ w).alloc (Nat.le_refl _) _⟩
set_option maxRecDepth 100000 in
set_option maxHeartbeats 2000000 in
theorem refKey_out (a : Option Addr) (cap n i : Nat) (w : World) (hi : ¬ i < n) :
    Calls Tryz.prog 19 #[.slice a n cap, .int .i64 (i : Int)] w fun e w' => e = .returned keyZ.val ∧ Below w.heap.size w w' := by
  have hi' : ¬ (i : Int) < (n : Int) := by omega
  unfold KeyD.val keyV keyZ
  go_enter Tryz.func19, Tryz.ntmps19
  go_wp2_with fail
  go_returns
  exact ⟨rfl, by go_grown⟩
theorem refKey_any (v : Value) (l : List KeyD) (i : Nat) (w : World) (h : RowKey w v l) :
    Calls Tryz.prog 19 #[v, .int .i64 (i : Int)] w fun e w' => e = .returned (keyG l i).val ∧ Below w.heap.size w w' := by
  rcases h with ⟨rfl, a, c, rfl⟩ | ⟨b, cap, rfl, h⟩
  · exact refKey_out a c 0 i w (by omega)
  · by_cases hi : i < l.length
    · have e : l[i]? = some (keyG l i) := by
        unfold keyG
        rw [List.getD_eq_getElem?_getD, List.getElem?_eq_getElem hi]
        rfl
      exact refKey_in b cap l.length i (keyG l i) w (h i _ e) hi
    · have e : keyG l i = keyZ := by
        unfold keyG
        rw [List.getD_eq_getElem?_getD, List.getElem?_eq_none (by omega)]
        rfl
      rw [e]
      exact refKey_out _ cap l.length i w hi
theorem rless_key {k v l u : Int} (h1 : rightB k v = true) (h2 : rightB l u = true) : rless k v l u = decide (keyN k v < keyN l u) := by
  unfold rless
  rcases right_cases h1 with ⟨rfl, a1, a2⟩ | ⟨rfl, rfl⟩ | ⟨rfl, rfl⟩ | ⟨rfl, rfl⟩ <;> rcases right_cases h2 with ⟨rfl, b1, b2⟩ | ⟨rfl, rfl⟩ | ⟨rfl, rfl⟩ | ⟨rfl, rfl⟩
  all_goals simp [rrank, keyN]
  all_goals (try omega)
theorem cmpFrom_next (lh la lb : List KeyD) (i : Nat) (h : i < lh.length) : cmpFrom lh la lb i (lh.length - i) = thenC (cmpKey (keyG lh i) (keyG la i) (keyG lb i)) (cmpFrom lh la lb (i + 1) (lh.length - (i + 1))) := by
  obtain ⟨f, hf⟩ : ∃ f, lh.length - i = f + 1 := ⟨lh.length - i - 1, by omega⟩
  rw [hf, show lh.length - (i + 1) = f by omega]
  rfl
/-- Two keys, the way round that a third one says. -/
def ordA (h a b : KeyD) : KeyD := if h.down then b else a
def ordB (h a b : KeyD) : KeyD := if h.down then a else b
theorem cmpKey_ord (h a b : KeyD) : cmpKey h a b = if h.num then cmpN (keyN (ordA h a b).k (ordA h a b).v) (keyN (ordB h a b).k (ordB h a b).v) else Lib.compareBytes (ordA h a b).t.data.toList (ordB h a b).t.data.toList := by
  unfold cmpKey ordA ordB
  cases h.down <;> rfl
theorem less_bytes : ∀ (a b : List UInt8), Op.bytesLess a b = decide (Lib.compareBytes a b < 0)
  | [], [] => by simp [Op.bytesLess, Lib.compareBytes]
  | [], _ :: _ => by simp [Op.bytesLess, Lib.compareBytes]
  | _ :: _, [] => by simp [Op.bytesLess, Lib.compareBytes]
  | x :: a, y :: b => by
    have ih := less_bytes a b
    simp only [Op.bytesLess, Lib.compareBytes]
    by_cases h1 : x < y
    · simp [h1]
    · by_cases h2 : y < x
      · have hne : (x == y) = false := by
          refine beq_eq_false_iff_ne.2 fun e => ?_
          subst e
          exact h1 h2
        simp [h1, h2, hne]
      · have he : x = y := by
          apply UInt8.toNat_inj.1
          rw [UInt8.lt_iff_toNat_lt] at h1 h2
          omega
        subst he
        simp [h1, ih]
/-- A key's variable that may be written. -/
structure KeyO (w : World) (b : Nat) : Prop where
  c0 : w.cell? ⟨b, 0, none⟩ = some (.bool false)
  c1 : w.cell? ⟨b, 1, none⟩ = some (.bool false)
  c2 : w.cell? ⟨b, 2, none⟩ = some (.string ⟨#[]⟩)
  c3 : w.cell? ⟨b, 3, none⟩ = some (.int .i64 0)
  c4 : w.cell? ⟨b, 4, none⟩ = some (.int .i64 0)
  o0 : w.frozen? ⟨b, 0, none⟩ = false
  o1 : w.frozen? ⟨b, 1, none⟩ = false
  o2 : w.frozen? ⟨b, 2, none⟩ = false
  o3 : w.frozen? ⟨b, 3, none⟩ = false
  o4 : w.frozen? ⟨b, 4, none⟩ = false
theorem KeyO.below {w w' : World} {b : Nat} (h : KeyO w b) (hb : Below w.heap.size w w') : KeyO w' b :=
  ⟨kept_cell hb h.c0, kept_cell hb h.c1, kept_cell hb h.c2, kept_cell hb h.c3, kept_cell hb h.c4, kept_open hb h.c0 h.o0, kept_open hb h.c1 h.o1, kept_open hb h.c2 h.o2, kept_open hb h.c3 h.o3, kept_open hb h.c4 h.o4⟩
theorem keyO_new (w : World) (ty : Nat) : KeyO (w.alloc (.cells #[.bool false, .bool false, .string ⟨#[]⟩, .int .i64 0, .int .i64 0] ty)) w.heap.size := by
  constructor <;> simp [go_sem]
set_option maxRecDepth 100000 in
set_option maxHeartbeats 4000000 in
theorem ahead_any (vh va vb : Value) (lh la lb : List KeyD) (w : World) (hh : RowKey w vh lh) (ha : RowKey w va la) (hb : RowKey w vb lb) (ra : rightL la) (rb : rightL lb) (hn : lh.length ≤ 1000) :
    Calls Tryz.prog 14 #[vh, va, vb] w fun e w' => e = .returned (.bool (decide (cmpRow lh la lb < 0))) ∧ Below w.heap.size w w' := by
  rcases hh with ⟨rfl, a, c, rfl⟩ | ⟨b, cap, rfl, hh⟩
  · go_enter Tryz.func14, Tryz.ntmps14
    go_wp2_with fail
    refine wp_loop_rounds 1 ?_
    rw [rounds_succ]
    go_wp2_with fail
    go_ret
    exact ⟨rfl, by go_grown⟩
  · have HH := hide hh
    have HA := hide ha
    have HB := hide hb
    have HRA := hide ra
    have HRB := hide rb
    clear hh ha hb ra rb
    go_enter Tryz.func14, Tryz.ntmps14
    go_wp2_with fail
    go_loopw [7] (fun v wr => ∃ i : Nat, v = .int .i64 (i : Int) ∧ i ≤ lh.length ∧ Below w.heap.size w wr ∧ Hid (cmpRow lh la lb = cmpFrom lh la lb i (lh.length - i))) (fun v _ => lh.length - vNat v)
    case atStart => exact ⟨0, rfl, Nat.zero_le _, by go_grown, hide rfl⟩
    case round =>
      obtain ⟨i, rfl, hi, hbr, hR⟩ := hrel
      by_cases hlt : i < lh.length
      · have hlt' : (i : Int) < (lh.length : Int) := by omega
        have e : lh[i]? = some (keyG lh i) := by
          unfold keyG
          rw [List.getD_eq_getElem?_getD, List.getElem?_eq_getElem hlt]
          rfl
        have HKH := hide (unhide HH i _ e)
        have HS := hide (cmpFrom_next lh la lb i hlt)
        have Hra := hide ((unhide HRA).at i)
        have Hrb := hide ((unhide HRB).at i)
        have HKA := hide (fun u (hu : RowKey u va la) => refKey_any va la i u hu)
        have HKB := hide (fun u (hu : RowKey u vb lb) => refKey_any vb lb i u hu)
        have HBR := hide hbr
        have HLT := hide hlt
        clear e hlt hbr
        generalize keyG lh i = x at *
        generalize keyG la i = ka at *
        generalize keyG lb i = kb at *
        go_wp2_with fail
        refine (unhide HKA _ ((unhide HA).below (unhide HBR))).mono ?_
        rintro e w1 ⟨rfl, hb1⟩
        have HB1 := hide (Below.then (unhide HBR) hb1)
        clear hb1
        unfold KeyD.val keyV
        go_wp2_with fail
        refine (unhide HKB _ ((unhide HB).below (unhide HB1))).mono ?_
        rintro e w2 ⟨rfl, hb2⟩
        have hb2' := Below.then (unhide HB1) hb2
        have HB2 := hide hb2'
        obtain ⟨c0, c1, c2, c3, c4⟩ := (unhide HKH).below hb2'
        have hbl : b < w2.heap.size := block_lt_of_cell c0
        clear hb2 hb2'
        unfold KeyD.val keyV
        go_upto_if 26 with fail
        go_cut [7] (fun v wx => v = .int .i64 (i : Int) ∧ KeyAt wx w2.heap.size 0 (ordA x ka kb) ∧ KeyAt wx (w2.heap.size + 1) 0 (ordB x ka kb) ∧ Below w2.heap.size w2 wx)
        case first =>
          have eA : ordA x ka kb = if x.down then kb else ka := rfl
          have eB : ordB x ka kb = if x.down then ka else kb := rfl
          have HEA := hide eA
          have HEB := hide eB
          clear eA eB
          cases hd : x.down with
          | false =>
            go_wp2_with fail
            go_meet
            rw [unhide HEA, unhide HEB, hd, if_neg (by simp), if_neg (by simp)]
            refine ⟨rfl, (keyAt_new w2 ka _).below ((Below.refl _ _).alloc (Nat.le_refl _) _), ?_, ((Below.refl _ _).alloc (Nat.le_refl _) _).alloc (by simp) _⟩
            constructor <;> simp [go_sem]
          | true =>
            go_wp2_with fail
            go_meet
            rw [unhide HEA, unhide HEB, hd, if_pos rfl, if_pos rfl]
            refine ⟨rfl, ?_, ?_, ?_⟩
            · constructor <;> simp [go_sem]
            · constructor <;> simp [go_sem]
            · (repeat first | exact Below.refl _ _ | refine Below.setCell ?_ (by simp) _ | refine Below.alloc ?_ (by simp) _)
        case rest =>
          obtain ⟨rfl, hkx, hky, hbc⟩ := hcut
          obtain ⟨c0, c1, c2, c3, c4⟩ := (unhide HKH).below (Below.then (unhide HB2) hbc)
          have HBC := hide (Below.then (unhide HB2) hbc)
          have HCO := hide (cmpKey_ord x ka kb)
          have Hro : Hid ((ordA x ka kb).right ∧ (ordB x ka kb).right) := hide (by
            unfold ordA ordB
            cases x.down
            · exact ⟨unhide Hra, unhide Hrb⟩
            · exact ⟨unhide Hrb, unhide Hra⟩)
          clear hbc hbl
          generalize ordA x ka kb = A at *
          generalize ordB x ka kb = B at *
          have HM := hide (show lh.length - (((i + 1 : Nat) : Int)).toNat < lh.length - ((i : Nat) : Int).toNat by rw [Int.toNat_natCast, Int.toNat_natCast]; exact Nat.sub_lt_sub_left (unhide HLT) (Nat.lt_succ_self i))
          have HE1 := hide (show (i : Int) + 1 = ((i + 1 : Nat) : Int) by omega)
          have HKX := hide hkx
          have HKY := hide hky
          obtain ⟨p0, p1, p2, p3, p4⟩ := hkx
          obtain ⟨q0, q1, q2, q3, q4⟩ := hky
          simp only [Nat.zero_add] at p0 p1 p2 p3 p4 q0 q1 q2 q3 q4
          cases hnum : x.num with
          | true =>
            rw [hnum] at c0 HCO
            have HL1 := hide (fun w => refLess_any A.k A.v B.k B.v w)
            have HL2 := hide (fun w => refLess_any B.k B.v A.k A.v w)
            rw [rless_key (unhide Hro).1 (unhide Hro).2] at HL1
            rw [rless_key (unhide Hro).2 (unhide Hro).1] at HL2
            have HC2 := hide ((unhide HCO).trans (if_pos rfl))
            clear HCO hnum
            unfold cmpN at HC2
            generalize keyN A.k A.v = ya at *
            generalize keyN B.k B.v = yb at *
            by_cases d1 : ya < yb
            · rw [if_pos d1] at HC2
              rw [decide_eq_true d1] at HL1
              have HV := hide (show decide (cmpRow lh la lb < 0) = true by
                rw [unhide hR, unhide HS, unhide HC2]
                rfl)
              clear d1 HL2
              go_wp2_with fail
              refine (unhide HL1 _).mono ?_
              rintro e w5 ⟨rfl, hb5⟩
              go_wp2_with fail
              go_ret
              exact ⟨ret_bool (unhide HV).symm, Below.then (unhide HBC) hb5⟩
            · rw [if_neg d1] at HC2
              rw [decide_eq_false d1] at HL1
              clear d1
              go_wp2_with fail
              refine (unhide HL1 _).mono ?_
              rintro e w5 ⟨rfl, hb5⟩
              obtain ⟨s0, s1, s2, s3, s4⟩ := (unhide HKX).below hb5
              obtain ⟨t0, t1, t2, t3, t4⟩ := (unhide HKY).below hb5
              simp only [Nat.zero_add] at s0 s1 s2 s3 s4 t0 t1 t2 t3 t4
              have HB5 := hide (Below.then (unhide HBC) hb5)
              clear hb5 p0 p1 p2 p3 p4 q0 q1 q2 q3 q4 c0 c1 c2 c3 c4
              by_cases d2 : yb < ya
              · rw [if_pos d2] at HC2
                rw [decide_eq_true d2] at HL2
                have HV := hide (show decide (cmpRow lh la lb < 0) = false by
                  rw [unhide hR, unhide HS, unhide HC2]
                  rfl)
                clear d2
                go_wp2_with fail
                refine (unhide HL2 _).mono ?_
                rintro e w6 ⟨rfl, hb6⟩
                go_wp2_with fail
                go_ret
                exact ⟨ret_bool (unhide HV).symm, Below.then (unhide HB5) hb6⟩
              · rw [if_neg d2] at HC2
                rw [decide_eq_false d2] at HL2
                have HR2 := hide (show cmpRow lh la lb = cmpFrom lh la lb (i + 1) (lh.length - (i + 1)) by
                  rw [unhide hR, unhide HS, unhide HC2]
                  rfl)
                clear d2
                go_wp2_with fail
                refine (unhide HL2 _).mono ?_
                rintro e w6 ⟨rfl, hb6⟩
                have HB6 := hide (Below.then (unhide HB5) hb6)
                clear hb6 s0 s1 s2 s3 s4 t0 t1 t2 t3 t4
                go_wp2_with fail
                refine ⟨⟨i + 1, ?_, unhide HLT, unhide HB6, HR2⟩, ?_⟩
                · first | (rw [unhide HE1]) | rfl
                · first | (rw [unhide HE1]; exact unhide HM) | exact unhide HM
          | false =>
            rw [hnum] at c0 HCO
            have HC2 := hide ((unhide HCO).trans (if_neg (by simp)))
            clear HCO hnum
            cases he : (A.t.toList == B.t.toList) with
            | true =>
              have HR2 := hide (show cmpRow lh la lb = cmpFrom lh la lb (i + 1) (lh.length - (i + 1)) by
                have e : A.t.data.toList = B.t.data.toList := by
                  rw [ByteArray.toList_eq, ByteArray.toList_eq] at he
                  simpa using he
                rw [unhide hR, unhide HS, unhide HC2, e, bytes_self]
                rfl)
              go_wp2_with fail
              refine ⟨⟨i + 1, ?_, unhide HLT, unhide HBC, HR2⟩, ?_⟩
              · first | (rw [unhide HE1]) | rfl
              · first | (rw [unhide HE1]; exact unhide HM) | exact unhide HM
            | false =>
              have HV := hide (show decide (cmpRow lh la lb < 0) = Op.bytesLess A.t.toList B.t.toList by
                rw [less_bytes, ByteArray.toList_eq, ByteArray.toList_eq]
                have e : ¬ Lib.compareBytes A.t.data.toList B.t.data.toList = 0 := fun h => by
                  rw [ByteArray.toList_eq, ByteArray.toList_eq, bytes_zero _ _ h] at he
                  simp at he
                rw [unhide hR, unhide HS, unhide HC2]
                unfold thenC
                rw [if_neg e])
              go_wp2_with fail
              go_ret
              exact ⟨ret_bool (unhide HV).symm, unhide HBC⟩
      · have hlt' : ¬ (i : Int) < (lh.length : Int) := by omega
        have HR2 := hide (show decide (cmpRow lh la lb < 0) = false by
          rw [unhide hR, show lh.length - i = 0 by omega]
          rfl)
        go_wp2_with fail
        go_ret
        exact ⟨ret_bool (unhide HR2).symm, hbr⟩
end Go.Proofs.YtoeahagloobmoaaGreatDoor
