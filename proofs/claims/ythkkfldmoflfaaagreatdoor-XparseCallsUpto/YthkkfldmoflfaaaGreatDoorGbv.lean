/- Several texts, laid as one. -/
import Derived.Test.YthkkfldmoflfaaaGreatDoorGax
import Derived.Test.YthkkfldmoflfaaaGreatDoorGbu
/- A number as a text: xnum's Text. -/
namespace Go.Proofs.YthkkfldmoflfaaaGreatDoor
open Go.RowKit
theorem app_nil (D : ByteArray) : D ++ (⟨#[]⟩ : ByteArray) = D := by
  apply ByteArray.ext
  rw [ByteArray.data_append]
  simp
theorem nil_app (D : ByteArray) : (⟨#[]⟩ : ByteArray) ++ D = D := by
  apply ByteArray.ext
  rw [ByteArray.data_append]
  simp
set_option maxRecDepth 100000 in
set_option maxHeartbeats 2000000 in
theorem text_fin (v : Int) (w : World) (htab : Lib.TabIs Tryz.prog w "internal/strconv.uint64pow10" .u64 Lib.pow10Tab) (h1 : -1000000000000000000 ≤ v) (h2 : v ≤ 1000000000000000000) :
    Calls Tryz.prog 52 #[.agg #[.int .i64 0, .int .i64 v]] w fun e w' => e = .returned (.string ⟨(textL (decide (v < 0)) (v.natAbs / 1000000) (v.natAbs % 1000000)).toArray⟩) ∧ Below w.heap.size w w' := by
  have HT := hide htab
  clear htab
  have HV := hide (fun w => sizeOf_any v w (by omega) (by omega))
  have HQ := hide (fun w => (quotient_any v.natAbs 1000000 w (by omega) (by decide) (by decide)).mono (R' := fun e w' => e = .returned (.agg #[.int .u64 ((v.natAbs / 1000000 : Nat) : Int), .int .u64 ((v.natAbs % 1000000 : Nat) : Int)]) ∧ Below w.heap.size w w') (by rintro e w' ⟨rfl, rfl⟩; exact ⟨rfl, by (repeat first | exact Below.refl _ _ | assumption | refine Below.drew ?_ | refine Below.alloc ?_ (by simp <;> omega) _ | refine Below.setCell ?_ (by simp <;> omega) _)⟩))
  have hq : v.natAbs / 1000000 < 18446744073709551616 := by omega
  have hm : v.natAbs % 1000000 < 1000000 := by omega
  have HB := hide (show belowB 0 v = decide (v < 0) by simp [belowB])
  have hqs : v.natAbs / 1000000 < 10 ^ 13 := by omega
  generalize v.natAbs / 1000000 = q at *
  generalize v.natAbs % 1000000 = m at *
  generalize v.natAbs = va at *
  have hds : (⟨(Lib.decDigits q).toArray⟩ : ByteArray).size ≤ 1000 := by
    have := dec_len 12 q hqs
    show (Lib.decDigits q).toArray.size ≤ _
    simp
    omega
  have hps : (⟨(placesL m).toArray⟩ : ByteArray).size ≤ 1000 := by
    have := (places_all m hm).2.1
    show (placesL m).toArray.size ≤ _
    simp
    omega
  have hPl : (⟨(placesL m).toArray⟩ : ByteArray).toList = placesL m := by rw [ByteArray.toList_eq]
  have HF := hide (fun w h => formatUint_any q hq w h)
  have HPO := hide (fun w h => placesOf_any m w (by omega) h)
  have HTX := hide (show (⟨(textL (decide (v < 0)) q m).toArray⟩ : ByteArray) = (if v < 0 then (⟨#[45]⟩ : ByteArray) else ⟨#[]⟩) ++ ((⟨(Lib.decDigits q).toArray⟩ : ByteArray) ++ (if placesL m = [] then (⟨#[]⟩ : ByteArray) else ⟨#[46]⟩ ++ ⟨(placesL m).toArray⟩)) by
    apply ByteArray.ext
    unfold textL bodyL tailL
    by_cases h3 : v < 0 <;> by_cases h4 : placesL m = [] <;> simp [h3, h4])
  by_cases h4 : placesL m = []
  · rw [if_pos h4] at HTX
    rw [h4] at hPl HPO
    clear h4
    generalize (⟨(Lib.decDigits q).toArray⟩ : ByteArray) = D at *
    generalize (⟨(textL (decide (v < 0)) q m).toArray⟩ : ByteArray) = X at *
    go_enter Tryz.func52, Tryz.ntmps52
    go_wp2_with fail
    refine (unhide HV _).mono ?_
    rintro e w1 ⟨rfl, rfl⟩
    go_wp2_with fail
    refine (unhide HQ _).mono ?_
    rintro e w1 ⟨rfl, hb1⟩
    have hN : NumAt w1 w.heap.size 0 v := NumAt.below (w := (w.alloc (.cells #[.int .i64 0, .int .i64 v] 27))) ⟨by simp [go_sem], by simp [go_sem], by simp [go_sem], by simp [go_sem]⟩ hb1
    have hb01 : Below w.heap.size w w1 := Below.then (by (repeat first | exact Below.refl _ _ | assumption | refine Below.drew ?_ | refine Below.alloc ?_ (by simp <;> omega) _ | refine Below.setCell ?_ (by simp <;> omega) _)) hb1
    clear hb1
    go_wp2_with fail
    have hX : Below w.heap.size w (w1.alloc (.cells #[.int .u64 (q : Int), .int .u64 (m : Int)] 126)) := hb01.alloc hb01.size _
    have hNX : NumAt (w1.alloc (.cells #[.int .u64 (q : Int), .int .u64 (m : Int)] 126)) w.heap.size 0 v := hN.below (by (repeat first | exact Below.refl _ _ | assumption | refine Below.drew ?_ | refine Below.alloc ?_ (by simp <;> omega) _ | refine Below.setCell ?_ (by simp <;> omega) _))
    have d1 : (w1.alloc (.cells #[.int .u64 (q : Int), .int .u64 (m : Int)] 126)).cell? ⟨w1.heap.size, 1, none⟩ = some (.int .u64 (m : Int)) := by simp [go_sem]
    refine (unhide HF _ (tab_below (unhide HT) hX)).mono ?_
    rintro e w2 ⟨rfl, hb2⟩
    have hb02 := Below.then hX hb2
    have hN2 := hNX.below hb2
    have d2 := kept_cell hb2 d1
    clear hX hNX d1 hb2 hb01 hN
    go_wp2_with fail
    refine (unhide HPO _ (tab_below (unhide HT) hb02)).mono ?_
    rintro e w3 ⟨rfl, hb3⟩
    have hb03 := Below.then hb02 hb3
    obtain ⟨a0, a1, _, _⟩ := hN2.below hb3
    clear hb02 hb3 hN2 d2 HF HPO HT HV HQ
    by_cases hv : v < 0
    · have hbv : belowB 0 v = true := by rw [unhide HB]; exact decide_eq_true hv
      rw [if_pos hv] at HTX
      go_wp2_with (go_at_call 91; refine (isBelow_any _ _ _).mono ?_; rintro e w' ⟨rfl, rfl⟩; rw [hbv])
      go_ret
      exact ⟨by rw [unhide HTX]; rw [app_nil]; rfl, hb03.alloc hb03.size _⟩
    · have hbv : belowB 0 v = false := by rw [unhide HB]; exact decide_eq_false hv
      rw [if_neg hv] at HTX
      go_wp2_with (go_at_call 91; refine (isBelow_any _ _ _).mono ?_; rintro e w' ⟨rfl, rfl⟩; rw [hbv])
      go_ret
      exact ⟨by rw [unhide HTX]; rw [app_nil, nil_app]; rfl, hb03.alloc hb03.size _⟩
  · rw [if_neg h4] at HTX
    have hne : (⟨(placesL m).toArray⟩ : ByteArray).toList.isEmpty = false := by rw [hPl]; simpa using h4
    clear h4 hPl
    generalize (⟨(placesL m).toArray⟩ : ByteArray) = P at *
    generalize (⟨(Lib.decDigits q).toArray⟩ : ByteArray) = D at *
    generalize (⟨(textL (decide (v < 0)) q m).toArray⟩ : ByteArray) = X at *
    go_enter Tryz.func52, Tryz.ntmps52
    go_wp2_with fail
    refine (unhide HV _).mono ?_
    rintro e w1 ⟨rfl, rfl⟩
    go_wp2_with fail
    refine (unhide HQ _).mono ?_
    rintro e w1 ⟨rfl, hb1⟩
    have hN : NumAt w1 w.heap.size 0 v := NumAt.below (w := (w.alloc (.cells #[.int .i64 0, .int .i64 v] 27))) ⟨by simp [go_sem], by simp [go_sem], by simp [go_sem], by simp [go_sem]⟩ hb1
    have hb01 : Below w.heap.size w w1 := Below.then (by (repeat first | exact Below.refl _ _ | assumption | refine Below.drew ?_ | refine Below.alloc ?_ (by simp <;> omega) _ | refine Below.setCell ?_ (by simp <;> omega) _)) hb1
    clear hb1
    go_wp2_with fail
    have hX : Below w.heap.size w (w1.alloc (.cells #[.int .u64 (q : Int), .int .u64 (m : Int)] 126)) := hb01.alloc hb01.size _
    have hNX : NumAt (w1.alloc (.cells #[.int .u64 (q : Int), .int .u64 (m : Int)] 126)) w.heap.size 0 v := hN.below (by (repeat first | exact Below.refl _ _ | assumption | refine Below.drew ?_ | refine Below.alloc ?_ (by simp <;> omega) _ | refine Below.setCell ?_ (by simp <;> omega) _))
    have d1 : (w1.alloc (.cells #[.int .u64 (q : Int), .int .u64 (m : Int)] 126)).cell? ⟨w1.heap.size, 1, none⟩ = some (.int .u64 (m : Int)) := by simp [go_sem]
    refine (unhide HF _ (tab_below (unhide HT) hX)).mono ?_
    rintro e w2 ⟨rfl, hb2⟩
    have hb02 := Below.then hX hb2
    have hN2 := hNX.below hb2
    have d2 := kept_cell hb2 d1
    clear hX hNX d1 hb2 hb01 hN
    go_wp2_with fail
    refine (unhide HPO _ (tab_below (unhide HT) hb02)).mono ?_
    rintro e w3 ⟨rfl, hb3⟩
    have hb03 := Below.then hb02 hb3
    obtain ⟨a0, a1, _, _⟩ := hN2.below hb3
    clear hb02 hb3 hN2 d2 HF HPO HT HV HQ
    by_cases hv : v < 0
    · have hbv : belowB 0 v = true := by rw [unhide HB]; exact decide_eq_true hv
      rw [if_pos hv] at HTX
      go_wp2_with (go_at_call 91; refine (isBelow_any _ _ _).mono ?_; rintro e w' ⟨rfl, rfl⟩; rw [hbv])
      go_ret
      exact ⟨by rw [unhide HTX]; rfl, hb03.alloc hb03.size _⟩
    · have hbv : belowB 0 v = false := by rw [unhide HB]; exact decide_eq_false hv
      rw [if_neg hv] at HTX
      go_wp2_with (go_at_call 91; refine (isBelow_any _ _ _).mono ?_; rintro e w' ⟨rfl, rfl⟩; rw [hbv])
      go_ret
      exact ⟨by rw [unhide HTX]; rw [nil_app]; rfl, hb03.alloc hb03.size _⟩
end Go.Proofs.YthkkfldmoflfaaaGreatDoor
/- Parse, Print and live of layer 6. -/
namespace Go.Proofs.YthkkfldmoflfaaaGreatDoor
open Go.RowKit Go.Maps
def jokX (x : Ex) : Bool := match jRight flX 300 0 0 x with | some (true, _) => true | _ => false
/-- What Parse tells of characters, where they are an expression within the limits. -/
def chkP (cs : List Nat) : Option Ex :=
  match scanOf cs with
  | .error _ => none
  | .ok ts => match exprP numP 1000 0 (ps0 ts) with
    | .ok x s' => if (s'.left.isEmpty && decide (s'.dp ≤ 32)) && ((decide (ts.length ≤ 512) && !ts.isEmpty) && ((smallX x && decide (sizeX x ≤ 512)) && (decide (depthX x ≤ 32) && jokX x))) then some x else none
    | _ => none
theorem chkP_inv {cs : List Nat} {x : Ex} (h : chkP cs = some x) : okX x ∧ ∃ ts s' c', scanOf cs = .ok ts ∧ exprP numP 1000 0 (ps0 ts) = .ok x s' ∧ s'.left = [] ∧ s'.dp ≤ 32 ∧ ts.length ≤ 512 ∧ ts ≠ [] ∧ smallX x = true ∧ jRight flX 300 0 0 x = some (true, c') := by
  unfold chkP at h
  cases hs : scanOf cs with
  | error p => rw [hs] at h; cases h
  | ok ts =>
    rw [hs] at h
    simp only at h
    cases hp : exprP numP 1000 0 (ps0 ts) with
    | out => rw [hp] at h; cases h
    | fail => rw [hp] at h; cases h
    | ok y s' =>
      rw [hp] at h
      simp only at h
      split at h
      · rename_i hc
        cases h
        simp only [Bool.and_eq_true, decide_eq_true_eq, Bool.not_eq_true', List.isEmpty_iff] at hc
        obtain ⟨⟨h1, h2⟩, ⟨h3, h4⟩, ⟨h5, h6⟩, h7, h8⟩ := hc
        have h4' : ts ≠ [] := by
          intro e
          rw [e] at h4
          cases h4
        unfold jokX at h8
        cases hj : jRight flX 300 0 0 x with
        | none => rw [hj] at h8; cases h8
        | some r =>
          obtain ⟨b, c'⟩ := r
          cases b with
          | false => rw [hj] at h8; cases h8
          | true => exact ⟨⟨h5, h6, h7, _, _, hj⟩, ts, s', c', rfl, hp, h1, h2, h3, h4', h5, by first | exact hj | rfl⟩
      · cases h
theorem parse_chk (cs : List Nat) (x : Ex) (w : World) (h : chkP cs = some x) (hl : okL cs) (hz : (T cs).size ≤ 512) (hG : EnvG w) :
    Calls Tryz.prog 6 #[.string (T cs)] w (outP6 w x) := by
  obtain ⟨_, ts, s', c', h1, h2, h3, h4, h5, h6, h7, h8⟩ := chkP_inv h
  exact parse_ok6 cs ts 1000 300 c' x s' w hG hl hz h1 h6 h5 (by omega) h2 h3 h4 h7 h8
/-- What always holds: the tables, those of numbers too. -/
structure Env6 (w : World) : Prop where
  env : EnvG w
  pow : Lib.TabIs Tryz.prog w "internal/strconv.uint64pow10" .u64 Lib.pow10Tab
theorem Env6.below {w w' : World} (h : Env6 w) (hb : Below w.heap.size w w') : Env6 w' := ⟨h.env.below hb, tab_below h.pow hb⟩
set_option maxRecDepth 100000 in
set_option maxHeartbeats 2000000 in
/-- Print of an expression whose text is known. -/
theorem pprint_ok (x : Ex) (cs : List Nat) (ts : List (Tok × Nat)) (al : Option Addr) (cc : Nat) (w : World) (S : Nat → Prop) (hE : Env6 w) (hx : exV w S x (.slice al x.kids.length cc)) (hk : okX x) (hW : ∀ Wb, Env6 Wb → WExpr Wb x (tx cs)) (hl : okL cs) (hz : (T cs).size ≤ 512) (hne : tx cs ≠ []) (hs : scanOf cs = .ok ts) :
    Calls Tryz.prog 14 #[exAgg x (.slice al x.kids.length cc)] w fun e w' => e = .returned (.tuple #[.string (T cs), .int .i64 0]) ∧ Below w.heap.size w w' := by
  obtain ⟨hsm, _, _, n, c', hj⟩ := hk
  obtain ⟨W1, e1⟩ : ∃ W1, w.alloc (oneB x (.slice al x.kids.length cc)) = W1 := ⟨_, rfl⟩
  have hb1 : Below w.heap.size w W1 := by rw [← e1]; exact (Below.refl _ _).alloc (Nat.le_refl _) _
  have hq1 : W1.heap[w.heap.size]? = some (oneB x (.slice al x.kids.length cc)) := by rw [← e1]; exact palloc_new _ _
  have hx1 := hx.below hb1
  have HC1 := hide (pright_ok w hE.env n c' x al cc W1 S hb1 hsm hx1 hj)
  have HB1 := hide hb1
  have HQ1 := hide hq1
  have HX1 := hide hx1
  have HE1 := hide (hE.below hb1)
  have HW := hide hW
  have HLZ := hide (And.intro hl hz)
  have HNE := hide hne
  have HS := hide hs
  obtain ⟨a0, a1, a2, a3, a4, a5, a6⟩ := var_cells hq1
  have hlt : w.heap.size < W1.heap.size := (Array.getElem?_eq_some_iff.1 hq1).1
  have HLT := hide hlt
  generalize hq : w.heap.size = q at HQ1 a0 a1 a2 a3 a4 a5 a6 HLT
  clear hb1 hq1 hx1 hE hx hW hl hz hne hs hj hsm hlt
  go_enter Tryz.func14, Tryz.ntmps14
  go_wp2_with fail
  refine (unhide HC1).mono ?_
  rintro e w2 ⟨rfl, hb2⟩
  have hE2 := (unhide HE1).below hb2
  have hx2 := (unhide HX1).below hb2
  have hq2 := blockB (unhide HQ1) hb2
  obtain ⟨W3, e3⟩ : ∃ W3, w2.alloc (.cells #[.pointer none, .slice none 0 0] 77) = W3 := ⟨_, rfl⟩
  have hb3 : Below w2.heap.size w2 W3 := by rw [← e3]; exact (Below.refl _ _).alloc (Nat.le_refl _) _
  have hp3 : W3.heap[w2.heap.size]? = some (.cells #[.pointer none, .slice none 0 0] 77 (0, 0)) := by rw [← e3]; exact palloc_new _ _
  have hwat : WAt w2 w2.heap.size [] W3 := ⟨.inl ⟨Nat.le_refl _, .slice none 0 0, hp3, ⟨rfl, .inl ⟨rfl, rfl⟩⟩, fun h => by cases h⟩, hb3⟩
  have hlz := unhide HLZ
  have HX := hide (unhide HW w2 hE2 w2.heap.size [] al cc W3 S hwat hx2 (by have : (tx cs).length = (T cs).size := (T_size cs).symm; simp only [List.length_nil]; omega))
  have HB2 := hide (Below.then (unhide HB1) hb2)
  have HB3 := hide hb3
  have HE2 := hide hE2
  have HQ3 := hide (blockB hq2 hb3)
  have hsz := hb2.size
  generalize hp : w2.heap.size = p at *
  have HPW := hide hp
  clear hb2 hb3 hE2 hx2 hq2 hp3 hwat hlz HC1 HW HX1 a0 a1 a2 a3 a4 a5 a6
  obtain ⟨a0, a1, a2, a3, a4, a5, a6⟩ := var_cells (unhide HQ3)
  go_wp2_with fail
  refine (unhide HX).mono ?_
  rintro e w4 ⟨rfl, r1, r2, r3⟩
  have HST := hide (wstring_any w2.heap.size p (tx cs) w4 (by rw [List.nil_append] at r1; exact r1) (unhide HNE) (by have : (tx cs).length = (T cs).size := (T_size cs).symm; have := (unhide HLZ).2; omega))
  have HB4 : Hid (Below w2.heap.size w2 w4) := hide (by have h3 := unhide HB3; rw [← unhide HPW] at h3; exact h3.trans r2)
  clear r1 r2 r3 HX a0 a1 a2 a3 a4 a5 a6
  go_wp2_with fail
  refine (unhide HST).mono ?_
  rintro e w5 ⟨rfl, r1⟩
  have HB5 := hide ((unhide HB4).trans r1)
  have hS := scan_any cs w5 (unhide HLZ).1 (unhide HLZ).2 ((unhide HE2).below (unhide HB5)).env.lex
  rw [unhide HS] at hS
  have HSC := hide hS
  clear r1 hS HST
  go_wp2_with fail
  refine (unhide HSC).mono ?_
  rintro e w6 ⟨⟨v, rfl, _⟩, hb6⟩
  have HB6 := hide (Below.then (unhide HB2) (Below.then (unhide HB5) hb6))
  clear hb6 HSC
  go_wp2_with fail
  go_returns
  exact ⟨rfl, by have h := unhide HB6; rw [hq] at h; exact h⟩
/-- The expression that live parses. -/
def liveX : Ex := .mk 10 [] 0 0 0 [.mk 14 [] 0 0 0 [.mk 14 [] 0 0 0 [.mk 16 [] 1000000 0 0 []]], .mk 16 [] 2000000 0 0 []]
theorem live_chk : chkP [45, 32, 45, 49, 32, 45, 32, 50] = some liveX := by kernel_rfl
theorem live_writes (Wb : World) (hE : Env6 Wb) : WExpr Wb liveX (tx [45, 45, 49, 32, 45, 32, 50]) := by
  have hT : ∀ (v : Int) (l : List UInt8), 0 ≤ v → v ≤ 9000000 → textL (decide (v < 0)) (v.natAbs / 1000000) (v.natAbs % 1000000) = l → ∀ w, Below Wb.heap.size Wb w → Calls Tryz.prog 52 #[.agg #[.int .i64 0, .int .i64 v]] w fun e w' => e = .returned (.string ⟨l.toArray⟩) ∧ Below w.heap.size w w' := fun v l h1 h2 h3 w hb => by
    rw [← h3]
    exact text_fin v w (hE.below hb).pow (by omega) (by omega)
  have n1 : WExpr Wb (.mk 16 [] 1000000 0 0 []) [49] := wnum_ok Wb _ [49] rfl (hT 1000000 [49] (by decide) (by decide) (by kernel_rfl))
  have n2 : WExpr Wb (.mk 16 [] 2000000 0 0 []) [50] := wnum_ok Wb _ [50] rfl (hT 2000000 [50] (by decide) (by decide) (by kernel_rfl))
  have m1 : WExpr Wb (.mk 14 [] 0 0 0 [.mk 16 [] 1000000 0 0 []]) [45, 49] := wneg_ok Wb _ _ [49] rfl rfl (wopd_ok Wb hE.env _ 6 [49] (by decide) (by decide) (by decide) n1)
  have m2 : WExpr Wb (.mk 14 [] 0 0 0 [.mk 14 [] 0 0 0 [.mk 16 [] 1000000 0 0 []]]) [45, 45, 49] := wneg_ok Wb _ _ [45, 49] rfl rfl (wopd_ok Wb hE.env _ 6 [45, 49] (by decide) (by decide) (by decide) m1)
  exact woper_ok Wb hE.env liveX _ _ [45, 45, 49] [50] (by decide) ⟨9, by decide, rfl⟩ (.inl (by decide)) rfl (wopd_ok Wb hE.env _ _ _ (by decide) (by decide) (by decide) m2) (wopd_ok Wb hE.env _ _ _ (by decide) (by decide) (by decide) n2) (by decide)
set_option maxRecDepth 100000 in
set_option maxHeartbeats 2000000 in
theorem live6_any (w : World) (hE : Env6 w) :
    Calls Tryz.prog 7 #[] w fun e w' => e = .returned (.bool true) ∧ Below w.heap.size w w' := by
  have hC1 := parse_chk [45, 32, 45, 49, 32, 45, 32, 50] liveX w live_chk (okL_asc (by decide)) (by decide) hE.env
  rw [show T [45, 32, 45, 49, 32, 45, 32, 50] = ⟨#[45, 32, 45, 49, 32, 45, 32, 50]⟩ from rfl] at hC1
  have HC1 := hide hC1
  have HE := hide hE
  have hok : okX liveX := (chkP_inv live_chk).1
  have HOK := hide hok
  obtain ⟨hsm, _, _, n, c', hj⟩ := hok
  have HJ := hide (And.intro hsm hj)
  have HO : Hid (liveX.op = 10 ∧ liveX.kids.length = 2 ∧ liveX.kids[0]? = some (.mk 14 [] 0 0 0 [.mk 14 [] 0 0 0 [.mk 16 [] 1000000 0 0 []]])) := hide ⟨rfl, rfl, rfl⟩
  have HW := hide live_writes
  clear hC1 hE hsm hj
  generalize liveX = x at *
  go_enter Tryz.func7, Tryz.ntmps7
  go_wp2_with fail
  refine (unhide HC1).mono ?_
  rintro e w1 ⟨al, cc, rfl, hx, hb1⟩
  obtain ⟨W2, e2⟩ : ∃ W2, w1.alloc (oneB x (.slice al x.kids.length cc)) = W2 := ⟨_, rfl⟩
  have hb2 : Below w1.heap.size w1 W2 := by rw [← e2]; exact (Below.refl _ _).alloc (Nat.le_refl _) _
  have hq2 : W2.heap[w1.heap.size]? = some (oneB x (.slice al x.kids.length cc)) := by rw [← e2]; exact palloc_new _ _
  have hx2 := hx.below hb2
  have hE2 := (unhide HE).below (Below.then hb1 hb2)
  have hC2 := pprint_ok x [45, 45, 49, 32, 45, 32, 50] _ al cc W2 _ hE2 hx2 (unhide HOK) (unhide HW) (okL_asc (by decide)) (by decide) (by decide) (show scanOf [45, 45, 49, 32, 45, 32, 50] = .ok [(⟨8,[45],[45]⟩,0),(⟨8,[45],[45]⟩,1),(⟨1,[49],[49]⟩,2),(⟨8,[45],[45]⟩,4),(⟨1,[50],[50]⟩,6)] from by kernel_rfl)
  rw [show T [45, 45, 49, 32, 45, 32, 50] = ⟨#[45, 45, 49, 32, 45, 32, 50]⟩ from rfl] at hC2
  have HC2 := hide hC2
  have HB2 := hide (Below.then hb1 hb2)
  have HX2 := hide hx2
  have HQ2 := hide hq2
  have HE2 := hide hE2
  obtain ⟨a0, a1, a2, a3, a4, a5, a6⟩ := var_cells hq2
  clear hb1 hb2 hq2 hx hx2 hE2 hC2 HC1
  go_wp2_with fail
  refine (unhide HC2).mono ?_
  rintro e w3 ⟨rfl, hb3⟩
  have HB3 := hide (Below.then (unhide HB2) hb3)
  have hx3 := (unhide HX2).below hb3
  have hE3 := (unhide HE2).below hb3
  have hq3 := blockB (unhide HQ2) hb3
  obtain ⟨g, o, al1, cc1, ev, _, k0, _⟩ := hx3.ks.kid7 0 _ (unhide HO).2.2
  subst ev
  rw [Nat.zero_mul, Nat.add_zero] at k0
  have k0' : w3.cell? ⟨g, o, none⟩ = some (.int .i64 14) := k0
  have HC3 := hide (pright_ok w3 hE3.env n c' x (some ⟨g, o, none⟩) cc w3 _ (Below.refl _ _) (unhide HJ).1 hx3 (unhide HJ).2)
  have ho := unhide HO
  have m1 : (((x.op : Nat) : Int) == 10) = true := icast_eq (by omega)
  have m2 : (((x.kids.length : Nat) : Int) == 2) = true := icast_eq (by omega)
  have m3 : 0 < x.kids.length := by omega
  clear a0 a1 a2 a3 a4 a5 a6 hb3 hx3 hE3 HC2 k0 ho
  obtain ⟨a0, a1, a2, a3, a4, a5, a6⟩ := var_cells hq3
  clear hq3
  go_wp2_with fail
  refine (unhide HC3).mono ?_
  rintro e w4 ⟨rfl, hb4⟩
  have HB4 := hide (Below.then (unhide HB3) hb4)
  clear a0 a1 a2 a3 a4 a5 a6 hb4 HC3 k0'
  go_wp2_with fail
  go_returns
  exact ⟨rfl, unhide HB4⟩
end Go.Proofs.YthkkfldmoflfaaaGreatDoor
