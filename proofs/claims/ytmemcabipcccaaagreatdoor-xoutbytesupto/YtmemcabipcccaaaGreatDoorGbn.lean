/- Several texts, laid as one. -/
import Derived.Test.YtmemcabipcccaaaGreatDoorGbm
import Derived.Test.YtmemcabipcccaaaGreatDoorGax
import Derived.Test.YtmemcabipcccaaaGreatDoorXmlWrV
import Derived.Test.YtmemcabipcccaaaGreatDoorGba
/- Whether a token may stand by itself: the reference's RightToken. -/
namespace Go.Proofs.YtmemcabipcccaaaGreatDoor
open Go.RowKit
theorem contains_snoc (b x : List UInt8) : ∀ A : List (List UInt8), (A ++ [b]).contains x = (A.contains x || b == x)
  | [] => by
    by_cases e : b = x
    · subst e; simp
    · have e' : ¬ x = b := fun h => e h.symm
      simp [e, e']
  | a :: A => by
    have ih := contains_snoc b x A
    rw [List.cons_append, List.contains_cons, List.contains_cons, ih, Bool.or_assoc]
theorem names_take {l : List (ByteArray × ByteArray)} {j : Nat} {y : ByteArray × ByteArray} (h : l[j]? = some y) (x : ByteArray) : ((l.take (j + 1)).map (·.1.data.toList)).contains x.data.toList = (((l.take j).map (·.1.data.toList)).contains x.data.toList || (y.1.toList == x.toList)) := by
  obtain ⟨hk, hx⟩ := List.getElem?_eq_some_iff.1 h
  rw [List.take_succ_eq_append_getElem hk, List.map_append, hx, toList_data, toList_data]
  exact contains_snoc _ _ _
theorem trim_none (x : ByteArray) (h : x.size = 0) : ((Lib.trimLeftF blankN x).toList == x.toList) = true := by
  have : x = T [] := by
    rw [T_nil]
    have h1 : x.data.toList = [] := List.eq_nil_of_length_eq_zero h
    cases x with | mk d => cases d with | mk l => simp at h1; subst h1; rfl
  rw [this, trim_T okL_nil]
  simp
theorem size_empty {x : ByteArray} : x.toList.isEmpty = decide (x.size = 0) := by
  rw [toList_data]
  have e : x.data.toList.length = x.size := rfl
  cases hh : x.data.toList with
  | nil =>
    rw [hh] at e
    rw [← e]
    rfl
  | cons a t =>
    rw [hh] at e
    rw [← e]
    rfl
theorem len_zero {α : Type} (l : List α) : ((l.length : Int) == 0) = l.isEmpty := by
  cases l with
  | nil => rfl
  | cons a t =>
    show ((((a :: t).length : Nat) : Int) == 0) = false
    apply beq_eq_false_iff_ne.2
    rw [List.length_cons]
    omega
structure RtSt (w : World) (t : BTok) (v : Value) (i : Nat) (w' : World) : Prop where
  le : i ≤ t.attrs.length
  box : TokBox w t v w'
  spec : attrsB [] t.attrs = attrsB ((t.attrs.take i).map (·.1.data.toList)) (t.attrs.drop i)
set_option maxRecDepth 100000 in
set_option maxHeartbeats 8000000 in
theorem rightToken_any (t : BTok) (v : Value) (w : World) (hv : PairsArg w v t.attrs) (hs : Small t) (B : Nat) (hB : B ≤ w.heap.size) (hE : XEnv B w) :
    Calls Tryz.prog 25 #[.agg #[.int .i64 t.kind, .string t.name, v, .string t.text]] w fun e w' => e = .returned (.bool (okB t)) ∧ Below w.heap.size w w' := by
  have HV := hide hv
  have HS := hide hs
  have HE := hide hE
  obtain ⟨a, cap, rfl, _⟩ := hv
  have HB0 : Hid (TokBox w t (.slice a t.attrs.length cap) (w.alloc (.cells (tokV t (.slice a t.attrs.length cap)) 53 (0, 0)))) := hide (by
    unfold tokV
    refine ⟨(Below.refl _ _).alloc (Nat.le_refl _) _, by simp, ?_, ?_, ?_, ?_⟩
    all_goals simp [go_sem])
  have HOT := hide (fun h => okB_text (t := t) h)
  obtain ⟨k, n, l, x⟩ := t
  have hxs := hs.x
  have hns := hs.n
  have hls := hs.l
  simp only at *
  clear hs hE
  unfold tokV at HB0
  simp only at HB0
  have hbW := (unhide HB0).bel
  go_enter Tryz.func25, Tryz.ntmps25
  go_wp2_with fail
  refine (refIsText_same x _ (by omega) ((unhide HE).low (hbW.mono hB)).env).mono ?_
  rintro e W ⟨rfl, hb1⟩
  have HB1 := hide ((unhide HB0).on hb1)
  clear HB0 hbW hb1
  have hbW := (unhide HB1).bel
  cases htx : textB x
  · have HR : Hid (okB ⟨k, n, l, x⟩ = false) := hide (unhide HOT htx)
    clear HOT htx
    go_wp2
    go_ret
    exact ⟨ret_bool (unhide HR).symm, hbW⟩
  · have HTX := hide htx
    clear HOT htx
    have c0 := (unhide HB1).c0
    have c1 := (unhide HB1).c1
    have c2 := (unhide HB1).c2
    have c3 := (unhide HB1).c3
    simp only at c0 c1 c2 c3
    have HEW := hide ((unhide HE).low (hbW.mono hB))
    have hBW : B ≤ W.heap.size := Nat.le_trans hB hbW.size
    by_cases k2 : k = 2
    · subst k2
      have HOK : Hid (okB ⟨2, n, l, x⟩ = (attrsB [] l && (qB n && x.toList.isEmpty))) := hide (by
        rw [okB2]
        cases x.toList.isEmpty <;> cases qB n <;> cases attrsB [] l <;> rfl)
      have HI0 : Hid (RtSt w ⟨2, n, l, x⟩ (.slice a l.length cap) 0 W) := hide ⟨Nat.zero_le _, unhide HB1, rfl⟩
      have HA := hide (unhide HS).a
      simp only at HA
      clear c0 c1 c2 c3
      have c0 := (unhide HB1).c0
      simp only at c0
      go_wp2_with fail
      clear c0
      go_loopw [3] (fun i wr => ∃ i' : Nat, i = .int .i64 (i' : Nat) ∧ RtSt w ⟨2, n, l, x⟩ (.slice a l.length cap) i' wr) (fun i _ => l.length - (intOf i).toNat)
      case atStart => exact ⟨0, rfl, unhide HI0⟩
      case round =>
        clear HI0
        obtain ⟨i, rfl, hI⟩ := hrel
        have hi := hI.le
        have hbr := hI.box.bel
        have c1 := hI.box.c1
        have c2 := hI.box.c2
        have c3 := hI.box.c3
        have HSPC := hide hI.spec
        have HBX := hide hI.box
        clear hI
        simp only at hi c1 c2 c3 HSPC
        by_cases hlt : i < l.length
        · obtain ⟨y, hy⟩ : ∃ y, l[i]? = some y := ⟨l[i], List.getElem?_eq_getElem hlt⟩
          obtain ⟨hy1, hy2⟩ := unhide HA y (List.mem_of_getElem? hy)
          obtain ⟨q1, q2, hq, hcells⟩ := (unhide HV).below hbr
          obtain ⟨g, o, ha, hc⟩ := hcells (by intro h0; rw [h0] at hlt; cases hlt)
          cases hq
          subst ha
          obtain ⟨x0, x1⟩ := hc i y hy
          have m1 : (0 : Int) ≤ (i : Int) := by omega
          have m2 : (i : Int) < (l.length : Int) := by omega
          have hdr : l.drop i = y :: l.drop (i + 1) := by
            rw [← List.getElem_cons_drop hlt]
            congr 1
            exact (List.getElem?_eq_some_iff.1 hy).2
          have hsp := unhide HSPC
          rw [hdr, attrsB_cons] at hsp
          have HSP := hide hsp
          have HY := hide hy
          have HEr := hide ((unhide HE).low (hbr.mono hB))
          have hBr : B ≤ wr.heap.size := Nat.le_trans hB hbr.size
          clear hc hcells hy hdr hsp HSPC
          go_wp2_with fail
          refine (refQname_any y.1 _ hy1 (unhide HEr).env).mono ?_
          rintro e w1 ⟨rfl, hb1⟩
          have hbr1 := Below.then hbr hb1
          cases hqy : qB y.1
          · have HR : Hid (okB ⟨2, n, l, x⟩ = false) := hide (by rw [unhide HOK, unhide HSP, hqy]; simp)
            clear HSP hqy
            go_wp2
            go_ret
            exact ⟨ret_bool (unhide HR).symm, hbr1⟩
          · have HSP1 : Hid (attrsB [] l = (!((l.take i).map (·.1.data.toList)).contains y.1.data.toList && (textB y.2 && attrsB ((l.take i).map (·.1.data.toList) ++ [y.1.data.toList]) (l.drop (i + 1))))) := hide (by rw [unhide HSP, hqy]; rfl)
            have d2 := keptC hb1 c2
            have z0 := keptC hb1 x0
            have z1 := keptC hb1 x1
            clear HSP hqy
            go_wp2_with fail
            refine (refIsText_same y.2 _ (by omega) ((unhide HEr).on hBr hb1).env).mono ?_
            rintro e w2 ⟨rfl, hb2⟩
            have hbr2 := Below.then hbr1 hb2
            cases hty : textB y.2
            · have HR : Hid (okB ⟨2, n, l, x⟩ = false) := hide (by rw [unhide HOK, unhide HSP1, hty]; simp)
              clear HSP1 hty
              go_wp2
              go_ret
              exact ⟨ret_bool (unhide HR).symm, hbr2⟩
            · have HSP2 : Hid (attrsB [] l = (!((l.take i).map (·.1.data.toList)).contains y.1.data.toList && attrsB ((l.take i).map (·.1.data.toList) ++ [y.1.data.toList]) (l.drop (i + 1)))) := hide (by rw [unhide HSP1, hty]; rfl)
              have HB2 := hide (((unhide HBX).on hb1).on hb2)
              have HZ0 := hide (keptC hb2 z0)
              have HD2 := hide (keptC hb2 d2)
              have HP2 := hide ((unhide HV).below hbr2)
              clear HSP1 hty d2 z0 z1 x0 x1 c1 c2 c3
              go_wp2_with fail
              rename_i W1 _
              go_loopw [4] (fun s4 wx => ∃ j : Nat, s4 = .int .i64 (j : Nat) ∧ j ≤ i ∧ Below w2.heap.size w2 wx ∧ ((l.take j).map (·.1.data.toList)).contains y.1.data.toList = false) (fun s4 _ => i - (intOf s4).toNat)
              case atStart => exact ⟨0, rfl, Nat.zero_le _, Below.refl _ _, rfl⟩
              case round =>
                obtain ⟨j, rfl, hj, hbx, hno⟩ := hrel
                have HNO := hide hno
                clear hno
                have d2 := keptC hbx (unhide HD2)
                have z0 := keptC hbx (unhide HZ0)
                by_cases hji : j < i
                · obtain ⟨u, hu⟩ : ∃ u, l[j]? = some u := ⟨l[j], List.getElem?_eq_getElem (by omega)⟩
                  obtain ⟨p1, p2, hp, hcells⟩ := (unhide HP2).below hbx
                  obtain ⟨g3, o3, ha3, hc3⟩ := hcells (by intro h0; rw [h0] at hlt; cases hlt)
                  cases hp
                  cases ha3
                  obtain ⟨v0, v1⟩ := hc3 j u hu
                  have r1 : (0 : Int) ≤ (j : Int) := by omega
                  have r2 : (j : Int) < (l.length : Int) := by omega
                  have r3 : (j : Int) < (i : Int) := by omega
                  have hnt := names_take hu y.1
                  rw [unhide HNO, Bool.false_or] at hnt
                  have HNT := hide hnt
                  have HU := hide hu
                  clear hc3 hcells hu hnt
                  go_wp2_with fail
                  go_quiet (fail)
                  have hbz := Below.then hbx (below_drewN _ nq)
                  cases hcm : (u.1.toList == y.1.toList)
                  · have HN2 : Hid (((l.take (j + 1)).map (·.1.data.toList)).contains y.1.data.toList = false) := hide ((unhide HNT).trans hcm)
                    clear HNT HNO v0 v1 d2 z0
                    go_wp2_with fail
                    go_round
                    case measure => simp [intOf]; omega
                    case rel => exact ⟨j + 1, by simp, by omega, hbz, unhide HN2⟩
                  · have HR : Hid (okB ⟨2, n, l, x⟩ = false) := hide (by
                      have hm : ((l.take i).map (·.1.data.toList)).contains y.1.data.toList = true := by
                        have e : u.1.data.toList = y.1.data.toList := by
                          have := eq_of_beq hcm
                          rwa [toList_data, toList_data] at this
                        rw [← e]
                        simp only [List.contains_iff_mem]
                        exact List.mem_map.2 ⟨u, List.mem_of_getElem? (i := j) (by rw [List.getElem?_take, if_pos hji]; exact unhide HU), rfl⟩
                      rw [unhide HOK, unhide HSP2, hm]
                      rfl)
                    clear HNT HNO v0 v1 d2 z0
                    go_wp2
                    go_ret
                    exact ⟨ret_bool (unhide HR).symm, Below.then hbr2 hbz⟩
                · have r3 : ¬ (j : Int) < (i : Int) := by omega
                  have hji2 : j = i := by omega
                  have HI2 : Hid (RtSt w ⟨2, n, l, x⟩ (.slice (some ⟨g, o, none⟩) l.length cap) (i + 1) wr) := hide ⟨hlt, (unhide HB2).on hbx, by
                    have h1 := unhide HNO
                    rw [hji2] at h1
                    show attrsB [] l = attrsB ((l.take (i + 1)).map (·.1.data.toList)) (l.drop (i + 1))
                    rw [unhide HSP2, h1, List.take_succ_eq_append_getElem hlt, List.map_append, (List.getElem?_eq_some_iff.1 (unhide HY)).2]
                    rfl⟩
                  clear HNO d2 z0
                  go_wp2_with fail
                  go_round
                  case measure => simp [intOf]; omega
                  case rel => exact ⟨i + 1, by simp, unhide HI2⟩
        · have m2 : ¬ (i : Int) < (l.length : Int) := by omega
          have hil : i = l.length := by omega
          have HTR : Hid (attrsB [] l = true) := hide (by rw [unhide HSPC, hil, List.drop_length]; rfl)
          have HEr := hide ((unhide HE).low (hbr.mono hB))
          clear HSPC
          go_wp2_with fail
          refine (refQname_any n _ hns (unhide HEr).env).mono ?_
          rintro e w1 ⟨rfl, hb1⟩
          have d3 := keptC hb1 c3
          cases hq : qB n
          · have HR : Hid (okB ⟨2, n, l, x⟩ = false) := hide (by rw [unhide HOK, hq]; simp)
            clear hq
            go_wp2
            go_ret
            exact ⟨ret_bool (unhide HR).symm, Below.then hbr hb1⟩
          · have HR : Hid (okB ⟨2, n, l, x⟩ = x.toList.isEmpty) := hide (by rw [unhide HOK, hq, unhide HTR]; rfl)
            clear hq
            go_wp2
            go_ret
            exact ⟨ret_bool (by rw [unhide HR]), Below.then hbr hb1⟩
    · have g2 : (k == 2) = false := by simpa using k2
      by_cases k7 : k = 7
      · subst k7
        have HOK := hide (okB7 n l x)
        go_wp2_with fail
        refine (refQname_any n _ hns (unhide HEW).env).mono ?_
        rintro e w1 ⟨rfl, hb1⟩
        have hbW1 := Below.then hbW hb1
        have d3 := keptC hb1 c3
        have d2 := keptC hb1 c2
        cases hq : qB n
        · have HR : Hid (okB ⟨7, n, l, x⟩ = false) := hide (by rw [unhide HOK, hq]; simp)
          clear HOK hq
          go_wp2
          go_ret
          exact ⟨ret_bool (unhide HR).symm, hbW1⟩
        · cases hx0 : x.toList.isEmpty
          · have HR : Hid (okB ⟨7, n, l, x⟩ = false) := hide (by rw [unhide HOK, hx0]; rfl)
            clear HOK hq
            go_wp2
            go_ret
            exact ⟨ret_bool (unhide HR).symm, hbW1⟩
          · have HR : Hid (okB ⟨7, n, l, x⟩ = ((l.length : Int) == 0)) := hide (by rw [unhide HOK, hx0, hq, len_zero]; simp)
            clear HOK hq
            go_wp2
            go_ret
            exact ⟨ret_bool (by rw [unhide HR]), hbW1⟩
      · have g7 : (k == 7) = false := by simpa using k7
        by_cases k4 : k = 4
        · subst k4
          have HOK := hide (okB4 n l x)
          have hlz : ((l.length : Int) == 0) = l.isEmpty := len_zero l
          cases hn0 : n.toList.isEmpty
          · have HR : Hid (okB ⟨4, n, l, x⟩ = false) := hide (by rw [unhide HOK, hn0]; rfl)
            clear HOK
            go_wp2
            go_ret
            exact ⟨ret_bool (unhide HR).symm, hbW⟩
          · cases hx0 : x.toList.isEmpty
            · have HR : Hid (okB ⟨4, n, l, x⟩ = ((l.length : Int) == 0)) := hide (by rw [unhide HOK, hn0, hx0, unhide HTX, hlz]; simp)
              clear HOK hlz
              go_wp2
              go_ret
              exact ⟨ret_bool (by rw [unhide HR]), hbW⟩
            · have HR : Hid (okB ⟨4, n, l, x⟩ = false) := hide (by rw [unhide HOK, hx0]; simp)
              clear HOK
              go_wp2
              go_ret
              exact ⟨ret_bool (unhide HR).symm, hbW⟩
        · have g4 : (k == 4) = false := by simpa using k4
          have hlz : ((l.length : Int) == 0) = l.isEmpty := len_zero l
          by_cases k5 : k = 5
          · subst k5
            have HOK := hide (okB5 n l x)
            cases hn0 : n.toList.isEmpty
            · have HR : Hid (okB ⟨5, n, l, x⟩ = false) := hide (by rw [unhide HOK, hn0]; rfl)
              clear HOK hlz
              go_wp2
              go_ret
              exact ⟨ret_bool (unhide HR).symm, hbW⟩
            · cases hl0 : l.isEmpty
              · rw [hl0] at hlz
                have HR : Hid (okB ⟨5, n, l, x⟩ = false) := hide (by rw [unhide HOK, hl0]; simp)
                clear HOK hl0
                go_wp2
                go_ret
                exact ⟨ret_bool (unhide HR).symm, hbW⟩
              · rw [hl0] at hlz
                have HR1 : Hid (okB ⟨5, n, l, x⟩ = (!Lib.contains x.data.toList [45, 45] && !Lib.hasSuffix x.data.toList [45])) := hide (by rw [unhide HOK, hn0, hl0]; unfold comB; rw [unhide HTX]; simp)
                clear HOK hl0
                go_wp2_with fail
                refine (refFind_any x ⟨#[45, 45]⟩ _ hxs (by decide) (by decide)).mono ?_
                rintro e w1 ⟨⟨j, rfl, hj⟩, rfl⟩
                have hj' : decide (j < 0) = !Lib.contains x.data.toList [45, 45] := hj
                cases hc : Lib.contains x.data.toList [45, 45]
                · rw [hc] at hj'
                  have HR2 : Hid (okB ⟨5, n, l, x⟩ = !Lib.hasSuffix x.data.toList [45]) := hide (by rw [unhide HR1, hc]; rfl)
                  have hj0 : j < 0 := by simpa using hj'
                  clear HR1 hc hj hj'
                  by_cases hx0 : x.size = 0
                  · have HR : Hid (okB ⟨5, n, l, x⟩ = true) := hide (by
                      rw [unhide HR2]
                      have : x.data.toList = [] := List.eq_nil_of_length_eq_zero hx0
                      rw [this]
                      rfl)
                    have hxi : ((x.size : Int) == 0) = true := by simp [hx0]
                    clear HR2
                    go_wp2
                    go_ret
                    exact ⟨ret_bool (unhide HR).symm, hbW⟩
                  · have hxp : 0 < x.size := by omega
                    have HR : Hid (okB ⟨5, n, l, x⟩ = !((x[x.size - 1].toNat : Int) == 45)) := hide (by rw [unhide HR2, suf_last x hxp])
                    have hxi : ((x.size : Int) == 0) = false := beq_eq_false_iff_ne.2 (by omega)
                    have e1 : wrap64 ((x.size : Int) - 1) = (x.size : Int) - 1 := by unfold wrap64; omega
                    have e1' : IntKind.i64.wrap ((x.size : Int) - 1) = (x.size : Int) - 1 := by rw [IntKind.wrap_i64]; omega
                    have e2 : (0 : Int) ≤ (x.size : Int) - 1 := by omega
                    have e3 : (x.size : Int) - 1 < (x.size : Int) := by omega
                    have e4 : ((x.size : Int) - 1).toNat = x.size - 1 := by omega
                    clear HR2 hx0
                    go_wp2
                    go_ret
                    exact ⟨ret_bool (by rw [unhide HR]; rfl), hbW⟩
                · rw [hc] at hj'
                  have HR : Hid (okB ⟨5, n, l, x⟩ = false) := hide (by rw [unhide HR1, hc]; rfl)
                  have hj0 : ¬ j < 0 := by simpa using hj'
                  clear HR1 hc hj hj'
                  go_wp2
                  go_ret
                  exact ⟨ret_bool (unhide HR).symm, hbW⟩
          · have g5 : (k == 5) = false := by simpa using k5
            by_cases k6 : k = 6
            · subst k6
              have HOK := hide (okB6 n l x)
              go_wp2_with fail
              refine (refIsName_any n _ (by omega) (unhide HEW).env).mono ?_
              rintro e w1 ⟨rfl, hb1⟩
              have hbW1 := Below.then hbW hb1
              have d1 := keptC hb1 c1
              cases hnm : nameB n
              · have HR : Hid (okB ⟨6, n, l, x⟩ = false) := hide (by rw [unhide HOK]; unfold tarB; rw [hnm]; simp)
                clear HOK hnm
                go_wp2
                go_ret
                exact ⟨ret_bool (unhide HR).symm, hbW1⟩
              · have HOK1 : Hid (okB ⟨6, n, l, x⟩ = (l.isEmpty && (!lowB n && insB x))) := hide (by rw [unhide HOK]; unfold tarB; rw [hnm]; simp)
                obtain ⟨L, hL⟩ : ∃ L : ByteArray, L = ⟨(n.data.toList.map lowU).toArray⟩ := ⟨_, rfl⟩
                have hLl : (L.toList == [120, 109, 108]) = lowB n := by
                  rw [toList_data, hL]
                  show ((n.data.toList.map lowU).toArray.toList == _) = _
                  exact lowU_xml _
                have HLw := hide (fun W => refLower_any n W hns)
                rw [← hL] at HLw
                clear HOK hnm hL
                go_wp2_with fail
                refine (unhide HLw _).mono ?_
                rintro e w2 ⟨rfl, hb2⟩
                have hbW2 := Below.then hbW1 hb2
                have f2 := keptC hb2 (keptC hb1 c2)
                have f3 := keptC hb2 (keptC hb1 c3)
                cases hlw : lowB n
                · rw [hlw] at hLl
                  have HOK2 : Hid (okB ⟨6, n, l, x⟩ = (l.isEmpty && insB x)) := hide (by rw [unhide HOK1, hlw]; rfl)
                  clear HOK1 hlw
                  cases hl0 : l.isEmpty
                  · rw [hl0] at hlz
                    have HR : Hid (okB ⟨6, n, l, x⟩ = false) := hide (by rw [unhide HOK2, hl0]; rfl)
                    clear HOK2 hl0
                    go_wp2
                    go_ret
                    exact ⟨ret_bool (unhide HR).symm, hbW2⟩
                  · rw [hl0] at hlz
                    have HR1 : Hid (okB ⟨6, n, l, x⟩ = (!Lib.contains x.data.toList [63, 62] && ((Lib.trimLeftF blankN x).toList == x.toList))) := hide (by rw [unhide HOK2, hl0]; unfold insB; rw [unhide HTX]; simp)
                    clear HOK2 hl0
                    go_wp2_with fail
                    refine (refFind_any x ⟨#[63, 62]⟩ _ hxs (by decide) (by decide)).mono ?_
                    rintro e w3 ⟨⟨j, rfl, hj⟩, rfl⟩
                    have hj' : decide (j < 0) = !Lib.contains x.data.toList [63, 62] := hj
                    cases hc : Lib.contains x.data.toList [63, 62]
                    · rw [hc] at hj'
                      have HR2 : Hid (okB ⟨6, n, l, x⟩ = ((Lib.trimLeftF blankN x).toList == x.toList)) := hide (by rw [unhide HR1, hc]; rfl)
                      have hj0 : j < 0 := by simpa using hj'
                      clear HR1 hc hj hj'
                      by_cases hx0 : x.size = 0
                      · have HR : Hid (okB ⟨6, n, l, x⟩ = true) := hide (by rw [unhide HR2, trim_none x hx0])
                        have hxi : x.toList.isEmpty = true := by rw [size_empty]; exact decide_eq_true hx0
                        clear HR2 hx0
                        go_wp2
                        go_ret
                        exact ⟨ret_bool (unhide HR).symm, hbW2⟩
                      · have hxp : 0 < x.size := by omega
                        have HR : Hid (okB ⟨6, n, l, x⟩ = !blankB (x[0].toNat : Int)) := hide (by rw [unhide HR2, trim_first x (unhide HTX) hxp])
                        have hxi : x.toList.isEmpty = false := by rw [size_empty]; exact decide_eq_false hx0
                        have e3 : (0 : Int) < (x.size : Int) := by omega
                        clear HR2 hx0
                        go_wp2_with fail
                        refine (refIsBlank_any _ _).mono ?_
                        rintro e w4 ⟨rfl, rfl⟩
                        go_wp2
                        go_ret
                        have e5 : wrap32 (x[0].toNat : Int) = (x[0].toNat : Int) := by
                          have := x[0].toNat_lt
                          unfold wrap32
                          omega
                        exact ⟨ret_bool (by rw [unhide HR, e5]), hbW2⟩
                    · rw [hc] at hj'
                      have HR : Hid (okB ⟨6, n, l, x⟩ = false) := hide (by rw [unhide HR1, hc]; rfl)
                      have hj0 : ¬ j < 0 := by simpa using hj'
                      clear HR1 hc hj hj'
                      go_wp2
                      go_ret
                      exact ⟨ret_bool (unhide HR).symm, hbW2⟩
                · rw [hlw] at hLl
                  have HR : Hid (okB ⟨6, n, l, x⟩ = false) := hide (by rw [unhide HOK1, hlw]; simp)
                  clear HOK1 hlw
                  go_wp2
                  go_ret
                  exact ⟨ret_bool (unhide HR).symm, hbW2⟩
            · have g6 : (k == 6) = false := by simpa using k6
              have HR : Hid (okB ⟨k, n, l, x⟩ = false) := hide (by unfold okB; simp only [if_neg k2, if_neg k7, if_neg k4, if_neg k5, if_neg k6])
              clear k2 k7 k4 k5 k6 hlz
              go_wp2
              go_ret
              exact ⟨ret_bool (unhide HR).symm, hbW⟩
end Go.Proofs.YtmemcabipcccaaaGreatDoor
/- Whether tokens are a document's, and the error: the reference's Right. -/
namespace Go.Proofs.YtmemcabipcccaaaGreatDoor
open Go.RowKit
end Go.Proofs.YtmemcabipcccaaaGreatDoor
