/- Several texts, laid as one. -/
import Derived.Test.YtefjfjieoiegnaaGreatDoorGbs
import Derived.Test.YtefjfjieoiegnaaGreatDoorGbo
/- The reference's html: may right tokens be html? -/
namespace Go.Proofs.YtefjfjieoiegnaaGreatDoor
open Go.RowKit
structure HtSt (w : World) (ts : List BTok) (k : Nat) (o : List ByteArray) (vo : Value) (w' : World) : Prop where
  le : k ≤ ts.length
  bel : Below w.heap.size w w'
  row : w'.ownsRow w.heap.size 9 1 vo o.length (o.map Value.string)
  few : o.length ≤ k
  spec : refHt [] ts = refHt o (ts.drop k)
  doc : ∃ last, refDoc o last (ts.drop k) = true
  names : ∀ y ∈ o, y.size ≤ 1048576
theorem ret_html {ts : List BTok} {b : Bool} (h : refHt [] ts = b) : Ending.returned (.bool b) = .returned (.bool (refHt [] ts)) := by rw [h]
set_option maxRecDepth 100000 in
set_option maxHeartbeats 16000000 in
theorem refHtml_any (ts : List BTok) (a : Option Addr) (cap : Nat) (w : World) (hv : ToksArg w a ts) (hn : ts.length ≤ 1048576) (hs : ∀ t ∈ ts, Small t) (hd : forB ts = true) :
    Calls Tryz.prog 33 #[.slice a ts.length cap] w fun e w' => e = .returned (.bool (refHt [] ts)) ∧ Below w.heap.size w w' := by
  have HV := hide hv
  have HS := hide hs
  have HI0 : Hid (HtSt w ts 0 [] (.slice none 0 0) w) := hide ⟨Nat.zero_le _, Below.refl _ _, World.ownsRow_nil _ _ _ _, Nat.le_refl _, rfl, ⟨2, by rw [List.drop_zero, ← forB_ref]; exact hd⟩, (fun y hy => by cases hy)⟩
  clear hv hs hd
  go_enter Tryz.func33, Tryz.ntmps33
  go_wp2_with fail
  go_loopw [3, 4] (fun s3 i wr => ∃ (k : Nat) (o : List ByteArray), i = .int .i64 (k : Nat) ∧ Hid (HtSt w ts k o s3 wr)) (fun _ i _ => ts.length - (intOf i).toNat)
  case atStart => exact ⟨0, [], rfl, HI0⟩
  case round =>
    clear HI0
    obtain ⟨k, o, rfl, hG⟩ := hrel
    have hI := unhide hG
    have hk := hI.le
    have hbr := hI.bel
    have hfew := hI.few
    have HSP0 := hide hI.spec
    have HDC := hide hI.doc
    have HNM := hide hI.names
    obtain ⟨ao, co, rfl⟩ := owns_slice hI.row
    have HRW := hide hI.row
    clear hG hI
    by_cases hlt : k < ts.length
    · obtain ⟨t, ht⟩ : ∃ t, ts[k]? = some t := ⟨ts[k], List.getElem?_eq_getElem hlt⟩
      have hts := unhide HS t (List.mem_of_getElem? ht)
      obtain ⟨g, oo, ha, hc⟩ := ((unhide HV).below hbr) (by intro h0; rw [h0] at hlt; cases hlt)
      subst ha
      obtain ⟨c0, c1, _, c3⟩ := hc k t ht
      have n1 : (0 : Int) ≤ (k : Int) := by omega
      have n2 : (k : Int) < (ts.length : Int) := by omega
      have n4 : (ts.length : Int) ≤ 1048576 := by omega
      have n5 : (o.length : Int) ≤ 1048576 := by omega
      have hdr : ts.drop k = t :: ts.drop (k + 1) := by
        rw [← List.getElem_cons_drop hlt]
        congr 1
        exact (List.getElem?_eq_some_iff.1 ht).2
      rw [hdr] at HSP0 HDC
      obtain ⟨last, hlast⟩ := unhide HDC
      obtain ⟨hok, hnx, h7, _⟩ := refDoc_next hlast
      have hkk := ok_kinds hok
      have HNX := hide hnx
      have H7 := hide h7
      have hnmz := hts.n
      have htxz := hts.x
      have HI := hide (fun (v' : Value) (W' : World) (hb : badIn o t = false) (h6 : (decide (t.kind = 6) && hasG t) = false) (h1 : Below w.heap.size w W') (h2 : W'.ownsRow w.heap.size 9 1 v' (nextO o t).length ((nextO o t).map Value.string)) => (⟨by omega, h1, h2, by
          unfold nextO
          split
          · rw [List.length_append]; simp; omega
          · split
            · rw [List.length_dropLast]; omega
            · omega, by rw [unhide HSP0, refHt_cons, hb, h6]; rfl, ⟨_, unhide HNX⟩, by
          intro y hy
          unfold nextO at hy
          split at hy
          · rcases List.mem_append.1 hy with hy | hy
            · exact unhide HNM y hy
            · rw [List.mem_singleton.1 hy]; exact hts.n
          · split at hy
            · exact unhide HNM y ((List.dropLast_sublist o).subset hy)
            · exact unhide HNM y hy⟩ : HtSt w ts (k + 1) (nextO o t) v' W'))
      have HBAD : Hid (badIn o t = true → refHt [] ts = false) := hide fun h => by rw [unhide HSP0, refHt_cons, h]; rfl
      have HGT : Hid (badIn o t = false → (decide (t.kind = 6) && hasG t) = true → refHt [] ts = false) := hide fun h h2 => by rw [unhide HSP0, refHt_cons, h, h2]; rfl
      clear hc hdr ht hlast hnx h7 hok HSP0 HDC
      obtain ⟨kd, nm, ats, tx'⟩ := t
      simp only at *
      rcases hkk with rfl | rfl | rfl | rfl | rfl
      · cases hg : o.getLast? with
        | none =>
          have HNB : Hid (badIn o ⟨2, nm, ats, tx'⟩ = false) := hide (by unfold badIn; rw [hg])
          have hoe : o.length = 0 := by rw [List.getLast?_eq_none_iff.1 hg]; rfl
          have HR2 := HRW
          have hb0W := hbr
          clear hg HNM HBAD H7
          have g0 : ¬ (0 : Int) < (o.length : Int) := by omega
          clear hoe
          obtain ⟨i0, hi, hz0, hz1, hz2⟩ := info_parts infoStrD
          have hszW := hb0W.size
          go_wp2_with (at_builtin; refine wpList_append_own _ rfl _ _ 45 rfl w.heap.size 9 i0 _ 1 16 Tryz.underlying45 hi hz0 hz1 hz2 rfl (by decide) _ o.length (o.map Value.string) rfl (owns_below (unhide HR2) ((Below.refl _ _).alloc (Nat.le_refl _) _)) ⟨wr.heap.size, 0, none⟩ 1 1 [.string nm] rfl rfl (newsOne (by simp [go_sem])) (fun u hu => by simp at hu; subst hu; rfl) (by unfold maxLen; omega) (by omega) (by simp; omega) ?_; intro v8 w8 hown8 hgrow8 _; obtain ⟨a8, c8, rfl⟩ := owns_slice hown8)
          have hb8 : Below w.heap.size w w8 := (Below.then hb0W ((Below.refl _ _).alloc (Nat.le_refl _) _)).grown hgrow8 (by simp; omega) (fun j hj => ((unhide HR2).lt j hj).1)
          have HI8 := hide (unhide HI _ w8 (unhide HNB) rfl hb8 (by rw [nextO2 rfl, List.length_append, List.map_append]; exact hown8))
          rw [nextO2 rfl] at HI8
          clear HI hown8 hgrow8 hi hz0 hz1 hz2
          go_wp2_with fail
          go_round
          case measure => simp [intOf]; omega
          case rel => exact ⟨k + 1, o ++ [nm], by simp, HI8⟩
        | some y =>
          have hne : o ≠ [] := fun h0 => by rw [h0] at hg; cases hg
          have hol := List.length_pos_iff.2 hne
          have hyn := unhide HNM y (List.mem_of_getLast? hg)
          obtain ⟨g7, c7, he7, hc7, hle7⟩ := strs_last (unhide HRW) hg
          cases he7
          have g0 : (0 : Int) < (o.length : Int) := by omega
          have i1 : (0 : Int) ≤ (o.length : Int) - 1 := by omega
          have i2 : (o.length : Int) - 1 < (o.length : Int) := by omega
          have i3 : ((o.length : Int) - 1).toNat = o.length - 1 := by omega
          have i4 : IntKind.i64.wrap ((o.length : Int) - 1) = (o.length : Int) - 1 := by rw [IntKind.wrap_i64]; omega
          have i5 : wrap64 ((o.length : Int) - 1) = (o.length : Int) - 1 := by unfold wrap64; omega
          have HB : Hid (badIn o ⟨2, nm, ats, tx'⟩ = (voidB y || (rawB y && (true)))) := hide (by unfold badIn; rw [hg]; rfl)
          have HVO := hide (fun W => refVoid_any y W hyn)
          have HRA := hide (fun W => refRaw_any y W hyn)
          have HHE := hide (fun W => refHas_any tx' ⟨#[60, 47]⟩ W htxz (by decide) (by decide))
          clear hg hne HNM H7
          cases hvo : voidB y with
          | true =>
            rw [hvo] at HVO
            have HF : Hid (refHt [] ts = false) := hide (unhide HBAD (by rw [unhide HB, hvo, Bool.true_or]))
            go_wp2_with fail
            refine (unhide HVO _).mono ?_
            rintro e w3 ⟨rfl, hb3⟩
            have hb03 := Below.then hbr hb3
            have m7 := keptC hb3 hc7
            have m0 := keptC hb3 c0
            have m1 := keptC hb3 c1
            have m3 := keptC hb3 c3
            have hb0W := hb03
            go_wp2
            go_ret
            exact ⟨ret_html (unhide HF), hb0W⟩
          | false =>
            rw [hvo] at HVO
            cases hra : rawB y with
            | false =>
              rw [hra] at HRA
              have HNB : Hid (badIn o ⟨2, nm, ats, tx'⟩ = false) := hide (by rw [unhide HB, hvo, hra, Bool.false_and, Bool.or_false])
              go_wp2_with fail
              refine (unhide HVO _).mono ?_
              rintro e w3 ⟨rfl, hb3⟩
              have hb03 := Below.then hbr hb3
              have m7 := keptC hb3 hc7
              have m0 := keptC hb3 c0
              have m1 := keptC hb3 c1
              have m3 := keptC hb3 c3
              go_wp2_with fail
              refine (unhide HRA _).mono ?_
              rintro e w4 ⟨rfl, hb4⟩
              have hb0W := Below.then hb03 hb4
              have f0 := keptC hb4 m0
              have f1 := keptC hb4 m1
              have f3 := keptC hb4 m3
              have HR2 := hide (owns_below (owns_below (unhide HRW) hb3) hb4)
              clear m0 m1 m3 m7 c0 c1 c3 hc7 HRW
              obtain ⟨i0, hi, hz0, hz1, hz2⟩ := info_parts infoStrD
              have hszW := hb0W.size
              go_wp2_with (at_builtin; refine wpList_append_own _ rfl _ _ 45 rfl w.heap.size 9 i0 _ 1 16 Tryz.underlying45 hi hz0 hz1 hz2 rfl (by decide) _ o.length (o.map Value.string) rfl (owns_below (unhide HR2) ((Below.refl _ _).alloc (Nat.le_refl _) _)) ⟨w4.heap.size, 0, none⟩ 1 1 [.string nm] rfl rfl (newsOne (by simp [go_sem])) (fun u hu => by simp at hu; subst hu; rfl) (by unfold maxLen; omega) (by omega) (by simp; omega) ?_; intro v8 w8 hown8 hgrow8 _; obtain ⟨a8, c8, rfl⟩ := owns_slice hown8)
              have hb8 : Below w.heap.size w w8 := (Below.then hb0W ((Below.refl _ _).alloc (Nat.le_refl _) _)).grown hgrow8 (by simp; omega) (fun j hj => ((unhide HR2).lt j hj).1)
              have HI8 := hide (unhide HI _ w8 (unhide HNB) rfl hb8 (by rw [nextO2 rfl, List.length_append, List.map_append]; exact hown8))
              rw [nextO2 rfl] at HI8
              clear HI hown8 hgrow8 hi hz0 hz1 hz2
              go_wp2_with fail
              go_round
              case measure => simp [intOf]; omega
              case rel => exact ⟨k + 1, o ++ [nm], by simp, HI8⟩
            | true =>
              rw [hra] at HRA
              have HF : Hid (refHt [] ts = false) := hide (unhide HBAD (by rw [unhide HB, hvo, hra]; rfl))
              go_wp2_with fail
              refine (unhide HVO _).mono ?_
              rintro e w3 ⟨rfl, hb3⟩
              have hb03 := Below.then hbr hb3
              have m7 := keptC hb3 hc7
              have m0 := keptC hb3 c0
              have m1 := keptC hb3 c1
              have m3 := keptC hb3 c3
              go_wp2_with fail
              refine (unhide HRA _).mono ?_
              rintro e w4 ⟨rfl, hb4⟩
              have hb0W := Below.then hb03 hb4
              have f0 := keptC hb4 m0
              have f1 := keptC hb4 m1
              have f3 := keptC hb4 m3
              have HR2 := hide (owns_below (owns_below (unhide HRW) hb3) hb4)
              clear m0 m1 m3 m7 c0 c1 c3 hc7 HRW
              go_wp2
              go_ret
              exact ⟨ret_html (unhide HF), hb0W⟩
      · cases hg : o.getLast? with
        | none =>
          exact absurd (List.getLast?_eq_none_iff.1 hg) (unhide H7 rfl)
        | some y =>
          have hne : o ≠ [] := fun h0 => by rw [h0] at hg; cases hg
          have hol := List.length_pos_iff.2 hne
          have hyn := unhide HNM y (List.mem_of_getLast? hg)
          obtain ⟨g7, c7, he7, hc7, hle7⟩ := strs_last (unhide HRW) hg
          cases he7
          have g0 : (0 : Int) < (o.length : Int) := by omega
          have i1 : (0 : Int) ≤ (o.length : Int) - 1 := by omega
          have i2 : (o.length : Int) - 1 < (o.length : Int) := by omega
          have i3 : ((o.length : Int) - 1).toNat = o.length - 1 := by omega
          have i4 : IntKind.i64.wrap ((o.length : Int) - 1) = (o.length : Int) - 1 := by rw [IntKind.wrap_i64]; omega
          have i5 : wrap64 ((o.length : Int) - 1) = (o.length : Int) - 1 := by unfold wrap64; omega
          have HNB : Hid (badIn o ⟨7, nm, ats, tx'⟩ = false) := hide (by unfold badIn; rw [hg]; rfl)
          have HR2 := HRW
          have hb0W := hbr
          clear hg hne HNM HBAD H7
          have hb0q := hb0W
          have HI8 := hide (unhide HI _ wr (unhide HNB) rfl hb0W (by rw [nextO7 rfl]; exact strs_drop (unhide HR2)))
          rw [nextO7 rfl] at HI8
          clear HI
          go_wp2_with fail
          go_round
          case measure => simp [intOf]; omega
          case rel => exact ⟨k + 1, o.dropLast, by simp, HI8⟩
      · cases hg : o.getLast? with
        | none =>
          have HNB : Hid (badIn o ⟨4, nm, ats, tx'⟩ = false) := hide (by unfold badIn; rw [hg])
          have hoe : o.length = 0 := by rw [List.getLast?_eq_none_iff.1 hg]; rfl
          have HR2 := HRW
          have hb0W := hbr
          clear hg HNM HBAD H7
          have g0 : ¬ (0 : Int) < (o.length : Int) := by omega
          clear hoe
          have HI8 := hide (unhide HI (.slice ao o.length co) wr (unhide HNB) rfl hb0W (by rw [nextO0 (by simp) (by simp)]; exact unhide HR2))
          rw [nextO0 (by simp) (by simp)] at HI8
          clear HI
          go_wp2_with fail
          go_round
          case measure => simp [intOf]; omega
          case rel => exact ⟨k + 1, o, by simp, HI8⟩
        | some y =>
          have hne : o ≠ [] := fun h0 => by rw [h0] at hg; cases hg
          have hol := List.length_pos_iff.2 hne
          have hyn := unhide HNM y (List.mem_of_getLast? hg)
          obtain ⟨g7, c7, he7, hc7, hle7⟩ := strs_last (unhide HRW) hg
          cases he7
          have g0 : (0 : Int) < (o.length : Int) := by omega
          have i1 : (0 : Int) ≤ (o.length : Int) - 1 := by omega
          have i2 : (o.length : Int) - 1 < (o.length : Int) := by omega
          have i3 : ((o.length : Int) - 1).toNat = o.length - 1 := by omega
          have i4 : IntKind.i64.wrap ((o.length : Int) - 1) = (o.length : Int) - 1 := by rw [IntKind.wrap_i64]; omega
          have i5 : wrap64 ((o.length : Int) - 1) = (o.length : Int) - 1 := by unfold wrap64; omega
          have HB : Hid (badIn o ⟨4, nm, ats, tx'⟩ = (voidB y || (rawB y && (Lib.contains tx'.data.toList [60, 47])))) := hide (by unfold badIn; rw [hg]; rfl)
          have HVO := hide (fun W => refVoid_any y W hyn)
          have HRA := hide (fun W => refRaw_any y W hyn)
          have HHE := hide (fun W => refHas_any tx' ⟨#[60, 47]⟩ W htxz (by decide) (by decide))
          clear hg hne HNM H7
          cases hvo : voidB y with
          | true =>
            rw [hvo] at HVO
            have HF : Hid (refHt [] ts = false) := hide (unhide HBAD (by rw [unhide HB, hvo, Bool.true_or]))
            go_wp2_with fail
            refine (unhide HVO _).mono ?_
            rintro e w3 ⟨rfl, hb3⟩
            have hb03 := Below.then hbr hb3
            have m7 := keptC hb3 hc7
            have m0 := keptC hb3 c0
            have m1 := keptC hb3 c1
            have m3 := keptC hb3 c3
            have hb0W := hb03
            go_wp2
            go_ret
            exact ⟨ret_html (unhide HF), hb0W⟩
          | false =>
            rw [hvo] at HVO
            cases hra : rawB y with
            | false =>
              rw [hra] at HRA
              have HNB : Hid (badIn o ⟨4, nm, ats, tx'⟩ = false) := hide (by rw [unhide HB, hvo, hra, Bool.false_and, Bool.or_false])
              go_wp2_with fail
              refine (unhide HVO _).mono ?_
              rintro e w3 ⟨rfl, hb3⟩
              have hb03 := Below.then hbr hb3
              have m7 := keptC hb3 hc7
              have m0 := keptC hb3 c0
              have m1 := keptC hb3 c1
              have m3 := keptC hb3 c3
              go_wp2_with fail
              refine (unhide HRA _).mono ?_
              rintro e w4 ⟨rfl, hb4⟩
              have hb0W := Below.then hb03 hb4
              have f0 := keptC hb4 m0
              have f1 := keptC hb4 m1
              have f3 := keptC hb4 m3
              have HR2 := hide (owns_below (owns_below (unhide HRW) hb3) hb4)
              clear m0 m1 m3 m7 c0 c1 c3 hc7 HRW
              have HI8 := hide (unhide HI _ w4 (unhide HNB) rfl hb0W (by rw [nextO0 (by simp) (by simp)]; exact unhide HR2))
              rw [nextO0 (by simp) (by simp)] at HI8
              clear HI
              go_wp2_with fail
              go_round
              case measure => simp [intOf]; omega
              case rel => exact ⟨k + 1, o, by simp, HI8⟩
            | true =>
              rw [hra] at HRA
              cases hhe : Lib.contains tx'.data.toList [60, 47] with
              | true =>
                rw [show Lib.contains tx'.data.toList (⟨#[60, 47]⟩ : ByteArray).data.toList = true from hhe] at HHE
                have HF : Hid (refHt [] ts = false) := hide (unhide HBAD (by rw [unhide HB, hvo, hra, hhe]; rfl))
                go_wp2_with fail
                refine (unhide HVO _).mono ?_
                rintro e w3 ⟨rfl, hb3⟩
                have hb03 := Below.then hbr hb3
                have m7 := keptC hb3 hc7
                have m0 := keptC hb3 c0
                have m1 := keptC hb3 c1
                have m3 := keptC hb3 c3
                go_wp2_with fail
                refine (unhide HRA _).mono ?_
                rintro e w4 ⟨rfl, hb4⟩
                have hb0W := Below.then hb03 hb4
                have f0 := keptC hb4 m0
                have f1 := keptC hb4 m1
                have f3 := keptC hb4 m3
                have HR2 := hide (owns_below (owns_below (unhide HRW) hb3) hb4)
                clear m0 m1 m3 m7 c0 c1 c3 hc7 HRW
                go_wp2_with fail
                refine (unhide HHE _).mono ?_
                rintro e w5 ⟨rfl, rfl⟩
                go_wp2
                go_ret
                exact ⟨ret_html (unhide HF), hb0W⟩
              | false =>
                rw [show Lib.contains tx'.data.toList (⟨#[60, 47]⟩ : ByteArray).data.toList = false from hhe] at HHE
                have HNB : Hid (badIn o ⟨4, nm, ats, tx'⟩ = false) := hide (by rw [unhide HB, hvo, hra, hhe]; rfl)
                go_wp2_with fail
                refine (unhide HVO _).mono ?_
                rintro e w3 ⟨rfl, hb3⟩
                have hb03 := Below.then hbr hb3
                have m7 := keptC hb3 hc7
                have m0 := keptC hb3 c0
                have m1 := keptC hb3 c1
                have m3 := keptC hb3 c3
                go_wp2_with fail
                refine (unhide HRA _).mono ?_
                rintro e w4 ⟨rfl, hb4⟩
                have hb0W := Below.then hb03 hb4
                have f0 := keptC hb4 m0
                have f1 := keptC hb4 m1
                have f3 := keptC hb4 m3
                have HR2 := hide (owns_below (owns_below (unhide HRW) hb3) hb4)
                clear m0 m1 m3 m7 c0 c1 c3 hc7 HRW
                go_wp2_with fail
                refine (unhide HHE _).mono ?_
                rintro e w5 ⟨rfl, rfl⟩
                have HI8 := hide (unhide HI _ w5 (unhide HNB) rfl hb0W (by rw [nextO0 (by simp) (by simp)]; exact unhide HR2))
                rw [nextO0 (by simp) (by simp)] at HI8
                clear HI
                go_wp2_with fail
                go_round
                case measure => simp [intOf]; omega
                case rel => exact ⟨k + 1, o, by simp, HI8⟩
      · cases hg : o.getLast? with
        | none =>
          have HNB : Hid (badIn o ⟨5, nm, ats, tx'⟩ = false) := hide (by unfold badIn; rw [hg])
          have hoe : o.length = 0 := by rw [List.getLast?_eq_none_iff.1 hg]; rfl
          have HR2 := HRW
          have hb0W := hbr
          clear hg HNM HBAD H7
          have g0 : ¬ (0 : Int) < (o.length : Int) := by omega
          clear hoe
          have HI8 := hide (unhide HI (.slice ao o.length co) wr (unhide HNB) rfl hb0W (by rw [nextO0 (by simp) (by simp)]; exact unhide HR2))
          rw [nextO0 (by simp) (by simp)] at HI8
          clear HI
          go_wp2_with fail
          go_round
          case measure => simp [intOf]; omega
          case rel => exact ⟨k + 1, o, by simp, HI8⟩
        | some y =>
          have hne : o ≠ [] := fun h0 => by rw [h0] at hg; cases hg
          have hol := List.length_pos_iff.2 hne
          have hyn := unhide HNM y (List.mem_of_getLast? hg)
          obtain ⟨g7, c7, he7, hc7, hle7⟩ := strs_last (unhide HRW) hg
          cases he7
          have g0 : (0 : Int) < (o.length : Int) := by omega
          have i1 : (0 : Int) ≤ (o.length : Int) - 1 := by omega
          have i2 : (o.length : Int) - 1 < (o.length : Int) := by omega
          have i3 : ((o.length : Int) - 1).toNat = o.length - 1 := by omega
          have i4 : IntKind.i64.wrap ((o.length : Int) - 1) = (o.length : Int) - 1 := by rw [IntKind.wrap_i64]; omega
          have i5 : wrap64 ((o.length : Int) - 1) = (o.length : Int) - 1 := by unfold wrap64; omega
          have HB : Hid (badIn o ⟨5, nm, ats, tx'⟩ = (voidB y || (rawB y && (true)))) := hide (by unfold badIn; rw [hg]; rfl)
          have HVO := hide (fun W => refVoid_any y W hyn)
          have HRA := hide (fun W => refRaw_any y W hyn)
          have HHE := hide (fun W => refHas_any tx' ⟨#[60, 47]⟩ W htxz (by decide) (by decide))
          clear hg hne HNM H7
          cases hvo : voidB y with
          | true =>
            rw [hvo] at HVO
            have HF : Hid (refHt [] ts = false) := hide (unhide HBAD (by rw [unhide HB, hvo, Bool.true_or]))
            go_wp2_with fail
            refine (unhide HVO _).mono ?_
            rintro e w3 ⟨rfl, hb3⟩
            have hb03 := Below.then hbr hb3
            have m7 := keptC hb3 hc7
            have m0 := keptC hb3 c0
            have m1 := keptC hb3 c1
            have m3 := keptC hb3 c3
            have hb0W := hb03
            go_wp2
            go_ret
            exact ⟨ret_html (unhide HF), hb0W⟩
          | false =>
            rw [hvo] at HVO
            cases hra : rawB y with
            | false =>
              rw [hra] at HRA
              have HNB : Hid (badIn o ⟨5, nm, ats, tx'⟩ = false) := hide (by rw [unhide HB, hvo, hra, Bool.false_and, Bool.or_false])
              go_wp2_with fail
              refine (unhide HVO _).mono ?_
              rintro e w3 ⟨rfl, hb3⟩
              have hb03 := Below.then hbr hb3
              have m7 := keptC hb3 hc7
              have m0 := keptC hb3 c0
              have m1 := keptC hb3 c1
              have m3 := keptC hb3 c3
              go_wp2_with fail
              refine (unhide HRA _).mono ?_
              rintro e w4 ⟨rfl, hb4⟩
              have hb0W := Below.then hb03 hb4
              have f0 := keptC hb4 m0
              have f1 := keptC hb4 m1
              have f3 := keptC hb4 m3
              have HR2 := hide (owns_below (owns_below (unhide HRW) hb3) hb4)
              clear m0 m1 m3 m7 c0 c1 c3 hc7 HRW
              have HI8 := hide (unhide HI _ w4 (unhide HNB) rfl hb0W (by rw [nextO0 (by simp) (by simp)]; exact unhide HR2))
              rw [nextO0 (by simp) (by simp)] at HI8
              clear HI
              go_wp2_with fail
              go_round
              case measure => simp [intOf]; omega
              case rel => exact ⟨k + 1, o, by simp, HI8⟩
            | true =>
              rw [hra] at HRA
              have HF : Hid (refHt [] ts = false) := hide (unhide HBAD (by rw [unhide HB, hvo, hra]; rfl))
              go_wp2_with fail
              refine (unhide HVO _).mono ?_
              rintro e w3 ⟨rfl, hb3⟩
              have hb03 := Below.then hbr hb3
              have m7 := keptC hb3 hc7
              have m0 := keptC hb3 c0
              have m1 := keptC hb3 c1
              have m3 := keptC hb3 c3
              go_wp2_with fail
              refine (unhide HRA _).mono ?_
              rintro e w4 ⟨rfl, hb4⟩
              have hb0W := Below.then hb03 hb4
              have f0 := keptC hb4 m0
              have f1 := keptC hb4 m1
              have f3 := keptC hb4 m3
              have HR2 := hide (owns_below (owns_below (unhide HRW) hb3) hb4)
              clear m0 m1 m3 m7 c0 c1 c3 hc7 HRW
              go_wp2
              go_ret
              exact ⟨ret_html (unhide HF), hb0W⟩
      · cases hg : o.getLast? with
        | none =>
          have HNB : Hid (badIn o ⟨6, nm, ats, tx'⟩ = false) := hide (by unfold badIn; rw [hg])
          have hoe : o.length = 0 := by rw [List.getLast?_eq_none_iff.1 hg]; rfl
          have HR2 := HRW
          have hb0W := hbr
          clear hg HNM HBAD H7
          have g0 : ¬ (0 : Int) < (o.length : Int) := by omega
          clear hoe
          have HHS := hide (refHas_any tx' ⟨#[62]⟩ wr htxz (by decide) (by decide))
          cases hgt : Lib.contains tx'.data.toList [62] with
          | true =>
            have HF : Hid (refHt [] ts = false) := hide (unhide HGT (unhide HNB) (by show (true && Lib.contains tx'.data.toList [62]) = true; rw [hgt]; rfl))
            rw [show Lib.contains tx'.data.toList (⟨#[62]⟩ : ByteArray).data.toList = true from hgt] at HHS
            go_wp2_with fail
            refine (unhide HHS).mono ?_
            rintro e w7 ⟨rfl, rfl⟩
            go_wp2
            go_ret
            exact ⟨ret_html (unhide HF), hb0W⟩
          | false =>
            have HI8 := hide (unhide HI (.slice ao o.length co) wr (unhide HNB) (by show (true && Lib.contains tx'.data.toList [62]) = false; rw [hgt]; rfl) hb0W (by rw [nextO0 (by simp) (by simp)]; exact unhide HR2))
            rw [nextO0 (by simp) (by simp)] at HI8
            rw [show Lib.contains tx'.data.toList (⟨#[62]⟩ : ByteArray).data.toList = false from hgt] at HHS
            clear HI
            go_wp2_with fail
            refine (unhide HHS).mono ?_
            rintro e w7 ⟨rfl, rfl⟩
            go_wp2_with fail
            go_round
            case measure => simp [intOf]; omega
            case rel => exact ⟨k + 1, o, by simp, HI8⟩
        | some y =>
          have hne : o ≠ [] := fun h0 => by rw [h0] at hg; cases hg
          have hol := List.length_pos_iff.2 hne
          have hyn := unhide HNM y (List.mem_of_getLast? hg)
          obtain ⟨g7, c7, he7, hc7, hle7⟩ := strs_last (unhide HRW) hg
          cases he7
          have g0 : (0 : Int) < (o.length : Int) := by omega
          have i1 : (0 : Int) ≤ (o.length : Int) - 1 := by omega
          have i2 : (o.length : Int) - 1 < (o.length : Int) := by omega
          have i3 : ((o.length : Int) - 1).toNat = o.length - 1 := by omega
          have i4 : IntKind.i64.wrap ((o.length : Int) - 1) = (o.length : Int) - 1 := by rw [IntKind.wrap_i64]; omega
          have i5 : wrap64 ((o.length : Int) - 1) = (o.length : Int) - 1 := by unfold wrap64; omega
          have HB : Hid (badIn o ⟨6, nm, ats, tx'⟩ = (voidB y || (rawB y && (true)))) := hide (by unfold badIn; rw [hg]; rfl)
          have HVO := hide (fun W => refVoid_any y W hyn)
          have HRA := hide (fun W => refRaw_any y W hyn)
          have HHE := hide (fun W => refHas_any tx' ⟨#[60, 47]⟩ W htxz (by decide) (by decide))
          clear hg hne HNM H7
          cases hvo : voidB y with
          | true =>
            rw [hvo] at HVO
            have HF : Hid (refHt [] ts = false) := hide (unhide HBAD (by rw [unhide HB, hvo, Bool.true_or]))
            go_wp2_with fail
            refine (unhide HVO _).mono ?_
            rintro e w3 ⟨rfl, hb3⟩
            have hb03 := Below.then hbr hb3
            have m7 := keptC hb3 hc7
            have m0 := keptC hb3 c0
            have m1 := keptC hb3 c1
            have m3 := keptC hb3 c3
            have hb0W := hb03
            go_wp2
            go_ret
            exact ⟨ret_html (unhide HF), hb0W⟩
          | false =>
            rw [hvo] at HVO
            cases hra : rawB y with
            | false =>
              rw [hra] at HRA
              have HNB : Hid (badIn o ⟨6, nm, ats, tx'⟩ = false) := hide (by rw [unhide HB, hvo, hra, Bool.false_and, Bool.or_false])
              go_wp2_with fail
              refine (unhide HVO _).mono ?_
              rintro e w3 ⟨rfl, hb3⟩
              have hb03 := Below.then hbr hb3
              have m7 := keptC hb3 hc7
              have m0 := keptC hb3 c0
              have m1 := keptC hb3 c1
              have m3 := keptC hb3 c3
              go_wp2_with fail
              refine (unhide HRA _).mono ?_
              rintro e w4 ⟨rfl, hb4⟩
              have hb0W := Below.then hb03 hb4
              have f0 := keptC hb4 m0
              have f1 := keptC hb4 m1
              have f3 := keptC hb4 m3
              have HR2 := hide (owns_below (owns_below (unhide HRW) hb3) hb4)
              clear m0 m1 m3 m7 c0 c1 c3 hc7 HRW
              have HHS := hide (refHas_any tx' ⟨#[62]⟩ w4 htxz (by decide) (by decide))
              cases hgt : Lib.contains tx'.data.toList [62] with
              | true =>
                have HF : Hid (refHt [] ts = false) := hide (unhide HGT (unhide HNB) (by show (true && Lib.contains tx'.data.toList [62]) = true; rw [hgt]; rfl))
                rw [show Lib.contains tx'.data.toList (⟨#[62]⟩ : ByteArray).data.toList = true from hgt] at HHS
                go_wp2_with fail
                refine (unhide HHS).mono ?_
                rintro e w7 ⟨rfl, rfl⟩
                go_wp2
                go_ret
                exact ⟨ret_html (unhide HF), hb0W⟩
              | false =>
                have HI8 := hide (unhide HI _ w4 (unhide HNB) (by show (true && Lib.contains tx'.data.toList [62]) = false; rw [hgt]; rfl) hb0W (by rw [nextO0 (by simp) (by simp)]; exact unhide HR2))
                rw [nextO0 (by simp) (by simp)] at HI8
                rw [show Lib.contains tx'.data.toList (⟨#[62]⟩ : ByteArray).data.toList = false from hgt] at HHS
                clear HI
                go_wp2_with fail
                refine (unhide HHS).mono ?_
                rintro e w7 ⟨rfl, rfl⟩
                go_wp2_with fail
                go_round
                case measure => simp [intOf]; omega
                case rel => exact ⟨k + 1, o, by simp, HI8⟩
            | true =>
              rw [hra] at HRA
              have HF : Hid (refHt [] ts = false) := hide (unhide HBAD (by rw [unhide HB, hvo, hra]; rfl))
              go_wp2_with fail
              refine (unhide HVO _).mono ?_
              rintro e w3 ⟨rfl, hb3⟩
              have hb03 := Below.then hbr hb3
              have m7 := keptC hb3 hc7
              have m0 := keptC hb3 c0
              have m1 := keptC hb3 c1
              have m3 := keptC hb3 c3
              go_wp2_with fail
              refine (unhide HRA _).mono ?_
              rintro e w4 ⟨rfl, hb4⟩
              have hb0W := Below.then hb03 hb4
              have f0 := keptC hb4 m0
              have f1 := keptC hb4 m1
              have f3 := keptC hb4 m3
              have HR2 := hide (owns_below (owns_below (unhide HRW) hb3) hb4)
              clear m0 m1 m3 m7 c0 c1 c3 hc7 HRW
              go_wp2
              go_ret
              exact ⟨ret_html (unhide HF), hb0W⟩
    · have n2 : ¬ (k : Int) < (ts.length : Int) := by omega
      have HF : Hid (refHt [] ts = true) := hide (by rw [unhide HSP0, show k = ts.length by omega, List.drop_length]; rfl)
      clear HSP0 HDC HRW
      go_wp2
      go_ret
      exact ⟨ret_html (unhide HF), hbr⟩
end Go.Proofs.YtefjfjieoiegnaaGreatDoor
/- The reference's start: a start tag without its end. -/
namespace Go.Proofs.YtefjfjieoiegnaaGreatDoor
open Go.RowKit
def startW (h : Bool) : ByteArray × ByteArray → List UInt8 := if h then hAttrB else attrB
def startO (h : Bool) (t : BTok) : List UInt8 := 60 :: (t.name.data.toList ++ t.attrs.flatMap (startW h))
def startK (h : Bool) (t : BTok) (k : Nat) : List UInt8 := 60 :: (t.name.data.toList ++ (t.attrs.take k).flatMap (startW h))
theorem startK_step {h : Bool} {t : BTok} {k : Nat} {y : ByteArray × ByteArray} (hy : t.attrs[k]? = some y) : startK h t (k + 1) = startK h t k ++ startW h y := by
  obtain ⟨hk, he⟩ := List.getElem?_eq_some_iff.1 hy
  unfold startK
  rw [List.take_succ_eq_append_getElem hk, he, List.flatMap_append]
  simp
theorem startK_len {h : Bool} {t : BTok} (k : Nat) (hs : Small t) (hl : t.attrs.length ≤ 64) : (startK h t k).length ≤ 480000000 := by
  have h1 : ((t.attrs.take k).flatMap (startW h)).length ≤ (t.attrs.take k).length * 7340036 := by
    cases h with
    | true => exact TagH_len (fun y hy => hs.a y (List.mem_of_mem_take hy))
    | false => exact TagX_len (fun y hy => hs.a y (List.mem_of_mem_take hy))
  have h2 : (t.attrs.take k).length ≤ 64 := by rw [List.length_take]; omega
  have h3 : (t.attrs.take k).length * 7340036 ≤ 469762304 := by omega
  have h4 : t.name.data.toList.length = t.name.size := rfl
  have h5 := hs.n
  unfold startK
  simp only [List.length_cons, List.length_append]
  omega
set_option maxRecDepth 100000 in
set_option maxHeartbeats 8000000 in
theorem refStart_any (h : Bool) (t : BTok) (u : Pl) (w : World) (hv : PairsArg w (.slice u.1 t.attrs.length u.2) t.attrs) (hs : Small t) (hl : t.attrs.length ≤ 64) :
    Calls Tryz.prog 65 #[.agg #[.int .i64 t.kind, .string t.name, .slice u.1 t.attrs.length u.2, .string t.text], .bool h] w fun e w' => ∃ s : ByteArray, e = .returned (.string s) ∧ s.data.toList = startO h t ∧ Below w.heap.size w w' := by
  have hbA : Below w.heap.size w (w.alloc (.cells #[.int .i64 t.kind, .string t.name, .slice u.1 t.attrs.length u.2, .string t.text] 37)) := (Below.refl _ _).alloc (Nat.le_refl _) _
  have HBA := hide hbA
  have HSZ := hide hbA.size
  have HPV := hide (hv.below hbA)
  have HLN : Hid (∀ k, (startK h t k).length ≤ 480000000) := hide fun k => startK_len k hs hl
  have HTA := hide hs.a
  have HAL : Hid (startK h t t.attrs.length = startO h t) := hide (by unfold startK startO; rw [List.take_length])
  have hnm := hs.n
  have HC2 : Hid ((w.alloc (.cells #[.int .i64 t.kind, .string t.name, .slice u.1 t.attrs.length u.2, .string t.text] 37)).cell? ⟨w.heap.size, 2, none⟩ = some (.slice u.1 t.attrs.length u.2)) := hide (by simp [go_sem])
  obtain ⟨ua, uc⟩ := u
  simp only at *
  clear hv hs hbA
  go_enter Tryz.func65, Tryz.ntmps65
  go_wp2_with fail
  generalize hW1 : w.alloc (.cells #[.int .i64 t.kind, .string t.name, .slice ua t.attrs.length uc, .string t.text] 37) = W1 at *
  clear hW1
  generalize hbx : w.heap.size = bx at *
  have HBX := hide hbx
  clear hbx
  go_loopw [5, 6] (fun s i wr => ∃ (k : Nat) (O : ByteArray), i = .int .i64 (k : Nat) ∧ s = .string O ∧ k ≤ t.attrs.length ∧ Hid (O.data.toList = startK h t k) ∧ Below W1.heap.size W1 wr) (fun _ i _ => t.attrs.length - (intOf i).toNat)
  case atStart => exact ⟨0, _, rfl, rfl, Nat.zero_le _, hide (by simp [startK, ByteArray.data_append]), Below.refl _ _⟩
  case round =>
    obtain ⟨k, P, rfl, rfl, hk, HP, hbr⟩ := hrel
    have hPs : P.size ≤ 480000000 := by
      have h1 := unhide HLN k
      rw [← unhide HP] at h1
      exact h1
    have d2 := keptC hbr (unhide HC2)
    by_cases hlt : k < t.attrs.length
    · obtain ⟨y, hy⟩ : ∃ y, t.attrs[k]? = some y := ⟨t.attrs[k], List.getElem?_eq_getElem hlt⟩
      obtain ⟨hy1, hy2⟩ := unhide HTA y (List.mem_of_getElem? hy)
      obtain ⟨q1, q2, hq, hcells⟩ := (unhide HPV).below hbr
      obtain ⟨g3, o3, ha3, hc3⟩ := hcells (by intro h0; rw [h0] at hlt; cases hlt)
      cases hq
      subst ha3
      obtain ⟨x0, x1⟩ := hc3 k y hy
      have m1 : (0 : Int) ≤ (k : Int) := by omega
      have m2 : (k : Int) < (t.attrs.length : Int) := by omega
      have HST := hide (startK_step (h := h) hy)
      clear hcells hc3 hy
      cases h with
      | true =>
        have HA : Hid (∀ W, Calls Tryz.prog 110 #[.agg #[.string y.1, .string y.2]] W fun e w' => ∃ s : ByteArray, e = .returned (.string s) ∧ s.data.toList = hAttrB y ∧ Below W.heap.size W w') := hide fun W => refAttr_any y W ⟨hy1, hy2⟩
        have HAS : Hid ((hAttrB y).length ≤ 7340036) := hide (hAttrB_len ⟨hy1, hy2⟩)
        go_wp2_with fail
        refine (unhide HA _).mono ?_
        rintro e w3 ⟨E, rfl, hE, hb3⟩
        have hEs : E.size ≤ 7340036 := by
          have h1 := unhide HAS
          rw [← hE] at h1
          exact h1
        have HF : Hid ((P ++ E).data.toList = startK true t (k + 1)) := hide (by rw [unhide HST]; exact bytes_two _ _ _ _ (unhide HP) hE)
        clear hE HST
        go_wp2_with fail
        exact ⟨⟨k + 1, _, by go_num, rfl, hlt, HF, Below.then hbr hb3⟩, by simp [intOf]; omega⟩
      | false =>
        have hqm := mapO_len quo_few y.2.data.toList
        rw [sizeB] at hqm
        obtain ⟨E, hE⟩ : ∃ E : ByteArray, E = ⟨(mapO quoO y.2.data.toList).toArray⟩ := ⟨_, rfl⟩
        have hEs : E.size ≤ 6291456 := by rw [hE]; show (mapO quoO y.2.data.toList).length ≤ _; omega
        have HEq : Hid (∀ W, Calls Tryz.prog 111 #[.string y.2] W fun e w' => e = .returned (.string E) ∧ w' = W) := hide (fun W => by rw [hE]; exact refQuote_any y.2 W hy2)
        have HF : Hid ((P ++ ((⟨#[32]⟩ : ByteArray) ++ y.1 ++ (⟨#[61, 34]⟩ : ByteArray) ++ E ++ (⟨#[34]⟩ : ByteArray))).data.toList = startK false t (k + 1)) := hide (by
          rw [unhide HST, ← unhide HP, hE]
          simp [startW, attrB, ByteArray.data_append])
        have f1 : (9223372036854775807 < 1 + y.1.size) = False := eq_false (by omega)
        have f2 : (9223372036854775807 < 1 + y.1.size + 2) = False := eq_false (by omega)
        have f3 : (9223372036854775807 < 1 + y.1.size + 2 + E.size) = False := eq_false (by omega)
        have f4 : (9223372036854775807 < 1 + y.1.size + 2 + E.size + 1) = False := eq_false (by omega)
        have f5 : (9223372036854775807 < P.size + (1 + y.1.size + 2 + E.size + 1)) = False := eq_false (by omega)
        have HCE : Hid (∀ w', ClsW wr w' → w'.cell? ⟨bx, 2, none⟩ = some (.slice (some ⟨g3, o3, none⟩) t.attrs.length uc) ∧ w'.cell? ⟨g3, o3 + k * 2, none⟩ = some (.string y.1) ∧ w'.cell? ⟨g3, o3 + k * 2 + 1, none⟩ = some (.string y.2)) := hide fun w' h => ⟨keptC h.bel d2, keptC h.bel x0, keptC h.bel x1⟩
        have HX : Hid (ClsW wr wr.drew) := hide ⟨(Below.refl _ _).drew⟩
        clear hE hqm x0 x1 HST
        go_wp2_with fail
        refine wp_region_cls (ClsW wr) (by kernel_rfl) (by kernel_rfl) (unhide HX) ?_
        repeat
          (first
            | go_big_quiet_skip
            | (go_big_quiet_want
               go_big_quiet_op
               first
                 | go_big_quiet_on
                 | (apply Exists.intro
                    refine ⟨fun w' hC => ?_, ?_⟩
                    · (first
                        | (go_at_call 111; refine (unhide HEq _).mono ?_; rintro e w3 ⟨rfl, rfl⟩; exact ⟨rfl, hC⟩)
                        | (obtain ⟨k0, k1, k2⟩ := unhide HCE _ hC; go_simp; first | done | rfl))
                    go_big_quiet_on)))
        refine wpQuiet_nil ?_
        intro w4 hC4
        have hb4 := hC4.bel
        clear HCE hC4 d2
        go_wp2_with fail
        exact ⟨⟨k + 1, _, by go_num, rfl, hlt, HF, Below.then hbr hb4⟩, by simp [intOf]; omega⟩
    · have n2 : ¬ (k : Int) < (t.attrs.length : Int) := by omega
      have HF : Hid (P.data.toList = startO h t) := hide (by rw [unhide HP, ← unhide HAL, show k = t.attrs.length by omega])
      go_wp2
      go_ret
      exact ⟨_, rfl, unhide HF, by rw [unhide HBX]; exact (unhide HBA).trans (hbr.mono (unhide HSZ))⟩
end Go.Proofs.YtefjfjieoiegnaaGreatDoor
/- The reference's one: a token as text, among those next to it. -/
namespace Go.Proofs.YtefjfjieoiegnaaGreatDoor
open Go.RowKit
/-- What one tells. -/
def soleO (h : Bool) (t a c : BTok) : List UInt8 := if h then htmlO t a else xmlO t a c
/-- Tokens that may be asked for: an element has one behind it, an end one ahead. -/
structure OneOk (ts : List BTok) (k : Nat) : Prop where
  lt : k < ts.length
  ok : okB (tkAt ts k) = true
  few : (tkAt ts k).attrs.length ≤ 64
  behind : (tkAt ts k).kind = 2 → k + 1 < ts.length
  ahead : (tkAt ts k).kind = 7 → 0 < k
theorem one_elem (h : Bool) {t a c : BTok} (hk : t.kind = 2) : soleO h t a c = startO h t ++ (if c.kind = 7 ∧ h = false then [47, 62] else [62]) := by
  cases h with
  | true =>
    show htmlO t a = 60 :: (t.name.data.toList ++ t.attrs.flatMap hAttrB) ++ _
    rw [if_neg (by simp)]
    unfold htmlO bothB
    rw [if_neg (by omega), if_neg (by omega), if_neg (by omega), if_pos hk]
    simp
  | false =>
    show xmlO t a c = 60 :: (t.name.data.toList ++ t.attrs.flatMap attrB) ++ _
    unfold xmlO bothB
    by_cases hc : c.kind = 7
    · rw [if_pos ⟨hk, hc⟩, if_pos ⟨hc, rfl⟩]
      simp
    · rw [if_neg (fun e => hc e.2), if_neg (by omega), if_neg (by omega), if_pos hk, if_neg (fun e => hc e.1)]
      simp
theorem one_fin (h : Bool) {t a c : BTok} (hk : t.kind = 7) : soleO h t a c = if (a.kind = 2 ∧ h = false) ∨ (h = true ∧ voidB t.name = true) then [] else 60 :: 47 :: (t.name.data.toList ++ [62]) := by
  unfold soleO
  cases h with
  | true =>
    rw [if_pos rfl]
    unfold htmlO bothB
    by_cases hv : voidB t.name = true
    · rw [if_pos ⟨hk, hv⟩, if_pos (.inr ⟨rfl, hv⟩)]
    · rw [if_neg (fun e => hv e.2), if_neg (by omega), if_neg (by omega), if_neg (by omega), if_pos hk, if_neg (by simp [hv])]
  | false =>
    unfold xmlO bothB
    by_cases ha : a.kind = 2
    · rw [if_neg (by decide), if_neg (by omega), if_pos ⟨hk, ha⟩, if_pos (.inl ⟨ha, rfl⟩)]
    · rw [if_neg (by decide), if_neg (by omega), if_neg (fun e => ha e.2), if_neg (by omega), if_neg (by omega), if_pos hk, if_neg (by simp [ha])]
theorem one_text (h : Bool) {t a c : BTok} (hk : t.kind = 4) : soleO h t a c = if h = true ∧ rawS a = true then t.text.data.toList else mapO escO t.text.data.toList := by
  unfold soleO
  cases h with
  | true =>
    rw [if_pos rfl]
    unfold htmlO bothB
    by_cases hv : rawS a = true
    · rw [if_neg (by omega), if_pos ⟨hk, hv⟩, if_pos ⟨rfl, hv⟩]
    · rw [if_neg (by omega), if_neg (fun e => hv e.2), if_neg (by omega), if_neg (by omega), if_neg (by omega), if_pos hk, if_neg (fun e => hv e.2)]
  | false =>
    unfold xmlO bothB
    rw [if_neg (by decide), if_neg (by omega), if_neg (by omega), if_neg (by omega), if_neg (by omega), if_neg (by omega), if_pos hk, if_neg (by simp)]
theorem one_com (h : Bool) {t a c : BTok} (hk : t.kind = 5) : soleO h t a c = 60 :: 33 :: 45 :: 45 :: (t.text.data.toList ++ [45, 45, 62]) := by
  unfold soleO
  cases h with
  | true =>
    rw [if_pos rfl]
    unfold htmlO bothB
    rw [if_neg (by omega), if_neg (by omega), if_neg (by omega), if_neg (by omega), if_neg (by omega), if_neg (by omega), if_pos hk]
  | false =>
    unfold xmlO bothB
    rw [if_neg (by decide), if_neg (by omega), if_neg (by omega), if_neg (by omega), if_neg (by omega), if_neg (by omega), if_neg (by omega), if_pos hk]
theorem one_ins (h : Bool) {t a c : BTok} (hk : t.kind = 6) : soleO h t a c = 60 :: 63 :: (t.name.data.toList ++ ((if t.text.toList.isEmpty then [] else 32 :: t.text.data.toList) ++ (if h then [62] else [63, 62]))) := by
  unfold soleO
  cases h with
  | true =>
    rw [if_pos rfl]
    unfold htmlO instrO
    rw [if_neg (by omega), if_neg (by omega), if_pos hk]
    rfl
  | false =>
    unfold xmlO instrO
    rw [if_neg (by decide), if_neg (by omega), if_neg (by omega), if_pos hk]
    rfl
end Go.Proofs.YtefjfjieoiegnaaGreatDoor
