/- The reference's html: may right tokens be html? -/
import Derived.Test.YtmemcabipcccaaaGreatDoorGbp
import Derived.Test.YtmemcabipcccaaaGreatDoorGbq
namespace Go.Proofs.YtmemcabipcccaaaGreatDoor
open Go.RowKit
structure HtSt (w : World) (ts : List BTok) (k : Nat) (o : List ByteArray) (vo : Value) (w' : World) : Prop where
  le : k ≤ ts.length
  bel : Below w.heap.size w w'
  row : w'.ownsRow w.heap.size 9 1 vo o.length (o.map Value.string)
  few : o.length ≤ k
  spec : refHt [] ts = refHt o (ts.drop k)
  doc : ∃ last, refDoc o last (ts.drop k) = true
  names : ∀ y ∈ o, y.size ≤ 1048576
theorem ret_html {ts : List BTok} {b : Bool} (h : refHt [] ts = b) : Ending.returned (.bool b) = .returned (.bool (refHt [] ts)) := by rw [h]
set_option maxRecDepth 100000 in
set_option maxHeartbeats 16000000 in
theorem refHtml_any (ts : List BTok) (a : Option Addr) (cap : Nat) (w : World) (hv : ToksArg w a ts) (hn : ts.length ≤ 1048576) (hs : ∀ t ∈ ts, Small t) (hd : forB ts = true) :
    Calls Tryz.prog 18 #[.slice a ts.length cap] w fun e w' => e = .returned (.bool (refHt [] ts)) ∧ Below w.heap.size w w' := by
  have HV := hide hv
  have HS := hide hs
  have HI0 : Hid (HtSt w ts 0 [] (.slice none 0 0) w) := hide ⟨Nat.zero_le _, Below.refl _ _, World.ownsRow_nil _ _ _ _, Nat.le_refl _, rfl, ⟨2, by rw [List.drop_zero, ← forB_ref]; exact hd⟩, (fun y hy => by cases hy)⟩
  clear hv hs hd
  go_enter Tryz.func18, Tryz.ntmps18
  go_wp2_with fail
  go_loopw [3, 4] (fun s3 i wr => ∃ (k : Nat) (o : List ByteArray), i = .int .i64 (k : Nat) ∧ Hid (HtSt w ts k o s3 wr)) (fun _ i _ => ts.length - (intOf i).toNat)
  case atStart => exact ⟨0, [], rfl, HI0⟩
  case round =>
    clear HI0
    obtain ⟨k, o, rfl, hG⟩ := hrel
    have hI := unhide hG
    have hk := hI.le
    have hbr := hI.bel
    have hfew := hI.few
    have HSP0 := hide hI.spec
    have HDC := hide hI.doc
    have HNM := hide hI.names
    obtain ⟨ao, co, rfl⟩ := owns_slice hI.row
    have HRW := hide hI.row
    clear hG hI
    by_cases hlt : k < ts.length
    · obtain ⟨t, ht⟩ : ∃ t, ts[k]? = some t := ⟨ts[k], List.getElem?_eq_getElem hlt⟩
      have hts := unhide HS t (List.mem_of_getElem? ht)
      obtain ⟨g, oo, ha, hc⟩ := ((unhide HV).below hbr) (by intro h0; rw [h0] at hlt; cases hlt)
      subst ha
      obtain ⟨c0, c1, _, c3⟩ := hc k t ht
      have n1 : (0 : Int) ≤ (k : Int) := by omega
      have n2 : (k : Int) < (ts.length : Int) := by omega
      have n4 : (ts.length : Int) ≤ 1048576 := by omega
      have n5 : (o.length : Int) ≤ 1048576 := by omega
      have hdr : ts.drop k = t :: ts.drop (k + 1) := by
        rw [← List.getElem_cons_drop hlt]
        congr 1
        exact (List.getElem?_eq_some_iff.1 ht).2
      rw [hdr] at HSP0 HDC
      obtain ⟨last, hlast⟩ := unhide HDC
      obtain ⟨hok, hnx, h7, _⟩ := refDoc_next hlast
      have hkk := ok_kinds hok
      have HNX := hide hnx
      have H7 := hide h7
      have hnmz := hts.n
      have htxz := hts.x
      have HI := hide (fun (v' : Value) (W' : World) (hb : badIn o t = false) (h6 : (decide (t.kind = 6) && hasG t) = false) (h1 : Below w.heap.size w W') (h2 : W'.ownsRow w.heap.size 9 1 v' (nextO o t).length ((nextO o t).map Value.string)) => (⟨by omega, h1, h2, by
          unfold nextO
          split
          · rw [List.length_append]; simp; omega
          · split
            · rw [List.length_dropLast]; omega
            · omega, by rw [unhide HSP0, refHt_cons, hb, h6]; rfl, ⟨_, unhide HNX⟩, by
          intro y hy
          unfold nextO at hy
          split at hy
          · rcases List.mem_append.1 hy with hy | hy
            · exact unhide HNM y hy
            · rw [List.mem_singleton.1 hy]; exact hts.n
          · split at hy
            · exact unhide HNM y ((List.dropLast_sublist o).subset hy)
            · exact unhide HNM y hy⟩ : HtSt w ts (k + 1) (nextO o t) v' W'))
      have HBAD : Hid (badIn o t = true → refHt [] ts = false) := hide fun h => by rw [unhide HSP0, refHt_cons, h]; rfl
      have HGT : Hid (badIn o t = false → (decide (t.kind = 6) && hasG t) = true → refHt [] ts = false) := hide fun h h2 => by rw [unhide HSP0, refHt_cons, h, h2]; rfl
      clear hc hdr ht hlast hnx h7 hok HSP0 HDC
      obtain ⟨kd, nm, ats, tx'⟩ := t
      simp only at *
      rcases hkk with rfl | rfl | rfl | rfl | rfl
      · cases hg : o.getLast? with
        | none =>
          have HNB : Hid (badIn o ⟨2, nm, ats, tx'⟩ = false) := hide (by unfold badIn; rw [hg])
          have hoe : o.length = 0 := by rw [List.getLast?_eq_none_iff.1 hg]; rfl
          have HR2 := HRW
          have hb0W := hbr
          clear hg HNM HBAD H7
          have g0 : ¬ (0 : Int) < (o.length : Int) := by omega
          clear hoe
          obtain ⟨i0, hi, hz0, hz1, hz2⟩ := info_parts infoStrD
          have hszW := hb0W.size
          go_wp2_with (at_builtin; refine wpList_append_own _ rfl _ _ 55 rfl w.heap.size 9 i0 _ 1 16 Tryz.underlying55 hi hz0 hz1 hz2 rfl (by decide) _ o.length (o.map Value.string) rfl (owns_below (unhide HR2) ((Below.refl _ _).alloc (Nat.le_refl _) _)) ⟨wr.heap.size, 0, none⟩ 1 1 [.string nm] rfl rfl (newsOne (by simp [go_sem])) (fun u hu => by simp at hu; subst hu; rfl) (by unfold maxLen; omega) (by omega) (by simp; omega) ?_; intro v8 w8 hown8 hgrow8 _; obtain ⟨a8, c8, rfl⟩ := owns_slice hown8)
          have hb8 : Below w.heap.size w w8 := (Below.then hb0W ((Below.refl _ _).alloc (Nat.le_refl _) _)).grown hgrow8 (by simp; omega) (fun j hj => ((unhide HR2).lt j hj).1)
          have HI8 := hide (unhide HI _ w8 (unhide HNB) rfl hb8 (by rw [nextO2 rfl, List.length_append, List.map_append]; exact hown8))
          rw [nextO2 rfl] at HI8
          clear HI hown8 hgrow8 hi hz0 hz1 hz2
          go_wp2_with fail
          go_round
          case measure => simp [intOf]; omega
          case rel => exact ⟨k + 1, o ++ [nm], by simp, HI8⟩
        | some y =>
          have hne : o ≠ [] := fun h0 => by rw [h0] at hg; cases hg
          have hol := List.length_pos_iff.2 hne
          have hyn := unhide HNM y (List.mem_of_getLast? hg)
          obtain ⟨g7, c7, he7, hc7, hle7⟩ := strs_last (unhide HRW) hg
          cases he7
          have g0 : (0 : Int) < (o.length : Int) := by omega
          have i1 : (0 : Int) ≤ (o.length : Int) - 1 := by omega
          have i2 : (o.length : Int) - 1 < (o.length : Int) := by omega
          have i3 : ((o.length : Int) - 1).toNat = o.length - 1 := by omega
          have i4 : IntKind.i64.wrap ((o.length : Int) - 1) = (o.length : Int) - 1 := by rw [IntKind.wrap_i64]; omega
          have i5 : wrap64 ((o.length : Int) - 1) = (o.length : Int) - 1 := by unfold wrap64; omega
          have HB : Hid (badIn o ⟨2, nm, ats, tx'⟩ = (voidB y || (rawB y && (true)))) := hide (by unfold badIn; rw [hg]; rfl)
          have HVO := hide (fun W => refVoid_any y W hyn)
          have HRA := hide (fun W => refRaw_any y W hyn)
          have HHE := hide (fun W => refHas_any tx' ⟨#[60, 47]⟩ W htxz (by decide) (by decide))
          clear hg hne HNM H7
          cases hvo : voidB y with
          | true =>
            rw [hvo] at HVO
            have HF : Hid (refHt [] ts = false) := hide (unhide HBAD (by rw [unhide HB, hvo, Bool.true_or]))
            go_wp2_with fail
            refine (unhide HVO _).mono ?_
            rintro e w3 ⟨rfl, hb3⟩
            have hb03 := Below.then hbr hb3
            have m7 := keptC hb3 hc7
            have m0 := keptC hb3 c0
            have m1 := keptC hb3 c1
            have m3 := keptC hb3 c3
            have hb0W := hb03
            go_wp2
            go_ret
            exact ⟨ret_html (unhide HF), hb0W⟩
          | false =>
            rw [hvo] at HVO
            cases hra : rawB y with
            | false =>
              rw [hra] at HRA
              have HNB : Hid (badIn o ⟨2, nm, ats, tx'⟩ = false) := hide (by rw [unhide HB, hvo, hra, Bool.false_and, Bool.or_false])
              go_wp2_with fail
              refine (unhide HVO _).mono ?_
              rintro e w3 ⟨rfl, hb3⟩
              have hb03 := Below.then hbr hb3
              have m7 := keptC hb3 hc7
              have m0 := keptC hb3 c0
              have m1 := keptC hb3 c1
              have m3 := keptC hb3 c3
              go_wp2_with fail
              refine (unhide HRA _).mono ?_
              rintro e w4 ⟨rfl, hb4⟩
              have hb0W := Below.then hb03 hb4
              have f0 := keptC hb4 m0
              have f1 := keptC hb4 m1
              have f3 := keptC hb4 m3
              have HR2 := hide (owns_below (owns_below (unhide HRW) hb3) hb4)
              clear m0 m1 m3 m7 c0 c1 c3 hc7 HRW
              obtain ⟨i0, hi, hz0, hz1, hz2⟩ := info_parts infoStrD
              have hszW := hb0W.size
              go_wp2_with (at_builtin; refine wpList_append_own _ rfl _ _ 55 rfl w.heap.size 9 i0 _ 1 16 Tryz.underlying55 hi hz0 hz1 hz2 rfl (by decide) _ o.length (o.map Value.string) rfl (owns_below (unhide HR2) ((Below.refl _ _).alloc (Nat.le_refl _) _)) ⟨w4.heap.size, 0, none⟩ 1 1 [.string nm] rfl rfl (newsOne (by simp [go_sem])) (fun u hu => by simp at hu; subst hu; rfl) (by unfold maxLen; omega) (by omega) (by simp; omega) ?_; intro v8 w8 hown8 hgrow8 _; obtain ⟨a8, c8, rfl⟩ := owns_slice hown8)
              have hb8 : Below w.heap.size w w8 := (Below.then hb0W ((Below.refl _ _).alloc (Nat.le_refl _) _)).grown hgrow8 (by simp; omega) (fun j hj => ((unhide HR2).lt j hj).1)
              have HI8 := hide (unhide HI _ w8 (unhide HNB) rfl hb8 (by rw [nextO2 rfl, List.length_append, List.map_append]; exact hown8))
              rw [nextO2 rfl] at HI8
              clear HI hown8 hgrow8 hi hz0 hz1 hz2
              go_wp2_with fail
              go_round
              case measure => simp [intOf]; omega
              case rel => exact ⟨k + 1, o ++ [nm], by simp, HI8⟩
            | true =>
              rw [hra] at HRA
              have HF : Hid (refHt [] ts = false) := hide (unhide HBAD (by rw [unhide HB, hvo, hra]; rfl))
              go_wp2_with fail
              refine (unhide HVO _).mono ?_
              rintro e w3 ⟨rfl, hb3⟩
              have hb03 := Below.then hbr hb3
              have m7 := keptC hb3 hc7
              have m0 := keptC hb3 c0
              have m1 := keptC hb3 c1
              have m3 := keptC hb3 c3
              go_wp2_with fail
              refine (unhide HRA _).mono ?_
              rintro e w4 ⟨rfl, hb4⟩
              have hb0W := Below.then hb03 hb4
              have f0 := keptC hb4 m0
              have f1 := keptC hb4 m1
              have f3 := keptC hb4 m3
              have HR2 := hide (owns_below (owns_below (unhide HRW) hb3) hb4)
              clear m0 m1 m3 m7 c0 c1 c3 hc7 HRW
              go_wp2
              go_ret
              exact ⟨ret_html (unhide HF), hb0W⟩
      · cases hg : o.getLast? with
        | none =>
          exact absurd (List.getLast?_eq_none_iff.1 hg) (unhide H7 rfl)
        | some y =>
          have hne : o ≠ [] := fun h0 => by rw [h0] at hg; cases hg
          have hol := List.length_pos_iff.2 hne
          have hyn := unhide HNM y (List.mem_of_getLast? hg)
          obtain ⟨g7, c7, he7, hc7, hle7⟩ := strs_last (unhide HRW) hg
          cases he7
          have g0 : (0 : Int) < (o.length : Int) := by omega
          have i1 : (0 : Int) ≤ (o.length : Int) - 1 := by omega
          have i2 : (o.length : Int) - 1 < (o.length : Int) := by omega
          have i3 : ((o.length : Int) - 1).toNat = o.length - 1 := by omega
          have i4 : IntKind.i64.wrap ((o.length : Int) - 1) = (o.length : Int) - 1 := by rw [IntKind.wrap_i64]; omega
          have i5 : wrap64 ((o.length : Int) - 1) = (o.length : Int) - 1 := by unfold wrap64; omega
          have HNB : Hid (badIn o ⟨7, nm, ats, tx'⟩ = false) := hide (by unfold badIn; rw [hg]; rfl)
          have HR2 := HRW
          have hb0W := hbr
          clear hg hne HNM HBAD H7
          have hb0q := hb0W
          have HI8 := hide (unhide HI _ wr (unhide HNB) rfl hb0W (by rw [nextO7 rfl]; exact strs_drop (unhide HR2)))
          rw [nextO7 rfl] at HI8
          clear HI
          go_wp2_with fail
          go_round
          case measure => simp [intOf]; omega
          case rel => exact ⟨k + 1, o.dropLast, by simp, HI8⟩
      · cases hg : o.getLast? with
        | none =>
          have HNB : Hid (badIn o ⟨4, nm, ats, tx'⟩ = false) := hide (by unfold badIn; rw [hg])
          have hoe : o.length = 0 := by rw [List.getLast?_eq_none_iff.1 hg]; rfl
          have HR2 := HRW
          have hb0W := hbr
          clear hg HNM HBAD H7
          have g0 : ¬ (0 : Int) < (o.length : Int) := by omega
          clear hoe
          have HI8 := hide (unhide HI (.slice ao o.length co) wr (unhide HNB) rfl hb0W (by rw [nextO0 (by simp) (by simp)]; exact unhide HR2))
          rw [nextO0 (by simp) (by simp)] at HI8
          clear HI
          go_wp2_with fail
          go_round
          case measure => simp [intOf]; omega
          case rel => exact ⟨k + 1, o, by simp, HI8⟩
        | some y =>
          have hne : o ≠ [] := fun h0 => by rw [h0] at hg; cases hg
          have hol := List.length_pos_iff.2 hne
          have hyn := unhide HNM y (List.mem_of_getLast? hg)
          obtain ⟨g7, c7, he7, hc7, hle7⟩ := strs_last (unhide HRW) hg
          cases he7
          have g0 : (0 : Int) < (o.length : Int) := by omega
          have i1 : (0 : Int) ≤ (o.length : Int) - 1 := by omega
          have i2 : (o.length : Int) - 1 < (o.length : Int) := by omega
          have i3 : ((o.length : Int) - 1).toNat = o.length - 1 := by omega
          have i4 : IntKind.i64.wrap ((o.length : Int) - 1) = (o.length : Int) - 1 := by rw [IntKind.wrap_i64]; omega
          have i5 : wrap64 ((o.length : Int) - 1) = (o.length : Int) - 1 := by unfold wrap64; omega
          have HB : Hid (badIn o ⟨4, nm, ats, tx'⟩ = (voidB y || (rawB y && (Lib.contains tx'.data.toList [60, 47])))) := hide (by unfold badIn; rw [hg]; rfl)
          have HVO := hide (fun W => refVoid_any y W hyn)
          have HRA := hide (fun W => refRaw_any y W hyn)
          have HHE := hide (fun W => refHas_any tx' ⟨#[60, 47]⟩ W htxz (by decide) (by decide))
          clear hg hne HNM H7
          cases hvo : voidB y with
          | true =>
            rw [hvo] at HVO
            have HF : Hid (refHt [] ts = false) := hide (unhide HBAD (by rw [unhide HB, hvo, Bool.true_or]))
            go_wp2_with fail
            refine (unhide HVO _).mono ?_
            rintro e w3 ⟨rfl, hb3⟩
            have hb03 := Below.then hbr hb3
            have m7 := keptC hb3 hc7
            have m0 := keptC hb3 c0
            have m1 := keptC hb3 c1
            have m3 := keptC hb3 c3
            have hb0W := hb03
            go_wp2
            go_ret
            exact ⟨ret_html (unhide HF), hb0W⟩
          | false =>
            rw [hvo] at HVO
            cases hra : rawB y with
            | false =>
              rw [hra] at HRA
              have HNB : Hid (badIn o ⟨4, nm, ats, tx'⟩ = false) := hide (by rw [unhide HB, hvo, hra, Bool.false_and, Bool.or_false])
              go_wp2_with fail
              refine (unhide HVO _).mono ?_
              rintro e w3 ⟨rfl, hb3⟩
              have hb03 := Below.then hbr hb3
              have m7 := keptC hb3 hc7
              have m0 := keptC hb3 c0
              have m1 := keptC hb3 c1
              have m3 := keptC hb3 c3
              go_wp2_with fail
              refine (unhide HRA _).mono ?_
              rintro e w4 ⟨rfl, hb4⟩
              have hb0W := Below.then hb03 hb4
              have f0 := keptC hb4 m0
              have f1 := keptC hb4 m1
              have f3 := keptC hb4 m3
              have HR2 := hide (owns_below (owns_below (unhide HRW) hb3) hb4)
              clear m0 m1 m3 m7 c0 c1 c3 hc7 HRW
              have HI8 := hide (unhide HI _ w4 (unhide HNB) rfl hb0W (by rw [nextO0 (by simp) (by simp)]; exact unhide HR2))
              rw [nextO0 (by simp) (by simp)] at HI8
              clear HI
              go_wp2_with fail
              go_round
              case measure => simp [intOf]; omega
              case rel => exact ⟨k + 1, o, by simp, HI8⟩
            | true =>
              rw [hra] at HRA
              cases hhe : Lib.contains tx'.data.toList [60, 47] with
              | true =>
                rw [show Lib.contains tx'.data.toList (⟨#[60, 47]⟩ : ByteArray).data.toList = true from hhe] at HHE
                have HF : Hid (refHt [] ts = false) := hide (unhide HBAD (by rw [unhide HB, hvo, hra, hhe]; rfl))
                go_wp2_with fail
                refine (unhide HVO _).mono ?_
                rintro e w3 ⟨rfl, hb3⟩
                have hb03 := Below.then hbr hb3
                have m7 := keptC hb3 hc7
                have m0 := keptC hb3 c0
                have m1 := keptC hb3 c1
                have m3 := keptC hb3 c3
                go_wp2_with fail
                refine (unhide HRA _).mono ?_
                rintro e w4 ⟨rfl, hb4⟩
                have hb0W := Below.then hb03 hb4
                have f0 := keptC hb4 m0
                have f1 := keptC hb4 m1
                have f3 := keptC hb4 m3
                have HR2 := hide (owns_below (owns_below (unhide HRW) hb3) hb4)
                clear m0 m1 m3 m7 c0 c1 c3 hc7 HRW
                go_wp2_with fail
                refine (unhide HHE _).mono ?_
                rintro e w5 ⟨rfl, rfl⟩
                go_wp2
                go_ret
                exact ⟨ret_html (unhide HF), hb0W⟩
              | false =>
                rw [show Lib.contains tx'.data.toList (⟨#[60, 47]⟩ : ByteArray).data.toList = false from hhe] at HHE
                have HNB : Hid (badIn o ⟨4, nm, ats, tx'⟩ = false) := hide (by rw [unhide HB, hvo, hra, hhe]; rfl)
                go_wp2_with fail
                refine (unhide HVO _).mono ?_
                rintro e w3 ⟨rfl, hb3⟩
                have hb03 := Below.then hbr hb3
                have m7 := keptC hb3 hc7
                have m0 := keptC hb3 c0
                have m1 := keptC hb3 c1
                have m3 := keptC hb3 c3
                go_wp2_with fail
                refine (unhide HRA _).mono ?_
                rintro e w4 ⟨rfl, hb4⟩
                have hb0W := Below.then hb03 hb4
                have f0 := keptC hb4 m0
                have f1 := keptC hb4 m1
                have f3 := keptC hb4 m3
                have HR2 := hide (owns_below (owns_below (unhide HRW) hb3) hb4)
                clear m0 m1 m3 m7 c0 c1 c3 hc7 HRW
                go_wp2_with fail
                refine (unhide HHE _).mono ?_
                rintro e w5 ⟨rfl, rfl⟩
                have HI8 := hide (unhide HI _ w5 (unhide HNB) rfl hb0W (by rw [nextO0 (by simp) (by simp)]; exact unhide HR2))
                rw [nextO0 (by simp) (by simp)] at HI8
                clear HI
                go_wp2_with fail
                go_round
                case measure => simp [intOf]; omega
                case rel => exact ⟨k + 1, o, by simp, HI8⟩
      · cases hg : o.getLast? with
        | none =>
          have HNB : Hid (badIn o ⟨5, nm, ats, tx'⟩ = false) := hide (by unfold badIn; rw [hg])
          have hoe : o.length = 0 := by rw [List.getLast?_eq_none_iff.1 hg]; rfl
          have HR2 := HRW
          have hb0W := hbr
          clear hg HNM HBAD H7
          have g0 : ¬ (0 : Int) < (o.length : Int) := by omega
          clear hoe
          have HI8 := hide (unhide HI (.slice ao o.length co) wr (unhide HNB) rfl hb0W (by rw [nextO0 (by simp) (by simp)]; exact unhide HR2))
          rw [nextO0 (by simp) (by simp)] at HI8
          clear HI
          go_wp2_with fail
          go_round
          case measure => simp [intOf]; omega
          case rel => exact ⟨k + 1, o, by simp, HI8⟩
        | some y =>
          have hne : o ≠ [] := fun h0 => by rw [h0] at hg; cases hg
          have hol := List.length_pos_iff.2 hne
          have hyn := unhide HNM y (List.mem_of_getLast? hg)
          obtain ⟨g7, c7, he7, hc7, hle7⟩ := strs_last (unhide HRW) hg
          cases he7
          have g0 : (0 : Int) < (o.length : Int) := by omega
          have i1 : (0 : Int) ≤ (o.length : Int) - 1 := by omega
          have i2 : (o.length : Int) - 1 < (o.length : Int) := by omega
          have i3 : ((o.length : Int) - 1).toNat = o.length - 1 := by omega
          have i4 : IntKind.i64.wrap ((o.length : Int) - 1) = (o.length : Int) - 1 := by rw [IntKind.wrap_i64]; omega
          have i5 : wrap64 ((o.length : Int) - 1) = (o.length : Int) - 1 := by unfold wrap64; omega
          have HB : Hid (badIn o ⟨5, nm, ats, tx'⟩ = (voidB y || (rawB y && (true)))) := hide (by unfold badIn; rw [hg]; rfl)
          have HVO := hide (fun W => refVoid_any y W hyn)
          have HRA := hide (fun W => refRaw_any y W hyn)
          have HHE := hide (fun W => refHas_any tx' ⟨#[60, 47]⟩ W htxz (by decide) (by decide))
          clear hg hne HNM H7
          cases hvo : voidB y with
          | true =>
            rw [hvo] at HVO
            have HF : Hid (refHt [] ts = false) := hide (unhide HBAD (by rw [unhide HB, hvo, Bool.true_or]))
            go_wp2_with fail
            refine (unhide HVO _).mono ?_
            rintro e w3 ⟨rfl, hb3⟩
            have hb03 := Below.then hbr hb3
            have m7 := keptC hb3 hc7
            have m0 := keptC hb3 c0
            have m1 := keptC hb3 c1
            have m3 := keptC hb3 c3
            have hb0W := hb03
            go_wp2
            go_ret
            exact ⟨ret_html (unhide HF), hb0W⟩
          | false =>
            rw [hvo] at HVO
            cases hra : rawB y with
            | false =>
              rw [hra] at HRA
              have HNB : Hid (badIn o ⟨5, nm, ats, tx'⟩ = false) := hide (by rw [unhide HB, hvo, hra, Bool.false_and, Bool.or_false])
              go_wp2_with fail
              refine (unhide HVO _).mono ?_
              rintro e w3 ⟨rfl, hb3⟩
              have hb03 := Below.then hbr hb3
              have m7 := keptC hb3 hc7
              have m0 := keptC hb3 c0
              have m1 := keptC hb3 c1
              have m3 := keptC hb3 c3
              go_wp2_with fail
              refine (unhide HRA _).mono ?_
              rintro e w4 ⟨rfl, hb4⟩
              have hb0W := Below.then hb03 hb4
              have f0 := keptC hb4 m0
              have f1 := keptC hb4 m1
              have f3 := keptC hb4 m3
              have HR2 := hide (owns_below (owns_below (unhide HRW) hb3) hb4)
              clear m0 m1 m3 m7 c0 c1 c3 hc7 HRW
              have HI8 := hide (unhide HI _ w4 (unhide HNB) rfl hb0W (by rw [nextO0 (by simp) (by simp)]; exact unhide HR2))
              rw [nextO0 (by simp) (by simp)] at HI8
              clear HI
              go_wp2_with fail
              go_round
              case measure => simp [intOf]; omega
              case rel => exact ⟨k + 1, o, by simp, HI8⟩
            | true =>
              rw [hra] at HRA
              have HF : Hid (refHt [] ts = false) := hide (unhide HBAD (by rw [unhide HB, hvo, hra]; rfl))
              go_wp2_with fail
              refine (unhide HVO _).mono ?_
              rintro e w3 ⟨rfl, hb3⟩
              have hb03 := Below.then hbr hb3
              have m7 := keptC hb3 hc7
              have m0 := keptC hb3 c0
              have m1 := keptC hb3 c1
              have m3 := keptC hb3 c3
              go_wp2_with fail
              refine (unhide HRA _).mono ?_
              rintro e w4 ⟨rfl, hb4⟩
              have hb0W := Below.then hb03 hb4
              have f0 := keptC hb4 m0
              have f1 := keptC hb4 m1
              have f3 := keptC hb4 m3
              have HR2 := hide (owns_below (owns_below (unhide HRW) hb3) hb4)
              clear m0 m1 m3 m7 c0 c1 c3 hc7 HRW
              go_wp2
              go_ret
              exact ⟨ret_html (unhide HF), hb0W⟩
      · cases hg : o.getLast? with
        | none =>
          have HNB : Hid (badIn o ⟨6, nm, ats, tx'⟩ = false) := hide (by unfold badIn; rw [hg])
          have hoe : o.length = 0 := by rw [List.getLast?_eq_none_iff.1 hg]; rfl
          have HR2 := HRW
          have hb0W := hbr
          clear hg HNM HBAD H7
          have g0 : ¬ (0 : Int) < (o.length : Int) := by omega
          clear hoe
          have HHS := hide (refHas_any tx' ⟨#[62]⟩ wr htxz (by decide) (by decide))
          cases hgt : Lib.contains tx'.data.toList [62] with
          | true =>
            have HF : Hid (refHt [] ts = false) := hide (unhide HGT (unhide HNB) (by show (true && Lib.contains tx'.data.toList [62]) = true; rw [hgt]; rfl))
            rw [show Lib.contains tx'.data.toList (⟨#[62]⟩ : ByteArray).data.toList = true from hgt] at HHS
            go_wp2_with fail
            refine (unhide HHS).mono ?_
            rintro e w7 ⟨rfl, rfl⟩
            go_wp2
            go_ret
            exact ⟨ret_html (unhide HF), hb0W⟩
          | false =>
            have HI8 := hide (unhide HI (.slice ao o.length co) wr (unhide HNB) (by show (true && Lib.contains tx'.data.toList [62]) = false; rw [hgt]; rfl) hb0W (by rw [nextO0 (by simp) (by simp)]; exact unhide HR2))
            rw [nextO0 (by simp) (by simp)] at HI8
            rw [show Lib.contains tx'.data.toList (⟨#[62]⟩ : ByteArray).data.toList = false from hgt] at HHS
            clear HI
            go_wp2_with fail
            refine (unhide HHS).mono ?_
            rintro e w7 ⟨rfl, rfl⟩
            go_wp2_with fail
            go_round
            case measure => simp [intOf]; omega
            case rel => exact ⟨k + 1, o, by simp, HI8⟩
        | some y =>
          have hne : o ≠ [] := fun h0 => by rw [h0] at hg; cases hg
          have hol := List.length_pos_iff.2 hne
          have hyn := unhide HNM y (List.mem_of_getLast? hg)
          obtain ⟨g7, c7, he7, hc7, hle7⟩ := strs_last (unhide HRW) hg
          cases he7
          have g0 : (0 : Int) < (o.length : Int) := by omega
          have i1 : (0 : Int) ≤ (o.length : Int) - 1 := by omega
          have i2 : (o.length : Int) - 1 < (o.length : Int) := by omega
          have i3 : ((o.length : Int) - 1).toNat = o.length - 1 := by omega
          have i4 : IntKind.i64.wrap ((o.length : Int) - 1) = (o.length : Int) - 1 := by rw [IntKind.wrap_i64]; omega
          have i5 : wrap64 ((o.length : Int) - 1) = (o.length : Int) - 1 := by unfold wrap64; omega
          have HB : Hid (badIn o ⟨6, nm, ats, tx'⟩ = (voidB y || (rawB y && (true)))) := hide (by unfold badIn; rw [hg]; rfl)
          have HVO := hide (fun W => refVoid_any y W hyn)
          have HRA := hide (fun W => refRaw_any y W hyn)
          have HHE := hide (fun W => refHas_any tx' ⟨#[60, 47]⟩ W htxz (by decide) (by decide))
          clear hg hne HNM H7
          cases hvo : voidB y with
          | true =>
            rw [hvo] at HVO
            have HF : Hid (refHt [] ts = false) := hide (unhide HBAD (by rw [unhide HB, hvo, Bool.true_or]))
            go_wp2_with fail
            refine (unhide HVO _).mono ?_
            rintro e w3 ⟨rfl, hb3⟩
            have hb03 := Below.then hbr hb3
            have m7 := keptC hb3 hc7
            have m0 := keptC hb3 c0
            have m1 := keptC hb3 c1
            have m3 := keptC hb3 c3
            have hb0W := hb03
            go_wp2
            go_ret
            exact ⟨ret_html (unhide HF), hb0W⟩
          | false =>
            rw [hvo] at HVO
            cases hra : rawB y with
            | false =>
              rw [hra] at HRA
              have HNB : Hid (badIn o ⟨6, nm, ats, tx'⟩ = false) := hide (by rw [unhide HB, hvo, hra, Bool.false_and, Bool.or_false])
              go_wp2_with fail
              refine (unhide HVO _).mono ?_
              rintro e w3 ⟨rfl, hb3⟩
              have hb03 := Below.then hbr hb3
              have m7 := keptC hb3 hc7
              have m0 := keptC hb3 c0
              have m1 := keptC hb3 c1
              have m3 := keptC hb3 c3
              go_wp2_with fail
              refine (unhide HRA _).mono ?_
              rintro e w4 ⟨rfl, hb4⟩
              have hb0W := Below.then hb03 hb4
              have f0 := keptC hb4 m0
              have f1 := keptC hb4 m1
              have f3 := keptC hb4 m3
              have HR2 := hide (owns_below (owns_below (unhide HRW) hb3) hb4)
              clear m0 m1 m3 m7 c0 c1 c3 hc7 HRW
              have HHS := hide (refHas_any tx' ⟨#[62]⟩ w4 htxz (by decide) (by decide))
              cases hgt : Lib.contains tx'.data.toList [62] with
              | true =>
                have HF : Hid (refHt [] ts = false) := hide (unhide HGT (unhide HNB) (by show (true && Lib.contains tx'.data.toList [62]) = true; rw [hgt]; rfl))
                rw [show Lib.contains tx'.data.toList (⟨#[62]⟩ : ByteArray).data.toList = true from hgt] at HHS
                go_wp2_with fail
                refine (unhide HHS).mono ?_
                rintro e w7 ⟨rfl, rfl⟩
                go_wp2
                go_ret
                exact ⟨ret_html (unhide HF), hb0W⟩
              | false =>
                have HI8 := hide (unhide HI _ w4 (unhide HNB) (by show (true && Lib.contains tx'.data.toList [62]) = false; rw [hgt]; rfl) hb0W (by rw [nextO0 (by simp) (by simp)]; exact unhide HR2))
                rw [nextO0 (by simp) (by simp)] at HI8
                rw [show Lib.contains tx'.data.toList (⟨#[62]⟩ : ByteArray).data.toList = false from hgt] at HHS
                clear HI
                go_wp2_with fail
                refine (unhide HHS).mono ?_
                rintro e w7 ⟨rfl, rfl⟩
                go_wp2_with fail
                go_round
                case measure => simp [intOf]; omega
                case rel => exact ⟨k + 1, o, by simp, HI8⟩
            | true =>
              rw [hra] at HRA
              have HF : Hid (refHt [] ts = false) := hide (unhide HBAD (by rw [unhide HB, hvo, hra]; rfl))
              go_wp2_with fail
              refine (unhide HVO _).mono ?_
              rintro e w3 ⟨rfl, hb3⟩
              have hb03 := Below.then hbr hb3
              have m7 := keptC hb3 hc7
              have m0 := keptC hb3 c0
              have m1 := keptC hb3 c1
              have m3 := keptC hb3 c3
              go_wp2_with fail
              refine (unhide HRA _).mono ?_
              rintro e w4 ⟨rfl, hb4⟩
              have hb0W := Below.then hb03 hb4
              have f0 := keptC hb4 m0
              have f1 := keptC hb4 m1
              have f3 := keptC hb4 m3
              have HR2 := hide (owns_below (owns_below (unhide HRW) hb3) hb4)
              clear m0 m1 m3 m7 c0 c1 c3 hc7 HRW
              go_wp2
              go_ret
              exact ⟨ret_html (unhide HF), hb0W⟩
    · have n2 : ¬ (k : Int) < (ts.length : Int) := by omega
      have HF : Hid (refHt [] ts = true) := hide (by rw [unhide HSP0, show k = ts.length by omega, List.drop_length]; rfl)
      clear HSP0 HDC HRW
      go_wp2
      go_ret
      exact ⟨ret_html (unhide HF), hbr⟩
end Go.Proofs.YtmemcabipcccaaaGreatDoor
