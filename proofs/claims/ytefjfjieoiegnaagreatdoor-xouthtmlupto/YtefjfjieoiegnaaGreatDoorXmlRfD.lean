/- Whether tokens are a document's, and the error: the reference's Right. -/
import Derived.Test.YtefjfjieoiegnaaGreatDoorGbp
import Derived.Test.YtefjfjieoiegnaaGreatDoorGbe
import Derived.Test.YtefjfjieoiegnaaGreatDoorGbf
namespace Go.Proofs.YtefjfjieoiegnaaGreatDoor
open Go.RowKit
def rightR (ts : List BTok) : Nat := if docB [] false 0 ts = false then 5 else if pastB ts = true then 6 else 0
structure RgSt (w : World) (ts : List BTok) (k : Nat) (o : List ByteArray) (r : Bool) (last : Int) (vo : Value) (w' : World) : Prop where
  doc : DocSt w ts k o r last vo w'
  root : o ≠ [] → r = true
  zero : k = 0 → last = 0
  last : ∀ t, 0 < k → ts[k - 1]? = some t → last = t.kind
theorem ret_int5 {ts : List BTok} (h : docB [] false 0 ts = false) : Ending.returned (.int .i64 5) = .returned (.int .i64 (rightR ts : Nat)) := by
  unfold rightR
  rw [if_pos h]
  rfl
theorem ret_int6 {ts : List BTok} (h : docB [] false 0 ts = true) (hp : pastB ts = true) : Ending.returned (.int .i64 6) = .returned (.int .i64 (rightR ts : Nat)) := by
  unfold rightR
  rw [if_neg (by rw [h]; decide), if_pos hp]
  rfl
theorem ret_int0 {ts : List BTok} (h : docB [] false 0 ts = true) (hp : pastB ts = false) : Ending.returned (.int .i64 0) = .returned (.int .i64 (rightR ts : Nat)) := by
  unfold rightR
  rw [if_neg (by rw [h]; decide), if_neg (by rw [hp]; decide)]
  rfl
structure Rg2 (w : World) (ts : List BTok) (k : Nat) (d m : Int) (w' : World) : Prop where
  lim : LimSt w ts k d m w'
  m : m ≤ 32
  d : d ≤ 32
  few : (ts.take k).any crowd = false
set_option maxRecDepth 100000 in
set_option maxHeartbeats 8000000 in
theorem right_any (ts : List BTok) (a : Option Addr) (cap : Nat) (w : World) (hv : ToksArg w a ts) (hn : ts.length ≤ 1048576) (hs : ∀ t ∈ ts, Small t) (B : Nat) (hB : B ≤ w.heap.size) (hE : XEnv B w) :
    Calls Tryz.prog 17 #[.slice a ts.length cap] w fun e w' => e = .returned (.int .i64 (rightR ts : Nat)) ∧ Below w.heap.size w w' := by
  have HV := hide hv
  have HS := hide hs
  have HE := hide hE
  have HI0 : Hid (RgSt w ts 0 [] false 0 (.slice none 0 0) w) := hide ⟨⟨Nat.zero_le _, Below.refl _ _, World.ownsRow_nil _ _ _ _, Nat.le_refl _, rfl⟩, (fun h => absurd rfl h), (fun _ => rfl), (fun _ h => absurd h (Nat.lt_irrefl 0))⟩
  clear hv hs hE
  go_enter Tryz.func17, Tryz.ntmps17
  go_wp2_with fail
  go_loopw [3, 4, 5] (fun s3 s4 i wr => ∃ (k : Nat) (o : List ByteArray) (r : Bool) (last : Int), i = .int .i64 (k : Nat) ∧ s4 = .bool (r && o.isEmpty) ∧ RgSt w ts k o r last s3 wr) (fun _ _ i _ => ts.length - (intOf i).toNat)
  case atStart => exact ⟨0, [], false, 0, rfl, rfl, unhide HI0⟩
  case round =>
    clear HI0
    obtain ⟨k, o, r, last, rfl, rfl, hG⟩ := hrel
    have hI := hG.doc
    have hk := hI.le
    have HRT := hide hG.root
    have HZ := hide hG.zero
    have HLA := hide hG.last
    obtain ⟨ao, co, rfl⟩ := owns_slice hI.row
    clear hG
    by_cases hlt : k < ts.length
    · obtain ⟨t, ht⟩ : ∃ t, ts[k]? = some t := ⟨ts[k], List.getElem?_eq_getElem hlt⟩
      have hts := unhide HS t (List.mem_of_getElem? ht)
      obtain ⟨g, oo, ha, hc⟩ := ((unhide HV).below hI.bel) (by intro h0; rw [h0] at hlt; cases hlt)
      subst ha
      have HC := hide hc
      obtain ⟨c0, c1, ⟨v, c2, hpv⟩, c3⟩ := hc k t ht
      obtain ⟨va, vc, hve, _⟩ := id hpv
      subst hve
      have n1 : (0 : Int) ≤ (k : Int) := by omega
      have n2 : (k : Int) < (ts.length : Int) := by omega
      have hdr : ts.drop k = t :: ts.drop (k + 1) := by
        rw [← List.getElem_cons_drop hlt]
        congr 1
        exact (List.getElem?_eq_some_iff.1 ht).2
      have hspec := hI.spec
      rw [hdr, docB_cons] at hspec
      have HSP := hide hspec
      have hbr := hI.bel
      have HRW := hide hI.row
      have hfew := hI.few
      have HPV := hide hpv
      have HTT := hide ht
      clear hc hI hdr ht hspec hpv
      go_wp2_with fail
      refine (rightToken_any t _ _ (unhide HPV) hts B (Nat.le_trans hB hbr.size) ((unhide HE).low (hbr.mono hB))).mono ?_
      rintro e w2 ⟨rfl, hb2⟩
      have hb02 := Below.then hbr hb2
      have HR2 := hide (owns_below (unhide HRW) hb2)
      have hlt2 : w.heap.size ≤ w2.heap.size := hb02.size
      have d0 := keptC hb2 c0
      have d1 := keptC hb2 c1
      have HPr : Hid (∀ u, 0 < k → ts[k - 1]? = some u → w2.cell? ⟨g, oo + (k - 1) * 4, none⟩ = some (.int .i64 u.kind)) := hide fun u _ hu => keptC hb2 (unhide HC (k - 1) u hu).k
      clear HRW HPV c0 c1 c2 c3 HC
      cases hok : okB t
      · have HF : Hid (docB [] false 0 ts = false) := hide (by rw [unhide HSP, hok]; rfl)
        clear HSP hok
        go_wp2
        go_ret
        exact ⟨ret_int5 (unhide HF), hb02⟩
      · have HS2 : Hid (docB [] false 0 ts = (match docStp o r last t with | none => false | some x => docB x.1 x.2 t.kind (ts.drop (k + 1)))) := hide (by rw [unhide HSP, hok, Bool.true_and]; rfl)
        have hkk := ok_kinds hok
        clear HSP hok
        obtain ⟨kd, nm, ats, tx'⟩ := t
        simp only at *
        have HI := hide (fun (o' : List ByteArray) (r' : Bool) (v' : Value) (W' : World) (h1 : Below w.heap.size w W') (h2 : W'.ownsRow w.heap.size 9 1 v' o'.length (o'.map Value.string)) (h3 : o'.length ≤ k + 1) (h5 : o' ≠ [] → r' = true) (h4 : docStp o r last ⟨kd, nm, ats, tx'⟩ = some (o', r')) => (⟨⟨by omega, h1, h2, h3, by rw [unhide HS2, h4]⟩, h5, (fun h => absurd h (Nat.succ_ne_zero k)), (fun u _ hu => by
          rw [Nat.add_sub_cancel, unhide HTT] at hu
          cases hu
          rfl)⟩ : RgSt w ts (k + 1) o' r' kd v' W'))
        have HF : Hid (docStp o r last ⟨kd, nm, ats, tx'⟩ = none → docB [] false 0 ts = false) := hide fun h => by rw [unhide HS2, h]
        clear HS2
        have hoz : (((o.length : Nat) : Int) == 0) = o.isEmpty := len_zero o
        rcases hkk with rfl | rfl | rfl | rfl | rfl
        · have HD := hide (docS2 o r last nm ats tx')
          cases hoe : o.isEmpty
          · rw [hoe] at hoz
            have hre : (r && false) = false := Bool.and_false r
            have HDS : Hid (docStp o r last ⟨2, nm, ats, tx'⟩ = some (o ++ [nm], true)) := hide (by rw [unhide HD, hoe, Bool.false_and]; rfl)
            obtain ⟨i0, hi, hz0, hz1, hz2⟩ := info_parts infoStrD
            go_wp2_with (at_builtin; refine wpList_append_own _ rfl _ _ 45 rfl w.heap.size 9 i0 _ 1 16 Tryz.underlying45 hi hz0 hz1 hz2 rfl (by decide) _ o.length (o.map Value.string) rfl (owns_below (unhide HR2) ((Below.refl _ _).alloc (Nat.le_refl _) _)) ⟨w2.heap.size, 0, none⟩ 1 1 [.string nm] rfl rfl (newsOne (by simp [go_sem])) (fun u hu => by simp at hu; subst hu; rfl) (by unfold maxLen; omega) (by omega) (by simp; omega) ?_; intro v8 w8 hown8 hgrow8 _)
            have hb8 : Below w.heap.size w w8 := (Below.then hb02 ((Below.refl _ _).alloc (Nat.le_refl _) _)).grown hgrow8 (by simp; omega) (fun j hj => ((unhide HR2).lt j hj).1)
            have HI8 := hide (unhide HI (o ++ [nm]) true v8 w8 hb8 (by rw [List.length_append, List.map_append]; exact hown8) (by rw [List.length_append]; simp; omega) (fun _ => rfl) (unhide HDS))
            clear HI HF HDS HD hown8 hgrow8 hi hz0 hz1 hz2
            go_round
            case measure => simp [intOf]; omega
            case rel => exact ⟨k + 1, o ++ [nm], true, 2, by simp, by simp, unhide HI8⟩
          · rw [hoe] at hoz
            cases r
            · have HDS : Hid (docStp o false last ⟨2, nm, ats, tx'⟩ = some (o ++ [nm], true)) := hide (by rw [unhide HD, hoe, Bool.and_false]; rfl)
              obtain ⟨i0, hi, hz0, hz1, hz2⟩ := info_parts infoStrD
              go_wp2_with (at_builtin; refine wpList_append_own _ rfl _ _ 45 rfl w.heap.size 9 i0 _ 1 16 Tryz.underlying45 hi hz0 hz1 hz2 rfl (by decide) _ o.length (o.map Value.string) rfl (owns_below (unhide HR2) ((Below.refl _ _).alloc (Nat.le_refl _) _)) ⟨w2.heap.size, 0, none⟩ 1 1 [.string nm] rfl rfl (newsOne (by simp [go_sem])) (fun u hu => by simp at hu; subst hu; rfl) (by unfold maxLen; omega) (by omega) (by simp; omega) ?_; intro v8 w8 hown8 hgrow8 _)
              have hb8 : Below w.heap.size w w8 := (Below.then hb02 ((Below.refl _ _).alloc (Nat.le_refl _) _)).grown hgrow8 (by simp; omega) (fun j hj => ((unhide HR2).lt j hj).1)
              have HI8 := hide (unhide HI (o ++ [nm]) true v8 w8 hb8 (by rw [List.length_append, List.map_append]; exact hown8) (by rw [List.length_append]; simp; omega) (fun _ => rfl) (unhide HDS))
              clear HI HF HDS HD hown8 hgrow8 hi hz0 hz1 hz2
              go_round
              case measure => simp [intOf]; omega
              case rel => exact ⟨k + 1, o ++ [nm], true, 2, by simp, by simp, unhide HI8⟩
            · have HNO : Hid (docStp o true last ⟨2, nm, ats, tx'⟩ = none) := hide (by rw [unhide HD, hoe]; rfl)
              clear HI
              go_wp2
              go_ret
              exact ⟨ret_int5 (unhide HF (unhide HNO)), hb02⟩
        · have HD := hide (docS7 o r last nm ats tx')
          cases hg : o.getLast? with
          | none =>
            have HNO : Hid (docStp o r last ⟨7, nm, ats, tx'⟩ = none) := hide (by rw [unhide HD, hg])
            have hoe : o = [] := List.getLast?_eq_none_iff.1 hg
            have htop : (((o.length : Nat) : Int) == 0) = true := by rw [hoe]; rfl
            clear HI HD hg hoe hoz
            generalize (r && o.isEmpty) = bb at *
            go_wp2_with fail
            go_quiet (fail)
            go_wp2
            go_ret
            exact ⟨ret_int5 (unhide HF (unhide HNO)), Below.then hb02 (below_drewN _ _)⟩
          | some y =>
            have hne : o ≠ [] := fun h0 => by rw [h0] at hg; cases hg
            have hol := List.length_pos_iff.2 hne
            have hrt := unhide HRT hne
            subst hrt
            have hoe : o.isEmpty = false := by cases o with | nil => exact absurd rfl hne | cons _ _ => rfl
            rw [hoe] at hoz
            have htop := hoz
            obtain ⟨g7, c7, he7, hc7, hle7⟩ := strs_last (unhide HR2) hg
            cases he7
            have i1 : (0 : Int) ≤ (o.length : Int) - 1 := by omega
            have i2 : (o.length : Int) - 1 < (o.length : Int) := by omega
            have i3 : ((o.length : Int) - 1).toNat = o.length - 1 := by omega
            have i4 : IntKind.i64.wrap ((o.length : Int) - 1) = (o.length : Int) - 1 := by rw [IntKind.wrap_i64]; omega
            cases hcmp : (y.toList == nm.toList)
            · have HNO : Hid (docStp o true last ⟨7, nm, ats, tx'⟩ = none) := hide (by rw [unhide HD, hg]; simp only; rw [hcmp]; rfl)
              clear HI HD hg hne
              go_wp2_with fail
              go_quiet (fail)
              go_wp2
              go_ret
              exact ⟨ret_int5 (unhide HF (unhide HNO)), Below.then hb02 (below_drewN _ _)⟩
            · have HDS : Hid (docStp o true last ⟨7, nm, ats, tx'⟩ = some (o.dropLast, true)) := hide (by rw [unhide HD, hg]; simp only; rw [hcmp]; rfl)
              have HON : Hid ((((o.length : Nat) : Int) == 1) = (true && o.dropLast.isEmpty)) := hide (by
                rw [Bool.true_and, ← len_zero o.dropLast, List.length_dropLast]
                by_cases h1 : o.length = 1
                · rw [h1]; rfl
                · rw [beq_eq_false_iff_ne.2 (by omega : ((o.length : Nat) : Int) ≠ 1), beq_eq_false_iff_ne.2 (by omega : ((o.length - 1 : Nat) : Int) ≠ 0)])
              clear HF HD hg hne
              go_wp2_with fail
              go_quiet (fail)
              have hbq := below_drewN w2 nq
              have HI8 := hide (unhide HI o.dropLast true _ (w2.drewN nq) (Below.then hb02 hbq) (strs_drop (owns_below (unhide HR2) hbq)) (by rw [List.length_dropLast]; omega) (fun _ => rfl) (unhide HDS))
              clear HI HDS
              generalize w2.drewN nq = W at *
              go_wp2_with fail
              go_round
              case measure => simp [intOf]; omega
              case rel => exact ⟨k + 1, o.dropLast, true, 7, by simp, by rw [← unhide HON], unhide HI8⟩
        · have HD := hide (docS4 o r last nm ats tx')
          cases hoe : o.isEmpty
          · rw [hoe] at hoz
            have hre : (r && false) = false := Bool.and_false r
            by_cases hk0 : k = 0
            · have hl0 := unhide HZ hk0
              have HDS : Hid (docStp o r last ⟨4, nm, ats, tx'⟩ = some (o, r)) := hide (by rw [unhide HD, hoe, hl0]; rfl)
              have HI8 := hide (unhide HI o r (.slice ao o.length co) w2 hb02 (unhide HR2) (by omega) (unhide HRT) (unhide HDS))
              clear HI HDS HD HF HPr HLA HZ
              subst hk0
              rw [Nat.zero_mul, Nat.add_zero] at d0
              clear d1
              go_wp2_with fail
              go_round
              case measure => simp [intOf]; omega
              case rel => exact ⟨0 + 1, o, r, 4, by simp, by simp [hoe], unhide HI8⟩
            · obtain ⟨u, hu⟩ : ∃ u, ts[k - 1]? = some u := ⟨ts[k - 1], List.getElem?_eq_getElem (by omega)⟩
              have hla := unhide HLA u (by omega) hu
              have e0 := unhide HPr u (by omega) hu
              have hkp : (0 : Int) < (k : Int) := by omega
              have hkp' : 0 < k := by omega
              have i1 : (0 : Int) ≤ (k : Int) - 1 := by omega
              have i2 : (k : Int) - 1 < (ts.length : Int) := by omega
              have i3 : ((k : Int) - 1).toNat = k - 1 := by omega
              have i4 : wrap64 ((k : Int) - 1) = (k : Int) - 1 := by unfold wrap64; omega
              rw [hla] at HI HF HD
              clear hu
              cases hu4 : (u.kind == 4)
              · have HDS : Hid (docStp o r u.kind ⟨4, nm, ats, tx'⟩ = some (o, r)) := hide (by rw [unhide HD, hoe, hu4]; rfl)
                have HI8 := hide (unhide HI o r (.slice ao o.length co) w2 hb02 (unhide HR2) (by omega) (unhide HRT) (unhide HDS))
                clear HI HDS HD HF hla
                go_wp2_with fail
                go_round
                case measure => simp [intOf]; omega
                case rel => exact ⟨k + 1, o, r, 4, by simp, by simp [hoe], unhide HI8⟩
              · have HNO : Hid (docStp o r u.kind ⟨4, nm, ats, tx'⟩ = none) := hide (by rw [unhide HD, hoe, hu4]; rfl)
                have hu5 : u.kind = 4 := by simpa using hu4
                rw [hu5] at e0
                clear HI HD hla hu4
                go_wp2
                go_ret
                exact ⟨ret_int5 (unhide HF (unhide HNO)), hb02⟩
          · rw [hoe] at hoz
            have HNO : Hid (docStp o r last ⟨4, nm, ats, tx'⟩ = none) := hide (by rw [unhide HD, hoe]; rfl)
            clear HI HD
            go_wp2
            go_ret
            exact ⟨ret_int5 (unhide HF (unhide HNO)), hb02⟩
        · have HDS : Hid (docStp o r last ⟨5, nm, ats, tx'⟩ = some (o, r)) := hide rfl
          have HI8 := hide (unhide HI o r (.slice ao o.length co) w2 hb02 (unhide HR2) (by omega) (unhide HRT) (unhide HDS))
          clear HI HDS HF hoz
          generalize hbb : (r && o.isEmpty) = bb at *
          go_wp2_with fail
          go_round
          case measure => simp [intOf]; omega
          case rel => exact ⟨k + 1, o, r, 5, by simp, by rw [hbb], unhide HI8⟩
        · have HDS : Hid (docStp o r last ⟨6, nm, ats, tx'⟩ = some (o, r)) := hide rfl
          have HI8 := hide (unhide HI o r (.slice ao o.length co) w2 hb02 (unhide HR2) (by omega) (unhide HRT) (unhide HDS))
          clear HI HDS HF hoz
          generalize hbb : (r && o.isEmpty) = bb at *
          go_wp2_with fail
          go_round
          case measure => simp [intOf]; omega
          case rel => exact ⟨k + 1, o, r, 6, by simp, by rw [hbb], unhide HI8⟩
    · have n2 : ¬ (k : Int) < (ts.length : Int) := by omega
      have hkl : k = ts.length := by omega
      have hsp := hI.spec
      rw [hkl, List.drop_length] at hsp
      have HSP : Hid (docB [] false 0 ts = (r && o.isEmpty)) := hide hsp
      have hbI := hI.bel
      have hoz : (((o.length : Nat) : Int) == 0) = o.isEmpty := len_zero o
      clear hI hsp
      cases hro : (r && o.isEmpty)
      · have HF : Hid (docB [] false 0 ts = false) := hide (by rw [unhide HSP, hro])
        clear HSP hro hoz
        go_wp2
        go_ret
        exact ⟨ret_int5 (unhide HF), hbI⟩
      · have HDT : Hid (docB [] false 0 ts = true) := hide (by rw [unhide HSP, hro])
        have hoe : o = [] := by
          simp only [Bool.and_eq_true] at hro
          exact isEmpty_of hro.2
        have hl0 : ¬ (0 : Int) < (o.length : Int) := by rw [hoe]; decide
        have hl0' : ¬ 0 < o.length := by rw [hoe]; decide
        clear HSP hro hoz hoe
        have HI0 : Hid (Rg2 w ts 0 0 0 wr) := hide ⟨⟨Nat.zero_le _, hbI, by omega, by omega, by omega, by omega, rfl⟩, by omega, by omega, rfl⟩
        go_wp2_with fail
        go_loopw [7, 8] (fun s7 i wx => ∃ (j : Nat) (d m : Int), i = .int .i64 (j : Nat) ∧ s7 = .int .i64 d ∧ Rg2 w ts j d m wx) (fun _ i _ => ts.length - (intOf i).toNat)
        case atStart => exact ⟨0, 0, 0, rfl, rfl, unhide HI0⟩
        case round =>
          clear HI0
          obtain ⟨j, d, m, rfl, rfl, hJ⟩ := hrel
          have hj := hJ.lim.le
          have hbx := hJ.lim.bel
          have q1 := hJ.lim.d1
          have q2 := hJ.lim.d2
          have q3 := hJ.lim.m1
          have q4 := hJ.lim.m2
          have q5 := hJ.m
          have q6 := hJ.d
          by_cases hjl : j < ts.length
          · obtain ⟨t, ht⟩ : ∃ t, ts[j]? = some t := ⟨ts[j], List.getElem?_eq_getElem hjl⟩
            obtain ⟨g, oo, ha, hc⟩ := ((unhide HV).below hbx) (by intro h0; rw [h0] at hjl; cases hjl)
            subst ha
            obtain ⟨c0, c1, ⟨v, c2, hpv⟩, c3⟩ := hc j t ht
            obtain ⟨va, vc, hve, _⟩ := id hpv
            subst hve
            have n1 : (0 : Int) ≤ (j : Int) := by omega
            have n3 : (j : Int) < (ts.length : Int) := by omega
            have hdr : ts.drop j = t :: ts.drop (j + 1) := by
              rw [← List.getElem_cons_drop hjl]
              congr 1
              exact (List.getElem?_eq_some_iff.1 ht).2
            have hspec := hJ.lim.spec
            rw [hdr, deepGo_cons] at hspec
            have HAN : Hid ((ts.take (j + 1)).any crowd = crowd t) := hide (by rw [any_take ht, hJ.few, Bool.false_or])
            have HAT : Hid (crowd t = true → ts.any crowd = true) := hide (any_at ht)
            have HLIM : Hid (∀ d' m' : Int, deepGo 0 0 ts = deepGo d' m' (ts.drop (j + 1)) → 32 < m' → pastB ts = true) := hide fun d' m' h1 h2 => by
              have h3 := deep_ge (ts.drop (j + 1)) d' m'
              unfold pastB
              rw [h1, decide_eq_true (by omega : 32 < deepGo d' m' (ts.drop (j + 1)))]
              simp
            have HCR : Hid (ts.any crowd = true → pastB ts = true) := hide fun h => by
              unfold pastB
              have h' : (ts.any fun t => decide (64 < t.attrs.length)) = true := h
              rw [h']
              simp
            obtain ⟨kd, nm, ats, tx'⟩ := t
            simp only at *
            have HCD : Hid (crowd ⟨kd, nm, ats, tx'⟩ = decide (64 < ats.length)) := hide rfl
            have HDT2 := HDT
            clear hc hdr ht hpv hJ
            by_cases k2 : kd = 2
            · subst k2
              rw [if_pos rfl] at hspec
              have HSPC := hide hspec
              have e1 : wrap64 (d + 1) = d + 1 := by unfold wrap64; omega
              clear hspec
              by_cases hd : 32 < d + 1
              · have HP : Hid (pastB ts = true) := hide (unhide HLIM _ _ (unhide HSPC) (by omega))
                go_wp2
                go_ret
                exact ⟨ret_int6 (unhide HDT) (unhide HP), hbx⟩
              · by_cases hat : 64 < ats.length
                · have HP : Hid (pastB ts = true) := hide (unhide HCR (unhide HAT (by rw [unhide HCD]; exact decide_eq_true hat)))
                  have hat' : (64 : Int) < (ats.length : Int) := by omega
                  go_wp2
                  go_ret
                  exact ⟨ret_int6 (unhide HDT) (unhide HP), hbx⟩
                · have hat' : ¬ (64 : Int) < (ats.length : Int) := by omega
                  have HI2 : Hid (Rg2 w ts (j + 1) (d + 1) (max m (d + 1)) wr) := hide ⟨⟨by omega, hbx, by omega, by omega, by omega, by omega, unhide HSPC⟩, by omega, by omega, by rw [unhide HAN, unhide HCD]; exact decide_eq_false hat⟩
                  go_wp2_with fail
                  go_round
                  case measure => simp [intOf]; omega
                  case rel => exact ⟨j + 1, d + 1, max m (d + 1), by simp, rfl, unhide HI2⟩
            · rw [if_neg k2] at hspec
              have g2 : (kd == 2) = false := by simpa using k2
              by_cases hat : 64 < ats.length
              · have HP : Hid (pastB ts = true) := hide (unhide HCR (unhide HAT (by rw [unhide HCD]; exact decide_eq_true hat)))
                have hat' : (64 : Int) < (ats.length : Int) := by omega
                have e1 : wrap64 (d - 1) = d - 1 := by unfold wrap64; omega
                have hd1 : ¬ 32 < d - 1 := by omega
                have hd2 : ¬ 32 < d := by omega
                clear hspec
                by_cases k7 : kd = 7
                · subst k7
                  go_wp2
                  go_ret
                  exact ⟨ret_int6 (unhide HDT) (unhide HP), hbx⟩
                · have g7 : (kd == 7) = false := by simpa using k7
                  go_wp2
                  go_ret
                  exact ⟨ret_int6 (unhide HDT) (unhide HP), hbx⟩
              · have hat' : ¬ (64 : Int) < (ats.length : Int) := by omega
                by_cases k7 : kd = 7
                · subst k7
                  rw [if_pos rfl] at hspec
                  have e1 : wrap64 (d - 1) = d - 1 := by unfold wrap64; omega
                  have hd1 : ¬ 32 < d - 1 := by omega
                  have HI2 : Hid (Rg2 w ts (j + 1) (d - 1) m wr) := hide ⟨⟨by omega, hbx, by omega, by omega, by omega, by omega, hspec⟩, by omega, by omega, by rw [unhide HAN, unhide HCD]; exact decide_eq_false hat⟩
                  clear hspec
                  go_wp2_with fail
                  go_round
                  case measure => simp [intOf]; omega
                  case rel => exact ⟨j + 1, d - 1, m, by simp, rfl, unhide HI2⟩
                · have g7 : (kd == 7) = false := by simpa using k7
                  rw [if_neg k7] at hspec
                  have hd2 : ¬ 32 < d := by omega
                  have HI2 : Hid (Rg2 w ts (j + 1) d m wr) := hide ⟨⟨by omega, hbx, by omega, by omega, by omega, by omega, hspec⟩, by omega, by omega, by rw [unhide HAN, unhide HCD]; exact decide_eq_false hat⟩
                  clear hspec
                  go_wp2_with fail
                  go_round
                  case measure => simp [intOf]; omega
                  case rel => exact ⟨j + 1, d, m, by simp, rfl, unhide HI2⟩
          · have n3 : ¬ (j : Int) < (ts.length : Int) := by omega
            have hjl2 : j = ts.length := by omega
            have HSP : Hid (pastB ts = decide (4096 < ts.length)) := hide (by
              have h1 := hJ.lim.spec
              have h2 := hJ.few
              rw [hjl2, List.drop_length] at h1
              rw [hjl2, List.take_length] at h2
              have h3 : (ts.any fun t => decide (64 < t.attrs.length)) = false := h2
              unfold pastB
              rw [h1, h3, show deepGo d m [] = m from rfl, decide_eq_false (by omega : ¬ 32 < m)]
              simp)
            clear hJ
            by_cases hl : 4096 < ts.length
            · have hl' : (4096 : Int) < (ts.length : Int) := by omega
              have HP : Hid (pastB ts = true) := hide (by rw [unhide HSP]; exact decide_eq_true hl)
              go_wp2
              go_ret
              exact ⟨ret_int6 (unhide HDT) (unhide HP), hbx⟩
            · have hl' : ¬ (4096 : Int) < (ts.length : Int) := by omega
              have HP : Hid (pastB ts = false) := hide (by rw [unhide HSP]; exact decide_eq_false hl)
              go_wp2
              go_ret
              exact ⟨ret_int0 (unhide HDT) (unhide HP), hbx⟩
end Go.Proofs.YtefjfjieoiegnaaGreatDoor
