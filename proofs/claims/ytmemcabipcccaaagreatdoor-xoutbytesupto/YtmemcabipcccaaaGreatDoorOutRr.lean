/- The reference's Right: are tokens those of a tree? -/
import Derived.Test.YtmemcabipcccaaaGreatDoorGbl
import Derived.Test.YtmemcabipcccaaaGreatDoorGbn
namespace Go.Proofs.YtmemcabipcccaaaGreatDoor
open Go.RowKit
def refStp (o : List ByteArray) (last : Int) (t : BTok) : Option (List ByteArray) :=
  if t.kind = 2 then some (o ++ [t.name]) else
  if t.kind = 7 then (match o.getLast? with
    | none => none
    | some x => if x.toList == t.name.toList then some o.dropLast else none) else
  if t.kind = 4 then (if last == 4 then none else some o) else some o
def refDoc : List ByteArray → Int → List BTok → Bool
  | o, _, [] => o.isEmpty
  | o, last, t :: ts => okB t && (match refStp o last t with
    | none => false
    | some x => refDoc x t.kind ts)
theorem refDoc_cons (o : List ByteArray) (last : Int) (t : BTok) (ts : List BTok) : refDoc o last (t :: ts) = (okB t && (match refStp o last t with
    | none => false
    | some x => refDoc x t.kind ts)) := rfl
theorem doc_gone (k : Int) (ts : List BTok) : docB [] true k (ts ++ [aroF]) = false := by
  rw [docB_app]
  cases hr : docRun [] true k ts with
  | none => rfl
  | some x =>
    obtain ⟨o, r, k'⟩ := x
    have h1 : o = [] := docRun_nil ts k _ hr
    subst h1
    show docB [] r k' [aroF] = false
    rw [docB_step, aroF_ok]
    unfold docStp
    rw [if_neg (by decide), if_pos (by rfl)]
    rfl
theorem doc_end (o : List ByteArray) (k : Int) : docB (aroS :: o) true k [aroF] = o.isEmpty := by
  rw [docB_step, aroF_ok, Bool.true_and]
  unfold docStp
  rw [if_neg (by decide), if_pos (by rfl)]
  cases o with
  | nil =>
    show (match (if (aroS.toList == aroS.toList) = true then some (([] : List ByteArray), true) else none) with
      | none => false
      | some x => docB x.1 x.2 aroF.kind []) = true
    rw [if_pos (beq_self_eq_true _)]
    rfl
  | cons y o =>
    rw [List.getLast?_cons_cons]
    cases hg : (y :: o).getLast? with
    | none => simp at hg
    | some z =>
      dsimp only
      by_cases hz : (z.toList == aroF.name.toList) = true
      · rw [if_pos hz]
        show (true && (aroS :: (y :: o).dropLast).isEmpty) = false
        rfl
      · rw [if_neg hz]
        rfl
theorem doc_ref : ∀ (ts : List BTok) (o : List ByteArray) (k : Int), docB (aroS :: o) true k (ts ++ [aroF]) = refDoc o k ts
  | [], o, k => doc_end o k
  | t :: ts, o, k => by
    rw [List.cons_append, docB_step, refDoc_cons]
    cases okB t with
    | false => rfl
    | true =>
      rw [Bool.true_and, Bool.true_and]
      unfold docStp refStp
      by_cases k2 : t.kind = 2
      · rw [if_pos k2, if_pos k2, if_neg (by simp)]
        exact doc_ref ts (o ++ [t.name]) _
      · rw [if_neg k2, if_neg k2]
        by_cases k7 : t.kind = 7
        · rw [if_pos k7, if_pos k7]
          cases o with
          | nil =>
            show (match (if (aroS.toList == t.name.toList) = true then some (([] : List ByteArray), true) else none) with
              | none => false
              | some x => docB x.1 x.2 t.kind (ts ++ [aroF])) = false
            by_cases hz : (aroS.toList == t.name.toList) = true
            · rw [if_pos hz]
              exact doc_gone _ ts
            · rw [if_neg hz]
          | cons y o =>
            rw [List.getLast?_cons_cons]
            cases hg : (y :: o).getLast? with
            | none => simp at hg
            | some z =>
              dsimp only
              by_cases hz : (z.toList == t.name.toList) = true
              · rw [if_pos hz, if_pos hz]
                exact doc_ref ts (y :: o).dropLast _
              · rw [if_neg hz, if_neg hz]
        · rw [if_neg k7, if_neg k7]
          by_cases k4 : t.kind = 4
          · rw [if_pos k4, if_pos k4]
            show (match (if (k == 4) = true then none else some (aroS :: o, true)) with
              | none => false
              | some x => docB x.1 x.2 t.kind (ts ++ [aroF])) = _
            by_cases hz : (k == 4) = true
            · rw [if_pos hz, if_pos hz]
            · rw [if_neg hz, if_neg hz]
              exact doc_ref ts o _
          · rw [if_neg k4, if_neg k4]
            exact doc_ref ts o _
theorem forB_ref (ts : List BTok) : forB ts = refDoc [] 2 ts := by
  rw [forB_doc]
  exact doc_ref ts [] 2
theorem right_5 {ts : List BTok} (h : forB ts = false) : Ending.returned (.int .i64 5) = .returned (.int .i64 (rightO ts : Nat)) := by
  unfold rightO
  rw [if_neg (by rw [h]; decide)]
  rfl
theorem right_6 {ts : List BTok} (h : forB ts = true) (hp : pastD ts = true) : Ending.returned (.int .i64 6) = .returned (.int .i64 (rightO ts : Nat)) := by
  unfold rightO
  rw [if_pos h, if_pos hp]
  rfl
theorem right_0 {ts : List BTok} (h : forB ts = true) (hp : pastD ts = false) : Ending.returned (.int .i64 0) = .returned (.int .i64 (rightO ts : Nat)) := by
  unfold rightO
  rw [if_pos h, if_neg (by rw [hp]; decide)]
  rfl
def pastV (n dm : Nat) (many : Bool) : Bool := decide (4096 < n) || (decide (32 < dm) || many)
structure RhSt (w : World) (ts : List BTok) (k : Nat) (o : List ByteArray) (last : Int) (dm : Nat) (many : Bool) (vo : Value) (w' : World) : Prop where
  le : k ≤ ts.length
  bel : Below w.heap.size w w'
  row : w'.ownsRow w.heap.size 9 1 vo o.length (o.map Value.string)
  few : o.length ≤ k
  dmk : dm ≤ k
  spec : forB ts = refDoc o last (ts.drop k)
  past : pastD ts = pastGo o.length (pastV ts.length dm many) (ts.drop k)
  zero : k = 0 → last = 2
  last : ∀ t, 0 < k → ts[k - 1]? = some t → last = t.kind
theorem past_elem {n d dm : Nat} {many : Bool} {t : BTok} {ts : List BTok} (hk : t.kind = 2) : pastGo d (pastV n dm many) (t :: ts) = pastGo ((d + 1 : Nat) : Int) (pastV n (if dm < d + 1 then d + 1 else dm) (many || decide (64 < t.attrs.length))) ts := by
  rw [pastGo_cons, if_pos hk]
  congr 1
  unfold pastV
  have e : decide (32 < (if dm < d + 1 then d + 1 else dm)) = (decide (32 < dm) || decide ((32 : Int) < (d : Int) + 1)) := by
    by_cases h : dm < d + 1
    · rw [if_pos h]
      by_cases h2 : 32 < dm
      · rw [decide_eq_true h2, decide_eq_true (by omega)]; rfl
      · rw [decide_eq_false h2, Bool.false_or]
        exact decide_eq_decide.2 (by omega)
    · rw [if_neg h]
      by_cases h2 : 32 < dm
      · rw [decide_eq_true h2]; rfl
      · rw [decide_eq_false h2, decide_eq_false (by omega)]; rfl
  rw [e]
  cases decide (4096 < n) <;> cases decide (32 < dm) <;> cases many <;> cases decide ((32 : Int) < (d : Int) + 1) <;> cases decide (64 < t.attrs.length) <;> rfl
theorem past_none {n d dm : Nat} {many : Bool} {t : BTok} {ts : List BTok} (hk : t.kind ≠ 2) (ha : t.attrs.length ≤ 64) : pastGo d (pastV n dm many) (t :: ts) = pastGo (if t.kind = 7 then (d : Int) - 1 else d) (pastV n dm (many || decide (64 < t.attrs.length))) ts := by
  rw [pastGo_cons, if_neg hk, decide_eq_false (show ¬ 64 < t.attrs.length by omega), Bool.or_false]
  split
  · rfl
  · rfl
set_option maxRecDepth 100000 in
set_option maxHeartbeats 16000000 in
theorem refRight_any (ts : List BTok) (a : Option Addr) (cap : Nat) (w : World) (hv : ToksArg w a ts) (hn : ts.length ≤ 1048576) (hs : ∀ t ∈ ts, Small t) (B : Nat) (hB : B ≤ w.heap.size) (hE : XEnv B w) :
    Calls Tryz.prog 9 #[.slice a ts.length cap] w fun e w' => e = .returned (.int .i64 (rightO ts : Nat)) ∧ Below w.heap.size w w' := by
  have HV := hide hv
  have HS := hide hs
  have HE := hide hE
  have HI0 : Hid (RhSt w ts 0 [] 2 0 false (.slice none 0 0) w) := hide ⟨Nat.zero_le _, Below.refl _ _, World.ownsRow_nil _ _ _ _, Nat.le_refl _, Nat.le_refl _, forB_ref ts, by unfold pastD pastV; simp, (fun _ => rfl), (fun _ h => absurd h (Nat.lt_irrefl 0))⟩
  clear hv hs hE
  go_enter Tryz.func9, Tryz.ntmps9
  go_wp2_with fail
  go_loopw [3, 4, 5, 6] (fun s3 s4 s5 i wr => ∃ (k : Nat) (o : List ByteArray) (last : Int) (dm : Nat) (many : Bool), i = .int .i64 (k : Nat) ∧ s4 = .int .i64 (dm : Nat) ∧ s5 = .bool many ∧ Hid (RhSt w ts k o last dm many s3 wr)) (fun _ _ _ i _ => ts.length - (intOf i).toNat)
  case atStart => exact ⟨0, [], 2, 0, false, rfl, rfl, rfl, HI0⟩
  case round =>
    clear HI0
    obtain ⟨k, o, last, dm, many, rfl, rfl, rfl, hG⟩ := hrel
    have hI := unhide hG
    have hk := hI.le
    have HZ := hide hI.zero
    have HLA := hide hI.last
    have HPA := hide hI.past
    have hdm := hI.dmk
    have hbr := hI.bel
    have hfew := hI.few
    have HSP0 := hide hI.spec
    obtain ⟨ao, co, rfl⟩ := owns_slice hI.row
    have HRW := hide hI.row
    clear hG hI
    by_cases hlt : k < ts.length
    · obtain ⟨t, ht⟩ : ∃ t, ts[k]? = some t := ⟨ts[k], List.getElem?_eq_getElem hlt⟩
      have hts := unhide HS t (List.mem_of_getElem? ht)
      obtain ⟨g, oo, ha, hc⟩ := ((unhide HV).below hbr) (by intro h0; rw [h0] at hlt; cases hlt)
      subst ha
      have HC := hide hc
      obtain ⟨c0, c1, ⟨v, c2, hpv⟩, c3⟩ := hc k t ht
      obtain ⟨va, vc, hve, _⟩ := id hpv
      subst hve
      have n1 : (0 : Int) ≤ (k : Int) := by omega
      have n2 : (k : Int) < (ts.length : Int) := by omega
      have n4 : (ts.length : Int) ≤ 1048576 := by omega
      have hdr : ts.drop k = t :: ts.drop (k + 1) := by
        rw [← List.getElem_cons_drop hlt]
        congr 1
        exact (List.getElem?_eq_some_iff.1 ht).2
      rw [hdr] at HSP0 HPA
      have HPV := hide hpv
      have HTT := hide ht
      clear hc hdr ht hpv
      go_wp2_with fail
      refine (rightToken_any t _ _ (unhide HPV) hts B (Nat.le_trans hB hbr.size) ((unhide HE).low (hbr.mono hB))).mono ?_
      rintro e w2 ⟨rfl, hb2⟩
      have hb02 := Below.then hbr hb2
      have HR2 := hide (owns_below (unhide HRW) hb2)
      have hlt2 : w.heap.size ≤ w2.heap.size := hb02.size
      have d0 := keptC hb2 c0
      have d1 := keptC hb2 c1
      have d2 := keptC hb2 c2
      have HPr : Hid (∀ u, 0 < k → ts[k - 1]? = some u → w2.cell? ⟨g, oo + (k - 1) * 4, none⟩ = some (.int .i64 u.kind)) := hide fun u _ hu => keptC hb2 (unhide HC (k - 1) u hu).k
      clear HRW HPV c0 c1 c2 c3 HC
      cases hok : okB t
      · have HF : Hid (forB ts = false) := hide (by rw [unhide HSP0, refDoc_cons, hok]; rfl)
        clear HSP0 hok HPA
        go_wp2
        go_ret
        exact ⟨right_5 (unhide HF), hb02⟩
      · have HS2 : Hid (forB ts = (match refStp o last t with | none => false | some x => refDoc x t.kind (ts.drop (k + 1)))) := hide (by rw [unhide HSP0, refDoc_cons, hok, Bool.true_and])
        have hkk := ok_kinds hok
        have HFW : Hid (t.kind ≠ 2 → t.attrs.length ≤ 64) := hide fun h => ok_few hok h
        clear HSP0 hok
        obtain ⟨kd, nm, ats, tx'⟩ := t
        simp only at *
        have HI := hide (fun (o' : List ByteArray) (dm' : Nat) (many' : Bool) (v' : Value) (W' : World) (h1 : Below w.heap.size w W') (h2 : W'.ownsRow w.heap.size 9 1 v' o'.length (o'.map Value.string)) (h3 : o'.length ≤ k + 1) (h5 : dm' ≤ k + 1) (h4 : refStp o last ⟨kd, nm, ats, tx'⟩ = some o') (h6 : pastGo o.length (pastV ts.length dm many) (⟨kd, nm, ats, tx'⟩ :: ts.drop (k + 1)) = pastGo o'.length (pastV ts.length dm' many') (ts.drop (k + 1))) => (⟨by omega, h1, h2, h3, h5, by rw [unhide HS2, h4], by rw [unhide HPA, h6], (fun h => absurd h (Nat.succ_ne_zero k)), (fun u _ hu => by
          rw [Nat.add_sub_cancel, unhide HTT] at hu
          cases hu
          rfl)⟩ : RhSt w ts (k + 1) o' kd dm' many' v' W'))
        have HF : Hid (refStp o last ⟨kd, nm, ats, tx'⟩ = none → forB ts = false) := hide fun h => by rw [unhide HS2, h]
        clear HS2 HPA
        have hal : (ats.length : Int) ≤ 1048576 := by have := hts.l; simp only at this; omega
        clear hts
        have HMN : Hid (decide ((64 : Int) < (ats.length : Int)) = decide (64 < ats.length)) := hide (decide_eq_decide.2 (by omega))
        cases many with
        | true =>
          rcases hkk with rfl | rfl | rfl | rfl | rfl
          · have HDS : Hid (refStp o last ⟨2, nm, ats, tx'⟩ = some (o ++ [nm])) := hide rfl
            have HPE : Hid (pastGo o.length (pastV ts.length dm true) (⟨2, nm, ats, tx'⟩ :: ts.drop (k + 1)) = pastGo ((o ++ [nm]).length : Nat) (pastV ts.length (if dm < o.length + 1 then o.length + 1 else dm) true) (ts.drop (k + 1))) := hide (by rw [past_elem rfl, List.length_append]; try rfl)
            obtain ⟨i0, hi, hz0, hz1, hz2⟩ := info_parts infoStrD
            by_cases hdd : dm < o.length + 1
            · rw [if_pos hdd] at HPE
              have g1 : (dm : Int) < (o.length : Int) + 1 := by omega
              go_wp2_with (at_builtin; refine wpList_append_own _ rfl _ _ 55 rfl w.heap.size 9 i0 _ 1 16 Tryz.underlying55 hi hz0 hz1 hz2 rfl (by decide) _ o.length (o.map Value.string) rfl (owns_below (unhide HR2) ((Below.refl _ _).alloc (Nat.le_refl _) _)) ⟨w2.heap.size, 0, none⟩ 1 1 [.string nm] rfl rfl (newsOne (by simp [go_sem])) (fun u hu => by simp at hu; subst hu; rfl) (by unfold maxLen; omega) (by omega) (by simp; omega) ?_; intro v8 w8 hown8 hgrow8 _; obtain ⟨a8, c8, rfl⟩ := owns_slice hown8)
              have hb8 : Below w.heap.size w w8 := (Below.then hb02 ((Below.refl _ _).alloc (Nat.le_refl _) _)).grown hgrow8 (by simp; omega) (fun j hj => ((unhide HR2).lt j hj).1)
              have HI8 := hide (unhide HI (o ++ [nm]) (o.length + 1) true _ w8 hb8 (by rw [List.length_append, List.map_append]; exact hown8) (by rw [List.length_append]; simp; omega) (by omega) (unhide HDS) (unhide HPE))
              clear HI HF HDS HPE hown8 hgrow8 hi hz0 hz1 hz2
              go_wp2_with fail
              go_round
              case measure => simp [intOf]; omega
              case rel => exact ⟨k + 1, o ++ [nm], 2, o.length + 1, true, by simp, by simp, rfl, HI8⟩
            · rw [if_neg hdd] at HPE
              have g1 : ¬ (dm : Int) < (o.length : Int) + 1 := by omega
              go_wp2_with (at_builtin; refine wpList_append_own _ rfl _ _ 55 rfl w.heap.size 9 i0 _ 1 16 Tryz.underlying55 hi hz0 hz1 hz2 rfl (by decide) _ o.length (o.map Value.string) rfl (owns_below (unhide HR2) ((Below.refl _ _).alloc (Nat.le_refl _) _)) ⟨w2.heap.size, 0, none⟩ 1 1 [.string nm] rfl rfl (newsOne (by simp [go_sem])) (fun u hu => by simp at hu; subst hu; rfl) (by unfold maxLen; omega) (by omega) (by simp; omega) ?_; intro v8 w8 hown8 hgrow8 _; obtain ⟨a8, c8, rfl⟩ := owns_slice hown8)
              have hb8 : Below w.heap.size w w8 := (Below.then hb02 ((Below.refl _ _).alloc (Nat.le_refl _) _)).grown hgrow8 (by simp; omega) (fun j hj => ((unhide HR2).lt j hj).1)
              have HI8 := hide (unhide HI (o ++ [nm]) dm true _ w8 hb8 (by rw [List.length_append, List.map_append]; exact hown8) (by rw [List.length_append]; simp; omega) (by omega) (unhide HDS) (unhide HPE))
              clear HI HF HDS HPE hown8 hgrow8 hi hz0 hz1 hz2
              go_wp2_with fail
              go_round
              case measure => simp [intOf]; omega
              case rel => exact ⟨k + 1, o ++ [nm], 2, dm, true, by simp, rfl, rfl, HI8⟩
          · cases hg : o.getLast? with
            | none =>
              have HNO : Hid (refStp o last ⟨7, nm, ats, tx'⟩ = none) := hide (by unfold refStp; rw [if_neg (by simp), if_pos rfl, hg])
              have hoe : o = [] := List.getLast?_eq_none_iff.1 hg
              have htop : (((o.length : Nat) : Int) == 0) = true := by rw [hoe]; rfl
              clear HI hg hoe
              go_wp2_with fail
              go_quiet (fail)
              go_wp2
              go_ret
              exact ⟨right_5 (unhide HF (unhide HNO)), Below.then hb02 (below_drewN _ _)⟩
            | some y =>
              have hne : o ≠ [] := fun h0 => by rw [h0] at hg; cases hg
              have hol := List.length_pos_iff.2 hne
              have htop : (((o.length : Nat) : Int) == 0) = false := beq_eq_false_iff_ne.2 (by omega)
              obtain ⟨g7, c7, he7, hc7, hle7⟩ := strs_last (unhide HR2) hg
              cases he7
              have i1 : (0 : Int) ≤ (o.length : Int) - 1 := by omega
              have i2 : (o.length : Int) - 1 < (o.length : Int) := by omega
              have i3 : ((o.length : Int) - 1).toNat = o.length - 1 := by omega
              have i4 : IntKind.i64.wrap ((o.length : Int) - 1) = (o.length : Int) - 1 := by rw [IntKind.wrap_i64]; omega
              cases hcmp : (y.toList == nm.toList)
              · have HNO : Hid (refStp o last ⟨7, nm, ats, tx'⟩ = none) := hide (by unfold refStp; rw [if_neg (by simp), if_pos rfl, hg]; dsimp only; rw [hcmp]; rfl)
                clear HI hg hne
                go_wp2_with fail
                go_quiet (fail)
                go_wp2
                go_ret
                exact ⟨right_5 (unhide HF (unhide HNO)), Below.then hb02 (below_drewN _ _)⟩
              · have HDS : Hid (refStp o last ⟨7, nm, ats, tx'⟩ = some o.dropLast) := hide (by unfold refStp; rw [if_neg (by simp), if_pos rfl, hg]; dsimp only; rw [hcmp]; rfl)
                have HPE : Hid (pastGo o.length (pastV ts.length dm true) (⟨7, nm, ats, tx'⟩ :: ts.drop (k + 1)) = pastGo (o.dropLast.length : Nat) (pastV ts.length dm true) (ts.drop (k + 1))) := hide (by
                  rw [past_none (by simp) (unhide HFW (by decide)), if_pos rfl, List.length_dropLast, show ((o.length : Nat) : Int) - 1 = ((o.length - 1 : Nat) : Int) by omega]
                  try rfl)
                clear HF hg hne
                go_wp2_with fail
                go_quiet (fail)
                have hbq := below_drewN w2 nq
                have HI8 := hide (unhide HI o.dropLast dm true _ (w2.drewN nq) (Below.then hb02 hbq) (strs_drop (owns_below (unhide HR2) hbq)) (by rw [List.length_dropLast]; omega) (by omega) (unhide HDS) (unhide HPE))
                clear HI HDS HPE
                generalize w2.drewN nq = W at *
                go_wp2_with fail
                go_round
                case measure => simp [intOf]; omega
                case rel => exact ⟨k + 1, o.dropLast, 7, dm, true, by simp, rfl, rfl, HI8⟩
          · have HPE : Hid (pastGo o.length (pastV ts.length dm true) (⟨4, nm, ats, tx'⟩ :: ts.drop (k + 1)) = pastGo (o.length : Nat) (pastV ts.length dm true) (ts.drop (k + 1))) := hide (by
              rw [past_none (by simp) (unhide HFW (by decide)), if_neg (by simp)]
              try rfl)
            by_cases hk0 : k = 0
            · have hl0 := unhide HZ hk0
              have HDS : Hid (refStp o last ⟨4, nm, ats, tx'⟩ = some o) := hide (by rw [hl0]; rfl)
              have HI8 := hide (unhide HI o dm true (.slice ao o.length co) w2 hb02 (unhide HR2) (by omega) (by omega) (unhide HDS) (unhide HPE))
              clear HI HDS HF HPr HLA HZ HPE
              subst hk0
              rw [Nat.zero_mul, Nat.add_zero] at d0 d2
              clear d1
              go_wp2_with fail
              go_round
              case measure => simp [intOf]; omega
              case rel => exact ⟨0 + 1, o, 4, dm, true, by simp, rfl, rfl, HI8⟩
            · obtain ⟨u, hu⟩ : ∃ u, ts[k - 1]? = some u := ⟨ts[k - 1], List.getElem?_eq_getElem (by omega)⟩
              have hla := unhide HLA u (by omega) hu
              have e0 := unhide HPr u (by omega) hu
              have hkp : (0 : Int) < (k : Int) := by omega
              have hkp' : 0 < k := by omega
              have i1 : (0 : Int) ≤ (k : Int) - 1 := by omega
              have i2 : (k : Int) - 1 < (ts.length : Int) := by omega
              have i3 : ((k : Int) - 1).toNat = k - 1 := by omega
              have i4 : wrap64 ((k : Int) - 1) = (k : Int) - 1 := by unfold wrap64; omega
              rw [hla] at HI HF
              clear hu
              cases hu4 : (u.kind == 4)
              · have HDS : Hid (refStp o u.kind ⟨4, nm, ats, tx'⟩ = some o) := hide (by unfold refStp; rw [if_neg (by simp), if_neg (by simp), if_pos rfl, hu4]; rfl)
                have HI8 := hide (unhide HI o dm true (.slice ao o.length co) w2 hb02 (unhide HR2) (by omega) (by omega) (unhide HDS) (unhide HPE))
                clear HI HDS HF hla HPE
                go_wp2_with fail
                go_round
                case measure => simp [intOf]; omega
                case rel => exact ⟨k + 1, o, 4, dm, true, by simp, rfl, rfl, HI8⟩
              · have HNO : Hid (refStp o u.kind ⟨4, nm, ats, tx'⟩ = none) := hide (by unfold refStp; rw [if_neg (by simp), if_neg (by simp), if_pos rfl, hu4]; rfl)
                have hu5 : u.kind = 4 := by simpa using hu4
                rw [hu5] at e0
                clear HI hla hu4 HPE
                go_wp2
                go_ret
                exact ⟨right_5 (unhide HF (unhide HNO)), hb02⟩
          · have HDS : Hid (refStp o last ⟨5, nm, ats, tx'⟩ = some o) := hide rfl
            have HPE : Hid (pastGo o.length (pastV ts.length dm true) (⟨5, nm, ats, tx'⟩ :: ts.drop (k + 1)) = pastGo (o.length : Nat) (pastV ts.length dm true) (ts.drop (k + 1))) := hide (by
              rw [past_none (by simp) (unhide HFW (by decide)), if_neg (by simp)]
              try rfl)
            have HI8 := hide (unhide HI o dm true (.slice ao o.length co) w2 hb02 (unhide HR2) (by omega) (by omega) (unhide HDS) (unhide HPE))
            clear HI HDS HF HPE
            go_wp2_with fail
            go_round
            case measure => simp [intOf]; omega
            case rel => exact ⟨k + 1, o, 5, dm, true, by simp, rfl, rfl, HI8⟩
          · have HDS : Hid (refStp o last ⟨6, nm, ats, tx'⟩ = some o) := hide rfl
            have HPE : Hid (pastGo o.length (pastV ts.length dm true) (⟨6, nm, ats, tx'⟩ :: ts.drop (k + 1)) = pastGo (o.length : Nat) (pastV ts.length dm true) (ts.drop (k + 1))) := hide (by
              rw [past_none (by simp) (unhide HFW (by decide)), if_neg (by simp)]
              try rfl)
            have HI8 := hide (unhide HI o dm true (.slice ao o.length co) w2 hb02 (unhide HR2) (by omega) (by omega) (unhide HDS) (unhide HPE))
            clear HI HDS HF HPE
            go_wp2_with fail
            go_round
            case measure => simp [intOf]; omega
            case rel => exact ⟨k + 1, o, 6, dm, true, by simp, rfl, rfl, HI8⟩
        | false =>
          rcases hkk with rfl | rfl | rfl | rfl | rfl
          · have HDS : Hid (refStp o last ⟨2, nm, ats, tx'⟩ = some (o ++ [nm])) := hide rfl
            have HPE : Hid (pastGo o.length (pastV ts.length dm false) (⟨2, nm, ats, tx'⟩ :: ts.drop (k + 1)) = pastGo ((o ++ [nm]).length : Nat) (pastV ts.length (if dm < o.length + 1 then o.length + 1 else dm) (decide (64 < ats.length))) (ts.drop (k + 1))) := hide (by rw [past_elem rfl, List.length_append]; try rfl)
            obtain ⟨i0, hi, hz0, hz1, hz2⟩ := info_parts infoStrD
            by_cases hdd : dm < o.length + 1
            · rw [if_pos hdd] at HPE
              have g1 : (dm : Int) < (o.length : Int) + 1 := by omega
              go_wp2_with (at_builtin; refine wpList_append_own _ rfl _ _ 55 rfl w.heap.size 9 i0 _ 1 16 Tryz.underlying55 hi hz0 hz1 hz2 rfl (by decide) _ o.length (o.map Value.string) rfl (owns_below (unhide HR2) ((Below.refl _ _).alloc (Nat.le_refl _) _)) ⟨w2.heap.size, 0, none⟩ 1 1 [.string nm] rfl rfl (newsOne (by simp [go_sem])) (fun u hu => by simp at hu; subst hu; rfl) (by unfold maxLen; omega) (by omega) (by simp; omega) ?_; intro v8 w8 hown8 hgrow8 _; obtain ⟨a8, c8, rfl⟩ := owns_slice hown8)
              have hb8 : Below w.heap.size w w8 := (Below.then hb02 ((Below.refl _ _).alloc (Nat.le_refl _) _)).grown hgrow8 (by simp; omega) (fun j hj => ((unhide HR2).lt j hj).1)
              have HI8 := hide (unhide HI (o ++ [nm]) (o.length + 1) (decide (64 < ats.length)) _ w8 hb8 (by rw [List.length_append, List.map_append]; exact hown8) (by rw [List.length_append]; simp; omega) (by omega) (unhide HDS) (unhide HPE))
              clear HI HF HDS HPE hown8 hgrow8 hi hz0 hz1 hz2
              go_wp2_with fail
              go_round
              case measure => simp [intOf]; omega
              case rel => exact ⟨k + 1, o ++ [nm], 2, o.length + 1, (decide (64 < ats.length)), by simp, by simp, (by rw [unhide HMN]), HI8⟩
            · rw [if_neg hdd] at HPE
              have g1 : ¬ (dm : Int) < (o.length : Int) + 1 := by omega
              go_wp2_with (at_builtin; refine wpList_append_own _ rfl _ _ 55 rfl w.heap.size 9 i0 _ 1 16 Tryz.underlying55 hi hz0 hz1 hz2 rfl (by decide) _ o.length (o.map Value.string) rfl (owns_below (unhide HR2) ((Below.refl _ _).alloc (Nat.le_refl _) _)) ⟨w2.heap.size, 0, none⟩ 1 1 [.string nm] rfl rfl (newsOne (by simp [go_sem])) (fun u hu => by simp at hu; subst hu; rfl) (by unfold maxLen; omega) (by omega) (by simp; omega) ?_; intro v8 w8 hown8 hgrow8 _; obtain ⟨a8, c8, rfl⟩ := owns_slice hown8)
              have hb8 : Below w.heap.size w w8 := (Below.then hb02 ((Below.refl _ _).alloc (Nat.le_refl _) _)).grown hgrow8 (by simp; omega) (fun j hj => ((unhide HR2).lt j hj).1)
              have HI8 := hide (unhide HI (o ++ [nm]) dm (decide (64 < ats.length)) _ w8 hb8 (by rw [List.length_append, List.map_append]; exact hown8) (by rw [List.length_append]; simp; omega) (by omega) (unhide HDS) (unhide HPE))
              clear HI HF HDS HPE hown8 hgrow8 hi hz0 hz1 hz2
              go_wp2_with fail
              go_round
              case measure => simp [intOf]; omega
              case rel => exact ⟨k + 1, o ++ [nm], 2, dm, (decide (64 < ats.length)), by simp, rfl, (by rw [unhide HMN]), HI8⟩
          · cases hg : o.getLast? with
            | none =>
              have HNO : Hid (refStp o last ⟨7, nm, ats, tx'⟩ = none) := hide (by unfold refStp; rw [if_neg (by simp), if_pos rfl, hg])
              have hoe : o = [] := List.getLast?_eq_none_iff.1 hg
              have htop : (((o.length : Nat) : Int) == 0) = true := by rw [hoe]; rfl
              clear HI hg hoe
              go_wp2_with fail
              go_quiet (fail)
              go_wp2
              go_ret
              exact ⟨right_5 (unhide HF (unhide HNO)), Below.then hb02 (below_drewN _ _)⟩
            | some y =>
              have hne : o ≠ [] := fun h0 => by rw [h0] at hg; cases hg
              have hol := List.length_pos_iff.2 hne
              have htop : (((o.length : Nat) : Int) == 0) = false := beq_eq_false_iff_ne.2 (by omega)
              obtain ⟨g7, c7, he7, hc7, hle7⟩ := strs_last (unhide HR2) hg
              cases he7
              have i1 : (0 : Int) ≤ (o.length : Int) - 1 := by omega
              have i2 : (o.length : Int) - 1 < (o.length : Int) := by omega
              have i3 : ((o.length : Int) - 1).toNat = o.length - 1 := by omega
              have i4 : IntKind.i64.wrap ((o.length : Int) - 1) = (o.length : Int) - 1 := by rw [IntKind.wrap_i64]; omega
              cases hcmp : (y.toList == nm.toList)
              · have HNO : Hid (refStp o last ⟨7, nm, ats, tx'⟩ = none) := hide (by unfold refStp; rw [if_neg (by simp), if_pos rfl, hg]; dsimp only; rw [hcmp]; rfl)
                clear HI hg hne
                go_wp2_with fail
                go_quiet (fail)
                go_wp2
                go_ret
                exact ⟨right_5 (unhide HF (unhide HNO)), Below.then hb02 (below_drewN _ _)⟩
              · have HDS : Hid (refStp o last ⟨7, nm, ats, tx'⟩ = some o.dropLast) := hide (by unfold refStp; rw [if_neg (by simp), if_pos rfl, hg]; dsimp only; rw [hcmp]; rfl)
                have HPE : Hid (pastGo o.length (pastV ts.length dm false) (⟨7, nm, ats, tx'⟩ :: ts.drop (k + 1)) = pastGo (o.dropLast.length : Nat) (pastV ts.length dm (decide (64 < ats.length))) (ts.drop (k + 1))) := hide (by
                  rw [past_none (by simp) (unhide HFW (by decide)), if_pos rfl, List.length_dropLast, show ((o.length : Nat) : Int) - 1 = ((o.length - 1 : Nat) : Int) by omega]
                  try rfl)
                clear HF hg hne
                go_wp2_with fail
                go_quiet (fail)
                have hbq := below_drewN w2 nq
                have HI8 := hide (unhide HI o.dropLast dm (decide (64 < ats.length)) _ (w2.drewN nq) (Below.then hb02 hbq) (strs_drop (owns_below (unhide HR2) hbq)) (by rw [List.length_dropLast]; omega) (by omega) (unhide HDS) (unhide HPE))
                clear HI HDS HPE
                generalize w2.drewN nq = W at *
                go_wp2_with fail
                go_round
                case measure => simp [intOf]; omega
                case rel => exact ⟨k + 1, o.dropLast, 7, dm, (decide (64 < ats.length)), by simp, rfl, (by rw [unhide HMN]), HI8⟩
          · have HPE : Hid (pastGo o.length (pastV ts.length dm false) (⟨4, nm, ats, tx'⟩ :: ts.drop (k + 1)) = pastGo (o.length : Nat) (pastV ts.length dm (decide (64 < ats.length))) (ts.drop (k + 1))) := hide (by
              rw [past_none (by simp) (unhide HFW (by decide)), if_neg (by simp)]
              try rfl)
            by_cases hk0 : k = 0
            · have hl0 := unhide HZ hk0
              have HDS : Hid (refStp o last ⟨4, nm, ats, tx'⟩ = some o) := hide (by rw [hl0]; rfl)
              have HI8 := hide (unhide HI o dm (decide (64 < ats.length)) (.slice ao o.length co) w2 hb02 (unhide HR2) (by omega) (by omega) (unhide HDS) (unhide HPE))
              clear HI HDS HF HPr HLA HZ HPE
              subst hk0
              rw [Nat.zero_mul, Nat.add_zero] at d0 d2
              clear d1
              go_wp2_with fail
              go_round
              case measure => simp [intOf]; omega
              case rel => exact ⟨0 + 1, o, 4, dm, (decide (64 < ats.length)), by simp, rfl, (by rw [unhide HMN]), HI8⟩
            · obtain ⟨u, hu⟩ : ∃ u, ts[k - 1]? = some u := ⟨ts[k - 1], List.getElem?_eq_getElem (by omega)⟩
              have hla := unhide HLA u (by omega) hu
              have e0 := unhide HPr u (by omega) hu
              have hkp : (0 : Int) < (k : Int) := by omega
              have hkp' : 0 < k := by omega
              have i1 : (0 : Int) ≤ (k : Int) - 1 := by omega
              have i2 : (k : Int) - 1 < (ts.length : Int) := by omega
              have i3 : ((k : Int) - 1).toNat = k - 1 := by omega
              have i4 : wrap64 ((k : Int) - 1) = (k : Int) - 1 := by unfold wrap64; omega
              rw [hla] at HI HF
              clear hu
              cases hu4 : (u.kind == 4)
              · have HDS : Hid (refStp o u.kind ⟨4, nm, ats, tx'⟩ = some o) := hide (by unfold refStp; rw [if_neg (by simp), if_neg (by simp), if_pos rfl, hu4]; rfl)
                have HI8 := hide (unhide HI o dm (decide (64 < ats.length)) (.slice ao o.length co) w2 hb02 (unhide HR2) (by omega) (by omega) (unhide HDS) (unhide HPE))
                clear HI HDS HF hla HPE
                go_wp2_with fail
                go_round
                case measure => simp [intOf]; omega
                case rel => exact ⟨k + 1, o, 4, dm, (decide (64 < ats.length)), by simp, rfl, (by rw [unhide HMN]), HI8⟩
              · have HNO : Hid (refStp o u.kind ⟨4, nm, ats, tx'⟩ = none) := hide (by unfold refStp; rw [if_neg (by simp), if_neg (by simp), if_pos rfl, hu4]; rfl)
                have hu5 : u.kind = 4 := by simpa using hu4
                rw [hu5] at e0
                clear HI hla hu4 HPE
                go_wp2
                go_ret
                exact ⟨right_5 (unhide HF (unhide HNO)), hb02⟩
          · have HDS : Hid (refStp o last ⟨5, nm, ats, tx'⟩ = some o) := hide rfl
            have HPE : Hid (pastGo o.length (pastV ts.length dm false) (⟨5, nm, ats, tx'⟩ :: ts.drop (k + 1)) = pastGo (o.length : Nat) (pastV ts.length dm (decide (64 < ats.length))) (ts.drop (k + 1))) := hide (by
              rw [past_none (by simp) (unhide HFW (by decide)), if_neg (by simp)]
              try rfl)
            have HI8 := hide (unhide HI o dm (decide (64 < ats.length)) (.slice ao o.length co) w2 hb02 (unhide HR2) (by omega) (by omega) (unhide HDS) (unhide HPE))
            clear HI HDS HF HPE
            go_wp2_with fail
            go_round
            case measure => simp [intOf]; omega
            case rel => exact ⟨k + 1, o, 5, dm, (decide (64 < ats.length)), by simp, rfl, (by rw [unhide HMN]), HI8⟩
          · have HDS : Hid (refStp o last ⟨6, nm, ats, tx'⟩ = some o) := hide rfl
            have HPE : Hid (pastGo o.length (pastV ts.length dm false) (⟨6, nm, ats, tx'⟩ :: ts.drop (k + 1)) = pastGo (o.length : Nat) (pastV ts.length dm (decide (64 < ats.length))) (ts.drop (k + 1))) := hide (by
              rw [past_none (by simp) (unhide HFW (by decide)), if_neg (by simp)]
              try rfl)
            have HI8 := hide (unhide HI o dm (decide (64 < ats.length)) (.slice ao o.length co) w2 hb02 (unhide HR2) (by omega) (by omega) (unhide HDS) (unhide HPE))
            clear HI HDS HF HPE
            go_wp2_with fail
            go_round
            case measure => simp [intOf]; omega
            case rel => exact ⟨k + 1, o, 6, dm, (decide (64 < ats.length)), by simp, rfl, (by rw [unhide HMN]), HI8⟩
    · have n2 : ¬ (k : Int) < (ts.length : Int) := by omega
      have hkl : k = ts.length := by omega
      have HSP : Hid (forB ts = o.isEmpty) := hide (by rw [unhide HSP0, hkl, List.drop_length]; rfl)
      have HPS : Hid (pastD ts = (decide (4096 < ts.length) || (decide (32 < dm) || many))) := hide (by rw [unhide HPA, hkl, List.drop_length]; rfl)
      clear HSP0 HPA hkl HRW
      by_cases ho : o = []
      · have HT : Hid (forB ts = true) := hide (by rw [unhide HSP, ho]; rfl)
        subst ho
        by_cases h1 : 32 < dm
        · have g1 : (32 : Int) < (dm : Int) := by omega
          have HP : Hid (pastD ts = true) := hide (by rw [unhide HPS, decide_eq_true h1]; simp)
          go_wp2
          go_ret
          exact ⟨right_6 (unhide HT) (unhide HP), hbr⟩
        · have g1 : ¬ (32 : Int) < (dm : Int) := by omega
          cases many with
          | true =>
            have HP : Hid (pastD ts = true) := hide (by rw [unhide HPS]; simp)
            go_wp2
            go_ret
            exact ⟨right_6 (unhide HT) (unhide HP), hbr⟩
          | false =>
            by_cases h2 : 4096 < ts.length
            · have g2 : (4096 : Int) < (ts.length : Int) := by omega
              have HP : Hid (pastD ts = true) := hide (by rw [unhide HPS, decide_eq_true h2]; rfl)
              go_wp2
              go_ret
              exact ⟨right_6 (unhide HT) (unhide HP), hbr⟩
            · have g2 : ¬ (4096 : Int) < (ts.length : Int) := by omega
              have HP : Hid (pastD ts = false) := hide (by rw [unhide HPS, decide_eq_false h2, decide_eq_false h1]; rfl)
              go_wp2
              go_ret
              exact ⟨right_0 (unhide HT) (unhide HP), hbr⟩
      · have HF : Hid (forB ts = false) := hide (by
          rw [unhide HSP]
          cases o with
          | nil => exact absurd rfl ho
          | cons _ _ => rfl)
        have g1 : (0 : Int) < (o.length : Int) := by have := List.length_pos_iff.2 ho; omega
        go_wp2
        go_ret
        exact ⟨right_5 (unhide HF), hbr⟩
end Go.Proofs.YtmemcabipcccaaaGreatDoor
