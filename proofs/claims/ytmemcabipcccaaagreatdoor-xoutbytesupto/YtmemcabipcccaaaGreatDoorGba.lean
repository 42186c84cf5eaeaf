/- Several texts, laid as one. -/
import Derived.Test.YtmemcabipcccaaaGreatDoorXmlWrV
import Derived.Test.YtmemcabipcccaaaGreatDoorXmlWrW
import Derived.Lib.AppendZerosOnto
import Derived.Lib.SliceRun
/- Whether tokens are too many, or too deep: xmlscan's pastLimits. -/
namespace Go.Proofs.YtmemcabipcccaaaGreatDoor
open Go.RowKit
set_option maxRecDepth 100000 in
theorem crowded_any (t : BTok) (v : Value) (w : World) (hv : PairsArg w v t.attrs) :
    Calls Tryz.prog 88 #[.agg #[.int .i64 t.kind, .string t.name, v, .string t.text]] w fun e w' => e = .returned (.bool (decide (64 < t.attrs.length))) ∧ Below w.heap.size w w' := by
  obtain ⟨a, cap, rfl, _⟩ := hv
  go_enter Tryz.func88, Tryz.ntmps88
  go_wp2
  go_ret
  refine ⟨ret_bool ?_, (Below.refl _ _).alloc (Nat.le_refl _) _⟩
  exact decide_eq_decide.2 (by omega)
def crowd (t : BTok) : Bool := decide (64 < t.attrs.length)
theorem any_take {ts : List BTok} {k : Nat} {t : BTok} (h : ts[k]? = some t) : (ts.take (k + 1)).any crowd = ((ts.take k).any crowd || crowd t) := by
  obtain ⟨hk, hx⟩ := List.getElem?_eq_some_iff.1 h
  rw [List.take_succ_eq_append_getElem hk, List.any_append, hx]
  simp
theorem any_at {ts : List BTok} {k : Nat} {t : BTok} (h : ts[k]? = some t) (hc : crowd t = true) : ts.any crowd = true := List.any_eq_true.2 ⟨t, List.mem_of_getElem? h, hc⟩
set_option maxRecDepth 100000 in
set_option maxHeartbeats 4000000 in
theorem indexFunc_any (ts : List BTok) (a : Option Addr) (cap : Nat) (w : World) (hv : ToksArg w a ts) (hn : ts.length ≤ 1048580) :
    Calls Tryz.prog 107 #[.slice a ts.length cap, .func (.func 88) #[] #[]] w fun e w' => (∃ j : Int, e = .returned (.int .i64 j) ∧ decide (0 ≤ j) = ts.any crowd) ∧ Below w.heap.size w w' := by
  have HV := hide hv
  clear hv
  go_enter Tryz.func107, Tryz.ntmps107
  go_wp2_with fail
  go_loopw [8] (fun i wr => ∃ k : Nat, i = .int .i64 (k : Nat) ∧ k ≤ ts.length ∧ Below w.heap.size w wr ∧ (ts.take k).any crowd = false) (fun i _ => ts.length - (intOf i).toNat)
  case atStart => exact ⟨0, rfl, Nat.zero_le _, Below.refl _ _, rfl⟩
  case round =>
    obtain ⟨k, rfl, hk, hbr, han⟩ := hrel
    have HAN := hide han
    clear han
    by_cases hlt : k < ts.length
    · obtain ⟨t, ht⟩ : ∃ t, ts[k]? = some t := ⟨ts[k], List.getElem?_eq_getElem hlt⟩
      obtain ⟨g, oo, ha, hc⟩ := ((unhide HV).below hbr) (by intro h0; rw [h0] at hlt; cases hlt)
      subst ha
      obtain ⟨c0, c1, ⟨v, c2, hpv⟩, c3⟩ := hc k t ht
      obtain ⟨va, vc, hve, _⟩ := id hpv
      subst hve
      have n1 : (0 : Int) ≤ (k : Int) := by omega
      have n2 : (k : Int) < (ts.length : Int) := by omega
      have HT := hide ht
      have HPV := hide hpv
      clear hc ht hpv
      go_wp2_with fail
      refine (crowded_any t _ _ (unhide HPV)).mono ?_
      rintro e w1 ⟨rfl, hb1⟩
      have hb01 := Below.then hbr hb1
      cases hcr : decide (64 < t.attrs.length)
      · have HA2 : Hid ((ts.take (k + 1)).any crowd = false) := hide (by rw [any_take (unhide HT), unhide HAN]; exact hcr)
        clear HAN hcr
        go_wp2_with fail
        go_round
        case measure => simp [intOf]; omega
        case rel => exact ⟨k + 1, by simp, by omega, hb01, unhide HA2⟩
      · have HA2 : Hid (ts.any crowd = true) := hide (any_at (unhide HT) hcr)
        clear HAN hcr
        go_wp2
        go_ret
        exact ⟨⟨(k : Nat), rfl, by rw [unhide HA2]; simp⟩, hb01⟩
    · have n2 : ¬ (k : Int) < (ts.length : Int) := by omega
      have HA2 : Hid (ts.any crowd = false) := hide (by
        have := unhide HAN
        rwa [List.take_of_length_le (by omega)] at this)
      go_wp2
      go_ret
      exact ⟨⟨-1, rfl, by rw [unhide HA2]; rfl⟩, hbr⟩
set_option maxRecDepth 100000 in
theorem containsFunc_any (ts : List BTok) (a : Option Addr) (cap : Nat) (w : World) (hv : ToksArg w a ts) (hn : ts.length ≤ 1048580) :
    Calls Tryz.prog 89 #[.slice a ts.length cap, .func (.func 88) #[] #[]] w fun e w' => e = .returned (.bool (ts.any crowd)) ∧ Below w.heap.size w w' := by
  have HI := hide (indexFunc_any ts a cap w hv hn)
  clear hv
  go_enter Tryz.func89, Tryz.ntmps89
  go_wp2_with fail
  refine (unhide HI).mono ?_
  rintro e w1 ⟨⟨j, rfl, hj⟩, hb1⟩
  have HJ := hide hj
  clear hj
  go_wp2
  go_ret
  exact ⟨ret_bool (unhide HJ), hb1⟩
structure LimSt (w : World) (ts : List BTok) (k : Nat) (d m : Int) (w' : World) : Prop where
  le : k ≤ ts.length
  bel : Below w.heap.size w w'
  d1 : -(k : Int) ≤ d
  d2 : d ≤ k
  m1 : 0 ≤ m
  m2 : m ≤ k
  spec : deepGo 0 0 ts = deepGo d m (ts.drop k)
theorem deepGo_cons (d m : Int) (t : BTok) (ts : List BTok) : deepGo d m (t :: ts) = if t.kind = 2 then deepGo (d + 1) (max m (d + 1)) ts else if t.kind = 7 then deepGo (d - 1) m ts else deepGo d m ts := rfl
set_option maxRecDepth 100000 in
set_option maxHeartbeats 4000000 in
theorem pastLimits_any (ts : List BTok) (a : Option Addr) (cap : Nat) (w : World) (hv : ToksArg w a ts) (hn : ts.length ≤ 1048580) :
    Calls Tryz.prog 67 #[.slice a ts.length cap] w fun e w' => e = .returned (.bool (pastB ts)) ∧ Below w.heap.size w w' := by
  have HV := hide hv
  have HI0 : Hid (LimSt w ts 0 0 0 w) := hide ⟨Nat.zero_le _, Below.refl _ _, by omega, by omega, by omega, by omega, rfl⟩
  clear hv
  go_enter Tryz.func67, Tryz.ntmps67
  go_wp2_with fail
  go_loopw [3, 4, 10] (fun s3 s4 i wr => ∃ (k : Nat) (d m : Int), i = .int .i64 (k : Nat) ∧ s3 = .int .i64 d ∧ s4 = .int .i64 m ∧ LimSt w ts k d m wr) (fun _ _ i _ => ts.length - (intOf i).toNat)
  case atStart => exact ⟨0, 0, 0, rfl, rfl, rfl, unhide HI0⟩
  case round =>
    clear HI0
    obtain ⟨k, d, m, rfl, rfl, rfl, hI⟩ := hrel
    have hk := hI.le
    have hbr := hI.bel
    have d1 := hI.d1
    have d2 := hI.d2
    have m1 := hI.m1
    have m2 := hI.m2
    by_cases hlt : k < ts.length
    · obtain ⟨t, ht⟩ : ∃ t, ts[k]? = some t := ⟨ts[k], List.getElem?_eq_getElem hlt⟩
      obtain ⟨g, oo, ha, hc⟩ := ((unhide HV).below hbr) (by intro h0; rw [h0] at hlt; cases hlt)
      subst ha
      obtain ⟨c0, c1, ⟨v, c2, hpv⟩, c3⟩ := hc k t ht
      obtain ⟨va, vc, hve, _⟩ := id hpv
      subst hve
      have n1 : (0 : Int) ≤ (k : Int) := by omega
      have n2 : (k : Int) < (ts.length : Int) := by omega
      have hdr : ts.drop k = t :: ts.drop (k + 1) := by
        rw [← List.getElem_cons_drop hlt]
        congr 1
        exact (List.getElem?_eq_some_iff.1 ht).2
      have hspec := hI.spec
      rw [hdr, deepGo_cons] at hspec
      have hbA : Below wr.heap.size wr (wr.alloc (.cells #[.int .i64 t.kind, .string t.name, .slice va t.attrs.length vc, .string t.text] 53 (0, 0))) := (Below.refl _ _).alloc (Nat.le_refl _) _
      have hb0 := Below.then hbr hbA
      obtain ⟨kd, nm, ats, tx'⟩ := t
      simp only at *
      clear hI hc hdr ht hpv hbA
      by_cases k2 : kd = 2
      · subst k2
        rw [if_pos rfl] at hspec
        have HI2 : Hid (LimSt w ts (k + 1) (d + 1) (max m (d + 1)) (wr.alloc (.cells #[.int .i64 2, .string nm, .slice va ats.length vc, .string tx'] 53 (0, 0)))) := hide ⟨by omega, hb0, by omega, by omega, by omega, by omega, hspec⟩
        have e1 : wrap64 (d + 1) = d + 1 := by unfold wrap64; omega
        clear hspec
        go_wp2_with fail
        go_round
        case measure => simp [intOf]; omega
        case rel => exact ⟨k + 1, d + 1, max m (d + 1), by simp, rfl, rfl, unhide HI2⟩
      · rw [if_neg k2] at hspec
        have g2 : (kd == 2) = false := by simpa using k2
        by_cases k7 : kd = 7
        · subst k7
          rw [if_pos rfl] at hspec
          have HI2 : Hid (LimSt w ts (k + 1) (d - 1) m (wr.alloc (.cells #[.int .i64 7, .string nm, .slice va ats.length vc, .string tx'] 53 (0, 0)))) := hide ⟨by omega, hb0, by omega, by omega, by omega, by omega, hspec⟩
          have e1 : wrap64 (d - 1) = d - 1 := by unfold wrap64; omega
          clear hspec
          go_wp2_with fail
          go_round
          case measure => simp [intOf]; omega
          case rel => exact ⟨k + 1, d - 1, m, by simp, rfl, rfl, unhide HI2⟩
        · have g7 : (kd == 7) = false := by simpa using k7
          rw [if_neg k7] at hspec
          have HI2 : Hid (LimSt w ts (k + 1) d m (wr.alloc (.cells #[.int .i64 kd, .string nm, .slice va ats.length vc, .string tx'] 53 (0, 0)))) := hide ⟨by omega, hb0, by omega, by omega, by omega, by omega, hspec⟩
          clear hspec k2 k7
          go_wp2_with fail
          go_round
          case measure => simp [intOf]; omega
          case rel => exact ⟨k + 1, d, m, by simp, rfl, rfl, unhide HI2⟩
    · have n2 : ¬ (k : Int) < (ts.length : Int) := by omega
      have hkl : k = ts.length := by omega
      have hsp := hI.spec
      rw [hkl, List.drop_length] at hsp
      have HSP : Hid (pastB ts = (decide (4096 < ts.length) || (decide (32 < m) || ts.any crowd))) := hide (by
        unfold pastB
        rw [hsp]
        rfl)
      have HC := hide (containsFunc_any ts a cap wr ((unhide HV).below hbr) hn)
      clear hI hsp
      by_cases hl : 4096 < ts.length
      · have hl' : (4096 : Int) < (ts.length : Int) := by omega
        have HF : Hid (pastB ts = true) := hide (by rw [unhide HSP, decide_eq_true hl]; rfl)
        go_wp2
        go_ret
        exact ⟨ret_bool (unhide HF).symm, hbr⟩
      · have hl' : ¬ (4096 : Int) < (ts.length : Int) := by omega
        have HSP2 : Hid (pastB ts = (decide (32 < m) || ts.any crowd)) := hide (by rw [unhide HSP, decide_eq_false hl, Bool.false_or])
        clear HSP
        by_cases hm : 32 < m
        · have HF : Hid (pastB ts = true) := hide (by rw [unhide HSP2, decide_eq_true hm]; rfl)
          go_wp2
          go_ret
          exact ⟨ret_bool (unhide HF).symm, hbr⟩
        · have HF : Hid (pastB ts = ts.any crowd) := hide (by rw [unhide HSP2, decide_eq_false hm, Bool.false_or])
          go_wp2_with fail
          refine (unhide HC).mono ?_
          rintro e w1 ⟨rfl, hb1⟩
          go_wp2
          go_ret
          exact ⟨ret_bool (unhide HF).symm, Below.then hbr hb1⟩
end Go.Proofs.YtmemcabipcccaaaGreatDoor
/- Tokens as a text: xmlscan's Write. -/
namespace Go.Proofs.YtmemcabipcccaaaGreatDoor
open Go.RowKit
theorem tokB_len {t : BTok} (h : Small t) (hl : t.attrs.length ≤ 64) : (tokB t).length ≤ 500000000 := by
  have h1 := h.n
  have h2 := h.x
  have h3 := attrsB_len h.a
  have h4 := mapO_len esc_few t.text.data.toList
  have e1 : t.name.data.toList.length = t.name.size := rfl
  have e2 : t.text.data.toList.length = t.text.size := rfl
  have h5 : t.attrs.length * 7340036 ≤ 469762304 := by omega
  unfold tokB
  split
  · simp only [List.length_cons, List.length_append, List.length_nil]
    omega
  · split
    · simp only [List.length_cons, List.length_append, List.length_nil]
      omega
    · split
      · omega
      · split
        · simp only [List.length_cons, List.length_append, List.length_nil]
          omega
        · split
          · simp only [List.length_cons, List.length_append, List.length_nil]
            split
            · simp only [List.length_nil]
              omega
            · simp only [List.length_cons]
              omega
          · simp only [List.length_nil]
            omega
theorem writeB_len : ∀ {ts : List BTok}, (∀ t ∈ ts, Small t ∧ t.attrs.length ≤ 64) → (writeB ts).length ≤ ts.length * 500000000
  | [], _ => Nat.le_refl _
  | t :: ts, h => by
    have h1 := tokB_len (h t (List.mem_cons_self ..)).1 (h t (List.mem_cons_self ..)).2
    have h2 := writeB_len (fun y hy => h y (List.mem_cons_of_mem _ hy))
    show (tokB t ++ writeB ts).length ≤ _
    rw [List.length_append, List.length_cons]
    omega
theorem writeB_take {ts : List BTok} {k : Nat} {t : BTok} (h : ts[k]? = some t) : writeB (ts.take (k + 1)) = writeB (ts.take k) ++ tokB t := by
  obtain ⟨hk, hx⟩ := List.getElem?_eq_some_iff.1 h
  unfold writeB
  rw [List.take_succ_eq_append_getElem hk, List.flatMap_append, hx]
  simp
structure WrSt (w0 : World) (ts : List BTok) (k : Nat) (w' : World) : Prop where
  le : k ≤ ts.length
  bel : Below w0.heap.size w0 w'
  bld : IsB w0.heap.size w0.heap.size (Lib.byteCells (writeB (ts.take k))) w'
set_option maxRecDepth 100000 in
set_option maxHeartbeats 8000000 in
theorem write_any (ts : List BTok) (a : Option Addr) (cap : Nat) (w : World) (hv : ToksArg w a ts) (hn : ts.length ≤ 1048580) (hs : ∀ t ∈ ts, Small t) (B : Nat) (hB : B ≤ w.heap.size) (hE : XEnv B w) :
    Calls Tryz.prog 40 #[.slice a ts.length cap] w fun e w' => e = .returned (.tuple #[.string (writeR ts).1, .int .i64 ((writeR ts).2 : Nat)]) ∧ Below w.heap.size w w' := by
  have HV := hide hv
  have HS := hide hs
  have HD := hide (isDocument_any ts a cap w hv hn hs B hB hE)
  clear hv hs hE
  go_enter Tryz.func40, Tryz.ntmps40
  go_wp2_with fail
  refine (unhide HD).mono ?_
  rintro e w1 ⟨rfl, hb1⟩
  have HV1 := hide ((unhide HV).below hb1)
  have HP := hide (pastLimits_any ts a cap w1 (unhide HV1) hn)
  clear HD
  cases hd : docB [] false 0 ts
  · have HR : Hid (writeR ts = (⟨#[]⟩, 5)) := hide (by unfold writeR; rw [if_pos hd])
    clear hd
    go_wp2
    go_ret2
    rw [unhide HR]
    exact ⟨rfl, hb1⟩
  · have HDT := hide hd
    clear hd
    go_wp2_with fail
    refine (unhide HP).mono ?_
    rintro e w2 ⟨rfl, hb2⟩
    have hb02 := Below.then hb1 hb2
    have HV2 := hide ((unhide HV1).below hb2)
    cases hp : pastB ts
    · have HPT := hide hp
      unfold pastB at hp
      simp only [Bool.or_eq_false_iff, decide_eq_false_iff_not, List.any_eq_false, decide_eq_true_eq] at hp
      obtain ⟨p1, _, p3⟩ := hp
      have HL : Hid (∀ t ∈ ts, Small t ∧ t.attrs.length ≤ 64) := hide fun t ht => ⟨unhide HS t ht, by have := p3 t ht; omega⟩
      have hn4 : ts.length ≤ 4096 := by omega
      have HI0 : Hid (WrSt w2 ts 0 (w2.alloc (.cells #[.pointer none, .slice none 0 0] 41 (0, 0)))) := hide ⟨Nat.zero_le _, (Below.refl _ _).alloc (Nat.le_refl _) _, Lib.IsBuilderF.of (.inl ⟨Nat.le_refl _, .slice none 0 0, alloc_blk0 _ _, World.ownsRow_nil _ _ _ _, (by intro h; cases h)⟩)⟩
      clear p1 p3 HP HV HV1
      go_wp2_with fail
      go_loopw [14] (fun i wr => ∃ k : Nat, i = .int .i64 (k : Nat) ∧ WrSt w2 ts k wr) (fun i _ => ts.length - (intOf i).toNat)
      case atStart => exact ⟨0, rfl, unhide HI0⟩
      case round =>
        clear HI0
        obtain ⟨k, rfl, hI⟩ := hrel
        have hk := hI.le
        by_cases hlt : k < ts.length
        · obtain ⟨t, ht⟩ : ∃ t, ts[k]? = some t := ⟨ts[k], List.getElem?_eq_getElem hlt⟩
          obtain ⟨hts, htl⟩ := unhide HL t (List.mem_of_getElem? ht)
          obtain ⟨g, oo, ha, hc⟩ := (unhide HV2) (by intro h0; rw [h0] at hlt; cases hlt)
          obtain ⟨c0', c1', ⟨v, c2', hpv⟩, c3'⟩ := hc k t ht
          obtain ⟨va, vc, hve, _⟩ := id hpv
          subst hve
          subst ha
          have c0 := keptC hI.bel c0'
          have c1 := keptC hI.bel c1'
          have c2 := keptC hI.bel c2'
          have c3 := keptC hI.bel c3'
          have n1 : (0 : Int) ≤ (k : Int) := by omega
          have n2 : (k : Int) < (ts.length : Int) := by omega
          have hbx : Below wr.heap.size wr (wr.alloc (.cells #[.int .i64 t.kind, .string t.name, .slice va t.attrs.length vc, .string t.text] 53 (0, 0))) := (Below.refl _ _).alloc (Nat.le_refl _) _
          have hbz := hI.bel.size
          have hb3 := Below.then hI.bel hbx
          have hlen : (writeB (ts.take k)).length ≤ 100000000000000 := by
            have h1 := writeB_len (ts := ts.take k) (fun t ht => unhide HL t (List.mem_of_mem_take ht))
            have h2 : (ts.take k).length ≤ 4096 := by rw [List.length_take]; omega
            omega
          have HW := hide (writeToken_any w2 w2.heap.size (writeB (ts.take k)) t _ _ hpv hb3 (Lib.IsBuilderF.below hI.bld hbx) hts htl hlen)
          have HTK := hide (writeB_take ht)
          clear hc hI ht hpv c0' c1' c2' c3' hlen
          go_wp2_with fail
          refine (unhide HW).mono ?_
          rintro e w4 ⟨rfl, hB4, hb4⟩
          have HI2 : Hid (WrSt w2 ts (k + 1) w4) := hide ⟨by omega, hb3.trans hb4, by rw [unhide HTK]; exact hB4⟩
          clear hB4 hb4
          go_wp2_with fail
          go_round
          case measure => simp [intOf]; omega
          case rel => exact ⟨k + 1, by simp, unhide HI2⟩
        · have n2 : ¬ (k : Int) < (ts.length : Int) := by omega
          have hkl : k = ts.length := by omega
          have hbd := hI.bld
          rw [hkl, List.take_length] at hbd
          have hbI := hI.bel
          have HLn := hide (Tryz.Builder_Len_f w2.heap.size w2.heap.size _ wr hbd)
          have HSt := hide (Tryz.Builder_String_any_k w2.heap.size w2.heap.size _ wr hbd hbI.size)
          rw [Lib.byteCells_length] at HLn
          clear hI hbd
          go_wp2_with fail
          refine (unhide HLn).mono ?_
          rintro e w3 ⟨rfl, rfl⟩
          by_cases hz : 32768 < (writeB ts).length
          · have HR : Hid (writeR ts = (⟨#[]⟩, 6)) := hide (by unfold writeR; rw [if_neg (by rw [unhide HDT]; decide), if_neg (by rw [unhide HPT]; decide), if_pos hz])
            have hz' : (32768 : Int) < ((writeB ts).length : Int) := by omega
            clear hz
            go_wp2
            go_ret2
            rw [unhide HR]
            exact ⟨rfl, Below.then hb02 hbI⟩
          · have HR : Hid (writeR ts = (⟨(writeB ts).toArray⟩, 0)) := hide (by unfold writeR; rw [if_neg (by rw [unhide HDT]; decide), if_neg (by rw [unhide HPT]; decide), if_neg hz])
            have hz' : ¬ (32768 : Int) < ((writeB ts).length : Int) := by omega
            clear hz
            go_wp2_with fail
            refine (unhide HSt).mono ?_
            rintro e w4 ⟨rfl, _, hb4, _⟩
            go_wp2
            go_ret2
            rw [unhide HR]
            exact ⟨rfl, Below.then hb02 (hbI.trans hb4)⟩
    · have HR : Hid (writeR ts = (⟨#[]⟩, 6)) := hide (by unfold writeR; rw [if_neg (by rw [unhide HDT]; decide), if_pos hp])
      clear hp
      go_wp2
      go_ret2
      rw [unhide HR]
      exact ⟨rfl, hb02⟩
end Go.Proofs.YtmemcabipcccaaaGreatDoor
/- Tokens one behind the other: slices.Concat; xout's isForest, Right. -/
namespace Go.Proofs.YtmemcabipcccaaaGreatDoor
open Go.RowKit Go.Maps
def zTok : Value := .agg #[.int .i64 0, .string ⟨#[]⟩, .slice none 0 0, .string ⟨#[]⟩]
theorem infoTokO : (Tryz.prog.info? 53).map (fun i => (i.zero, i.size, i.bytes)) = some (some zTok, 4, 64) := by kernel_rfl
theorem alloc_newO (w : World) (o : Obj) : (w.alloc o).heap[w.heap.size]? = some o := by
  unfold World.alloc
  exact Array.getElem?_push_size
set_option maxRecDepth 100000 in
set_option maxHeartbeats 2000000 in
theorem grow_tok (n : Nat) (hn : 0 < n) (hn2 : n ≤ 2000000) (w : World) :
    Calls Tryz.prog 69 #[.slice none 0 0, .int .i64 (n : Nat)] w fun e w' => (∃ u, e = .returned u ∧ w'.ownsRow w.heap.size 53 4 u 0 []) ∧ Below w.heap.size w w' := by
  obtain ⟨i0, hi, hz0, hz1, hz2⟩ := info_parts infoTokO
  have hold : (Builtin.firstCells i0.size 0 (.slice none 0 0)).run Tryz.prog w.drew = .ok ([] : List Value).toArray w.drew := run_firstCells_none w.drew i0.size 0 0 0
  have hrz : ∀ ty, (Builtin.append_ #[23, 3] ty #[.slice none 0 0, .int .i64 (n : Int)]).run Tryz.prog w = .ok (.slice (some ⟨w.heap.size, 0, none⟩) n (grownCap w n 0 53)) (w.drew.alloc (.cells (#[] ++ Builtin.zeroCells zTok.cells n ++ Builtin.zeroCells zTok.cells (grownCap w n 0 53 - n)) 53)) := fun ty => by
    have h := Lib.run_append_grow_zeros w 23 3 ty 53 i0 zTok .i64 .i64 Tryz.underlying23 Tryz.underlying3 hi hz0 none 0 0 [] hold n hn (by rw [hz1]; decide) (by omega) (by omega) (by rw [hz2]; omega) (growslice_fits (by omega) (by rw [hz2]; omega))
    rw [Nat.zero_add] at h
    exact h
  have hGn : n ≤ grownCap w n 0 53 := grownCap_ge w _ _ _
  have hGm := grownCap_le_maxLen w n 0 53 (by unfold maxLen; omega)
  generalize grownCap w n 0 53 = G at *
  have hG63 : G ≤ 9223372036854775807 := by unfold maxLen at hGm; omega
  have n1 : ¬ (n : Int) < 0 := by omega
  have n2 : (0 : Int) < (n : Int) := by omega
  have hcz : zTok.cells.size = 4 := rfl
  have HOWN : Hid (∀ c : Array Value, c.size = G * 4 → (w.alloc (.cells c 53)).drew.ownsRow w.heap.size 53 4 (.slice (some ⟨w.heap.size, 0, none⟩) 0 G) 0 []) := hide fun c hc => ⟨rfl, .inr ⟨w.heap.size, G, c, rfl, Nat.le_refl _, alloc_newO w _, Nat.zero_le _, hGm, hc, rfl⟩⟩
  generalize zTok.cells = cs at *
  clear hold hGm
  go_enter Tryz.func69, Tryz.ntmps69
  go_wp2_with (at_builtin; refine Lib.wpList_append_run _ rfl _ _ _ _ rfl _ _ rfl rfl _ _ (hrz _) ?_)
  all_goals (go_ret; exact ⟨⟨_, rfl, unhide HOWN _ (by simp [Builtin.zeroCells, hcz]; omega)⟩, ((Below.refl _ _).alloc (Nat.le_refl _) _).drew⟩)
/-- Tokens' cells, one behind the other: each with its pairs' slice. -/
def btRow : List BTok → List Value → List Value
  | t :: ts, v :: vs => [.int .i64 t.kind, .string t.name, v, .string t.text] ++ btRow ts vs
  | _, _ => []
theorem btRow_app : ∀ (a b : List BTok) (x y : List Value), x.length = a.length → btRow (a ++ b) (x ++ y) = btRow a x ++ btRow b y
  | [], _, [], _, _ => rfl
  | t :: a, b, v :: x, y, h => by
    show _ ++ btRow (a ++ b) (x ++ y) = _
    rw [btRow_app a b x y (by simpa using h)]
    show _ = (_ ++ btRow a x) ++ btRow b y
    rw [List.append_assoc]
  | [], _, _ :: _, _, h => by simp at h
  | _ :: _, _, [], _, h => by simp at h
theorem btRow_len : ∀ (a : List BTok) (x : List Value), x.length = a.length → (btRow a x).length = a.length * 4
  | [], [], _ => rfl
  | t :: a, v :: x, h => by
    show (_ ++ btRow a x).length = _
    rw [List.length_append, btRow_len a x (by simpa using h), show (t :: a).length = a.length + 1 from rfl]
    show 4 + a.length * 4 = _
    omega
  | [], _ :: _, h => by simp at h
  | _ :: _, [], h => by simp at h
theorem btRow_get : ∀ (a : List BTok) (x : List Value) (i : Nat) (t : BTok) (v : Value) (j : Nat), a[i]? = some t → x[i]? = some v → j < 4 → (btRow a x)[i * 4 + j]? = [Value.int .i64 t.kind, .string t.name, v, .string t.text][j]?
  | [], _, i, t, v, j, h, _, _ => by cases h
  | y :: a, [], i, t, v, j, _, h, _ => by cases h
  | y :: a, u :: x, 0, t, v, j, h, h', hj => by
    cases h
    cases h'
    show (_ ++ btRow a x)[0 * 4 + j]? = _
    rw [Nat.zero_mul, Nat.zero_add, List.getElem?_append_left (by show j < 4; exact hj)]
  | y :: a, u :: x, i + 1, t, v, j, h, h', hj => by
    show (_ ++ btRow a x)[(i + 1) * 4 + j]? = _
    rw [List.getElem?_append_right (by show 4 ≤ _; omega), show (i + 1) * 4 + j - [Value.int .i64 y.kind, .string y.name, u, .string y.text].length = i * 4 + j by show (i + 1) * 4 + j - 4 = _; omega]
    exact btRow_get a x i t v j h h' hj
theorem pairs_one {w : World} {v : Value} {l : List (ByteArray × ByteArray)} (h : PairsArg w v l) : v.oneCell' = true := by
  obtain ⟨a, cap, rfl, _⟩ := h
  rfl
theorem btRow_one {w : World} : ∀ (a : List BTok) (x : List Value), x.length = a.length → (∀ (i : Nat) (t : BTok) (v : Value), a[i]? = some t → x[i]? = some v → PairsArg w v t.attrs) → ∀ u ∈ btRow a x, u.oneCell' = true
  | [], [], _, _, u, hu => by cases hu
  | t :: a, v :: x, h, hp, u, hu => by
    rcases List.mem_append.1 hu with hu | hu
    · simp at hu
      rcases hu with rfl | rfl | rfl | rfl
      · rfl
      · rfl
      · exact pairs_one (hp 0 t u rfl rfl)
      · rfl
    · exact btRow_one a x (by simpa using h) (fun i t' v' h1 h2 => hp (i + 1) t' v' h1 h2) u hu
  | [], _ :: _, h, _, _, _ => by simp at h
  | _ :: _, [], h, _, _, _ => by simp at h
/-- The slices of tokens' pairs, as they lie there. -/
theorem toks_vals {w : World} {g : Nat} : ∀ (p : List BTok) (o : Nat), (∀ (i : Nat) (t : BTok), p[i]? = some t → TokArg w g (o + i * 4) t) → ∃ vs : List Value, vs.length = p.length ∧ (∀ (i : Nat) (t : BTok) (v : Value), p[i]? = some t → vs[i]? = some v → PairsArg w v t.attrs) ∧ ∀ j u, (btRow p vs)[j]? = some u → w.cell? ⟨g, o + j, none⟩ = some u
  | [], o, _ => ⟨[], rfl, (fun i t v h => by cases h), (fun j u h => by cases h)⟩
  | t :: p, o, h => by
    obtain ⟨vs, h1, h2, h3⟩ := toks_vals p (o + 4) (fun i t' ht => by
      have := h (i + 1) t' ht
      rw [show o + (i + 1) * 4 = o + 4 + i * 4 by omega] at this
      exact this)
    have h0 := h 0 t rfl
    rw [Nat.zero_mul, Nat.add_zero] at h0
    obtain ⟨hk, hn, ⟨v, hv, hpv⟩, hx⟩ := h0
    refine ⟨v :: vs, by simp [h1], fun i t' v' ht hv' => ?_, fun j u hu => ?_⟩
    · cases i with
      | zero => cases ht; cases hv'; exact hpv
      | succ i => exact h2 i t' v' ht hv'
    · have hu' : ([Value.int .i64 t.kind, .string t.name, v, .string t.text] ++ btRow p vs)[j]? = some u := hu
      by_cases hj : j < 4
      · rw [List.getElem?_append_left (by show j < 4; exact hj)] at hu'
        match j, hj, hu' with
        | 0, _, e => cases e; exact hk
        | 1, _, e => cases e; exact hn
        | 2, _, e => cases e; exact hv
        | 3, _, e => cases e; exact hx
      · rw [List.getElem?_append_right (by show 4 ≤ _; omega)] at hu'
        have := h3 (j - 4) u hu'
        rw [show o + 4 + (j - 4) = o + j by omega] at this
        exact this
theorem owns_cellsO {w : World} {B : Nat} {e : TypeId} {size n : Nat} {v : Value} {xs : List Value} (h : w.ownsRow B e size v n xs) (hn : 0 < n) : ∃ g cap, v = .slice (some ⟨g, 0, none⟩) n cap ∧ n ≤ cap ∧ B ≤ g ∧ g < w.heap.size ∧ (∀ i u, xs[i]? = some u → w.cell? ⟨g, i, none⟩ = some u) ∧ ∀ i, w.frozen? ⟨g, i, none⟩ = false := by
  rcases h.2 with ⟨_, h0⟩ | ⟨g, cap, cur, h1, h2, h3, h4, h5, h6, h7⟩
  · omega
  · refine ⟨g, cap, h1, h4, h2, (Array.getElem?_eq_some_iff.1 h3).1, fun i u hu => ?_, fun i => blk_open h3 i⟩
    rw [blk_cell h3]
    rw [← h7, List.getElem?_take] at hu
    split at hu
    · rw [← Array.getElem?_toList]; exact hu
    · cases hu
theorem owns_room {w : World} {B : Nat} {e : TypeId} {size n : Nat} {au : Option Addr} {cu : Nat} {xs : List Value} (h : w.ownsRow B e size (.slice au n cu) n xs) : n ≤ cu := by
  rcases h.2 with ⟨h1, h2⟩ | ⟨g, cap, cur, h1, _, _, h4, _⟩
  · omega
  · cases h1
    exact h4
/-- Slices of tokens, as Concat takes them. -/
def PartsArg (w : World) (gs : Nat) (ps : List (List BTok)) : Prop := ∀ (k : Nat) (p : List BTok), ps[k]? = some p → ∃ a cap, w.cell? ⟨gs, k, none⟩ = some (.slice a p.length cap) ∧ ToksArg w a p
structure CatSt (w : World) (ps : List (List BTok)) (k : Nat) (v : Value) (W : World) : Prop where
  le : k ≤ ps.length
  bel : Below w.heap.size w W
  row : ∃ vs : List Value, vs.length = (ps.take k).flatten.length ∧ W.ownsRow w.heap.size 53 4 v (ps.take k).flatten.length (btRow (ps.take k).flatten vs) ∧ ∀ (i : Nat) (t : BTok) (u : Value), (ps.take k).flatten[i]? = some t → vs[i]? = some u → PairsArg w u t.attrs
theorem flat_take {ps : List (List BTok)} {k : Nat} {p : List BTok} (h : ps[k]? = some p) : (ps.take (k + 1)).flatten = (ps.take k).flatten ++ p := by
  obtain ⟨hk, he⟩ := List.getElem?_eq_some_iff.1 h
  rw [List.take_succ_eq_append_getElem hk, he, List.flatten_append]
  simp
theorem append_nothing (au a : Option Addr) (LL cu c : Nat) (h : LL ≤ cu) (w : World) (ty : TypeId) : (Builtin.append_ #[23, 23] ty #[.slice au LL cu, .slice a 0 c]).run Tryz.prog w = .ok (.slice au LL cu) w := by
  obtain ⟨i0, hi, hz0, hz1, hz2⟩ := info_parts infoTokO
  have hu := Tryz.underlying23
  have hsz : ∀ w, (Go.sizeOf 53).run Tryz.prog w = .ok i0.size w := fun w => by simp [Go.sizeOf, typeInfo, hi]
  cases au <;> cases a <;> simp [Builtin.append_, Builtin.lenOf, Builtin.firstCells, run_underlying hu, hsz, h, loadCells, loadCellsFrom, storeCells, Result.andThen]
theorem flat_le (ps : List (List BTok)) (k : Nat) : (ps.take k).flatten.length ≤ ps.flatten.length := by
  conv => rhs; rw [← List.take_append_drop k ps, List.flatten_append, List.length_append]
  omega
set_option maxRecDepth 100000 in
set_option maxHeartbeats 4000000 in
theorem concat_any (ps : List (List BTok)) (gs cap : Nat) (w : World) (hp : PartsArg w gs ps) (hn : 0 < ps.flatten.length) (hl : ps.flatten.length ≤ 2000000) (hps : ps.length ≤ 10) :
    Calls Tryz.prog 41 #[.slice (some ⟨gs, 0, none⟩) ps.length cap] w fun e w' => (∃ b c, e = .returned (.slice b ps.flatten.length c) ∧ ToksArg w' b ps.flatten) ∧ Below w.heap.size w w' := by
  have HP := hide hp
  obtain ⟨NN, hNN⟩ : ∃ NN, ps.flatten.length = NN := ⟨_, rfl⟩
  have HNN := hide hNN
  rw [hNN] at hn hl ⊢
  clear hp hNN
  go_enter Tryz.func41, Tryz.ntmps41
  go_wp2_with fail
  go_loopw [3, 11] (fun a i wr => ∃ k : Nat, a = .int .i64 ((ps.take k).flatten.length : Nat) ∧ i = .int .i64 (k : Nat) ∧ k ≤ ps.length ∧ wr = w) (fun _ i _ => ps.length - (intOf i).toNat)
  case atStart => exact ⟨0, rfl, rfl, Nat.zero_le _, rfl⟩
  case round =>
    obtain ⟨k, rfl, rfl, hk, rfl⟩ := hrel
    by_cases hlt : k < ps.length
    · obtain ⟨p, hp⟩ : ∃ p, ps[k]? = some p := ⟨ps[k], List.getElem?_eq_getElem hlt⟩
      obtain ⟨a, c, hc, _⟩ := unhide HP k p hp
      have n1 : (0 : Int) ≤ (k : Int) := by omega
      have n2 : (k : Int) < (ps.length : Int) := by omega
      have hf := flat_take hp
      have hfl : (ps.take (k + 1)).flatten.length = (ps.take k).flatten.length + p.length := by rw [hf, List.length_append]
      have hle : (ps.take (k + 1)).flatten.length ≤ NN := by rw [← unhide HNN]; exact flat_le ps (k + 1)
      have HFL := hide hfl
      have hb1 : (ps.take k).flatten.length + p.length ≤ 2000000 := by omega
      clear hf hfl hle hp
      generalize (ps.take k).flatten.length = A at *
      generalize p.length = B' at *
      go_wp2_with fail
      go_round
      case measure => simp [intOf]; omega
      case rel => exact ⟨k + 1, by rw [unhide HFL]; simp, by simp, hlt, trivial⟩
    · have n2 : ¬ (k : Int) < (ps.length : Int) := by omega
      have hall : ps.take k = ps := List.take_of_length_le (by omega)
      rw [hall, unhide HNN]
      have HG := hide (grow_tok NN hn hl wr)
      clear hall
      go_wp2_with fail
      refine (unhide HG).mono ?_
      rintro e w1 ⟨⟨u, rfl, hu⟩, hb1⟩
      have HI0 : Hid (CatSt wr ps 0 u w1) := hide ⟨Nat.zero_le _, hb1, [], rfl, hu, fun i t v h => by cases h⟩
      clear hu
      go_wp2_with fail
      go_loopw [6, 27] (fun a i W => ∃ k : Nat, i = .int .i64 (k : Nat) ∧ Hid (CatSt wr ps k a W)) (fun _ i _ => ps.length - (intOf i).toNat)
      case atStart => exact ⟨0, rfl, HI0⟩
      case round =>
        clear HI0
        rename World => wq
        obtain ⟨k, rfl, hI⟩ := hrel
        have hbI := (unhide hI).bel
        by_cases hlt : k < ps.length
        · obtain ⟨p, hp⟩ : ∃ p, ps[k]? = some p := ⟨ps[k], List.getElem?_eq_getElem hlt⟩
          obtain ⟨a, c, hc, hT⟩ := unhide HP k p hp
          have c0 := keptC hbI hc
          have n1 : (0 : Int) ≤ (k : Int) := by omega
          have n2 : (k : Int) < (ps.length : Int) := by omega
          obtain ⟨vs, hv1, hv2, hv3⟩ := (unhide hI).row
          obtain ⟨au, cu, rfl⟩ := owns_slice hv2
          have HV2 := hide hv2
          have hf := flat_take hp
          have hle : (ps.take (k + 1)).flatten.length ≤ NN := by rw [← unhide HNN]; exact flat_le ps (k + 1)
          rw [hf, List.length_append] at hle
          have hbz := hbI.size
          obtain ⟨i0, hi, hz0, hz1, hz2⟩ := info_parts infoTokO
          have HFT := hide hf
          have hnx : ∀ (vs' : List Value) (u : Value) (W : World), vs'.length = (ps.take k).flatten.length + p.length → Below wr.heap.size wr W → W.ownsRow wr.heap.size 53 4 u ((ps.take k).flatten.length + p.length) (btRow ((ps.take k).flatten ++ p) vs') → (∀ (i : Nat) (t : BTok) (v : Value), ((ps.take k).flatten ++ p)[i]? = some t → vs'[i]? = some v → PairsArg wr v t.attrs) → Hid (CatSt wr ps (k + 1) u W) := fun vs' u W h1 h2 h3 h4 => hide ⟨hlt, h2, vs', by rw [unhide HFT, List.length_append]; exact h1, by rw [unhide HFT, List.length_append]; exact h3, by rw [unhide HFT]; exact h4⟩
          have HNX := hide hnx
          have HV1 := hide hv1
          have HV3 := hide hv3
          generalize hFF : (ps.take k).flatten = FF at *
          have HLE := hide hle
          clear hnx hv1 hv2 hv3 hf hFF hle hI hp
          by_cases hpe : p = []
          · subst hpe
            have HNX0 := unhide HNX vs
            rw [List.length_nil, Nat.add_zero, List.append_nil] at HNX0
            have hcu : FF.length ≤ cu := owns_room (unhide HV2)
            generalize FF.length = LL at *
            have hrz := append_nothing au a LL cu c hcu wq
            go_wp2_with (at_builtin; refine Lib.wpList_append_run _ rfl _ _ _ _ rfl _ _ rfl rfl _ _ (hrz _) ?_)
            exact ⟨⟨k + 1, by simp, HNX0 _ _ (unhide HV1) hbI (unhide HV2) (unhide HV3)⟩, by simp [intOf]; omega⟩
          · obtain ⟨g, o, rfl, hTA⟩ := hT hpe
            obtain ⟨us, hu1, hu2, hu3⟩ := toks_vals p o hTA
            have hnews : ∀ j u, (btRow p us)[j]? = some u → wq.cell? ((⟨g, o, none⟩ : Addr).add j) = some u := fun j u hu => by
              rw [Addr.add_mid]
              exact keptC hbI (hu3 j u hu)
            have HNW := hide hnews
            have HON := hide (btRow_one (w := wr) p us hu1 hu2)
            have HRL := hide (btRow_len p us hu1)
            have HU2 := hide hu2
            have HRA := hide (btRow_app FF p vs us (unhide HV1))
            have hlen2 : FF.length + p.length ≤ 2000000 := by have := unhide HLE; omega
            generalize hPL : p.length = PL at *
            generalize hLL : FF.length = LL at *
            have HPL := hide hPL
            have HLL := hide hLL
            clear hu2 hu3 hnews hTA hT hPL hLL
            go_wp2_with (at_builtin; refine wpList_append_own _ rfl _ _ 23 rfl wr.heap.size 53 i0 _ 4 64 Tryz.underlying23 hi hz0 hz1 hz2 rfl (by decide) _ LL (btRow FF vs) rfl (unhide HV2) ⟨g, o, none⟩ PL _ (btRow p us) rfl (unhide HRL) (unhide HNW) (unhide HON) (by unfold maxLen; omega) (by omega) (by omega) ?_; intro v8 w8 hown8 hgrow8 _)
            have hbg : Below wr.heap.size wr w8 := hbI.grown hgrow8 hbz (fun j hj => ((unhide HV2).lt j hj).1)
            refine ⟨⟨k + 1, by simp, unhide HNX (vs ++ us) v8 w8 ?_ hbg ?_ ?_⟩, by simp [intOf]; omega⟩
            · rw [List.length_append, unhide HV1, hu1]
            · rw [unhide HRA]
              exact hown8
            · intro i t v ht hv
              by_cases hi2 : i < FF.length
              · rw [List.getElem?_append_left hi2] at ht
                rw [List.getElem?_append_left (by rw [unhide HV1]; have := unhide HLL; omega)] at hv
                exact unhide HV3 i t v ht hv
              · rw [List.getElem?_append_right (by omega)] at ht
                rw [List.getElem?_append_right (by rw [unhide HV1]; have := unhide HLL; omega), unhide HV1, ← unhide HLL] at hv
                exact unhide HU2 _ t v ht hv
        · have n2 : ¬ (k : Int) < (ps.length : Int) := by omega
          have hall : ps.take k = ps := List.take_of_length_le (by omega)
          obtain ⟨vs, hv1, hv2, hv3⟩ := (unhide hI).row
          rw [hall] at hv1 hv2 hv3
          have hg2 : 0 < ps.flatten.length := by rw [unhide HNN]; exact hn
          obtain ⟨g, cap', rfl, _, _, _, hcc, _⟩ := owns_cellsO hv2 hg2
          rw [unhide HNN] at hI ⊢
          have HTA : Hid (ToksArg wq (some ⟨g, 0, none⟩) ps.flatten) := hide fun _ => ⟨g, 0, rfl, fun i t ht => by
            have hil := (List.getElem?_eq_some_iff.1 ht).1
            obtain ⟨v, hv⟩ : ∃ v, vs[i]? = some v := ⟨vs[i]'(by rw [hv1]; exact hil), List.getElem?_eq_getElem _⟩
            have hp := (hv3 i t v ht hv).below hbI
            rw [Nat.zero_add]
            exact ⟨hcc (i * 4) _ (btRow_get _ _ i t v 0 ht hv (by decide)), hcc (i * 4 + 1) _ (btRow_get _ _ i t v 1 ht hv (by decide)), ⟨v, hcc (i * 4 + 2) _ (btRow_get _ _ i t v 2 ht hv (by decide)), hp⟩, hcc (i * 4 + 3) _ (btRow_get _ _ i t v 3 ht hv (by decide))⟩⟩
          clear hv1 hv2 hv3 hcc hI hall hg2
          go_wp2
          go_returns
          exact ⟨⟨_, ⟨_, rfl⟩, unhide HTA⟩, hbI⟩
end Go.Proofs.YtmemcabipcccaaaGreatDoor
