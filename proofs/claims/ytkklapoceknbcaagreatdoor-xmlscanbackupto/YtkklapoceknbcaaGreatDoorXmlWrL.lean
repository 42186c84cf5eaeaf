/- Whether tokens are too many, or too deep: xmlscan's pastLimits. -/
import Derived.Test.YtkklapoceknbcaaGreatDoorXmlWrV
namespace Go.Proofs.YtkklapoceknbcaaGreatDoor
open Go.RowKit
set_option maxRecDepth 100000 in
theorem crowded_any (t : BTok) (v : Value) (w : World) (hv : PairsArg w v t.attrs) :
    Calls Tryz.prog 26 #[.agg #[.int .i64 t.kind, .string t.name, v, .string t.text]] w fun e w' => e = .returned (.bool (decide (64 < t.attrs.length))) ∧ Below w.heap.size w w' := by
  obtain ⟨a, cap, rfl, _⟩ := hv
  go_enter Tryz.func26, Tryz.ntmps26
  go_wp2
  go_ret
  refine ⟨ret_bool ?_, (Below.refl _ _).alloc (Nat.le_refl _) _⟩
  exact decide_eq_decide.2 (by omega)
def crowd (t : BTok) : Bool := decide (64 < t.attrs.length)
theorem any_take {ts : List BTok} {k : Nat} {t : BTok} (h : ts[k]? = some t) : (ts.take (k + 1)).any crowd = ((ts.take k).any crowd || crowd t) := by
  obtain ⟨hk, hx⟩ := List.getElem?_eq_some_iff.1 h
  rw [List.take_succ_eq_append_getElem hk, List.any_append, hx]
  simp
theorem any_at {ts : List BTok} {k : Nat} {t : BTok} (h : ts[k]? = some t) (hc : crowd t = true) : ts.any crowd = true := List.any_eq_true.2 ⟨t, List.mem_of_getElem? h, hc⟩
set_option maxRecDepth 100000 in
set_option maxHeartbeats 4000000 in
theorem indexFunc_any (ts : List BTok) (a : Option Addr) (cap : Nat) (w : World) (hv : ToksArg w a ts) (hn : ts.length ≤ 1048576) :
    Calls Tryz.prog 51 #[.slice a ts.length cap, .func (.func 26) #[] #[]] w fun e w' => (∃ j : Int, e = .returned (.int .i64 j) ∧ decide (0 ≤ j) = ts.any crowd) ∧ Below w.heap.size w w' := by
  have HV := hide hv
  clear hv
  go_enter Tryz.func51, Tryz.ntmps51
  go_wp2_with fail
  go_loopw [8] (fun i wr => ∃ k : Nat, i = .int .i64 (k : Nat) ∧ k ≤ ts.length ∧ Below w.heap.size w wr ∧ (ts.take k).any crowd = false) (fun i _ => ts.length - (intOf i).toNat)
  case atStart => exact ⟨0, rfl, Nat.zero_le _, Below.refl _ _, rfl⟩
  case round =>
    obtain ⟨k, rfl, hk, hbr, han⟩ := hrel
    have HAN := hide han
    clear han
    by_cases hlt : k < ts.length
    · obtain ⟨t, ht⟩ : ∃ t, ts[k]? = some t := ⟨ts[k], List.getElem?_eq_getElem hlt⟩
      obtain ⟨g, oo, ha, hc⟩ := ((unhide HV).below hbr) (by intro h0; rw [h0] at hlt; cases hlt)
      subst ha
      obtain ⟨c0, c1, ⟨v, c2, hpv⟩, c3⟩ := hc k t ht
      obtain ⟨va, vc, hve, _⟩ := id hpv
      subst hve
      have n1 : (0 : Int) ≤ (k : Int) := by omega
      have n2 : (k : Int) < (ts.length : Int) := by omega
      have HT := hide ht
      have HPV := hide hpv
      clear hc ht hpv
      go_wp2_with fail
      refine (crowded_any t _ _ (unhide HPV)).mono ?_
      rintro e w1 ⟨rfl, hb1⟩
      have hb01 := Below.then hbr hb1
      cases hcr : decide (64 < t.attrs.length)
      · have HA2 : Hid ((ts.take (k + 1)).any crowd = false) := hide (by rw [any_take (unhide HT), unhide HAN]; exact hcr)
        clear HAN hcr
        go_wp2_with fail
        go_round
        case measure => simp [intOf]; omega
        case rel => exact ⟨k + 1, by simp, by omega, hb01, unhide HA2⟩
      · have HA2 : Hid (ts.any crowd = true) := hide (any_at (unhide HT) hcr)
        clear HAN hcr
        go_wp2
        go_ret
        exact ⟨⟨(k : Nat), rfl, by rw [unhide HA2]; simp⟩, hb01⟩
    · have n2 : ¬ (k : Int) < (ts.length : Int) := by omega
      have HA2 : Hid (ts.any crowd = false) := hide (by
        have := unhide HAN
        rwa [List.take_of_length_le (by omega)] at this)
      go_wp2
      go_ret
      exact ⟨⟨-1, rfl, by rw [unhide HA2]; rfl⟩, hbr⟩
set_option maxRecDepth 100000 in
theorem containsFunc_any (ts : List BTok) (a : Option Addr) (cap : Nat) (w : World) (hv : ToksArg w a ts) (hn : ts.length ≤ 1048576) :
    Calls Tryz.prog 27 #[.slice a ts.length cap, .func (.func 26) #[] #[]] w fun e w' => e = .returned (.bool (ts.any crowd)) ∧ Below w.heap.size w w' := by
  have HI := hide (indexFunc_any ts a cap w hv hn)
  clear hv
  go_enter Tryz.func27, Tryz.ntmps27
  go_wp2_with fail
  refine (unhide HI).mono ?_
  rintro e w1 ⟨⟨j, rfl, hj⟩, hb1⟩
  have HJ := hide hj
  clear hj
  go_wp2
  go_ret
  exact ⟨ret_bool (unhide HJ), hb1⟩
structure LimSt (w : World) (ts : List BTok) (k : Nat) (d m : Int) (w' : World) : Prop where
  le : k ≤ ts.length
  bel : Below w.heap.size w w'
  d1 : -(k : Int) ≤ d
  d2 : d ≤ k
  m1 : 0 ≤ m
  m2 : m ≤ k
  spec : deepGo 0 0 ts = deepGo d m (ts.drop k)
theorem deepGo_cons (d m : Int) (t : BTok) (ts : List BTok) : deepGo d m (t :: ts) = if t.kind = 2 then deepGo (d + 1) (max m (d + 1)) ts else if t.kind = 7 then deepGo (d - 1) m ts else deepGo d m ts := rfl
set_option maxRecDepth 100000 in
set_option maxHeartbeats 4000000 in
theorem pastLimits_any (ts : List BTok) (a : Option Addr) (cap : Nat) (w : World) (hv : ToksArg w a ts) (hn : ts.length ≤ 1048576) :
    Calls Tryz.prog 15 #[.slice a ts.length cap] w fun e w' => e = .returned (.bool (pastB ts)) ∧ Below w.heap.size w w' := by
  have HV := hide hv
  have HI0 : Hid (LimSt w ts 0 0 0 w) := hide ⟨Nat.zero_le _, Below.refl _ _, by omega, by omega, by omega, by omega, rfl⟩
  clear hv
  go_enter Tryz.func15, Tryz.ntmps15
  go_wp2_with fail
  go_loopw [3, 4, 10] (fun s3 s4 i wr => ∃ (k : Nat) (d m : Int), i = .int .i64 (k : Nat) ∧ s3 = .int .i64 d ∧ s4 = .int .i64 m ∧ LimSt w ts k d m wr) (fun _ _ i _ => ts.length - (intOf i).toNat)
  case atStart => exact ⟨0, 0, 0, rfl, rfl, rfl, unhide HI0⟩
  case round =>
    clear HI0
    obtain ⟨k, d, m, rfl, rfl, rfl, hI⟩ := hrel
    have hk := hI.le
    have hbr := hI.bel
    have d1 := hI.d1
    have d2 := hI.d2
    have m1 := hI.m1
    have m2 := hI.m2
    by_cases hlt : k < ts.length
    · obtain ⟨t, ht⟩ : ∃ t, ts[k]? = some t := ⟨ts[k], List.getElem?_eq_getElem hlt⟩
      obtain ⟨g, oo, ha, hc⟩ := ((unhide HV).below hbr) (by intro h0; rw [h0] at hlt; cases hlt)
      subst ha
      obtain ⟨c0, c1, ⟨v, c2, hpv⟩, c3⟩ := hc k t ht
      obtain ⟨va, vc, hve, _⟩ := id hpv
      subst hve
      have n1 : (0 : Int) ≤ (k : Int) := by omega
      have n2 : (k : Int) < (ts.length : Int) := by omega
      have hdr : ts.drop k = t :: ts.drop (k + 1) := by
        rw [← List.getElem_cons_drop hlt]
        congr 1
        exact (List.getElem?_eq_some_iff.1 ht).2
      have hspec := hI.spec
      rw [hdr, deepGo_cons] at hspec
      have hbA : Below wr.heap.size wr (wr.alloc (.cells #[.int .i64 t.kind, .string t.name, .slice va t.attrs.length vc, .string t.text] 37 (0, 0))) := (Below.refl _ _).alloc (Nat.le_refl _) _
      have hb0 := Below.then hbr hbA
      obtain ⟨kd, nm, ats, tx'⟩ := t
      simp only at *
      clear hI hc hdr ht hpv hbA
      by_cases k2 : kd = 2
      · subst k2
        rw [if_pos rfl] at hspec
        have HI2 : Hid (LimSt w ts (k + 1) (d + 1) (max m (d + 1)) (wr.alloc (.cells #[.int .i64 2, .string nm, .slice va ats.length vc, .string tx'] 37 (0, 0)))) := hide ⟨by omega, hb0, by omega, by omega, by omega, by omega, hspec⟩
        have e1 : wrap64 (d + 1) = d + 1 := by unfold wrap64; omega
        clear hspec
        go_wp2_with fail
        go_round
        case measure => simp [intOf]; omega
        case rel => exact ⟨k + 1, d + 1, max m (d + 1), by simp, rfl, rfl, unhide HI2⟩
      · rw [if_neg k2] at hspec
        have g2 : (kd == 2) = false := by simpa using k2
        by_cases k7 : kd = 7
        · subst k7
          rw [if_pos rfl] at hspec
          have HI2 : Hid (LimSt w ts (k + 1) (d - 1) m (wr.alloc (.cells #[.int .i64 7, .string nm, .slice va ats.length vc, .string tx'] 37 (0, 0)))) := hide ⟨by omega, hb0, by omega, by omega, by omega, by omega, hspec⟩
          have e1 : wrap64 (d - 1) = d - 1 := by unfold wrap64; omega
          clear hspec
          go_wp2_with fail
          go_round
          case measure => simp [intOf]; omega
          case rel => exact ⟨k + 1, d - 1, m, by simp, rfl, rfl, unhide HI2⟩
        · have g7 : (kd == 7) = false := by simpa using k7
          rw [if_neg k7] at hspec
          have HI2 : Hid (LimSt w ts (k + 1) d m (wr.alloc (.cells #[.int .i64 kd, .string nm, .slice va ats.length vc, .string tx'] 37 (0, 0)))) := hide ⟨by omega, hb0, by omega, by omega, by omega, by omega, hspec⟩
          clear hspec k2 k7
          go_wp2_with fail
          go_round
          case measure => simp [intOf]; omega
          case rel => exact ⟨k + 1, d, m, by simp, rfl, rfl, unhide HI2⟩
    · have n2 : ¬ (k : Int) < (ts.length : Int) := by omega
      have hkl : k = ts.length := by omega
      have hsp := hI.spec
      rw [hkl, List.drop_length] at hsp
      have HSP : Hid (pastB ts = (decide (4096 < ts.length) || (decide (32 < m) || ts.any crowd))) := hide (by
        unfold pastB
        rw [hsp]
        rfl)
      have HC := hide (containsFunc_any ts a cap wr ((unhide HV).below hbr) hn)
      clear hI hsp
      by_cases hl : 4096 < ts.length
      · have hl' : (4096 : Int) < (ts.length : Int) := by omega
        have HF : Hid (pastB ts = true) := hide (by rw [unhide HSP, decide_eq_true hl]; rfl)
        go_wp2
        go_ret
        exact ⟨ret_bool (unhide HF).symm, hbr⟩
      · have hl' : ¬ (4096 : Int) < (ts.length : Int) := by omega
        have HSP2 : Hid (pastB ts = (decide (32 < m) || ts.any crowd)) := hide (by rw [unhide HSP, decide_eq_false hl, Bool.false_or])
        clear HSP
        by_cases hm : 32 < m
        · have HF : Hid (pastB ts = true) := hide (by rw [unhide HSP2, decide_eq_true hm]; rfl)
          go_wp2
          go_ret
          exact ⟨ret_bool (unhide HF).symm, hbr⟩
        · have HF : Hid (pastB ts = ts.any crowd) := hide (by rw [unhide HSP2, decide_eq_false hm, Bool.false_or])
          go_wp2_with fail
          refine (unhide HC).mono ?_
          rintro e w1 ⟨rfl, hb1⟩
          go_wp2
          go_ret
          exact ⟨ret_bool (unhide HF).symm, Below.then hbr hb1⟩
end Go.Proofs.YtkklapoceknbcaaGreatDoor
