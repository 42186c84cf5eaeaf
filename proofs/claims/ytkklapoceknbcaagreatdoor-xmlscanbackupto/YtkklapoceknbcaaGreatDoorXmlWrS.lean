/- Tokens that are the same: the reference's SameTokens. -/
import Derived.Test.YtkklapoceknbcaaGreatDoorXmlWrM
import Derived.BigQuiet
namespace Go.Proofs.YtkklapoceknbcaaGreatDoor
open Go.RowKit
set_option maxRecDepth 100000 in
set_option maxHeartbeats 8000000 in
theorem sameTokens_any (ts : List BTok) (a a' : Option Addr) (cap cap' : Nat) (w : World) (hv : ToksArg w a ts) (hv' : ToksArg w a' ts) (hn : ts.length ≤ 1048576) (hs : ∀ t ∈ ts, t.attrs.length ≤ 1048576) :
    Calls Tryz.prog 12 #[.slice a ts.length cap, .slice a' ts.length cap'] w fun e w' => e = .returned (.bool true) ∧ Below w.heap.size w w' := by
  have HV := hide hv
  have HV' := hide hv'
  have HS := hide hs
  clear hv hv' hs
  go_enter Tryz.func12, Tryz.ntmps12
  go_wp2_with fail
  go_loopw [5] (fun i wr => ∃ k : Nat, i = .int .i64 (k : Nat) ∧ k ≤ ts.length ∧ Below w.heap.size w wr) (fun i _ => ts.length - (intOf i).toNat)
  case atStart => exact ⟨0, rfl, Nat.zero_le _, Below.refl _ _⟩
  case round =>
    rename_i W0 _
    obtain ⟨k, rfl, hk, hbr⟩ := hrel
    by_cases hlt : k < ts.length
    · obtain ⟨t, ht⟩ : ∃ t, ts[k]? = some t := ⟨ts[k], List.getElem?_eq_getElem hlt⟩
      have hts := unhide HS t (List.mem_of_getElem? ht)
      obtain ⟨g, o, ha, hc⟩ := ((unhide HV).below hbr) (by intro h0; rw [h0] at hlt; cases hlt)
      obtain ⟨g', o', ha', hc'⟩ := ((unhide HV').below hbr) (by intro h0; rw [h0] at hlt; cases hlt)
      subst ha ha'
      have T1 := hc k t ht
      have T2 := hc' k t ht
      have HT1 := hide T1
      have HT2 := hide T2
      obtain ⟨c0, c1, ⟨v, c2, hpv⟩, c3⟩ := T1
      obtain ⟨d0, d1, ⟨v', d2, hpv'⟩, d3⟩ := T2
      obtain ⟨va, vc, hve, _⟩ := id hpv
      obtain ⟨va', vc', hve', _⟩ := id hpv'
      subst hve hve'
      have HP := hide hpv
      have HP' := hide hpv'
      have HC2 := hide c2
      have HD2 := hide d2
      have n1 : (0 : Int) ≤ (k : Int) := by omega
      have n2 : (k : Int) < (ts.length : Int) := by omega
      have e1 : (t.name.toList == t.name.toList) = true := by simp
      have e2 : (t.text.toList == t.text.toList) = true := by simp
      clear hc hc' ht hpv hpv'
      go_wp2_with fail
      go_quiet (fail)
      have hbq := below_drewN wr nq
      have hb1 := Below.then hbr hbq
      have HP1 := hide ((unhide HP).below hbq)
      have HP2 := hide ((unhide HP').below hbq)
      have HC := hide (keptC hbq (unhide HC2))
      have HD := hide (keptC hbq (unhide HD2))
      clear HP HP' HC2 HD2 c0 c1 c2 c3 d0 d1 d2 d3 HT1 HT2 e1 e2 hbq
      generalize wr.drewN nq = W at *
      go_wp2_with fail
      go_loopw [6] (fun i wx => ∃ j : Nat, i = .int .i64 (j : Nat) ∧ j ≤ t.attrs.length ∧ Below W.heap.size W wx) (fun i _ => t.attrs.length - (intOf i).toNat)
      case atStart => exact ⟨0, rfl, Nat.zero_le _, Below.refl _ _⟩
      case round =>
        obtain ⟨j, rfl, hj, hbx⟩ := hrel
        have c2 := keptC hbx (unhide HC)
        have d2 := keptC hbx (unhide HD)
        by_cases hlj : j < t.attrs.length
        · obtain ⟨y, hy⟩ : ∃ y, t.attrs[j]? = some y := ⟨t.attrs[j], List.getElem?_eq_getElem hlj⟩
          obtain ⟨q1, q2, hq, hcells⟩ := (unhide HP1).below hbx
          obtain ⟨g3, o3, ha3, hc3⟩ := hcells (by intro h0; rw [h0] at hlj; cases hlj)
          obtain ⟨q3, q4, hq', hcells'⟩ := (unhide HP2).below hbx
          obtain ⟨g4, o4, ha4, hc4⟩ := hcells' (by intro h0; rw [h0] at hlj; cases hlj)
          cases hq
          cases hq'
          subst ha3 ha4
          obtain ⟨x0, x1⟩ := hc3 j y hy
          obtain ⟨y0, y1⟩ := hc4 j y hy
          have m1 : (0 : Int) ≤ (j : Int) := by omega
          have m2 : (j : Int) < (t.attrs.length : Int) := by omega
          have e1 : (y.1.toList == y.1.toList) = true := by simp
          have e2 : (y.2.toList == y.2.toList) = true := by simp
          clear hc3 hc4 hcells hcells' hy
          go_wp2_with fail
          go_quiet (fail)
          have hbz := Below.then hbx (below_drewN _ nq)
          clear x0 x1 y0 y1 c2 d2
          go_wp2_with fail
          go_round
          case measure => simp [intOf]; omega
          case rel => exact ⟨j + 1, by simp, by omega, hbz⟩
        · have m2 : ¬ (j : Int) < (t.attrs.length : Int) := by omega
          go_wp2_with fail
          go_round
          case measure => simp [intOf]; omega
          case rel => exact ⟨k + 1, by simp, by omega, Below.then hb1 hbx⟩
    · have n2 : ¬ (k : Int) < (ts.length : Int) := by omega
      go_wp2
      go_ret
      exact ⟨rfl, hbr⟩
end Go.Proofs.YtkklapoceknbcaaGreatDoor
