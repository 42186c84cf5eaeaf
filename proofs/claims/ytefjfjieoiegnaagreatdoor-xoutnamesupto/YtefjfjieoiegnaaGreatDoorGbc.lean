/- Several texts, laid as one. -/
import Derived.Test.YtefjfjieoiegnaaGreatDoorGbb
import Derived.Test.YtefjfjieoiegnaaGreatDoorGan
import Derived.Test.YtefjfjieoiegnaaGreatDoorGax
import Derived.Test.YtefjfjieoiegnaaGreatDoorGal
import Derived.Test.YtefjfjieoiegnaaGreatDoorGav
import Derived.Maps.AppendAt
/- Which way a method writes: by. -/
namespace Go.Proofs.YtefjfjieoiegnaaGreatDoor
open Go.RowKit
set_option maxRecDepth 100000 in
set_option maxHeartbeats 2000000 in
theorem by_any (b : Nat) (m : Int) (w : World) :
    Calls Tryz.prog 26 #[.pointer (some ⟨b, 0, none⟩), .int .i64 m] w fun e w' => e = .returned (.func (.func (if m = 1 then 42 else if m = 2 then 43 else 44)) #[.pointer (some ⟨b, 0, none⟩)] #[]) ∧ w' = w := by
  by_cases h1 : m = 1
  · subst h1
    go_enter Tryz.func26, Tryz.ntmps26
    go_wp2_with fail
    go_returns
    exact ⟨rfl, rfl⟩
  by_cases h2 : m = 2
  · subst h2
    go_enter Tryz.func26, Tryz.ntmps26
    go_wp2_with fail
    go_returns
    exact ⟨rfl, rfl⟩
  · rw [if_neg h1, if_neg h2]
    go_enter Tryz.func26, Tryz.ntmps26
    go_wp2_with fail
    go_returns
    exact ⟨rfl, rfl⟩
end Go.Proofs.YtefjfjieoiegnaaGreatDoor
/- Whether tokens are past a tree's limits: xout's pastLimits. -/
namespace Go.Proofs.YtefjfjieoiegnaaGreatDoor
open Go.RowKit
def pastGo : Int → Bool → List BTok → Bool
  | _, p, [] => p
  | d, p, t :: ts => if t.kind = 2 then pastGo (d + 1) (p || (decide (32 < d + 1) || decide (64 < t.attrs.length))) ts else if t.kind = 7 then pastGo (d - 1) p ts else pastGo d p ts
def pastD (ts : List BTok) : Bool := pastGo 0 (decide (4096 < ts.length)) ts
theorem pastGo_cons (d : Int) (p : Bool) (t : BTok) (ts : List BTok) : pastGo d p (t :: ts) = if t.kind = 2 then pastGo (d + 1) (p || (decide (32 < d + 1) || decide (64 < t.attrs.length))) ts else if t.kind = 7 then pastGo (d - 1) p ts else pastGo d p ts := rfl
structure PstSt (w : World) (ts : List BTok) (k : Nat) (d : Int) (p : Bool) (w' : World) : Prop where
  le : k ≤ ts.length
  bel : Below w.heap.size w w'
  d1 : -(k : Int) ≤ d
  d2 : d ≤ k
  spec : pastD ts = pastGo d p (ts.drop k)
set_option maxRecDepth 100000 in
set_option maxHeartbeats 4000000 in
theorem outPast_any (ts : List BTok) (a : Option Addr) (cap : Nat) (w : World) (hv : ToksArg w a ts) (hn : ts.length ≤ 1048576) :
    Calls Tryz.prog 39 #[.slice a ts.length cap] w fun e w' => e = .returned (.bool (pastD ts)) ∧ Below w.heap.size w w' := by
  have HV := hide hv
  have HI0 : Hid (PstSt w ts 0 0 (decide (4096 < ts.length)) w) := hide ⟨Nat.zero_le _, Below.refl _ _, by omega, by omega, rfl⟩
  clear hv
  go_enter Tryz.func39, Tryz.ntmps39
  go_wp2_with fail
  go_loopw [3, 4, 12] (fun s3 s4 i wr => ∃ (k : Nat) (d : Int) (p : Bool), i = .int .i64 (k : Nat) ∧ s3 = .int .i64 d ∧ s4 = .bool p ∧ PstSt w ts k d p wr) (fun _ _ i _ => ts.length - (intOf i).toNat)
  case atStart =>
    refine ⟨0, 0, decide (4096 < ts.length), rfl, rfl, ?_, unhide HI0⟩
    congr 1
    exact decide_eq_decide.2 (by omega)
  case round =>
    clear HI0
    obtain ⟨k, d, p, rfl, rfl, rfl, hI⟩ := hrel
    have hk := hI.le
    have hbr := hI.bel
    have d1 := hI.d1
    have d2 := hI.d2
    by_cases hlt : k < ts.length
    · obtain ⟨t, ht⟩ : ∃ t, ts[k]? = some t := ⟨ts[k], List.getElem?_eq_getElem hlt⟩
      obtain ⟨g, oo, ha, hc⟩ := ((unhide HV).below hbr) (by intro h0; rw [h0] at hlt; cases hlt)
      subst ha
      obtain ⟨c0, c1, ⟨v, c2, hpv⟩, c3⟩ := hc k t ht
      obtain ⟨va, vc, hve, _⟩ := id hpv
      subst hve
      have n1 : (0 : Int) ≤ (k : Int) := by omega
      have n2 : (k : Int) < (ts.length : Int) := by omega
      have hdr : ts.drop k = t :: ts.drop (k + 1) := by
        rw [← List.getElem_cons_drop hlt]
        congr 1
        exact (List.getElem?_eq_some_iff.1 ht).2
      have hspec := hI.spec
      rw [hdr, pastGo_cons] at hspec
      have hbA : Below wr.heap.size wr (wr.alloc (.cells #[.int .i64 t.kind, .string t.name, .slice va t.attrs.length vc, .string t.text] 37 (0, 0))) := (Below.refl _ _).alloc (Nat.le_refl _) _
      have hb0 := Below.then hbr hbA
      obtain ⟨kd, nm, ats, tx'⟩ := t
      simp only at *
      clear hI hc hdr ht hpv hbA
      by_cases k2 : kd = 2
      · subst k2
        rw [if_pos rfl] at hspec
        have HI2 : Hid (PstSt w ts (k + 1) (d + 1) (p || (decide (32 < d + 1) || decide (64 < ats.length))) (wr.alloc (.cells #[.int .i64 2, .string nm, .slice va ats.length vc, .string tx'] 37 (0, 0)))) := hide ⟨by omega, hb0, by omega, by omega, hspec⟩
        have e1 : wrap64 (d + 1) = d + 1 := by unfold wrap64; omega
        clear hspec
        cases p
        · by_cases hd : 32 < d + 1
          · rw [decide_eq_true hd, Bool.true_or, Bool.false_or] at HI2
            go_wp2_with fail
            go_round
            case measure => simp [intOf]; omega
            case rel => exact ⟨k + 1, d + 1, true, by simp, rfl, rfl, unhide HI2⟩
          · rw [decide_eq_false hd, Bool.false_or, Bool.false_or] at HI2
            by_cases hl : 64 < ats.length
            · have hl' : (64 : Int) < (ats.length : Int) := by omega
              rw [decide_eq_true hl] at HI2
              go_wp2_with fail
              go_round
              case measure => simp [intOf]; omega
              case rel => exact ⟨k + 1, d + 1, true, by simp, rfl, rfl, unhide HI2⟩
            · have hl' : ¬ (64 : Int) < (ats.length : Int) := by omega
              rw [decide_eq_false hl] at HI2
              go_wp2_with fail
              go_round
              case measure => simp [intOf]; omega
              case rel => exact ⟨k + 1, d + 1, false, by simp, rfl, rfl, unhide HI2⟩
        · rw [Bool.true_or] at HI2
          go_wp2_with fail
          go_round
          case measure => simp [intOf]; omega
          case rel => exact ⟨k + 1, d + 1, true, by simp, rfl, rfl, unhide HI2⟩
      · rw [if_neg k2] at hspec
        have g2 : (kd == 2) = false := by simpa using k2
        by_cases k7 : kd = 7
        · subst k7
          rw [if_pos rfl] at hspec
          have HI2 : Hid (PstSt w ts (k + 1) (d - 1) p (wr.alloc (.cells #[.int .i64 7, .string nm, .slice va ats.length vc, .string tx'] 37 (0, 0)))) := hide ⟨by omega, hb0, by omega, by omega, hspec⟩
          have e1 : wrap64 (d - 1) = d - 1 := by unfold wrap64; omega
          clear hspec
          go_wp2_with fail
          go_round
          case measure => simp [intOf]; omega
          case rel => exact ⟨k + 1, d - 1, p, by simp, rfl, rfl, unhide HI2⟩
        · have g7 : (kd == 7) = false := by simpa using k7
          rw [if_neg k7] at hspec
          have HI2 : Hid (PstSt w ts (k + 1) d p (wr.alloc (.cells #[.int .i64 kd, .string nm, .slice va ats.length vc, .string tx'] 37 (0, 0)))) := hide ⟨by omega, hb0, by omega, by omega, hspec⟩
          clear hspec k2 k7
          go_wp2_with fail
          go_round
          case measure => simp [intOf]; omega
          case rel => exact ⟨k + 1, d, p, by simp, rfl, rfl, unhide HI2⟩
    · have n2 : ¬ (k : Int) < (ts.length : Int) := by omega
      have hkl : k = ts.length := by omega
      have hsp := hI.spec
      rw [hkl, List.drop_length] at hsp
      have HSP : Hid (pastD ts = p) := hide hsp
      clear hI hsp
      go_wp2
      go_ret
      exact ⟨ret_bool (unhide HSP).symm, hbr⟩
end Go.Proofs.YtefjfjieoiegnaaGreatDoor
/- Tokens within the limits: how long what is written of them can be. -/
namespace Go.Proofs.YtefjfjieoiegnaaGreatDoor
open Go.RowKit
theorem pastGo_few : ∀ (ts : List BTok) (d : Int) (p : Bool), pastGo d p ts = false → p = false ∧ ∀ t ∈ ts, t.kind = 2 → t.attrs.length ≤ 64
  | [], d, p, h => ⟨h, fun t ht => by cases ht⟩
  | t :: ts, d, p, h => by
    rw [pastGo_cons] at h
    split at h
    · obtain ⟨h1, h2⟩ := pastGo_few ts _ _ h
      rw [Bool.or_eq_false_iff, Bool.or_eq_false_iff] at h1
      refine ⟨h1.1, fun x hx hk => ?_⟩
      rcases List.mem_cons.1 hx with rfl | hx
      · have := of_decide_eq_false h1.2.2
        omega
      · exact h2 x hx hk
    · rename_i hk2
      have h' : pastGo (if t.kind = 7 then d - 1 else d) p ts = false := by
        split at h
        · rename_i h7; rw [if_pos h7]; exact h
        · rename_i h7; rw [if_neg h7]; exact h
      obtain ⟨h1, h2⟩ := pastGo_few ts _ _ h'
      refine ⟨h1, fun x hx hk => ?_⟩
      rcases List.mem_cons.1 hx with rfl | hx
      · exact absurd hk hk2
      · exact h2 x hx hk
/-- Tokens that are not past the limits are few, and have few attributes. -/
theorem past_few {ts : List BTok} (h : pastD ts = false) : ts.length ≤ 4096 ∧ ∀ t ∈ ts, t.kind = 2 → t.attrs.length ≤ 64 := by
  obtain ⟨h1, h2⟩ := pastGo_few ts _ _ h
  have := of_decide_eq_false h1
  exact ⟨by omega, h2⟩
theorem right_few {ts : List BTok} (h : pastD ts = false) (x : Nat) (hk : (tkAt ts x).kind = 2) : (tkAt ts x).attrs.length ≤ 64 := by
  unfold tkAt at *
  cases hx : ts[x]? with
  | none => rw [hx] at hk; cases hk
  | some t => rw [hx] at hk; exact (past_few h).2 t (List.mem_of_getElem? hx) hk
end Go.Proofs.YtefjfjieoiegnaaGreatDoor
/- Where an attribute's text comes to a sign: strings.IndexAny. -/
namespace Go.Proofs.YtefjfjieoiegnaaGreatDoor
open Go.RowKit
end Go.Proofs.YtefjfjieoiegnaaGreatDoor
/- Where a row lies behind an append: append as one step of a region that draws its order, with that. -/
namespace Go.Proofs.YtefjfjieoiegnaaGreatDoor
open Go.RowKit
end Go.Proofs.YtefjfjieoiegnaaGreatDoor
