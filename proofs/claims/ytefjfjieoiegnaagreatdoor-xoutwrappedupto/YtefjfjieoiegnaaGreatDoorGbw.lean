/- Several texts, laid as one. -/
import Derived.Test.YtefjfjieoiegnaaGreatDoorGbv
import Derived.Test.YtefjfjieoiegnaaGreatDoorGbk
import Derived.BigQuiet
import Derived.Test.YtefjfjieoiegnaaGreatDoorGbt
import Derived.Test.YtefjfjieoiegnaaGreatDoorGbu
import Derived.Test.YtefjfjieoiegnaaGreatDoorGbm
import Derived.Test.YtefjfjieoiegnaaGreatDoorRows
import Derived.Deep.Slices
import Derived.Deep.Strs
import Derived.ChangeSame
import Derived.Test.YtefjfjieoiegnaaGreatDoorGak
import Derived.Lib.LaidU8
import Derived.HandedShaped
import Derived.WalkKit
import Derived.ProofKit
import Derived.OpenShut
import Derived.ShutString
import Derived.Deep.DeepHandedRow
import Derived.Lib.LaidTab
/- What must be whatever is asked: stencillaw10's live. -/
namespace Go.Proofs.YtefjfjieoiegnaaGreatDoor
open Go.RowKit
def brE : BTok := ⟨2, ⟨#[98, 114]⟩, [], ⟨#[]⟩⟩
def brF : BTok := ⟨7, ⟨#[98, 114]⟩, [], ⟨#[]⟩⟩
def brT : BTok := ⟨4, ⟨#[]⟩, [], ⟨#[97, 60]⟩⟩
def liveT : List BTok := [brE, brF, brT]
theorem liveT_h : writeO 1 liveT = (⟨#[60, 98, 114, 62, 97, 38, 108, 116, 59]⟩, 0) := by kernel_rfl
theorem liveT_x : writeO 0 liveT = (⟨#[60, 98, 114, 47, 62, 97, 38, 108, 116, 59]⟩, 0) := by kernel_rfl
theorem liveT_v : voidB ⟨#[66, 82]⟩ = true := by kernel_rfl
theorem liveT_r : rawB ⟨#[115, 99, 114, 105, 112, 116]⟩ = true := by kernel_rfl
theorem liveT_s : shortB ⟨#[99, 104, 101, 99, 107, 101, 100]⟩ = true := by kernel_rfl
theorem liveT_small : ∀ t ∈ liveT, Small t := by
  intro t ht
  simp only [liveT, List.mem_cons, List.not_mem_nil, or_false] at ht
  rcases ht with rfl | rfl | rfl
  all_goals exact ⟨Nat.zero_le _, (fun x h => by cases h), by decide, by decide⟩
theorem liveT_arg (w : World) : ToksArg (w.alloc (.cells #[.int .i64 2, .string ⟨#[98, 114]⟩, .slice none 0 0, .string ⟨#[]⟩, .int .i64 7, .string ⟨#[98, 114]⟩, .slice none 0 0, .string ⟨#[]⟩, .int .i64 4, .string ⟨#[]⟩, .slice none 0 0, .string ⟨#[97, 60]⟩] 37)) (some ⟨w.heap.size, 0, none⟩) liveT := by
  intro _
  refine ⟨_, _, rfl, fun i t ht => ?_⟩
  match i, ht with
  | 0, e =>
    cases e
    exact ⟨by simp [go_sem, brE], by simp [go_sem, brE], ⟨.slice none 0 0, by simp [go_sem], pairs_nil _⟩, by simp [go_sem, brE]⟩
  | 1, e =>
    cases e
    exact ⟨by simp [go_sem, brF], by simp [go_sem, brF], ⟨.slice none 0 0, by simp [go_sem], pairs_nil _⟩, by simp [go_sem, brF]⟩
  | 2, e =>
    cases e
    exact ⟨by simp [go_sem, brT], by simp [go_sem, brT], ⟨.slice none 0 0, by simp [go_sem], pairs_nil _⟩, by simp [go_sem, brT]⟩
set_option maxRecDepth 100000 in
set_option maxHeartbeats 4000000 in
theorem live10_any (w : World) (hE : XEnv w.heap.size w) :
    Calls Tryz.prog 9 #[] w fun e w' => e = .returned (.bool true) ∧ Below w.heap.size w w' := by
  have HE := hide hE
  have hbA : Below w.heap.size w (w.alloc (.cells #[.int .i64 2, .string ⟨#[98, 114]⟩, .slice none 0 0, .string ⟨#[]⟩, .int .i64 7, .string ⟨#[98, 114]⟩, .slice none 0 0, .string ⟨#[]⟩, .int .i64 4, .string ⟨#[]⟩, .slice none 0 0, .string ⟨#[97, 60]⟩] 37)) := (Below.refl _ _).alloc (Nat.le_refl _) _
  have HBA := hide hbA
  have HC : Hid (∀ (m : Int) (W : World), Below (w.heap.size + 1) (w.alloc (.cells #[.int .i64 2, .string ⟨#[98, 114]⟩, .slice none 0 0, .string ⟨#[]⟩, .int .i64 7, .string ⟨#[98, 114]⟩, .slice none 0 0, .string ⟨#[]⟩, .int .i64 4, .string ⟨#[]⟩, .slice none 0 0, .string ⟨#[97, 60]⟩] 37)) W → Calls Tryz.prog 16 #[.int .i64 m, .slice (some ⟨w.heap.size, 0, none⟩) 3 3] W fun e w' => e = .returned (.tuple #[.string (writeO m liveT).1, .int .i64 ((writeO m liveT).2 : Nat)]) ∧ Below W.heap.size W w') := hide fun m W hb => by
    have hb' : Below w.heap.size w W := hbA.trans (hb.mono (by omega))
    exact outWrite_any m liveT (some ⟨w.heap.size, 0, none⟩) 3 W ((liveT_arg w).below (by simpa using hb)) (by decide) liveT_small w.heap.size hb'.size ((unhide HE).low hb')
  have HC1 := hide (unhide HC 1 _ (Below.refl _ _))
  have HC0 := hide (unhide HC 0)
  rw [liveT_h] at HC1
  rw [liveT_x] at HC0
  clear hE hbA HC
  go_enter Tryz.func9, Tryz.ntmps9
  go_wp2_with fail
  refine (unhide HC1).mono ?_
  rintro e w1 ⟨rfl, hb1⟩
  have HC2 := hide (unhide HC0 w1 (hb1.mono (by simp)))
  have hb01 := Below.then (unhide HBA) hb1
  clear HC0 HC1
  go_wp2_with fail
  refine (unhide HC2).mono ?_
  rintro e w2 ⟨rfl, hb2⟩
  have hb02 := Below.then hb01 hb2
  have HV := hide (xVoid_any ⟨#[66, 82]⟩ w2 (by decide) ((unhide HE).low hb02).env)
  rw [liveT_v] at HV
  clear HC2
  go_wp2_with fail
  refine (unhide HV).mono ?_
  rintro e w3 ⟨rfl, hb3⟩
  have hb03 := Below.then hb02 hb3
  have HR := hide (xRaw_any ⟨#[115, 99, 114, 105, 112, 116]⟩ w3 (by decide) ((unhide HE).low hb03).env)
  rw [liveT_r] at HR
  clear HV
  go_wp2_with fail
  refine (unhide HR).mono ?_
  rintro e w4 ⟨rfl, hb4⟩
  have hb04 := Below.then hb03 hb4
  have HS := hide (xShort_any ⟨#[99, 104, 101, 99, 107, 101, 100]⟩ w4 (by decide) ((unhide HE).low hb04).env)
  rw [liveT_s] at HS
  clear HR
  go_wp2_with fail
  refine (unhide HS).mono ?_
  rintro e w5 ⟨rfl, hb5⟩
  go_wp2
  go_ret
  exact ⟨rfl, Below.then hb04 hb5⟩
end Go.Proofs.YtefjfjieoiegnaaGreatDoor
/- As text it is just the texts, one behind the other: the law XoutPlain. -/
namespace Go.Proofs.YtefjfjieoiegnaaGreatDoor
open Go.RowKit
theorem write_two (m : Int) (ts : List BTok) : (∃ c : Nat, (c = 2 ∨ c = 5 ∨ c = 6) ∧ writeO m ts = (⟨#[]⟩, c)) ∨ writeO m ts = (⟨(textO m ts).toArray⟩, 0) := by
  unfold writeO
  split
  · exact .inl ⟨2, .inl rfl, rfl⟩
  · split
    · rename_i h
      rcases right_of ts with h0 | h0 | h0
      · exact absurd h0 h
      · exact .inl ⟨5, .inr (.inl rfl), by rw [h0]⟩
      · exact .inl ⟨6, .inr (.inr rfl), by rw [h0]⟩
    · split
      · exact .inl ⟨5, .inr (.inl rfl), rfl⟩
      · split
        · exact .inl ⟨6, .inr (.inr rfl), rfl⟩
        · exact .inr rfl
end Go.Proofs.YtefjfjieoiegnaaGreatDoor
/- Tokens that are the same: the reference's SameTokens. -/
namespace Go.Proofs.YtefjfjieoiegnaaGreatDoor
open Go.RowKit
set_option maxRecDepth 100000 in
set_option maxHeartbeats 8000000 in
theorem sameTokens_any (ts : List BTok) (a a' : Option Addr) (cap cap' : Nat) (w : World) (hv : ToksArg w a ts) (hv' : ToksArg w a' ts) (hn : ts.length ≤ 1048576) (hs : ∀ t ∈ ts, t.attrs.length ≤ 1048576) :
    Calls Tryz.prog 19 #[.slice a ts.length cap, .slice a' ts.length cap'] w fun e w' => e = .returned (.bool true) ∧ Below w.heap.size w w' := by
  have HV := hide hv
  have HV' := hide hv'
  have HS := hide hs
  clear hv hv' hs
  go_enter Tryz.func19, Tryz.ntmps19
  go_wp2_with fail
  go_loopw [5] (fun i wr => ∃ k : Nat, i = .int .i64 (k : Nat) ∧ k ≤ ts.length ∧ Below w.heap.size w wr) (fun i _ => ts.length - (intOf i).toNat)
  case atStart => exact ⟨0, rfl, Nat.zero_le _, Below.refl _ _⟩
  case round =>
    rename_i W0 _
    obtain ⟨k, rfl, hk, hbr⟩ := hrel
    by_cases hlt : k < ts.length
    · obtain ⟨t, ht⟩ : ∃ t, ts[k]? = some t := ⟨ts[k], List.getElem?_eq_getElem hlt⟩
      have hts := unhide HS t (List.mem_of_getElem? ht)
      obtain ⟨g, o, ha, hc⟩ := ((unhide HV).below hbr) (by intro h0; rw [h0] at hlt; cases hlt)
      obtain ⟨g', o', ha', hc'⟩ := ((unhide HV').below hbr) (by intro h0; rw [h0] at hlt; cases hlt)
      subst ha ha'
      have T1 := hc k t ht
      have T2 := hc' k t ht
      have HT1 := hide T1
      have HT2 := hide T2
      obtain ⟨c0, c1, ⟨v, c2, hpv⟩, c3⟩ := T1
      obtain ⟨d0, d1, ⟨v', d2, hpv'⟩, d3⟩ := T2
      obtain ⟨va, vc, hve, _⟩ := id hpv
      obtain ⟨va', vc', hve', _⟩ := id hpv'
      subst hve hve'
      have HP := hide hpv
      have HP' := hide hpv'
      have HC2 := hide c2
      have HD2 := hide d2
      have n1 : (0 : Int) ≤ (k : Int) := by omega
      have n2 : (k : Int) < (ts.length : Int) := by omega
      have e1 : (t.name.toList == t.name.toList) = true := by simp
      have e2 : (t.text.toList == t.text.toList) = true := by simp
      clear hc hc' ht hpv hpv'
      go_wp2_with fail
      go_quiet (fail)
      have hbq := below_drewN wr nq
      have hb1 := Below.then hbr hbq
      have HP1 := hide ((unhide HP).below hbq)
      have HP2 := hide ((unhide HP').below hbq)
      have HC := hide (keptC hbq (unhide HC2))
      have HD := hide (keptC hbq (unhide HD2))
      clear HP HP' HC2 HD2 c0 c1 c2 c3 d0 d1 d2 d3 HT1 HT2 e1 e2 hbq
      generalize wr.drewN nq = W at *
      go_wp2_with fail
      go_loopw [6] (fun i wx => ∃ j : Nat, i = .int .i64 (j : Nat) ∧ j ≤ t.attrs.length ∧ Below W.heap.size W wx) (fun i _ => t.attrs.length - (intOf i).toNat)
      case atStart => exact ⟨0, rfl, Nat.zero_le _, Below.refl _ _⟩
      case round =>
        obtain ⟨j, rfl, hj, hbx⟩ := hrel
        have c2 := keptC hbx (unhide HC)
        have d2 := keptC hbx (unhide HD)
        by_cases hlj : j < t.attrs.length
        · obtain ⟨y, hy⟩ : ∃ y, t.attrs[j]? = some y := ⟨t.attrs[j], List.getElem?_eq_getElem hlj⟩
          obtain ⟨q1, q2, hq, hcells⟩ := (unhide HP1).below hbx
          obtain ⟨g3, o3, ha3, hc3⟩ := hcells (by intro h0; rw [h0] at hlj; cases hlj)
          obtain ⟨q3, q4, hq', hcells'⟩ := (unhide HP2).below hbx
          obtain ⟨g4, o4, ha4, hc4⟩ := hcells' (by intro h0; rw [h0] at hlj; cases hlj)
          cases hq
          cases hq'
          subst ha3 ha4
          obtain ⟨x0, x1⟩ := hc3 j y hy
          obtain ⟨y0, y1⟩ := hc4 j y hy
          have m1 : (0 : Int) ≤ (j : Int) := by omega
          have m2 : (j : Int) < (t.attrs.length : Int) := by omega
          have e1 : (y.1.toList == y.1.toList) = true := by simp
          have e2 : (y.2.toList == y.2.toList) = true := by simp
          clear hc3 hc4 hcells hcells' hy
          go_wp2_with fail
          go_quiet (fail)
          have hbz := Below.then hbx (below_drewN _ nq)
          clear x0 x1 y0 y1 c2 d2
          go_wp2_with fail
          go_round
          case measure => simp [intOf]; omega
          case rel => exact ⟨j + 1, by simp, by omega, hbz⟩
        · have m2 : ¬ (j : Int) < (t.attrs.length : Int) := by omega
          go_wp2_with fail
          go_round
          case measure => simp [intOf]; omega
          case rel => exact ⟨k + 1, by simp, by omega, Below.then hb1 hbx⟩
    · have n2 : ¬ (k : Int) < (ts.length : Int) := by omega
      go_wp2
      go_ret
      exact ⟨rfl, hbr⟩
end Go.Proofs.YtefjfjieoiegnaaGreatDoor
/- What is written is scanned as it was: the law XmlscanBack. -/
namespace Go.Proofs.YtefjfjieoiegnaaGreatDoor
open Go.RowKit
theorem pairRow_get : ∀ (l : List (List Nat × List Nat)) (i : Nat) (x : List Nat × List Nat), l[i]? = some x → (pairRow l)[i * 2]? = some (.string (T x.1)) ∧ (pairRow l)[i * 2 + 1]? = some (.string (T x.2))
  | [], i, _, h => by cases h
  | y :: l, 0, x, h => by
    cases h
    exact ⟨rfl, rfl⟩
  | y :: l, i + 1, x, h => by
    have ih := pairRow_get l i x h
    have e : pairRow (y :: l) = .string (T y.1) :: .string (T y.2) :: pairRow l := rfl
    rw [e, show (i + 1) * 2 = i * 2 + 1 + 1 by omega]
    exact ih
theorem attrs_arg {w : World} {B : Nat} {v : Value} {l : List (List Nat × List Nat)} (h : AttrsAt w B v l) : PairsArg w v (l.map fun x => (T x.1, T x.2)) := by
  obtain ⟨a, c, rfl⟩ := owns_slice h
  refine ⟨a, c, by rw [List.length_map], fun hl => ?_⟩
  have hl0 : 0 < l.length := by
    cases l with
    | nil => exact absurd rfl hl
    | cons _ _ => simp
  obtain ⟨g, cap, he, _, _, _, hc⟩ := owns_at h hl0
  cases he
  refine ⟨g, 0, rfl, fun i x hx => ?_⟩
  rw [List.getElem?_map] at hx
  obtain ⟨y, hy, rfl⟩ := Option.map_eq_some_iff.1 hx
  obtain ⟨h1, h2⟩ := pairRow_get l i y hy
  rw [Nat.zero_add]
  exact ⟨hc _ _ h1, hc _ _ h2⟩
theorem tok_arg {w : World} {B g i : Nat} {t : XTok} (h : TokAt w B g i t) : TokArg w g (0 + i * 4) t.b := by
  rw [Nat.zero_add]
  obtain ⟨v, h1, h2⟩ := h.a
  exact ⟨h.k, h.n, ⟨v, h1, attrs_arg h2⟩, h.x⟩
end Go.Proofs.YtefjfjieoiegnaaGreatDoor
/- Any tree is scanned as it was, within an element: the law XoutWrapped. -/
namespace Go.Proofs.YtefjfjieoiegnaaGreatDoor
open Go.RowKit
set_option maxRecDepth 100000 in
set_option maxHeartbeats 4000000 in
theorem outWrap_walk (ts : List BTok) (a : Option Addr) (cap : Nat) (w : World) (hv : ToksArg w a ts) (hn : ts.length ≤ 1048576) (hs : ∀ t ∈ ts, Small t) (hE : XEnv w.heap.size w) :
    Calls Tryz.prog 5 #[.slice a ts.length cap] w fun e w' => e = .returned (.bool true) ∧ Below w.heap.size w w' := by
  have HV := hide hv
  have HS := hide hs
  have HE := hide hE
  have HW := hide (outWrite_any 0 ts a cap w hv hn hs w.heap.size (Nat.le_refl _) hE)
  have HL := hide (fun W (hb : Below w.heap.size w W) => live10_any W (hE.at hb))
  clear hv hs hE
  rcases write_two 0 ts with ⟨c, hc, hR⟩ | hR
  · rw [hR] at HW
    simp only at HW
    clear hR
    go_enter Tryz.func5, Tryz.ntmps5
    go_wp2_with fail
    refine (unhide HW).mono ?_
    rintro e w1 ⟨rfl, hb1⟩
    have HL2 := hide (unhide HL _ hb1)
    clear HW HL
    rcases hc with rfl | rfl | rfl
    all_goals
      go_wp2_with fail
      refine (unhide HL2).mono ?_
      rintro e w2 ⟨rfl, hb2⟩
      go_wp2
      go_ret
      exact ⟨rfl, Below.then hb1 hb2⟩
  obtain ⟨ys, cs, h1, h2, h3, h4⟩ := wrap_E hR
  have hsz : (textO 0 ts).length ≤ 32768 := (write_ok hR).2.2.2.1
  have hnl : ts.length ≤ 4096 := (past_few (right_past (write_ok hR).2.1)).1
  rw [hR] at HW
  simp only at HW
  obtain ⟨D, hD⟩ : ∃ D : ByteArray, D = ⟨(textO 0 ts).toArray⟩ := ⟨_, rfl⟩
  have hDs : D.size ≤ 32768 := by rw [hD]; show (textO 0 ts).toArray.size ≤ _; simpa using hsz
  rw [← hD] at HW h2
  clear hR hD hsz hn
  by_cases hz : 32768 < (⟨#[60, 114, 62]⟩ ++ D ++ ⟨#[60, 47, 114, 62]⟩ : ByteArray).size
  · have HSC := hide (fun W => scan_long (⟨#[60, 114, 62]⟩ ++ D ++ ⟨#[60, 47, 114, 62]⟩) W hz)
    clear hz h1 h2 h3 h4
    go_enter Tryz.func5, Tryz.ntmps5
    go_wp2_with fail
    refine (unhide HW).mono ?_
    rintro e w1 ⟨rfl, hb1⟩
    have HL2 := hide (unhide HL _ hb1)
    clear HW HL
    go_wp2_with fail
    refine (unhide HSC _).mono ?_
    rintro e w2 ⟨rfl, rfl⟩
    go_wp2_with fail
    refine (unhide HL2).mono ?_
    rintro e w3 ⟨rfl, hb3⟩
    go_wp2
    go_ret
    exact ⟨rfl, Below.then hb1 hb3⟩
  have HSC : Hid (∀ W, XEnv W.heap.size W → Calls Tryz.prog 18 #[.string (⟨#[60, 114, 62]⟩ ++ D ++ ⟨#[60, 47, 114, 62]⟩)] W fun e w' => scanP (scanX cs) W.heap.size e w' ∧ Below W.heap.size W w') := hide (by
    intro W hEW
    rw [h2] at hz ⊢
    exact scan_any cs W h3 (by omega) hEW)
  clear hz h2 h3
  rcases h4 with h4 | ⟨pl, h4⟩
  rotate_left 1
  · rw [h4] at HSC
    clear h1 h4
    go_enter Tryz.func5, Tryz.ntmps5
    go_wp2_with fail
    refine (unhide HW).mono ?_
    rintro e w1 ⟨rfl, hb1⟩
    have HS2 := hide (unhide HSC w1 ((unhide HE).at hb1))
    clear HW HSC
    go_wp2_with fail
    refine (unhide HS2).mono ?_
    rintro e w2 ⟨hp, hb2⟩
    have he : e = .returned (.tuple #[.slice none 0 0, .int .i64 6, .int .i64 (pl : Nat)]) := hp
    subst he
    have hb02 := Below.then hb1 hb2
    have HL2 := hide (unhide HL _ hb02)
    clear HL hp
    go_wp2_with fail
    refine (unhide HL2).mono ?_
    rintro e w3 ⟨rfl, hb3⟩
    go_wp2
    go_ret
    exact ⟨rfl, Below.then hb02 hb3⟩
  · rw [h4] at HSC
    have hlen : ys.length = ts.length + 2 := by
      have := congrArg List.length h1
      rw [List.length_cons, List.length_append, List.length_map] at this
      exact this.symm
    have H1 := hide h1
    have HLN := hide hlen
    clear h1 h4
    go_enter Tryz.func5, Tryz.ntmps5
    go_wp2_with fail
    refine (unhide HW).mono ?_
    rintro e w1 ⟨rfl, hb1⟩
    have HS2 := hide (unhide HSC w1 ((unhide HE).at hb1))
    clear HW HSC
    go_wp2_with fail
    refine (unhide HS2).mono ?_
    rintro e w2 ⟨⟨vt, rfl, hT⟩, hb2⟩
    have hb02 := Below.then hb1 hb2
    have HL2 := hide (unhide HL _ hb02)
    obtain ⟨g, cap2, rfl, hcap, _, _, ht⟩ := toks_at hT (by omega)
    have HA : Hid (ToksArg w2 (some ⟨g, 4, none⟩) ts) := hide fun _ => ⟨g, 4, rfl, fun i t hi => by
      have hy : ∃ y, ys[i + 1]? = some y ∧ y.b = t := by
        have e := congrArg (fun l => l[i + 1]?) (unhide H1)
        simp only [List.getElem?_cons_succ, List.getElem?_map] at e
        rw [List.getElem?_append_left (List.getElem?_eq_some_iff.1 hi).1, hi] at e
        obtain ⟨y, h1, h2⟩ := Option.map_eq_some_iff.1 e.symm
        exact ⟨y, h1, h2⟩
      obtain ⟨y, hy1, hy2⟩ := hy
      have h0 := tok_arg (ht (i + 1) y hy1)
      rw [hy2, show 0 + (i + 1) * 4 = 4 + i * 4 by omega] at h0
      exact h0⟩
    rw [hlen] at hcap ⊢
    have n1 : (ts.length : Int) ≤ 4096 := by omega
    have n2 : (ts.length : Int) + 2 ≤ (cap2 : Int) := by omega
    clear hT ht HL hlen HLN
    go_wp2_with fail
    refine (unhide HL2).mono ?_
    rintro e w4 ⟨rfl, hb4⟩
    have hb04 := Below.then hb02 hb4
    have HSM : Hid (∀ c2, Calls Tryz.prog 19 #[.slice a ts.length cap, .slice (some ⟨g, 4, none⟩) ts.length c2] w4 fun e w' => e = .returned (.bool true) ∧ Below w4.heap.size w4 w') := hide fun c2 => sameTokens_any ts a (some ⟨g, 4, none⟩) cap c2 w4 ((unhide HV).below hb04) ((unhide HA).below hb4) (by omega) (fun t ht => (unhide HS t ht).l)
    clear HA HL2
    go_wp2_with fail
    refine (unhide HSM _).mono ?_
    rintro e w5 ⟨rfl, hb5⟩
    go_wp2
    go_ret
    exact ⟨rfl, Below.then hb04 hb5⟩
end Go.Proofs.YtefjfjieoiegnaaGreatDoor
/- Tokens that are handed in: what a slice of them is. -/
namespace Go.Proofs.YtefjfjieoiegnaaGreatDoor
open Go.RowKit
theorem cellsStrT : Tryz.prog.cellsOf 9 = 1 := by kernel_rfl
theorem cellsPairT : Tryz.prog.cellsOf 40 = 2 := by kernel_rfl
theorem cellsTokT : Tryz.prog.cellsOf 37 = 4 := by kernel_rfl
theorem cellsKindT : Tryz.prog.cellsOf 34 = 1 := by kernel_rfl
theorem cellsPairsT : Tryz.prog.cellsOf 35 = 1 := by kernel_rfl
section
variable {H : Type} {enc : TypeId × Value → H} {W : World} {held : Bool}
theorem bulk_memT : ∀ (ds : List (DataW H)) (d : DataW H), d ∈ ds → Rows.uptoBulk d ≤ Rows.uptoBulkAll ds
  | [], _, h => by cases h
  | e :: ds, d, h => by
    rw [Rows.uptoBulkAll]
    rcases List.mem_cons.1 h with rfl | h
    · omega
    · have := bulk_memT ds d h; omega
theorem bulk_lenT : ∀ (ds : List (DataW H)), (∀ d ∈ ds, 1 ≤ Rows.uptoBulk d) → ds.length ≤ Rows.uptoBulkAll ds
  | [], _ => Nat.zero_le _
  | e :: ds, h => by
    have := bulk_lenT ds (fun d hd => h d (by simp [hd]))
    have h1 := h e (by simp)
    rw [Rows.uptoBulkAll, List.length_cons]
    omega
theorem pair_read {fuel : Nat} {cs : List Value} {d : DataW H} {q : List MemPlace}
    (h : DataW.trod enc Tryz.prog W 0 (fun _ => true) held fuel 40 cs = some (d, q)) : ∃ x y : ByteArray, cs = [.string x, .string y] ∧ x.size + y.size + 3 ≤ Rows.uptoBulk d := by
  obtain ⟨y0, y1, n, hx, hl, h0, h1⟩ := ChangeShapes.trod_struct2 Tryz.underlying40 h
  rw [cellsPairT] at hl
  simp only [cellsStrT] at h0 h1
  obtain ⟨z0, e0, rfl, _⟩ := DataW.trod_string Tryz.underlying9 h0
  obtain ⟨z1, e1, rfl, _⟩ := DataW.trod_string Tryz.underlying9 h1
  match cs, hl with
  | [v0, v1], _ =>
    simp at e0 e1
    have hd := congrArg Prod.fst hx
    simp only at hd
    subst e0 e1 hd
    refine ⟨z0, z1, rfl, ?_⟩
    simp only [Rows.uptoBulk, Rows.uptoBulkAll]
    have e1 : z0.data.toList.length = z0.size := rfl
    have e2 : z1.data.toList.length = z1.size := rfl
    omega
theorem pairs_read {fuel : Nat} {cs : List Value} {d : DataW H} {q : List MemPlace}
    (h : DataW.trod enc Tryz.prog W 0 (fun _ => true) held fuel 35 cs = some (d, q)) : ∃ (v : Value) (l : List (ByteArray × ByteArray)), cs = [v] ∧ PairsArg W v l ∧ l.length ≤ Rows.uptoBulk d ∧ ∀ x ∈ l, x.1.size ≤ Rows.uptoBulk d ∧ x.2.size ≤ Rows.uptoBulk d := by
  rcases Deep.open_slice Tryz.underlying35 h with ⟨h0, _⟩ | ⟨ad, len, cap, m, n, D, Pl, hcs, hb, hl, hm, hmm, hx, hall⟩
  · exact ⟨_, [], h0, ⟨none, 0, rfl, fun h => absurd rfl h⟩, Nat.zero_le _, fun x hx => by cases hx⟩
  · have hd : d = .slice ((List.range len).map D) ((List.range (m - len)).map fun j => D (len + j)) := congrArg Prod.fst hx
    have hlm : len ≤ m := by rw [hmm]; simp; omega
    have each : ∀ i, i < len → ∃ y : ByteArray × ByteArray, W.cell? (ad.add (i * 2)) = some (.string y.1) ∧ W.cell? (ad.add (i * 2 + 1)) = some (.string y.2) ∧ y.1.size + y.2.size + 3 ≤ Rows.uptoBulk (D i) := by
      intro i hi
      obtain ⟨cs', h1, h2⟩ := hall i (by omega)
      rw [cellsPairT] at h1
      obtain ⟨x, y, rfl, hsz⟩ := pair_read h2
      obtain ⟨_, _, hcell⟩ := World.cells?_some h1
      have e0 := hcell 0 (by omega)
      have e1 := hcell 1 (by omega)
      rw [Deep.add_add] at e0 e1
      exact ⟨(x, y), by simpa using e0, by simpa using e1, hsz⟩
    haveI : Inhabited (ByteArray × ByteArray) := ⟨(⟨#[]⟩, ⟨#[]⟩)⟩
    obtain ⟨f, hf⟩ := Deep.choose_lt each
    have hall1 : ∀ d' ∈ (List.range len).map D, 1 ≤ Rows.uptoBulk d' := fun d' hd' => by
      obtain ⟨i, hi, rfl⟩ := List.mem_map.1 hd'
      have := (hf i (List.mem_range.1 hi)).2.2
      omega
    have hbl := bulk_lenT _ hall1
    rw [List.length_map, List.length_range] at hbl
    have hdb : Rows.uptoBulkAll ((List.range len).map D) + 1 ≤ Rows.uptoBulk d := by rw [hd, Rows.uptoBulk]; omega
    refine ⟨_, (List.range len).map f, hcs, ⟨some ad, cap, by simp, fun hne => ?_⟩, by rw [List.length_map, List.length_range]; omega, fun x hx => ?_⟩
    · have hlen : 0 < len := by
        cases len with
        | zero => exact absurd rfl hne
        | succ n => omega
      obtain ⟨b, o, sp⟩ := ad
      have hsp : sp = none := by
        have := (hf 0 hlen).1
        simpa [Addr.add] using World.cell?_spot this
      subst hsp
      refine ⟨b, o, rfl, fun i x hx => ?_⟩
      rw [List.getElem?_map] at hx
      obtain ⟨j, hj, rfl⟩ := Option.map_eq_some_iff.1 hx
      obtain ⟨h1, h2⟩ := List.getElem?_eq_some_iff.1 hj
      simp at h1 h2
      subst h2
      obtain ⟨c0, c1, _⟩ := hf i h1
      rw [Addr.add_mid] at c0 c1
      exact ⟨c0, by rw [Nat.add_assoc]; exact c1⟩
    · obtain ⟨i, hi, rfl⟩ := List.mem_map.1 hx
      have h1 := (hf i (List.mem_range.1 hi)).2.2
      have h2 := bulk_memT _ (D i) (List.mem_map.2 ⟨i, hi, rfl⟩)
      omega
theorem trod_struct4T {P : Program} {w : World} {base : Nat} {spare : Nat → Bool} {t : TypeId} {f0 f1 f2 f3 : Field} {fuel : Nat} {cs : List Value} {x : DataW H × List MemPlace} (ht : P.underlying t = some (.struct #[f0, f1, f2, f3])) (h : DataW.trod enc P w base spare held fuel t cs = some x) :
    ∃ y0 y1 y2 y3 n, x.1 = .agg [y0.1, y1.1, y2.1, y3.1] ∧ cs.length = P.cellsOf t ∧ DataW.trod enc P w base spare held n f0.type ((cs.drop f0.offset).take (P.cellsOf f0.type)) = some y0 ∧
      DataW.trod enc P w base spare held n f1.type ((cs.drop f1.offset).take (P.cellsOf f1.type)) = some y1 ∧ DataW.trod enc P w base spare held n f2.type ((cs.drop f2.offset).take (P.cellsOf f2.type)) = some y2 ∧ DataW.trod enc P w base spare held n f3.type ((cs.drop f3.offset).take (P.cellsOf f3.type)) = some y3 := by
  obtain ⟨xs, n, _, hx, hl, hlen, hf⟩ := DataW.trod_struct ht h
  match xs, hlen with
  | [y0, y1, y2, y3], _ => exact ⟨y0, y1, y2, y3, n, by rw [hx]; rfl, hl, by simpa using hf 0 f0 rfl, by simpa using hf 1 f1 rfl, by simpa using hf 2 f2 rfl, by simpa using hf 3 f3 rfl⟩
/-- A token's parts are not greater than what it holds. -/
structure Fits (t : BTok) (m : Nat) : Prop where
  l : t.attrs.length ≤ m
  a : ∀ x ∈ t.attrs, x.1.size ≤ m ∧ x.2.size ≤ m
  n : t.name.size ≤ m
  x : t.text.size ≤ m
theorem Fits.up {t : BTok} {n m : Nat} (h : Fits t n) (hm : n ≤ m) : Fits t m := ⟨Nat.le_trans h.l hm, fun x hx => ⟨Nat.le_trans (h.a x hx).1 hm, Nat.le_trans (h.a x hx).2 hm⟩, Nat.le_trans h.n hm, Nat.le_trans h.x hm⟩
theorem tok_read {fuel : Nat} {cs : List Value} {d : DataW H} {q : List MemPlace}
    (h : DataW.trod enc Tryz.prog W 0 (fun _ => true) held fuel 37 cs = some (d, q)) : ∃ (t : BTok) (v : Value), cs = [.int .i64 t.kind, .string t.name, v, .string t.text] ∧ PairsArg W v t.attrs ∧ Fits t (Rows.uptoBulk d) ∧ 1 ≤ Rows.uptoBulk d := by
  obtain ⟨y0, y1, y2, y3, n, hx, hl, h0, h1, h2, h3⟩ := trod_struct4T Tryz.underlying37 h
  rw [cellsTokT] at hl
  simp only [cellsKindT, cellsStrT, cellsPairsT] at h0 h1 h2 h3
  obtain ⟨d2, q2⟩ := y2
  obtain ⟨z0, e0, rfl, _⟩ := DataW.trod_int Tryz.underlying34 h0
  obtain ⟨z1, e1, rfl, _⟩ := DataW.trod_string Tryz.underlying9 h1
  obtain ⟨v, l, e2, hp, b1, b2⟩ := pairs_read h2
  obtain ⟨z3, e3, rfl, _⟩ := DataW.trod_string Tryz.underlying9 h3
  match cs, hl with
  | [v0, v1, v2, v3], _ =>
    simp at e0 e1 e2 e3
    simp only at hx
    subst e0 e1 e2 e3 hx
    have k1 : z1.data.toList.length = z1.size := rfl
    have k3 : z3.data.toList.length = z3.size := rfl
    have kb : Rows.uptoBulk (DataW.agg [.lit (.int .i64 z0), .lit (.string z1.data.toList), d2, .lit (.string z3.data.toList)] : DataW H) = z1.size + z3.size + Rows.uptoBulk d2 + 4 := by
      simp only [Rows.uptoBulk, Rows.uptoBulkAll]
      omega
    refine ⟨⟨z0, z1, l, z3⟩, v2, rfl, hp, ?_, ?_⟩
    · rw [kb]
      refine ⟨?_, fun x hx => ?_, ?_, ?_⟩
      · show l.length ≤ _
        omega
      · have := b2 x hx
        exact ⟨by omega, by omega⟩
      · show z1.size ≤ _
        omega
      · show z3.size ≤ _
        omega
    · rw [kb]
      omega
theorem open_toks {fuel : Nat} {a : Option Addr} {len cap : Nat} {d : DataW H} {q : List MemPlace}
    (h : DataW.trod enc Tryz.prog W 0 (fun _ => true) held fuel 24 [.slice a len cap] = some (d, q)) :
    ∃ ts : List BTok, ts.length = len ∧ ToksArg W a ts ∧ (∀ t ∈ ts, Fits t (Rows.uptoBulk d)) ∧ len ≤ Rows.uptoBulk d := by
  rcases Deep.open_slice Tryz.underlying24 h with ⟨h0, _⟩ | ⟨ad, len', cap', m, n, D, Pl, hcs, hb, hl, hm, hmm, hx, hall⟩
  · cases h0
    exact ⟨[], rfl, (fun h => absurd rfl h), (fun x hx => by cases hx), Nat.zero_le _⟩
  · cases hcs
    have hd : d = .slice ((List.range len).map D) ((List.range (m - len)).map fun j => D (len + j)) := congrArg Prod.fst hx
    have hlm : len ≤ m := by rw [hmm]; simp; omega
    have each : ∀ i, i < len → ∃ y : BTok × Value, W.cell? (ad.add (i * 4)) = some (.int .i64 y.1.kind) ∧ W.cell? (ad.add (i * 4 + 1)) = some (.string y.1.name) ∧ W.cell? (ad.add (i * 4 + 2)) = some y.2 ∧ W.cell? (ad.add (i * 4 + 3)) = some (.string y.1.text) ∧ PairsArg W y.2 y.1.attrs ∧ Fits y.1 (Rows.uptoBulk (D i)) ∧ 1 ≤ Rows.uptoBulk (D i) := by
      intro i hi
      obtain ⟨cs', h1, h2⟩ := hall i (by omega)
      rw [cellsTokT] at h1
      obtain ⟨t, v, rfl, hp, hft, h1b⟩ := tok_read h2
      obtain ⟨_, _, hcell⟩ := World.cells?_some h1
      have e0 := hcell 0 (by omega)
      have e1 := hcell 1 (by omega)
      have e2 := hcell 2 (by omega)
      have e3 := hcell 3 (by omega)
      rw [Deep.add_add] at e0 e1 e2 e3
      exact ⟨(t, v), by simpa using e0, by simpa using e1, by simpa using e2, by simpa using e3, hp, hft, h1b⟩
    haveI : Inhabited (BTok × Value) := ⟨(⟨0, ⟨#[]⟩, [], ⟨#[]⟩⟩, .bool false)⟩
    obtain ⟨f, hf⟩ := Deep.choose_lt each
    have hall1 : ∀ d' ∈ (List.range len).map D, 1 ≤ Rows.uptoBulk d' := fun d' hd' => by
      obtain ⟨i, hi, rfl⟩ := List.mem_map.1 hd'
      exact (hf i (List.mem_range.1 hi)).2.2.2.2.2.2
    have hbl := bulk_lenT _ hall1
    rw [List.length_map, List.length_range] at hbl
    have hdb : Rows.uptoBulkAll ((List.range len).map D) + 1 ≤ Rows.uptoBulk d := by rw [hd, Rows.uptoBulk]; omega
    refine ⟨(List.range len).map fun i => (f i).1, by simp, fun hne => ?_, fun x hx => ?_, by omega⟩
    · have hlen : 0 < len := by
        cases len with
        | zero => exact absurd rfl hne
        | succ n => omega
      obtain ⟨b, o, sp⟩ := ad
      have hsp : sp = none := by
        have := (hf 0 hlen).1
        simpa [Addr.add] using World.cell?_spot this
      subst hsp
      refine ⟨b, o, rfl, fun i x hx => ?_⟩
      rw [List.getElem?_map] at hx
      obtain ⟨j, hj, rfl⟩ := Option.map_eq_some_iff.1 hx
      obtain ⟨h1, h2⟩ := List.getElem?_eq_some_iff.1 hj
      simp at h1 h2
      subst h2
      obtain ⟨c0, c1, c2, c3, hp, _, _⟩ := hf i h1
      rw [Addr.add_mid] at c0 c1 c2 c3
      exact ⟨c0, by rw [Nat.add_assoc]; exact c1, ⟨_, by rw [Nat.add_assoc]; exact c2, hp⟩, by rw [Nat.add_assoc]; exact c3⟩
    · obtain ⟨i, hi, rfl⟩ := List.mem_map.1 hx
      have h2 := bulk_memT _ (D i) (List.mem_map.2 ⟨i, hi, rfl⟩)
      exact (hf i (List.mem_range.1 hi)).2.2.2.2.2.1.up (by omega)
theorem Fits.small {t : BTok} {n : Nat} (h : Fits t n) (hn : n ≤ 1048576) : Small t := ⟨Nat.le_trans h.l hn, fun x hx => ⟨Nat.le_trans (h.a x hx).1 hn, Nat.le_trans (h.a x hx).2 hn⟩, Nat.le_trans h.n hn, Nat.le_trans h.x hn⟩
end
end Go.Proofs.YtefjfjieoiegnaaGreatDoor
/- From what a row lists of the library's tables, and from the world's shape, to what the walks of layer 3 ask. -/
namespace Go.Proofs.YtefjfjieoiegnaaGreatDoor
open Go.ChangeShapes Go.WideShapes Go.ChangeAt Go.RowKit
theorem u8extra : U8Extra Tryz.prog Tryz.lays260_ren where
  n3 := by kernel_rfl
  n4 := by kernel_rfl
  y3 := by kernel_rfl
  y4 := by kernel_rfl
  c5 := by kernel_rfl
  c119 := by kernel_rfl
  c138 := by kernel_rfl
theorem first_data : Rows.laid_unicode_utf8_first = Lib.firstData := by kernel_rfl
theorem accept_data : Rows.laid_unicode_utf8_acceptRanges = Lib.acceptData := by kernel_rfl
def foldTab : List Int := [0, 1, 2, 3, 4, 5, 6, 7, 8, 9, 10, 11, 12, 13, 14, 15, 16, 17, 18, 19, 20, 21, 22, 23, 24, 25, 26, 27, 28, 29, 30, 31, 32, 33, 34, 35, 36, 37, 38, 39, 40, 41, 42, 43, 44, 45, 46, 47, 48, 49, 50, 51, 52, 53, 54, 55, 56, 57, 58, 59, 60, 61, 62, 63, 64, 97, 98, 99, 100, 101, 102, 103, 104, 105, 106, 107, 108, 109, 110, 111, 112, 113, 114, 115, 116, 117, 118, 119, 120, 121, 122, 91, 92, 93, 94, 95, 96, 65, 66, 67, 68, 69, 70, 71, 72, 73, 74, 8490, 76, 77, 78, 79, 80, 81, 82, 383, 84, 85, 86, 87, 88, 89, 90, 123, 124, 125, 126, 127]
theorem fold_data : (Rows.laid_unicode_asciiFold : DataW Unit) = Lib.tabData .u16 foldTab := by kernel_rfl
theorem xTab_of {P : Program} {W : World} {name : String} {k : IntKind} {zs : List Int} {g : Nat} {t e : TypeId} {n : Nat} (hg : P.globalNamed name = some g) (hty : (P.globals[g]?).map (·.type) = some t) (ht : P.underlying t = some (.array n e)) (he : P.underlying e = some (.int k)) (hce : P.cellsOf e = 1) (hct : P.cellsOf t = n) (h : Lib.VarReads P W name (Lib.tabData k zs)) (j : Nat) : W.cell? ⟨g, j, none⟩ = (zs.map fun z => Value.int k z)[j]? := by
  obtain ⟨g', t', cs, fuel, p, hg', ht', hvar, hd⟩ := h
  obtain rfl := Option.some.inj (hg.symm.trans hg')
  obtain rfl := Option.some.inj (hty.symm.trans ht')
  rw [World.var?_cell hg hvar j, ← Lib.cells_of_tab ht he hce hct hd]
  simp
theorem env_of {W : World} (hM : laidMet Tryz.prog [("unicode/utf8.acceptRanges", Rows.laid_unicode_utf8_acceptRanges), ("unicode.asciiFold", Rows.laid_unicode_asciiFold), ("unicode.caseOrbit", Rows.laid_unicode_caseOrbit), ("unicode.CaseRanges", Rows.laid_unicode_CaseRanges), ("unicode/utf8.first", Rows.laid_unicode_utf8_first)] W) (hs : W.ShapedOpen Tryz.prog) : XEnv W.heap.size W := by
  have h3 := Lib.laidMet.reads hM (n := "unicode/utf8.first") (d := Rows.laid_unicode_utf8_first) (by simp)
  have h4 := Lib.laidMet.reads hM (n := "unicode/utf8.acceptRanges") (d := Rows.laid_unicode_utf8_acceptRanges) (by simp)
  have h5 := Lib.laidMet.reads hM (n := "unicode.asciiFold") (d := Rows.laid_unicode_asciiFold) (by simp)
  rw [first_data] at h3
  rw [accept_data] at h4
  rw [fold_data] at h5
  have ht := utf8Tabs_of_reads Tryz.lays260 u8extra h3 h4
  have hf := xTab_of (g := 3) (t := 182) (e := 181) (n := 128) (by kernel_rfl) (by kernel_rfl) (by kernel_rfl) Tryz.underlying181 (by kernel_rfl) (by kernel_rfl) h5
  obtain ⟨m, hm⟩ : ∃ m, W.cell? ⟨2, 0, none⟩ = some (.int .i64 m) := cell_of_shapedOpen_int (zero := #[.int .i64 0]) (t := 3) hs (of_decide_eq_true (by kernel_rfl)) (by kernel_rfl) rfl (by kernel_rfl) (by kernel_rfl) Tryz.underlying3
  have fx : W.cell? ⟨3, 120, none⟩ = some (.int .u16 88) := (hf 120).trans rfl
  refine ⟨⟨⟨m, hm⟩, ht⟩, fx, (hf 109).trans rfl, (hf 108).trans rfl, (hf 88).trans rfl, (hf 77).trans rfl, (hf 76).trans rfl, block_lt_of_cell hm, ?_, ?_, block_lt_of_cell fx⟩
  · exact block_lt_of_cell (ht.1 0 (by decide))
  · exact block_lt_of_cell (ht.2 0 (by decide)).1
theorem own : ownKnob Tryz.prog.godebug = none := by kernel_rfl
end Go.Proofs.YtefjfjieoiegnaaGreatDoor
