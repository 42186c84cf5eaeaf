/- A step's axis and test: xparse's axis, typeTest, test, anyBelow. -/
import Derived.Test.YthkkfldmoflfaaaGreatDoorGar
import Derived.Shelf.Small.Wraps
namespace Go.Proofs.YthkkfldmoflfaaaGreatDoor
open Go.RowKit
theorem psign_at {p : Nat} {t : List Nat} {s : PS} {w : World} {b : ByteArray} {v : Bool} (h : PV w p s) (ht : okL t) (hb : T t = b) (hv : headIs 9 t s = v) :
    Calls Tryz.prog 109 #[.pointer (some ⟨p, 0, none⟩), .string b] w fun e w' => e = .returned (.bool v) ∧ PV w' p (popIf v s) ∧ Kq (fun j => j = p) w w' := by
  subst hb hv
  exact psign_any p t s w h ht
theorem poperator_at {p : Nat} {t : List Nat} {s : PS} {w : World} {b : ByteArray} {v : Bool} (h : PV w p s) (ht : okL t) (hb : T t = b) (hv : headIs 8 t s = v) :
    Calls Tryz.prog 78 #[.pointer (some ⟨p, 0, none⟩), .string b] w fun e w' => e = .returned (.bool v) ∧ PV w' p (popIf v s) ∧ Kq (fun j => j = p) w w' := by
  subst hb hv
  exact poperator_any p t s w h ht
theorem pneed_at {p : Nat} {t : List Nat} {s : PS} {w : World} {b : ByteArray} (h : PV w p s) (ht : okL t) (hb : T t = b) (hv : headIs 9 t s = true) :
    Calls Tryz.prog 126 #[.pointer (some ⟨p, 0, none⟩), .string b] w fun e w' => e = .returned (.tuple #[]) ∧ PV w' p s.pop ∧ Kq (fun j => j = p) w w' := by
  subst hb
  exact pneed_yes p t s w h ht hv
theorem pneedNo_at {p : Nat} {t : List Nat} {s : PS} {w : World} {b : ByteArray} (h : PV w p s) (ht : okL t) (hb : T t = b) (hv : headIs 9 t s = false) :
    Calls Tryz.prog 126 #[.pointer (some ⟨p, 0, none⟩), .string b] w fun e w' => e = gaveUp ∧ Kq (fun j => j = p) w w' := by
  subst hb
  exact pneed_no p t s w h ht hv
theorem ptakeAny_yes {p k : Nat} {s : PS} {w : World} (h : PV w p s) (hv : seesK k s = true) :
    Calls Tryz.prog 125 #[.pointer (some ⟨p, 0, none⟩), .int .i64 (k : Nat)] w fun e w' => e = .returned (.tuple #[.string (T (headT s)), .bool true]) ∧ PV w' p s.pop ∧ Kq (fun j => j = p) w w' := by
  have := ptakeAny_any p k s w h
  rw [hv] at this
  exact this
theorem ptakeAny_no {p k : Nat} {s : PS} {w : World} (h : PV w p s) (hv : seesK k s = false) :
    Calls Tryz.prog 125 #[.pointer (some ⟨p, 0, none⟩), .int .i64 (k : Nat)] w fun e w' => e = .returned (.tuple #[.string ⟨#[]⟩, .bool false]) ∧ PV w' p s ∧ Kq (fun j => j = p) w w' := by
  have := ptakeAny_any p k s w h
  rw [hv] at this
  exact this
theorem PV.head {w : World} {p : Nat} {s : PS} {k : Nat} (h : PV w p s) (hs : seesK k s = true) : okL (headT s) := by
  obtain ⟨_, _, v, _, hk, _⟩ := h
  unfold seesK at hs
  unfold headT
  cases hl : s.left with
  | nil => rw [hl] at hs; cases hs
  | cons x r => exact (hk x (by rw [hl]; simp)).1
theorem PV.headz {w : World} {p : Nat} {s : PS} {k : Nat} (h : PV w p s) (hs : seesK k s = true) : (T (headT s)).size ≤ 512 := by
  obtain ⟨_, _, v, _, hk, _⟩ := h
  unfold seesK at hs
  unfold headT
  cases hl : s.left with
  | nil => rw [hl] at hs; cases hs
  | cons x r => exact (hk x (by rw [hl]; simp)).2
/-- What a call leaves that tells a number, and may give up. -/
def outA (p : Nat) (w : World) (r : Option (Nat × PS)) (e : Ending) (w' : World) : Prop := match r with
  | none => e = gaveUp ∧ Kq (fun j => j = p) w w'
  | some (a, s) => e = .returned (.int .i64 (a : Nat)) ∧ PV w' p s ∧ Kq (fun j => j = p) w w'
def outT (p : Nat) (w : World) (r : Option (Nat × List Nat × PS)) (e : Ending) (w' : World) : Prop := match r with
  | none => e = gaveUp ∧ Kq (fun j => j = p) w w'
  | some (a, t, s) => okL t ∧ e = .returned (.tuple #[.int .i64 (a : Nat), .string (T t)]) ∧ PV w' p s ∧ Kq (fun j => j = p) w w'
set_option maxRecDepth 100000 in
set_option maxHeartbeats 4000000 in
theorem pbelow_any (w : World) :
    Calls Tryz.prog 81 #[] w fun e w' => e = .returned (exAgg belowX (.slice none 0 0)) ∧ Below w.heap.size w w' := by
  go_enter Tryz.func81, Tryz.ntmps81
  go_wp2_with fail
  go_returns
  exact ⟨rfl, (Below.refl _ _).alloc (Nat.le_refl _) _⟩
set_option maxRecDepth 100000 in
set_option maxHeartbeats 4000000 in
theorem paxis_any (p : Nat) (s : PS) (w : World) (h : PV w p s) (hp : ∀ w', Kq (fun j => j = p) w w' → EnvG w') :
    Calls Tryz.prog 110 #[.pointer (some ⟨p, 0, none⟩)] w fun e w' => outA p w (axisP s) e w' := by
  have HV0 := hide h
  have HK0 := hide (Kq.refl (fun j => j = p) w)
  have HP := hide hp
  have hh := h
  clear h hp
  cases h1 : headIs 9 [64] s with
  | true =>
    have e0 : axisP s = some (8, s.pop) := by unfold axisP; rw [h1]; rfl
    rw [e0]
    go_enter Tryz.func110, Tryz.ntmps110
    go_wp2_with fail
    refine (psign_at (unhide HV0) (t := [64]) (okL_p rfl) rfl h1).mono ?_
    rintro e w1 ⟨rfl, r1, r2⟩
    have HV1 : Hid (PV w1 p s.pop) := hide r1
    have HK1 := hide ((unhide HK0).andThen r2 (fun _ _ h => h))
    clear r1 r2
    go_wp2_with fail
    go_returns
    exact ⟨rfl, unhide HV1, unhide HK1⟩
  | false =>
    cases h2 : seesK 6 s with
    | false =>
      have e0 : axisP s = some (0, s) := by unfold axisP; rw [h1, h2]; rfl
      rw [e0]
      go_enter Tryz.func110, Tryz.ntmps110
      go_wp2_with fail
      refine (psign_at (unhide HV0) (t := [64]) (okL_p rfl) rfl h1).mono ?_
      rintro e w1 ⟨rfl, r1, r2⟩
      have HV1 : Hid (PV w1 p s) := hide r1
      have HK1 := hide ((unhide HK0).andThen r2 (fun _ _ h => h))
      clear r1 r2
      go_wp2_with fail
      refine (ptakeAny_no (k := 6) (unhide HV1) h2).mono ?_
      rintro e w2 ⟨rfl, r1, r2⟩
      have HV2 : Hid (PV w2 p s) := hide r1
      have HK2 := hide ((unhide HK1).andThen r2 (fun _ _ h => h))
      clear r1 r2
      go_wp2_with fail
      go_returns
      exact ⟨rfl, unhide HV2, unhide HK2⟩
    | true =>
      have HT := hide (hh.head h2)
      cases h3 : headIs 9 [58, 58] s.pop with
      | false =>
        have e0 : axisP s = none := by unfold axisP; rw [h1, h2, h3]; rfl
        rw [e0]
        go_enter Tryz.func110, Tryz.ntmps110
        go_wp2_with fail
        refine (psign_at (unhide HV0) (t := [64]) (okL_p rfl) rfl h1).mono ?_
        rintro e w1 ⟨rfl, r1, r2⟩
        have HV1 : Hid (PV w1 p s) := hide r1
        have HK1 := hide ((unhide HK0).andThen r2 (fun _ _ h => h))
        clear r1 r2
        go_wp2_with fail
        refine (ptakeAny_yes (k := 6) (unhide HV1) h2).mono ?_
        rintro e w2 ⟨rfl, r1, r2⟩
        have HV2 : Hid (PV w2 p s.pop) := hide r1
        have HK2 := hide ((unhide HK1).andThen r2 (fun _ _ h => h))
        clear r1 r2
        go_wp2_with fail
        refine (pneedNo_at (unhide HV2) (t := [58, 58]) (okL_p rfl) rfl h3).mono ?_
        rintro e w3 ⟨rfl, r2⟩
        have HK3 := hide ((unhide HK2).andThen r2 (fun _ _ h => h))
        clear r2
        go_wp2_with fail
        exact ⟨rfl, rfl, unhide HK3⟩
      | true =>
        cases h4 : axisNo (headT s) with
        | none =>
          have e0 : axisP s = none := by unfold axisP; rw [h1, h2, h3, h4]; rfl
          rw [e0]
          go_enter Tryz.func110, Tryz.ntmps110
          go_wp2_with fail
          refine (psign_at (unhide HV0) (t := [64]) (okL_p rfl) rfl h1).mono ?_
          rintro e w1 ⟨rfl, r1, r2⟩
          have HV1 : Hid (PV w1 p s) := hide r1
          have HK1 := hide ((unhide HK0).andThen r2 (fun _ _ h => h))
          clear r1 r2
          go_wp2_with fail
          refine (ptakeAny_yes (k := 6) (unhide HV1) h2).mono ?_
          rintro e w2 ⟨rfl, r1, r2⟩
          have HV2 : Hid (PV w2 p s.pop) := hide r1
          have HK2 := hide ((unhide HK1).andThen r2 (fun _ _ h => h))
          clear r1 r2
          go_wp2_with fail
          refine (pneed_at (unhide HV2) (t := [58, 58]) (okL_p rfl) rfl h3).mono ?_
          rintro e w3 ⟨rfl, r1, r2⟩
          have HV3 : Hid (PV w3 p s.pop.pop) := hide r1
          have HK3 := hide ((unhide HK2).andThen r2 (fun _ _ h => h))
          clear r1 r2
          have hE3 := unhide HP w3 (unhide HK3)
          have hax := paxisOf_any (headT s) w3 (unhide HT) hE3
          rw [h4] at hax
          simp only [noV] at hax
          have HAX := hide hax
          clear hax hE3
          go_wp2_with fail
          refine (unhide HAX).mono ?_
          rintro e w4 ⟨rfl, hw⟩
          have hw2 := hw.symm
          clear hw HAX
          subst hw2
          go_wp2_with fail
          refine (giveUp_any _).mono ?_
          rintro e w5 ⟨rfl, hw⟩
          have hw2 := hw.symm
          clear hw
          subst hw2
          go_wp2_with fail
          exact ⟨rfl, rfl, unhide HK3⟩
        | some a =>
          have e0 : axisP s = some (a, s.pop.pop) := by unfold axisP; rw [h1, h2, h3, h4]; rfl
          rw [e0]
          go_enter Tryz.func110, Tryz.ntmps110
          go_wp2_with fail
          refine (psign_at (unhide HV0) (t := [64]) (okL_p rfl) rfl h1).mono ?_
          rintro e w1 ⟨rfl, r1, r2⟩
          have HV1 : Hid (PV w1 p s) := hide r1
          have HK1 := hide ((unhide HK0).andThen r2 (fun _ _ h => h))
          clear r1 r2
          go_wp2_with fail
          refine (ptakeAny_yes (k := 6) (unhide HV1) h2).mono ?_
          rintro e w2 ⟨rfl, r1, r2⟩
          have HV2 : Hid (PV w2 p s.pop) := hide r1
          have HK2 := hide ((unhide HK1).andThen r2 (fun _ _ h => h))
          clear r1 r2
          go_wp2_with fail
          refine (pneed_at (unhide HV2) (t := [58, 58]) (okL_p rfl) rfl h3).mono ?_
          rintro e w3 ⟨rfl, r1, r2⟩
          have HV3 : Hid (PV w3 p s.pop.pop) := hide r1
          have HK3 := hide ((unhide HK2).andThen r2 (fun _ _ h => h))
          clear r1 r2
          have hE3 := unhide HP w3 (unhide HK3)
          have hax := paxisOf_any (headT s) w3 (unhide HT) hE3
          rw [h4] at hax
          simp only [noV, Int.zero_add] at hax
          have HAX := hide hax
          clear hax hE3
          go_wp2_with fail
          refine (unhide HAX).mono ?_
          rintro e w4 ⟨rfl, hw⟩
          have hw2 := hw.symm
          clear hw HAX
          subst hw2
          go_wp2_with fail
          go_returns
          exact ⟨rfl, unhide HV3, unhide HK3⟩
set_option maxRecDepth 100000 in
set_option maxHeartbeats 4000000 in
theorem ptypeTest_any (p : Nat) (s : PS) (w : World) (h : PV w p s) (hp : ∀ w', Kq (fun j => j = p) w w' → EnvG w') :
    Calls Tryz.prog 128 #[.pointer (some ⟨p, 0, none⟩)] w fun e w' => outT p w (typeP s) e w' := by
  have HV0 := hide h
  have HK0 := hide (Kq.refl (fun j => j = p) w)
  have HP := hide hp
  have hh := h
  clear h hp
  cases h2 : seesK 5 s with
  | false =>
    have e0 : typeP s = none := by unfold typeP; rw [h2]; rfl
    rw [e0]
    go_enter Tryz.func128, Tryz.ntmps128
    go_wp2_with fail
    refine (ptakeAny_no (k := 5) (unhide HV0) h2).mono ?_
    rintro e w1 ⟨rfl, r1, r2⟩
    have HV1 : Hid (PV w1 p s) := hide r1
    have HK1 := hide ((unhide HK0).andThen r2 (fun _ _ h => h))
    clear r1 r2
    have hE1 := unhide HP w1 (unhide HK1)
    have hax := ptypeOf_any [] w1 (fun c hc => by cases hc) hE1
    rw [show typeNo [] = none from rfl] at hax
    have HAX : Hid (Calls Tryz.prog 136 #[.string ⟨#[]⟩] w1 fun e w' => e = .returned (.tuple #[.int .i64 0, .bool false]) ∧ w' = w1) := hide hax
    clear hax hE1
    go_wp2_with fail
    refine (unhide HAX).mono ?_
    rintro e w2 ⟨rfl, hw⟩
    have hw2 := hw.symm
    clear hw HAX
    subst hw2
    go_wp2_with fail
    refine (giveUp_any _).mono ?_
    rintro e w5 ⟨rfl, hw⟩
    have hw2 := hw.symm
    clear hw
    subst hw2
    go_wp2_with fail
    exact ⟨rfl, rfl, unhide HK1⟩
  | true =>
    have HT := hide (hh.head h2)
    cases h4 : typeNo (headT s) with
    | none =>
      have e0 : typeP s = none := by unfold typeP; rw [h2, h4]; rfl
      rw [e0]
      go_enter Tryz.func128, Tryz.ntmps128
      go_wp2_with fail
      refine (ptakeAny_yes (k := 5) (unhide HV0) h2).mono ?_
      rintro e w1 ⟨rfl, r1, r2⟩
      have HV1 : Hid (PV w1 p s.pop) := hide r1
      have HK1 := hide ((unhide HK0).andThen r2 (fun _ _ h => h))
      clear r1 r2
      have hE1 := unhide HP w1 (unhide HK1)
      have hax := ptypeOf_any (headT s) w1 (unhide HT) hE1
      rw [h4] at hax
      simp only [noV] at hax
      have HAX := hide hax
      clear hax hE1
      go_wp2_with fail
      refine (unhide HAX).mono ?_
      rintro e w2 ⟨rfl, hw⟩
      have hw2 := hw.symm
      clear hw HAX
      subst hw2
      go_wp2_with fail
      refine (giveUp_any _).mono ?_
      rintro e w5 ⟨rfl, hw⟩
      have hw2 := hw.symm
      clear hw
      subst hw2
      go_wp2_with fail
      exact ⟨rfl, rfl, unhide HK1⟩
    | some k =>
      have hk4 : k < 4 := by
        have := List.findIdx?_eq_some_iff_getElem.1 h4
        obtain ⟨h, _⟩ := this
        exact h
      cases h5 : headIs 9 [40] s.pop with
      | false =>
        have e0 : typeP s = none := by unfold typeP; rw [h2, h4, h5]; rfl
        rw [e0]
        go_enter Tryz.func128, Tryz.ntmps128
        go_wp2_with fail
        refine (ptakeAny_yes (k := 5) (unhide HV0) h2).mono ?_
        rintro e w1 ⟨rfl, r1, r2⟩
        have HV1 : Hid (PV w1 p s.pop) := hide r1
        have HK1 := hide ((unhide HK0).andThen r2 (fun _ _ h => h))
        clear r1 r2
        have hE1 := unhide HP w1 (unhide HK1)
        have hax := ptypeOf_any (headT s) w1 (unhide HT) hE1
        rw [h4] at hax
        simp only [noV] at hax
        have HAX := hide hax
        clear hax hE1
        go_wp2_with fail
        refine (unhide HAX).mono ?_
        rintro e w2 ⟨rfl, hw⟩
        have hw2 := hw.symm
        clear hw HAX
        subst hw2
        go_wp2_with fail
        refine (pneedNo_at (unhide HV1) (t := [40]) (okL_p rfl) rfl h5).mono ?_
        rintro e w2 ⟨rfl, r2⟩
        have HK2 := hide ((unhide HK1).andThen r2 (fun _ _ h => h))
        clear r2
        go_wp2_with fail
        exact ⟨rfl, rfl, unhide HK2⟩
      | true =>
        by_cases hk3 : k = 3
        · subst hk3
          cases h6 : seesK 2 s.pop.pop with
          | false =>
            cases h7 : headIs 9 [41] s.pop.pop with
            | false =>
              have e0 : typeP s = none := by unfold typeP; rw [h2, h4, h5, h6, h7]; rfl
              rw [e0]
              go_enter Tryz.func128, Tryz.ntmps128
              go_wp2_with fail
              refine (ptakeAny_yes (k := 5) (unhide HV0) h2).mono ?_
              rintro e w1 ⟨rfl, r1, r2⟩
              have HV1 : Hid (PV w1 p s.pop) := hide r1
              have HK1 := hide ((unhide HK0).andThen r2 (fun _ _ h => h))
              clear r1 r2
              have hE1 := unhide HP w1 (unhide HK1)
              have hax := ptypeOf_any (headT s) w1 (unhide HT) hE1
              rw [h4] at hax
              simp only [noV] at hax
              have HAX := hide hax
              clear hax hE1
              go_wp2_with fail
              refine (unhide HAX).mono ?_
              rintro e w2 ⟨rfl, hw⟩
              have hw2 := hw.symm
              clear hw HAX
              subst hw2
              go_wp2_with fail
              refine (pneed_at (unhide HV1) (t := [40]) (okL_p rfl) rfl h5).mono ?_
              rintro e w2 ⟨rfl, r1, r2⟩
              have HV2 : Hid (PV w2 p s.pop.pop) := hide r1
              have HK2 := hide ((unhide HK1).andThen r2 (fun _ _ h => h))
              clear r1 r2
              go_wp2_with fail
              refine (ptakeAny_no (k := 2) (unhide HV2) h6).mono ?_
              rintro e w3 ⟨rfl, r1, r2⟩
              have HV3 : Hid (PV w3 p s.pop.pop) := hide r1
              have HK3 := hide ((unhide HK2).andThen r2 (fun _ _ h => h))
              clear r1 r2
              go_wp2_with fail
              refine (pneedNo_at (unhide HV3) (t := [41]) (okL_p rfl) rfl h7).mono ?_
              rintro e w4 ⟨rfl, r2⟩
              have HK4 := hide ((unhide HK3).andThen r2 (fun _ _ h => h))
              clear r2
              go_wp2_with fail
              exact ⟨rfl, rfl, unhide HK4⟩
            | true =>
              have e0 : typeP s = some (6, [], s.pop.pop.pop) := by unfold typeP; rw [h2, h4, h5, h6, h7]; rfl
              rw [e0]
              go_enter Tryz.func128, Tryz.ntmps128
              go_wp2_with fail
              refine (ptakeAny_yes (k := 5) (unhide HV0) h2).mono ?_
              rintro e w1 ⟨rfl, r1, r2⟩
              have HV1 : Hid (PV w1 p s.pop) := hide r1
              have HK1 := hide ((unhide HK0).andThen r2 (fun _ _ h => h))
              clear r1 r2
              have hE1 := unhide HP w1 (unhide HK1)
              have hax := ptypeOf_any (headT s) w1 (unhide HT) hE1
              rw [h4] at hax
              simp only [noV] at hax
              have HAX := hide hax
              clear hax hE1
              go_wp2_with fail
              refine (unhide HAX).mono ?_
              rintro e w2 ⟨rfl, hw⟩
              have hw2 := hw.symm
              clear hw HAX
              subst hw2
              go_wp2_with fail
              refine (pneed_at (unhide HV1) (t := [40]) (okL_p rfl) rfl h5).mono ?_
              rintro e w2 ⟨rfl, r1, r2⟩
              have HV2 : Hid (PV w2 p s.pop.pop) := hide r1
              have HK2 := hide ((unhide HK1).andThen r2 (fun _ _ h => h))
              clear r1 r2
              go_wp2_with fail
              refine (ptakeAny_no (k := 2) (unhide HV2) h6).mono ?_
              rintro e w3 ⟨rfl, r1, r2⟩
              have HV3 : Hid (PV w3 p s.pop.pop) := hide r1
              have HK3 := hide ((unhide HK2).andThen r2 (fun _ _ h => h))
              clear r1 r2
              go_wp2_with fail
              refine (pneed_at (unhide HV3) (t := [41]) (okL_p rfl) rfl h7).mono ?_
              rintro e w4 ⟨rfl, r1, r2⟩
              have HV4 : Hid (PV w4 p s.pop.pop.pop) := hide r1
              have HK4 := hide ((unhide HK3).andThen r2 (fun _ _ h => h))
              clear r1 r2
              go_wp2_with fail
              go_returns
              exact ⟨(fun c hc => by cases hc), rfl, unhide HV4, unhide HK4⟩
          | true =>
            cases h7 : headIs 9 [41] s.pop.pop.pop with
            | false =>
              have e0 : typeP s = none := by unfold typeP; rw [h2, h4, h5, h6, h7]; rfl
              rw [e0]
              go_enter Tryz.func128, Tryz.ntmps128
              go_wp2_with fail
              refine (ptakeAny_yes (k := 5) (unhide HV0) h2).mono ?_
              rintro e w1 ⟨rfl, r1, r2⟩
              have HV1 : Hid (PV w1 p s.pop) := hide r1
              have HK1 := hide ((unhide HK0).andThen r2 (fun _ _ h => h))
              clear r1 r2
              have hE1 := unhide HP w1 (unhide HK1)
              have hax := ptypeOf_any (headT s) w1 (unhide HT) hE1
              rw [h4] at hax
              simp only [noV] at hax
              have HAX := hide hax
              clear hax hE1
              go_wp2_with fail
              refine (unhide HAX).mono ?_
              rintro e w2 ⟨rfl, hw⟩
              have hw2 := hw.symm
              clear hw HAX
              subst hw2
              go_wp2_with fail
              refine (pneed_at (unhide HV1) (t := [40]) (okL_p rfl) rfl h5).mono ?_
              rintro e w2 ⟨rfl, r1, r2⟩
              have HV2 : Hid (PV w2 p s.pop.pop) := hide r1
              have HK2 := hide ((unhide HK1).andThen r2 (fun _ _ h => h))
              clear r1 r2
              go_wp2_with fail
              refine (ptakeAny_yes (k := 2) (unhide HV2) h6).mono ?_
              rintro e w3 ⟨rfl, r1, r2⟩
              have HV3 : Hid (PV w3 p s.pop.pop.pop) := hide r1
              have HK3 := hide ((unhide HK2).andThen r2 (fun _ _ h => h))
              clear r1 r2
              go_wp2_with fail
              refine (pneedNo_at (unhide HV3) (t := [41]) (okL_p rfl) rfl h7).mono ?_
              rintro e w4 ⟨rfl, r2⟩
              have HK4 := hide ((unhide HK3).andThen r2 (fun _ _ h => h))
              clear r2
              go_wp2_with fail
              exact ⟨rfl, rfl, unhide HK4⟩
            | true =>
              have e0 : typeP s = some (6, headT s.pop.pop, s.pop.pop.pop.pop) := by unfold typeP; rw [h2, h4, h5, h6, h7]; rfl
              rw [e0]
              go_enter Tryz.func128, Tryz.ntmps128
              go_wp2_with fail
              refine (ptakeAny_yes (k := 5) (unhide HV0) h2).mono ?_
              rintro e w1 ⟨rfl, r1, r2⟩
              have HV1 : Hid (PV w1 p s.pop) := hide r1
              have HK1 := hide ((unhide HK0).andThen r2 (fun _ _ h => h))
              clear r1 r2
              have hE1 := unhide HP w1 (unhide HK1)
              have hax := ptypeOf_any (headT s) w1 (unhide HT) hE1
              rw [h4] at hax
              simp only [noV] at hax
              have HAX := hide hax
              clear hax hE1
              go_wp2_with fail
              refine (unhide HAX).mono ?_
              rintro e w2 ⟨rfl, hw⟩
              have hw2 := hw.symm
              clear hw HAX
              subst hw2
              go_wp2_with fail
              refine (pneed_at (unhide HV1) (t := [40]) (okL_p rfl) rfl h5).mono ?_
              rintro e w2 ⟨rfl, r1, r2⟩
              have HV2 : Hid (PV w2 p s.pop.pop) := hide r1
              have HK2 := hide ((unhide HK1).andThen r2 (fun _ _ h => h))
              clear r1 r2
              have HT2 := hide ((unhide HV2).head h6)
              go_wp2_with fail
              refine (ptakeAny_yes (k := 2) (unhide HV2) h6).mono ?_
              rintro e w3 ⟨rfl, r1, r2⟩
              have HV3 : Hid (PV w3 p s.pop.pop.pop) := hide r1
              have HK3 := hide ((unhide HK2).andThen r2 (fun _ _ h => h))
              clear r1 r2
              go_wp2_with fail
              refine (pneed_at (unhide HV3) (t := [41]) (okL_p rfl) rfl h7).mono ?_
              rintro e w4 ⟨rfl, r1, r2⟩
              have HV4 : Hid (PV w4 p s.pop.pop.pop.pop) := hide r1
              have HK4 := hide ((unhide HK3).andThen r2 (fun _ _ h => h))
              clear r1 r2
              go_wp2_with fail
              go_returns
              exact ⟨unhide HT2, rfl, unhide HV4, unhide HK4⟩
        · have hk3' : (k == 3) = false := beq_false_of_ne hk3
          have n3 : (3 : Int) + (k : Int) ≠ 6 := by omega
          have n4 : ((3 : Int) + (k : Int) == 6) = false := beq_false_of_ne n3
          cases h7 : headIs 9 [41] s.pop.pop with
          | false =>
            have e0 : typeP s = none := by unfold typeP; rw [h2, h4, h5]; simp only [hk3', Bool.false_and]; rw [h7]; rfl
            rw [e0]
            clear e0 hk3 hk3'
            go_enter Tryz.func128, Tryz.ntmps128
            go_wp2_with fail
            refine (ptakeAny_yes (k := 5) (unhide HV0) h2).mono ?_
            rintro e w1 ⟨rfl, r1, r2⟩
            have HV1 : Hid (PV w1 p s.pop) := hide r1
            have HK1 := hide ((unhide HK0).andThen r2 (fun _ _ h => h))
            clear r1 r2
            have hE1 := unhide HP w1 (unhide HK1)
            have hax := ptypeOf_any (headT s) w1 (unhide HT) hE1
            rw [h4] at hax
            simp only [noV] at hax
            have HAX := hide hax
            clear hax hE1
            go_wp2_with fail
            refine (unhide HAX).mono ?_
            rintro e w2 ⟨rfl, hw⟩
            have hw2 := hw.symm
            clear hw HAX
            subst hw2
            go_wp2_with fail
            refine (pneed_at (unhide HV1) (t := [40]) (okL_p rfl) rfl h5).mono ?_
            rintro e w2 ⟨rfl, r1, r2⟩
            have HV2 : Hid (PV w2 p s.pop.pop) := hide r1
            have HK2 := hide ((unhide HK1).andThen r2 (fun _ _ h => h))
            clear r1 r2
            go_wp2_with fail
            refine (pneedNo_at (unhide HV2) (t := [41]) (okL_p rfl) rfl h7).mono ?_
            rintro e w3 ⟨rfl, r2⟩
            have HK3 := hide ((unhide HK2).andThen r2 (fun _ _ h => h))
            clear r2
            go_wp2_with fail
            exact ⟨rfl, rfl, unhide HK3⟩
          | true =>
            have e0 : typeP s = some (3 + k, [], s.pop.pop.pop) := by unfold typeP; rw [h2, h4, h5]; simp only [hk3', Bool.false_and]; rw [h7]; rfl
            rw [e0]
            clear e0 hk3 hk3'
            go_enter Tryz.func128, Tryz.ntmps128
            go_wp2_with fail
            refine (ptakeAny_yes (k := 5) (unhide HV0) h2).mono ?_
            rintro e w1 ⟨rfl, r1, r2⟩
            have HV1 : Hid (PV w1 p s.pop) := hide r1
            have HK1 := hide ((unhide HK0).andThen r2 (fun _ _ h => h))
            clear r1 r2
            have hE1 := unhide HP w1 (unhide HK1)
            have hax := ptypeOf_any (headT s) w1 (unhide HT) hE1
            rw [h4] at hax
            simp only [noV] at hax
            have HAX := hide hax
            clear hax hE1
            go_wp2_with fail
            refine (unhide HAX).mono ?_
            rintro e w2 ⟨rfl, hw⟩
            have hw2 := hw.symm
            clear hw HAX
            subst hw2
            go_wp2_with fail
            refine (pneed_at (unhide HV1) (t := [40]) (okL_p rfl) rfl h5).mono ?_
            rintro e w2 ⟨rfl, r1, r2⟩
            have HV2 : Hid (PV w2 p s.pop.pop) := hide r1
            have HK2 := hide ((unhide HK1).andThen r2 (fun _ _ h => h))
            clear r1 r2
            go_wp2_with fail
            refine (pneed_at (unhide HV2) (t := [41]) (okL_p rfl) rfl h7).mono ?_
            rintro e w3 ⟨rfl, r1, r2⟩
            have HV3 : Hid (PV w3 p s.pop.pop.pop) := hide r1
            have HK3 := hide ((unhide HK2).andThen r2 (fun _ _ h => h))
            clear r1 r2
            go_wp2_with fail
            go_returns
            exact ⟨(fun c hc => by cases hc), by simp [T, tx], unhide HV3, unhide HK3⟩
end Go.Proofs.YthkkfldmoflfaaaGreatDoor
