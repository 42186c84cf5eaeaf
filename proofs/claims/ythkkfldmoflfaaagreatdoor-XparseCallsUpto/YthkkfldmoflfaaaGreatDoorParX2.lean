/- The fields of an expression: xparse's rightFields. -/
import Derived.Test.YthkkfldmoflfaaaGreatDoorGbk
namespace Go.Proofs.YthkkfldmoflfaaaGreatDoor
open Go.RowKit Go.Maps
theorem tx_len4 : ∀ l : List Nat, (tx l).length ≤ 4 * l.length
  | [] => Nat.le_refl _
  | c :: l => by
    rw [tx_cons, List.length_append, List.length_cons]
    have := runeB_len c
    have := tx_len4 l
    omega
theorem small_T {x : Ex} (h : smallX x = true) : (T x.text).size ≤ 4000 := by
  have := (smallX.parts h).1
  have := tx_len4 x.text
  rw [T_size]
  omega
theorem noV_tuple (t : List Nat) : ∃ v : Int, noV 3 (typeNo t) = .tuple #[.int .i64 v, .bool (!(typeNo t).isNone)] := by
  cases typeNo t
  · exact ⟨_, rfl⟩
  · exact ⟨_, rfl⟩
set_option maxRecDepth 100000 in
set_option maxHeartbeats 8000000 in
theorem pfields_any (W0 : World) (hG : EnvG W0) : FieldsC flX W0 := by
  intro x al cc w S hb hz hx
  have ht := hx.1
  have hzt := small_T hz
  have hpa := smallX.parts hz
  clear hx hz
  obtain ⟨o, t, m, a, k, ks⟩ := x
  replace ht : okL t := ht
  replace hzt : (T t).size ≤ 4000 := hzt
  replace hpa : t.length ≤ 1000 ∧ a ≤ 1000 ∧ k ≤ 1000 := hpa
  show Calls Tryz.prog 114 #[.agg #[.int .i64 (o : Nat), .string (T t), .int .i64 0, .int .i64 m, .int .i64 (a : Nat), .int .i64 (k : Nat), .slice al ks.length cc]] w fun e w' => e = .returned (.bool (flX (.mk o t m a k ks))) ∧ Below w.heap.size w w'
  obtain ⟨W1, e1⟩ : ∃ W1, w.alloc (.cells #[.int .i64 (o : Nat), .string (T t), .int .i64 0, .int .i64 m, .int .i64 (a : Nat), .int .i64 (k : Nat), .slice al ks.length cc] 32) = W1 := ⟨_, rfl⟩
  have hb1 : Below w.heap.size w W1 := by rw [← e1]; exact (Below.refl _ _).alloc (Nat.le_refl _) _
  have hq1 : W1.heap[w.heap.size]? = some (.cells #[.int .i64 (o : Nat), .string (T t), .int .i64 0, .int .i64 m, .int .i64 (a : Nat), .int .i64 (k : Nat), .slice al ks.length cc] 32) := by rw [← e1]; exact palloc_new _ _
  have hE1 := (hG.below hb).below hb1
  have HE := hide hE1
  have HB1 := hide hb1
  have HQ1 := hide hq1
  obtain ⟨a0, a1, a2, a3, a4, a5, a6⟩ := var_cells hq1
  obtain ⟨o0, o1, o2, o3, o4, o5, o6⟩ := var_opens hq1
  have HT := hide ht
  have HZ := hide hzt
  obtain ⟨b3, e3⟩ : ∃ b, (t == []) = b := ⟨_, rfl⟩
  obtain ⟨b4, e4⟩ : ∃ b, (m == 0) = b := ⟨_, rfl⟩
  obtain ⟨b5, e5⟩ : ∃ b, (a == 0) = b := ⟨_, rfl⟩
  obtain ⟨b6, e6⟩ : ∃ b, (k == 0) = b := ⟨_, rfl⟩
  have n3 := pempty_T ht
  rw [e3] at n3
  have n5 : (((a : Nat) : Int) == 0) = b5 := by rw [← e5]; exact icast_beq a 0
  have n6 : (((k : Nat) : Int) == 0) = b6 := by rw [← e6]; exact icast_beq k 0
  generalize hq : w.heap.size = q at hq1 a0 a1 a2 a3 a4 a5 a6 o0 o1 o2 o3 o4 o5 o6 ⊢
  have HQW := hide hq
  have HB1q : Hid (Below q w W1) := hide (by have h := unhide HB1; rw [hq] at h; exact h)
  clear hb1 hq1 hE1 hb ht hzt hG
  by_cases h16 : o = 16
  · skip
    have n16 : (((o : Nat) : Int) == 16) = true := icast_eq (by omega)
    have HC := hide (xright_any 0 m W1)
    obtain ⟨b1, e7⟩ : ∃ b, rightB 0 m = b := ⟨_, rfl⟩
    obtain ⟨b2, n2⟩ : ∃ b, decide ((0 : Int) ≤ m) = b := ⟨_, rfl⟩
    have HR : Hid (flX (.mk o t m a k ks) = ((b1 && b2) && (b3 && (true && (b5 && b6))))) := hide (by
      rw [h16]
      show ((rightB 0 m && decide (0 ≤ m)) && ((t == []) && (true && ((a == 0) && (k == 0))))) = _
      rw [e7, n2, e3, e5, e6])
    rw [unhide HR]
    rw [e7] at HC
    clear HR e7 e3 e4 e5 e6
    clear h16
    cases b1 with
    | false =>
      go_enter Tryz.func114, Tryz.ntmps114
      go_wp2_with fail
      refine (unhide HC).mono ?_
      rintro e w2 ⟨rfl, hb2⟩
      have hq2 := blockK (Kq.of (S := fun _ => False) hb2) (unhide HQ1) (fun h => h)
      rw [unhide HQW] at hq2
      have HB2 : Hid (Below q w w2) := hide (by have h := Below.then (unhide HB1) hb2; rw [unhide HQW] at h; exact h)
      clear a0 a1 a2 a3 a4 a5 a6 o0 o1 o2 o3 o4 o5 o6 hb2
      obtain ⟨a0, a1, a2, a3, a4, a5, a6⟩ := var_cells hq2
      obtain ⟨o0, o1, o2, o3, o4, o5, o6⟩ := var_opens hq2
      clear hq2
      go_wp2_with fail
      go_returns
      exact ⟨by first | rfl | trivial, (by repeat first | refine Below.setCell ?_ (Nat.le_refl q) _ | exact unhide HB2 | exact unhide HB1q)⟩
    | true =>
      cases b2 with
      | false =>
        go_enter Tryz.func114, Tryz.ntmps114
        go_wp2_with fail
        refine (unhide HC).mono ?_
        rintro e w2 ⟨rfl, hb2⟩
        have hq2 := blockK (Kq.of (S := fun _ => False) hb2) (unhide HQ1) (fun h => h)
        rw [unhide HQW] at hq2
        have HB2 : Hid (Below q w w2) := hide (by have h := Below.then (unhide HB1) hb2; rw [unhide HQW] at h; exact h)
        clear a0 a1 a2 a3 a4 a5 a6 o0 o1 o2 o3 o4 o5 o6 hb2
        obtain ⟨a0, a1, a2, a3, a4, a5, a6⟩ := var_cells hq2
        obtain ⟨o0, o1, o2, o3, o4, o5, o6⟩ := var_opens hq2
        clear hq2
        go_wp2_with fail
        go_returns
        exact ⟨by first | rfl | trivial, (by repeat first | refine Below.setCell ?_ (Nat.le_refl q) _ | exact unhide HB2 | exact unhide HB1q)⟩
      | true =>
        cases b3 with
        | false =>
          go_enter Tryz.func114, Tryz.ntmps114
          go_wp2_with fail
          refine (unhide HC).mono ?_
          rintro e w2 ⟨rfl, hb2⟩
          have hq2 := blockK (Kq.of (S := fun _ => False) hb2) (unhide HQ1) (fun h => h)
          rw [unhide HQW] at hq2
          have HB2 : Hid (Below q w w2) := hide (by have h := Below.then (unhide HB1) hb2; rw [unhide HQW] at h; exact h)
          clear a0 a1 a2 a3 a4 a5 a6 o0 o1 o2 o3 o4 o5 o6 hb2
          obtain ⟨a0, a1, a2, a3, a4, a5, a6⟩ := var_cells hq2
          obtain ⟨o0, o1, o2, o3, o4, o5, o6⟩ := var_opens hq2
          clear hq2
          go_wp2_with fail
          go_returns
          exact ⟨by first | rfl | trivial, (by repeat first | refine Below.setCell ?_ (Nat.le_refl q) _ | exact unhide HB2 | exact unhide HB1q)⟩
        | true =>
          cases b5 with
          | false =>
            go_enter Tryz.func114, Tryz.ntmps114
            go_wp2_with fail
            refine (unhide HC).mono ?_
            rintro e w2 ⟨rfl, hb2⟩
            have hq2 := blockK (Kq.of (S := fun _ => False) hb2) (unhide HQ1) (fun h => h)
            rw [unhide HQW] at hq2
            have HB2 : Hid (Below q w w2) := hide (by have h := Below.then (unhide HB1) hb2; rw [unhide HQW] at h; exact h)
            clear a0 a1 a2 a3 a4 a5 a6 o0 o1 o2 o3 o4 o5 o6 hb2
            obtain ⟨a0, a1, a2, a3, a4, a5, a6⟩ := var_cells hq2
            obtain ⟨o0, o1, o2, o3, o4, o5, o6⟩ := var_opens hq2
            clear hq2
            go_wp2_with fail
            go_returns
            exact ⟨by first | rfl | trivial, (by repeat first | refine Below.setCell ?_ (Nat.le_refl q) _ | exact unhide HB2 | exact unhide HB1q)⟩
          | true =>
            cases b6 with
            | false =>
              go_enter Tryz.func114, Tryz.ntmps114
              go_wp2_with fail
              refine (unhide HC).mono ?_
              rintro e w2 ⟨rfl, hb2⟩
              have hq2 := blockK (Kq.of (S := fun _ => False) hb2) (unhide HQ1) (fun h => h)
              rw [unhide HQW] at hq2
              have HB2 : Hid (Below q w w2) := hide (by have h := Below.then (unhide HB1) hb2; rw [unhide HQW] at h; exact h)
              clear a0 a1 a2 a3 a4 a5 a6 o0 o1 o2 o3 o4 o5 o6 hb2
              obtain ⟨a0, a1, a2, a3, a4, a5, a6⟩ := var_cells hq2
              obtain ⟨o0, o1, o2, o3, o4, o5, o6⟩ := var_opens hq2
              clear hq2
              go_wp2_with fail
              go_returns
              exact ⟨by first | rfl | trivial, (by repeat first | refine Below.setCell ?_ (Nat.le_refl q) _ | exact unhide HB2 | exact unhide HB1q)⟩
            | true =>
              go_enter Tryz.func114, Tryz.ntmps114
              go_wp2_with fail
              refine (unhide HC).mono ?_
              rintro e w2 ⟨rfl, hb2⟩
              have hq2 := blockK (Kq.of (S := fun _ => False) hb2) (unhide HQ1) (fun h => h)
              rw [unhide HQW] at hq2
              have HB2 : Hid (Below q w w2) := hide (by have h := Below.then (unhide HB1) hb2; rw [unhide HQW] at h; exact h)
              clear a0 a1 a2 a3 a4 a5 a6 o0 o1 o2 o3 o4 o5 o6 hb2
              obtain ⟨a0, a1, a2, a3, a4, a5, a6⟩ := var_cells hq2
              obtain ⟨o0, o1, o2, o3, o4, o5, o6⟩ := var_opens hq2
              clear hq2
              go_wp2_with fail
              go_returns
              exact ⟨by first | rfl | trivial, (by repeat first | refine Below.setCell ?_ (Nat.le_refl q) _ | exact unhide HB2 | exact unhide HB1q)⟩
  by_cases h17 : o = 17
  · skip
    have n16 : (((o : Nat) : Int) == 16) = false := icast_ne (by omega)
    have n17 : (((o : Nat) : Int) == 17) = true := icast_eq (by omega)
    have ht0 := unhide HT
    have hz0 := unhide HZ
    have HC := hide (pisLiteral_any t W1 ht0 hz0)
    obtain ⟨b1, e7⟩ : ∃ b, litX t = b := ⟨_, rfl⟩
    have HR : Hid (flX (.mk o t m a k ks) = (b1 && (true && (b4 && (b5 && b6))))) := hide (by
      rw [h17]
      show (litX t && (true && ((m == 0) && ((a == 0) && (k == 0))))) = _
      rw [e7, e4, e5, e6])
    rw [unhide HR]
    rw [e7] at HC
    clear HR e7 e3 e5 e6 n3 ht0 hz0
    clear h16 h17
    cases b1 with
    | false =>
      go_enter Tryz.func114, Tryz.ntmps114
      go_wp2_with fail
      refine (unhide HC).mono ?_
      rintro e w2 ⟨rfl, hb2⟩
      have hq2 := blockK (Kq.of (S := fun _ => False) hb2) (unhide HQ1) (fun h => h)
      rw [unhide HQW] at hq2
      have HB2 : Hid (Below q w w2) := hide (by have h := Below.then (unhide HB1) hb2; rw [unhide HQW] at h; exact h)
      clear a0 a1 a2 a3 a4 a5 a6 o0 o1 o2 o3 o4 o5 o6 hb2
      obtain ⟨a0, a1, a2, a3, a4, a5, a6⟩ := var_cells hq2
      obtain ⟨o0, o1, o2, o3, o4, o5, o6⟩ := var_opens hq2
      clear hq2
      go_wp2_with fail
      go_returns
      exact ⟨by first | rfl | trivial, (by repeat first | refine Below.setCell ?_ (Nat.le_refl q) _ | exact unhide HB2 | exact unhide HB1q)⟩
    | true =>
      cases b4 with
      | false =>
        go_enter Tryz.func114, Tryz.ntmps114
        go_wp2_with fail
        refine (unhide HC).mono ?_
        rintro e w2 ⟨rfl, hb2⟩
        have hq2 := blockK (Kq.of (S := fun _ => False) hb2) (unhide HQ1) (fun h => h)
        rw [unhide HQW] at hq2
        have HB2 : Hid (Below q w w2) := hide (by have h := Below.then (unhide HB1) hb2; rw [unhide HQW] at h; exact h)
        clear a0 a1 a2 a3 a4 a5 a6 o0 o1 o2 o3 o4 o5 o6 hb2
        obtain ⟨a0, a1, a2, a3, a4, a5, a6⟩ := var_cells hq2
        obtain ⟨o0, o1, o2, o3, o4, o5, o6⟩ := var_opens hq2
        clear hq2
        go_wp2_with fail
        go_returns
        exact ⟨by first | rfl | trivial, (by repeat first | refine Below.setCell ?_ (Nat.le_refl q) _ | exact unhide HB2 | exact unhide HB1q)⟩
      | true =>
        cases b5 with
        | false =>
          go_enter Tryz.func114, Tryz.ntmps114
          go_wp2_with fail
          refine (unhide HC).mono ?_
          rintro e w2 ⟨rfl, hb2⟩
          have hq2 := blockK (Kq.of (S := fun _ => False) hb2) (unhide HQ1) (fun h => h)
          rw [unhide HQW] at hq2
          have HB2 : Hid (Below q w w2) := hide (by have h := Below.then (unhide HB1) hb2; rw [unhide HQW] at h; exact h)
          clear a0 a1 a2 a3 a4 a5 a6 o0 o1 o2 o3 o4 o5 o6 hb2
          obtain ⟨a0, a1, a2, a3, a4, a5, a6⟩ := var_cells hq2
          obtain ⟨o0, o1, o2, o3, o4, o5, o6⟩ := var_opens hq2
          clear hq2
          go_wp2_with fail
          go_returns
          exact ⟨by first | rfl | trivial, (by repeat first | refine Below.setCell ?_ (Nat.le_refl q) _ | exact unhide HB2 | exact unhide HB1q)⟩
        | true =>
          cases b6 with
          | false =>
            go_enter Tryz.func114, Tryz.ntmps114
            go_wp2_with fail
            refine (unhide HC).mono ?_
            rintro e w2 ⟨rfl, hb2⟩
            have hq2 := blockK (Kq.of (S := fun _ => False) hb2) (unhide HQ1) (fun h => h)
            rw [unhide HQW] at hq2
            have HB2 : Hid (Below q w w2) := hide (by have h := Below.then (unhide HB1) hb2; rw [unhide HQW] at h; exact h)
            clear a0 a1 a2 a3 a4 a5 a6 o0 o1 o2 o3 o4 o5 o6 hb2
            obtain ⟨a0, a1, a2, a3, a4, a5, a6⟩ := var_cells hq2
            obtain ⟨o0, o1, o2, o3, o4, o5, o6⟩ := var_opens hq2
            clear hq2
            go_wp2_with fail
            go_returns
            exact ⟨by first | rfl | trivial, (by repeat first | refine Below.setCell ?_ (Nat.le_refl q) _ | exact unhide HB2 | exact unhide HB1q)⟩
          | true =>
            go_enter Tryz.func114, Tryz.ntmps114
            go_wp2_with fail
            refine (unhide HC).mono ?_
            rintro e w2 ⟨rfl, hb2⟩
            have hq2 := blockK (Kq.of (S := fun _ => False) hb2) (unhide HQ1) (fun h => h)
            rw [unhide HQW] at hq2
            have HB2 : Hid (Below q w w2) := hide (by have h := Below.then (unhide HB1) hb2; rw [unhide HQW] at h; exact h)
            clear a0 a1 a2 a3 a4 a5 a6 o0 o1 o2 o3 o4 o5 o6 hb2
            obtain ⟨a0, a1, a2, a3, a4, a5, a6⟩ := var_cells hq2
            obtain ⟨o0, o1, o2, o3, o4, o5, o6⟩ := var_opens hq2
            clear hq2
            go_wp2_with fail
            go_returns
            exact ⟨by first | rfl | trivial, (by repeat first | refine Below.setCell ?_ (Nat.le_refl q) _ | exact unhide HB2 | exact unhide HB1q)⟩
  by_cases h18 : o = 18
  · skip
    have n16 : (((o : Nat) : Int) == 16) = false := icast_ne (by omega)
    have n17 : (((o : Nat) : Int) == 17) = false := icast_ne (by omega)
    have n18 : (((o : Nat) : Int) == 18) = true := icast_eq (by omega)
    have ht0 := unhide HT
    have hz0 := unhide HZ
    have HC := hide (pisQName_any t W1 ht0 hz0 (unhide HE).lex.env)
    obtain ⟨b1, e7⟩ : ∃ b, isQ t = b := ⟨_, rfl⟩
    have HR : Hid (flX (.mk o t m a k ks) = (b1 && (true && (b4 && (b5 && b6))))) := hide (by
      rw [h18]
      show (isQ t && (true && ((m == 0) && ((a == 0) && (k == 0))))) = _
      rw [e7, e4, e5, e6])
    rw [unhide HR]
    rw [e7] at HC
    clear HR e7 e3 e5 e6 n3 ht0 hz0
    clear h16 h17 h18
    cases b1 with
    | false =>
      go_enter Tryz.func114, Tryz.ntmps114
      go_wp2_with fail
      refine (unhide HC).mono ?_
      rintro e w2 ⟨rfl, hb2⟩
      have hq2 := blockK (Kq.of (S := fun _ => False) hb2) (unhide HQ1) (fun h => h)
      rw [unhide HQW] at hq2
      have HB2 : Hid (Below q w w2) := hide (by have h := Below.then (unhide HB1) hb2; rw [unhide HQW] at h; exact h)
      clear a0 a1 a2 a3 a4 a5 a6 o0 o1 o2 o3 o4 o5 o6 hb2
      obtain ⟨a0, a1, a2, a3, a4, a5, a6⟩ := var_cells hq2
      obtain ⟨o0, o1, o2, o3, o4, o5, o6⟩ := var_opens hq2
      clear hq2
      go_wp2_with fail
      go_returns
      exact ⟨by first | rfl | trivial, (by repeat first | refine Below.setCell ?_ (Nat.le_refl q) _ | exact unhide HB2 | exact unhide HB1q)⟩
    | true =>
      cases b4 with
      | false =>
        go_enter Tryz.func114, Tryz.ntmps114
        go_wp2_with fail
        refine (unhide HC).mono ?_
        rintro e w2 ⟨rfl, hb2⟩
        have hq2 := blockK (Kq.of (S := fun _ => False) hb2) (unhide HQ1) (fun h => h)
        rw [unhide HQW] at hq2
        have HB2 : Hid (Below q w w2) := hide (by have h := Below.then (unhide HB1) hb2; rw [unhide HQW] at h; exact h)
        clear a0 a1 a2 a3 a4 a5 a6 o0 o1 o2 o3 o4 o5 o6 hb2
        obtain ⟨a0, a1, a2, a3, a4, a5, a6⟩ := var_cells hq2
        obtain ⟨o0, o1, o2, o3, o4, o5, o6⟩ := var_opens hq2
        clear hq2
        go_wp2_with fail
        go_returns
        exact ⟨by first | rfl | trivial, (by repeat first | refine Below.setCell ?_ (Nat.le_refl q) _ | exact unhide HB2 | exact unhide HB1q)⟩
      | true =>
        cases b5 with
        | false =>
          go_enter Tryz.func114, Tryz.ntmps114
          go_wp2_with fail
          refine (unhide HC).mono ?_
          rintro e w2 ⟨rfl, hb2⟩
          have hq2 := blockK (Kq.of (S := fun _ => False) hb2) (unhide HQ1) (fun h => h)
          rw [unhide HQW] at hq2
          have HB2 : Hid (Below q w w2) := hide (by have h := Below.then (unhide HB1) hb2; rw [unhide HQW] at h; exact h)
          clear a0 a1 a2 a3 a4 a5 a6 o0 o1 o2 o3 o4 o5 o6 hb2
          obtain ⟨a0, a1, a2, a3, a4, a5, a6⟩ := var_cells hq2
          obtain ⟨o0, o1, o2, o3, o4, o5, o6⟩ := var_opens hq2
          clear hq2
          go_wp2_with fail
          go_returns
          exact ⟨by first | rfl | trivial, (by repeat first | refine Below.setCell ?_ (Nat.le_refl q) _ | exact unhide HB2 | exact unhide HB1q)⟩
        | true =>
          cases b6 with
          | false =>
            go_enter Tryz.func114, Tryz.ntmps114
            go_wp2_with fail
            refine (unhide HC).mono ?_
            rintro e w2 ⟨rfl, hb2⟩
            have hq2 := blockK (Kq.of (S := fun _ => False) hb2) (unhide HQ1) (fun h => h)
            rw [unhide HQW] at hq2
            have HB2 : Hid (Below q w w2) := hide (by have h := Below.then (unhide HB1) hb2; rw [unhide HQW] at h; exact h)
            clear a0 a1 a2 a3 a4 a5 a6 o0 o1 o2 o3 o4 o5 o6 hb2
            obtain ⟨a0, a1, a2, a3, a4, a5, a6⟩ := var_cells hq2
            obtain ⟨o0, o1, o2, o3, o4, o5, o6⟩ := var_opens hq2
            clear hq2
            go_wp2_with fail
            go_returns
            exact ⟨by first | rfl | trivial, (by repeat first | refine Below.setCell ?_ (Nat.le_refl q) _ | exact unhide HB2 | exact unhide HB1q)⟩
          | true =>
            go_enter Tryz.func114, Tryz.ntmps114
            go_wp2_with fail
            refine (unhide HC).mono ?_
            rintro e w2 ⟨rfl, hb2⟩
            have hq2 := blockK (Kq.of (S := fun _ => False) hb2) (unhide HQ1) (fun h => h)
            rw [unhide HQW] at hq2
            have HB2 : Hid (Below q w w2) := hide (by have h := Below.then (unhide HB1) hb2; rw [unhide HQW] at h; exact h)
            clear a0 a1 a2 a3 a4 a5 a6 o0 o1 o2 o3 o4 o5 o6 hb2
            obtain ⟨a0, a1, a2, a3, a4, a5, a6⟩ := var_cells hq2
            obtain ⟨o0, o1, o2, o3, o4, o5, o6⟩ := var_opens hq2
            clear hq2
            go_wp2_with fail
            go_returns
            exact ⟨by first | rfl | trivial, (by repeat first | refine Below.setCell ?_ (Nat.le_refl q) _ | exact unhide HB2 | exact unhide HB1q)⟩
  by_cases h19 : o = 19
  · skip
    have n16 : (((o : Nat) : Int) == 16) = false := icast_ne (by omega)
    have n17 : (((o : Nat) : Int) == 17) = false := icast_ne (by omega)
    have n18 : (((o : Nat) : Int) == 18) = false := icast_ne (by omega)
    have n19 : (((o : Nat) : Int) == 19) = true := icast_eq (by omega)
    have ht0 := unhide HT
    have hz0 := unhide HZ
    have hT := ptypeOf_any t W1 ht0 (unhide HE)
    obtain ⟨v, ev⟩ := noV_tuple t
    rw [ev] at hT
    have HC := hide (pisQName_any t W1 ht0 hz0 (unhide HE).lex.env)
    obtain ⟨b1, e7⟩ : ∃ b, isQ t = b := ⟨_, rfl⟩
    obtain ⟨b2, e8⟩ : ∃ b, (typeNo t).isNone = b := ⟨_, rfl⟩
    rw [e8] at hT
    have HTY := hide hT
    have HR : Hid (flX (.mk o t m a k ks) = ((b1 && b2) && (true && (b4 && (b5 && b6))))) := hide (by
      rw [h19]
      show ((isQ t && (typeNo t).isNone) && (true && ((m == 0) && ((a == 0) && (k == 0))))) = _
      rw [e7, e8, e4, e5, e6])
    rw [unhide HR]
    rw [e7] at HC
    clear HR e7 e8 e3 e5 e6 n3 ht0 hz0 hT ev
    clear h16 h17 h18 h19
    cases b1 with
    | false =>
      go_enter Tryz.func114, Tryz.ntmps114
      go_wp2_with fail
      refine (unhide HTY).mono ?_
      rintro e w1 ⟨rfl, rfl⟩
      go_wp2_with fail
      refine (unhide HC).mono ?_
      rintro e w2 ⟨rfl, hb2⟩
      have hq2 := blockK (Kq.of (S := fun _ => False) hb2) (unhide HQ1) (fun h => h)
      rw [unhide HQW] at hq2
      have HB2 : Hid (Below q w w2) := hide (by have h := Below.then (unhide HB1) hb2; rw [unhide HQW] at h; exact h)
      clear a0 a1 a2 a3 a4 a5 a6 o0 o1 o2 o3 o4 o5 o6 hb2
      obtain ⟨a0, a1, a2, a3, a4, a5, a6⟩ := var_cells hq2
      obtain ⟨o0, o1, o2, o3, o4, o5, o6⟩ := var_opens hq2
      clear hq2
      go_wp2_with fail
      go_returns
      exact ⟨by first | rfl | trivial, (by repeat first | refine Below.setCell ?_ (Nat.le_refl q) _ | exact unhide HB2 | exact unhide HB1q)⟩
    | true =>
      cases b2 with
      | false =>
        go_enter Tryz.func114, Tryz.ntmps114
        go_wp2_with fail
        refine (unhide HTY).mono ?_
        rintro e w1 ⟨rfl, rfl⟩
        go_wp2_with fail
        refine (unhide HC).mono ?_
        rintro e w2 ⟨rfl, hb2⟩
        have hq2 := blockK (Kq.of (S := fun _ => False) hb2) (unhide HQ1) (fun h => h)
        rw [unhide HQW] at hq2
        have HB2 : Hid (Below q w w2) := hide (by have h := Below.then (unhide HB1) hb2; rw [unhide HQW] at h; exact h)
        clear a0 a1 a2 a3 a4 a5 a6 o0 o1 o2 o3 o4 o5 o6 hb2
        obtain ⟨a0, a1, a2, a3, a4, a5, a6⟩ := var_cells hq2
        obtain ⟨o0, o1, o2, o3, o4, o5, o6⟩ := var_opens hq2
        clear hq2
        go_wp2_with fail
        go_returns
        exact ⟨by first | rfl | trivial, (by repeat first | refine Below.setCell ?_ (Nat.le_refl q) _ | exact unhide HB2 | exact unhide HB1q)⟩
      | true =>
        cases b4 with
        | false =>
          go_enter Tryz.func114, Tryz.ntmps114
          go_wp2_with fail
          refine (unhide HTY).mono ?_
          rintro e w1 ⟨rfl, rfl⟩
          go_wp2_with fail
          refine (unhide HC).mono ?_
          rintro e w2 ⟨rfl, hb2⟩
          have hq2 := blockK (Kq.of (S := fun _ => False) hb2) (unhide HQ1) (fun h => h)
          rw [unhide HQW] at hq2
          have HB2 : Hid (Below q w w2) := hide (by have h := Below.then (unhide HB1) hb2; rw [unhide HQW] at h; exact h)
          clear a0 a1 a2 a3 a4 a5 a6 o0 o1 o2 o3 o4 o5 o6 hb2
          obtain ⟨a0, a1, a2, a3, a4, a5, a6⟩ := var_cells hq2
          obtain ⟨o0, o1, o2, o3, o4, o5, o6⟩ := var_opens hq2
          clear hq2
          go_wp2_with fail
          go_returns
          exact ⟨by first | rfl | trivial, (by repeat first | refine Below.setCell ?_ (Nat.le_refl q) _ | exact unhide HB2 | exact unhide HB1q)⟩
        | true =>
          cases b5 with
          | false =>
            go_enter Tryz.func114, Tryz.ntmps114
            go_wp2_with fail
            refine (unhide HTY).mono ?_
            rintro e w1 ⟨rfl, rfl⟩
            go_wp2_with fail
            refine (unhide HC).mono ?_
            rintro e w2 ⟨rfl, hb2⟩
            have hq2 := blockK (Kq.of (S := fun _ => False) hb2) (unhide HQ1) (fun h => h)
            rw [unhide HQW] at hq2
            have HB2 : Hid (Below q w w2) := hide (by have h := Below.then (unhide HB1) hb2; rw [unhide HQW] at h; exact h)
            clear a0 a1 a2 a3 a4 a5 a6 o0 o1 o2 o3 o4 o5 o6 hb2
            obtain ⟨a0, a1, a2, a3, a4, a5, a6⟩ := var_cells hq2
            obtain ⟨o0, o1, o2, o3, o4, o5, o6⟩ := var_opens hq2
            clear hq2
            go_wp2_with fail
            go_returns
            exact ⟨by first | rfl | trivial, (by repeat first | refine Below.setCell ?_ (Nat.le_refl q) _ | exact unhide HB2 | exact unhide HB1q)⟩
          | true =>
            cases b6 with
            | false =>
              go_enter Tryz.func114, Tryz.ntmps114
              go_wp2_with fail
              refine (unhide HTY).mono ?_
              rintro e w1 ⟨rfl, rfl⟩
              go_wp2_with fail
              refine (unhide HC).mono ?_
              rintro e w2 ⟨rfl, hb2⟩
              have hq2 := blockK (Kq.of (S := fun _ => False) hb2) (unhide HQ1) (fun h => h)
              rw [unhide HQW] at hq2
              have HB2 : Hid (Below q w w2) := hide (by have h := Below.then (unhide HB1) hb2; rw [unhide HQW] at h; exact h)
              clear a0 a1 a2 a3 a4 a5 a6 o0 o1 o2 o3 o4 o5 o6 hb2
              obtain ⟨a0, a1, a2, a3, a4, a5, a6⟩ := var_cells hq2
              obtain ⟨o0, o1, o2, o3, o4, o5, o6⟩ := var_opens hq2
              clear hq2
              go_wp2_with fail
              go_returns
              exact ⟨by first | rfl | trivial, (by repeat first | refine Below.setCell ?_ (Nat.le_refl q) _ | exact unhide HB2 | exact unhide HB1q)⟩
            | true =>
              go_enter Tryz.func114, Tryz.ntmps114
              go_wp2_with fail
              refine (unhide HTY).mono ?_
              rintro e w1 ⟨rfl, rfl⟩
              go_wp2_with fail
              refine (unhide HC).mono ?_
              rintro e w2 ⟨rfl, hb2⟩
              have hq2 := blockK (Kq.of (S := fun _ => False) hb2) (unhide HQ1) (fun h => h)
              rw [unhide HQW] at hq2
              have HB2 : Hid (Below q w w2) := hide (by have h := Below.then (unhide HB1) hb2; rw [unhide HQW] at h; exact h)
              clear a0 a1 a2 a3 a4 a5 a6 o0 o1 o2 o3 o4 o5 o6 hb2
              obtain ⟨a0, a1, a2, a3, a4, a5, a6⟩ := var_cells hq2
              obtain ⟨o0, o1, o2, o3, o4, o5, o6⟩ := var_opens hq2
              clear hq2
              go_wp2_with fail
              go_returns
              exact ⟨by first | rfl | trivial, (by repeat first | refine Below.setCell ?_ (Nat.le_refl q) _ | exact unhide HB2 | exact unhide HB1q)⟩
  by_cases h23 : o = 23
  · skip
    have n16 : (((o : Nat) : Int) == 16) = false := icast_ne (by omega)
    have n17 : (((o : Nat) : Int) == 17) = false := icast_ne (by omega)
    have n18 : (((o : Nat) : Int) == 18) = false := icast_ne (by omega)
    have n19 : (((o : Nat) : Int) == 19) = false := icast_ne (by omega)
    have n23 : (((o : Nat) : Int) == 23) = true := icast_eq (by omega)
    have ht0 := unhide HT
    have hz0 := unhide HZ
    have n0 : decide ((0 : Int) ≤ ((a : Nat) : Int)) = true := decide_eq_true (by omega)
    obtain ⟨b1, e7⟩ : ∃ b, decide (a < 12) = b := ⟨_, rfl⟩
    have n1 : decide (((a : Nat) : Int) < 12) = b1 := by
      rw [← e7, decide_eq_decide]
      omega
    have HC := hide (prightTest_any k t W1 ht0 hz0 (unhide HE).lex.env)
    obtain ⟨b2, e8⟩ : ∃ b, testX k t = b := ⟨_, rfl⟩
    have HR : Hid (flX (.mk o t m a k ks) = ((b1 && b2) && (true && (b4 && (true && true))))) := hide (by
      rw [h23]
      show ((decide (a < 12) && testX k t) && (true && ((m == 0) && (true && true)))) = _
      rw [e7, e8, e4])
    rw [unhide HR]
    rw [e8] at HC
    clear HR e7 e8 e3 e5 e6 n3 n5 n6 ht0 hz0
    clear h16 h17 h18 h19 h23
    cases b1 with
    | false =>
      go_enter Tryz.func114, Tryz.ntmps114
      go_wp2_with fail
      go_returns
      exact ⟨by first | rfl | trivial, (by repeat first | refine Below.setCell ?_ (Nat.le_refl q) _ | exact unhide HB2 | exact unhide HB1q)⟩
    | true =>
      cases b2 with
      | false =>
        go_enter Tryz.func114, Tryz.ntmps114
        go_wp2_with fail
        refine (unhide HC).mono ?_
        rintro e w2 ⟨rfl, hb2⟩
        have hq2 := blockK (Kq.of (S := fun _ => False) hb2) (unhide HQ1) (fun h => h)
        rw [unhide HQW] at hq2
        have HB2 : Hid (Below q w w2) := hide (by have h := Below.then (unhide HB1) hb2; rw [unhide HQW] at h; exact h)
        clear a0 a1 a2 a3 a4 a5 a6 o0 o1 o2 o3 o4 o5 o6 hb2
        obtain ⟨a0, a1, a2, a3, a4, a5, a6⟩ := var_cells hq2
        obtain ⟨o0, o1, o2, o3, o4, o5, o6⟩ := var_opens hq2
        clear hq2
        go_wp2_with fail
        go_returns
        exact ⟨by first | rfl | trivial, (by repeat first | refine Below.setCell ?_ (Nat.le_refl q) _ | exact unhide HB2 | exact unhide HB1q)⟩
      | true =>
        cases b4 with
        | false =>
          go_enter Tryz.func114, Tryz.ntmps114
          go_wp2_with fail
          refine (unhide HC).mono ?_
          rintro e w2 ⟨rfl, hb2⟩
          have hq2 := blockK (Kq.of (S := fun _ => False) hb2) (unhide HQ1) (fun h => h)
          rw [unhide HQW] at hq2
          have HB2 : Hid (Below q w w2) := hide (by have h := Below.then (unhide HB1) hb2; rw [unhide HQW] at h; exact h)
          clear a0 a1 a2 a3 a4 a5 a6 o0 o1 o2 o3 o4 o5 o6 hb2
          obtain ⟨a0, a1, a2, a3, a4, a5, a6⟩ := var_cells hq2
          obtain ⟨o0, o1, o2, o3, o4, o5, o6⟩ := var_opens hq2
          clear hq2
          go_wp2_with fail
          go_returns
          exact ⟨by first | rfl | trivial, (by repeat first | refine Below.setCell ?_ (Nat.le_refl q) _ | exact unhide HB2 | exact unhide HB1q)⟩
        | true =>
          go_enter Tryz.func114, Tryz.ntmps114
          go_wp2_with fail
          refine (unhide HC).mono ?_
          rintro e w2 ⟨rfl, hb2⟩
          have hq2 := blockK (Kq.of (S := fun _ => False) hb2) (unhide HQ1) (fun h => h)
          rw [unhide HQW] at hq2
          have HB2 : Hid (Below q w w2) := hide (by have h := Below.then (unhide HB1) hb2; rw [unhide HQW] at h; exact h)
          clear a0 a1 a2 a3 a4 a5 a6 o0 o1 o2 o3 o4 o5 o6 hb2
          obtain ⟨a0, a1, a2, a3, a4, a5, a6⟩ := var_cells hq2
          obtain ⟨o0, o1, o2, o3, o4, o5, o6⟩ := var_opens hq2
          clear hq2
          go_wp2_with fail
          go_returns
          exact ⟨by first | rfl | trivial, (by repeat first | refine Below.setCell ?_ (Nat.le_refl q) _ | exact unhide HB2 | exact unhide HB1q)⟩
  have n16 : (((o : Nat) : Int) == 16) = false := icast_ne (by omega)
  have n17 : (((o : Nat) : Int) == 17) = false := icast_ne (by omega)
  have n18 : (((o : Nat) : Int) == 18) = false := icast_ne (by omega)
  have n19 : (((o : Nat) : Int) == 19) = false := icast_ne (by omega)
  have n23 : (((o : Nat) : Int) == 23) = false := icast_ne (by omega)
  have HR : Hid (flX (.mk o t m a k ks) = (b3 && (b4 && (b5 && b6)))) := hide (by
    have e9 : flX (.mk o t m a k ks) = ((t == []) && ((m == 0) && ((a == 0) && (k == 0)))) := by
      unfold flX
      show (if o = 16 then _ else if o = 17 then _ else if o = 18 then _ else if o = 19 then _ else if o = 23 then _ else _) = _
      rw [if_neg h16, if_neg h17, if_neg h18, if_neg h19, if_neg h23]
      rfl
    rw [e9, e3, e4, e5, e6])
  rw [unhide HR]
  clear HR e3 e5 e6 h16 h17 h18 h19 h23
  cases b3 with
  | false =>
    go_enter Tryz.func114, Tryz.ntmps114
    go_wp2_with fail
    go_returns
    exact ⟨by first | rfl | trivial, (by repeat first | refine Below.setCell ?_ (Nat.le_refl q) _ | exact unhide HB2 | exact unhide HB1q)⟩
  | true =>
    cases b4 with
    | false =>
      go_enter Tryz.func114, Tryz.ntmps114
      go_wp2_with fail
      go_returns
      exact ⟨by first | rfl | trivial, (by repeat first | refine Below.setCell ?_ (Nat.le_refl q) _ | exact unhide HB2 | exact unhide HB1q)⟩
    | true =>
      cases b5 with
      | false =>
        go_enter Tryz.func114, Tryz.ntmps114
        go_wp2_with fail
        go_returns
        exact ⟨by first | rfl | trivial, (by repeat first | refine Below.setCell ?_ (Nat.le_refl q) _ | exact unhide HB2 | exact unhide HB1q)⟩
      | true =>
        cases b6 with
        | false =>
          go_enter Tryz.func114, Tryz.ntmps114
          go_wp2_with fail
          go_returns
          exact ⟨by first | rfl | trivial, (by repeat first | refine Below.setCell ?_ (Nat.le_refl q) _ | exact unhide HB2 | exact unhide HB1q)⟩
        | true =>
          go_enter Tryz.func114, Tryz.ntmps114
          go_wp2_with fail
          go_returns
          exact ⟨by first | rfl | trivial, (by repeat first | refine Below.setCell ?_ (Nat.le_refl q) _ | exact unhide HB2 | exact unhide HB1q)⟩
end Go.Proofs.YthkkfldmoflfaaaGreatDoor
