/- Several texts, laid as one. -/
import Derived.Test.YthkkfldmoflfaaaGreatDoorParA
import Derived.Test.YthkkfldmoflfaaaGreatDoorGaa
/- A name that ends with :*, and a step's test: xparse's test. -/
namespace Go.Proofs.YthkkfldmoflfaaaGreatDoor
open Go.RowKit
theorem suf_two {α : Type} [BEq α] (a b y : α) (x : List α) : [a, b].isSuffixOf (x ++ [y]) = (b == y && [a].isSuffixOf x) := by
  simp [List.isSuffixOf, List.isPrefixOf]
theorem suf_one {α : Type} [BEq α] (a y : α) (x : List α) : [a].isSuffixOf (x ++ [y]) = (a == y) := by
  simp [List.isSuffixOf, List.isPrefixOf]
theorem snoc_cases {α : Type} (l : List α) : l = [] ∨ ∃ x y, l = x ++ [y] := by
  rcases List.eq_nil_or_concat l with h | ⟨x, y, h⟩
  · exact .inl h
  · exact .inr ⟨x, y, by rw [h, List.concat_eq_append]⟩
theorem tx_last (r : List Nat) (c : Nat) (h : okL (r ++ [c])) (q : Nat) (hq : q < 128) : ∃ x y, tx (r ++ [c]) = x ++ [y] ∧ (UInt8.ofNat q == y) = (q == c) ∧ (c < 128 → x = tx r) := by
  have hc : charR (c : Int) = true := h c (by simp)
  rw [tx_append]
  by_cases hc1 : c < 128
  · refine ⟨tx r, UInt8.ofNat c, ?_, ?_, fun _ => rfl⟩
    · rw [tx_cons, tx_nil, List.append_nil, runeB_one hc1]
    · rw [Bool.eq_iff_iff, beq_iff_eq, beq_iff_eq]
      constructor
      · intro e
        have := congrArg UInt8.toNat e
        simp at this
        omega
      · rintro rfl
        rfl
  · have hl := runeB_pos hc
    rcases snoc_cases (runeB c) with e | ⟨x, y, e⟩
    · rw [e] at hl
      simp at hl
    · refine ⟨tx r ++ x, y, by rw [tx_cons, tx_nil, List.append_nil, e, List.append_assoc], ?_, fun h => absurd h hc1⟩
      have hy := runeB_high (charR_ok hc) (by omega) y (by rw [e]; simp)
      rw [Bool.eq_iff_iff, beq_iff_eq, beq_iff_eq]
      constructor
      · intro e2
        have := congrArg UInt8.toNat e2
        simp at this
        omega
      · omega
theorem tx_suf1 (q : Nat) (hq : q < 128) (r : List Nat) (h : okL r) : [UInt8.ofNat q].isSuffixOf (tx r) = [q].isSuffixOf r := by
  rcases snoc_cases r with rfl | ⟨x, y, rfl⟩
  · rfl
  · obtain ⟨x', y', e, e2, _⟩ := tx_last x y h q hq
    rw [e, suf_one, suf_one, e2]
theorem tx_suf2 (q p : Nat) (hq : q < 128) (hp : p < 128) (r : List Nat) (h : okL r) : [UInt8.ofNat q, UInt8.ofNat p].isSuffixOf (tx r) = [q, p].isSuffixOf r := by
  rcases snoc_cases r with rfl | ⟨x, y, rfl⟩
  · rfl
  · obtain ⟨x', y', e, e2, e3⟩ := tx_last x y h p hp
    rw [e, suf_two, suf_two, e2]
    by_cases hy : p = y
    · subst hy
      rw [e3 hp, tx_suf1 q hq x (okL_left h)]
    · have : (p == y) = false := beq_false_of_ne hy
      rw [this, Bool.false_and, Bool.false_and]
theorem allSuf_cut {t : List Nat} (ht : okL t) : Lib.hasSuffix (T t).data.toList [58, 42] = allSuf t ∧ (allSuf t = true → (⟨(Lib.trimSuffix (T t).data.toList [58, 42]).toArray⟩ : ByteArray) = T t.dropLast.dropLast) ∧ okL t.dropLast.dropLast := by
  have h1 : Lib.hasSuffix (T t).data.toList [58, 42] = allSuf t := by
    rw [T_data]
    exact tx_suf2 58 42 (by decide) (by decide) t ht
  refine ⟨h1, fun h => ?_, fun c hc => ht c ((List.dropLast_sublist _).subset ((List.dropLast_sublist _).subset hc))⟩
  have hs : Lib.hasSuffix (T t).data.toList [58, 42] = true := by rw [h1]; exact h
  unfold Lib.trimSuffix
  rw [if_pos hs, T_data]
  unfold allSuf at h
  obtain ⟨x, rfl⟩ : ∃ x, t = x ++ [58, 42] := by
    have := List.isSuffixOf_iff_suffix.1 h
    obtain ⟨x, e⟩ := this
    exact ⟨x, e.symm⟩
  have e1 : (x ++ [58, 42]).dropLast.dropLast = x := by
    rw [show x ++ [58, 42] = (x ++ [58]) ++ [42] by simp, List.dropLast_concat, List.dropLast_concat]
  rw [e1, tx_append]
  have e2 : tx [58, 42] = [58, 42] := by decide
  rw [e2]
  unfold T
  simp
set_option maxRecDepth 100000 in
set_option maxHeartbeats 4000000 in
theorem ptest_any (p : Nat) (s : PS) (w : World) (h : PV w p s) (hp : ∀ w', Kq (fun j => j = p) w w' → EnvG w') :
    Calls Tryz.prog 111 #[.pointer (some ⟨p, 0, none⟩)] w fun e w' => outT p w (testP s) e w' := by
  have HV0 := hide h
  have HK0 := hide (Kq.refl (fun j => j = p) w)
  have HP := hide hp
  have hh := h
  clear h hp
  cases h2 : seesK 3 s with
  | false =>
    have e0 : testP s = typeP s := by unfold testP; rw [h2]; rfl
    rw [e0]
    clear e0
    cases ht : typeP s with
    | none =>
      go_enter Tryz.func111, Tryz.ntmps111
      go_wp2_with fail
      refine (ptakeAny_no (k := 3) (unhide HV0) h2).mono ?_
      rintro e w1 ⟨rfl, r1, r2⟩
      have HV1 : Hid (PV w1 p s) := hide r1
      have HK1 := hide ((unhide HK0).andThen r2 (fun _ _ h => h))
      clear r1 r2
      have htt := ptypeTest_any p s w1 (unhide HV1) (fun w' hk => unhide HP w' ((unhide HK1).andThen hk (fun _ _ h => h)))
      rw [ht] at htt
      have HTT := hide htt
      clear htt
      go_wp2_with fail
      refine (unhide HTT).mono ?_
      rintro e w2 ⟨rfl, r2⟩
      have HK2 := hide ((unhide HK1).andThen r2 (fun _ _ h => h))
      clear r2 HTT
      go_wp2_with fail
      exact ⟨rfl, rfl, unhide HK2⟩
    | some x =>
      obtain ⟨a, t, s2⟩ := x
      go_enter Tryz.func111, Tryz.ntmps111
      go_wp2_with fail
      refine (ptakeAny_no (k := 3) (unhide HV0) h2).mono ?_
      rintro e w1 ⟨rfl, r1, r2⟩
      have HV1 : Hid (PV w1 p s) := hide r1
      have HK1 := hide ((unhide HK0).andThen r2 (fun _ _ h => h))
      clear r1 r2
      have htt := ptypeTest_any p s w1 (unhide HV1) (fun w' hk => unhide HP w' ((unhide HK1).andThen hk (fun _ _ h => h)))
      rw [ht] at htt
      have HTT := hide htt
      clear htt
      go_wp2_with fail
      refine (unhide HTT).mono ?_
      rintro e w2 ⟨r0, rfl, r1, r2⟩
      have HK2 := hide ((unhide HK1).andThen r2 (fun _ _ h => h))
      have HV2 := hide r1
      have HT0 := hide r0
      clear r0 r1 r2 HTT
      go_wp2_with fail
      go_returns
      exact ⟨unhide HT0, rfl, unhide HV2, unhide HK2⟩
  | true =>
    have ht := hh.head h2
    have hsz := hh.headz h2
    have HT := hide ht
    have HCS := hide (Tryz.strings_CutSuffix (T (headT s)) ⟨#[58, 42]⟩)
    have hcut := allSuf_cut ht
    have heq := eq_T ht (okL_p (l := [42]) rfl)
    have hsz2 : (T (headT s)).size ≤ 9223372036854775807 := by omega
    clear hh ht hsz
    cases h3 : (headT s == [42]) with
    | true =>
      have e0 : testP s = some (0, [], s.pop) := by unfold testP; rw [h2, h3]; rfl
      rw [e0]
      rw [h3] at heq
      have q : ((T (headT s)).toList == [42]) = true := heq
      clear heq hcut HCS hsz2 e0
      go_enter Tryz.func111, Tryz.ntmps111
      go_wp2_with fail
      refine (ptakeAny_yes (k := 3) (unhide HV0) h2).mono ?_
      rintro e w1 ⟨rfl, r1, r2⟩
      have HV1 : Hid (PV w1 p s.pop) := hide r1
      have HK1 := hide ((unhide HK0).andThen r2 (fun _ _ h => h))
      clear r1 r2
      go_wp2_with fail
      go_returns
      exact ⟨(fun c hc => by cases hc), rfl, unhide HV1, unhide HK1⟩
    | false =>
      rw [h3] at heq
      have q : ((T (headT s)).toList == [42]) = false := heq
      clear heq
      cases h4 : allSuf (headT s) with
      | true =>
        have e0 : testP s = some (1, (headT s).dropLast.dropLast, s.pop) := by unfold testP; rw [h2, h3, h4]; rfl
        rw [e0]
        obtain ⟨c1, c2, c3⟩ := hcut
        rw [h4] at c1
        have HC3 := hide c3
        have HCS2 : Hid (∀ w, Calls Tryz.prog 129 #[.string (T (headT s)), .string ⟨#[58, 42]⟩] w fun e w' => e = .returned (.tuple #[.string (T (headT s).dropLast.dropLast), .bool true]) ∧ w' = w) := hide fun w => by
          have := unhide HCS w hsz2
          rw [show (⟨#[58, 42]⟩ : ByteArray).data.toList = [58, 42] from rfl, c1, c2 h4] at this
          exact this
        clear c1 c2 c3 HCS e0 hsz2
        go_enter Tryz.func111, Tryz.ntmps111
        go_wp2_with fail
        refine (ptakeAny_yes (k := 3) (unhide HV0) h2).mono ?_
        rintro e w1 ⟨rfl, r1, r2⟩
        have HV1 : Hid (PV w1 p s.pop) := hide r1
        have HK1 := hide ((unhide HK0).andThen r2 (fun _ _ h => h))
        clear r1 r2
        go_wp2_with fail
        refine (unhide HCS2 _).mono ?_
        rintro e w2 ⟨rfl, hw⟩
        have hw2 := hw.symm
        clear hw HCS2
        subst hw2
        go_wp2_with fail
        go_returns
        exact ⟨unhide HC3, rfl, unhide HV1, unhide HK1⟩
      | false =>
        have e0 : testP s = some (2, headT s, s.pop) := by unfold testP; rw [h2, h3, h4]; rfl
        rw [e0]
        obtain ⟨c1, c2, c3⟩ := hcut
        rw [h4] at c1
        have HCS2 : Hid (∀ w, Calls Tryz.prog 129 #[.string (T (headT s)), .string ⟨#[58, 42]⟩] w fun e w' => ∃ b, e = .returned (.tuple #[.string b, .bool false]) ∧ w' = w) := hide fun w => by
          have := unhide HCS w hsz2
          rw [show (⟨#[58, 42]⟩ : ByteArray).data.toList = [58, 42] from rfl, c1] at this
          exact this.mono fun e w' h => ⟨_, h⟩
        clear c1 c2 c3 HCS e0 hsz2
        go_enter Tryz.func111, Tryz.ntmps111
        go_wp2_with fail
        refine (ptakeAny_yes (k := 3) (unhide HV0) h2).mono ?_
        rintro e w1 ⟨rfl, r1, r2⟩
        have HV1 : Hid (PV w1 p s.pop) := hide r1
        have HK1 := hide ((unhide HK0).andThen r2 (fun _ _ h => h))
        clear r1 r2
        go_wp2_with fail
        refine (unhide HCS2 _).mono ?_
        rintro e w2 ⟨b, rfl, hw⟩
        have hw2 := hw.symm
        clear hw HCS2
        subst hw2
        go_wp2_with fail
        go_returns
        exact ⟨unhide HT, rfl, unhide HV1, unhide HK1⟩
end Go.Proofs.YthkkfldmoflfaaaGreatDoor
/- An expression of a grammar: xparse's expression. -/
namespace Go.Proofs.YthkkfldmoflfaaaGreatDoor
open Go.RowKit
theorem KRow.base {w : World} {B B' : Nat} {v : Value} {ks : List Ex} {xs : List Value} (h : KRow w B v ks xs) (hB : B' ≤ B) : KRow w B' v ks xs := by
  refine ⟨⟨h.1.1, ?_⟩, kidsIn.mono (fun j hj => ⟨⟨Nat.le_trans hB hj.1.1, hj.1.2⟩, hj.2⟩) (fun _ _ _ h => h) ks xs h.2⟩
  rcases h.1.2 with h0 | ⟨g, cap, cur, rfl, h2, h3⟩
  · exact .inl h0
  · exact .inr ⟨g, cap, cur, rfl, Nat.le_trans hB h2, h3⟩
theorem XOk.base {w w1 w' : World} {p : Nat} {x : Ex} {v : Value} {s : PS} (h : XOk w1 w' p x v s) (hb : Below w.heap.size w w1) : XOk w w' p x v s :=
  ⟨h.ex.mono (fun _ hj => Nat.le_trans hb.size hj) (fun _ _ _ h => h), fun e => by obtain ⟨xs, h1⟩ := h.fl e; exact ⟨xs, h1.base hb.size⟩, h.pv, (Kq.of hb).andThen h.kq (fun _ _ h => h)⟩
/-- An expression's variable. -/
def VarX (w : World) (q : Nat) (x : Ex) (v : Value) : Prop := w.heap[q]? = some (.cells #[.int .i64 (x.op : Nat), .string (T x.text), .int .i64 0, .int .i64 x.num, .int .i64 (x.axis : Nat), .int .i64 (x.test : Nat), v] 32 (0, 0))
abbrev expr0 : Obj := .cells #[.int .i64 0, .string ⟨#[]⟩, .int .i64 0, .int .i64 0, .int .i64 0, .int .i64 0, .slice none 0 0] 32
theorem PQ.alloc {W0 w : World} {p : Nat} {s : PS} (h : PQ W0 w p s) (o : Obj) : PQ W0 (w.alloc o) p s := h.below ((Below.refl _ _).alloc (Nat.le_refl _) _)
/-- The seven stores of an expression into a variable. -/
def put7 (w : World) (q : Nat) (x : Ex) (v : Value) : World := ((((((w.setCell ⟨q, 0, none⟩ (.int .i64 (x.op : Nat))).setCell ⟨q, 1, none⟩ (.string (T x.text))).setCell ⟨q, 2, none⟩ (.int .i64 0)).setCell ⟨q, 3, none⟩ (.int .i64 x.num)).setCell ⟨q, 4, none⟩ (.int .i64 (x.axis : Nat))).setCell ⟨q, 5, none⟩ (.int .i64 (x.test : Nat))).setCell ⟨q, 6, none⟩ v
theorem put7_kq (w : World) (q : Nat) (x : Ex) (v : Value) : Kq (fun j => j = q) w (put7 w q x v) :=
  ((((((Kq.set w q 0 _).andThen (Kq.set _ q 1 _) (fun _ _ h => h)).andThen (Kq.set _ q 2 _) (fun _ _ h => h)).andThen (Kq.set _ q 3 _) (fun _ _ h => h)).andThen (Kq.set _ q 4 _) (fun _ _ h => h)).andThen (Kq.set _ q 5 _) (fun _ _ h => h)).andThen (Kq.set _ q 6 _) (fun _ _ h => h)
theorem put7_var {w : World} {q : Nat} {a0 a1 a2 a3 a4 a5 a6 : Value} (h : w.heap[q]? = some (.cells #[a0, a1, a2, a3, a4, a5, a6] 32 (0, 0))) (x : Ex) (v : Value) : VarX (put7 w q x v) q x v := by
  have h6 := pset (pset (pset (pset (pset (pset (pset h 0 (.int .i64 (x.op : Nat))) 1 (.string (T x.text))) 2 (.int .i64 0)) 3 (.int .i64 x.num)) 4 (.int .i64 (x.axis : Nat))) 5 (.int .i64 (x.test : Nat))) 6 v
  simp only [List.setIfInBounds_toArray, List.set_cons_zero, List.set_cons_succ] at h6
  unfold VarX put7
  exact h6
/-- What stands, when an expression that a call told is put into the result's variable, which lay there ahead of the call. -/
theorem XOk.put {w w1 w' : World} {p q : Nat} {x : Ex} {v : Value} {s : PS} (h : XOk w1 w' p x v s) (hb : Below w.heap.size w w1) (hq : w.heap.size ≤ q) (hq1 : q < w1.heap.size) (hpq : p < w.heap.size) : XOk w (put7 w' q x v) p x v s := by
  have hk := put7_kq w' q x v
  refine ⟨?_, ?_, ?_, ?_⟩
  · exact (h.ex.mono (S' := fun j => w1.heap.size ≤ j) (fun _ h => h) (fun _ _ _ h => h)).kept hk (fun j hj _ e => by omega) |>.mono (fun _ hj => Nat.le_trans hb.size hj) (fun _ _ _ h => h)
  · intro e
    obtain ⟨xs, h1⟩ := h.fl e
    exact ⟨xs, (h1.kept hk (fun j _ hj e => by omega)).base hb.size⟩
  · exact h.pv.kept hk (fun j hj => by omega)
  · exact ((Kq.of hb).andThen h.kq (fun _ _ h => h)).andThen hk (fun j hj e => by omega)
theorem var_cells {w : World} {q : Nat} {c0 c1 c2 c3 c4 c5 c6 : Value} {t : TypeId} (h : w.heap[q]? = some (.cells #[c0, c1, c2, c3, c4, c5, c6] t (0, 0))) : w.cell? ⟨q, 0, none⟩ = some c0 ∧ w.cell? ⟨q, 1, none⟩ = some c1 ∧ w.cell? ⟨q, 2, none⟩ = some c2 ∧ w.cell? ⟨q, 3, none⟩ = some c3 ∧ w.cell? ⟨q, 4, none⟩ = some c4 ∧ w.cell? ⟨q, 5, none⟩ = some c5 ∧ w.cell? ⟨q, 6, none⟩ = some c6 :=
  ⟨pcell h 0, pcell h 1, pcell h 2, pcell h 3, pcell h 4, pcell h 5, pcell h 6⟩
theorem var_opens {w : World} {q : Nat} {c : Array Value} {t : TypeId} (h : w.heap[q]? = some (.cells c t (0, 0))) : w.frozen? ⟨q, 0, none⟩ = false ∧ w.frozen? ⟨q, 1, none⟩ = false ∧ w.frozen? ⟨q, 2, none⟩ = false ∧ w.frozen? ⟨q, 3, none⟩ = false ∧ w.frozen? ⟨q, 4, none⟩ = false ∧ w.frozen? ⟨q, 5, none⟩ = false ∧ w.frozen? ⟨q, 6, none⟩ = false :=
  ⟨popen h 0, popen h 1, popen h 2, popen h 3, popen h 4, popen h 5, popen h 6⟩
set_option maxRecDepth 100000 in
set_option maxHeartbeats 4000000 in
theorem pexpr_pass (W0 : World) (p g : Nat) (s s2 : PS) (x : Ex) (w : World) (hQ : PQ W0 w p s)
    (hC : (g = 6 ∧ ∀ w', PQ W0 w' p s → Calls Tryz.prog 46 #[.pointer (some ⟨p, 0, none⟩)] w' (outX p w' x s2)) ∨ (g = 8 ∧ ∀ w', PQ W0 w' p s → Calls Tryz.prog 47 #[.pointer (some ⟨p, 0, none⟩)] w' (outX p w' x s2))) :
    Calls Tryz.prog 26 #[.pointer (some ⟨p, 0, none⟩), .int .i64 (g : Nat)] w (outX p w x s2) := by
  have HB := hide ((Below.refl w.heap.size w).alloc (Nat.le_refl _) expr0)
  have HQ := hide (hQ.alloc expr0)
  have HPL := hide hQ.pv.lt
  clear hQ
  rcases hC with ⟨rfl, hC⟩ | ⟨rfl, hC⟩
  · have HC := hide (hC _ (unhide HQ))
    clear hC
    go_enter Tryz.func26, Tryz.ntmps26
    go_wp2_with fail
    refine (unhide HC).mono ?_
    rintro e w1 ⟨al, c, rfl, r2⟩
    have HK := hide r2
    have hq1 := blockK r2.kq (palloc_new w expr0) (by have := unhide HPL; omega)
    generalize hq : w.heap.size = q at hq1 ⊢
    have HQQ := hide hq
    have HQ1 := hide hq1
    obtain ⟨a0, a1, a2, a3, a4, a5, a6⟩ := var_cells hq1
    obtain ⟨o0, o1, o2, o3, o4, o5, o6⟩ := var_opens hq1
    clear r2 hq1 hq
    go_wp2_with fail
    have hV := put7_var (unhide HQ1) x (.slice al x.kids.length c)
    have hX := (unhide HK).put (q := q) (unhide HB) (by have := unhide HQQ; omega) (by rw [← unhide HQQ]; exact (Array.getElem?_eq_some_iff.1 (palloc_new w expr0)).1) (unhide HPL)
    obtain ⟨W3, e3⟩ : ∃ W3, put7 w1 q x (.slice al x.kids.length c) = W3 := ⟨_, rfl⟩
    have e4 := e3
    unfold put7 at e4
    rw [e4]
    rw [e3] at hV hX
    obtain ⟨b0, b1, b2, b3, b4, b5, b6⟩ := var_cells hV
    have HX := hide hX
    clear hX hV e3 e4 a0 a1 a2 a3 a4 a5 a6 o0 o1 o2 o3 o4 o5 o6
    refine bodyPost_ret (v := exAgg x (.slice al x.kids.length c)) (by simp [results, Tryz.results26, go_sem, b0, b1, b2, b3, b4, b5, b6]) rfl ?_
    exact ⟨al, c, rfl, unhide HX⟩
  · have HC := hide (hC _ (unhide HQ))
    clear hC
    go_enter Tryz.func26, Tryz.ntmps26
    go_wp2_with fail
    refine (unhide HC).mono ?_
    rintro e w1 ⟨al, c, rfl, r2⟩
    have HK := hide r2
    have hq1 := blockK r2.kq (palloc_new w expr0) (by have := unhide HPL; omega)
    generalize hq : w.heap.size = q at hq1 ⊢
    have HQQ := hide hq
    have HQ1 := hide hq1
    obtain ⟨a0, a1, a2, a3, a4, a5, a6⟩ := var_cells hq1
    obtain ⟨o0, o1, o2, o3, o4, o5, o6⟩ := var_opens hq1
    clear r2 hq1 hq
    go_wp2_with fail
    have hV := put7_var (unhide HQ1) x (.slice al x.kids.length c)
    have hX := (unhide HK).put (q := q) (unhide HB) (by have := unhide HQQ; omega) (by rw [← unhide HQQ]; exact (Array.getElem?_eq_some_iff.1 (palloc_new w expr0)).1) (unhide HPL)
    obtain ⟨W3, e3⟩ : ∃ W3, put7 w1 q x (.slice al x.kids.length c) = W3 := ⟨_, rfl⟩
    have e4 := e3
    unfold put7 at e4
    rw [e4]
    rw [e3] at hV hX
    obtain ⟨b0, b1, b2, b3, b4, b5, b6⟩ := var_cells hV
    have HX := hide hX
    clear hX hV e3 e4 a0 a1 a2 a3 a4 a5 a6 o0 o1 o2 o3 o4 o5 o6
    refine bodyPost_ret (v := exAgg x (.slice al x.kids.length c)) (by simp [results, Tryz.results26, go_sem, b0, b1, b2, b3, b4, b5, b6]) rfl ?_
    exact ⟨al, c, rfl, unhide HX⟩
end Go.Proofs.YthkkfldmoflfaaaGreatDoor
