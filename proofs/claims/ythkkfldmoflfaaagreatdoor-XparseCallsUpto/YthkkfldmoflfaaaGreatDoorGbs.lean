/- Several texts, laid as one. -/
import Derived.Test.YthkkfldmoflfaaaGreatDoorParRi
/- The reference's count, deeper, Right of what is right. -/
namespace Go.Proofs.YthkkfldmoflfaaaGreatDoor
open Go.RowKit Go.Maps
theorem refRight_below : ∀ n m, m < n → RRight m
  | 0, m, h => absurd h (Nat.not_lt_zero m)
  | n + 1, m, h => by
    have ih := refRight_below n
    by_cases hm : m < n
    · exact ih m hm
    · obtain rfl : m = n := by omega
      have hs : ∀ k, k < m → RStep k := fun k hk => refStep_ok k (fun j hj => ih j (by omega))
      exact refRight_step m ih (fun k hk => refPath_ok k (fun j hj => ih j (by omega)) (fun j hj => hs j (by omega)))
theorem refRight_all (n : Nat) : RRight n := refRight_below (n + 1) n (Nat.lt_succ_self n)
mutual
/-- How many expressions there are in one. -/
def sizeX : Ex → Nat
  | .mk _ _ _ _ _ ks => 1 + sizeKs ks
def sizeKs : List Ex → Nat
  | [] => 0
  | k :: ks => sizeX k + sizeKs ks
end
mutual
/-- How deep an expression is. -/
def depthX : Ex → Nat
  | .mk _ _ _ _ _ ks => 1 + depthKs ks
def depthKs : List Ex → Nat
  | [] => 0
  | k :: ks => max (depthX k) (depthKs ks)
end
theorem sizeX_kids (x : Ex) : sizeX x = 1 + sizeKs x.kids := by cases x; rw [sizeX]; rfl
theorem depthX_kids (x : Ex) : depthX x = 1 + depthKs x.kids := by cases x; rw [depthX]; rfl
theorem sizeX_pos (x : Ex) : 1 ≤ sizeX x := by rw [sizeX_kids]; omega
theorem sizeKs_take : ∀ (ks : List Ex) (i : Nat) (x : Ex), ks[i]? = some x → sizeKs (ks.take (i + 1)) = sizeKs (ks.take i) + sizeX x ∧ sizeKs (ks.take i) + sizeX x ≤ sizeKs ks
  | [], i, x, h => by simp at h
  | k :: ks, 0, x, h => by
    cases h
    simp only [List.take_succ_cons, List.take_zero, sizeKs]
    omega
  | k :: ks, i + 1, x, h => by
    have ih := sizeKs_take ks i x (by simpa using h)
    simp only [List.take_succ_cons, sizeKs]
    omega
theorem sizeKs_len : ∀ ks : List Ex, ks.length ≤ sizeKs ks
  | [] => Nat.zero_le _
  | k :: ks => by
    have := sizeKs_len ks
    have := sizeX_pos k
    rw [sizeKs, List.length_cons]
    omega
theorem depthKs_at : ∀ (ks : List Ex) (i : Nat) (x : Ex), ks[i]? = some x → depthX x ≤ depthKs ks
  | [], i, x, h => by simp at h
  | k :: ks, 0, x, h => by
    cases h
    rw [depthKs]
    omega
  | k :: ks, i + 1, x, h => by
    have ih := depthKs_at ks i x (by simpa using h)
    rw [depthKs]
    omega
/-- What count tells, of as many as are asked for at most. -/
def RCount (n : Nat) : Prop := ∀ (x : Ex) (most : Nat) (al : Option Addr) (cc : Nat) (w : World) (S : Nat → Prop), sizeX x ≤ n → exV w S x (.slice al x.kids.length cc) → sizeX x ≤ most → most ≤ 1000 → Calls Tryz.prog 31 #[exAgg x (.slice al x.kids.length cc), .int .i64 (most : Nat)] w fun e w' => e = .returned (.int .i64 (sizeX x : Nat)) ∧ Below w.heap.size w w'
set_option maxRecDepth 100000 in
set_option maxHeartbeats 1000000 in
theorem refCount_ok : ∀ n, RCount n
  | 0 => fun x most al cc w S h0 _ _ _ => by have := sizeX_pos x; omega
  | n + 1 => by
    intro x most al cc w S h0 hx hm hmm
    have IH := hide (refCount_ok n)
    have HS : Hid (sizeX x = 1 + sizeKs x.kids) := hide (sizeX_kids x)
    have hlen := sizeKs_len x.kids
    have hsx := unhide HS
    have HLN := hide (show x.kids.length ≤ 1000 by omega)
    have HS0 := hide (show sizeX x ≤ n + 1 ∧ sizeX x ≤ most ∧ most ≤ 1000 from ⟨h0, hm, hmm⟩)
    obtain ⟨W1, e1⟩ : ∃ W1, w.alloc (oneB x (.slice al x.kids.length cc)) = W1 := ⟨_, rfl⟩
    have hb1 : Below w.heap.size w W1 := by rw [← e1]; exact (Below.refl _ _).alloc (Nat.le_refl _) _
    have hq1 : W1.heap[w.heap.size]? = some (oneB x (.slice al x.kids.length cc)) := by rw [← e1]; exact palloc_new _ _
    have HB1 := hide hb1
    have HQ1 := hide hq1
    have HX1 := hide (hx.below hb1).ks
    generalize hq : w.heap.size = q at hq1 HQ1
    clear h0 hx hm hmm hlen hsx hb1 hq1
    go_enter Tryz.func31, Tryz.ntmps31
    go_wp2_with fail
    go_loopw [5, 6] (fun vn vi wr => ∃ k : Nat, vi = .int .i64 (k : Nat) ∧ vn = .int .i64 ((1 + sizeKs (x.kids.take k) : Nat) : Int) ∧ k ≤ x.kids.length ∧ Hid (Below W1.heap.size W1 wr)) (fun _ vi _ => x.kids.length - (intOf vi).toNat)
    case atStart => exact ⟨0, rfl, by rw [List.take_zero, sizeKs]; rfl, Nat.zero_le _, hide (Below.refl _ _)⟩
    case round =>
      obtain ⟨k, rfl, rfl, hk, HB⟩ := hrel
      have hqr := blockB (unhide HQ1) (unhide HB)
      obtain ⟨a0, a1, a2, a3, a4, a5, a6⟩ := var_cells hqr
      clear hqr
      by_cases hkn : k < x.kids.length
      · obtain ⟨y, hky⟩ : ∃ y, x.kids[k]? = some y := ⟨_, List.getElem?_eq_getElem hkn⟩
        obtain ⟨t1, t2⟩ := sizeKs_take x.kids k y hky
        obtain ⟨g, o, al1, cc1, ev, hx1, h0, h1, h2, h3, h4, h5, h6⟩ := ((unhide HX1).below (unhide HB)).kid7 k y hky
        cases ev
        have hs0 := unhide HS0
        have hs1 := unhide HS
        have hln := unhide HLN
        generalize hN : 1 + sizeKs (x.kids.take k) = N at *
        have hle : sizeX y ≤ most - N := by omega
        have HC := hide (unhide IH y (most - N) al1 cc1 wr S (by omega) hx1 hle (by omega))
        have n1 : decide (k < x.kids.length) = true := decide_eq_true hkn
        have n2 : decide (N ≤ most) = true := decide_eq_true (by omega)
        have n3 : N ≤ most := by omega
        have w1 : IntKind.i64.wrap ((k : Int) + 1) = ((k + 1 : Nat) : Int) := by rw [wrap_small] <;> omega
        have w2 : IntKind.i64.wrap ((most : Int) - (N : Int)) = ((most - N : Nat) : Int) := by rw [wrap_small] <;> omega
        have w3 : IntKind.i64.wrap ((N : Int) + ((sizeX y : Nat) : Int)) = ((1 + sizeKs (x.kids.take (k + 1)) : Nat) : Int) := by
          rw [t1, wrap_small] <;> omega
        have HW3 := hide w3
        obtain ⟨M, hM⟩ : ∃ M, most - N = M := ⟨_, rfl⟩
        rw [hM] at w2 HC
        clear hx1 hky hs0 hs1 hln hle t1 t2 hN hM
        go_wp2_with fail
        refine (unhide HC).mono ?_
        rintro e w5 ⟨rfl, hb5⟩
        have HB5 := hide (Below.then (unhide HB) hb5)
        clear hb5 HC h0 h1 h2 h3 h4 h5 h6 a0 a1 a2 a3 a4 a5 a6
        go_wp2_with fail
        exact ⟨⟨k + 1, by go_num, by exact congrArg (Value.int .i64) (by omega), by omega, HB5⟩, by show x.kids.length - ((k : Int) + 1).toNat < x.kids.length - (k : Int).toNat; omega⟩
      · have n1 : decide (k < x.kids.length) = false := decide_eq_false hkn
        have HE : Hid (1 + sizeKs (x.kids.take k) = sizeX x) := hide (by rw [show k = x.kids.length by omega, List.take_length, unhide HS])
        go_wp2_with fail
        go_returns
        exact ⟨by rw [← unhide HE]; exact rfl, by have h := Below.then (unhide HB1) (unhide HB); rw [hq] at h; exact h⟩
/-- What deeper tells of what is not. -/
def RDeeper (n : Nat) : Prop := ∀ (x : Ex) (al : Option Addr) (cc : Nat) (w : World) (S : Nat → Prop), exV w S x (.slice al x.kids.length cc) → depthX x ≤ n → n ≤ 1000 → sizeX x ≤ 1000 → Calls Tryz.prog 32 #[exAgg x (.slice al x.kids.length cc), .int .i64 (n : Nat)] w fun e w' => e = .returned (.bool false) ∧ Below w.heap.size w w'
set_option maxRecDepth 100000 in
set_option maxHeartbeats 1000000 in
theorem refDeeper_ok : ∀ n, RDeeper n
  | 0 => fun x al cc w S _ h0 _ _ => by have := depthX_kids x; omega
  | n + 1 => by
    intro x al cc w S hx hd hn hsz
    have IH := hide (refDeeper_ok n)
    have hlen := sizeKs_len x.kids
    have hsx := sizeX_kids x
    have hdx := depthX_kids x
    have HLN := hide (show x.kids.length ≤ 1000 by omega)
    have HS0 := hide (show depthKs x.kids ≤ n ∧ n ≤ 1000 ∧ sizeKs x.kids ≤ 1000 from ⟨by omega, by omega, by omega⟩)
    obtain ⟨W1, e1⟩ : ∃ W1, w.alloc (oneB x (.slice al x.kids.length cc)) = W1 := ⟨_, rfl⟩
    have hb1 : Below w.heap.size w W1 := by rw [← e1]; exact (Below.refl _ _).alloc (Nat.le_refl _) _
    have hq1 : W1.heap[w.heap.size]? = some (oneB x (.slice al x.kids.length cc)) := by rw [← e1]; exact palloc_new _ _
    have HB1 := hide hb1
    have HQ1 := hide hq1
    have HX1 := hide (hx.below hb1).ks
    generalize hq : w.heap.size = q at hq1 HQ1
    obtain ⟨N, hN⟩ : ∃ N, n + 1 = N := ⟨_, rfl⟩
    have HN := hide hN
    rw [hN]
    have n0 : (((N : Nat) : Int) == 0) = false := icast_ne (by omega)
    have w2 : IntKind.i64.wrap (((N : Nat) : Int) - 1) = ((n : Nat) : Int) := by rw [wrap_small] <;> omega
    clear hx hd hn hsz hlen hsx hdx hb1 hq1 hN
    go_enter Tryz.func32, Tryz.ntmps32
    go_wp2_with fail
    go_loopw [5] (fun vi wr => ∃ k : Nat, vi = .int .i64 (k : Nat) ∧ k ≤ x.kids.length ∧ Hid (Below W1.heap.size W1 wr)) (fun vi _ => x.kids.length - (intOf vi).toNat)
    case atStart => exact ⟨0, rfl, Nat.zero_le _, hide (Below.refl _ _)⟩
    case round =>
      obtain ⟨k, rfl, hk, HB⟩ := hrel
      have hqr := blockB (unhide HQ1) (unhide HB)
      obtain ⟨a0, a1, a2, a3, a4, a5, a6⟩ := var_cells hqr
      clear hqr
      by_cases hkn : k < x.kids.length
      · obtain ⟨y, hky⟩ : ∃ y, x.kids[k]? = some y := ⟨_, List.getElem?_eq_getElem hkn⟩
        obtain ⟨g, o, al1, cc1, ev, hx1, h0, h1, h2, h3, h4, h5, h6⟩ := ((unhide HX1).below (unhide HB)).kid7 k y hky
        cases ev
        have hs0 := unhide HS0
        have hln := unhide HLN
        have hd1 := depthKs_at x.kids k y hky
        have t2 := (sizeKs_take x.kids k y hky).2
        have HC := hide (unhide IH y al1 cc1 wr S hx1 (by omega) (by omega) (by omega))
        have n1 : decide (k < x.kids.length) = true := decide_eq_true hkn
        have w1 : IntKind.i64.wrap ((k : Int) + 1) = ((k + 1 : Nat) : Int) := by rw [wrap_small] <;> omega
        clear hx1 hky hs0 hln hd1 t2
        go_wp2_with fail
        refine (unhide HC).mono ?_
        rintro e w5 ⟨rfl, hb5⟩
        have HB5 := hide (Below.then (unhide HB) hb5)
        clear hb5 HC h0 h1 h2 h3 h4 h5 h6 a0 a1 a2 a3 a4 a5 a6
        go_wp2_with fail
        exact ⟨⟨k + 1, by go_num, by omega, HB5⟩, by show x.kids.length - ((k : Int) + 1).toNat < x.kids.length - (k : Int).toNat; omega⟩
      · have n1 : decide (k < x.kids.length) = false := decide_eq_false hkn
        go_wp2_with fail
        go_returns
        exact ⟨rfl, by have h := Below.then (unhide HB1) (unhide HB); rw [hq] at h; exact h⟩
end Go.Proofs.YthkkfldmoflfaaaGreatDoor
/- The reference's same, Right, Same. -/
namespace Go.Proofs.YthkkfldmoflfaaaGreatDoor
open Go.RowKit Go.Maps
mutual
/-- Are two expressions the same? -/
def sameX : Ex → Ex → Bool
  | .mk o t m a k ks, y => (o == y.op && (t == y.text && (m == y.num && (a == y.axis && (k == y.test && ks.length == y.kids.length))))) && sameKs ks y.kids
def sameKs : List Ex → List Ex → Bool
  | [], _ => true
  | x :: xs, ys => (match ys with | [] => true | y :: ys => sameX x y && sameKs xs ys)
end
theorem sameX_is (x y : Ex) : sameX x y = ((x.op == y.op && (x.text == y.text && (x.num == y.num && (x.axis == y.axis && (x.test == y.test && x.kids.length == y.kids.length))))) && sameKs x.kids y.kids) := by
  cases x
  rw [sameX]
  rfl
theorem sameKs_cons (x y : Ex) (xs ys : List Ex) : sameKs (x :: xs) (y :: ys) = (sameX x y && sameKs xs ys) := by rw [sameKs]
abbrev ClsW (W w' : World) : Prop := Below W.heap.size W w'
def RSame (n : Nat) : Prop := ∀ (x y : Ex) (al bl : Option Addr) (cc bc : Nat) (w : World) (S R : Nat → Prop), sizeX x ≤ n → n ≤ 1000 → exV w S x (.slice al x.kids.length cc) → exV w R y (.slice bl y.kids.length bc) → Calls Tryz.prog 16 #[exAgg x (.slice al x.kids.length cc), exAgg y (.slice bl y.kids.length bc)] w fun e w' => e = .returned (.bool (sameX x y)) ∧ Below w.heap.size w w'
set_option maxRecDepth 100000 in
set_option maxHeartbeats 1000000 in
theorem refSame_ok : ∀ n, RSame n
  | 0 => fun x y al bl cc bc w S R h0 _ _ _ => by have := sizeX_pos x; omega
  | n + 1 => by
    intro x y al bl cc bc w S R h0 hn hx hy
    have IH := hide (refSame_ok n)
    have hsx := sizeX_kids x
    have hlen := sizeKs_len x.kids
    have HLN := hide (show x.kids.length ≤ 1000 by omega)
    have HS0 := hide (show sizeKs x.kids ≤ n ∧ n ≤ 1000 by omega)
    have HSM := hide (sameX_is x y)
    obtain ⟨W1, e1⟩ : ∃ W1, w.alloc (oneB x (.slice al x.kids.length cc)) = W1 := ⟨_, rfl⟩
    have hb1 : Below w.heap.size w W1 := by rw [← e1]; exact (Below.refl _ _).alloc (Nat.le_refl _) _
    have hq1 : W1.heap[w.heap.size]? = some (oneB x (.slice al x.kids.length cc)) := by rw [← e1]; exact palloc_new _ _
    obtain ⟨W2, e2⟩ : ∃ W2, W1.alloc (oneB y (.slice bl y.kids.length bc)) = W2 := ⟨_, rfl⟩
    have hb2 : Below W1.heap.size W1 W2 := by rw [← e2]; exact (Below.refl _ _).alloc (Nat.le_refl _) _
    have hp2 : W2.heap[W1.heap.size]? = some (oneB y (.slice bl y.kids.length bc)) := by rw [← e2]; exact palloc_new _ _
    have hq2 := blockB hq1 hb2
    have HB2 := hide (Below.then hb1 hb2)
    have HQ2 := hide hq2
    have HP2 := hide hp2
    have HX2 := hide ((hx.below hb1).below hb2).ks
    have HY2 := hide ((hy.below hb1).below hb2).ks
    obtain ⟨a0, a1, a2, a3, a4, a5, a6⟩ := var_cells hq2
    obtain ⟨c0, c1, c2, c3, c4, c5, c6⟩ := var_cells hp2
    generalize hp : W1.heap.size = p at HP2 c0 c1 c2 c3 c4 c5 c6
    have t1 : ((T x.text).toList == (T y.text).toList) = (x.text == y.text) := T_eq2 hx.1 hy.1
    have t0 : (((x.op : Nat) : Int) == ((y.op : Nat) : Int)) = (x.op == y.op) := icast_beq _ _
    have t3 : (((x.axis : Nat) : Int) == ((y.axis : Nat) : Int)) = (x.axis == y.axis) := icast_beq _ _
    have t4 : (((x.test : Nat) : Int) == ((y.test : Nat) : Int)) = (x.test == y.test) := icast_beq _ _
    have t5 : (((x.kids.length : Nat) : Int) == ((y.kids.length : Nat) : Int)) = (x.kids.length == y.kids.length) := icast_beq _ _
    obtain ⟨b0, g0⟩ : ∃ b, (x.op == y.op) = b := ⟨_, rfl⟩
    obtain ⟨b1, g1⟩ : ∃ b, (x.text == y.text) = b := ⟨_, rfl⟩
    obtain ⟨b2, g2⟩ : ∃ b, (x.num == y.num) = b := ⟨_, rfl⟩
    obtain ⟨b3, g3⟩ : ∃ b, (x.axis == y.axis) = b := ⟨_, rfl⟩
    obtain ⟨b4, g4⟩ : ∃ b, (x.test == y.test) = b := ⟨_, rfl⟩
    obtain ⟨b5, g5⟩ : ∃ b, (x.kids.length == y.kids.length) = b := ⟨_, rfl⟩
    rw [g0, g1, g2, g3, g4, g5] at HSM
    rw [g0] at t0
    rw [g1] at t1
    rw [g3] at t3
    rw [g4] at t4
    rw [g5] at t5
    have HG5 := hide g5
    rw [unhide HSM]
    clear HSM h0 hn hx hy hsx hlen hb1 hq1 hb2 hp2 hq2 g0 g1 g3 g4 g5
    cases b0 with
    | false =>
      have u0 : (((x.op : Nat) : Int) != ((y.op : Nat) : Int)) = true := by rw [bne, t0]; rfl
      go_enter Tryz.func16, Tryz.ntmps16
      go_wp2_with fail
      go_returns
      exact ⟨rfl, unhide HB2⟩
    | true =>
      have u0 : (((x.op : Nat) : Int) != ((y.op : Nat) : Int)) = false := by rw [bne, t0]; rfl
      cases b1 with
      | false =>
        have u1 : ((T x.text).toList != (T y.text).toList) = true := by rw [bne, t1]; rfl
        go_enter Tryz.func16, Tryz.ntmps16
        go_wp2_with fail
        go_returns
        exact ⟨rfl, unhide HB2⟩
      | true =>
        have u1 : ((T x.text).toList != (T y.text).toList) = false := by rw [bne, t1]; rfl
        cases b2 with
        | false =>
          have u2 : (x.num != y.num) = true := by rw [bne, g2]; rfl
          go_enter Tryz.func16, Tryz.ntmps16
          go_wp2_with fail
          go_returns
          exact ⟨rfl, unhide HB2⟩
        | true =>
          have u2 : (x.num != y.num) = false := by rw [bne, g2]; rfl
          cases b3 with
          | false =>
            have u3 : (((x.axis : Nat) : Int) != ((y.axis : Nat) : Int)) = true := by rw [bne, t3]; rfl
            go_enter Tryz.func16, Tryz.ntmps16
            go_wp2_with fail
            go_returns
            exact ⟨rfl, unhide HB2⟩
          | true =>
            have u3 : (((x.axis : Nat) : Int) != ((y.axis : Nat) : Int)) = false := by rw [bne, t3]; rfl
            cases b4 with
            | false =>
              have u4 : (((x.test : Nat) : Int) != ((y.test : Nat) : Int)) = true := by rw [bne, t4]; rfl
              go_enter Tryz.func16, Tryz.ntmps16
              go_wp2_with fail
              go_returns
              exact ⟨rfl, unhide HB2⟩
            | true =>
              have u4 : (((x.test : Nat) : Int) != ((y.test : Nat) : Int)) = false := by rw [bne, t4]; rfl
              cases b5 with
              | false =>
                have u5 : (((x.kids.length : Nat) : Int) != ((y.kids.length : Nat) : Int)) = true := by rw [bne, t5]; rfl
                go_enter Tryz.func16, Tryz.ntmps16
                go_wp2_with fail
                go_returns
                exact ⟨rfl, unhide HB2⟩
              | true =>
                have u5 : (((x.kids.length : Nat) : Int) != ((y.kids.length : Nat) : Int)) = false := by rw [bne, t5]; rfl
                have hll : x.kids.length = y.kids.length := by have := unhide HG5; rwa [beq_iff_eq] at this
                have HLL := hide hll
                clear hll
                go_enter Tryz.func16, Tryz.ntmps16
                go_wp2_with fail
                clear a0 a1 a2 a3 a4 a5 a6 c0 c1 c2 c3 c4 c5 c6
                go_loopw [5] (fun vi wr => ∃ k : Nat, vi = .int .i64 (k : Nat) ∧ k ≤ x.kids.length ∧ Hid (sameKs x.kids y.kids = sameKs (x.kids.drop k) (y.kids.drop k)) ∧ Hid (Below W2.heap.size W2 wr)) (fun vi _ => x.kids.length - (intOf vi).toNat)
                case atStart => exact ⟨0, rfl, Nat.zero_le _, hide rfl, hide (Below.refl _ _)⟩
                case round =>
                  obtain ⟨k, rfl, hk, HSK, HB⟩ := hrel
                  have hqr := blockB (unhide HQ2) (unhide HB)
                  have hpr := blockB (unhide HP2) (unhide HB)
                  obtain ⟨a0, a1, a2, a3, a4, a5, a6⟩ := var_cells hqr
                  obtain ⟨c0, c1, c2, c3, c4, c5, c6⟩ := var_cells hpr
                  clear hqr hpr
                  by_cases hkn : k < x.kids.length
                  · have hll := unhide HLL
                    have hkn2 : k < y.kids.length := by omega
                    obtain ⟨u, hku⟩ : ∃ u, x.kids[k]? = some u := ⟨_, List.getElem?_eq_getElem hkn⟩
                    obtain ⟨v, hkv⟩ : ∃ v, y.kids[k]? = some v := ⟨_, List.getElem?_eq_getElem hkn2⟩
                    obtain ⟨g, o, al1, cc1, ev, hx1, h0, h1, h2, h3, h4, h5, h6⟩ := ((unhide HX2).below (unhide HB)).kid7 k u hku
                    obtain ⟨g', o', al2, cc2, ev2, hy1, k0, k1, k2, k3, k4, k5, k6⟩ := ((unhide HY2).below (unhide HB)).kid7 k v hkv
                    cases ev
                    cases ev2
                    have t2 := (sizeKs_take x.kids k u hku).2
                    have hs0 := unhide HS0
                    have HC := hide (fun w' (hC : ClsW wr w') => unhide IH u v al1 al2 cc1 cc2 w' S R (by omega) (by omega) (hx1.below hC) (hy1.below hC))
                    have HCE := hide (fun w' (hC : ClsW wr w') => (⟨pkept hC a6, pkept hC c6, pkept hC h0, pkept hC h1, pkept hC h2, pkept hC h3, pkept hC h4, pkept hC h5, pkept hC h6, pkept hC k0, pkept hC k1, pkept hC k2, pkept hC k3, pkept hC k4, pkept hC k5, pkept hC k6⟩ : _ ∧ _ ∧ _ ∧ _ ∧ _ ∧ _ ∧ _ ∧ _ ∧ _ ∧ _ ∧ _ ∧ _ ∧ _ ∧ _ ∧ _ ∧ _))
                    have HXD : Hid (ClsW wr wr.drew) := hide ((Below.refl _ _).drew)
                    have hln := unhide HLN
                    have HSK2 : Hid (sameKs x.kids y.kids = (sameX u v && sameKs (x.kids.drop (k + 1)) (y.kids.drop (k + 1)))) := hide (by
                      rw [unhide HSK, ← sameKs_cons]
                      have e1 : x.kids.drop k = u :: x.kids.drop (k + 1) := by
                        rw [List.drop_eq_getElem_cons hkn]
                        rw [List.getElem?_eq_getElem hkn] at hku
                        rw [Option.some.inj hku]
                      have e2 : y.kids.drop k = v :: y.kids.drop (k + 1) := by
                        rw [List.drop_eq_getElem_cons hkn2]
                        rw [List.getElem?_eq_getElem hkn2] at hkv
                        rw [Option.some.inj hkv]
                      rw [e1, e2])
                    have n1 : decide (k < x.kids.length) = true := decide_eq_true hkn
                    have w1 : IntKind.i64.wrap ((k : Int) + 1) = ((k + 1 : Nat) : Int) := by rw [wrap_small] <;> omega
                    have HKN := hide hkn
                    clear hx1 hy1 hku hkv t2 hs0 hln hll HSK
                    generalize hb : sameX u v = bb at HC HSK2
                    clear hb
                    go_wp2_with fail
                    refine wp_region_cls (ClsW wr) (by kernel_rfl) (by kernel_rfl) (unhide HXD) ?_
                    repeat
                      (first
                        | go_big_quiet_skip
                        | (go_big_quiet_want
                           go_big_quiet_op
                           first
                             | go_big_quiet_on
                             | (apply Exists.intro
                                refine ⟨fun w' hC => ?_, ?_⟩
                                · (first
                                    | (go_at_call 16; refine (unhide HC _ hC).mono ?_; rintro e w3 ⟨rfl, hb3⟩; exact ⟨rfl, Below.then hC hb3⟩)
                                    | (obtain ⟨za, zb, z0, z1, z2, z3, z4, z5, z6, y0, y1, y2, y3, y4, y5, y6⟩ := unhide HCE _ hC; go_simp; first | done | rfl))
                                go_big_quiet_on)))
                    refine wpQuiet_nil ?_
                    intro w5 hb5
                    have HB5 := hide (Below.then (unhide HB) hb5)
                    clear hb5 HC HCE HXD h0 h1 h2 h3 h4 h5 h6 a0 a1 a2 a3 a4 a5 a6 k0 k1 k2 k3 k4 k5 k6 c0 c1 c2 c3 c4 c5 c6
                    cases bb with
                    | false =>
                      go_wp2_with fail
                      go_returns
                      exact ⟨by rw [unhide HSK2]; exact rfl, Below.then (unhide HB2) (unhide HB5)⟩
                    | true =>
                      go_wp2_with fail
                      exact ⟨⟨k + 1, by go_num, by omega, hide (by rw [unhide HSK2]; exact Bool.true_and _), HB5⟩, by show x.kids.length - ((k : Int) + 1).toNat < x.kids.length - (k : Int).toNat; omega⟩
                  · have n1 : decide (k < x.kids.length) = false := decide_eq_false hkn
                    have HE : Hid (sameKs x.kids y.kids = true) := hide (by rw [unhide HSK, List.drop_eq_nil_of_le (by omega), sameKs])
                    go_wp2_with fail
                    go_returns
                    exact ⟨by rw [unhide HE]; exact rfl, Below.then (unhide HB2) (unhide HB)⟩
/-- What is right, to the reference. -/
def okX (x : Ex) : Prop := smallX x = true ∧ sizeX x ≤ 512 ∧ depthX x ≤ 32 ∧ ∃ n c', jRight flX n 0 0 x = some (true, c')
set_option maxRecDepth 100000 in
set_option maxHeartbeats 2000000 in
theorem refRightAll_ok (x : Ex) (al : Option Addr) (cc : Nat) (w : World) (S : Nat → Prop) (hE : EnvG w) (hx : exV w S x (.slice al x.kids.length cc)) (h : okX x) :
    Calls Tryz.prog 15 #[exAgg x (.slice al x.kids.length cc)] w fun e w' => e = .returned (.bool true) ∧ Below w.heap.size w w' := by
  obtain ⟨hz, hs, hd, n, c', hj⟩ := h
  obtain ⟨W1, e1⟩ : ∃ W1, w.alloc (oneB x (.slice al x.kids.length cc)) = W1 := ⟨_, rfl⟩
  have hb1 : Below w.heap.size w W1 := by rw [← e1]; exact (Below.refl _ _).alloc (Nat.le_refl _) _
  have hq1 : W1.heap[w.heap.size]? = some (oneB x (.slice al x.kids.length cc)) := by rw [← e1]; exact palloc_new _ _
  have HB1 := hide hb1
  have HQ1 := hide hq1
  have HX1 := hide (hx.below hb1)
  have HE1 := hide (hE.below hb1)
  obtain ⟨a0, a1, a2, a3, a4, a5, a6⟩ := var_cells hq1
  have hC1 := refCount_ok 512 x 512 al cc W1 S hs (unhide HX1) hs (by omega)
  rw [show ((512 : Nat) : Int) = 512 from rfl] at hC1
  have HC1 := hide hC1
  have HC2 := hide (fun w hx => refDeeper_ok 32 x al cc w S hx hd (by omega) (by omega))
  have HC3 := hide (fun w hE hx => refRight_all n 0 0 c' x al cc w S hE hz hx hj)
  have n1 : decide (sizeX x ≤ 512) = true := decide_eq_true hs
  have n2 : decide (((sizeX x : Nat) : Int) ≤ 512) = true := decide_eq_true (by omega)
  clear hb1 hq1 hC1 hz hd hj hE hx
  go_enter Tryz.func15, Tryz.ntmps15
  go_wp2_with fail
  refine (unhide HC1).mono ?_
  rintro e w2 ⟨rfl, hb2⟩
  have HB2 := hide (Below.then (unhide HB1) hb2)
  have HX2 := hide ((unhide HX1).below hb2)
  have HE2 := hide ((unhide HE1).below hb2)
  have HQ2 := hide (blockB (unhide HQ1) hb2)
  have hc2 := (unhide HC2) w2 (unhide HX2)
  rw [show ((32 : Nat) : Int) = 32 from rfl] at hc2
  have HD := hide hc2
  clear hb2 HC1 HC2 hc2 a0 a1 a2 a3 a4 a5 a6
  obtain ⟨a0, a1, a2, a3, a4, a5, a6⟩ := var_cells (unhide HQ2)
  go_wp2_with fail
  refine (unhide HD).mono ?_
  rintro e w3 ⟨rfl, hb3⟩
  have HB3 := hide (Below.then (unhide HB2) hb3)
  have HX3 := hide ((unhide HX2).below hb3)
  have HE3 := hide ((unhide HE2).below hb3)
  have HQ3 := hide (blockB (unhide HQ2) hb3)
  have HC4 := hide ((unhide HC3) w3 (unhide HE3) (unhide HX3))
  clear hb3 HC3 HD a0 a1 a2 a3 a4 a5 a6
  obtain ⟨a0, a1, a2, a3, a4, a5, a6⟩ := var_cells (unhide HQ3)
  go_wp2_with fail
  refine (unhide HC4).mono ?_
  rintro e w4 ⟨rfl, hb4⟩
  have HB4 := hide (Below.then (unhide HB3) hb4)
  clear hb4 HC4 a0 a1 a2 a3 a4 a5 a6
  go_wp2_with fail
  go_returns
  exact ⟨rfl, unhide HB4⟩
set_option maxRecDepth 100000 in
set_option maxHeartbeats 2000000 in
theorem refSameAll_ok (x y : Ex) (al bl : Option Addr) (cc bc : Nat) (w : World) (S R : Nat → Prop) (hE : EnvG w) (hx : exV w S x (.slice al x.kids.length cc)) (hy : exV w R y (.slice bl y.kids.length bc)) (h : okX x) (hk : okX y) :
    Calls Tryz.prog 8 #[exAgg x (.slice al x.kids.length cc), exAgg y (.slice bl y.kids.length bc)] w fun e w' => e = .returned (.bool (sameX x y)) ∧ Below w.heap.size w w' := by
  obtain ⟨W1, e1⟩ : ∃ W1, w.alloc (oneB x (.slice al x.kids.length cc)) = W1 := ⟨_, rfl⟩
  have hb1 : Below w.heap.size w W1 := by rw [← e1]; exact (Below.refl _ _).alloc (Nat.le_refl _) _
  have hq1 : W1.heap[w.heap.size]? = some (oneB x (.slice al x.kids.length cc)) := by rw [← e1]; exact palloc_new _ _
  obtain ⟨W2, e2⟩ : ∃ W2, W1.alloc (oneB y (.slice bl y.kids.length bc)) = W2 := ⟨_, rfl⟩
  have hb2 : Below W1.heap.size W1 W2 := by rw [← e2]; exact (Below.refl _ _).alloc (Nat.le_refl _) _
  have hp2 : W2.heap[W1.heap.size]? = some (oneB y (.slice bl y.kids.length bc)) := by rw [← e2]; exact palloc_new _ _
  have hq2 := blockB hq1 hb2
  have HB2 := hide (Below.then hb1 hb2)
  have HQ2 := hide hq2
  have HP2 := hide hp2
  have HX2 := hide ((hx.below hb1).below hb2)
  have HY2 := hide ((hy.below hb1).below hb2)
  have HE2 := hide ((hE.below hb1).below hb2)
  obtain ⟨a0, a1, a2, a3, a4, a5, a6⟩ := var_cells hq2
  obtain ⟨c0, c1, c2, c3, c4, c5, c6⟩ := var_cells hp2
  generalize hp : W1.heap.size = p at HP2 c0 c1 c2 c3 c4 c5 c6
  have HC1 := hide (refRightAll_ok x al cc W2 S (unhide HE2) (unhide HX2) h)
  have HK := hide hk
  have HSZ := hide h.2.1
  clear hb1 hq1 hb2 hp2 hq2 hE hx hy h hk
  go_enter Tryz.func8, Tryz.ntmps8
  go_wp2_with fail
  refine (unhide HC1).mono ?_
  rintro e w3 ⟨rfl, hb3⟩
  have HB3 := hide (Below.then (unhide HB2) hb3)
  have HX3 := hide ((unhide HX2).below hb3)
  have HY3 := hide ((unhide HY2).below hb3)
  have HE3 := hide ((unhide HE2).below hb3)
  have HQ3 := hide (blockB (unhide HQ2) hb3)
  have HP3 := hide (blockB (unhide HP2) hb3)
  have HC2 := hide (refRightAll_ok y bl bc w3 R (unhide HE3) (unhide HY3) (unhide HK))
  clear hb3 HC1 a0 a1 a2 a3 a4 a5 a6 c0 c1 c2 c3 c4 c5 c6
  obtain ⟨a0, a1, a2, a3, a4, a5, a6⟩ := var_cells (unhide HQ3)
  obtain ⟨c0, c1, c2, c3, c4, c5, c6⟩ := var_cells (unhide HP3)
  go_wp2_with fail
  refine (unhide HC2).mono ?_
  rintro e w4 ⟨rfl, hb4⟩
  have HB4 := hide (Below.then (unhide HB3) hb4)
  have HX4 := hide ((unhide HX3).below hb4)
  have HY4 := hide ((unhide HY3).below hb4)
  have HQ4 := hide (blockB (unhide HQ3) hb4)
  have HP4 := hide (blockB (unhide HP3) hb4)
  have HC3 := hide (refSame_ok 512 x y al bl cc bc w4 S R (unhide HSZ) (by omega) (unhide HX4) (unhide HY4))
  clear hb4 HC2 a0 a1 a2 a3 a4 a5 a6 c0 c1 c2 c3 c4 c5 c6
  obtain ⟨a0, a1, a2, a3, a4, a5, a6⟩ := var_cells (unhide HQ4)
  obtain ⟨c0, c1, c2, c3, c4, c5, c6⟩ := var_cells (unhide HP4)
  go_wp2_with fail
  refine (unhide HC3).mono ?_
  rintro e w5 ⟨rfl, hb5⟩
  have HB5 := hide (Below.then (unhide HB4) hb5)
  clear hb5 HC3 a0 a1 a2 a3 a4 a5 a6 c0 c1 c2 c3 c4 c5 c6
  obtain ⟨b, eb⟩ : ∃ b, sameX x y = b := ⟨_, rfl⟩
  have HEB := hide eb
  rw [eb]
  clear eb
  cases b
  all_goals
    go_wp2_with fail
    go_returns
    exact ⟨by rw [unhide HEB]; exact rfl, unhide HB5⟩
end Go.Proofs.YthkkfldmoflfaaaGreatDoor
