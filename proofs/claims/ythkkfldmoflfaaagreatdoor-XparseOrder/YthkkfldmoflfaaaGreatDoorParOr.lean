/- XparseOrder: operators of one strength go to the left, of two the stronger one is within. -/
import Derived.Test.YthkkfldmoflfaaaGreatDoorGbu
namespace Go.Proofs.YthkkfldmoflfaaaGreatDoor
open Go.RowKit Go.Maps
def opT (p : Nat) : List Nat := (opAt p).1
def txtO (p q : Nat) : List Nat := [97, 32] ++ opT p ++ [32, 98, 32] ++ opT q ++ [32, 99]
def txtL (p q : Nat) : List Nat := [40, 97, 32] ++ opT p ++ [32, 98, 41, 32] ++ opT q ++ [32, 99]
def txtR (p q : Nat) : List Nat := [97, 32] ++ opT p ++ [32, 40, 98, 32] ++ opT q ++ [32, 99, 41]
def atO (p : Nat) : Nat := [1, 2, 3, 3, 4, 4, 4, 4, 5, 5, 6, 6, 6, 7].getD p 0
theorem l_cells : ∀ p, p < 14 → (#[.string ⟨#[111, 114]⟩, .string ⟨#[97, 110, 100]⟩, .string ⟨#[61]⟩, .string ⟨#[33, 61]⟩, .string ⟨#[60]⟩, .string ⟨#[60, 61]⟩, .string ⟨#[62]⟩, .string ⟨#[62, 61]⟩, .string ⟨#[43]⟩, .string ⟨#[45]⟩, .string ⟨#[42]⟩, .string ⟨#[100, 105, 118]⟩, .string ⟨#[109, 111, 100]⟩, .string ⟨#[124]⟩] : Array Value)[p]? = some (.string (T (opT p))) := fun p h => by
  rcases (show p = 0 ∨ p = 1 ∨ p = 2 ∨ p = 3 ∨ p = 4 ∨ p = 5 ∨ p = 6 ∨ p = 7 ∨ p = 8 ∨ p = 9 ∨ p = 10 ∨ p = 11 ∨ p = 12 ∨ p = 13 by omega) with rfl | rfl | rfl | rfl | rfl | rfl | rfl | rfl | rfl | rfl | rfl | rfl | rfl | rfl <;> rfl
theorem a_cells : ∀ p, p < 14 → (#[.int .i64 1, .int .i64 2, .int .i64 3, .int .i64 3, .int .i64 4, .int .i64 4, .int .i64 4, .int .i64 4, .int .i64 5, .int .i64 5, .int .i64 6, .int .i64 6, .int .i64 6, .int .i64 7] : Array Value)[p]? = some (.int .i64 (atO p : Nat)) := fun p h => by
  rcases (show p = 0 ∨ p = 1 ∨ p = 2 ∨ p = 3 ∨ p = 4 ∨ p = 5 ∨ p = 6 ∨ p = 7 ∨ p = 8 ∨ p = 9 ∨ p = 10 ∨ p = 11 ∨ p = 12 ∨ p = 13 by omega) with rfl | rfl | rfl | rfl | rfl | rfl | rfl | rfl | rfl | rfl | rfl | rfl | rfl | rfl <;> rfl
theorem opT_asc : ∀ p, p < 14 → (opT p).all (fun c => decide (32 ≤ c) && decide (c < 128)) = true ∧ (opT p).length ≤ 3 ∧ (T (opT p)).size ≤ 3 := by decide
theorem txt_asc : ∀ p, p < 14 → ∀ q, q < 14 → ((txtO p q).all (fun c => decide (32 ≤ c) && decide (c < 128)) && ((txtL p q).all (fun c => decide (32 ≤ c) && decide (c < 128)) && (txtR p q).all (fun c => decide (32 ≤ c) && decide (c < 128)))) = true := by decide +kernel
theorem T_cat (a b c d e : List Nat) : T a ++ T b ++ T c ++ T d ++ T e = T (a ++ b ++ c ++ d ++ e) := by rw [T_app, T_app, T_app, T_app]
/-- What stands in the variable of an expression that was parsed. -/
structure VarP (W : World) (q : Nat) (x : Ex) (W' : World) : Prop where
  bel : Below W.heap.size W W'
  lo : W.heap.size ≤ q
  ex : ∃ al cc, W'.heap[q]? = some (oneB x (.slice al x.kids.length cc)) ∧ exV W' (fun j => W.heap.size ≤ j) x (.slice al x.kids.length cc)
theorem varp_a {W w2 : World} {x : Ex} {al : Option Addr} {cc : Nat} (hq : w2.heap[W.heap.size]? = some expr0) (r1 : exV w2 (fun j => (W.drew.alloc expr0).heap.size ≤ j) x (.slice al x.kids.length cc)) (r2 : Below (W.drew.alloc expr0).heap.size (W.drew.alloc expr0) w2) : VarP W W.heap.size x (put7 w2 W.heap.size x (.slice al x.kids.length cc)) := by
  have hs : (W.drew.alloc expr0).heap.size = W.heap.size + 1 := by simp
  have hk := put7_kq w2 W.heap.size x (.slice al x.kids.length cc)
  have hb : Below W.heap.size W (W.drew.alloc expr0) := (Below.refl _ _).drew.alloc (Nat.le_refl _) _
  refine ⟨Kq.fresh (((Kq.of (S := fun j => j = W.heap.size) hb).andThen (Kq.of (S := fun j => j = W.heap.size) r2) (fun _ _ h => h)).andThen hk (fun _ _ h => h)) (fun j hj => by omega), Nat.le_refl _, al, cc, put7_var hq x _, (r1.kept hk (fun j hj _ e => by omega)).mono (fun j hj => by omega) (fun _ _ _ h => h)⟩
theorem varp_b {W w2 : World} {x : Ex} {al : Option Addr} {cc : Nat} (r1 : exV w2 (fun j => W.drew.heap.size ≤ j) x (.slice al x.kids.length cc)) (r2 : Below W.drew.heap.size W.drew w2) : VarP W w2.heap.size x (w2.alloc (oneB x (.slice al x.kids.length cc))) := by
  have hb : Below W.heap.size W w2 := Below.then ((Below.refl W.heap.size W).drew) r2
  have ha : Below w2.heap.size w2 (w2.alloc (oneB x (.slice al x.kids.length cc))) := (Below.refl _ _).alloc (Nat.le_refl _) _
  exact ⟨Below.then hb ha, hb.size, al, cc, palloc_new _ _, r1.below ha⟩
theorem txt_size : ∀ p, p < 14 → ∀ q, q < 14 → (T (txtO p q)).size ≤ 512 ∧ (T (txtL p q)).size ≤ 512 ∧ (T (txtR p q)).size ≤ 512 := by
  intro p hp q hq
  have h1 := (opT_asc p hp).2.1
  have h2 := (opT_asc q hq).2.1
  have h3 := tx_len4 (txtO p q)
  have h4 := tx_len4 (txtL p q)
  have h5 := tx_len4 (txtR p q)
  rw [T_size, T_size, T_size]
  unfold txtO txtL txtR at *
  simp only [List.length_append, List.length_cons, List.length_nil] at *
  omega
/-- An expression in a variable, later on. -/
theorem VarP.at {W W' W2 : World} {q : Nat} {x : Ex} (h : VarP W q x W') (hb : Below W'.heap.size W' W2) : ∃ al cc, W2.heap[q]? = some (oneB x (.slice al x.kids.length cc)) ∧ exV W2 (fun j => W.heap.size ≤ j) x (.slice al x.kids.length cc) := by
  obtain ⟨al, cc, h1, h2⟩ := h.ex
  exact ⟨al, cc, blockB h1 hb, h2.below hb⟩
set_option maxRecDepth 100000 in
set_option maxHeartbeats 2000000 in
theorem order_walk6 (i k p q : Nat) (hi : i < 256) (hk : k < 256) (hp : p = i % 14) (hq : q = k % 14) (x l r : Ex) (hx : chkP (txtO p q) = some x) (hl : chkP (txtL p q) = some l) (hr : chkP (txtR p q) = some r)
    (hs : (atO q ≤ atO p ∧ sameX x l = true ∧ sameX x r = false) ∨ (¬ atO q ≤ atO p ∧ sameX x r = true ∧ sameX x l = false)) (w : World) (hE : Env6 w) :
    Calls Tryz.prog 3 #[.int .u8 (i : Nat), .int .u8 (k : Nat)] w fun e w' => e = .returned (.bool true) ∧ Below w.heap.size w w' := by
  have c1 : (Int.tmod ((i : Nat) : Int) 14) = ((p : Nat) : Int) := by rw [hp]; rfl
  have c2 : (Int.tmod ((k : Nat) : Int) 14) = ((q : Nat) : Int) := by rw [hq]; rfl
  have w1 : IntKind.i64.wrap ((i : Nat) : Int) = ((i : Nat) : Int) := by rw [wrap_small] <;> omega
  have w2 : IntKind.i64.wrap ((k : Nat) : Int) = ((k : Nat) : Int) := by rw [wrap_small] <;> omega
  have hp14 : p < 14 := by omega
  have hq14 : q < 14 := by omega
  obtain ⟨W0, e0⟩ : ∃ W0, w.alloc (.cells #[.string ⟨#[111, 114]⟩, .string ⟨#[97, 110, 100]⟩, .string ⟨#[61]⟩, .string ⟨#[33, 61]⟩, .string ⟨#[60]⟩, .string ⟨#[60, 61]⟩, .string ⟨#[62]⟩, .string ⟨#[62, 61]⟩, .string ⟨#[43]⟩, .string ⟨#[45]⟩, .string ⟨#[42]⟩, .string ⟨#[100, 105, 118]⟩, .string ⟨#[109, 111, 100]⟩, .string ⟨#[124]⟩] 9) = W0 := ⟨_, rfl⟩
  obtain ⟨W, e1⟩ : ∃ W, W0.alloc (.cells #[.int .i64 1, .int .i64 2, .int .i64 3, .int .i64 3, .int .i64 4, .int .i64 4, .int .i64 4, .int .i64 4, .int .i64 5, .int .i64 5, .int .i64 6, .int .i64 6, .int .i64 6, .int .i64 7] 3) = W := ⟨_, rfl⟩
  have hb0 : Below w.heap.size w W0 := by rw [← e0]; exact (Below.refl _ _).alloc (Nat.le_refl _) _
  have hb1 : Below W0.heap.size W0 W := by rw [← e1]; exact (Below.refl _ _).alloc (Nat.le_refl _) _
  have hl0 : W0.heap[w.heap.size]? = some (.cells #[.string ⟨#[111, 114]⟩, .string ⟨#[97, 110, 100]⟩, .string ⟨#[61]⟩, .string ⟨#[33, 61]⟩, .string ⟨#[60]⟩, .string ⟨#[60, 61]⟩, .string ⟨#[62]⟩, .string ⟨#[62, 61]⟩, .string ⟨#[43]⟩, .string ⟨#[45]⟩, .string ⟨#[42]⟩, .string ⟨#[100, 105, 118]⟩, .string ⟨#[109, 111, 100]⟩, .string ⟨#[124]⟩] 9) := by rw [← e0]; exact palloc_new _ _
  have ha1 : W.heap[W0.heap.size]? = some (.cells #[.int .i64 1, .int .i64 2, .int .i64 3, .int .i64 3, .int .i64 4, .int .i64 4, .int .i64 4, .int .i64 4, .int .i64 5, .int .i64 5, .int .i64 6, .int .i64 6, .int .i64 6, .int .i64 7] 3) := by rw [← e1]; exact palloc_new _ _
  have hl1 := blockB hl0 hb1
  have s0 : W0.heap.size = w.heap.size + 1 := by rw [← e0]; simp
  have CP := hide (show W.cell? ⟨w.heap.size, p, none⟩ = some (.string (T (opT p))) from (pcell hl1 p).trans (l_cells p hp14))
  have CQ := hide (show W.cell? ⟨w.heap.size, q, none⟩ = some (.string (T (opT q))) from (pcell hl1 q).trans (l_cells q hq14))
  have DP := hide (show W.cell? ⟨W0.heap.size, p, none⟩ = some (.int .i64 (atO p : Nat)) from (pcell ha1 p).trans (a_cells p hp14))
  have DQ := hide (show W.cell? ⟨W0.heap.size, q, none⟩ = some (.int .i64 (atO q : Nat)) from (pcell ha1 q).trans (a_cells q hq14))
  have HGL := hide (Array.getElem?_eq_some_iff.1 hl1).1
  have HEW := hide ((hE.below hb0).below hb1)
  have HBW := hide (Below.then hb0 hb1)
  have hasc := txt_asc p hp14 q hq14
  simp only [Bool.and_eq_true] at hasc
  have hsz := txt_size p hp14 q hq14
  have HP1 := hide (fun W' (hE : Env6 W') => parse_chk (txtO p q) x W' hx (okL_asc hasc.1) hsz.1 hE.env)
  have HP2 := hide (fun W' (hE : Env6 W') => parse_chk (txtL p q) l W' hl (okL_asc hasc.2.1) hsz.2.1 hE.env)
  have HP3 := hide (fun W' (hE : Env6 W') => parse_chk (txtR p q) r W' hr (okL_asc hasc.2.2) hsz.2.2 hE.env)
  have HOK := hide (And.intro (chkP_inv hx).1 (And.intro (chkP_inv hl).1 (chkP_inv hr).1))
  rw [show T (txtO p q) = (⟨#[97, 32]⟩ : ByteArray) ++ T (opT p) ++ ⟨#[32, 98, 32]⟩ ++ T (opT q) ++ ⟨#[32, 99]⟩ from by rw [show (⟨#[97, 32]⟩ : ByteArray) = T [97, 32] from rfl, show (⟨#[32, 98, 32]⟩ : ByteArray) = T [32, 98, 32] from rfl, show (⟨#[32, 99]⟩ : ByteArray) = T [32, 99] from rfl, T_cat]; rfl] at HP1
  rw [show T (txtL p q) = (⟨#[40, 97, 32]⟩ : ByteArray) ++ T (opT p) ++ ⟨#[32, 98, 41, 32]⟩ ++ T (opT q) ++ ⟨#[32, 99]⟩ from by rw [show (⟨#[40, 97, 32]⟩ : ByteArray) = T [40, 97, 32] from rfl, show (⟨#[32, 98, 41, 32]⟩ : ByteArray) = T [32, 98, 41, 32] from rfl, show (⟨#[32, 99]⟩ : ByteArray) = T [32, 99] from rfl, T_cat]; rfl] at HP2
  rw [show T (txtR p q) = (⟨#[97, 32]⟩ : ByteArray) ++ T (opT p) ++ ⟨#[32, 40, 98, 32]⟩ ++ T (opT q) ++ ⟨#[32, 99, 41]⟩ from by rw [show (⟨#[97, 32]⟩ : ByteArray) = T [97, 32] from rfl, show (⟨#[32, 40, 98, 32]⟩ : ByteArray) = T [32, 40, 98, 32] from rfl, show (⟨#[32, 99, 41]⟩ : ByteArray) = T [32, 99, 41] from rfl, T_cat]; rfl] at HP3
  have zp := (opT_asc p hp14).2.2
  have zq := (opT_asc q hq14).2.2
  have b1 : p < 14 := hp14
  have b2 : q < 14 := hq14
  have b3 : ((p : Nat) : Int) < 14 := by omega
  have b4 : ((q : Nat) : Int) < 14 := by omega
  generalize T (opT p) = sp at *
  generalize T (opT q) = sq at *
  have z0 : (⟨#[97, 32]⟩ : ByteArray).size = 2 := rfl
  have z1 : (⟨#[40, 97, 32]⟩ : ByteArray).size = 3 := rfl
  have z2 : (⟨#[32, 98, 32]⟩ : ByteArray).size = 3 := rfl
  have z3 : (⟨#[32, 99]⟩ : ByteArray).size = 2 := rfl
  have z4 : (⟨#[32, 98, 41, 32]⟩ : ByteArray).size = 4 := rfl
  have z5 : (⟨#[32, 40, 98, 32]⟩ : ByteArray).size = 4 := rfl
  have z6 : (⟨#[32, 99, 41]⟩ : ByteArray).size = 3 := rfl
  have f0 : (9223372036854775807 < 2 + sp.size) = False := by simp only [eq_iff_iff, iff_false]; omega
  have f1 : (9223372036854775807 < 2 + sp.size + 3) = False := by simp only [eq_iff_iff, iff_false]; omega
  have f2 : (9223372036854775807 < 2 + sp.size + 3 + sq.size) = False := by simp only [eq_iff_iff, iff_false]; omega
  have f3 : (9223372036854775807 < 2 + sp.size + 3 + sq.size + 2) = False := by simp only [eq_iff_iff, iff_false]; omega
  have f4 : (9223372036854775807 < 3 + sp.size) = False := by simp only [eq_iff_iff, iff_false]; omega
  have f5 : (9223372036854775807 < 3 + sp.size + 4) = False := by simp only [eq_iff_iff, iff_false]; omega
  have f6 : (9223372036854775807 < 3 + sp.size + 4 + sq.size) = False := by simp only [eq_iff_iff, iff_false]; omega
  have f7 : (9223372036854775807 < 3 + sp.size + 4 + sq.size + 2) = False := by simp only [eq_iff_iff, iff_false]; omega
  have f8 : (9223372036854775807 < 2 + sp.size + 4) = False := by simp only [eq_iff_iff, iff_false]; omega
  have f9 : (9223372036854775807 < 2 + sp.size + 4 + sq.size) = False := by simp only [eq_iff_iff, iff_false]; omega
  have f10 : (9223372036854775807 < 2 + sp.size + 4 + sq.size + 3) = False := by simp only [eq_iff_iff, iff_false]; omega
  have HS := hide hs
  clear hi hk hp hq hE hb0 hb1 hl0 ha1 hl1 s0 hx hl hr hasc hsz hs
  go_enter Tryz.func3, Tryz.ntmps3
  have cp := unhide CP
  have cq := unhide CQ
  have HEC := HEW
  have hgl := unhide HGL
  have hba := (Below.refl W.heap.size W).alloc (Nat.le_refl _) expr0
  have cpa : (W.alloc expr0).drew.cell? ⟨w.heap.size, p, none⟩ = some (.string sp) := pkept hba.drew cp
  have cqa : (W.alloc expr0).drew.cell? ⟨w.heap.size, q, none⟩ = some (.string sq) := pkept hba.drew cq
  have cpd : W.drew.cell? ⟨w.heap.size, p, none⟩ = some (.string sp) := cp
  have cqd : W.drew.cell? ⟨w.heap.size, q, none⟩ = some (.string sq) := cq
  have hgd : w.heap.size < W.drew.heap.size := hgl
  have HP := hide (fun W' (hb : Below W.heap.size W W') => (unhide HP1) W' ((unhide HEC).below hb))
  clear hba
  go_wp2_with fail
  go_cut [9, 10] (fun sx se wx => se = .int .i64 0 ∧ ∃ qx, sx = .pointer (some ⟨qx, 0, none⟩) ∧ VarP W qx x wx)
  case first =>
    go_region_law (first
      | (go_simp; go_at_call 6; refine (unhide HP _ (by repeat (first | exact Below.refl _ _ | refine Below.drew ?_ | refine Below.alloc ?_ (Nat.le_refl _) _))).mono ?_; rintro e w2 ⟨al, cc, rfl, r1, r2⟩; (have HXX := hide r1); (have HBB := hide r2); first | ((have hqv : w2.heap[W.heap.size]? = some expr0 := blockB (palloc_new W.drew expr0) r2); (have HQV := hide hqv); obtain ⟨y0, y1, y2, y3, y4, y5, y6⟩ := var_cells hqv; obtain ⟨o0, o1, o2, o3, o4, o5, o6⟩ := var_opens hqv; clear hqv r1 r2) | clear r1 r2))
    all_goals (try go_wp2_with fail)
    all_goals go_meet
    all_goals first | exact ⟨rfl, _, rfl, varp_a (unhide HQV) (unhide HXX) (unhide HBB)⟩ | exact ⟨rfl, _, rfl, varp_b (unhide HXX) (unhide HBB)⟩
  obtain ⟨rfl, q1, rfl, hv1⟩ := hcut
  have HV1 := hide hv1
  rename World => W2
  clear cp cq cpa cqa cpd cqd hgl hgd HP HEC hv1
  have cp := pkept (unhide HV1).bel (unhide CP)
  have cq := pkept (unhide HV1).bel (unhide CQ)
  have HEC := hide ((unhide HEW).below (unhide HV1).bel)
  have hgl := Nat.lt_of_lt_of_le (unhide HGL) ((unhide HV1).bel).size
  have hba := (Below.refl W2.heap.size W2).alloc (Nat.le_refl _) expr0
  have cpa : (W2.alloc expr0).drew.cell? ⟨w.heap.size, p, none⟩ = some (.string sp) := pkept hba.drew cp
  have cqa : (W2.alloc expr0).drew.cell? ⟨w.heap.size, q, none⟩ = some (.string sq) := pkept hba.drew cq
  have cpd : W2.drew.cell? ⟨w.heap.size, p, none⟩ = some (.string sp) := cp
  have cqd : W2.drew.cell? ⟨w.heap.size, q, none⟩ = some (.string sq) := cq
  have hgd : w.heap.size < W2.drew.heap.size := hgl
  have HP := hide (fun W' (hb : Below W2.heap.size W2 W') => (unhide HP2) W' ((unhide HEC).below hb))
  clear hba
  go_wp2_with fail
  go_cut [11, 12] (fun sx se wx => se = .int .i64 0 ∧ ∃ qx, sx = .pointer (some ⟨qx, 0, none⟩) ∧ VarP W2 qx l wx)
  case first =>
    go_region_law (first
      | (go_simp; go_at_call 6; refine (unhide HP _ (by repeat (first | exact Below.refl _ _ | refine Below.drew ?_ | refine Below.alloc ?_ (Nat.le_refl _) _))).mono ?_; rintro e w2 ⟨al, cc, rfl, r1, r2⟩; (have HXX := hide r1); (have HBB := hide r2); first | ((have hqv : w2.heap[W2.heap.size]? = some expr0 := blockB (palloc_new W2.drew expr0) r2); (have HQV := hide hqv); obtain ⟨y0, y1, y2, y3, y4, y5, y6⟩ := var_cells hqv; obtain ⟨o0, o1, o2, o3, o4, o5, o6⟩ := var_opens hqv; clear hqv r1 r2) | clear r1 r2))
    all_goals (try go_wp2_with fail)
    all_goals go_meet
    all_goals first | exact ⟨rfl, _, rfl, varp_a (unhide HQV) (unhide HXX) (unhide HBB)⟩ | exact ⟨rfl, _, rfl, varp_b (unhide HXX) (unhide HBB)⟩
  obtain ⟨rfl, q2, rfl, hv2⟩ := hcut
  have HV2 := hide hv2
  rename World => W3
  clear cp cq cpa cqa cpd cqd hgl hgd HP HEC hv2
  have cp := pkept (Below.then (unhide HV1).bel (unhide HV2).bel) (unhide CP)
  have cq := pkept (Below.then (unhide HV1).bel (unhide HV2).bel) (unhide CQ)
  have HEC := hide ((unhide HEW).below (Below.then (unhide HV1).bel (unhide HV2).bel))
  have hgl := Nat.lt_of_lt_of_le (unhide HGL) ((Below.then (unhide HV1).bel (unhide HV2).bel)).size
  have hba := (Below.refl W3.heap.size W3).alloc (Nat.le_refl _) expr0
  have cpa : (W3.alloc expr0).drew.cell? ⟨w.heap.size, p, none⟩ = some (.string sp) := pkept hba.drew cp
  have cqa : (W3.alloc expr0).drew.cell? ⟨w.heap.size, q, none⟩ = some (.string sq) := pkept hba.drew cq
  have cpd : W3.drew.cell? ⟨w.heap.size, p, none⟩ = some (.string sp) := cp
  have cqd : W3.drew.cell? ⟨w.heap.size, q, none⟩ = some (.string sq) := cq
  have hgd : w.heap.size < W3.drew.heap.size := hgl
  have HP := hide (fun W' (hb : Below W3.heap.size W3 W') => (unhide HP3) W' ((unhide HEC).below hb))
  clear hba
  go_wp2_with fail
  go_cut [13, 14] (fun sx se wx => se = .int .i64 0 ∧ ∃ qx, sx = .pointer (some ⟨qx, 0, none⟩) ∧ VarP W3 qx r wx)
  case first =>
    go_region_law (first
      | (go_simp; go_at_call 6; refine (unhide HP _ (by repeat (first | exact Below.refl _ _ | refine Below.drew ?_ | refine Below.alloc ?_ (Nat.le_refl _) _))).mono ?_; rintro e w2 ⟨al, cc, rfl, r1, r2⟩; (have HXX := hide r1); (have HBB := hide r2); first | ((have hqv : w2.heap[W3.heap.size]? = some expr0 := blockB (palloc_new W3.drew expr0) r2); (have HQV := hide hqv); obtain ⟨y0, y1, y2, y3, y4, y5, y6⟩ := var_cells hqv; obtain ⟨o0, o1, o2, o3, o4, o5, o6⟩ := var_opens hqv; clear hqv r1 r2) | clear r1 r2))
    all_goals (try go_wp2_with fail)
    all_goals go_meet
    all_goals first | exact ⟨rfl, _, rfl, varp_a (unhide HQV) (unhide HXX) (unhide HBB)⟩ | exact ⟨rfl, _, rfl, varp_b (unhide HXX) (unhide HBB)⟩
  obtain ⟨rfl, q3, rfl, hv3⟩ := hcut
  have HV3 := hide hv3
  rename World => W4
  clear cp cq cpa cqa cpd cqd hgl hgd HP HEC hv3
  have HB4 := hide (Below.then (unhide HBW) (Below.then (unhide HV1).bel (Below.then (unhide HV2).bel (unhide HV3).bel)))
  have HV1b := hide ((unhide HV1).at (Below.then (unhide HV2).bel (unhide HV3).bel))
  have HV2b := hide ((unhide HV2).at (unhide HV3).bel)
  have HV3b := hide ((unhide HV3).at (Below.refl _ _))
  have HE4 := hide ((((unhide HEW).below (unhide HV1).bel).below (unhide HV2).bel).below (unhide HV3).bel)
  have dp := pkept (Below.then (unhide HV1).bel (Below.then (unhide HV2).bel (unhide HV3).bel)) (unhide DP)
  have dq := pkept (Below.then (unhide HV1).bel (Below.then (unhide HV2).bel (unhide HV3).bel)) (unhide DQ)
  have HXD : Hid (ClsW W4 W4.drew) := hide ((Below.refl _ _).drew)
  have HCE := hide (fun w' (hC : ClsW W4 w') => (⟨pkept hC dp, pkept hC dq⟩ : _ ∧ _))
  have HL := hide (fun w hE => live6_any w hE)
  clear HV1 HV2 HV3 CP CQ DP DQ HEW HBW HP1 HP2 HP3 dp dq e0 e1
  go_wp2_with fail
  generalize W0.heap.size = g1 at *
  rcases unhide HS with ⟨ha, h1, h2⟩ | ⟨ha, h1, h2⟩
  · have n1 : decide (((atO q : Nat) : Int) ≤ ((atO p : Nat) : Int)) = true := decide_eq_true (by omega)
    have H12 := hide (And.intro h1 h2)
    have n2 := ha
    clear HS ha h1 h2
    generalize atO p = ap at *
    generalize atO q = aq at *
    refine wp_region_cls (ClsW W4) (by kernel_rfl) (by kernel_rfl) (unhide HXD) ?_
    repeat
      (first
        | go_big_quiet_skip
        | (go_big_quiet_want
           go_big_quiet_op
           first
             | go_big_quiet_on
             | (apply Exists.intro
                refine ⟨fun w' hC => ?_, ?_⟩
                · (obtain ⟨zz1, zz2⟩ := unhide HCE _ hC; go_simp; first | done | rfl)
                go_big_quiet_on)))
    refine wpQuiet_nil ?_
    intro w5 hb5
    have HB5 := hide (Below.then (unhide HB4) hb5)
    have HE5 := hide ((unhide HE4).below hb5)
    have HX5 := hide ((unhide HV1b).elim fun al h => h.elim fun cc h => (⟨al, cc, blockB h.1 hb5, h.2.below hb5⟩ : ∃ al cc, w5.heap[q1]? = some (oneB x (.slice al x.kids.length cc)) ∧ exV w5 (fun j => W.heap.size ≤ j) x (.slice al x.kids.length cc)))
    have HL5 := hide ((unhide HV2b).elim fun al h => h.elim fun cc h => (⟨al, cc, blockB h.1 hb5, h.2.below hb5⟩ : ∃ al cc, w5.heap[q2]? = some (oneB l (.slice al l.kids.length cc)) ∧ exV w5 (fun j => W2.heap.size ≤ j) l (.slice al l.kids.length cc)))
    have HR5 := hide ((unhide HV3b).elim fun al h => h.elim fun cc h => (⟨al, cc, blockB h.1 hb5, h.2.below hb5⟩ : ∃ al cc, w5.heap[q3]? = some (oneB r (.slice al r.kids.length cc)) ∧ exV w5 (fun j => W3.heap.size ≤ j) r (.slice al r.kids.length cc)))
    have HLC := hide (unhide HL w5 (unhide HE5))
    clear hb5 HV1b HV2b HV3b HXD HCE HB4 HE4 HL
    go_wp2_with fail
    refine (unhide HLC).mono ?_
    rintro e w6 ⟨rfl, hb6⟩
    obtain ⟨xa, xc, hx1, hx2⟩ := unhide HX5
    obtain ⟨la, lc, hl1, hl2⟩ := unhide HL5
    obtain ⟨ra, rc, hr1, hr2⟩ := unhide HR5
    have HX6 := hide (hx2.below hb6)
    have HL6 := hide (hl2.below hb6)
    have HR6 := hide (hr2.below hb6)
    have HQ1 := hide (blockB hx1 hb6)
    have HQ2 := hide (blockB hl1 hb6)
    have HQ3 := hide (blockB hr1 hb6)
    have HB6 := hide (Below.then (unhide HB5) hb6)
    have HE6 := hide ((unhide HE5).below hb6)
    have hok := unhide HOK
    have HC1 := hide (refSameAll_ok x l xa la xc lc w6 _ _ (unhide HE6).env (unhide HX6) (unhide HL6) hok.1 hok.2.1)
    rw [(unhide H12).1] at HC1
    clear hb6 hx1 hx2 hl1 hl2 hr1 hr2 HX5 HL5 HR5 HLC hok
    obtain ⟨a0, a1, a2, a3, a4, a5, a6⟩ := var_cells (unhide HQ1)
    obtain ⟨d0, d1, d2, d3, d4, d5, d6⟩ := var_cells (unhide HQ2)
    go_wp2_with fail
    refine (unhide HC1).mono ?_
    rintro e w7 ⟨rfl, hb7⟩
    have hok := unhide HOK
    have HC2 := hide (refSameAll_ok x r xa ra xc rc w7 _ _ ((unhide HE6).below hb7).env ((unhide HX6).below hb7) ((unhide HR6).below hb7) hok.1 hok.2.2)
    rw [(unhide H12).2] at HC2
    have HQ17 := blockB (unhide HQ1) hb7
    have HQ37 := blockB (unhide HQ3) hb7
    have HB7 := hide (Below.then (unhide HB6) hb7)
    clear a0 a1 a2 a3 a4 a5 a6 d0 d1 d2 d3 d4 d5 d6 hok hb7 HC1
    obtain ⟨a0, a1, a2, a3, a4, a5, a6⟩ := var_cells HQ17
    obtain ⟨d0, d1, d2, d3, d4, d5, d6⟩ := var_cells HQ37
    clear HQ17 HQ37
    go_wp2_with fail
    refine (unhide HC2).mono ?_
    rintro e w8 ⟨rfl, hb8⟩
    have HB8 := hide (Below.then (unhide HB7) hb8)
    clear a0 a1 a2 a3 a4 a5 a6 d0 d1 d2 d3 d4 d5 d6 hb8 HC2
    go_wp2_with fail
    go_returns
    exact ⟨rfl, unhide HB8⟩
  · have n1 : decide (((atO q : Nat) : Int) ≤ ((atO p : Nat) : Int)) = false := decide_eq_false (by omega)
    have H12 := hide (And.intro h1 h2)
    have n2 := ha
    clear HS ha h1 h2
    generalize atO p = ap at *
    generalize atO q = aq at *
    refine wp_region_cls (ClsW W4) (by kernel_rfl) (by kernel_rfl) (unhide HXD) ?_
    repeat
      (first
        | go_big_quiet_skip
        | (go_big_quiet_want
           go_big_quiet_op
           first
             | go_big_quiet_on
             | (apply Exists.intro
                refine ⟨fun w' hC => ?_, ?_⟩
                · (obtain ⟨zz1, zz2⟩ := unhide HCE _ hC; go_simp; first | done | rfl)
                go_big_quiet_on)))
    refine wpQuiet_nil ?_
    intro w5 hb5
    have HB5 := hide (Below.then (unhide HB4) hb5)
    have HE5 := hide ((unhide HE4).below hb5)
    have HX5 := hide ((unhide HV1b).elim fun al h => h.elim fun cc h => (⟨al, cc, blockB h.1 hb5, h.2.below hb5⟩ : ∃ al cc, w5.heap[q1]? = some (oneB x (.slice al x.kids.length cc)) ∧ exV w5 (fun j => W.heap.size ≤ j) x (.slice al x.kids.length cc)))
    have HL5 := hide ((unhide HV2b).elim fun al h => h.elim fun cc h => (⟨al, cc, blockB h.1 hb5, h.2.below hb5⟩ : ∃ al cc, w5.heap[q2]? = some (oneB l (.slice al l.kids.length cc)) ∧ exV w5 (fun j => W2.heap.size ≤ j) l (.slice al l.kids.length cc)))
    have HR5 := hide ((unhide HV3b).elim fun al h => h.elim fun cc h => (⟨al, cc, blockB h.1 hb5, h.2.below hb5⟩ : ∃ al cc, w5.heap[q3]? = some (oneB r (.slice al r.kids.length cc)) ∧ exV w5 (fun j => W3.heap.size ≤ j) r (.slice al r.kids.length cc)))
    have HLC := hide (unhide HL w5 (unhide HE5))
    clear hb5 HV1b HV2b HV3b HXD HCE HB4 HE4 HL
    go_wp2_with fail
    refine (unhide HLC).mono ?_
    rintro e w6 ⟨rfl, hb6⟩
    obtain ⟨xa, xc, hx1, hx2⟩ := unhide HX5
    obtain ⟨la, lc, hl1, hl2⟩ := unhide HL5
    obtain ⟨ra, rc, hr1, hr2⟩ := unhide HR5
    have HX6 := hide (hx2.below hb6)
    have HL6 := hide (hl2.below hb6)
    have HR6 := hide (hr2.below hb6)
    have HQ1 := hide (blockB hx1 hb6)
    have HQ2 := hide (blockB hl1 hb6)
    have HQ3 := hide (blockB hr1 hb6)
    have HB6 := hide (Below.then (unhide HB5) hb6)
    have HE6 := hide ((unhide HE5).below hb6)
    have hok := unhide HOK
    have HC1 := hide (refSameAll_ok x r xa ra xc rc w6 _ _ (unhide HE6).env (unhide HX6) (unhide HR6) hok.1 hok.2.2)
    rw [(unhide H12).1] at HC1
    clear hb6 hx1 hx2 hl1 hl2 hr1 hr2 HX5 HL5 HR5 HLC hok
    obtain ⟨a0, a1, a2, a3, a4, a5, a6⟩ := var_cells (unhide HQ1)
    obtain ⟨d0, d1, d2, d3, d4, d5, d6⟩ := var_cells (unhide HQ3)
    go_wp2_with fail
    refine (unhide HC1).mono ?_
    rintro e w7 ⟨rfl, hb7⟩
    have hok := unhide HOK
    have HC2 := hide (refSameAll_ok x l xa la xc lc w7 _ _ ((unhide HE6).below hb7).env ((unhide HX6).below hb7) ((unhide HL6).below hb7) hok.1 hok.2.1)
    rw [(unhide H12).2] at HC2
    have HQ17 := blockB (unhide HQ1) hb7
    have HQ37 := blockB (unhide HQ2) hb7
    have HB7 := hide (Below.then (unhide HB6) hb7)
    clear a0 a1 a2 a3 a4 a5 a6 d0 d1 d2 d3 d4 d5 d6 hok hb7 HC1
    obtain ⟨a0, a1, a2, a3, a4, a5, a6⟩ := var_cells HQ17
    obtain ⟨d0, d1, d2, d3, d4, d5, d6⟩ := var_cells HQ37
    clear HQ17 HQ37
    go_wp2_with fail
    refine (unhide HC2).mono ?_
    rintro e w8 ⟨rfl, hb8⟩
    have HB8 := hide (Below.then (unhide HB7) hb8)
    clear a0 a1 a2 a3 a4 a5 a6 d0 d1 d2 d3 d4 d5 d6 hb8 HC2
    go_wp2_with fail
    go_returns
    exact ⟨rfl, unhide HB8⟩
end Go.Proofs.YthkkfldmoflfaaaGreatDoor
