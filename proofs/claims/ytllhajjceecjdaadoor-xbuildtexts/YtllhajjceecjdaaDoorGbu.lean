/- Several texts, laid as one. -/
import Derived.Test.YtllhajjceecjdaaDoorBuTo
/- What the law's own tree comes to. -/
namespace Go.Proofs.YtllhajjceecjdaaDoor
open Go.RowKit Go.Maps Go.Shelf Go.Sort
def lvA : Nm := ⟨[117], [112], [97]⟩
def lvB : Nm := ⟨[118], [112], [98]⟩
def lvAr : Sc := [(xmlL, xmlUriL)]
theorem lv_q : (qnS lvAr [] lvA).1 = [112, 58, 97] ∧ (qnS lvAr [] lvA).2 = [([112], [117])] := by decide
theorem lv_free : freeP lvAr [([112], [117])] = [110, 115, 48] := by
  have h : Lib.decDigits 0 = [48] := by rw [Lib.decDigits, dif_pos (by decide)]; rfl
  have hn : nsP 0 = [110, 115, 48] := by unfold nsP; rw [h]; rfl
  rw [freeP_is (k := 0) (fun j hj => by omega) (by unfold freeB; rw [hn]; decide), hn]
theorem lv_at : atsF lvAr [([112], [117])] [(lvB, [49])] = ([([110, 115, 48, 58, 98], [49])], [([110, 115, 48], [118]), ([112], [117])]) := by
  have hp : preP lvAr [([112], [117])] lvB = [110, 115, 48] := by
    unfold preP
    rw [if_pos (by decide), lv_free]
  have hq : atS lvAr [([112], [117])] lvB = ([110, 115, 48, 58, 98], [([110, 115, 48], [118]), ([112], [117])]) := by
    unfold atS qnS
    rw [if_neg (by decide), hp]
    decide
  show ([] ++ [((atS lvAr [([112], [117])] lvB).1, [49])], (atS lvAr [([112], [117])] lvB).2) = _
  rw [hq]
  rfl
theorem lv_keys {ks : List (List Nat)} (h1 : ks.Perm ([([110, 115, 48], [118]), ([112], [117])].map (·.1 : List Nat × List Nat → List Nat))) (h2 : ks.map tx = (keysL [([110, 115, 48], [118]), ([112], [117])]).mergeSort leB) : ks = [[110, 115, 48], [112]] := by
  have e : (keysL [([110, 115, 48], [118]), ([112], [117])]).mergeSort leB = [[110, 115, 48], [112]] := by
    have hk : keysL [([110, 115, 48], [118]), ([112], [117])] = [[110, 115, 48], [112]] := by decide
    rw [hk]
    exact List.mergeSort_of_pairwise (by decide)
  rw [e] at h2
  have hm := fun x => h1.mem_iff (a := x)
  have hl := h1.length_eq
  match ks, hl with
  | [x, y], _ =>
    have hx : x = [110, 115, 48] ∨ x = [112] := by simpa using (hm x).1 (by simp)
    have hy : y = [110, 115, 48] ∨ y = [112] := by simpa using (hm y).1 (by simp)
    rcases hx with rfl | rfl <;> rcases hy with rfl | rfl
    · exact absurd h2 (by decide)
    · rfl
    · exact absurd h2 (by decide)
    · exact absurd h2 (by decide)
theorem lv_decl : declsP lvAr [([110, 115, 48], [118]), ([112], [117])] [[110, 115, 48], [112]] = [([120, 109, 108, 110, 115, 58, 110, 115, 48], [118]), ([120, 109, 108, 110, 115, 58, 112], [117])] := by decide
end Go.Proofs.YtllhajjceecjdaaDoor
/- What must be whatever is asked: the law's 'live' answers true. -/
namespace Go.Proofs.YtllhajjceecjdaaDoor
open Go.RowKit Go.Maps Go.Shelf Go.Sort
set_option maxRecDepth 100000 in
set_option maxHeartbeats 4000000 in
theorem live14_any (w : World) (hE : BEnv w) :
    Calls Tryd.prog 7 #[] w fun e w' => e = .returned (.bool true) ∧ Below w.heap.size w w' := by
  have HE := hide hE
  clear hE
  go_enter Tryd.func7, Tryd.ntmps7
  go_wp2_with fail
  refine (new_any _).mono ?_
  rintro e w1 ⟨rfl, rfl⟩
  have hb1 : Below w.heap.size w (w.alloc (.cells #[.slice none 0 0, .slice none 0 0, .int .i64 0] 44)) := (Below.refl _ _).alloc (Nat.le_refl _) _
  have hp1 : BV (w.alloc (.cells #[.slice none 0 0, .slice none 0 0, .int .i64 0] 44)) w.heap.size (.slice none 0 0) (.slice none 0 0) 0 := alloc_new _ _
  generalize (w.alloc (.cells #[.slice none 0 0, .slice none 0 0, .int .i64 0] 44)) = W1 at hb1 hp1 ⊢
  have HOP := hide (open_top W1.heap.size w.heap.size none 0 (.slice none 0 0) 0 0 [] lvA W1 hp1 (World.ownsRow_nil _ _ _ _) (World.ownsRow_nil _ _ _ _) (by omega) (by omega) (by omega) (Nat.le_refl _) (okL_cs (by decide)) (okL_cs (by decide)) (okL_cs (by decide)) (by decide) (by decide) ((unhide HE).below hb1).env (by decide))
  have eu : T lvA.uri = ⟨#[117]⟩ := by rfl
  have ep : T lvA.pre = ⟨#[112]⟩ := by rfl
  have el : T lvA.loc = ⟨#[97]⟩ := by rfl
  rw [eu, ep, el] at HOP
  have HB1 := hide hb1
  have hpl : w.heap.size < W1.heap.size := (Array.getElem?_eq_some_iff.1 hp1).1
  clear hb1 hp1 eu ep el
  go_wp2_with fail
  refine (unhide HOP).mono ?_
  rintro e w2 ⟨rfl, q, m, v', vo, hq1, hm1, hev, hmo, hbv, hvn, hvo, hk2⟩
  obtain ⟨g, cg, rfl, hcg, _, _, hgc⟩ := owns_at hvo (by omega)
  have hb2 : Below w.heap.size w w2 := Kp.fresh ((Kp.of (S := fun j => j = w.heap.size) (unhide HB1)).andThen hk2 (fun j hj h => by
    rcases h with h | h | h
    · exact h
    · cases h
    · cases h)) (fun j hj => by omega)
  have hoo : OneOpen w2 w.heap.size q v' 1 lvA (.slice none 0 0) (.map (some m)) := ⟨⟨g, cg, hbv, hgc 0 _ rfl, hcg⟩, hev⟩
  have HAT := hide (attr_one w.heap.size q v' 1 lvA lvB [49] (.map (some m)) w2 hoo (by omega) (by omega) (by omega) (okL_cs (by decide)) (okL_cs (by decide)) (okL_cs (by decide)) (by decide) (by decide) (okL_cs (by decide)) ((unhide HE).below hb2).env (by decide))
  have eu : T lvB.uri = ⟨#[118]⟩ := by rfl
  have ep : T lvB.pre = ⟨#[112]⟩ := by rfl
  have el : T lvB.loc = ⟨#[98]⟩ := by rfl
  have ev : T [49] = ⟨#[49]⟩ := by rfl
  have H2 := hide (And.intro hmo (And.intro hvn (And.intro hb2 (And.intro hbv (And.intro hev (show q ≠ w.heap.size by omega))))))
  rw [show Calls Tryd.prog 17 #[.pointer (some ⟨w.heap.size, 0, none⟩), .agg #[.string (T lvB.uri), .string (T lvB.pre), .string (T lvB.loc)], .string (T [49])] w2 = Calls Tryd.prog 17 #[.pointer (some ⟨w.heap.size, 0, none⟩), .agg #[.string ⟨#[118]⟩, .string ⟨#[112]⟩, .string ⟨#[98]⟩], .string ⟨#[49]⟩] w2 by rw [eu, ep, el, ev]] at HAT
  have hql : ¬ q < w.heap.size := by omega
  clear hq1 hm1 hev hmo hbv hvn hvo hk2 hgc hcg hoo hb2 eu ep el ev HOP HB1
  go_wp2_with fail
  refine (unhide HAT).mono ?_
  rintro e w3 ⟨rfl, va, ho3, hr3, hk3⟩
  obtain ⟨hmo, hvn, hb2, hbv2, hev2, hqp⟩ := unhide H2
  obtain ⟨⟨g3, c3, b3, _, hc3⟩, ev3⟩ := ho3
  have hS : ∀ (j : Nat) es ck, w2.heap[j]? = some (Obj.map es ck) → ¬ (j = w.heap.size ∨ j = q) := by
    rintro j es ck hj (rfl | rfl)
    · rw [hbv2] at hj; cases hj
    · rw [hev2] at hj; cases hj
  have hmo3 : w3.ownsMap Tryd.prog 9 entElem m 0 (scD []) := by
    obtain ⟨es, ck, h1, h2⟩ := hmo
    exact ⟨es, ck, blk_kp hk3 h1 (hS _ _ _ h1), h2⟩
  have hvn3 := owns_kp hvn hk3 (fun j h1 h2 => h2.elim (own_apart hvn hbv2 (by decide) j h1) (own_apart hvn hev2 (by decide) j h1))
  have hb3 : Below w.heap.size w w3 := Kp.fresh ((Kp.of (S := fun j => j = w.heap.size ∨ j = q) hb2).andThen hk3 (fun _ _ h => h)) (fun j hj => by
    rcases hj with rfl | rfl
    · exact Nat.le_refl _
    · rcases Nat.lt_or_ge j w.heap.size with h | h
      · exact absurd h hql
      · exact h)
  have HCL := hide (close_one w.heap.size g3 c3 v' (1 + 1) w3 b3 hc3)
  have H3 := hide (And.intro hmo3 (And.intro hvn3 (And.intro hb3 (And.intro b3 (And.intro ev3 (And.intro hr3 hqp))))))
  clear hmo hvn hb2 hbv2 hev2 hqp b3 hc3 ev3 hS hmo3 hvn3 hb3 hr3 hk3 HAT H2
  go_wp2_with fail
  refine (unhide HCL).mono ?_
  rintro e w4 ⟨rfl, ao, c4, b4, hk4⟩
  obtain ⟨hmo3, hvn3, hb3, b3, ev3, hr3, hqp⟩ := unhide H3
  have hmo4 := map_kp hk4 hmo3 (fun e => by
    obtain ⟨es, ck, h1, _⟩ := hmo3
    rw [e, b3] at h1
    cases h1)
  have hvn4 := owns_kp hvn3 hk4 (own_apart hvn3 b3 (by decide))
  have hr4 := owns_kp hr3 hk4 (own_apart hr3 b3 (by decide))
  have ev4 : EV w4 q _ _ _ _ := blk_kp hk4 ev3 hqp
  have hb4 : Below w.heap.size w w4 := Kp.fresh ((Kp.of (S := fun j => j = w.heap.size) hb3).andThen hk4 (fun _ _ h => h)) (fun j hj => by omega)
  have HTK := hide (tokens_one w.heap.size q m ao c4 v' (1 + 1) lvA va [(lvB, [49])] [] w4 b4 (ownsRow_base_a hvn4 (Nat.zero_le _)) ev4 (ownsRow_base_a hr4 (Nat.zero_le _)) (fun x hx => by
    simp at hx
    subst hx
    exact ⟨okL_cs (by decide), okL_cs (by decide), by decide, by decide, by decide⟩) hmo4 (fun x hx => by cases hx) ((unhide HE).below hb4) (okL_cs (by decide)) (okL_cs (by decide)) (by decide) (by decide) (by decide) (by decide) (by decide) lvAr rfl)
  rw [lv_q.1, lv_q.2, lv_at] at HTK
  have HB4 := hide hb4
  clear hmo3 hvn3 hb3 b3 ev3 hr3 hqp hmo4 hvn4 hr4 ev4 hb4 b4 hk4 HCL H3
  go_wp2_with fail
  refine (unhide HTK).mono ?_
  rintro e w5 ⟨al, n, c5, rfl, ⟨va2, ks, hr5, hp1, hp2, hp3⟩, hb5⟩
  obtain rfl := lv_keys hp1 hp2
  rw [lv_decl] at hp3
  obtain ⟨g5, c6, e5, _, _, _, h5⟩ := owns_at hr5 (by omega)
  injection e5 with e5 e6 e7
  subst e5 e6 e7
  have hp4 : w5.ownsRow w4.heap.size 65 2 va2 3 (pairRow ([([120, 109, 108, 110, 115, 58, 110, 115, 48], [118]), ([120, 109, 108, 110, 115, 58, 112], [117])] ++ [([110, 115, 48, 58, 98], [49])])) := hp3
  obtain ⟨g6, c7, rfl, _, _, _, h6⟩ := owns_at hp4 (by omega)
  have t1 : T [112, 58, 97] = ⟨#[112, 58, 97]⟩ := by rfl
  have t2 : T [120, 109, 108, 110, 115, 58, 110, 115, 48] = ⟨#[120, 109, 108, 110, 115, 58, 110, 115, 48]⟩ := by rfl
  have t3 : T [110, 115, 48, 58, 98] = ⟨#[110, 115, 48, 58, 98]⟩ := by rfl
  have x1 : w5.cell? ⟨g5, 1, none⟩ = some (.string ⟨#[112, 58, 97]⟩) := by rw [← t1]; exact h5 1 _ rfl
  have x2 : w5.cell? ⟨g5, 2, none⟩ = some (.slice (some ⟨g6, 0, none⟩) 3 c7) := h5 2 _ rfl
  have x3 : w5.cell? ⟨g6, 0, none⟩ = some (.string ⟨#[120, 109, 108, 110, 115, 58, 110, 115, 48]⟩) := by rw [← t2]; exact h6 0 _ rfl
  have x4 : w5.cell? ⟨g6, 4, none⟩ = some (.string ⟨#[110, 115, 48, 58, 98]⟩) := by rw [← t3]; exact h6 4 _ rfl
  have HFB := hide (Below.then (unhide HB4) hb5)
  clear hr5 hp1 hp2 hp3 hp4 hb5 h5 h6 t1 t2 t3 HTK HB4
  go_wp2_with fail
  go_returns
  exact ⟨rfl, unhide HFB⟩
end Go.Proofs.YtllhajjceecjdaaDoor
