/- The reference's order of rows: stencilref13's Order. -/
import Derived.Test.YtoeahagloobmoaaGreatDoorRefAhead
import Derived.Test.YtoeahagloobmoaaGreatDoorInsPlain
import Derived.Test.YtoeahagloobmoaaGreatDoorRowsT
import Derived.Test.YtoeahagloobmoaaGreatDoorStabGo3
import Derived.Deep.AppendLies
namespace Go.Proofs.YtoeahagloobmoaaGreatDoor
open Go.RowKit
def intsV (os : List Nat) : List Value := os.map fun k => .int .i64 ((k : Nat) : Int)
/-- What the reference's Order tells. -/
def OrdOut (B n : Nat) (lt : Nat → Nat → Prop) (e : Ending) (w' : World) : Prop := ∃ vo os, e = .returned vo ∧ w'.ownsRow B 3 1 vo n (intsV os) ∧ os.Perm (List.range n) ∧ os.Pairwise (LexL lt)
theorem intsV_at (os : List Nat) (j P : Nat) (h : os[j]? = some P) : (intsV os)[j]? = some (.int .i64 ((P : Nat) : Int)) := by
  unfold intsV
  rw [List.getElem?_map, h]
  rfl
theorem ints_ones (os : List Nat) : ∀ u ∈ intsV os, u.oneCell' = true := by
  intro u hu
  obtain ⟨k, _, rfl⟩ := List.mem_map.1 hu
  rfl
/-- Worlds behind one. -/
structure ClsB (W0 : World) (u : World) : Prop where
  bel : Below W0.heap.size W0 u
theorem drop_step (os : List Nat) (k P : Nat) (h : os[k]? = some P) : os.drop k = P :: os.drop (k + 1) := by
  obtain ⟨hk, rfl⟩ := List.getElem?_eq_some_iff.1 h
  exact List.drop_eq_getElem_cons hk
theorem own_base {w : World} {B B' : Nat} {e : TypeId} {size : Nat} {v : Value} {n : Nat} {xs : List Value} (h : w.ownsRow B e size v n xs) (hb : B' ≤ B) : w.ownsRow B' e size v n xs := by
  refine ⟨h.1, ?_⟩
  rcases h.2 with h0 | ⟨g, cap, cur, h1, h2, h3⟩
  · exact .inl h0
  · exact .inr ⟨g, cap, cur, h1, Nat.le_trans hb h2, h3⟩
theorem own_far {w w' : World} {B : Nat} {e : TypeId} {size : Nat} {v : Value} {n : Nat} {xs : List Value} {row : Option Nat} (h : w.ownsRow B e size v n xs) (hg : w.grownBy w' row) (hne : ∀ k, v.ownBlock = some k → some k ≠ row) : w'.ownsRow B e size v n xs := by
  refine ⟨h.1, ?_⟩
  rcases h.2 with h0 | ⟨g, cap, cur, h1, h2, h3, h4⟩
  · exact .inl h0
  · refine .inr ⟨g, cap, cur, h1, h2, ?_, h4⟩
    rw [hg.block g (Array.getElem?_eq_some_iff.1 h3).1 (hne g (by rw [h1]; rfl))]
    exact h3
theorem own_news {w : World} {B g n cap : Nat} {os : List Nat} (h : w.ownsRow B 3 1 (.slice (some ⟨g, 0, none⟩) n cap) n (intsV os)) (a : Nat) (ps : List Nat) (hp : ∀ j P, ps[j]? = some P → os[a + j]? = some P) : ∀ j u, (intsV ps)[j]? = some u → w.cell? ((⟨g, a, none⟩ : Addr).add j) = some u := by
  intro j u hu
  unfold intsV at hu
  rw [List.getElem?_map] at hu
  obtain ⟨P, hP, rfl⟩ := Option.map_eq_some_iff.1 hu
  have e := h.cells (g := g) rfl (a + j) _ (intsV_at os (a + j) P (hp j P hP))
  rw [Addr.add_mid] at e ⊢
  rw [Nat.zero_add] at e
  exact e
theorem infoInt : (Tryz.prog.info? 3).map (fun i => (i.zero, i.size, i.bytes)) = some (some (.int .i64 0), 1, 8) := by kernel_rfl
set_option maxRecDepth 100000 in
set_option maxHeartbeats 4000000 in
theorem refOrder_any {w : World} {B : Nat} {v : Value} {n : Nat} {X : Nat → Value} {rows : Nat → List KeyD} (h : RowsT 33 w B v n X rows) (hr : ∀ i, i < n → rightL (rows i)) (hl : (rows 0).length ≤ 1000) (hn : n ≤ 41) :
    Calls Tryz.prog 8 #[v] w fun e w' => OrdOut w.heap.size n (fun x y => cmpRow (rows 0) (rows x) (rows y) < 0) e w' ∧ Below w.heap.size w w' := by
  obtain ⟨ad, cap, rfl, hop⟩ := h.open
  have HO := hide hop
  have HK := hide h.keys
  have HR := hide hr
  have HL := hide hl
  clear hop h hr hl
  have HW := hide ((good_row (rows 0)).of rows).weak
  obtain ⟨iI, hi0, hi1, hi2, hi3⟩ := info_parts infoInt
  have HII := hide (And.intro hi0 (And.intro hi1 (And.intro hi2 hi3)))
  clear hi0 hi1 hi2 hi3
  go_enter Tryz.func8, Tryz.ntmps8
  go_wp2_with fail
  go_loopw [3, 4] (fun vo vi wr => ∃ (i : Nat) (os : List Nat), vi = .int .i64 (i : Int) ∧ i ≤ n ∧ Hid (wr.ownsRow w.heap.size 3 1 vo i (intsV os)) ∧ Hid (i = 0 → vo = .slice none 0 0) ∧ Hid (os.Perm (List.range i)) ∧ Hid (os.Pairwise (LexL fun x y => cmpRow (rows 0) (rows x) (rows y) < 0)) ∧ Below w.heap.size w wr) (fun _ vi _ => n - vNat vi)
  case atStart => exact ⟨0, [], rfl, Nat.zero_le _, hide (World.ownsRow_nil _ _ _ _), hide (fun _ => rfl), hide (List.Perm.refl _), hide List.Pairwise.nil, Below.refl _ _⟩
  case round =>
    rename World => W0
    obtain ⟨i, os, rfl, hi, hO, hNil, hP, hS, hbr⟩ := hrel
    by_cases hlt : i < n
    · have hlt' := nat_lt hlt
      have HM := hide (show n - (((i + 1 : Nat) : Int)).toNat < n - ((i : Nat) : Int).toNat by rw [Int.toNat_natCast, Int.toNat_natCast]; omega)
      have HE1 := hide (show (i : Int) + 1 = ((i + 1 : Nat) : Int) by omega)
      have HLT := hide hlt
      have HBR := hide hbr
      have hsW := hbr.size
      obtain ⟨g, rfl, hc⟩ := unhide HO (by omega)
      have HC := hide (fun u (hu : Below w.heap.size w u) j (hj : j < n) => kept_cell hu (hc j hj))
      clear hbr hlt hc
      rcases Nat.eq_zero_or_pos i with h0 | h0
      · obtain rfl := unhide hNil h0
        have hos : os = [] := by
          have := (unhide hP).length_eq
          rw [h0] at this
          simpa using this
        have HOS := hide hos
        have HX0 := hide (show ClsB W0 W0.drew from ⟨(Below.refl _ _).drew⟩)
        have hz0 : ((i : Nat) : Int) = 0 := by omega
        have HI0 := hide h0
        clear hos h0
        go_wp2_with fail
        refine wp_loop_rounds 1 ?_
        rw [rounds_succ]
        go_wp2_with fail
        refine wp_region_cls (ClsB W0) (by kernel_rfl) (by kernel_rfl) (unhide HX0) ?_
        repeat
          (first
            | go_big_quiet_skip
            | (go_big_quiet_want
               go_big_quiet_op
               first
                 | go_big_quiet_on
                 | (apply Exists.intro
                    refine ⟨fun w' hC => ?_, ?_⟩
                    · (go_simp; first | done | rfl)
                    go_big_quiet_on)))
        refine wpQuiet_nil ?_
        intro w4 hC4
        have HB4 := hide (Below.then (unhide HBR) hC4.bel)
        have hs4 := (Below.then (unhide HBR) hC4.bel).size
        obtain ⟨z1, z2, z3, z4⟩ := unhide HII
        clear hC4 HX0
        go_wp2_with (at_builtin; refine wpList_append_own _ rfl _ _ 28 rfl w.heap.size 3 iI _ 1 8 Tryz.underlying28 z1 z2 z3 z4 rfl (by decide) _ _ _ rfl (World.ownsRow_nil _ _ _ _) ⟨w4.heap.size, 0, none⟩ 1 1 [.int .i64 0] rfl rfl (World.news_of_block (cs := #[.int .i64 0]) (heap_alloc_new w4 _)) (ints_ones [0]) (by unfold maxLen; omega) (by omega) (by simp; omega) ?_)
        intro v7 w5 hown5 hgrow5 _
        obtain ⟨g7, c7, rfl, hc7⟩ : ∃ g7 c7, v7 = .slice (some ⟨g7, 0, none⟩) 1 c7 ∧ 1 ≤ c7 := by
          rcases hown5.2 with ⟨_, hz⟩ | ⟨gs, cs, cur, e, _, _, hle, _⟩
          · omega
          · exact ⟨gs, cs, e, hle⟩
        have HX5 := hide hown5
        have HB5 := hide (Below.grown ((unhide HB4).alloc hs4 (.cells #[.int .i64 0] 3)) hgrow5 (by simp; omega) (fun b hb => by simp [Value.ownBlock] at hb))
        clear hown5 hgrow5
        go_wp2_with fail
        have h0 := unhide HI0
        subst h0
        refine ⟨⟨0 + 1, [0], ?_, unhide HLT, HX5, hide (fun h => absurd h (by omega)), hide (List.Perm.refl _), hide (List.pairwise_singleton _ _), unhide HB5⟩, ?_⟩
        · first | rfl | (simp; done)
        · first | exact unhide HM | (simp; omega)
      · obtain ⟨go, co, rfl⟩ : ∃ go co, u3 = .slice (some ⟨go, 0, none⟩) i co := by
          rcases (unhide hO).2 with ⟨_, hz⟩ | ⟨gs, cs, cur, e, _⟩
          · omega
          · exact ⟨gs, cs, e⟩
        have hpl : os.length = i := by have := (unhide hP).length_eq; simpa using this
        have hlow : ∀ x ∈ os, x < i := fun x hx => List.mem_range.1 ((unhide hP).subset hx)
        have HPL := hide hpl
        have HLOW := hide hlow
        clear hpl hlow
        go_upto_block 2 with fail
        go_cut [5] (fun vk wx => ∃ k : Nat, vk = .int .i64 (k : Int) ∧ k ≤ i ∧ Hid (∀ x ∈ os.drop k, cmpRow (rows 0) (rows i) (rows x) < 0) ∧ Hid (k = 0 ∨ ∃ x, os[k - 1]? = some x ∧ ¬ cmpRow (rows 0) (rows i) (rows x) < 0) ∧ Below W0.heap.size W0 wx)
        case first =>
          go_wp2_with fail
          go_loopw [5] (fun vk wx => ∃ k : Nat, vk = .int .i64 (k : Int) ∧ k ≤ i ∧ Hid (∀ x ∈ os.drop k, cmpRow (rows 0) (rows i) (rows x) < 0) ∧ Below W0.heap.size W0 wx) (fun vk _ => vNat vk)
          case atStart => exact ⟨i, rfl, Nat.le_refl _, hide (fun x hx => by rw [List.drop_of_length_le (by rw [unhide HPL]; exact Nat.le_refl _)] at hx; cases hx), Below.refl _ _⟩
          case round =>
            obtain ⟨k, rfl, hk, hD, hbk⟩ := hrel
            rcases Nat.eq_zero_or_pos k with hk0 | hk0
            · have hkd : decide (0 < k) = false := decide_eq_false (by omega)
              have HX := hide (show ClsB wr wr.drew from ⟨(Below.refl _ _).drew⟩)
              have HBK := hide hbk
              have HK0 := hide hk0
              clear hbk hk0
              go_wp2_with fail
              refine wp_region_cls (ClsB wr) (by kernel_rfl) (by kernel_rfl) (unhide HX) ?_
              repeat
                (first
                  | go_big_quiet_skip
                  | (go_big_quiet_want
                     go_big_quiet_op
                     first
                       | go_big_quiet_on
                       | (apply Exists.intro
                          refine ⟨fun w' hC => ?_, ?_⟩
                          · (go_simp; first | done | rfl)
                          go_big_quiet_on)))
              refine wpQuiet_nil ?_
              intro w4 hC4
              have HB4 := hide (Below.then (unhide HBK) hC4.bel)
              clear hC4
              go_wp2_with fail
              go_meet
              exact ⟨k, rfl, hk, hD, hide (.inl (unhide HK0)), unhide HB4⟩
            · obtain ⟨k1, hk1⟩ : ∃ k1, k1 + 1 = k := ⟨k - 1, by omega⟩
              have hkd : decide (0 < k) = true := decide_eq_true hk0
              have hk1i : k1 < i := by omega
              have hk1o : k1 < os.length := by rw [unhide HPL]; exact hk1i
              obtain ⟨P, hP1⟩ : ∃ P, os[k1]? = some P := ⟨_, List.getElem?_eq_getElem hk1o⟩
              have hPi : P < i := unhide HLOW P (List.mem_of_getElem? hP1)
              have hPn : P < n := by have := unhide HLT; omega
              have h0n : 0 < n := by omega
              have hin : i < n := unhide HLT
              have hPn' := nat_lt hPn
              have h0n' : (0 : Int) < (n : Int) := by omega
              have hk1i' := nat_lt hk1i
              obtain ⟨e1, e1'⟩ := sub_wrap k 1 k1 hk1 (by omega)
              rw [show ((1 : Nat) : Int) = 1 from rfl] at e1 e1'
              have o0 : W0.cell? ⟨go, k1, none⟩ = some (.int .i64 ((P : Nat) : Int)) := by
                rw [(unhide hO).cellAt k1 (by omega)]
                exact intsV_at os k1 P hP1
              have HX := hide (show ClsB wr wr.drew from ⟨(Below.refl _ _).drew⟩)
              have HCB := hide (fun (u u' : World) (h : ClsB wr u) (hb : Below u.heap.size u u') => (⟨Below.then h.bel hb⟩ : ClsB wr u'))
              have HV := hide (fun (u : World) (h : ClsB wr u) => (⟨unhide HC u (Below.then (unhide HBR) (Below.then hbk h.bel)) 0 h0n, unhide HC u (Below.then (unhide HBR) (Below.then hbk h.bel)) i hin, unhide HC u (Below.then (unhide HBR) (Below.then hbk h.bel)) P hPn, kept_cell (Below.then hbk h.bel) o0⟩ : u.cell? ⟨g, 0, none⟩ = some (X 0) ∧ u.cell? ⟨g, i, none⟩ = some (X i) ∧ u.cell? ⟨g, P, none⟩ = some (X P) ∧ u.cell? ⟨go, k1, none⟩ = some (.int .i64 ((P : Nat) : Int))))
              have HCA := hide (fun (u : World) (h : ClsB wr u) => ahead_any (X 0) (X i) (X P) (rows 0) (rows i) (rows P) u ((unhide HK 0 h0n).below (Below.then (unhide HBR) (Below.then hbk h.bel))) ((unhide HK i hin).below (Below.then (unhide HBR) (Below.then hbk h.bel))) ((unhide HK P hPn).below (Below.then (unhide HBR) (Below.then hbk h.bel))) (unhide HR i hin) (unhide HR P hPn) (unhide HL))
              have HBK := hide hbk
              have HK1 := hide hk1
              have HP1 := hide hP1
              have HKI := hide (show k1 ≤ i by omega)
              have HMK := hide (show ((k1 : Nat) : Int).toNat < ((k : Nat) : Int).toNat by rw [Int.toNat_natCast, Int.toNat_natCast]; omega)
              have HEK := hide (show (k : Int) - 1 = (k1 : Int) by omega)
              clear hbk hk0 hk1 hk1o hP1 hPi hPn h0n hin hk1i o0 e1'
              by_cases hl : cmpRow (rows 0) (rows i) (rows P) < 0
              · rw [decide_eq_true hl] at HCA
                have HD2 := hide (show ∀ x ∈ os.drop k1, cmpRow (rows 0) (rows i) (rows x) < 0 from fun x hx => by
                  rw [drop_step os k1 P (unhide HP1)] at hx
                  rcases List.mem_cons.1 hx with rfl | hx
                  · exact hl
                  · rw [unhide HK1] at hx
                    exact unhide hD x hx)
                clear hl
                go_wp2_with fail
                refine wp_region_cls (ClsB wr) (by kernel_rfl) (by kernel_rfl) (unhide HX) ?_
                repeat
                  (first
                    | go_big_quiet_skip
                    | (go_big_quiet_want
                       go_big_quiet_op
                       first
                         | go_big_quiet_on
                         | (apply Exists.intro
                            refine ⟨fun w' hC => ?_, ?_⟩
                            · (first
                                | (go_at_call 14; refine (unhide HCA _ hC).mono ?_; rintro e w3 ⟨rfl, hb3⟩; exact ⟨rfl, unhide HCB _ _ hC hb3⟩)
                                | (obtain ⟨k0, k1, k2, k3⟩ := unhide HV _ hC; go_simp; first | done | rfl))
                            go_big_quiet_on)))
                refine wpQuiet_nil ?_
                intro w4 hC4
                have HB4 := hide (Below.then (unhide HBK) hC4.bel)
                clear hC4 HX HCB HV HCA
                go_wp2_with fail
                refine ⟨⟨k1, ?_, unhide HKI, HD2, unhide HB4⟩, ?_⟩
                · first | (rw [unhide HEK]) | rfl | (rw [e1])
                · first | (rw [unhide HEK]; exact unhide HMK) | exact unhide HMK
              · rw [decide_eq_false hl] at HCA
                have HD2 : Hid (k = 0 ∨ ∃ x, os[k - 1]? = some x ∧ ¬ cmpRow (rows 0) (rows i) (rows x) < 0) := hide (.inr ⟨P, by rw [← unhide HK1]; exact unhide HP1, hl⟩)
                clear hl
                go_wp2_with fail
                refine wp_region_cls (ClsB wr) (by kernel_rfl) (by kernel_rfl) (unhide HX) ?_
                repeat
                  (first
                    | go_big_quiet_skip
                    | (go_big_quiet_want
                       go_big_quiet_op
                       first
                         | go_big_quiet_on
                         | (apply Exists.intro
                            refine ⟨fun w' hC => ?_, ?_⟩
                            · (first
                                | (go_at_call 14; refine (unhide HCA _ hC).mono ?_; rintro e w3 ⟨rfl, hb3⟩; exact ⟨rfl, unhide HCB _ _ hC hb3⟩)
                                | (obtain ⟨k0, k1, k2, k3⟩ := unhide HV _ hC; go_simp; first | done | rfl))
                            go_big_quiet_on)))
                refine wpQuiet_nil ?_
                intro w4 hC4
                have HB4 := hide (Below.then (unhide HBK) hC4.bel)
                clear hC4 HX HCB HV HCA
                go_wp2_with fail
                go_meet
                exact ⟨k, rfl, hk, hD, HD2, unhide HB4⟩
        case rest =>
          obtain ⟨k, rfl, hk, hD, hE, hbc⟩ := hcut
          have hco : i ≤ co := by
            rcases (unhide hO).2 with ⟨e, _⟩ | ⟨gs, cs, cur, e, _, _, hle, _⟩
            · cases e
            · cases e
              exact hle
          have HOC := hide (own_below (unhide hO) hbc)
          have hgo : go < wc.heap.size := ((own_below (unhide hO) hbc).lt go rfl).2
          have HN1 := hide (own_news (own_below (unhide hO) hbc) 0 (os.take k) (fun j P hj => by
            rw [Nat.zero_add]
            rw [List.getElem?_take] at hj
            by_cases c : j < k
            · rw [if_pos c] at hj
              exact hj
            · rw [if_neg c] at hj
              cases hj))
          have hlk : (intsV (os.take k)).length = k * 1 := by
            unfold intsV
            rw [List.length_map, List.length_take, unhide HPL]
            omega
          have HLK := hide hlk
          have HBC := hide (Below.then (unhide HBR) hbc)
          have hsc := (Below.then (unhide HBR) hbc).size
          have hk0' : (0 : Int) ≤ (k : Int) := Int.natCast_nonneg _
          have hkc' : (k : Int) ≤ (co : Int) := by omega
          have hki' : (k : Int) ≤ (i : Int) := by omega
          have hi41 : i ≤ 41 := by omega
          obtain ⟨z1, z2, z3, z4⟩ := unhide HII
          clear hbc hlk
          go_wp2_with (at_builtin; refine wpList_append_own _ rfl _ _ 28 rfl wc.heap.size 3 iI _ 1 8 Tryz.underlying28 z1 z2 z3 z4 rfl (by decide) _ _ _ rfl (World.ownsRow_nil _ _ _ _) ⟨go, 0, none⟩ k co (intsV (os.take k)) rfl (unhide HLK) (unhide HN1) (ints_ones _) (by unfold maxLen; omega) (by omega) (by omega) ?_)
          intro v6 w5 hown5 hgrow5 _
          have HO5 := hide (own_far (unhide HOC) hgrow5 (fun b _ => by simp [Value.ownBlock]))
          have HX5 := hide (show w5.ownsRow wc.heap.size 3 1 v6 k (intsV (os.take k)) by simpa using hown5)
          have hs5 := hgrow5.size
          have HB5 := hide (Below.grown (unhide HBC) hgrow5 hsc (fun b hb => by simp [Value.ownBlock] at hb))
          clear hown5 hgrow5
          go_wp2_with (at_builtin; refine wpList_append_own _ rfl _ _ 28 rfl wc.heap.size 3 iI _ 1 8 Tryz.underlying28 z1 z2 z3 z4 rfl (by decide) _ _ _ rfl ((unhide HX5).alloc _) ⟨w5.heap.size, 0, none⟩ 1 1 [.int .i64 (i : Int)] rfl rfl (World.news_of_block (cs := #[.int .i64 (i : Int)]) (heap_alloc_new w5 _)) (ints_ones [i]) (by unfold maxLen; omega) (by omega) (by simp; omega) ?_)
          intro v7 w6 hown6 hgrow6 _
          have hb56 : Below w5.heap.size w5 (w5.alloc (.cells #[.int .i64 (i : Int)] 3)) := (Below.refl _ _).alloc (Nat.le_refl _) _
          have HO6 := hide (own_far (own_below (unhide HO5) hb56) hgrow6 (fun b hb e => by
            have h1 := own_ge (unhide HX5) b e.symm
            simp [Value.ownBlock] at hb
            omega))
          have HX6 := hide (show w6.ownsRow wc.heap.size 3 1 v7 (k + 1) (intsV (os.take k ++ [i])) by
            unfold intsV at hown6 ⊢
            rw [List.map_append]
            exact hown6)
          have hs6 : w5.heap.size + 1 ≤ w6.heap.size := by have := hgrow6.size; simpa using this
          have HB6 := hide (Below.grown (Below.then (unhide HB5) hb56) hgrow6 (by simp; omega) (fun b hb => by have := own_ge (unhide HX5) b hb; omega))
          clear hown6 hgrow6 hb56
          have hE' : k = 0 ∨ ∃ x, os[k - 1]? = some x ∧ ¬ cmpRow (rows 0) (rows i) (rows x) < 0 := by
            rcases unhide hE with h | ⟨x, h1, h2⟩
            · exact .inl h
            · exact .inr ⟨x, h1, by omega⟩
          have HSRT := hide (ins_sorted (unhide HW) os i k (unhide hS) (unhide HLOW) (unhide hD) hE')
          clear hE'
          have HPRM := hide (ins_perm os i k (unhide hP))
          have HJN := hide (show intsV (os.take k ++ [i]) ++ intsV (os.drop k) = intsV (os.take k ++ i :: os.drop k) by
            unfold intsV
            rw [← List.map_append, List.append_assoc]
            rfl)
          have HLD := hide (show (intsV (os.drop k)).length = (i - k) * 1 by
            unfold intsV
            rw [List.length_map, List.length_drop, unhide HPL]
            omega)
          have HHI := hide (show k + 1 + (i - k) = i + 1 by omega)
          have HFIN : Hid (∀ (v8 : Value) (w7 : World), w7.ownsRow wc.heap.size 3 1 v8 (k + 1 + (i - k)) (intsV (os.take k ++ [i]) ++ intsV (os.drop k)) → w7.ownsRow w.heap.size 3 1 v8 (i + 1) (intsV (os.take k ++ i :: os.drop k))) := hide (fun (v8 : Value) (w7 : World) hh => by
            rw [unhide HHI, unhide HJN] at hh
            exact own_base hh hsc)
          by_cases hkco : k < co
          · have hkco' := nat_lt hkco
            have hne1 : ¬ co - k = 0 := by omega
            have hne2 : ¬ co = k := by omega
            have hne3 : ¬ co ≤ k := by omega
            have HN3 := hide (own_news (unhide HO6) k (os.drop k) (fun j P hj => by rw [List.getElem?_drop] at hj; exact hj))
            go_wp2_with (at_builtin; refine wpList_append_own _ rfl _ _ 28 rfl wc.heap.size 3 iI _ 1 8 Tryz.underlying28 z1 z2 z3 z4 rfl (by decide) _ _ _ rfl (unhide HX6) ⟨go, k, none⟩ (i - k) (co - k) (intsV (os.drop k)) rfl (unhide HLD) (unhide HN3) (ints_ones _) (by unfold maxLen; omega) (by omega) (by omega) ?_)
            intro v8 w7 hown7 hgrow7 _
            have HX7 := hide (unhide HFIN v8 w7 hown7)
            have HB7 := hide (Below.grown (unhide HB6) hgrow7 (by omega) (fun b hb => by have := own_ge (unhide HX6) b hb; omega))
            clear hown7 hgrow7
            go_wp2_with fail
            refine ⟨⟨i + 1, _, ?_, unhide HLT, HX7, hide (fun h => absurd h (Nat.succ_ne_zero i)), HPRM, HSRT, unhide HB7⟩, ?_⟩
            · first | (rw [unhide HE1]) | rfl
            · first | (rw [unhide HE1]; exact unhide HM) | exact unhide HM
          · obtain rfl : k = i := by omega
            obtain rfl : k = co := by omega
            have hd0 : os.drop k = [] := List.drop_of_length_le (by rw [unhide HPL]; exact Nat.le_refl _)
            have HD0 := hide hd0
            clear hd0
            go_wp2_with (at_builtin; refine wpList_append_own _ rfl _ _ 28 rfl wc.heap.size 3 iI _ 1 8 Tryz.underlying28 z1 z2 z3 z4 rfl (by decide) _ _ _ rfl (unhide HX6) _ 0 _ [] rfl rfl (fun j u hj => by cases hj) (fun u hu => by cases hu) (by unfold maxLen; omega) (by omega) (by omega) ?_)
            intro v8 w7 hown7 hgrow7 _
            have HX7 := hide (show w7.ownsRow w.heap.size 3 1 v8 (k + 1) (intsV (os.take k ++ k :: os.drop k)) by
              rw [unhide HD0]
              exact own_base (by simpa using hown7) hsc)
            have HB7 := hide (Below.grown (unhide HB6) hgrow7 (by omega) (fun b hb => by have := own_ge (unhide HX6) b hb; omega))
            clear hown7 hgrow7
            go_wp2_with fail
            refine ⟨⟨k + 1, _, ?_, unhide HLT, HX7, hide (fun h => absurd h (Nat.succ_ne_zero k)), HPRM, HSRT, unhide HB7⟩, ?_⟩
            · first | (rw [unhide HE1]) | rfl
            · first | (rw [unhide HE1]; exact unhide HM) | exact unhide HM
    · have hlt' := nat_nlt hlt
      obtain rfl : i = n := by omega
      have HBR := hide hbr
      clear hbr
      obtain ⟨ao, co, rfl⟩ : ∃ a c, u3 = .slice a i c := by
        rcases (unhide hO).2 with ⟨e, h0⟩ | ⟨g, cap, cur, e, _⟩
        · exact ⟨none, 0, by rw [e, h0]⟩
        · exact ⟨_, _, e⟩
      go_wp2_with fail
      go_ret
      exact ⟨⟨_, os, rfl, unhide hO, unhide hP, unhide hS⟩, unhide HBR⟩
end Go.Proofs.YtoeahagloobmoaaGreatDoor
