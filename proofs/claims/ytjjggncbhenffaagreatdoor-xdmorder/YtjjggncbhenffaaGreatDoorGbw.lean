/- Several texts, laid as one. -/
import Derived.Test.YtjjggncbhenffaaGreatDoorGbu
import Derived.Test.YtjjggncbhenffaaGreatDoorGbt
import Derived.Test.YtjjggncbhenffaaGreatDoorGbv
import Derived.Deep.OwnRows
import Derived.Test.YtjjggncbhenffaaGreatDoorGak
import Derived.Lib.LaidU8
import Derived.HandedShaped
import Derived.WalkKit
import Derived.ProofKit
import Derived.OpenShut
import Derived.ShutString
import Derived.Deep.DeepHandedRow
import Derived.Lib.LaidTab
/- The law XdmOrder. -/
namespace Go.Proofs.YtjjggncbhenffaaGreatDoor
open Go.RowKit Go.Maps
theorem infoIntO : (Tryz.prog.info? 3).map (fun i => (i.zero, i.size, i.bytes)) = some (some (.int .i64 0), 1, 8) := by kernel_rfl
/-- A row of numbers of one's own. -/
def LRow (w : World) (g N : Nat) (L : List Nat) : Prop := w.ownsRow g 3 1 (.slice (some ⟨g, 0, none⟩) N N) N (intRow L)
theorem LRow.cell {w : World} {g N j v : Nat} {L : List Nat} (h : LRow w g N L) (hN : 0 < N) (hj : L[j]? = some v) : w.cell? ⟨g, j, none⟩ = some (.int .i64 (v : Nat)) := by
  obtain ⟨g', cap, e, _, _, _, hc, _⟩ := owns_cells h hN
  cases e
  refine hc j _ ?_
  unfold intRow
  rw [List.getElem?_map, hj]
  rfl
theorem LRow.frozen {w : World} {g N : Nat} {L : List Nat} (h : LRow w g N L) (hN : 0 < N) (j : Nat) : w.frozen? ⟨g, j, none⟩ = false := by
  obtain ⟨g', cap, e, _, _, _, _, hf⟩ := owns_cells h hN
  cases e
  exact hf j
theorem LRow.put {w : World} {g N j : Nat} {L : List Nat} (h : LRow w g N L) (hj : j < N) (v : Nat) : LRow (w.setCell ⟨g, j, none⟩ (.int .i64 (v : Nat))) g N (L.set j v) := by
  have := owns_set h j (by omega) (.int .i64 (v : Nat))
  have e : (intRow L).set j (.int .i64 (v : Nat)) = intRow (L.set j v) := by
    unfold intRow
    rw [List.map_set]
  unfold LRow
  rw [← e]
  exact this
theorem LRow.new (w : World) (N : Nat) (hN : N ≤ maxLen) : LRow (w.alloc (.cells (madeCells #[.int .i64 0] N) 3)) w.heap.size N (List.replicate N 0) := by
  have := World.ownsRow_lit (base := w.heap.size) (e := 3) (size := 1) w (madeCells #[.int .i64 0] N) N (Nat.le_refl _) hN (by rw [size_madeCells]; omega)
  rw [toList_madeCells_one] at this
  unfold LRow intRow
  rw [List.map_replicate]
  exact this
theorem LRow.on {w w' : World} {g N : Nat} {L : List Nat} (h : LRow w g N L) (hb : Below w.heap.size w w') : LRow w' g N L := owns_below h hb
theorem setN_same {L : List Nat} {j v : Nat} (h : L[j]? = some v) : L.set j v = L := by
  apply List.ext_getElem?
  intro i
  rw [List.getElem?_set]
  split
  · rename_i e
    subst e
    split
    · exact h.symm
    · rename_i hl
      rw [List.getElem?_eq_none (by omega)]
  · rfl
structure OrA (w1 : World) (g : Nat) (ns : List XNode) (m : Nat) (L : List Nat) (wr : World) : Prop where
  le : m ≤ ns.length
  inv : LastInv ns m L
  row : LRow wr g ns.length L
  bel : Below w1.heap.size w1 wr
theorem drewN_below (w : World) (n : Nat) : Below w.heap.size w (w.drewN n) := ⟨rfl, rfl, rfl, Nat.le_refl _, fun _ _ => rfl⟩
theorem OrA.drew {w1 : World} {g : Nat} {ns : List XNode} {m : Nat} {L : List Nat} {W : World} (h : OrA w1 g ns m L W) (n : Nat) : OrA w1 g ns m L (W.drewN n) := ⟨h.le, h.inv, h.row.on (drewN_below _ _), Below.then h.bel (drewN_below _ _)⟩
structure OrB (w1 : World) (g N : Nat) (L : List Nat) (wr : World) : Prop where
  row : LRow wr g N L
  bel : Below w1.heap.size w1 wr
def Btw (a j b : Nat) : Prop := a ≤ j ∧ j ≤ b
theorem i64_isO (n : Int) : IntKind.i64.wrap n = wrap64 n := by
  rw [IntKind.wrap_i64]
  unfold wrap64
  omega
structure OrC (W0 : World) (u : World) : Prop where
  bel : Below W0.heap.size W0 u
theorem last_own {ns : List XNode} {L : List Nat} (h : LastInv ns 0 L) {m : Nat} {x : XNode} (hx : ns[m]? = some x) : L[m]? = some (x.fin - 1) := h.done m x (Nat.zero_le _) hx
set_option maxRecDepth 100000 in
set_option maxHeartbeats 4000000 in
theorem order_walk (s : ByteArray) (w : World) (hE : XEnv w.heap.size w) :
    Calls Tryz.prog 4 #[.string s] w fun e w' => e = .returned (.bool true) ∧ Below w.heap.size w w' := by
  have HE := hide hE
  have HW := hide (parse_out s w hE)
  clear hE
  go_enter Tryz.func4, Tryz.ntmps4
  go_wp2_with fail
  refine (unhide HW).mono ?_
  rintro e w1 ⟨v, er, rfl, hb1, hO⟩
  have HE1 := hide ((unhide HE).at hb1)
  clear HW HE
  rcases hO with ⟨he, rfl⟩ | ⟨rfl, cs, ns, q, hl, hs, hpd, rfl, hT⟩
  · have HL := hide (live4_any w1 (unhide HE1))
    rcases he with rfl | rfl | rfl | rfl | rfl
    all_goals
      go_wp2_with fail
      refine (unhide HL).mono ?_
      rintro e w2 ⟨rfl, hb2⟩
      go_wp2
      go_returns
      exact ⟨rfl, Below.then hb1 hb2⟩
  · have hok := parse_ok hl hs hpd
    have hsh : Shape ns := by
      unfold parseD at hpd
      split at hpd
      · cases hpd
      · rename_i ts hts
        exact (doc_ok hl hs hts).shape hpd
    have hnl := hok.len
    have hpos := hok.pos
    have hTV : TreeV w1 w.heap.size (.pointer (some ⟨q, 0, none⟩)) ns := .inr ⟨q, rfl, hT⟩
    have HFI := hide hok.fin
    have HSH := hide hsh
    have HLn := hide (fun W (hb : Below w1.heap.size w1 W) => len_any _ _ _ W (hTV.on hb))
    have HPt := hide (fun n W (hb : Below w1.heap.size w1 W) => trParent_any _ _ _ n W (hTV.on hb))
    have HLV := hide (fun W (hb : Below w1.heap.size w1 W) => live4_any W ((unhide HE1).at hb))
    clear hok hsh hTV hT hpd hs hl
    obtain ⟨N, hN⟩ : ∃ N, N = ns.length := ⟨_, rfl⟩
    rw [← hN] at HLn hnl hpos
    have HN := hide hN
    clear hN
    have hc := unhide HLn w1 (Below.refl _ _)
    go_wp2_with fail
    refine hc.mono ?_
    rintro e w2 ⟨rfl, hb2⟩
    clear hc
    have hmk := run_make_row' (P := Tryz.prog) 41 3 (.int .i64 0) 8 Tryz.underlying41 infoIntO rfl .i64 .i64 N (by omega) (by omega)
    have HZ0 := hide (LRow.new w2 N (by unfold maxLen; omega))
    have hbA : Below w1.heap.size w1 (w2.alloc (.cells (madeCells #[.int .i64 0] N) 3)) := hb2.alloc hb2.size _
    go_wp2_with fail
    clear hmk
    have hg1 := hb2.size
    generalize hW1 : w2.alloc (.cells (madeCells #[.int .i64 0] N) 3) = W1 at *
    clear hW1
    generalize w2.heap.size = g at *
    clear hb2
    have hc := unhide HLn W1 hbA
    go_wp2_with fail
    refine hc.mono ?_
    rintro e w3 ⟨rfl, hb3⟩
    clear hc
    have HA0 : Hid (OrA w1 g ns N (List.replicate N 0) w3) := hide ⟨by rw [unhide HN]; exact Nat.le_refl _, by rw [unhide HN]; exact LastInv.start ns, by rw [← unhide HN]; exact (unhide HZ0).on hb3, Below.then hbA hb3⟩
    clear HZ0 hb3 hbA
    go_wp2_with fail
    go_loopw [6] (fun i wr => ∃ (m : Nat) (J : Int) (L : List Nat), i = .int .i64 J ∧ Hid (J = (m : Int) - 1) ∧ Hid (OrA w1 g ns m L wr)) (fun i _ => (intOf i + 1).toNat)
    case atStart => exact ⟨N, _, _, rfl, hide rfl, HA0⟩
    case round =>
      clear HA0
      obtain ⟨m, J, L, rfl, hJ, HA⟩ := hrel
      cases m with
      | zero =>
        obtain rfl : J = -1 := by have := unhide hJ; omega
        have hA := unhide HA
        have HB0 : Hid (OrB w1 g N L wr) := hide ⟨by rw [unhide HN]; exact hA.row, hA.bel⟩
        have HLI := hide hA.inv
        clear hA HA hJ
        go_wp2_with fail
        go_loopw [8] (fun i wr => ∃ k : Nat, i = .int .i64 (k : Nat) ∧ Hid (Btw 1 k N) ∧ Hid (OrB w1 g N L wr)) (fun i _ => N - (intOf i).toNat)
        case atStart => exact ⟨1, rfl, hide ⟨Nat.le_refl _, hpos⟩, HB0⟩
        case round =>
          clear HB0
          obtain ⟨k, rfl, hk, HB⟩ := hrel
          have hc := unhide HLn wr (unhide HB).bel
          go_wp2_with fail
          refine hc.mono ?_
          rintro e w4 ⟨rfl, hb4⟩
          clear hc
          have HB4 : Hid (OrB w1 g N L w4) := hide ⟨(unhide HB).row.on hb4, Below.then (unhide HB).bel hb4⟩
          clear HB hb4
          by_cases hlt : k < N
          · have n2 : (k : Int) < (N : Int) := by omega
            obtain ⟨x, hx⟩ : ∃ x, ns[k]? = some x := ⟨ns[k]'(by rw [← unhide HN]; exact hlt), List.getElem?_eq_getElem _⟩
            obtain ⟨p, hp, hpk⟩ : ∃ p : Nat, x.parent = (p : Int) ∧ p < k := by
              rcases (unhide HSH).par k x hx with ⟨h1, _⟩ | h1
              · have := (unhide hk).1; omega
              · exact h1
            obtain ⟨y, hy⟩ : ∃ y, ns[p]? = some y := ⟨ns[p]'(by rw [← unhide HN]; omega), List.getElem?_eq_getElem _⟩
            have hfx := unhide HFI k x hx
            have hfo := (unhide HSH).out k p x y hx hp hy
            have HX := hide hx
            have hc := unhide HPt (k : Int) w4 (unhide HB4).bel
            rw [nodeD_at hx, hp] at hc
            have HCP := hide (last_own (unhide HLI) hy)
            have HCX := hide (last_own (unhide HLI) hx)
            obtain ⟨fy, hfy⟩ : ∃ fy, fy = y.fin - 1 := ⟨_, rfl⟩
            obtain ⟨fx, hfxe⟩ : ∃ fx, fx = x.fin - 1 := ⟨_, rfl⟩
            have n3 : ¬ (fy : Int) < (k : Int) := by omega
            have n4 : (p : Int) < (N : Int) := by omega
            have n5 : (0 : Int) ≤ (p : Int) := by omega
            have n6 : (0 : Int) ≤ (k : Int) := by omega
            have hkx : k ≤ fx := by omega
            have hxN : fx + 1 ≤ N := by have := unhide HN; omega
            have HFX : Hid (fx + 1 = x.fin) := hide (by omega)
            have HPK := hide hpk
            rw [← hfy] at HCP
            rw [← hfxe] at HCX
            clear hp hpk hfx hfo hfy hfxe hx hy
            go_wp2_with fail
            refine hc.mono ?_
            rintro e w5 ⟨rfl, hb5⟩
            clear hc
            have HB5 : Hid (OrB w1 g N L w5) := hide ⟨(unhide HB4).row.on hb5, Below.then (unhide HB4).bel hb5⟩
            clear HB4 hb5
            have cp := (unhide HB5).row.cell hpos (unhide HCP)
            go_wp2_with fail
            clear cp n3
            go_loopw [10] (fun i wr => ∃ j : Nat, i = .int .i64 (j : Nat) ∧ Hid (Btw (k + 1) j (fx + 1)) ∧ Hid (OrB w1 g N L wr)) (fun i _ => fx + 1 - (intOf i).toNat)
            case atStart => exact ⟨k + 1, by simp, hide ⟨Nat.le_refl _, by omega⟩, HB5⟩
            case round =>
              clear HB5
              obtain ⟨j, rfl, hj, HB⟩ := hrel
              have hj1 := unhide hj
              obtain ⟨hj2, hj3⟩ := hj1
              have cx := (unhide HB).row.cell hpos (unhide HCX)
              by_cases hjl : j ≤ fx
              · have m1 : (j : Int) ≤ (fx : Int) := by omega
                obtain ⟨z, hz⟩ : ∃ z, ns[j]? = some z := ⟨ns[j]'(by rw [← unhide HN]; omega), List.getElem?_eq_getElem _⟩
                have hin := (unhide HSH).inn k j x z (unhide HX) hz (by omega) (by rw [← unhide HFX]; omega)
                obtain ⟨u, hu, huj⟩ : ∃ u : Nat, z.parent = (u : Int) ∧ u < j := by
                  rcases (unhide HSH).par j z hz with ⟨h1, _⟩ | h1
                  · omega
                  · exact h1
                have hc := unhide HPt (j : Int) wr (unhide HB).bel
                rw [nodeD_at hz, hu] at hc
                have HU : Hid (Btw k u fx) := hide ⟨by omega, by omega⟩
                have HJL := hide hjl
                clear hin hu huj hz hjl
                go_wp2_with fail
                refine hc.mono ?_
                rintro e w6 ⟨rfl, hb6⟩
                clear hc cx
                have HB6 : Hid (OrB w1 g N L w6) := hide ⟨(unhide HB).row.on hb6, Below.then (unhide HB).bel hb6⟩
                clear HB hb6
                go_wp2_with fail
                go_loopw [11] (fun i wr => ∃ u : Nat, i = .int .i64 (u : Nat) ∧ Hid (Btw k u fx) ∧ Hid (OrB w1 g N L wr)) (fun i _ => (intOf i).toNat)
                case atStart => exact ⟨u, rfl, HU, HB6⟩
                case round =>
                  clear HB6 HU
                  obtain ⟨u, rfl, hu, HB⟩ := hrel
                  have hu1 := unhide hu
                  obtain ⟨hu2, hu3⟩ := hu1
                  by_cases hku : k < u
                  · have m3 : (k : Int) < (u : Int) := by omega
                    obtain ⟨z, hz⟩ : ∃ z, ns[u]? = some z := ⟨ns[u]'(by rw [← unhide HN]; omega), List.getElem?_eq_getElem _⟩
                    have hin := (unhide HSH).inn k u x z (unhide HX) hz (by omega) (by rw [← unhide HFX]; omega)
                    obtain ⟨t, ht, htu⟩ : ∃ t : Nat, z.parent = (t : Int) ∧ t < u := by
                      rcases (unhide HSH).par u z hz with ⟨h1, _⟩ | h1
                      · omega
                      · exact h1
                    have hc := unhide HPt (u : Int) wr (unhide HB).bel
                    rw [nodeD_at hz, ht] at hc
                    have HT : Hid (Btw k t fx) := hide ⟨by omega, by omega⟩
                    have HTU : Hid (t < u) := hide htu
                    clear hin ht htu hz hku hu2 hu3 hu
                    go_wp2_with fail
                    refine hc.mono ?_
                    rintro e w7 ⟨rfl, hb7⟩
                    clear hc
                    have HB7 : Hid (OrB w1 g N L w7) := hide ⟨(unhide HB).row.on hb7, Below.then (unhide HB).bel hb7⟩
                    clear HB hb7
                    go_wp2_with fail
                    go_round
                    case measure => have := unhide HTU; simp [intOf]; omega
                    case rel => exact ⟨t, rfl, HT, HB7⟩
                  · obtain rfl : u = k := by omega
                    have m3 : ¬ (u : Int) < (u : Int) := by omega
                    clear hku hu2 hu3
                    go_wp2_with fail
                    go_round
                    case measure => have := unhide HJL; simp [intOf]; omega
                    case rel => exact ⟨j + 1, by simp, hide ⟨by have := (unhide hj).1; omega, by have := unhide HJL; omega⟩⟩
              · have m1 : ¬ (j : Int) ≤ (fx : Int) := by omega
                clear hjl hj2 hj3
                go_wp2_with fail
                go_round
                case measure => simp [intOf]; omega
                case rel => exact ⟨k + 1, by simp, hide ⟨by omega, hlt⟩, HB⟩
          · have n2 : ¬ (k : Int) < (N : Int) := by omega
            obtain ⟨x0, hx0⟩ : ∃ x, ns[0]? = some x := ⟨ns[0]'(by rw [← unhide HN]; exact hpos), List.getElem?_eq_getElem _⟩
            have hl0 := last_own (unhide HLI) hx0
            rw [(unhide HSH).root x0 hx0, ← unhide HN] at hl0
            have HL0 := hide hl0
            obtain ⟨M, hM⟩ : ∃ M : Nat, M = N - 1 := ⟨_, rfl⟩
            rw [← hM] at HL0
            have e1 : wrap64 ((N : Int) - 1) = (M : Int) := by unfold wrap64; omega
            have e2 : IntKind.i64.wrap ((N : Int) - 1) = (M : Int) := (i64_isO _).trans e1
            have n8 : (0 : Int) < (N : Int) := by omega
            clear hl0 hx0 hM hlt
            have HCL := hide (fun (u : World) (h : OrC w4 u) => unhide HLV u (Below.then (unhide HB4).bel h.bel))
            have HCN := hide (fun (u : World) (h : OrC w4 u) => unhide HLn u (Below.then (unhide HB4).bel h.bel))
            have HCC := hide (fun (u : World) (h : OrC w4 u) => LRow.cell ((unhide HB4).row.on h.bel) hpos (unhide HL0))
            have HCB := hide (fun (u u' : World) (h : OrC w4 u) (hb : Below u.heap.size u u') => (⟨Below.then h.bel hb⟩ : OrC w4 u'))
            have HX0 : Hid (OrC w4 w4.drew) := hide ⟨(Below.refl _ _).drew⟩
            go_wp2_with fail
            refine wp_region_cls (OrC w4) (by kernel_rfl) (by kernel_rfl) (unhide HX0) ?_
            repeat
              (first
                | go_big_quiet_skip
                | (go_big_quiet_want
                   go_big_quiet_op
                   first
                     | go_big_quiet_on
                     | (apply Exists.intro
                        refine ⟨fun w' hC => ?_, ?_⟩
                        · (first
                            | (go_at_call 12; refine (unhide HCL _ hC).mono ?_; rintro e w3 ⟨rfl, hb3⟩; exact ⟨rfl, unhide HCB _ _ hC hb3⟩)
                            | (go_at_call 15; refine (unhide HCN _ hC).mono ?_; rintro e w3 ⟨rfl, hb3⟩; exact ⟨rfl, unhide HCB _ _ hC hb3⟩)
                            | (have k0 := unhide HCC _ hC; go_simp; first | done | rfl))
                        go_big_quiet_on)))
            refine wpQuiet_nil ?_
            intro w8 hC8
            have hb8 := Below.then (unhide HB4).bel hC8.bel
            clear hC8 HX0 HCB HCL HCN HCC
            go_wp2
            go_returns
            exact ⟨rfl, Below.then hb1 hb8⟩
      | succ a =>
        obtain rfl : J = (a : Int) := by have := unhide hJ; omega
        have hA := unhide HA
        have haN : a < N := by have := hA.le; have := unhide HN; omega
        obtain ⟨x, hx⟩ : ∃ x, ns[a]? = some x := ⟨ns[a]'(by rw [← unhide HN]; exact haN), List.getElem?_eq_getElem _⟩
        obtain ⟨v, hv⟩ : ∃ v, L[a]? = some v := ⟨L[a]'(by rw [hA.inv.len, ← unhide HN]; exact haN), List.getElem?_eq_getElem _⟩
        have hown := hA.inv.own (unhide HSH) (unhide HFI) hx hv
        have hrow : LRow wr g N L := by rw [unhide HN]; exact hA.row
        have c0 := hrow.cell hpos hv
        have f0 := hrow.frozen hpos a
        obtain ⟨fx, hfx⟩ : ∃ fx, fx = x.fin - 1 := ⟨_, rfl⟩
        rw [← hfx] at hown
        have hfN : fx < N := by have := (unhide HFI a x hx); have := unhide HN; omega
        have n1 : (0 : Int) ≤ (a : Int) := by omega
        have n2 : (a : Int) < (N : Int) := by omega
        have HST : ∀ p u, x.parent = ((p : Nat) : Int) → L[p]? = some u → Hid (LastInv ns a ((L.set a fx).set p (if u < fx then fx else u))) := fun p u hp hu => hide (by rw [hfx]; exact hA.inv.step (unhide HSH) hx hp hu)
        have HFS : a = 0 → Hid (LastInv ns a (L.set a fx)) := fun h0 => hide (by
          have hi := hA.inv
          subst h0
          rw [hfx]
          exact hi.first hx)
        have HLE : Hid (a ≤ ns.length) := hide (by have := hA.le; omega)
        have HLL : Hid (L.length = N) := hide (by rw [hA.inv.len, unhide HN])
        have HROW := hide hrow
        have HBEL := hide hA.bel
        have hPT := fun (W : World) (hb : Below w1.heap.size w1 W) => unhide HPt (a : Int) W hb
        rw [nodeD_at hx] at hPT
        have HPT := hide hPT
        have HPAR := hide ((unhide HSH).par a x hx)
        generalize x.parent = xp at *
        clear hA HA hJ hrow hfx hx hPT
        by_cases hva : v < a
        · have t0 : (v : Int) < (a : Int) := by omega
          obtain rfl : a = fx := by rw [if_pos hva] at hown; exact hown
          have HR1 : Hid (LRow (wr.setCell ⟨g, a, none⟩ (.int .i64 (a : Nat))) g N (L.set a a)) := hide ((unhide HROW).put haN a)
          have HB1 : Hid (Below w1.heap.size w1 (wr.setCell ⟨g, a, none⟩ (.int .i64 (a : Nat)))) := hide ((unhide HBEL).setCell hg1 _)
          clear hva hown HROW HBEL
          go_wp2_with fail
          clear t0 c0 f0
          generalize wr.setCell ⟨g, a, none⟩ (.int .i64 (a : Nat)) = W2 at *
          have hc := unhide HPT W2 (unhide HB1)
          rcases unhide HPAR with ⟨h0, hp⟩ | ⟨p, hp, hpa⟩
          · have HF1 := HFS h0
            have HZ := hide h0
            subst hp
            clear h0 HST HFS HPAR
            have z1 : ¬ (a : Int) ≤ -1 := by omega
            have z2 : ¬ (0 : Int) < (a : Int) := by have := unhide HZ; omega
            go_wp2_with fail
            refine hc.mono ?_
            rintro e w4 ⟨rfl, hb4⟩
            clear hc
            have HA4 : Hid (OrA w1 g ns a (L.set a a) w4) := hide ⟨unhide HLE, unhide HF1, by rw [← unhide HN]; exact (unhide HR1).on hb4, Below.then (unhide HB1) hb4⟩
            go_wp2_with fail
            go_quiet (fail)
            go_wp2_with fail
            go_round
            case measure => simp [intOf]; try omega
            case rel => exact ⟨a, _, _, rfl, hide rfl, hide ((unhide HA4).drew _)⟩
          · obtain ⟨u, hu⟩ : ∃ u, L[p]? = some u := ⟨L[p]'(by rw [unhide HLL]; omega), List.getElem?_eq_getElem _⟩
            have HS1 := HST p u hp hu
            have HGP : Hid ((L.set a a)[p]? = some u) := hide (by rw [List.getElem?_set_ne (by omega)]; exact hu)
            have HGA : Hid ((L.set a a)[a]? = some a) := hide (by rw [List.getElem?_set_self (by rw [unhide HLL]; exact haN)])
            subst hp
            clear HST HFS HPAR hu
            have z1 : ¬ (a : Int) ≤ (p : Int) := by omega
            have z2 : (0 : Int) < (a : Int) := by omega
            have z4 : ¬ (p : Int) < 0 := by omega
            have z5 : (0 : Int) ≤ (p : Int) := by omega
            have z6 : (p : Int) < (N : Int) := by omega
            have hpN : p < N := by omega
            go_wp2_with fail
            refine hc.mono ?_
            rintro e w4 ⟨rfl, hb4⟩
            clear hc
            have HR4 := hide ((unhide HR1).on hb4)
            have HB4 := hide (Below.then (unhide HB1) hb4)
            have cp := (unhide HR4).cell hpos (unhide HGP)
            have ca := (unhide HR4).cell hpos (unhide HGA)
            have fp := (unhide HR4).frozen hpos p
            have HSP := hide (setN_same (unhide HGP))
            clear HR1 HB1 hb4 HGP HGA hpa
            by_cases huf : u < a
            · have t1 : (u : Int) < (a : Int) := by omega
              have HA4 : Hid (∀ n, OrA w1 g ns a ((L.set a a).set p a) ((w4.drewN n).setCell ⟨g, p, none⟩ (.int .i64 (a : Nat)))) := hide fun n => ⟨unhide HLE, by have := unhide HS1; rw [if_pos huf] at this; exact this, by rw [← unhide HN]; exact ((unhide HR4).on (drewN_below _ _)).put hpN _, (Below.then (unhide HB4) (drewN_below _ _)).setCell hg1 _⟩
              clear huf HS1 HR4 HB4
              go_wp2_with fail
              go_quiet (fail)
              go_wp2_with fail
              go_round
              case measure => simp [intOf]; try omega
              case rel => exact ⟨a, _, _, rfl, hide rfl, hide (unhide HA4 _)⟩
            · have t1 : ¬ (u : Int) < (a : Int) := by omega
              have HA4 : Hid (OrA w1 g ns a ((L.set a a).set p u) w4) := hide ⟨unhide HLE, by have := unhide HS1; rw [if_neg huf] at this; exact this, by rw [← unhide HN, unhide HSP]; exact unhide HR4, unhide HB4⟩
              clear huf HS1 HR4 HB4
              go_wp2_with fail
              go_quiet (fail)
              go_wp2_with fail
              go_round
              case measure => simp [intOf]; try omega
              case rel => exact ⟨a, _, _, rfl, hide rfl, hide ((unhide HA4).drew _)⟩
        · have t0 : ¬ (v : Int) < (a : Int) := by omega
          obtain rfl : v = fx := by rw [if_neg hva] at hown; exact hown
          have HSS := hide (setN_same hv)
          clear hown
          go_wp2_with fail
          clear t0 c0 f0
          have HR1 : Hid (LRow wr g N (L.set a v)) := hide (by rw [unhide HSS]; exact unhide HROW)
          have HB1 := HBEL
          clear HROW HBEL HSS
          have hc := unhide HPT wr (unhide HB1)
          rcases unhide HPAR with ⟨h0, hp⟩ | ⟨p, hp, hpa⟩
          · have HF1 := HFS h0
            have HZ := hide h0
            subst hp
            clear h0 HST HFS HPAR
            have z1 : ¬ (a : Int) ≤ -1 := by omega
            have z2 : ¬ (0 : Int) < (a : Int) := by have := unhide HZ; omega
            go_wp2_with fail
            refine hc.mono ?_
            rintro e w4 ⟨rfl, hb4⟩
            clear hc
            have HA4 : Hid (OrA w1 g ns a (L.set a v) w4) := hide ⟨unhide HLE, unhide HF1, by rw [← unhide HN]; exact (unhide HR1).on hb4, Below.then (unhide HB1) hb4⟩
            go_wp2_with fail
            go_quiet (fail)
            go_wp2_with fail
            go_round
            case measure => simp [intOf]; try omega
            case rel => exact ⟨a, _, _, rfl, hide rfl, hide ((unhide HA4).drew _)⟩
          · obtain ⟨u, hu⟩ : ∃ u, L[p]? = some u := ⟨L[p]'(by rw [unhide HLL]; omega), List.getElem?_eq_getElem _⟩
            have HS1 := HST p u hp hu
            have HGP : Hid ((L.set a v)[p]? = some u) := hide (by rw [List.getElem?_set_ne (by omega)]; exact hu)
            have HGA : Hid ((L.set a v)[a]? = some v) := hide (by rw [List.getElem?_set_self (by rw [unhide HLL]; exact haN)])
            subst hp
            clear HST HFS HPAR hu
            have z1 : ¬ (a : Int) ≤ (p : Int) := by omega
            have z2 : (0 : Int) < (a : Int) := by omega
            have z4 : ¬ (p : Int) < 0 := by omega
            have z5 : (0 : Int) ≤ (p : Int) := by omega
            have z6 : (p : Int) < (N : Int) := by omega
            have hpN : p < N := by omega
            go_wp2_with fail
            refine hc.mono ?_
            rintro e w4 ⟨rfl, hb4⟩
            clear hc
            have HR4 := hide ((unhide HR1).on hb4)
            have HB4 := hide (Below.then (unhide HB1) hb4)
            have cp := (unhide HR4).cell hpos (unhide HGP)
            have ca := (unhide HR4).cell hpos (unhide HGA)
            have fp := (unhide HR4).frozen hpos p
            have HSP := hide (setN_same (unhide HGP))
            clear HR1 HB1 hb4 HGP HGA hpa
            by_cases huf : u < v
            · have t1 : (u : Int) < (v : Int) := by omega
              have HA4 : Hid (∀ n, OrA w1 g ns a ((L.set a v).set p v) ((w4.drewN n).setCell ⟨g, p, none⟩ (.int .i64 (v : Nat)))) := hide fun n => ⟨unhide HLE, by have := unhide HS1; rw [if_pos huf] at this; exact this, by rw [← unhide HN]; exact ((unhide HR4).on (drewN_below _ _)).put hpN _, (Below.then (unhide HB4) (drewN_below _ _)).setCell hg1 _⟩
              clear huf HS1 HR4 HB4
              go_wp2_with fail
              go_quiet (fail)
              go_wp2_with fail
              go_round
              case measure => simp [intOf]; try omega
              case rel => exact ⟨a, _, _, rfl, hide rfl, hide (unhide HA4 _)⟩
            · have t1 : ¬ (u : Int) < (v : Int) := by omega
              have HA4 : Hid (OrA w1 g ns a ((L.set a v).set p u) w4) := hide ⟨unhide HLE, by have := unhide HS1; rw [if_neg huf] at this; exact this, by rw [← unhide HN, unhide HSP]; exact unhide HR4, unhide HB4⟩
              clear huf HS1 HR4 HB4
              go_wp2_with fail
              go_quiet (fail)
              go_wp2_with fail
              go_round
              case measure => simp [intOf]; try omega
              case rel => exact ⟨a, _, _, rfl, hide rfl, hide ((unhide HA4).drew _)⟩
end Go.Proofs.YtjjggncbhenffaaGreatDoor
/- From what a row lists of the library's tables, and from the world's shape, to what the walks of layer 3 ask. -/
namespace Go.Proofs.YtjjggncbhenffaaGreatDoor
open Go.ChangeShapes Go.WideShapes Go.ChangeAt Go.RowKit
theorem u8extra : U8Extra Tryz.prog Tryz.lays260_ren where
  n3 := by kernel_rfl
  n4 := by kernel_rfl
  y3 := by kernel_rfl
  y4 := by kernel_rfl
  c5 := by kernel_rfl
  c119 := by kernel_rfl
  c138 := by kernel_rfl
theorem first_data : Rows.laid_unicode_utf8_first = Lib.firstData := by kernel_rfl
theorem accept_data : Rows.laid_unicode_utf8_acceptRanges = Lib.acceptData := by kernel_rfl
def foldTab : List Int := [0, 1, 2, 3, 4, 5, 6, 7, 8, 9, 10, 11, 12, 13, 14, 15, 16, 17, 18, 19, 20, 21, 22, 23, 24, 25, 26, 27, 28, 29, 30, 31, 32, 33, 34, 35, 36, 37, 38, 39, 40, 41, 42, 43, 44, 45, 46, 47, 48, 49, 50, 51, 52, 53, 54, 55, 56, 57, 58, 59, 60, 61, 62, 63, 64, 97, 98, 99, 100, 101, 102, 103, 104, 105, 106, 107, 108, 109, 110, 111, 112, 113, 114, 115, 116, 117, 118, 119, 120, 121, 122, 91, 92, 93, 94, 95, 96, 65, 66, 67, 68, 69, 70, 71, 72, 73, 74, 8490, 76, 77, 78, 79, 80, 81, 82, 383, 84, 85, 86, 87, 88, 89, 90, 123, 124, 125, 126, 127]
theorem fold_data : (Rows.laid_unicode_asciiFold : DataW Unit) = Lib.tabData .u16 foldTab := by kernel_rfl
theorem xTab_of {P : Program} {W : World} {name : String} {k : IntKind} {zs : List Int} {g : Nat} {t e : TypeId} {n : Nat} (hg : P.globalNamed name = some g) (hty : (P.globals[g]?).map (·.type) = some t) (ht : P.underlying t = some (.array n e)) (he : P.underlying e = some (.int k)) (hce : P.cellsOf e = 1) (hct : P.cellsOf t = n) (h : Lib.VarReads P W name (Lib.tabData k zs)) (j : Nat) : W.cell? ⟨g, j, none⟩ = (zs.map fun z => Value.int k z)[j]? := by
  obtain ⟨g', t', cs, fuel, p, hg', ht', hvar, hd⟩ := h
  obtain rfl := Option.some.inj (hg.symm.trans hg')
  obtain rfl := Option.some.inj (hty.symm.trans ht')
  rw [World.var?_cell hg hvar j, ← Lib.cells_of_tab ht he hce hct hd]
  simp
theorem env_of {W : World} (hM : laidMet Tryz.prog [("unicode/utf8.acceptRanges", Rows.laid_unicode_utf8_acceptRanges), ("unicode.asciiFold", Rows.laid_unicode_asciiFold), ("unicode.caseOrbit", Rows.laid_unicode_caseOrbit), ("unicode.CaseRanges", Rows.laid_unicode_CaseRanges), ("unicode/utf8.first", Rows.laid_unicode_utf8_first)] W) (hs : W.ShapedOpen Tryz.prog) : XEnv W.heap.size W := by
  have h3 := Lib.laidMet.reads hM (n := "unicode/utf8.first") (d := Rows.laid_unicode_utf8_first) (by simp)
  have h4 := Lib.laidMet.reads hM (n := "unicode/utf8.acceptRanges") (d := Rows.laid_unicode_utf8_acceptRanges) (by simp)
  have h5 := Lib.laidMet.reads hM (n := "unicode.asciiFold") (d := Rows.laid_unicode_asciiFold) (by simp)
  rw [first_data] at h3
  rw [accept_data] at h4
  rw [fold_data] at h5
  have ht := utf8Tabs_of_reads Tryz.lays260 u8extra h3 h4
  have hf := xTab_of (g := 2) (t := 234) (e := 233) (n := 128) (by kernel_rfl) (by kernel_rfl) (by kernel_rfl) Tryz.underlying233 (by kernel_rfl) (by kernel_rfl) h5
  obtain ⟨m, hm⟩ : ∃ m, W.cell? ⟨5, 0, none⟩ = some (.int .i64 m) := cell_of_shapedOpen_int (zero := #[.int .i64 0]) (t := 3) hs (of_decide_eq_true (by kernel_rfl)) (by kernel_rfl) rfl (by kernel_rfl) (by kernel_rfl) Tryz.underlying3
  have fx : W.cell? ⟨2, 120, none⟩ = some (.int .u16 88) := (hf 120).trans rfl
  refine ⟨⟨⟨m, hm⟩, ht⟩, fx, (hf 109).trans rfl, (hf 108).trans rfl, (hf 88).trans rfl, (hf 77).trans rfl, (hf 76).trans rfl, block_lt_of_cell hm, ?_, ?_, block_lt_of_cell fx⟩
  · exact block_lt_of_cell (ht.1 0 (by decide))
  · exact block_lt_of_cell (ht.2 0 (by decide)).1
theorem own : ownKnob Tryz.prog.godebug = none := by kernel_rfl
end Go.Proofs.YtjjggncbhenffaaGreatDoor
