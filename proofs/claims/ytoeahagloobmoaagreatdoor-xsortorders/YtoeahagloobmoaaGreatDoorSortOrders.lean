/- XsortOrders: rows are ordered just as the document says. -/
import Derived.Test.YtoeahagloobmoaaGreatDoorRefOrder
import Derived.Test.YtoeahagloobmoaaGreatDoorLawRows
import Derived.Test.YtoeahagloobmoaaGreatDoorSortLive
namespace Go.Proofs.YtoeahagloobmoaaGreatDoor
open Go.RowKit
theorem below_drewN (w : World) : ∀ n, Below w.heap.size w (w.drewN n)
  | 0 => Below.refl _ _
  | n + 1 => (below_drewN w n).drew
set_option maxRecDepth 100000 in
set_option maxHeartbeats 4000000 in
theorem sameInts_any (g o n ca cb : Nat) (ab : Option Addr) (f : Nat → Nat) (w : World) (ha : ∀ i, i < n → w.cell? ⟨g, o + i, none⟩ = some (.int .i64 ((f i : Nat) : Int))) (hb : 0 < n → ∃ h p, ab = some ⟨h, p, none⟩ ∧ ∀ i, i < n → w.cell? ⟨h, p + i, none⟩ = some (.int .i64 ((f i : Nat) : Int))) (hn : n ≤ 1000) :
    Calls Tryz.prog 6 #[.slice (some ⟨g, o, none⟩) n ca, .slice ab n cb] w fun e w' => e = .returned (.bool true) ∧ Below w.heap.size w w' := by
  have HA := hide ha
  have HB := hide hb
  clear ha hb
  go_enter Tryz.func6, Tryz.ntmps6
  go_wp2_with fail
  go_loopw [5] (fun v wr => ∃ i : Nat, v = .int .i64 (i : Int) ∧ i ≤ n ∧ Below w.heap.size w wr) (fun v _ => n - vNat v)
  case atStart => exact ⟨0, rfl, Nat.zero_le _, Below.refl _ _⟩
  case round =>
    obtain ⟨i, rfl, hi, hbr⟩ := hrel
    by_cases hlt : i < n
    · have hlt' := nat_lt hlt
      have a0 := kept_cell hbr (unhide HA i hlt)
      obtain ⟨h, p, rfl, hc⟩ := unhide HB (by omega)
      have b0 := kept_cell hbr (hc i hlt)
      have HM := hide (show n - (((i + 1 : Nat) : Int)).toNat < n - ((i : Nat) : Int).toNat by rw [Int.toNat_natCast, Int.toNat_natCast]; omega)
      have HE1 := hide (show wrap64 ((i : Int) + 1) = ((i + 1 : Nat) : Int) by
        rw [wrap_same _ (by omega) (by omega)]
        omega)
      have HE2 := hide (show (i : Int) + 1 = ((i + 1 : Nat) : Int) by omega)
      have HBR := hide hbr
      have HLT := hide hlt
      clear hc hbr hlt
      generalize f i = P at *
      go_wp2_with fail
      go_quiet (fail)
      go_wp2_with fail
      refine ⟨⟨i + 1, ?_, unhide HLT, Below.then (unhide HBR) (below_drewN _ _)⟩, ?_⟩
      · first | (rw [unhide HE1]) | (rw [unhide HE2]) | rfl
      · first | (rw [unhide HE1]; exact unhide HM) | (rw [unhide HE2]; exact unhide HM) | exact unhide HM
    · have hlt' := nat_nlt hlt
      go_wp2_with fail
      go_ret
      exact ⟨rfl, hbr⟩
set_option maxRecDepth 100000 in
set_option maxHeartbeats 4000000 in
theorem orders_walk (ad : Option Addr) (n cap : Nat) (V : Nat → Value) (L : Nat → List KeyD) (w : World) (h : RowsArg w ad n V L) (hE : SEnv w) :
    Calls Tryz.prog 3 #[.slice ad n cap] w fun e w' => e = .returned (.bool true) ∧ Below w.heap.size w w' := by
  have HE := hide hE
  have HR := hide (rows_any ad n cap V L w h)
  clear hE h
  go_enter Tryz.func3, Tryz.ntmps3
  go_wp2_with fail
  refine (unhide HR).mono ?_
  rintro e w1 ⟨hout, hb1⟩
  rcases hout with rfl | ⟨m, va, vb, X, Y, hm, rfl, hA, hB, hRt⟩
  · have HB1 := hide hb1
    have HLV := hide (live_any w1 ((unhide HE).below hb1))
    clear hb1
    go_wp2_with fail
    refine (unhide HLV).mono ?_
    rintro e w4 ⟨rfl, hb4⟩
    go_wp2_with fail
    go_ret
    exact ⟨rfl, Below.then (unhide HB1) hb4⟩
  · have HB1 := hide hb1
    have HLV := hide (live_any w1 ((unhide HE).below hb1))
    have HOA := hide (fun u (hu : Below w1.heap.size w1 u) => order_rows (hA.toV.below hu) hRt (by show ((L 0).take 6).length ≤ 1000; rw [List.length_take]; omega) (by omega))
    have HOB := hide (fun u (hu : Below w1.heap.size w1 u) => refOrder_any (hB.below hu) hRt (by show ((L 0).take 6).length ≤ 1000; rw [List.length_take]; omega) (by omega))
    have HM := hide hm
    clear hb1 hRt
    obtain ⟨ada, capa, rfl, _⟩ := hA.open
    obtain ⟨adb, capb, rfl, _⟩ := hB.open
    clear hA hB hm
    go_wp2_with fail
    refine (unhide HLV).mono ?_
    rintro e w2 ⟨rfl, hb2⟩
    have HOA2 := hide (unhide HOA w2 hb2)
    have HB2 := hide hb2
    clear hb2
    go_wp2_with fail
    refine (unhide HOA2).mono ?_
    rintro e w3 ⟨q, r, rfl, hq, hr, hb3, hF, hS⟩
    have HOB3 := hide (unhide HOB w3 (Below.then (unhide HB2) hb3))
    have HF := hide (sorted_places hF)
    have HS := hide hS
    have HRW := hide hr
    have HB3 := hide hb3
    clear hb3 hF hS hr HOA HOA2 HOB
    go_wp2_with fail
    refine (unhide HOB3).mono ?_
    rintro e w4 ⟨⟨vo, os, rfl, hO, hP, hSr⟩, hb4⟩
    have hsame := same_order ((good_row (sixOf L 0)).of (sixOf L)).weak (unhide HF) (unhide HS) hP hSr
    have hcell : ∀ i, i < m → os[i]? = some (r i) := fun i hi => by
      rw [← hsame]
      simp [hi]
    have hra := (unhide HRW).below hb4
    obtain ⟨ao, co, rfl⟩ := own_slice hO
    have HSI := hide (sameInts_any q 0 m m co ao r w4 (fun i hi => by rw [Nat.zero_add]; exact (hra i hi).1) (fun h0 => by
      rcases hO.2 with ⟨_, hz⟩ | ⟨gs, cs, cur, e, _⟩
      · omega
      · cases e
        refine ⟨gs, 0, rfl, fun i hi => ?_⟩
        rw [Nat.zero_add, hO.cellAt i (by omega)]
        exact intsV_at os i (r i) (hcell i hi)) (by have := unhide HM; omega))
    have HB4 := hide hb4
    clear hb4 hsame hcell hra hO hP hSr
    go_wp2_with fail
    refine (unhide HSI).mono ?_
    rintro e w5 ⟨rfl, hb5⟩
    go_wp2_with fail
    go_ret
    exact ⟨rfl, Below.then (unhide HB1) (Below.then (unhide HB2) (Below.then (unhide HB3) (Below.then (unhide HB4) hb5)))⟩
end Go.Proofs.YtoeahagloobmoaaGreatDoor
