/- What digits are: stencilref02's whole. -/
import Derived.Test.YtnpdjddebeipiaaGreatDoorRecDig
namespace Go.Proofs.YtnpdjddebeipiaaGreatDoor
open Go.RowKit
/-- Digits in memory. -/
def CellsD (w : World) (ad : Option Addr) (l : List Nat) : Prop := l ≠ [] → ∃ g o, ad = some ⟨g, o, none⟩ ∧ ∀ i x, l[i]? = some x → w.cell? ⟨g, o + i, none⟩ = some (.int .i64 ((x : Nat) : Int))
theorem valD_drop (l : List Nat) (j d : Nat) (h : l[j]? = some d) : valD (l.drop j) = d + 10 * valD (l.drop (j + 1)) := by
  obtain ⟨hj, rfl⟩ := List.getElem?_eq_some_iff.1 h
  rw [List.drop_eq_getElem_cons hj]
  rfl
theorem valD_mono (l : List Nat) (a : Nat) : ∀ b, a ≤ b → valD (l.drop b) ≤ valD (l.drop a) := by
  intro b hb
  induction b with
  | zero =>
    obtain rfl : a = 0 := by omega
    exact Nat.le_refl _
  | succ b ih =>
    by_cases c : a = b + 1
    · rw [c]
      exact Nat.le_refl _
    · have := ih (by omega)
      by_cases hb2 : b < l.length
      · have e := valD_drop l b l[b] (List.getElem?_eq_getElem hb2)
        omega
      · rw [List.drop_of_length_le (by omega)]
        exact Nat.zero_le _
/-- What whole tells. -/
def WholeOut (V : Nat) (e : Ending) : Prop := ∃ (n : Nat) (g : Bool), e = .returned (.tuple #[.int .u64 (n : Int), .bool g]) ∧ n < 18446744073709551616 ∧ (V ≤ 1000000000000000000 → n = V ∧ g = false) ∧ (1000000000000000000 < V → g = true)
def decI : Value → Nat
  | .int _ q => (q + 1).toNat
  | _ => 0
set_option maxRecDepth 100000 in
set_option maxHeartbeats 2000000 in
theorem refWhole_any (l : List Nat) (ad : Option Addr) (cap fr : Nat) (w : World) (hl : ∀ d ∈ l, d < 1000000) (hc : CellsD w ad l) (hn : l.length ≤ 1000) (hf : fr ≤ 1000) :
    Calls Tryz.prog 38 #[.slice ad l.length cap, .int .i64 (fr : Int)] w fun e w' => WholeOut (valD (l.drop fr)) e ∧ Below w.heap.size w w' := by
  have HC := hide hc
  have HL := hide hl
  have HN := hide hn
  have HF := hide hf
  clear hc hl
  go_enter Tryz.func38, Tryz.ntmps38
  go_wp2_with fail
  go_loopw [6, 7] (fun vn vi wr => ∃ (j n : Nat), vi = .int .i64 ((j : Int) - 1) ∧ vn = .int .u64 (n : Int) ∧ j ≤ l.length ∧ (fr ≤ j ∨ (j = l.length ∧ n = 0)) ∧ n < 18446744073709551616 ∧ Hid (n = valD (l.drop j)) ∧ Below w.heap.size w wr) (fun _ vi _ => decI vi)
  case atStart =>
    refine ⟨l.length, 0, rfl, rfl, Nat.le_refl _, ?_, by omega, hide ?_, Below.refl _ _⟩
    · exact .inr ⟨rfl, rfl⟩
    · rw [List.drop_of_length_le (Nat.le_refl _)]
      rfl
  case round =>
    obtain ⟨j, n, rfl, rfl, hj, hfj, hn64, hV, hbr⟩ := hrel
    by_cases hlt : fr < j
    · have hlt' : (fr : Int) ≤ (j : Int) - 1 := by omega
      obtain ⟨j1, hj1⟩ : ∃ j1, j1 + 1 = j := ⟨j - 1, by omega⟩
      have hj1l : j1 < l.length := by omega
      obtain ⟨d, hd⟩ : ∃ d, l[j1]? = some d := ⟨_, List.getElem?_eq_getElem hj1l⟩
      obtain ⟨g, o, rfl, hcell⟩ := unhide HC (by intro h; rw [h] at hj1l; simp at hj1l)
      have c0 := kept_cell hbr (hcell j1 d hd)
      have hdl := unhide HL d (List.mem_of_getElem? hd)
      have HV2 := hide (show n * 10 + d = valD (l.drop j1) by rw [valD_drop l j1 d hd, hj1, ← unhide hV]; omega)
      have HMO := hide (valD_mono l fr j (by omega))
      have HBR := hide hbr
      have e1 : (j : Int) - 1 = (j1 : Int) := by omega
      have HJ1 := hide (show j1 ≤ l.length ∧ fr ≤ j1 by omega)
      have HM := hide (show ((((j1 : Int) - 1) + 1)).toNat < ((((j1 : Int)) + 1)).toNat by omega)
      have hb1 : (0 : Int) ≤ (j1 : Int) := by omega
      have hb2 : (j1 : Int) < (l.length : Int) := by omega
      rw [e1] at hlt' ⊢
      clear e1 hbr hcell hj1l hd hj hfj hlt
      by_cases hg : 1000000000000000000 < n
      · have hg' : (1000000000000000000 : Int) < (n : Int) := by omega
        go_wp2_with fail
        change bodyPost Tryz.prog Tryz.f38 (fun e w' => WholeOut (valD (l.drop fr)) e ∧ Below w.heap.size w w') Exit.ret _ _
        go_ret2
        refine ⟨⟨0, true, rfl, by omega, fun h => ?_, fun _ => rfl⟩, unhide HBR⟩
        have := unhide HMO
        rw [← unhide hV] at this
        omega
      · have hg' : ¬ (1000000000000000000 : Int) < (n : Int) := by omega
        have w1 : IntKind.u64.wrap ((n : Int) * 10) = ((n * 10 : Nat) : Int) := by rw [IntKind.wrap_u64]; omega
        have w2 : IntKind.u64.wrap ((d : Nat) : Int) = ((d : Nat) : Int) := by rw [IntKind.wrap_u64]; omega
        have w3 : IntKind.u64.wrap (((n * 10 : Nat) : Int) + ((d : Nat) : Int)) = ((n * 10 + d : Nat) : Int) := by rw [IntKind.wrap_u64]; omega
        have HB64 := hide (show n * 10 + d < 18446744073709551616 by omega)
        go_wp2_with fail
        refine ⟨⟨j1, n * 10 + d, ?_, ?_, (unhide HJ1).1, .inl (unhide HJ1).2, unhide HB64, HV2, unhide HBR⟩, ?_⟩
        · first | rfl | (congr 1; done)
        · first | rfl | (rw [w3]) | (rw [w1, w2, w3])
        · exact unhide HM
    · have hlt' : ¬ (fr : Int) ≤ (j : Int) - 1 := by omega
      have HV2 := hide (show n = valD (l.drop fr) by
        rcases hfj with h | ⟨h1, h2⟩
        · obtain rfl : fr = j := by omega
          exact unhide hV
        · rw [h2, List.drop_of_length_le (by omega)]
          rfl)
      have HBR := hide hbr
      have HN64 := hide hn64
      clear hbr hfj hV
      by_cases hg : 1000000000000000000 < n
      · have hg' : (1000000000000000000 : Int) < (n : Int) := by omega
        go_wp2_with fail
        change bodyPost Tryz.prog Tryz.f38 (fun e w' => WholeOut (valD (l.drop fr)) e ∧ Below w.heap.size w w') Exit.ret _ _
        go_ret2
        rw [← unhide HV2]
        exact ⟨⟨n, true, rfl, unhide HN64, fun h => by omega, fun _ => rfl⟩, unhide HBR⟩
      · have hg' : ¬ (1000000000000000000 : Int) < (n : Int) := by omega
        go_wp2_with fail
        change bodyPost Tryz.prog Tryz.f38 (fun e w' => WholeOut (valD (l.drop fr)) e ∧ Below w.heap.size w w') Exit.ret _ _
        go_ret2
        rw [← unhide HV2]
        exact ⟨⟨n, false, rfl, unhide HN64, fun _ => ⟨rfl, rfl⟩, fun h => by omega⟩, unhide HBR⟩
end Go.Proofs.YtnpdjddebeipiaaGreatDoor
