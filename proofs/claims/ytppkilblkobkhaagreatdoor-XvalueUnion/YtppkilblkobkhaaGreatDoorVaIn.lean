/- Rows of numbers: stencilref01.SameInts. -/
import Derived.Test.YtppkilblkobkhaaGreatDoorVaLive
import Derived.OwnWalk
namespace Go.Proofs.YtppkilblkobkhaaGreatDoor
open Go.RowKit
/-- A slice of these numbers, handed in or one's own. -/
def IntsV (w : World) (v : Value) (l : List Int) : Prop := ∃ a cap, v = .slice a l.length cap ∧ l.length ≤ cap ∧ (l ≠ [] → ∃ g o, a = some ⟨g, o, none⟩ ∧ ∀ i x, l[i]? = some x → w.cell? ⟨g, o + i, none⟩ = some (.int .i64 x))
theorem IntsV.on {w w' : World} {v : Value} {l : List Int} (h : IntsV w v l) (hb : Below w.heap.size w w') : IntsV w' v l := by
  obtain ⟨a, cap, e, hc, h⟩ := h
  refine ⟨a, cap, e, hc, fun hl => ?_⟩
  obtain ⟨g, o, e', h'⟩ := h hl
  exact ⟨g, o, e', fun i x hx => kept_cell hb (h' i x hx)⟩
theorem take_eq_of {l m : List Int} {k : Nat} (h : l.take k = m.take k) (hl : k < l.length) (hm : k < m.length) (he : l[k] = m[k]) : l.take (k + 1) = m.take (k + 1) := by
  rw [List.take_succ_eq_append_getElem hl, List.take_succ_eq_append_getElem hm, h, he]
set_option maxRecDepth 100000 in
set_option maxHeartbeats 4000000 in
theorem sameInts_any (v u : Value) (l m : List Int) (w : World) (hv : IntsV w v l) (hu : IntsV w u m) (hll : l.length ≤ 9000000) :
    Calls Tryz.prog 9 #[v, u] w fun e w' => e = .returned (.bool (decide (l = m))) ∧ Below w.heap.size w w' := by
  obtain ⟨a, ca, rfl, _, hA⟩ := hv
  obtain ⟨b, cb, rfl, _, hB⟩ := hu
  by_cases hlen : l.length = m.length
  case neg =>
    have n1 : ((l.length : Int) != (m.length : Int)) = true := by simp; omega
    have hd : decide (l = m) = false := by simp; intro e; rw [e] at hlen; exact hlen rfl
    rw [hd]
    clear hd hA hB
    go_enter Tryz.func9, Tryz.ntmps9
    go_wp2
    go_ret
    exact ⟨rfl, Below.refl _ _⟩
  have HA := hide hA
  have HB := hide hB
  have HLN := hide hlen
  clear hA hB
  obtain ⟨n, hn⟩ : ∃ n, m.length = n := ⟨_, rfl⟩
  rw [hlen, hn]
  rw [hn] at hlen
  obtain ⟨D, hD⟩ : ∃ D, decide (l = m) = D := ⟨_, rfl⟩
  rw [hD]
  have HD := hide hD
  have HN := hide (And.intro hlen hn)
  have hn9 : n ≤ 9000000 := by omega
  clear hlen hn hD
  go_enter Tryz.func9, Tryz.ntmps9
  go_wp2_with fail
  go_loopw [5] (fun i wr => ∃ k : Nat, i = .int .i64 (k : Nat) ∧ k ≤ n ∧ l.take k = m.take k ∧ Below w.heap.size w wr) (fun i _ => n - (intOf i).toNat)
  case atStart => exact ⟨0, rfl, Nat.zero_le _, rfl, Below.refl _ _⟩
  case round =>
    obtain ⟨k, rfl, hk, heq, hbr⟩ := hrel
    obtain ⟨hl, hm⟩ := unhide HN
    by_cases h1 : k < n
    · have n1 : (k : Int) < (n : Int) := by omega
      have n0 : (0 : Int) ≤ (k : Int) := by omega
      have hkl : k < l.length := by omega
      have hkm : k < m.length := by omega
      obtain ⟨g, o, rfl, hA⟩ := unhide HA (by intro e; rw [e] at hkl; cases hkl)
      obtain ⟨g', o', rfl, hB⟩ := unhide HB (by intro e; rw [e] at hkm; cases hkm)
      have c1 := kept_cell hbr (hA k _ (List.getElem?_eq_getElem hkl))
      have c2 := kept_cell hbr (hB k _ (List.getElem?_eq_getElem hkm))
      have HX : Hid (ClsV wr wr.drew) := hide ⟨(Below.refl _ _).drew⟩
      have HCE : Hid (∀ w', ClsV wr w' → w'.cell? ⟨g, o + k, none⟩ = some (.int .i64 l[k]) ∧ w'.cell? ⟨g', o' + k, none⟩ = some (.int .i64 m[k])) := hide fun w' hC => ⟨kept_cell hC.bel c1, kept_cell hC.bel c2⟩
      have HBR := hide hbr
      by_cases he : l[k] = m[k]
      · have n2 : (l[k] != m[k]) = false := by simp [he]
        have HT := hide (take_eq_of heq hkl hkm he)
        have HW := hide (show Value.int .i64 ((k : Int) + 1) = .int .i64 ((k + 1 : Nat) : Int) ∧ k + 1 ≤ n ∧ n - (intOf (Value.int .i64 ((k : Int) + 1))).toNat < n - (intOf (Value.int .i64 (k : Int))).toNat from
          ⟨by rw [Int.natCast_add]; rfl, by omega, by simp only [intOf]; omega⟩)
        clear hA hB heq he hl hm c1 c2 hbr
        generalize l[k] = x at *
        generalize m[k] = y at *
        go_wp2_with fail
        refine wp_region_cls (ClsV wr) (by kernel_rfl) (by kernel_rfl) (unhide HX) ?_
        repeat
          (first
            | go_big_quiet_skip
            | (go_big_quiet_want
               go_big_quiet_op
               first
                 | go_big_quiet_on
                 | (apply Exists.intro
                    refine ⟨fun w' hC => ?_, ?_⟩
                    · (obtain ⟨k0, k1⟩ := unhide HCE _ hC; go_simp; first | done | rfl)
                    go_big_quiet_on)))
        refine wpQuiet_nil ?_
        intro w4 hC4
        have HB4 := hide (Below.then (unhide HBR) hC4.bel)
        clear HX HCE hC4
        go_wp2
        go_roundw
        case rel => exact ⟨k + 1, (unhide HW).1, (unhide HW).2.1, unhide HT, unhide HB4⟩
        case measure => exact (unhide HW).2.2
      · have n2 : (l[k] != m[k]) = true := by simp [he]
        have hDf : D = false := by
          rw [← unhide HD]
          simp only [decide_eq_false_iff_not]
          intro e
          subst e
          exact he rfl
        subst hDf
        clear hA hB heq he hl hm c1 c2 hbr
        generalize l[k] = x at *
        generalize m[k] = y at *
        go_wp2_with fail
        refine wp_region_cls (ClsV wr) (by kernel_rfl) (by kernel_rfl) (unhide HX) ?_
        repeat
          (first
            | go_big_quiet_skip
            | (go_big_quiet_want
               go_big_quiet_op
               first
                 | go_big_quiet_on
                 | (apply Exists.intro
                    refine ⟨fun w' hC => ?_, ?_⟩
                    · (obtain ⟨k0, k1⟩ := unhide HCE _ hC; go_simp; first | done | rfl)
                    go_big_quiet_on)))
        refine wpQuiet_nil ?_
        intro w4 hC4
        have HB4 := hide (Below.then (unhide HBR) hC4.bel)
        clear HX HCE hC4
        go_wp2
        go_ret
        exact ⟨rfl, unhide HB4⟩
    · have n1 : ¬ (k : Int) < (n : Int) := by omega
      have hkn : k = n := by omega
      have hDt : D = true := by
        rw [← unhide HD]
        simp only [decide_eq_true_eq]
        rw [hkn, ← hl, List.take_length, hl, ← hm, List.take_length] at heq
        exact heq
      subst hDt
      have HBR := hide hbr
      clear heq hl hm hbr hkn
      go_wp2
      go_ret
      exact ⟨rfl, unhide HBR⟩
end Go.Proofs.YtppkilblkobkhaaGreatDoor
