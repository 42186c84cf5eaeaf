/- The characters of a text, collected: slices.Collect over xvalue.characters. -/
import Derived.Shelf.Abstract
import Derived.Test.YtppkilblkobkhaaGreatDoorVaCh
namespace Go.Proofs.YtppkilblkobkhaaGreatDoor
open Go.RowKit
attribute [local go_sem] Oper.semAt_some
/-- Characters as texts of one byte each. -/
def chRow (l : List UInt8) : List Value := l.map fun x => .string (bsT [x])
theorem infoStrC : (Tryz.prog.info? 9).map (fun i => (i.zero, i.size, i.bytes)) = some (some (.string ⟨#[]⟩), 1, 16) := by kernel_rfl
set_option maxRecDepth 100000 in
set_option maxHeartbeats 2000000 in
theorem appendSeq_chars (n : Nat) (hn : 3 ≤ n) (b B0 : Nat) (hB0 : B0 ≤ b) (xs : List UInt8) (hx : ∀ x ∈ xs, x.toNat < 128) (hl : xs.length ≤ 1048576) (w : World) (hbx : Boxed w b 9 (.string (bsT xs))) :
    CallsIn Fence.wide n Tryz.prog 116 #[.slice none 0 0, .func (.func 117) #[] #[.pointer (some ⟨b, 0, none⟩)]] w fun e W' =>
      (∃ u, e = .returned u ∧ W'.ownsRow w.heap.size 9 1 u xs.length (chRow xs)) ∧ Below B0 w W' := by
  have h1 : 1 ≤ n := by omega
  have hblt := hbx.lt
  obtain ⟨i0, hi, hz0, hz1, hz2⟩ := info_parts infoStrC
  refine callsIn_of_wp_marks Tryz.func116 rfl trivial ?_ rfl
  simp only [Tryz.ntmps116, List.size_toArray, List.length_cons, List.length_nil, Nat.reduceAdd, Nat.reduceSub, Array.replicate_succ, Array.replicate_zero, List.push_toArray, List.append_toArray, List.nil_append, List.cons_append]
  gi_wp2
  have bO := Boxed.new w 52 (.slice none 0 0)
  have hBw : Below B0 w (w.alloc (.cells #[.slice none 0 0] 52)) := (Below.refl _ w).alloc (by omega) _
  refine wpIn_range_cell h1 (gf := 117) (lb := #[.pointer (some ⟨b, 0, none⟩)]) rfl (enters_of Tryz.func117 (by kernel_rfl) rfl)
    (chars_seq (n - 1) (by omega) b xs hx) (hbx.alloc _) (fun _ => rfl)
    (fun pre W => (∃ u, Boxed W w.heap.size 52 u ∧ W.ownsRow w.heap.size 9 1 u pre.length (chRow pre) ∧ (u = .slice none 0 0 ↔ pre = [])) ∧ Below B0 w W)
    (OwnFrom.and (Own.from (holdsRow_own w.heap.size w.heap.size 52 9 1 (fun pre : List UInt8 => pre.length) (fun pre => chRow pre) (fun pre u => u = .slice none 0 0 ↔ pre = [])) _) (ownFrom_below (by omega) (by simp; omega)))
    ?cell
    ⟨⟨_, bO, World.ownsRow_nil _ _ _ _, by simp⟩, hBw⟩
    (fun x => { tmps := #[.slice none 0 0, .func (.func 117) #[] #[.pointer (some ⟨b, 0, none⟩)], .pointer (some ⟨w.heap.size, 0, none⟩), undef, .slice none 0 0, .string (bsT [x]), .func (.func 117) #[] #[.pointer (some ⟨b, 0, none⟩)], .string (bsT [x]), undef, undef, undef, undef, undef], defers := [] }) ?assign ?body ?done
  case cell =>
    rintro pre A v ⟨⟨u, h2, h3, h4⟩, h5⟩
    exact ⟨⟨u, (Below.heap_setCell _ _ _ _ (by show w.heap.size ≠ b; omega)).trans h2, ownsRow_setCell_below h3 hblt v, h4⟩, h5.setCell hB0 v⟩
  case assign =>
    intro l x W K hK
    gi_wp2
    exact hK
  case body =>
    rintro l pre x W ⟨⟨u, hv, hrow, hnil⟩, hB⟩ hlt
    have hc := hv.cell
    have hsz := hv.lt
    gi_wp2_with (gi_at_builtin; refine wpListIn_append_own _ rfl _ _ 52 rfl w.heap.size 9 i0 (.string ⟨#[]⟩) 1 16 Tryz.underlying52 hi hz0 hz1 hz2 rfl (by decide) _ _ _ rfl (hrow.alloc _) ⟨W.heap.size, 0, none⟩ 1 1 [.string (bsT [x])] rfl rfl (cell_one_new _ _ _) (by simp [Value.oneCell']) (by unfold maxLen; omega) (by omega) (by simp; omega) ?_; intro v' w1 hown' hgrow _; obtain ⟨g', cap', rfl⟩ := ownsRow_succ hown'; obtain ⟨hv1, hv2, hr2, hk2, hb2⟩ := hv.appended (by decide) hrow (by omega) (Nat.le_refl _) hown' hgrow; have hc1 := hv1.cell; have hf1 := hv1.frozen)
    exact ⟨hk2.from _, hb2.block b hblt, ⟨_, hv2, by simpa [chRow] using hr2, by simp⟩, hB.trans (hb2.mono (by omega))⟩
  case done =>
    rintro D W hD ⟨⟨u, hv, hrow, hnil⟩, hB⟩ hKK
    have hc := hv.cell
    gi_wp2
    refine ⟨by simp, .inl ⟨_, _, rfl, run_takeDeferred hKK, ?_⟩⟩
    exact ⟨_, results_tmp rfl _ _ _, ⟨u, rfl, ownsRow_putObj hrow _ hKK rfl⟩, hB.trans (belowK_b (w := w) (by omega) W D _ _ (by simp at hD; omega) hKK rfl rfl)⟩
set_option maxRecDepth 100000 in
set_option maxHeartbeats 2000000 in
theorem collect_chars (b B0 : Nat) (hB0 : B0 ≤ b) (xs : List UInt8) (hx : ∀ x ∈ xs, x.toNat < 128) (hl : xs.length ≤ 1048576) (w : World) (hbx : Boxed w b 9 (.string (bsT xs))) :
    Calls Tryz.prog 82 #[.func (.func 117) #[] #[.pointer (some ⟨b, 0, none⟩)]] w fun e W' =>
      (∃ u, e = .returned u ∧ W'.ownsRow w.heap.size 9 1 u xs.length (chRow xs)) ∧ Below B0 w W' := by
  have HA := hide (callsIn_wide.1 (appendSeq_chars 3 (Nat.le_refl _) b B0 hB0 xs hx hl w hbx))
  clear hbx hx hl hB0
  go_enter Tryz.func82, Tryz.ntmps82
  go_wp2_with fail
  refine (unhide HA).mono ?_
  rintro e w1 ⟨⟨u, rfl, hu⟩, hb⟩
  go_wp2
  go_returns
  exact ⟨⟨u, rfl, hu⟩, hb⟩
end Go.Proofs.YtppkilblkobkhaaGreatDoor
