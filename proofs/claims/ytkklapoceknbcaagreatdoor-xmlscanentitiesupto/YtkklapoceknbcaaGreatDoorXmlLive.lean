/- What must be whatever is asked: stencillaw03's live; tokens in memory, read. -/
import Derived.Test.YtkklapoceknbcaaGreatDoorXmlScan
namespace Go.Proofs.YtkklapoceknbcaaGreatDoor
open Go.RowKit
theorem tokRow_get : ∀ (ts : List XTok) (vs : List Value) (i j : Nat) (t : XTok) (v : Value), ts[i]? = some t → vs[i]? = some v → j < 4 → (tokRow ts vs)[i * 4 + j]? = (tokCells t v)[j]?
  | [], _, i, _, _, _, h, _, _ => by cases h
  | _ :: _, [], i, _, _, _, _, h, _ => by cases h
  | x :: ts, y :: vs, 0, j, t, v, h1, h2, hj => by
    cases h1
    cases h2
    show (tokCells x y ++ tokRow ts vs)[0 * 4 + j]? = _
    rw [Nat.zero_mul, Nat.zero_add, List.getElem?_append_left (by show j < 4; exact hj)]
  | x :: ts, y :: vs, i + 1, j, t, v, h1, h2, hj => by
    have ih := tokRow_get ts vs i j t v h1 h2 hj
    show (tokCells x y ++ tokRow ts vs)[(i + 1) * 4 + j]? = _
    rw [List.getElem?_append_right (by show 4 ≤ _; omega), ← ih]
    congr 1
    show (i + 1) * 4 + j - 4 = _
    omega
/-- Where a row's cells lie. -/
theorem owns_at {w : World} {B : Nat} {e : TypeId} {size : Nat} {v : Value} {n : Nat} {xs : List Value} (h : w.ownsRow B e size v n xs) (hn : 0 < n) : ∃ g cap, v = .slice (some ⟨g, 0, none⟩) n cap ∧ n ≤ cap ∧ B ≤ g ∧ g < w.heap.size ∧ ∀ j x, xs[j]? = some x → w.cell? ⟨g, j, none⟩ = some x := by
  have h' := h
  rcases h.2 with ⟨_, h0⟩ | ⟨g, cap, cur, rfl, h2, h3, h4⟩
  · omega
  · refine ⟨g, cap, rfl, h4.1, h2, (Array.getElem?_eq_some_iff.1 h3).1, fun j x hx => ?_⟩
    have hj : j < n * size := by
      have := (List.getElem?_eq_some_iff.1 hx).1
      rw [h.1] at this
      exact this
    have hc := h'.cellAt j hj
    rw [hc]
    exact hx
/-- A token in memory. -/
structure TokAt (w : World) (B g i : Nat) (t : XTok) : Prop where
  k : w.cell? ⟨g, i * 4, none⟩ = some (.int .i64 (t.kind : Nat))
  n : w.cell? ⟨g, i * 4 + 1, none⟩ = some (.string (T t.name))
  a : ∃ v, w.cell? ⟨g, i * 4 + 2, none⟩ = some v ∧ AttrsAt w B v t.attrs
  x : w.cell? ⟨g, i * 4 + 3, none⟩ = some (.string (T t.text))
theorem toks_at {w : World} {B : Nat} {vt : Value} {ts : List XTok} (h : Toks w B vt ts) (hn : 0 < ts.length) : ∃ g cap, vt = .slice (some ⟨g, 0, none⟩) ts.length cap ∧ ts.length ≤ cap ∧ B ≤ g ∧ g < w.heap.size ∧ ∀ (i : Nat) (t : XTok), ts[i]? = some t → TokAt w B g i t := by
  obtain ⟨vs, h1, h2, h3⟩ := h
  obtain ⟨g, cap, rfl, hc, hB, hg, hx⟩ := owns_at h2 hn
  refine ⟨g, cap, rfl, hc, hB, hg, fun i t ht => ?_⟩
  have hi : i < vs.length := by
    rw [h1]
    exact (List.getElem?_eq_some_iff.1 ht).1
  obtain ⟨v, hv⟩ : ∃ v, vs[i]? = some v := ⟨vs[i], List.getElem?_eq_getElem hi⟩
  refine ⟨?_, ?_, ⟨v, ?_, h3 i t v ht hv⟩, ?_⟩
  · exact hx (i * 4 + 0) _ (tokRow_get ts vs i 0 t v ht hv (by decide))
  · exact hx (i * 4 + 1) _ (tokRow_get ts vs i 1 t v ht hv (by decide))
  · exact hx (i * 4 + 2) _ (tokRow_get ts vs i 2 t v ht hv (by decide))
  · exact hx (i * 4 + 3) _ (tokRow_get ts vs i 3 t v ht hv (by decide))
def liveX : List Nat := [60, 97, 32, 98, 61, 39, 49, 39, 62, 120, 38, 108, 116, 59, 60, 33, 45, 45, 99, 45, 45, 62, 60, 47, 97, 62]
theorem liveX_T : (⟨#[60, 97, 32, 98, 61, 39, 49, 39, 62, 120, 38, 108, 116, 59, 60, 33, 45, 45, 99, 45, 45, 62, 60, 47, 97, 62]⟩ : ByteArray) = T liveX := by
  have : tx liveX = [60, 97, 32, 98, 61, 39, 49, 39, 62, 120, 38, 108, 116, 59, 60, 33, 45, 45, 99, 45, 45, 62, 60, 47, 97, 62] := by decide +kernel
  unfold T
  rw [this]
theorem liveX_ok : okL liveX := by
  unfold okL
  decide +kernel
theorem liveX_scan : scanX liveX = .ok [⟨2, [97], [([98], [49])], []⟩, ⟨4, [], [], [120, 60]⟩, ⟨5, [], [], [99]⟩, ⟨7, [97], [], []⟩] := by kernel_rfl
theorem liveX_type : RS.noType (liveX.length + 1) (RS.start liveX) = true := by kernel_rfl
set_option maxRecDepth 100000 in
set_option maxHeartbeats 2000000 in
theorem live_any (w : World) (hE : XEnv w.heap.size w) :
    Calls Tryz.prog 10 #[] w fun e w' => e = .returned (.bool true) ∧ Below w.heap.size w w' := by
  have HS := hide (scan_plain liveX w liveX_ok (by rw [← liveX_T]; decide) hE (by kernel_rfl) liveX_type)
  rw [liveX_scan, ← liveX_T] at HS
  clear hE
  go_enter Tryz.func10, Tryz.ntmps10
  go_wp2_with fail
  refine (unhide HS).mono ?_
  rintro e w1 ⟨⟨vt, rfl, hT⟩, hb⟩
  obtain ⟨g, cap, rfl, hcap, hB, hg, ht⟩ := toks_at hT (by decide)
  have t0 := ht 0 _ rfl
  have t1 := ht 1 _ rfl
  have t2 := ht 2 _ rfl
  have t3 := ht 3 _ rfl
  obtain ⟨v, ha1, ha2⟩ := t0.a
  obtain ⟨g2, cap2, rfl, hcap2, hB2, hg2, hp⟩ := owns_at ha2 (by decide)
  have k0 : w1.cell? ⟨g, 0, none⟩ = some (.int .i64 2) := t0.k
  have k1 : w1.cell? ⟨g, 2, none⟩ = some (.slice (some ⟨g2, 0, none⟩) 1 cap2) := ha1
  have k2 : w1.cell? ⟨g2, 1, none⟩ = some (.string ⟨#[49]⟩) := hp 1 _ rfl
  have k3 : w1.cell? ⟨g, 7, none⟩ = some (.string ⟨#[120, 60]⟩) := t1.x
  have k4 : w1.cell? ⟨g, 8, none⟩ = some (.int .i64 5) := t2.k
  have k5 : w1.cell? ⟨g, 12, none⟩ = some (.int .i64 7) := t3.k
  clear hT ht t0 t1 t2 t3 ha1 ha2 hp HS
  go_wp2
  go_ret
  exact ⟨rfl, hb⟩
end Go.Proofs.YtkklapoceknbcaaGreatDoor
