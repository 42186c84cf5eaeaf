/- Scan of texts that are too long, or hold what may not be; and the law's 'live'. -/
import Derived.Test.YtgabgeadeeaihaaDoorLexScanGo
namespace Go.Proofs.YtgabgeadeeaihaaDoor
open Go.RowKit
set_option maxRecDepth 100000 in
set_option maxHeartbeats 1000000 in
theorem scan_long (s : ByteArray) (w : World) (h : 512 < s.size) :
    Calls Tryd.prog 14 #[.string s] w fun e w' => e = .returned (.tuple #[.slice none 0 0, .int .i64 6, .int .i64 0]) ∧ Below w.heap.size w w' := by
  have h' : (512 : Int) < (s.size : Int) := by omega
  go_enter Tryd.func14, Tryd.ntmps14
  go_wp2_with fail
  go_step3
  go_wp2_with fail
  rw [Exit.noGoto_ret]
  go_ret3
  exact ⟨rfl, Below.refl _ _⟩
set_option maxRecDepth 100000 in
set_option maxHeartbeats 1000000 in
theorem scan_bad (s : ByteArray) (w : World) (h : s.size ≤ 512) (hf : (fault s).1 ≠ 0) :
    Calls Tryd.prog 14 #[.string s] w fun e w' => (∃ k, e = .returned (.tuple #[.slice none 0 0, .int .i64 4, .int .i64 k])) ∧ Below w.heap.size w w' := by
  have HF := hide hf
  clear hf
  go_enter Tryd.func14, Tryd.ntmps14
  go_wp2_with fail
  go_step3
  go_wp2_with fail
  refine (firstBad_any s _).mono ?_
  rintro e w1 ⟨⟨k, b, rfl, hkb⟩, hb1⟩
  obtain rfl : b = true := by
    cases b
    · exact absurd (hkb.1 rfl) (unhide HF)
    · rfl
  clear hkb
  go_wp2_with fail
  rw [Exit.noGoto_ret]
  go_ret3
  exact ⟨⟨k, rfl⟩, hb1⟩
/-- Every text is too long, or holds what may not be, or is one of characters that may be. -/
theorem text_cases (s : ByteArray) : 512 < s.size ∨ (s.size ≤ 512 ∧ (fault s).1 ≠ 0) ∨ (s.size ≤ 512 ∧ ∃ cs, okL cs ∧ s = T cs) := by
  by_cases h : 512 < s.size
  · exact .inl h
  · by_cases hf : (fault s).1 = 0
    · exact .inr (.inr ⟨by omega, txt_T ((fault_txt s (s.size + 1) 0 (by omega)).1 hf)⟩)
    · exact .inr (.inl ⟨by omega, hf⟩)
def liveL : List Nat := [42, 32, 42, 32, 42, 32, 100, 105, 118, 32, 116, 101, 120, 116, 32, 40, 32, 41]
theorem live_T : T liveL = ⟨#[42, 32, 42, 32, 42, 32, 100, 105, 118, 32, 116, 101, 120, 116, 32, 40, 32, 41]⟩ := by
  have : tx liveL = [42, 32, 42, 32, 42, 32, 100, 105, 118, 32, 116, 101, 120, 116, 32, 40, 32, 41] := by decide +kernel
  unfold T
  rw [this]
theorem live_scan : scanOf liveL = .ok [(⟨3, [42], [42]⟩, 0), (⟨8, [42], [42]⟩, 2), (⟨3, [42], [42]⟩, 4), (⟨8, [100, 105, 118], [100, 105, 118]⟩, 6), (⟨5, [116, 101, 120, 116], [116, 101, 120, 116]⟩, 10), (⟨9, [40], [40]⟩, 15), (⟨9, [41], [41]⟩, 17)] := by kernel_rfl
theorem live_ok : okL liveL := by
  have : ∀ c ∈ liveL, charR (c : Int) = true := by decide +kernel
  exact this
set_option maxRecDepth 100000 in
set_option maxHeartbeats 1000000 in
theorem live_any (w : World) (hE : Env5 w) :
    Calls Tryd.prog 11 #[] w fun e w' => e = .returned (.bool true) ∧ Below w.heap.size w w' := by
  have hsc := scan_any liveL w live_ok (by rw [live_T]; decide) hE
  rw [live_T, live_scan] at hsc
  have HSC := hide hsc
  clear hsc
  go_enter Tryd.func11, Tryd.ntmps11
  go_wp2_with fail
  refine (unhide HSC).mono ?_
  rintro e w1 ⟨⟨v, rfl, hown⟩, hb1⟩
  rcases own_cells hown with ⟨h0, _⟩ | ⟨g, cap, rfl, hg1, hg2, hg3, hc⟩
  · cases h0
  obtain ⟨a0, _, _⟩ := hc 0 _ rfl
  obtain ⟨a1, _, _⟩ := hc 1 _ rfl
  obtain ⟨a2, _, _⟩ := hc 2 _ rfl
  obtain ⟨a3, _, _⟩ := hc 3 _ rfl
  obtain ⟨a4, _, _⟩ := hc 4 _ rfl
  simp only [Nat.zero_mul, Nat.one_mul, Nat.reduceMul, List.length_cons, List.length_nil, Nat.reduceAdd] at a0 a1 a2 a3 a4 hg3 ⊢
  clear hc hown
  go_wp2
  go_ret
  exact ⟨rfl, hb1⟩
end Go.Proofs.YtgabgeadeeaihaaDoor
