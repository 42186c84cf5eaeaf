/- XplexBack: what Scan told, joined and scanned again, has the same kinds and texts. -/
import Derived.Test.YtgabgeadeeaihaaDoorLexBackPlain
import Derived.Test.YtgabgeadeeaihaaDoorLexSameGo
namespace Go.Proofs.YtgabgeadeeaihaaDoor
open Go.RowKit
theorem lexs_len (ts : List (Tok × Nat)) : (lexsOf ts).length = ts.length := by unfold lexsOf; rw [List.length_map]
/-- Join of tokens that were scanned. -/
theorem join_own (B : Nat) (v : Value) (ts : List (Tok × Nat)) (w : World) (h : OwnL w B v ts) (hf : ∀ x ∈ ts, formed x.1 ∧ okL x.1.text ∧ (T x.1.text).size ≤ 512) (hn : ts.length ≤ 512) :
    Calls Tryd.prog 12 #[v] w fun e w' => e = .returned (.string (T (joinC (ts.map (·.1))))) ∧ Below w.heap.size w w' := by
  rcases own_cells h with ⟨rfl, a, c, rfl⟩ | ⟨g, cap, rfl, _, _, _, hc⟩
  · exact join_none a c w
  · have hj : joinP (lexsOf ts) = tx (joinC (ts.map (·.1))) := joinP_T ts (fun x hx => ⟨(hf x hx).1, (hf x hx).2.1⟩)
    have hl := joinC_len (ts.map (·.1)) (fun t ht => by obtain ⟨x, hx, rfl⟩ := List.mem_map.1 ht; exact (hf x hx).2.2)
    rw [List.length_map] at hl
    have := join_any (lexsOf ts) g 0 cap w (lexs_at hc) (by rw [lexs_len]; omega) (fun x hx => by
      unfold lexsOf at hx
      obtain ⟨y, hy, rfl⟩ := List.mem_map.1 hx
      have := (hf y hy).2.2
      show (T y.1.text).size ≤ 2000000
      omega) (by rw [hj]; omega)
    rw [lexs_len, hj] at this
    exact this
/-- Same of tokens that were scanned. -/
theorem same_own (B C : Nat) (v u : Value) (ts res : List (Tok × Nat)) (w : World) (h : OwnL w B v ts) (k : OwnL w C u res) (hn : ts.length ≤ 512) (f : Tok → Tok) (hk : ∀ t, (f t).kind = t.kind ∧ (f t).text = t.text) (he : res.map (·.1) = (ts.map (·.1)).map f) :
    Calls Tryd.prog 15 #[v, u, .bool false] w fun e w' => e = .returned (.bool true) ∧ Below w.heap.size w w' := by
  obtain ⟨hl, hs⟩ := same_lexs f hk he
  rw [lexs_len, lexs_len] at hl
  rcases own_cells h with ⟨rfl, a, c, rfl⟩ | ⟨g, cap, rfl, _, _, _, hc⟩
  · rcases own_cells k with ⟨rfl, a', c', rfl⟩ | ⟨g', cap', rfl, _, _, _, hc'⟩
    · exact same_none a a' c c' w
    · rw [hl]
      exact same_none a _ c cap' w
  · rcases own_cells k with ⟨rfl, a', c', rfl⟩ | ⟨g', cap', rfl, _, _, _, hc'⟩
    · obtain rfl : ts = [] := List.length_eq_zero_iff.1 hl.symm
      exact same_none _ a' cap c' w
    · have := same_any (lexsOf ts) (lexsOf res) g g' cap cap' w (lexs_at hc) (lexs_at hc') (by rw [lexs_len]; omega) (by rw [lexs_len, lexs_len]; exact hl) hs
      rw [lexs_len] at this
      rw [hl]
      exact this
set_option maxRecDepth 100000 in
set_option maxHeartbeats 4000000 in
theorem back_walk (s : ByteArray) (w : World) (hE : Env5 w) :
    Calls Tryd.prog 4 #[.string s] w fun e w' => e = .returned (.bool true) ∧ Below w.heap.size w w' := by
  have HE := hide hE
  clear hE
  rcases text_cases s with h | ⟨h, hf⟩ | ⟨h, cs, hl, rfl⟩
  · go_enter Tryd.func4, Tryd.ntmps4
    go_wp2_with fail
    refine (scan_long s _ h).mono ?_
    rintro e w1 ⟨rfl, hb1⟩
    go_wp2_with fail
    refine (live_any _ ((unhide HE).below hb1)).mono ?_
    rintro e w2 ⟨rfl, hb2⟩
    go_wp2
    go_ret
    exact ⟨rfl, Below.then hb1 hb2⟩
  · go_enter Tryd.func4, Tryd.ntmps4
    go_wp2_with fail
    refine (scan_bad s _ h hf).mono ?_
    rintro e w1 ⟨⟨k, rfl⟩, hb1⟩
    go_wp2_with fail
    refine (live_any _ ((unhide HE).below hb1)).mono ?_
    rintro e w2 ⟨rfl, hb2⟩
    go_wp2
    go_ret
    exact ⟨rfl, Below.then hb1 hb2⟩
  · cases hsc : scanOf cs with
    | error p =>
      have hcon := scan_any cs w hl h (unhide HE)
      rw [hsc] at hcon
      have HC := hide hcon
      clear hcon hsc
      go_enter Tryd.func4, Tryd.ntmps4
      go_wp2_with fail
      refine (unhide HC).mono ?_
      rintro e w1 ⟨rfl, hb1⟩
      go_wp2_with fail
      refine (live_any _ ((unhide HE).below hb1)).mono ?_
      rintro e w2 ⟨rfl, hb2⟩
      go_wp2
      go_ret
      exact ⟨rfl, Below.then hb1 hb2⟩
    | ok ts =>
      have hcon := scan_any cs w hl h (unhide HE)
      rw [hsc] at hcon
      have hn : ts.length ≤ 512 := by
        have h1 := laid_count _ ts [] cs (scan_laid_all hsc)
        have h2 := tx_len_ge hl
        rw [T_size] at h
        omega
      have hfm := scan_formed hl hsc
      have hfj : ∀ x ∈ ts, formed x.1 ∧ okL x.1.text ∧ (T x.1.text).size ≤ 512 := fun x hx => by
        obtain ⟨f1, f2, _, f4⟩ := hfm x hx
        exact ⟨f1, f2, by omega⟩
      obtain ⟨res, hr1, hr2⟩ := back_scan hl hsc
      have hoj : okL (joinC (ts.map (·.1))) := joinC_ok _ (fun t ht => by obtain ⟨x, hx, rfl⟩ := List.mem_map.1 ht; exact (hfm x hx).2.1)
      have HJ := hide (fun (v : Value) W hW => join_own w.heap.size v ts W hW hfj hn)
      have HSM := hide (fun (B C : Nat) (v u : Value) W h1 h2 => same_own B C v u ts res W h1 h2 hn retok (fun _ => ⟨rfl, rfl⟩) hr2)
      have HC := hide hcon
      clear hcon hsc hfm hfj hr2
      generalize joinC (ts.map (·.1)) = N at *
      by_cases h512 : 512 < (T N).size
      · have h5 : (512 : Int) < ((T N).size : Int) := by omega
        have HSL := hide (fun W => scan_long (T N) W h512)
        clear hr1
        go_enter Tryd.func4, Tryd.ntmps4
        go_wp2_with fail
        refine (unhide HC).mono ?_
        rintro e w1 ⟨⟨v, rfl, hown⟩, hb1⟩
        have hj := unhide HJ v w1 hown
        have HJ1 := hide hj
        clear hj hown
        go_wp2_with fail
        refine (unhide HJ1).mono ?_
        rintro e w2 ⟨rfl, hb2⟩
        go_wp2_with fail
        refine (unhide HSL _).mono ?_
        rintro e w3 ⟨rfl, hb3⟩
        have hbb := Below.then hb1 (Below.then hb2 hb3)
        go_wp2_with fail
        refine (live_any _ ((unhide HE).below hbb)).mono ?_
        rintro e w4 ⟨rfl, hb4⟩
        go_wp2
        go_ret
        exact ⟨rfl, Below.then hbb hb4⟩
      · have h5 : decide ((512 : Int) < ((T N).size : Int)) = false := by simp; omega
        have HSN := hide (fun W hW => scan_any N W hoj (by omega) hW)
        go_enter Tryd.func4, Tryd.ntmps4
        go_wp2_with fail
        refine (unhide HC).mono ?_
        rintro e w1 ⟨⟨v, rfl, hown⟩, hb1⟩
        have hj := unhide HJ v w1 hown
        have HJ1 := hide hj
        have HO := hide hown
        clear hj hown
        go_wp2_with fail
        refine (unhide HJ1).mono ?_
        rintro e w2 ⟨rfl, hb2⟩
        have hbb2 := Below.then hb1 hb2
        go_wp2_with fail
        refine (unhide HSN _ ((unhide HE).below hbb2)).mono ?_
        rw [hr1]
        rintro e w3 ⟨⟨u, rfl, hown3⟩, hb3⟩
        have hbb3 := Below.then hbb2 hb3
        have HO3 := hide hown3
        clear hown3
        go_wp2_with fail
        refine (live_any _ ((unhide HE).below hbb3)).mono ?_
        rintro e w4 ⟨rfl, hb4⟩
        go_wp2_with fail
        refine (unhide HSM _ _ v u _ (owns_below (unhide HO) (Below.then hb2 (Below.then hb3 hb4))) (owns_below (unhide HO3) hb4)).mono ?_
        rintro e w5 ⟨rfl, hb5⟩
        go_wp2
        go_ret
        exact ⟨rfl, Below.then hbb3 (Below.then hb4 hb5)⟩
end Go.Proofs.YtgabgeadeeaihaaDoor
