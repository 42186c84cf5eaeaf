/- What is written is scanned as it was: the law XmlscanBack. -/
import Derived.Test.YtkklapoceknbcaaGreatDoorXmlTexts
import Derived.Test.YtkklapoceknbcaaGreatDoorXmlWrB
import Derived.Test.YtkklapoceknbcaaGreatDoorXmlWrX
import Derived.Test.YtkklapoceknbcaaGreatDoorXw
namespace Go.Proofs.YtkklapoceknbcaaGreatDoor
open Go.RowKit
theorem pairRow_get : ∀ (l : List (List Nat × List Nat)) (i : Nat) (x : List Nat × List Nat), l[i]? = some x → (pairRow l)[i * 2]? = some (.string (T x.1)) ∧ (pairRow l)[i * 2 + 1]? = some (.string (T x.2))
  | [], i, _, h => by cases h
  | y :: l, 0, x, h => by
    cases h
    exact ⟨rfl, rfl⟩
  | y :: l, i + 1, x, h => by
    have ih := pairRow_get l i x h
    have e : pairRow (y :: l) = .string (T y.1) :: .string (T y.2) :: pairRow l := rfl
    rw [e, show (i + 1) * 2 = i * 2 + 1 + 1 by omega]
    exact ih
theorem attrs_arg {w : World} {B : Nat} {v : Value} {l : List (List Nat × List Nat)} (h : AttrsAt w B v l) : PairsArg w v (l.map fun x => (T x.1, T x.2)) := by
  obtain ⟨a, c, rfl⟩ := owns_slice h
  refine ⟨a, c, by rw [List.length_map], fun hl => ?_⟩
  have hl0 : 0 < l.length := by
    cases l with
    | nil => exact absurd rfl hl
    | cons _ _ => simp
  obtain ⟨g, cap, he, _, _, _, hc⟩ := owns_at h hl0
  cases he
  refine ⟨g, 0, rfl, fun i x hx => ?_⟩
  rw [List.getElem?_map] at hx
  obtain ⟨y, hy, rfl⟩ := Option.map_eq_some_iff.1 hx
  obtain ⟨h1, h2⟩ := pairRow_get l i y hy
  rw [Nat.zero_add]
  exact ⟨hc _ _ h1, hc _ _ h2⟩
theorem tok_arg {w : World} {B g i : Nat} {t : XTok} (h : TokAt w B g i t) : TokArg w g (0 + i * 4) t.b := by
  rw [Nat.zero_add]
  obtain ⟨v, h1, h2⟩ := h.a
  exact ⟨h.k, h.n, ⟨v, h1, attrs_arg h2⟩, h.x⟩
theorem toks_arg {w : World} {B : Nat} {vt : Value} {xs : List XTok} (h : Toks w B vt xs) (hn : 0 < xs.length) : ∃ a cap, vt = .slice a (xs.map XTok.b).length cap ∧ ToksArg w a (xs.map XTok.b) := by
  obtain ⟨g, cap, rfl, _, _, _, ht⟩ := toks_at h hn
  refine ⟨some ⟨g, 0, none⟩, cap, by rw [List.length_map], fun _ => ⟨g, 0, rfl, fun i t hi => ?_⟩⟩
  rw [List.getElem?_map] at hi
  obtain ⟨x, hx, rfl⟩ := Option.map_eq_some_iff.1 hi
  exact tok_arg (ht i x hx)
theorem doc_pos {o : List (List Nat)} {k : Nat} {xs : List XTok} (h : DocT o false k xs) : 0 < xs.length := by
  cases h <;> simp
set_option maxRecDepth 100000 in
set_option maxHeartbeats 4000000 in
theorem back_walk (ts : List BTok) (a : Option Addr) (cap : Nat) (w : World) (hv : ToksArg w a ts) (hn : ts.length ≤ 1048576) (hs : ∀ t ∈ ts, Small t) (hE : XEnv w.heap.size w) :
    Calls Tryz.prog 4 #[.slice a ts.length cap] w fun e w' => e = .returned (.bool true) ∧ Below w.heap.size w w' := by
  have HV := hide hv
  have HS := hide hs
  have HE := hide hE
  have HW := hide (write_any ts a cap w hv hn hs w.heap.size (Nat.le_refl _) hE)
  clear hv hs hE
  rcases write_cases ts with ⟨h1, h2⟩ | ⟨xs, h1, h2, h3, h4, h5, h6, h7⟩
  · obtain ⟨S, c, hR⟩ : ∃ S c, writeR ts = (S, c) := ⟨_, _, rfl⟩
    rw [hR] at HW h1 h2
    simp only at HW h1 h2
    subst h1
    clear hR
    go_enter Tryz.func4, Tryz.ntmps4
    go_wp2_with fail
    refine (unhide HW).mono ?_
    rintro e w1 ⟨rfl, hb1⟩
    have HL := hide (live_any w1 ((unhide HE).at hb1))
    rcases h2 with rfl | rfl
    all_goals
      go_wp2_with fail
      refine (unhide HL).mono ?_
      rintro e w2 ⟨rfl, hb2⟩
      go_wp2
      go_ret
      exact ⟨rfl, Below.then hb1 hb2⟩
  · rw [h5] at HW
    simp only at HW
    obtain ⟨k1, k2, k3⟩ := back_plain h3 h4
    have hpos := doc_pos h3
    have HSC := hide (fun W hEW => scan_told (writeX xs) xs W h6 h7 hEW k3 k2 k1)
    have H1 := hide h1
    generalize T (writeX xs) = D at *
    clear h1 h2 h3 h4 h5 h6 h7 k1 k2 k3
    go_enter Tryz.func4, Tryz.ntmps4
    go_wp2_with fail
    refine (unhide HW).mono ?_
    rintro e w1 ⟨rfl, hb1⟩
    have HE1 := hide ((unhide HE).at hb1)
    go_wp2_with fail
    refine (unhide HSC _ (unhide HE1)).mono ?_
    rintro e w2 ⟨vt, rfl, hT, hb2⟩
    have hb02 := Below.then hb1 hb2
    have HL := hide (live_any w2 ((unhide HE1).at hb2))
    obtain ⟨a2, cap2, hvt, hA⟩ := toks_arg hT hpos
    rw [← unhide H1] at hvt hA
    subst hvt
    have HA := hide hA
    clear hT hA HW HSC
    go_wp2_with fail
    refine (unhide HL).mono ?_
    rintro e w3 ⟨rfl, hb3⟩
    have hb03 := Below.then hb02 hb3
    have HSM := hide (sameTokens_any ts a a2 cap cap2 w3 ((unhide HV).below hb03) ((unhide HA).below hb3) hn (fun t ht => (unhide HS t ht).l))
    go_wp2_with fail
    refine (unhide HSM).mono ?_
    rintro e w4 ⟨rfl, hb4⟩
    go_wp2
    go_ret
    exact ⟨rfl, Below.then hb03 hb4⟩
end Go.Proofs.YtkklapoceknbcaaGreatDoor
