/- Several texts, laid as one. -/
import Derived.Test.YtefjfjieoiegnaaGreatDoorGbu
import Derived.Test.YtefjfjieoiegnaaGreatDoorOutJp
import Derived.Test.YtefjfjieoiegnaaGreatDoorGao
import Derived.Test.YtefjfjieoiegnaaGreatDoorRows
import Derived.Deep.Slices
import Derived.Deep.Strs
import Derived.ChangeSame
import Derived.Test.YtefjfjieoiegnaaGreatDoorGak
import Derived.Lib.LaidU8
import Derived.HandedShaped
import Derived.WalkKit
import Derived.ProofKit
import Derived.OpenShut
import Derived.ShutString
import Derived.Deep.DeepHandedRow
import Derived.Lib.LaidTab
/- Trees one behind the other are written so, if no two texts meet: the law XoutJoins. -/
namespace Go.Proofs.YtefjfjieoiegnaaGreatDoor
open Go.RowKit Go.Maps
theorem cat_arg {w W : World} {v : Value} {ts : List BTok} {vs : List Value} (hl : vs.length = ts.length) (ho : W.ownsRow w.heap.size 37 4 v ts.length (btRow ts vs)) (hp : ∀ (i : Nat) (t : BTok) (u : Value), ts[i]? = some t → vs[i]? = some u → PairsArg w u t.attrs) (hb : Below w.heap.size w W) : ∃ a c, v = .slice a ts.length c ∧ ToksArg W a ts := by
  by_cases h0 : 0 < ts.length
  · obtain ⟨g, cap', rfl, _, _, _, hcc, _⟩ := owns_cellsO ho h0
    refine ⟨_, _, rfl, fun _ => ⟨g, 0, rfl, fun i t ht => ?_⟩⟩
    have hil := (List.getElem?_eq_some_iff.1 ht).1
    obtain ⟨u, hu⟩ : ∃ u, vs[i]? = some u := ⟨vs[i]'(by rw [hl]; exact hil), List.getElem?_eq_getElem _⟩
    have hq := (hp i t u ht hu).below hb
    rw [Nat.zero_add]
    exact ⟨hcc (i * 4) _ (btRow_get _ _ i t u 0 ht hu (by decide)), hcc (i * 4 + 1) _ (btRow_get _ _ i t u 1 ht hu (by decide)), ⟨u, hcc (i * 4 + 2) _ (btRow_get _ _ i t u 2 ht hu (by decide)), hq⟩, hcc (i * 4 + 3) _ (btRow_get _ _ i t u 3 ht hu (by decide))⟩
  · obtain ⟨a, c, rfl⟩ := owns_slice ho
    exact ⟨a, c, rfl, fun hne => absurd (List.eq_nil_of_length_eq_zero (by omega)) hne⟩
theorem pairs_app {w : World} {xs ys : List BTok} {vs us : List Value} (h1 : vs.length = xs.length) (ha : ∀ (i : Nat) (t : BTok) (u : Value), xs[i]? = some t → vs[i]? = some u → PairsArg w u t.attrs) (hb : ∀ (i : Nat) (t : BTok) (u : Value), ys[i]? = some t → us[i]? = some u → PairsArg w u t.attrs) : ∀ (i : Nat) (t : BTok) (u : Value), (xs ++ ys)[i]? = some t → (vs ++ us)[i]? = some u → PairsArg w u t.attrs := by
  intro i t u ht hu
  by_cases hi : i < xs.length
  · rw [List.getElem?_append_left hi] at ht
    rw [List.getElem?_append_left (by omega)] at hu
    exact ha i t u ht hu
  · rw [List.getElem?_append_right (by omega)] at ht
    rw [List.getElem?_append_right (by omega), h1] at hu
    exact hb _ t u ht hu
theorem cat_arg2 {w W : World} {a : Option Addr} {c n : Nat} {ts : List BTok} {vs : List Value} (hn : n = ts.length) (hl : vs.length = ts.length) (ho : W.ownsRow w.heap.size 37 4 (.slice a n c) n (btRow ts vs)) (hp : ∀ (i : Nat) (t : BTok) (u : Value), ts[i]? = some t → vs[i]? = some u → PairsArg w u t.attrs) (hb : Below w.heap.size w W) : ToksArg W a ts := by
  subst hn
  obtain ⟨a', c', e, h⟩ := cat_arg hl ho hp hb
  cases e
  exact h
/-- Tokens in memory, xs they are appended. -/
structure RowOf (w : World) (g o : Nat) (p : List BTok) (us : List Value) : Prop where
  len : us.length = p.length
  prs : ∀ (i : Nat) (t : BTok) (u : Value), p[i]? = some t → us[i]? = some u → PairsArg w u t.attrs
  cls : ∀ j u, (btRow p us)[j]? = some u → w.cell? ⟨g, o + j, none⟩ = some u
theorem row_of {w : World} {a : Option Addr} {p : List BTok} (h : ToksArg w a p) (hne : p ≠ []) : ∃ g o us, a = some ⟨g, o, none⟩ ∧ RowOf w g o p us := by
  obtain ⟨g, o, rfl, hT⟩ := h hne
  obtain ⟨us, h1, h2, h3⟩ := toks_vals p o hT
  exact ⟨g, o, us, rfl, h1, h2, h3⟩
theorem RowOf.below {w W : World} {g o : Nat} {p : List BTok} {us : List Value} (h : RowOf w g o p us) (hb : Below w.heap.size w W) : RowOf W g o p us := ⟨h.len, fun i t u h1 h2 => (h.prs i t u h1 h2).below hb, fun j u hu => keptC hb (h.cls j u hu)⟩
theorem RowOf.news {w : World} {g o : Nat} {p : List BTok} {us : List Value} (h : RowOf w g o p us) : ∀ j u, (btRow p us)[j]? = some u → w.cell? ((⟨g, o, none⟩ : Addr).add j) = some u := fun j u hu => by
  rw [Addr.add_mid]
  exact h.cls j u hu
set_option maxRecDepth 100000 in
set_option maxHeartbeats 16000000 in
theorem outJoins_walk (m : Int) (xs ys : List BTok) (a b : Option Addr) (cap cap' : Nat) (w : World) (hva : ToksArg w a xs) (hvb : ToksArg w b ys) (hna : xs.length ≤ 1048576) (hnb : ys.length ≤ 1048576) (hsa : ∀ t ∈ xs, Small t) (hsb : ∀ t ∈ ys, Small t) (hE : XEnv w.heap.size w) :
    Calls Tryz.prog 7 #[.int .i64 m, .slice a xs.length cap, .slice b ys.length cap'] w fun e w' => e = .returned (.bool true) ∧ Below w.heap.size w w' := by
  have HVA := hide hva
  have HVB := hide hvb
  have HSA := hide hsa
  have HSB := hide hsb
  have HE := hide hE
  have HW := hide (outWrite_any m xs a cap w hva hna hsa w.heap.size (Nat.le_refl _) hE)
  have HW2 := hide (fun W (hb : Below w.heap.size w W) => outWrite_any m ys b cap' W (hvb.below hb) hnb hsb w.heap.size hb.size (hE.low hb))
  have HL := hide (fun W (hb : Below w.heap.size w W) => live10_any W (hE.at hb))
  clear hva hvb hsa hsb hE
  rcases write_two m xs with ⟨c, hc, hR⟩ | hR
  · obtain ⟨S2, c2, hR2⟩ : ∃ S2 c2, writeO m ys = (S2, c2) := ⟨_, _, rfl⟩
    rw [hR] at HW
    rw [hR2] at HW2
    simp only at HW HW2
    clear hR hR2
    go_enter Tryz.func7, Tryz.ntmps7
    go_wp2_with fail
    refine (unhide HW).mono ?_
    rintro e w1 ⟨rfl, hb1⟩
    clear HW
    go_wp2_with fail
    refine (unhide HW2 _ hb1).mono ?_
    rintro e w2 ⟨rfl, hb2⟩
    have hb02 := Below.then hb1 hb2
    have HL2 := hide (unhide HL _ hb02)
    clear HW2 HL
    rcases hc with rfl | rfl | rfl
    all_goals
      go_wp2_with fail
      refine (unhide HL2).mono ?_
      rintro e w3 ⟨rfl, hb3⟩
      go_wp2
      go_ret
      exact ⟨rfl, Below.then hb02 hb3⟩
  rcases write_two m ys with ⟨c, hc, hR2⟩ | hR2
  · rw [hR] at HW
    rw [hR2] at HW2
    simp only at HW HW2
    clear hR hR2
    go_enter Tryz.func7, Tryz.ntmps7
    go_wp2_with fail
    refine (unhide HW).mono ?_
    rintro e w1 ⟨rfl, hb1⟩
    clear HW
    go_wp2_with fail
    refine (unhide HW2 _ hb1).mono ?_
    rintro e w2 ⟨rfl, hb2⟩
    have hb02 := Below.then hb1 hb2
    have HL2 := hide (unhide HL _ hb02)
    clear HW2 HL
    rcases hc with rfl | rfl | rfl
    all_goals
      go_wp2_with fail
      refine (unhide HL2).mono ?_
      rintro e w3 ⟨rfl, hb3⟩
      go_wp2
      go_ret
      exact ⟨rfl, Below.then hb02 hb3⟩
  have HJ := hide (join_plain hR hR2)
  have hla := (past_few (right_past (write_ok hR).2.1)).1
  have hlb := (past_few (right_past (write_ok hR2).2.1)).1
  have hxa := (write_ok hR).2.2.2.1
  have hxb := (write_ok hR2).2.2.2.1
  rw [hR] at HW
  rw [hR2] at HW2
  simp only at HW HW2
  obtain ⟨x, hx⟩ : ∃ x : ByteArray, x = ⟨(textO m xs).toArray⟩ := ⟨_, rfl⟩
  obtain ⟨y, hy⟩ : ∃ y : ByteArray, y = ⟨(textO m ys).toArray⟩ := ⟨_, rfl⟩
  have hxs : x.size ≤ 32768 := by rw [hx]; show (textO m xs).toArray.size ≤ _; simpa using hxa
  have hys : y.size ≤ 32768 := by rw [hy]; show (textO m ys).toArray.size ≤ _; simpa using hxb
  rw [← hx] at HW HJ
  rw [← hy] at HW2 HJ
  clear hR hR2 hx hy hxa hxb hna hnb
  have HW3 : Hid (∀ (W : World) (a3 : Option Addr) (c3 : Nat), Below w.heap.size w W → ToksArg W a3 (xs ++ ys) → ∀ n : Nat, n = (xs ++ ys).length → Calls Tryz.prog 16 #[.int .i64 m, .slice a3 n c3] W fun e w' => e = .returned (.tuple #[.string (writeO m (xs ++ ys)).1, .int .i64 ((writeO m (xs ++ ys)).2 : Nat)]) ∧ Below W.heap.size W w') := hide (by
    intro W a3 c3 hb hT n hn
    subst hn
    exact outWrite_any m (xs ++ ys) a3 c3 W hT (by rw [List.length_append]; omega) (fun t ht => (List.mem_append.1 ht).elim (unhide HSA t) (unhide HSB t)) w.heap.size hb.size ((unhide HE).low hb))
  obtain ⟨i0, hi, hz0, hz1, hz2⟩ := info_parts infoTokO
  by_cases hx0 : xs = []
  · by_cases hy0 : ys = []
    · subst hx0 hy0
      simp only [List.length_nil] at HW HW2 ⊢

      go_enter Tryz.func7, Tryz.ntmps7
      go_wp2_with fail
      refine (unhide HW).mono ?_
      rintro e w1 ⟨rfl, hb1⟩
      clear HW
      go_wp2_with fail
      refine (unhide HW2 _ hb1).mono ?_
      rintro e w2 ⟨rfl, hb2⟩
      have hb02 := Below.then hb1 hb2
      clear HW2
      have HMARK : True := trivial
      have hrzA := append_nothing none a 0 0 cap (Nat.le_refl _) w2
      have hrzB := append_nothing none b 0 0 cap' (Nat.le_refl _) w2
      go_wp2_with (first | (clear HMARK; at_builtin; refine Lib.wpList_append_run _ rfl _ _ _ _ rfl _ _ rfl rfl _ _ (hrzA _) ?_) | (at_builtin; refine Lib.wpList_append_run _ rfl _ _ _ _ rfl _ _ rfl rfl _ _ (hrzB _) ?_))
      have hb09 := hb02
      have HT9 : Hid (ToksArg w2 none ([] ++ [])) := hide fun h => absurd rfl h
      have hm : ¬ meets [] [] := by rintro ⟨t, u, h, _⟩; cases h

      refine (unhide HW3 _ _ _ hb09 (unhide HT9) _ rfl).mono ?_
      rintro e w5 ⟨rfl, hb5⟩
      have hb05 := Below.then hb09 hb5
      have HL2 := hide (unhide HL _ hb05)
      clear HL HW3
      by_cases z1 : 32768 < x.size + y.size
      · rw [(unhide HJ).2.1 hm (.inl z1)]
        have z1' : (32768 : Int) < (x.size : Int) + (y.size : Int) := by omega
        clear z1 hm HJ
        go_wp2_with fail
        refine (unhide HL2).mono ?_
        rintro e w6 ⟨rfl, hb6⟩
        go_wp2
        go_ret
        exact ⟨rfl, Below.then hb05 hb6⟩
      by_cases z2 : 4096 < ([] : List BTok).length + ([] : List BTok).length
      · exact absurd z2 (by have e0 : ([] : List BTok).length = 0 := rfl; omega)
      · rw [(unhide HJ).2.2 hm (by have e0 : ([] : List BTok).length = 0 := rfl; omega)]
        have z1' : ¬ (32768 : Int) < (x.size : Int) + (y.size : Int) := by omega
        have z2' : ¬ (4096 : Int) < (0 : Int) := by have e0 : ([] : List BTok).length = 0 := rfl; omega
        have e1 : ((x ++ y).toList == (x ++ y).toList) = true := by simp
        clear z1 z2 hm HJ
        go_wp2_with fail
        refine (unhide HL2).mono ?_
        rintro e w6 ⟨rfl, hb6⟩
        go_wp2
        go_ret
        exact ⟨rfl, Below.then hb05 hb6⟩
    · subst hx0
      have hneb := hy0
      simp only [List.length_nil] at HW ⊢
      obtain ⟨gb, ob, ub, rfl, hrob⟩ := row_of (unhide HVB) hneb
      have HRB := hide hrob
      have HBL := hide (btRow_len ys ub hrob.len)
      have HBO := hide (btRow_one (w := w) ys ub hrob.len hrob.prs)
      clear hrob

      go_enter Tryz.func7, Tryz.ntmps7
      go_wp2_with fail
      refine (unhide HW).mono ?_
      rintro e w1 ⟨rfl, hb1⟩
      clear HW
      go_wp2_with fail
      refine (unhide HW2 _ hb1).mono ?_
      rintro e w2 ⟨rfl, hb2⟩
      have hb02 := Below.then hb1 hb2
      clear HW2
      have HMARK : True := trivial
      have hrzA := append_nothing none a 0 0 cap (Nat.le_refl _) w2
      have HBR2 := hide ((unhide HRB).below hb02)
      have HBN := hide (unhide HBR2).news
      go_wp2_with (first | (clear HMARK; at_builtin; refine Lib.wpList_append_run _ rfl _ _ _ _ rfl _ _ rfl rfl _ _ (hrzA _) ?_) | (at_builtin; refine wpList_append_own _ rfl _ _ 24 rfl w2.heap.size 37 i0 _ 4 64 Tryz.underlying24 hi hz0 hz1 hz2 rfl (by decide) (.slice none 0 0) 0 [] rfl (World.ownsRow_nil _ _ _ _) ⟨gb, ob, none⟩ ys.length _ (btRow ys ub) rfl (unhide HBL) (unhide HBN) (unhide HBO) (by unfold maxLen; omega) (by omega) (by omega) ?_; intro v9 w9 hown9 hgrow9 _; rw [Nat.zero_add, List.nil_append] at hown9; obtain ⟨a9, c9, rfl⟩ := owns_slice hown9))
      have hb9 : Below w2.heap.size w2 w9 := (Below.refl _ _).grown hgrow9 (Nat.le_refl _) (fun j hj => ((World.ownsRow_nil w2 w2.heap.size 37 4).lt j hj).1)
      have hb09 := Below.then hb02 hb9
      have HT9 : Hid (ToksArg w9 a9 ([] ++ ys)) := hide (cat_arg2 (w := w2) rfl (unhide HBR2).len hown9 (unhide HBR2).prs hb9)
      have hm : ¬ meets [] ys := by rintro ⟨t, u, h, _⟩; cases h
      clear hown9 hgrow9

      refine (unhide HW3 _ _ _ hb09 (unhide HT9) _ rfl).mono ?_
      rintro e w5 ⟨rfl, hb5⟩
      have hb05 := Below.then hb09 hb5
      have HL2 := hide (unhide HL _ hb05)
      clear HL HW3
      by_cases z1 : 32768 < x.size + y.size
      · rw [(unhide HJ).2.1 hm (.inl z1)]
        have z1' : (32768 : Int) < (x.size : Int) + (y.size : Int) := by omega
        clear z1 hm HJ
        go_wp2_with fail
        refine (unhide HL2).mono ?_
        rintro e w6 ⟨rfl, hb6⟩
        go_wp2
        go_ret
        exact ⟨rfl, Below.then hb05 hb6⟩
      by_cases z2 : 4096 < ([] : List BTok).length + ys.length
      · exact absurd z2 (by have e0 : ([] : List BTok).length = 0 := rfl; omega)
      · rw [(unhide HJ).2.2 hm (by have e0 : ([] : List BTok).length = 0 := rfl; omega)]
        have z1' : ¬ (32768 : Int) < (x.size : Int) + (y.size : Int) := by omega
        have z2' : ¬ (4096 : Int) < (ys.length : Int) := by have e0 : ([] : List BTok).length = 0 := rfl; omega
        have e1 : ((x ++ y).toList == (x ++ y).toList) = true := by simp
        clear z1 z2 hm HJ
        go_wp2_with fail
        refine (unhide HL2).mono ?_
        rintro e w6 ⟨rfl, hb6⟩
        go_wp2
        go_ret
        exact ⟨rfl, Below.then hb05 hb6⟩
  · by_cases hy0 : ys = []
    · subst hy0
      have hnea := hx0
      simp only [List.length_nil] at HW2 ⊢
      obtain ⟨ga, oa, ua, rfl, hroa⟩ := row_of (unhide HVA) hnea
      have HRA := hide hroa
      have HAL := hide (btRow_len xs ua hroa.len)
      have HAO := hide (btRow_one (w := w) xs ua hroa.len hroa.prs)
      clear hroa

      go_enter Tryz.func7, Tryz.ntmps7
      go_wp2_with fail
      refine (unhide HW).mono ?_
      rintro e w1 ⟨rfl, hb1⟩
      clear HW
      go_wp2_with fail
      refine (unhide HW2 _ hb1).mono ?_
      rintro e w2 ⟨rfl, hb2⟩
      have hb02 := Below.then hb1 hb2
      clear HW2
      have HMARK : True := trivial
      have p1 : (0 : Int) < (xs.length : Int) := by have := List.length_pos_iff.2 hnea; omega
      have HAR2 := hide ((unhide HRA).below hb02)
      have HAN := hide (unhide HAR2).news
      go_wp2_with (first | (clear HMARK; at_builtin; refine wpList_append_own _ rfl _ _ 24 rfl w2.heap.size 37 i0 _ 4 64 Tryz.underlying24 hi hz0 hz1 hz2 rfl (by decide) (.slice none 0 0) 0 [] rfl (World.ownsRow_nil _ _ _ _) ⟨ga, oa, none⟩ xs.length _ (btRow xs ua) rfl (unhide HAL) (unhide HAN) (unhide HAO) (by unfold maxLen; omega) (by omega) (by omega) ?_; intro v8 w8 hown8 hgrow8 _; rw [Nat.zero_add, List.nil_append] at hown8; obtain ⟨a8, c8, rfl⟩ := owns_slice hown8; have hb8 : Below w2.heap.size w2 w8 := (Below.refl _ _).grown hgrow8 (Nat.le_refl _) (fun j hj => ((World.ownsRow_nil w2 w2.heap.size 37 4).lt j hj).1); have hsz8 := hb8.size) | (at_builtin; refine Lib.wpList_append_run _ rfl _ _ _ _ rfl _ _ rfl rfl _ _ (append_nothing a8 b _ c8 cap' (owns_room hown8) w8 _) ?_))
      have hb09 := Below.then hb02 hb8
      have HT9 : Hid (ToksArg w8 a8 (xs ++ [])) := hide (by rw [List.append_nil]; exact cat_arg2 (w := w2) rfl (unhide HAR2).len hown8 (unhide HAR2).prs hb8)
      have hm : ¬ meets xs [] := by rintro ⟨t, u, _, h, _⟩; cases h
      clear hown8 hgrow8

      refine (unhide HW3 _ _ _ hb09 (unhide HT9) _ (by rw [List.append_nil])).mono ?_
      rintro e w5 ⟨rfl, hb5⟩
      have hb05 := Below.then hb09 hb5
      have HL2 := hide (unhide HL _ hb05)
      clear HL HW3
      by_cases z1 : 32768 < x.size + y.size
      · rw [(unhide HJ).2.1 hm (.inl z1)]
        have z1' : (32768 : Int) < (x.size : Int) + (y.size : Int) := by omega
        clear z1 hm HJ
        go_wp2_with fail
        refine (unhide HL2).mono ?_
        rintro e w6 ⟨rfl, hb6⟩
        go_wp2
        go_ret
        exact ⟨rfl, Below.then hb05 hb6⟩
      by_cases z2 : 4096 < xs.length + ([] : List BTok).length
      · exact absurd z2 (by have e0 : ([] : List BTok).length = 0 := rfl; omega)
      · rw [(unhide HJ).2.2 hm (by have e0 : ([] : List BTok).length = 0 := rfl; omega)]
        have z1' : ¬ (32768 : Int) < (x.size : Int) + (y.size : Int) := by omega
        have z2' : ¬ (4096 : Int) < (xs.length : Int) := by have e0 : ([] : List BTok).length = 0 := rfl; omega
        have e1 : ((x ++ y).toList == (x ++ y).toList) = true := by simp
        clear z1 z2 hm HJ
        go_wp2_with fail
        refine (unhide HL2).mono ?_
        rintro e w6 ⟨rfl, hb6⟩
        go_wp2
        go_ret
        exact ⟨rfl, Below.then hb05 hb6⟩
    · have hnea := hx0
      have hneb := hy0
      obtain ⟨ga, oa, ua, rfl, hroa⟩ := row_of (unhide HVA) hnea
      have HRA := hide hroa
      have HAL := hide (btRow_len xs ua hroa.len)
      have HAO := hide (btRow_one (w := w) xs ua hroa.len hroa.prs)
      clear hroa
      obtain ⟨gb, ob, ub, rfl, hrob⟩ := row_of (unhide HVB) hneb
      have HRB := hide hrob
      have HBL := hide (btRow_len ys ub hrob.len)
      have HBO := hide (btRow_one (w := w) ys ub hrob.len hrob.prs)
      clear hrob

      go_enter Tryz.func7, Tryz.ntmps7
      go_wp2_with fail
      refine (unhide HW).mono ?_
      rintro e w1 ⟨rfl, hb1⟩
      clear HW
      go_wp2_with fail
      refine (unhide HW2 _ hb1).mono ?_
      rintro e w2 ⟨rfl, hb2⟩
      have hb02 := Below.then hb1 hb2
      clear HW2
      have HMARK : True := trivial
      have p1 : (0 : Int) < (xs.length : Int) := by have := List.length_pos_iff.2 hnea; omega
      have p2 : (0 : Int) < (ys.length : Int) := by have := List.length_pos_iff.2 hneb; omega
      have HAR2 := hide ((unhide HRA).below hb02)
      have HAN := hide (unhide HAR2).news
      have HBR2 := hide ((unhide HRB).below hb02)
      have HBN := hide (unhide HBR2).news
      go_wp2_with (first | (clear HMARK; at_builtin; refine wpList_append_own _ rfl _ _ 24 rfl w2.heap.size 37 i0 _ 4 64 Tryz.underlying24 hi hz0 hz1 hz2 rfl (by decide) (.slice none 0 0) 0 [] rfl (World.ownsRow_nil _ _ _ _) ⟨ga, oa, none⟩ xs.length _ (btRow xs ua) rfl (unhide HAL) (unhide HAN) (unhide HAO) (by unfold maxLen; omega) (by omega) (by omega) ?_; intro v8 w8 hown8 hgrow8 _; rw [Nat.zero_add, List.nil_append] at hown8; obtain ⟨a8, c8, rfl⟩ := owns_slice hown8; have hb8 : Below w2.heap.size w2 w8 := (Below.refl _ _).grown hgrow8 (Nat.le_refl _) (fun j hj => ((World.ownsRow_nil w2 w2.heap.size 37 4).lt j hj).1); have hsz8 := hb8.size) | (at_builtin; refine wpList_append_own _ rfl _ _ 24 rfl w2.heap.size 37 i0 _ 4 64 Tryz.underlying24 hi hz0 hz1 hz2 rfl (by decide) _ _ _ rfl hown8 ⟨gb, ob, none⟩ ys.length _ (btRow ys ub) rfl (unhide HBL) ((unhide HBR2).below hb8).news (unhide HBO) (by unfold maxLen; omega) (by omega) (by omega) ?_; intro v9 w9 hown9 hgrow9 _; obtain ⟨a9, c9, rfl⟩ := owns_slice hown9))
      have hb9 : Below w2.heap.size w2 w9 := hb8.grown hgrow9 hb8.size (fun j hj => (hown8.lt j hj).1)
      have hb09 := Below.then hb02 hb9
      have HT9 : Hid (ToksArg w9 a9 (xs ++ ys)) := hide (cat_arg2 (w := w2) (vs := ua ++ ub) (by rw [List.length_append]) (by rw [List.length_append, List.length_append, (unhide HAR2).len, (unhide HBR2).len]) (by rw [btRow_app xs ys ua ub (unhide HAR2).len]; exact hown9) (pairs_app (unhide HAR2).len (unhide HAR2).prs (unhide HBR2).prs) hb9)
      clear hown8 hgrow8 hown9 hgrow9

      refine (unhide HW3 _ _ _ hb09 (unhide HT9) _ (by rw [List.length_append])).mono ?_
      rintro e w5 ⟨rfl, hb5⟩
      have hb05 := Below.then hb09 hb5
      have HL2 := hide (unhide HL _ hb05)
      clear HL HW3
      obtain ⟨t, ht⟩ : ∃ t, xs.getLast? = some t := ⟨xs.getLast hnea, List.getLast?_eq_some_getLast hnea⟩
      obtain ⟨u, hu⟩ : ∃ u, ys.head? = some u := ⟨ys.head hneb, List.head?_eq_some_head hneb⟩
      have ca : w5.cell? ⟨ga, oa + (xs.length - 1) * 4, none⟩ = some (.int .i64 t.kind) := by
        rw [List.getLast?_eq_getElem?] at ht
        obtain ⟨v, hv⟩ : ∃ v, ua[xs.length - 1]? = some v := ⟨ua[xs.length - 1]'(by rw [(unhide HRA).len]; omega), List.getElem?_eq_getElem _⟩
        exact keptC hb05 ((unhide HRA).cls ((xs.length - 1) * 4) _ (btRow_get xs ua _ t v 0 ht hv (by decide)))
      have cb : w5.cell? ⟨gb, ob, none⟩ = some (.int .i64 u.kind) := by
        rw [List.head?_eq_getElem?] at hu
        obtain ⟨v, hv⟩ : ∃ v, ub[0]? = some v := ⟨ub[0]'(by rw [(unhide HRB).len]; omega), List.getElem?_eq_getElem _⟩
        exact keptC hb05 ((unhide HRB).cls 0 _ (btRow_get ys ub 0 u v 0 hu hv (by decide)))
      have n3 : (xs.length : Int) ≤ 1048576 := by omega
      clear HT9 HAN HBN HAR2 HBR2 HAL HBL HAO HBO HRA HRB hb9 hb8
      by_cases q1 : t.kind = 4
      · by_cases q2 : u.kind = 4
        · rw [(unhide HJ).1 ⟨t, u, ht, hu, q1, q2⟩]
          rw [q1] at ca
          rw [q2] at cb
          clear q1 q2 ht hu HJ
          go_wp2_with fail
          refine (unhide HL2).mono ?_
          rintro e w6 ⟨rfl, hb6⟩
          go_wp2
          go_ret
          exact ⟨rfl, Below.then hb05 hb6⟩
        · have hm : ¬ meets xs ys := by
            rintro ⟨t', u', _, h2, _, h4⟩
            rw [hu] at h2
            cases h2
            exact q2 h4
          rw [q1] at ca
          clear q1 ht hu
          by_cases z1 : 32768 < x.size + y.size
          · rw [(unhide HJ).2.1 hm (.inl z1)]
            have z1' : (32768 : Int) < (x.size : Int) + (y.size : Int) := by omega
            clear z1 hm HJ
            go_wp2_with fail
            refine (unhide HL2).mono ?_
            rintro e w6 ⟨rfl, hb6⟩
            go_wp2
            go_ret
            exact ⟨rfl, Below.then hb05 hb6⟩
          by_cases z2 : 4096 < xs.length + ys.length
          · rw [(unhide HJ).2.1 hm (.inr z2)]
            have z1' : ¬ (32768 : Int) < (x.size : Int) + (y.size : Int) := by omega
            have z2' : (4096 : Int) < (xs.length : Int) + (ys.length : Int) := by have e0 : ([] : List BTok).length = 0 := rfl; omega
            clear z1 z2 hm HJ
            go_wp2_with fail
            refine (unhide HL2).mono ?_
            rintro e w6 ⟨rfl, hb6⟩
            go_wp2
            go_ret
            exact ⟨rfl, Below.then hb05 hb6⟩
          · rw [(unhide HJ).2.2 hm (by have e0 : ([] : List BTok).length = 0 := rfl; omega)]
            have z1' : ¬ (32768 : Int) < (x.size : Int) + (y.size : Int) := by omega
            have z2' : ¬ (4096 : Int) < (xs.length : Int) + (ys.length : Int) := by have e0 : ([] : List BTok).length = 0 := rfl; omega
            have e1 : ((x ++ y).toList == (x ++ y).toList) = true := by simp
            clear z1 z2 hm HJ
            go_wp2_with fail
            refine (unhide HL2).mono ?_
            rintro e w6 ⟨rfl, hb6⟩
            go_wp2
            go_ret
            exact ⟨rfl, Below.then hb05 hb6⟩
      · have hm : ¬ meets xs ys := by
          rintro ⟨t', u', h1, _, h3, _⟩
          rw [ht] at h1
          cases h1
          exact q1 h3
        clear ht hu
        by_cases z1 : 32768 < x.size + y.size
        · rw [(unhide HJ).2.1 hm (.inl z1)]
          have z1' : (32768 : Int) < (x.size : Int) + (y.size : Int) := by omega
          clear z1 hm HJ
          go_wp2_with fail
          refine (unhide HL2).mono ?_
          rintro e w6 ⟨rfl, hb6⟩
          go_wp2
          go_ret
          exact ⟨rfl, Below.then hb05 hb6⟩
        by_cases z2 : 4096 < xs.length + ys.length
        · rw [(unhide HJ).2.1 hm (.inr z2)]
          have z1' : ¬ (32768 : Int) < (x.size : Int) + (y.size : Int) := by omega
          have z2' : (4096 : Int) < (xs.length : Int) + (ys.length : Int) := by have e0 : ([] : List BTok).length = 0 := rfl; omega
          clear z1 z2 hm HJ
          go_wp2_with fail
          refine (unhide HL2).mono ?_
          rintro e w6 ⟨rfl, hb6⟩
          go_wp2
          go_ret
          exact ⟨rfl, Below.then hb05 hb6⟩
        · rw [(unhide HJ).2.2 hm (by have e0 : ([] : List BTok).length = 0 := rfl; omega)]
          have z1' : ¬ (32768 : Int) < (x.size : Int) + (y.size : Int) := by omega
          have z2' : ¬ (4096 : Int) < (xs.length : Int) + (ys.length : Int) := by have e0 : ([] : List BTok).length = 0 := rfl; omega
          have e1 : ((x ++ y).toList == (x ++ y).toList) = true := by simp
          clear z1 z2 hm HJ
          go_wp2_with fail
          refine (unhide HL2).mono ?_
          rintro e w6 ⟨rfl, hb6⟩
          go_wp2
          go_ret
          exact ⟨rfl, Below.then hb05 hb6⟩
end Go.Proofs.YtefjfjieoiegnaaGreatDoor
/- Tokens that are handed in: what a slice of them is. -/
namespace Go.Proofs.YtefjfjieoiegnaaGreatDoor
open Go.RowKit
theorem cellsStrT : Tryz.prog.cellsOf 9 = 1 := by kernel_rfl
theorem cellsPairT : Tryz.prog.cellsOf 40 = 2 := by kernel_rfl
theorem cellsTokT : Tryz.prog.cellsOf 37 = 4 := by kernel_rfl
theorem cellsKindT : Tryz.prog.cellsOf 34 = 1 := by kernel_rfl
theorem cellsPairsT : Tryz.prog.cellsOf 35 = 1 := by kernel_rfl
section
variable {H : Type} {enc : TypeId × Value → H} {W : World} {held : Bool}
theorem bulk_memT : ∀ (ds : List (DataW H)) (d : DataW H), d ∈ ds → Rows.uptoBulk d ≤ Rows.uptoBulkAll ds
  | [], _, h => by cases h
  | e :: ds, d, h => by
    rw [Rows.uptoBulkAll]
    rcases List.mem_cons.1 h with rfl | h
    · omega
    · have := bulk_memT ds d h; omega
theorem bulk_lenT : ∀ (ds : List (DataW H)), (∀ d ∈ ds, 1 ≤ Rows.uptoBulk d) → ds.length ≤ Rows.uptoBulkAll ds
  | [], _ => Nat.zero_le _
  | e :: ds, h => by
    have := bulk_lenT ds (fun d hd => h d (by simp [hd]))
    have h1 := h e (by simp)
    rw [Rows.uptoBulkAll, List.length_cons]
    omega
theorem pair_read {fuel : Nat} {cs : List Value} {d : DataW H} {q : List MemPlace}
    (h : DataW.trod enc Tryz.prog W 0 (fun _ => true) held fuel 40 cs = some (d, q)) : ∃ x y : ByteArray, cs = [.string x, .string y] ∧ x.size + y.size + 3 ≤ Rows.uptoBulk d := by
  obtain ⟨y0, y1, n, hx, hl, h0, h1⟩ := ChangeShapes.trod_struct2 Tryz.underlying40 h
  rw [cellsPairT] at hl
  simp only [cellsStrT] at h0 h1
  obtain ⟨z0, e0, rfl, _⟩ := DataW.trod_string Tryz.underlying9 h0
  obtain ⟨z1, e1, rfl, _⟩ := DataW.trod_string Tryz.underlying9 h1
  match cs, hl with
  | [v0, v1], _ =>
    simp at e0 e1
    have hd := congrArg Prod.fst hx
    simp only at hd
    subst e0 e1 hd
    refine ⟨z0, z1, rfl, ?_⟩
    simp only [Rows.uptoBulk, Rows.uptoBulkAll]
    have e1 : z0.data.toList.length = z0.size := rfl
    have e2 : z1.data.toList.length = z1.size := rfl
    omega
theorem pairs_read {fuel : Nat} {cs : List Value} {d : DataW H} {q : List MemPlace}
    (h : DataW.trod enc Tryz.prog W 0 (fun _ => true) held fuel 35 cs = some (d, q)) : ∃ (v : Value) (l : List (ByteArray × ByteArray)), cs = [v] ∧ PairsArg W v l ∧ l.length ≤ Rows.uptoBulk d ∧ ∀ x ∈ l, x.1.size ≤ Rows.uptoBulk d ∧ x.2.size ≤ Rows.uptoBulk d := by
  rcases Deep.open_slice Tryz.underlying35 h with ⟨h0, _⟩ | ⟨ad, len, cap, m, n, D, Pl, hcs, hb, hl, hm, hmm, hx, hall⟩
  · exact ⟨_, [], h0, ⟨none, 0, rfl, fun h => absurd rfl h⟩, Nat.zero_le _, fun x hx => by cases hx⟩
  · have hd : d = .slice ((List.range len).map D) ((List.range (m - len)).map fun j => D (len + j)) := congrArg Prod.fst hx
    have hlm : len ≤ m := by rw [hmm]; simp; omega
    have each : ∀ i, i < len → ∃ y : ByteArray × ByteArray, W.cell? (ad.add (i * 2)) = some (.string y.1) ∧ W.cell? (ad.add (i * 2 + 1)) = some (.string y.2) ∧ y.1.size + y.2.size + 3 ≤ Rows.uptoBulk (D i) := by
      intro i hi
      obtain ⟨cs', h1, h2⟩ := hall i (by omega)
      rw [cellsPairT] at h1
      obtain ⟨x, y, rfl, hsz⟩ := pair_read h2
      obtain ⟨_, _, hcell⟩ := World.cells?_some h1
      have e0 := hcell 0 (by omega)
      have e1 := hcell 1 (by omega)
      rw [Deep.add_add] at e0 e1
      exact ⟨(x, y), by simpa using e0, by simpa using e1, hsz⟩
    haveI : Inhabited (ByteArray × ByteArray) := ⟨(⟨#[]⟩, ⟨#[]⟩)⟩
    obtain ⟨f, hf⟩ := Deep.choose_lt each
    have hall1 : ∀ d' ∈ (List.range len).map D, 1 ≤ Rows.uptoBulk d' := fun d' hd' => by
      obtain ⟨i, hi, rfl⟩ := List.mem_map.1 hd'
      have := (hf i (List.mem_range.1 hi)).2.2
      omega
    have hbl := bulk_lenT _ hall1
    rw [List.length_map, List.length_range] at hbl
    have hdb : Rows.uptoBulkAll ((List.range len).map D) + 1 ≤ Rows.uptoBulk d := by rw [hd, Rows.uptoBulk]; omega
    refine ⟨_, (List.range len).map f, hcs, ⟨some ad, cap, by simp, fun hne => ?_⟩, by rw [List.length_map, List.length_range]; omega, fun x hx => ?_⟩
    · have hlen : 0 < len := by
        cases len with
        | zero => exact absurd rfl hne
        | succ n => omega
      obtain ⟨b, o, sp⟩ := ad
      have hsp : sp = none := by
        have := (hf 0 hlen).1
        simpa [Addr.add] using World.cell?_spot this
      subst hsp
      refine ⟨b, o, rfl, fun i x hx => ?_⟩
      rw [List.getElem?_map] at hx
      obtain ⟨j, hj, rfl⟩ := Option.map_eq_some_iff.1 hx
      obtain ⟨h1, h2⟩ := List.getElem?_eq_some_iff.1 hj
      simp at h1 h2
      subst h2
      obtain ⟨c0, c1, _⟩ := hf i h1
      rw [Addr.add_mid] at c0 c1
      exact ⟨c0, by rw [Nat.add_assoc]; exact c1⟩
    · obtain ⟨i, hi, rfl⟩ := List.mem_map.1 hx
      have h1 := (hf i (List.mem_range.1 hi)).2.2
      have h2 := bulk_memT _ (D i) (List.mem_map.2 ⟨i, hi, rfl⟩)
      omega
theorem trod_struct4T {P : Program} {w : World} {base : Nat} {spare : Nat → Bool} {t : TypeId} {f0 f1 f2 f3 : Field} {fuel : Nat} {cs : List Value} {x : DataW H × List MemPlace} (ht : P.underlying t = some (.struct #[f0, f1, f2, f3])) (h : DataW.trod enc P w base spare held fuel t cs = some x) :
    ∃ y0 y1 y2 y3 n, x.1 = .agg [y0.1, y1.1, y2.1, y3.1] ∧ cs.length = P.cellsOf t ∧ DataW.trod enc P w base spare held n f0.type ((cs.drop f0.offset).take (P.cellsOf f0.type)) = some y0 ∧
      DataW.trod enc P w base spare held n f1.type ((cs.drop f1.offset).take (P.cellsOf f1.type)) = some y1 ∧ DataW.trod enc P w base spare held n f2.type ((cs.drop f2.offset).take (P.cellsOf f2.type)) = some y2 ∧ DataW.trod enc P w base spare held n f3.type ((cs.drop f3.offset).take (P.cellsOf f3.type)) = some y3 := by
  obtain ⟨xs, n, _, hx, hl, hlen, hf⟩ := DataW.trod_struct ht h
  match xs, hlen with
  | [y0, y1, y2, y3], _ => exact ⟨y0, y1, y2, y3, n, by rw [hx]; rfl, hl, by simpa using hf 0 f0 rfl, by simpa using hf 1 f1 rfl, by simpa using hf 2 f2 rfl, by simpa using hf 3 f3 rfl⟩
/-- A token's parts are not greater than what it holds. -/
structure Fits (t : BTok) (m : Nat) : Prop where
  l : t.attrs.length ≤ m
  a : ∀ x ∈ t.attrs, x.1.size ≤ m ∧ x.2.size ≤ m
  n : t.name.size ≤ m
  x : t.text.size ≤ m
theorem Fits.up {t : BTok} {n m : Nat} (h : Fits t n) (hm : n ≤ m) : Fits t m := ⟨Nat.le_trans h.l hm, fun x hx => ⟨Nat.le_trans (h.a x hx).1 hm, Nat.le_trans (h.a x hx).2 hm⟩, Nat.le_trans h.n hm, Nat.le_trans h.x hm⟩
theorem tok_read {fuel : Nat} {cs : List Value} {d : DataW H} {q : List MemPlace}
    (h : DataW.trod enc Tryz.prog W 0 (fun _ => true) held fuel 37 cs = some (d, q)) : ∃ (t : BTok) (v : Value), cs = [.int .i64 t.kind, .string t.name, v, .string t.text] ∧ PairsArg W v t.attrs ∧ Fits t (Rows.uptoBulk d) ∧ 1 ≤ Rows.uptoBulk d := by
  obtain ⟨y0, y1, y2, y3, n, hx, hl, h0, h1, h2, h3⟩ := trod_struct4T Tryz.underlying37 h
  rw [cellsTokT] at hl
  simp only [cellsKindT, cellsStrT, cellsPairsT] at h0 h1 h2 h3
  obtain ⟨d2, q2⟩ := y2
  obtain ⟨z0, e0, rfl, _⟩ := DataW.trod_int Tryz.underlying34 h0
  obtain ⟨z1, e1, rfl, _⟩ := DataW.trod_string Tryz.underlying9 h1
  obtain ⟨v, l, e2, hp, b1, b2⟩ := pairs_read h2
  obtain ⟨z3, e3, rfl, _⟩ := DataW.trod_string Tryz.underlying9 h3
  match cs, hl with
  | [v0, v1, v2, v3], _ =>
    simp at e0 e1 e2 e3
    simp only at hx
    subst e0 e1 e2 e3 hx
    have k1 : z1.data.toList.length = z1.size := rfl
    have k3 : z3.data.toList.length = z3.size := rfl
    have kb : Rows.uptoBulk (DataW.agg [.lit (.int .i64 z0), .lit (.string z1.data.toList), d2, .lit (.string z3.data.toList)] : DataW H) = z1.size + z3.size + Rows.uptoBulk d2 + 4 := by
      simp only [Rows.uptoBulk, Rows.uptoBulkAll]
      omega
    refine ⟨⟨z0, z1, l, z3⟩, v2, rfl, hp, ?_, ?_⟩
    · rw [kb]
      refine ⟨?_, fun x hx => ?_, ?_, ?_⟩
      · show l.length ≤ _
        omega
      · have := b2 x hx
        exact ⟨by omega, by omega⟩
      · show z1.size ≤ _
        omega
      · show z3.size ≤ _
        omega
    · rw [kb]
      omega
theorem open_toks {fuel : Nat} {a : Option Addr} {len cap : Nat} {d : DataW H} {q : List MemPlace}
    (h : DataW.trod enc Tryz.prog W 0 (fun _ => true) held fuel 24 [.slice a len cap] = some (d, q)) :
    ∃ ts : List BTok, ts.length = len ∧ ToksArg W a ts ∧ (∀ t ∈ ts, Fits t (Rows.uptoBulk d)) ∧ len ≤ Rows.uptoBulk d := by
  rcases Deep.open_slice Tryz.underlying24 h with ⟨h0, _⟩ | ⟨ad, len', cap', m, n, D, Pl, hcs, hb, hl, hm, hmm, hx, hall⟩
  · cases h0
    exact ⟨[], rfl, (fun h => absurd rfl h), (fun x hx => by cases hx), Nat.zero_le _⟩
  · cases hcs
    have hd : d = .slice ((List.range len).map D) ((List.range (m - len)).map fun j => D (len + j)) := congrArg Prod.fst hx
    have hlm : len ≤ m := by rw [hmm]; simp; omega
    have each : ∀ i, i < len → ∃ y : BTok × Value, W.cell? (ad.add (i * 4)) = some (.int .i64 y.1.kind) ∧ W.cell? (ad.add (i * 4 + 1)) = some (.string y.1.name) ∧ W.cell? (ad.add (i * 4 + 2)) = some y.2 ∧ W.cell? (ad.add (i * 4 + 3)) = some (.string y.1.text) ∧ PairsArg W y.2 y.1.attrs ∧ Fits y.1 (Rows.uptoBulk (D i)) ∧ 1 ≤ Rows.uptoBulk (D i) := by
      intro i hi
      obtain ⟨cs', h1, h2⟩ := hall i (by omega)
      rw [cellsTokT] at h1
      obtain ⟨t, v, rfl, hp, hft, h1b⟩ := tok_read h2
      obtain ⟨_, _, hcell⟩ := World.cells?_some h1
      have e0 := hcell 0 (by omega)
      have e1 := hcell 1 (by omega)
      have e2 := hcell 2 (by omega)
      have e3 := hcell 3 (by omega)
      rw [Deep.add_add] at e0 e1 e2 e3
      exact ⟨(t, v), by simpa using e0, by simpa using e1, by simpa using e2, by simpa using e3, hp, hft, h1b⟩
    haveI : Inhabited (BTok × Value) := ⟨(⟨0, ⟨#[]⟩, [], ⟨#[]⟩⟩, .bool false)⟩
    obtain ⟨f, hf⟩ := Deep.choose_lt each
    have hall1 : ∀ d' ∈ (List.range len).map D, 1 ≤ Rows.uptoBulk d' := fun d' hd' => by
      obtain ⟨i, hi, rfl⟩ := List.mem_map.1 hd'
      exact (hf i (List.mem_range.1 hi)).2.2.2.2.2.2
    have hbl := bulk_lenT _ hall1
    rw [List.length_map, List.length_range] at hbl
    have hdb : Rows.uptoBulkAll ((List.range len).map D) + 1 ≤ Rows.uptoBulk d := by rw [hd, Rows.uptoBulk]; omega
    refine ⟨(List.range len).map fun i => (f i).1, by simp, fun hne => ?_, fun x hx => ?_, by omega⟩
    · have hlen : 0 < len := by
        cases len with
        | zero => exact absurd rfl hne
        | succ n => omega
      obtain ⟨b, o, sp⟩ := ad
      have hsp : sp = none := by
        have := (hf 0 hlen).1
        simpa [Addr.add] using World.cell?_spot this
      subst hsp
      refine ⟨b, o, rfl, fun i x hx => ?_⟩
      rw [List.getElem?_map] at hx
      obtain ⟨j, hj, rfl⟩ := Option.map_eq_some_iff.1 hx
      obtain ⟨h1, h2⟩ := List.getElem?_eq_some_iff.1 hj
      simp at h1 h2
      subst h2
      obtain ⟨c0, c1, c2, c3, hp, _, _⟩ := hf i h1
      rw [Addr.add_mid] at c0 c1 c2 c3
      exact ⟨c0, by rw [Nat.add_assoc]; exact c1, ⟨_, by rw [Nat.add_assoc]; exact c2, hp⟩, by rw [Nat.add_assoc]; exact c3⟩
    · obtain ⟨i, hi, rfl⟩ := List.mem_map.1 hx
      have h2 := bulk_memT _ (D i) (List.mem_map.2 ⟨i, hi, rfl⟩)
      exact (hf i (List.mem_range.1 hi)).2.2.2.2.2.1.up (by omega)
theorem Fits.small {t : BTok} {n : Nat} (h : Fits t n) (hn : n ≤ 1048576) : Small t := ⟨Nat.le_trans h.l hn, fun x hx => ⟨Nat.le_trans (h.a x hx).1 hn, Nat.le_trans (h.a x hx).2 hn⟩, Nat.le_trans h.n hn, Nat.le_trans h.x hn⟩
end
end Go.Proofs.YtefjfjieoiegnaaGreatDoor
/- From what a row lists of the library's tables, and from the world's shape, to what the walks of layer 3 ask. -/
namespace Go.Proofs.YtefjfjieoiegnaaGreatDoor
open Go.ChangeShapes Go.WideShapes Go.ChangeAt Go.RowKit
theorem u8extra : U8Extra Tryz.prog Tryz.lays260_ren where
  n3 := by kernel_rfl
  n4 := by kernel_rfl
  y3 := by kernel_rfl
  y4 := by kernel_rfl
  c5 := by kernel_rfl
  c119 := by kernel_rfl
  c138 := by kernel_rfl
theorem first_data : Rows.laid_unicode_utf8_first = Lib.firstData := by kernel_rfl
theorem accept_data : Rows.laid_unicode_utf8_acceptRanges = Lib.acceptData := by kernel_rfl
def foldTab : List Int := [0, 1, 2, 3, 4, 5, 6, 7, 8, 9, 10, 11, 12, 13, 14, 15, 16, 17, 18, 19, 20, 21, 22, 23, 24, 25, 26, 27, 28, 29, 30, 31, 32, 33, 34, 35, 36, 37, 38, 39, 40, 41, 42, 43, 44, 45, 46, 47, 48, 49, 50, 51, 52, 53, 54, 55, 56, 57, 58, 59, 60, 61, 62, 63, 64, 97, 98, 99, 100, 101, 102, 103, 104, 105, 106, 107, 108, 109, 110, 111, 112, 113, 114, 115, 116, 117, 118, 119, 120, 121, 122, 91, 92, 93, 94, 95, 96, 65, 66, 67, 68, 69, 70, 71, 72, 73, 74, 8490, 76, 77, 78, 79, 80, 81, 82, 383, 84, 85, 86, 87, 88, 89, 90, 123, 124, 125, 126, 127]
theorem fold_data : (Rows.laid_unicode_asciiFold : DataW Unit) = Lib.tabData .u16 foldTab := by kernel_rfl
theorem xTab_of {P : Program} {W : World} {name : String} {k : IntKind} {zs : List Int} {g : Nat} {t e : TypeId} {n : Nat} (hg : P.globalNamed name = some g) (hty : (P.globals[g]?).map (·.type) = some t) (ht : P.underlying t = some (.array n e)) (he : P.underlying e = some (.int k)) (hce : P.cellsOf e = 1) (hct : P.cellsOf t = n) (h : Lib.VarReads P W name (Lib.tabData k zs)) (j : Nat) : W.cell? ⟨g, j, none⟩ = (zs.map fun z => Value.int k z)[j]? := by
  obtain ⟨g', t', cs, fuel, p, hg', ht', hvar, hd⟩ := h
  obtain rfl := Option.some.inj (hg.symm.trans hg')
  obtain rfl := Option.some.inj (hty.symm.trans ht')
  rw [World.var?_cell hg hvar j, ← Lib.cells_of_tab ht he hce hct hd]
  simp
theorem env_of {W : World} (hM : laidMet Tryz.prog [("unicode/utf8.acceptRanges", Rows.laid_unicode_utf8_acceptRanges), ("unicode.asciiFold", Rows.laid_unicode_asciiFold), ("unicode.caseOrbit", Rows.laid_unicode_caseOrbit), ("unicode.CaseRanges", Rows.laid_unicode_CaseRanges), ("unicode/utf8.first", Rows.laid_unicode_utf8_first)] W) (hs : W.ShapedOpen Tryz.prog) : XEnv W.heap.size W := by
  have h3 := Lib.laidMet.reads hM (n := "unicode/utf8.first") (d := Rows.laid_unicode_utf8_first) (by simp)
  have h4 := Lib.laidMet.reads hM (n := "unicode/utf8.acceptRanges") (d := Rows.laid_unicode_utf8_acceptRanges) (by simp)
  have h5 := Lib.laidMet.reads hM (n := "unicode.asciiFold") (d := Rows.laid_unicode_asciiFold) (by simp)
  rw [first_data] at h3
  rw [accept_data] at h4
  rw [fold_data] at h5
  have ht := utf8Tabs_of_reads Tryz.lays260 u8extra h3 h4
  have hf := xTab_of (g := 3) (t := 182) (e := 181) (n := 128) (by kernel_rfl) (by kernel_rfl) (by kernel_rfl) Tryz.underlying181 (by kernel_rfl) (by kernel_rfl) h5
  obtain ⟨m, hm⟩ : ∃ m, W.cell? ⟨2, 0, none⟩ = some (.int .i64 m) := cell_of_shapedOpen_int (zero := #[.int .i64 0]) (t := 3) hs (of_decide_eq_true (by kernel_rfl)) (by kernel_rfl) rfl (by kernel_rfl) (by kernel_rfl) Tryz.underlying3
  have fx : W.cell? ⟨3, 120, none⟩ = some (.int .u16 88) := (hf 120).trans rfl
  refine ⟨⟨⟨m, hm⟩, ht⟩, fx, (hf 109).trans rfl, (hf 108).trans rfl, (hf 88).trans rfl, (hf 77).trans rfl, (hf 76).trans rfl, block_lt_of_cell hm, ?_, ?_, block_lt_of_cell fx⟩
  · exact block_lt_of_cell (ht.1 0 (by decide))
  · exact block_lt_of_cell (ht.2 0 (by decide)).1
theorem own : ownKnob Tryz.prog.godebug = none := by kernel_rfl
end Go.Proofs.YtefjfjieoiegnaaGreatDoor
