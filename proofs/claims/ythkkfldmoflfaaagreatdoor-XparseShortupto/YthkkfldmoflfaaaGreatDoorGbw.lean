/- Several texts, laid as one. -/
import Derived.Test.YthkkfldmoflfaaaGreatDoorParSh2
import Derived.Test.YthkkfldmoflfaaaGreatDoorGao
import Derived.Test.YthkkfldmoflfaaaGreatDoorGbu
import Derived.Deep.Strs
import Derived.Lib.LaidU8
import Derived.HandedShaped
import Derived.WalkKit
import Derived.ProofKit
import Derived.OpenShut
import Derived.ShutString
import Derived.Deep.DeepHandedRow
import Derived.Lib.LaidTab
/- XparseShort: the short forms say what the long ones say. -/
namespace Go.Proofs.YthkkfldmoflfaaaGreatDoor
open Go.RowKit Go.Maps
theorem jp_leaf (n d c : Nat) (x : Ex) (hf : flX x = true) (hk : x.kids = []) (ho : x.op = 23 ∨ x.op = 0 ∨ x.op = 22) (hd : d ≤ 32) (hc : c + 1 ≤ 512) : jPart flX (n + 3) d c x = some (true, c + 1) := by
  have hkn : kidsN x = true := by
    unfold kidsN
    rcases ho with h | h | h
    · rw [if_neg (by omega), if_pos (by omega)]
    · rw [if_pos (by omega), hk]; rfl
    · rw [if_pos (by omega), hk]; rfl
  rw [jPart, if_pos ⟨hd, hc, hf⟩, jKids, if_neg (by omega), if_pos hkn, hk, jAll]
theorem js_step (n d c : Nat) (k : Ex) (ks : List Ex) (hf : flX k = true) (hk : k.kids = []) (ho : k.op = 23) (hd : d ≤ 32) (hc : c + 1 ≤ 512) : jSteps flX (n + 4) d c (k :: ks) = jSteps flX (n + 3) d (c + 1) ks := by
  rw [jSteps, if_pos ho, jp_leaf n d c k hf hk (.inl ho) hd hc, JR.then_true]
theorem js_end (n d c : Nat) : jSteps flX (n + 1) d c [] = some (true, c) := by rw [jSteps]
theorem fl_name {a : List Nat} (k : Nat) (hk : k < 12) (ha : isNm a = true) : flX (.mk 23 a 0 k 2 []) = true := by
  show ((decide (k < 12) && testX 2 a) && restX [] 0 0 0) = true
  rw [decide_eq_true hk, show testX 2 a = isQ a from rfl, nm_q ha]
  rfl
theorem short_ok {a b : List Nat} (ha : isNm a = true) (hb : isNm b = true) (za : a.length ≤ 1000) (zb : b.length ≤ 1000) : smallX (shX a b) = true ∧ jRight flX 20 0 0 (shX a b) = some (true, 7) ∧ okX (shX a b) := by
  have h1 : smallX (shX a b) = true := by
    show (_ && smallKs _) = true
    simp [smallX, smallKs, za, zb]
  have s1 : jSteps flX 16 1 2 [belowX, .mk 23 a 0 0 2 [], .mk 23 b 0 8 2 [], .mk 23 [] 0 2 3 [], .mk 23 [] 0 9 3 []] = some (true, 7) :=
    (js_step 12 1 2 _ _ rfl rfl rfl (by decide) (by decide)).trans ((js_step 11 1 3 _ _ (fl_name 0 (by decide) ha) rfl rfl (by decide) (by decide)).trans ((js_step 10 1 4 _ _ (fl_name 8 (by decide) hb) rfl rfl (by decide) (by decide)).trans ((js_step 9 1 5 _ _ rfl rfl rfl (by decide) (by decide)).trans ((js_step 8 1 6 _ _ rfl rfl rfl (by decide) (by decide)).trans (js_end 10 1 7)))))
  have s2 : jPath flX 17 1 1 [topX, belowX, .mk 23 a 0 0 2 [], .mk 23 b 0 8 2 [], .mk 23 [] 0 2 3 [], .mk 23 [] 0 9 3 []] = some (true, 7) := by
    rw [jPath, if_neg (by simp), if_pos (.inr rfl), jp_leaf 13 1 1 topX rfl rfl (.inr (.inr rfl)) (by decide) (by decide), JR.then_true]
    exact s1
  have h2 : jRight flX 20 0 0 (shX a b) = some (true, 7) := by
    rw [jRight, if_pos (by rfl), jPart, if_pos ⟨by decide, by decide, rfl⟩, jKids, if_pos (show (shX a b).op = 21 from rfl)]
    exact s2
  exact ⟨h1, h2, h1, Nat.le_of_ble_eq_true rfl, Nat.le_of_ble_eq_true rfl, 20, 7, h2⟩
mutual
theorem sameX_refl : ∀ x : Ex, sameX x x = true
  | .mk o t m a k ks => by
    rw [sameX]
    show ((o == o && (t == t && (m == m && (a == a && (k == k && ks.length == ks.length))))) && sameKs ks ks) = true
    rw [sameKs_refl ks]
    simp
theorem sameKs_refl : ∀ ks : List Ex, sameKs ks ks = true
  | [] => by rw [sameKs]
  | x :: xs => by rw [sameKs_cons, sameX_refl x, sameKs_refl xs]; rfl
end
theorem ps0_of {qs : List (Tok × Nat)} {ts : List Tok} (h : qs.map (·.1) = ts) : ps0 qs = ⟨ts.map (fun t => (t.kind, t.text)), 0, 0⟩ := by
  unfold ps0
  rw [← h, List.map_map]
  rfl
/-- Parse of either form. -/
theorem form_parse {cs : List Nat} {ts : List Tok} {x : Ex} {c' m : Nat} (ht : Toks false cs ts) (hl : okL cs) (hz : (T cs).size ≤ 512) (hne : ts ≠ []) (hlen : ts.length ≤ 512) (hp : pathP numP 20 ⟨ts.map (fun t => (t.kind, t.text)), 0, 0⟩ = .ok x ⟨[], 0, 0⟩) (hs : headIs 8 [45] ⟨ts.map (fun t => (t.kind, t.text)), 0, 0⟩ = false) (hx : smallX x = true) (hr : jRight flX m 0 0 x = some (true, c')) (w : World) (hG : EnvG w) :
    Calls Tryz.prog 6 #[.string (T cs)] w (outP6 w x) := by
  obtain ⟨qs, h1, h2⟩ := toks_of ht
  have hlq : qs.length = ts.length := by rw [← h2, List.length_map]
  refine parse_ok6 cs qs 30 m c' x ⟨[], 0, 0⟩ w hG hl hz h1 (fun e => hne (by rw [← h2, e]; rfl)) (by omega) (by omega) ?_ rfl (by decide) hx hr
  rw [ps0_of h2]
  exact ex_path numP 19 0 0 hp hs
theorem T_cat6 (a b c d e : List Nat) : T a ++ T b ++ T c ++ T d ++ T e = T (a ++ b ++ c ++ d ++ e) := by rw [T_app, T_app, T_app, T_app]
theorem short_is (a b : List Nat) : shortC a b = [47, 47] ++ a ++ [47, 64] ++ b ++ [47, 46, 46, 47, 46] := by simp [shortC]
theorem long_is (a b : List Nat) : longC a b = [47, 100, 101, 115, 99, 101, 110, 100, 97, 110, 116, 45, 111, 114, 45, 115, 101, 108, 102, 58, 58, 110, 111, 100, 101, 40, 41, 47, 99, 104, 105, 108, 100, 58, 58] ++ a ++ [47, 97, 116, 116, 114, 105, 98, 117, 116, 101, 58, 58] ++ b ++ [47, 112, 97, 114, 101, 110, 116, 58, 58, 110, 111, 100, 101, 40, 41, 47, 115, 101, 108, 102, 58, 58, 110, 111, 100, 101, 40, 41] := by simp [longC]
theorem five_ok {p1 p2 p3 a b : List Nat} (h1 : okL p1) (h2 : okL p2) (h3 : okL p3) (ha : okL a) (hb : okL b) (hz : (T a).size + (T b).size ≤ 200) (hp : (T p1).size + (T p2).size + (T p3).size ≤ 300) : okL (p1 ++ a ++ p2 ++ b ++ p3) ∧ (T (p1 ++ a ++ p2 ++ b ++ p3)).size ≤ 512 := by
  refine ⟨okL_app (okL_app (okL_app (okL_app h1 ha) h2) hb) h3, ?_⟩
  rw [T_size] at hz hp ⊢
  rw [T_size] at hz hp
  rw [T_size] at hp
  rw [tx_len_app, tx_len_app, tx_len_app, tx_len_app]
  omega
set_option maxRecDepth 100000 in
set_option maxHeartbeats 2000000 in
theorem short_walk6 (a b : ByteArray) (za : a.size ≤ 4294967280) (zb : b.size ≤ 4294967280) (w : World) (hE : Env6 w) :
    Calls Tryz.prog 4 #[.string a, .string b] w fun e w' => e = .returned (.bool true) ∧ Below w.heap.size w w' := by
  have HL := hide (fun w hE => live6_any w hE)
  have HA := hide (fun (w : World) (hE : Env6 w) => refIsName_any a w za hE.env.lex.env)
  have HB := hide (fun (w : World) (hE : Env6 w) => refIsName_any b w zb hE.env.lex.env)
  have HE := hide hE
  cases ha : nameB a with
  | false =>
    rw [ha] at HA
    have HA1 := hide ((unhide HA) w hE)
    clear hE ha HA HB
    go_enter Tryz.func4, Tryz.ntmps4
    go_wp2_with fail
    refine (unhide HA1).mono ?_
    rintro e w1 ⟨rfl, hb1⟩
    have HB1 := hide hb1
    have HL1 := hide ((unhide HL) w1 ((unhide HE).below hb1))
    clear hb1 HA1
    go_wp2_with fail
    refine (unhide HL1).mono ?_
    rintro e w2 ⟨rfl, hb2⟩
    have HB2 := hide (Below.then (unhide HB1) hb2)
    clear hb2 HL1
    go_wp2_with fail
    go_returns
    exact ⟨rfl, unhide HB2⟩
  | true =>
    rw [ha] at HA
    have HA1 := hide ((unhide HA) w hE)
    have HAN := hide ha
    clear ha HA
    cases hb : nameB b with
    | false =>
      rw [hb] at HB
      clear hb hE
      go_enter Tryz.func4, Tryz.ntmps4
      go_wp2_with fail
      refine (unhide HA1).mono ?_
      rintro e w1 ⟨rfl, hb1⟩
      have HB1 := hide hb1
      have HC1 := hide ((unhide HB) w1 ((unhide HE).below hb1))
      clear hb1 HA1 HB
      go_wp2_with fail
      refine (unhide HC1).mono ?_
      rintro e w2 ⟨rfl, hb2⟩
      have HB2 := hide (Below.then (unhide HB1) hb2)
      have HL2 := hide ((unhide HL) w2 ((unhide HE).below (unhide HB2)))
      clear hb2 HC1
      go_wp2_with fail
      refine (unhide HL2).mono ?_
      rintro e w3 ⟨rfl, hb3⟩
      have HB3 := hide (Below.then (unhide HB2) hb3)
      clear hb3 HL2
      go_wp2_with fail
      go_returns
      exact ⟨rfl, unhide HB3⟩
    | true =>
      rw [hb] at HB
      have hws : IntKind.i64.wrap ((a.size : Int) + (b.size : Int)) = ((a.size + b.size : Nat) : Int) := by rw [wrap_small] <;> omega
      by_cases h200 : a.size + b.size ≤ 200
      · have n1 : decide ((200 : Int) < ((a.size + b.size : Nat) : Int)) = false := decide_eq_false (by omega)
        have n1' : decide (200 < a.size + b.size) = false := decide_eq_false (by omega)
        have n1'' : decide ((200 : Int) < (a.size : Int) + (b.size : Int)) = false := decide_eq_false (by omega)
        obtain ⟨la, oa, rfl, na⟩ := name_T (unhide HAN)
        obtain ⟨lb, ob, rfl, nb⟩ := name_T hb
        have sa := tx_len_ge oa
        have sb := tx_len_ge ob
        have ta : (T la).size = (tx la).length := T_size la
        have tb : (T lb).size = (tx lb).length := T_size lb
        obtain ⟨k1, k2, k3⟩ := short_ok na nb (by omega) (by omega)
        have h5 := five_ok (p1 := [47, 47]) (p2 := [47, 64]) (p3 := [47, 46, 46, 47, 46]) (okL_asc (by decide)) (okL_asc (by decide)) (okL_asc (by decide)) oa ob h200 (by decide)
        have h6 := five_ok (p1 := [47, 100, 101, 115, 99, 101, 110, 100, 97, 110, 116, 45, 111, 114, 45, 115, 101, 108, 102, 58, 58, 110, 111, 100, 101, 40, 41, 47, 99, 104, 105, 108, 100, 58, 58]) (p2 := [47, 97, 116, 116, 114, 105, 98, 117, 116, 101, 58, 58]) (p3 := [47, 112, 97, 114, 101, 110, 116, 58, 58, 110, 111, 100, 101, 40, 41, 47, 115, 101, 108, 102, 58, 58, 110, 111, 100, 101, 40, 41]) (okL_asc (by decide)) (okL_asc (by decide)) (okL_asc (by decide)) oa ob h200 (by decide)
        rw [← short_is] at h5
        rw [← long_is] at h6
        have hP1 := fun w hG => form_parse (short_toks na nb) h5.1 h5.2 (by simp) (by simp) (short_path na nb) rfl k1 k2 w hG
        have hP2 := fun w hG => form_parse (long_toks na nb) h6.1 h6.2 (by simp) (by simp) (long_path na nb) rfl k1 k2 w hG
        rw [show T (shortC la lb) = (⟨#[47, 47]⟩ : ByteArray) ++ T la ++ ⟨#[47, 64]⟩ ++ T lb ++ ⟨#[47, 46, 46, 47, 46]⟩ from by rw [short_is, ← T_cat6]; rfl] at hP1
        rw [show T (longC la lb) = (⟨#[47, 100, 101, 115, 99, 101, 110, 100, 97, 110, 116, 45, 111, 114, 45, 115, 101, 108, 102, 58, 58, 110, 111, 100, 101, 40, 41, 47, 99, 104, 105, 108, 100, 58, 58]⟩ : ByteArray) ++ T la ++ (⟨#[47, 97, 116, 116, 114, 105, 98, 117, 116, 101, 58, 58]⟩ : ByteArray) ++ T lb ++ (⟨#[47, 112, 97, 114, 101, 110, 116, 58, 58, 110, 111, 100, 101, 40, 41, 47, 115, 101, 108, 102, 58, 58, 110, 111, 100, 101, 40, 41]⟩ : ByteArray) from by rw [long_is, ← T_cat6]; rfl] at hP2
        have HP1 := hide hP1
        have HP2 := hide hP2
        have HOK := hide k3
        generalize shX la lb = x at *
        have hsz := h200
        generalize T la = a at *
        generalize T lb = b at *
        clear hP1 hP2 h5 h6 k1 k2 k3 oa ob na nb sa sb ta tb hb hE HAN h200
        have z1 : (⟨#[47, 47]⟩ : ByteArray).size = 2 := rfl
        have z2 : (⟨#[47, 64]⟩ : ByteArray).size = 2 := rfl
        have z3 : (⟨#[47, 46, 46, 47, 46]⟩ : ByteArray).size = 5 := rfl
        have y1 : (⟨#[47, 100, 101, 115, 99, 101, 110, 100, 97, 110, 116, 45, 111, 114, 45, 115, 101, 108, 102, 58, 58, 110, 111, 100, 101, 40, 41, 47, 99, 104, 105, 108, 100, 58, 58]⟩ : ByteArray).size = 35 := rfl
        have y2 : (⟨#[47, 97, 116, 116, 114, 105, 98, 117, 116, 101, 58, 58]⟩ : ByteArray).size = 12 := rfl
        have y3 : (⟨#[47, 112, 97, 114, 101, 110, 116, 58, 58, 110, 111, 100, 101, 40, 41, 47, 115, 101, 108, 102, 58, 58, 110, 111, 100, 101, 40, 41]⟩ : ByteArray).size = 28 := rfl
        have f1 : (9223372036854775807 < 2 + a.size) = False := by simp only [eq_iff_iff, iff_false]; omega
        have f2 : (9223372036854775807 < 2 + a.size + 2) = False := by simp only [eq_iff_iff, iff_false]; omega
        have f3 : (9223372036854775807 < 2 + a.size + 2 + b.size) = False := by simp only [eq_iff_iff, iff_false]; omega
        have f4 : (9223372036854775807 < 2 + a.size + 2 + b.size + 5) = False := by simp only [eq_iff_iff, iff_false]; omega
        have g1 : (9223372036854775807 < 35 + a.size) = False := by simp only [eq_iff_iff, iff_false]; omega
        have g2 : (9223372036854775807 < 35 + a.size + 12) = False := by simp only [eq_iff_iff, iff_false]; omega
        have g3 : (9223372036854775807 < 35 + a.size + 12 + b.size) = False := by simp only [eq_iff_iff, iff_false]; omega
        have g4 : (9223372036854775807 < 35 + a.size + 12 + b.size + 28) = False := by simp only [eq_iff_iff, iff_false]; omega
        go_enter Tryz.func4, Tryz.ntmps4
        go_wp2_with fail
        refine (unhide HA1).mono ?_
        rintro e w1 ⟨rfl, hb1⟩
        have HB1 := hide hb1
        have HE1 := hide ((unhide HE).below hb1)
        have HC1 := hide ((unhide HB) w1 (unhide HE1))
        clear hb1 HA1 HB
        go_wp2_with fail
        refine (unhide HC1).mono ?_
        rintro e w2 ⟨rfl, hb2⟩
        have HB2 := hide (Below.then (unhide HB1) hb2)
        have HE2 := hide ((unhide HE1).below hb2)
        have HC2 := hide ((unhide HP1) w2 (unhide HE2).env)
        clear hb2 HC1 HP1
        go_wp2_with fail
        refine (unhide HC2).mono ?_
        rintro e w3 ⟨xa, xc, rfl, hx, hb3⟩
        obtain ⟨W4, e4⟩ : ∃ W4, w3.alloc (oneB x (.slice xa x.kids.length xc)) = W4 := ⟨_, rfl⟩
        have hb4 : Below w3.heap.size w3 W4 := by rw [← e4]; exact (Below.refl _ _).alloc (Nat.le_refl _) _
        have hq4 : W4.heap[w3.heap.size]? = some (oneB x (.slice xa x.kids.length xc)) := by rw [← e4]; exact palloc_new _ _
        have HX4 := hide (hx.below hb4)
        have HQ4 := hide hq4
        have HB4 := hide (Below.then (unhide HB2) (Below.then hb3 hb4))
        have HE4 := hide (((unhide HE2).below hb3).below hb4)
        have HC3 := hide ((unhide HP2) W4 (unhide HE4).env)
        generalize hq : w3.heap.size = q at HQ4
        clear hb3 hb4 hq4 hx HC2 HP2
        go_wp2_with fail
        refine (unhide HC3).mono ?_
        rintro e w5 ⟨ya, yc, rfl, hy, hb5⟩
        obtain ⟨W6, e6⟩ : ∃ W6, w5.alloc (oneB x (.slice ya x.kids.length yc)) = W6 := ⟨_, rfl⟩
        have hb6 : Below w5.heap.size w5 W6 := by rw [← e6]; exact (Below.refl _ _).alloc (Nat.le_refl _) _
        have hq6 : W6.heap[w5.heap.size]? = some (oneB x (.slice ya x.kids.length yc)) := by rw [← e6]; exact palloc_new _ _
        have HY6 := hide (hy.below hb6)
        have HP6 := hide hq6
        have HX6 := hide (((unhide HX4).below hb5).below hb6)
        have HQ6 := hide (blockB (blockB (unhide HQ4) hb5) hb6)
        have HB6 := hide (Below.then (unhide HB4) (Below.then hb5 hb6))
        have HE6 := hide (((unhide HE4).below hb5).below hb6)
        have HC4 := hide ((unhide HL) W6 (unhide HE6))
        generalize hp : w5.heap.size = p at HP6
        clear hb5 hb6 hq6 hy HC3 HX4 HQ4 HL
        go_wp2_with fail
        refine (unhide HC4).mono ?_
        rintro e w7 ⟨rfl, hb7⟩
        have HC5 := hide (refSameAll_ok x x xa ya xc yc w7 _ _ ((unhide HE6).below hb7).env ((unhide HX6).below hb7) ((unhide HY6).below hb7) (unhide HOK) (unhide HOK))
        rw [sameX_refl] at HC5
        have hq7 := blockB (unhide HQ6) hb7
        have hp7 := blockB (unhide HP6) hb7
        have HB7 := hide (Below.then (unhide HB6) hb7)
        obtain ⟨a0, a1, a2, a3, a4, a5, a6⟩ := var_cells hq7
        obtain ⟨d0, d1, d2, d3, d4, d5, d6⟩ := var_cells hp7
        clear hb7 hq7 hp7 HC4
        go_wp2_with fail
        refine (unhide HC5).mono ?_
        rintro e w8 ⟨rfl, hb8⟩
        have HB8 := hide (Below.then (unhide HB7) hb8)
        clear hb8 HC5 a0 a1 a2 a3 a4 a5 a6 d0 d1 d2 d3 d4 d5 d6
        go_wp2_with fail
        go_returns
        exact ⟨rfl, unhide HB8⟩
      · have n1 : decide ((200 : Int) < ((a.size + b.size : Nat) : Int)) = true := decide_eq_true (by omega)
        have n1' : decide (200 < a.size + b.size) = true := decide_eq_true (by omega)
        have n1'' : decide ((200 : Int) < (a.size : Int) + (b.size : Int)) = true := decide_eq_true (by omega)
        clear h200 hb hE HAN
        go_enter Tryz.func4, Tryz.ntmps4
        go_wp2_with fail
        refine (unhide HA1).mono ?_
        rintro e w1 ⟨rfl, hb1⟩
        have HB1 := hide hb1
        have HE1 := hide ((unhide HE).below hb1)
        have HC1 := hide ((unhide HB) w1 (unhide HE1))
        clear hb1 HA1 HB
        go_wp2_with fail
        refine (unhide HC1).mono ?_
        rintro e w2 ⟨rfl, hb2⟩
        have HB2 := hide (Below.then (unhide HB1) hb2)
        have HL2 := hide ((unhide HL) w2 ((unhide HE1).below hb2))
        clear hb2 HC1
        go_wp2_with fail
        refine (unhide HL2).mono ?_
        rintro e w3 ⟨rfl, hb3⟩
        have HB3 := hide (Below.then (unhide HB2) hb3)
        clear hb3 HL2
        go_wp2_with fail
        go_returns
        exact ⟨rfl, unhide HB3⟩
end Go.Proofs.YthkkfldmoflfaaaGreatDoor
/- From what a row of layer 6 lists of the library's, xplex's and xparse's tables, and from the world's shape, to what the walks ask. -/
namespace Go.Proofs.YthkkfldmoflfaaaGreatDoor
open Go.ChangeShapes Go.WideShapes Go.ChangeAt Go.RowKit
theorem u8extra : U8Extra Tryz.prog Tryz.lays260_ren where
  n3 := by kernel_rfl
  n4 := by kernel_rfl
  y3 := by kernel_rfl
  y4 := by kernel_rfl
  c5 := by kernel_rfl
  c119 := by kernel_rfl
  c138 := by kernel_rfl
theorem first_data : Rows.laid_unicode_utf8_first = Lib.firstData := by kernel_rfl
theorem accept_data : Rows.laid_unicode_utf8_acceptRanges = Lib.acceptData := by kernel_rfl
theorem signs_data : Rows.laid_stencil_xplex_signs = (.agg (signL.map fun x => .agg [.lit (.int .i64 (x.1 : Nat)), .lit (.string (tx x.2)), .lit (.int .i64 0)]) : DataW Unit) := by kernel_rfl
theorem cellsKind : Tryz.prog.cellsOf 60 = 1 := by kernel_rfl
theorem cellsString : Tryz.prog.cellsOf 9 = 1 := by kernel_rfl
theorem cellsInt : Tryz.prog.cellsOf 3 = 1 := by kernel_rfl
theorem cellsLex : Tryz.prog.cellsOf 62 = 3 := by kernel_rfl
theorem lex_trod {w : World} {fuel : Nat} {cs : List Value} {k a : Int} {s : List UInt8} {q : List MemPlace}
    (h : DataW.trod (fun _ => ()) Tryz.prog w 0 (fun _ => true) false fuel 62 cs = some (.agg [.lit (.int .i64 k), .lit (.string s), .lit (.int .i64 a)], q)) : cs = [.int .i64 k, .string ⟨s.toArray⟩, .int .i64 a] := by
  obtain ⟨y0, y1, y2, n, hx, hl, h0, h1, h2⟩ := Deep.trod_struct3 Tryz.underlying62 h
  rw [cellsLex] at hl
  simp only [cellsKind, cellsString, cellsInt] at h0 h1 h2
  obtain ⟨z0, e0, rfl, _⟩ := DataW.trod_int Tryz.underlying60 h0
  obtain ⟨z1, e1, rfl, _⟩ := DataW.trod_string Tryz.underlying9 h1
  obtain ⟨z2, e2, rfl, _⟩ := DataW.trod_int Tryz.underlying3 h2
  match cs, hl with
  | [v0, v1, v2], _ =>
    simp at e0 e1 e2
    simp at hx
    obtain ⟨⟨rfl, rfl, rfl⟩, _⟩ := hx
    subst e0 e1 e2
    rfl
theorem signs_of_reads {w : World} (h : Lib.VarReads Tryz.prog w "stencil/xplex.signs" (.agg (signL.map fun x => .agg [.lit (.int .i64 (x.1 : Nat)), .lit (.string (tx x.2)), .lit (.int .i64 0)]))) : w.rangeAt 0 0 signCells := by
  obtain ⟨g, t, cs, fuel, p, hg, hty, hvar, hd⟩ := h
  obtain rfl := Option.some.inj ((show Tryz.prog.globalNamed "stencil/xplex.signs" = some 0 by kernel_rfl).symm.trans hg)
  obtain rfl := Option.some.inj ((show (Tryz.prog.globals[0]?).map (·.type) = some 89 by kernel_rfl).symm.trans hty)
  have key : ∀ i, i < 20 → ((cs.toList.drop (i * 3)).take 3) = [.int .i64 ((signAt i).1 : Nat), .string (T (signAt i).2), .int .i64 0] := by
    intro i hi
    obtain ⟨fuel', d, q, hdi, he⟩ := Lib.array_elem Tryz.underlying89 hd i hi
    rw [cellsLex] at he
    rw [List.getElem?_map, List.getElem?_eq_getElem (by rw [sign_len]; exact hi), sign_get hi] at hdi
    simp only [Option.map_some, Option.some.injEq] at hdi
    subst hdi
    exact lex_trod he
  intro j v hv
  have hj : j < 60 := by
    have h60 : signCells.length = 60 := by decide +kernel
    have := (List.getElem?_eq_some_iff.1 hv).1
    omega
  rw [Nat.zero_add, World.var?_cell hg hvar j, ← Array.getElem?_toList]
  have hk := congrArg (·[j % 3]?) (key (j / 3) (by omega))
  simp only [List.getElem?_take, List.getElem?_drop] at hk
  rw [if_pos (by omega), show j / 3 * 3 + j % 3 = j by omega] at hk
  rw [hk]
  have hs : ∀ i, i < 20 → ∀ r, r < 3 → ([.int .i64 ((signAt i).1 : Nat), .string (T (signAt i).2), .int .i64 0] : List Value)[r]? = signCells[i * 3 + r]? := by
    intro i hi r hr
    rcases (show i = 0 ∨ i = 1 ∨ i = 2 ∨ i = 3 ∨ i = 4 ∨ i = 5 ∨ i = 6 ∨ i = 7 ∨ i = 8 ∨ i = 9 ∨ i = 10 ∨ i = 11 ∨ i = 12 ∨ i = 13 ∨ i = 14 ∨ i = 15 ∨ i = 16 ∨ i = 17 ∨ i = 18 ∨ i = 19 by omega) with rfl | rfl | rfl | rfl | rfl | rfl | rfl | rfl | rfl | rfl | rfl | rfl | rfl | rfl | rfl | rfl | rfl | rfl | rfl | rfl <;> (rcases (show r = 0 ∨ r = 1 ∨ r = 2 by omega) with rfl | rfl | rfl <;> rfl)
  rw [hs (j / 3) (by omega) (j % 3) (by omega), show j / 3 * 3 + j % 3 = j by omega]
  exact hv
theorem str_trod {w : World} {fuel : Nat} {cs : List Value} {s : List UInt8} {q : List MemPlace}
    (h : DataW.trod (fun _ => ()) Tryz.prog w 0 (fun _ => true) false fuel 9 cs = some (.lit (.string s), q)) : cs = [.string ⟨s.toArray⟩] := by
  obtain ⟨z1, e1, e2, _⟩ := DataW.trod_string Tryz.underlying9 h
  rw [e1]
  simp at e2
  obtain ⟨rfl, _⟩ := e2
  rfl
theorem axAt_get : ∀ i, i < 12 → axisL[i]? = some (axAt i) := by decide
theorem tyAt_get : ∀ i, i < 4 → typeL[i]? = some (tyAt i) := by decide
theorem opAt_get : ∀ i, i < 14 → opTab[i]? = some (opAt i) := by decide
theorem axes_data : Rows.laid_stencil_xparse_axes = (.agg (axisL.map fun x => .lit (.string (tx x))) : DataW Unit) := by kernel_rfl
theorem axes_of_reads {w : World} (h : Lib.VarReads Tryz.prog w "stencil/xparse.axes" (.agg (axisL.map fun x => .lit (.string (tx x))))) : w.rangeAt 4 0 axCells := by
  obtain ⟨g, t, cs, fuel, p, hg, hty, hvar, hd⟩ := h
  obtain rfl := Option.some.inj ((show Tryz.prog.globalNamed "stencil/xparse.axes" = some 4 by kernel_rfl).symm.trans hg)
  obtain rfl := Option.some.inj ((show (Tryz.prog.globals[4]?).map (·.type) = some 148 by kernel_rfl).symm.trans hty)
  have key : ∀ i, i < 12 → ((cs.toList.drop (i * 1)).take 1) = [.string (T (axAt i))] := by
    intro i hi
    obtain ⟨fuel', d, q, hdi, he⟩ := Lib.array_elem Tryz.underlying148 hd i hi
    rw [cellsString] at he
    rw [List.getElem?_map, axAt_get i hi] at hdi
    simp only [Option.map_some, Option.some.injEq] at hdi
    subst hdi
    exact str_trod he
  intro j v hv
  have hj : j < 12 := by
    have h60 : axCells.length = 12 := by decide
    have := (List.getElem?_eq_some_iff.1 hv).1
    omega
  rw [Nat.zero_add, World.var?_cell hg hvar j, ← Array.getElem?_toList]
  have hk := congrArg (·[0]?) (key j hj)
  simp only [List.getElem?_take, List.getElem?_drop] at hk
  rw [if_pos (by omega), Nat.mul_one, Nat.add_zero] at hk
  rw [hk]
  have hs : ∀ i, i < 12 → axCells[i]? = some (.string (T (axAt i))) := by
    intro i hi
    unfold axCells
    rw [List.getElem?_map, axAt_get i hi]
    rfl
  rw [hs j hj] at hv
  exact hv
theorem types_data : Rows.laid_stencil_xparse_types = (.agg (typeL.map fun x => .lit (.string (tx x))) : DataW Unit) := by kernel_rfl
theorem types_of_reads {w : World} (h : Lib.VarReads Tryz.prog w "stencil/xparse.types" (.agg (typeL.map fun x => .lit (.string (tx x))))) : w.rangeAt 5 0 tyCells := by
  obtain ⟨g, t, cs, fuel, p, hg, hty, hvar, hd⟩ := h
  obtain rfl := Option.some.inj ((show Tryz.prog.globalNamed "stencil/xparse.types" = some 5 by kernel_rfl).symm.trans hg)
  obtain rfl := Option.some.inj ((show (Tryz.prog.globals[5]?).map (·.type) = some 149 by kernel_rfl).symm.trans hty)
  have key : ∀ i, i < 4 → ((cs.toList.drop (i * 1)).take 1) = [.string (T (tyAt i))] := by
    intro i hi
    obtain ⟨fuel', d, q, hdi, he⟩ := Lib.array_elem Tryz.underlying149 hd i hi
    rw [cellsString] at he
    rw [List.getElem?_map, tyAt_get i hi] at hdi
    simp only [Option.map_some, Option.some.injEq] at hdi
    subst hdi
    exact str_trod he
  intro j v hv
  have hj : j < 4 := by
    have h60 : tyCells.length = 4 := by decide
    have := (List.getElem?_eq_some_iff.1 hv).1
    omega
  rw [Nat.zero_add, World.var?_cell hg hvar j, ← Array.getElem?_toList]
  have hk := congrArg (·[0]?) (key j hj)
  simp only [List.getElem?_take, List.getElem?_drop] at hk
  rw [if_pos (by omega), Nat.mul_one, Nat.add_zero] at hk
  rw [hk]
  have hs : ∀ i, i < 4 → tyCells[i]? = some (.string (T (tyAt i))) := by
    intro i hi
    unfold tyCells
    rw [List.getElem?_map, tyAt_get i hi]
    rfl
  rw [hs j hj] at hv
  exact hv
theorem cellsOp : Tryz.prog.cellsOf 24 = 1 := by kernel_rfl
theorem cellsOper : Tryz.prog.cellsOf 121 = 3 := by kernel_rfl
theorem oper_trod {w : World} {fuel : Nat} {cs : List Value} {k a : Int} {s : List UInt8} {q : List MemPlace}
    (h : DataW.trod (fun _ => ()) Tryz.prog w 0 (fun _ => true) false fuel 121 cs = some (.agg [.lit (.string s), .lit (.int .i64 k), .lit (.int .i64 a)], q)) : cs = [.string ⟨s.toArray⟩, .int .i64 k, .int .i64 a] := by
  obtain ⟨y0, y1, y2, n, hx, hl, h0, h1, h2⟩ := Deep.trod_struct3 Tryz.underlying121 h
  rw [cellsOper] at hl
  simp only [cellsOp, cellsString, cellsInt] at h0 h1 h2
  obtain ⟨z0, e0, rfl, _⟩ := DataW.trod_string Tryz.underlying9 h0
  obtain ⟨z1, e1, rfl, _⟩ := DataW.trod_int Tryz.underlying24 h1
  obtain ⟨z2, e2, rfl, _⟩ := DataW.trod_int Tryz.underlying3 h2
  match cs, hl with
  | [v0, v1, v2], _ =>
    simp at e0 e1 e2
    simp at hx
    obtain ⟨⟨rfl, rfl, rfl⟩, _⟩ := hx
    subst e0 e1 e2
    rfl
theorem oper_data : Rows.laid_stencil_xparse_operators = (.agg (opTab.map fun x => .agg [.lit (.string (tx x.1)), .lit (.int .i64 (x.2.1 : Nat)), .lit (.int .i64 (x.2.2 : Nat))]) : DataW Unit) := by kernel_rfl
theorem opers_of_reads {w : World} (h : Lib.VarReads Tryz.prog w "stencil/xparse.operators" (.agg (opTab.map fun x => .agg [.lit (.string (tx x.1)), .lit (.int .i64 (x.2.1 : Nat)), .lit (.int .i64 (x.2.2 : Nat))]))) : w.rangeAt 3 0 opCells := by
  obtain ⟨g, t, cs, fuel, p, hg, hty, hvar, hd⟩ := h
  obtain rfl := Option.some.inj ((show Tryz.prog.globalNamed "stencil/xparse.operators" = some 3 by kernel_rfl).symm.trans hg)
  obtain rfl := Option.some.inj ((show (Tryz.prog.globals[3]?).map (·.type) = some 122 by kernel_rfl).symm.trans hty)
  have key : ∀ i, i < 14 → ((cs.toList.drop (i * 3)).take 3) = [.string (T (opAt i).1), .int .i64 ((opAt i).2.1 : Nat), .int .i64 ((opAt i).2.2 : Nat)] := by
    intro i hi
    obtain ⟨fuel', d, q, hdi, he⟩ := Lib.array_elem Tryz.underlying122 hd i hi
    rw [cellsOper] at he
    rw [List.getElem?_map, opAt_get i hi] at hdi
    simp only [Option.map_some, Option.some.injEq] at hdi
    subst hdi
    exact oper_trod he
  intro j v hv
  have hj : j < 42 := by
    have h60 : opCells.length = 42 := by decide +kernel
    have := (List.getElem?_eq_some_iff.1 hv).1
    omega
  rw [Nat.zero_add, World.var?_cell hg hvar j, ← Array.getElem?_toList]
  have hk := congrArg (·[j % 3]?) (key (j / 3) (by omega))
  simp only [List.getElem?_take, List.getElem?_drop] at hk
  rw [if_pos (by omega), show j / 3 * 3 + j % 3 = j by omega] at hk
  rw [hk]
  have hs : ∀ i, i < 14 → ∀ r, r < 3 → ([.string (T (opAt i).1), .int .i64 ((opAt i).2.1 : Nat), .int .i64 ((opAt i).2.2 : Nat)] : List Value)[r]? = opCells[i * 3 + r]? := by
    intro i hi r hr
    rcases (show i = 0 ∨ i = 1 ∨ i = 2 ∨ i = 3 ∨ i = 4 ∨ i = 5 ∨ i = 6 ∨ i = 7 ∨ i = 8 ∨ i = 9 ∨ i = 10 ∨ i = 11 ∨ i = 12 ∨ i = 13 by omega) with rfl | rfl | rfl | rfl | rfl | rfl | rfl | rfl | rfl | rfl | rfl | rfl | rfl | rfl <;> rcases (show r = 0 ∨ r = 1 ∨ r = 2 by omega) with rfl | rfl | rfl <;> rfl
  rw [hs (j / 3) (by omega) (j % 3) (by omega), show j / 3 * 3 + j % 3 = j by omega]
  exact hv
theorem pow_data : (Rows.laid_internal_strconv_uint64pow10 : DataW Unit) = Lib.tabData .u64 Lib.pow10Tab := by kernel_rfl
theorem tab_of {P : Program} {W : World} {name : String} {k : IntKind} {zs : List Int} {g : Nat} {t e : TypeId} {n : Nat} (hg : P.globalNamed name = some g) (hty : (P.globals[g]?).map (·.type) = some t) (ht : P.underlying t = some (.array n e)) (he : P.underlying e = some (.int k)) (hce : P.cellsOf e = 1) (hct : P.cellsOf t = n) (h : Lib.VarReads P W name (Lib.tabData k zs)) : Lib.TabIs P W name k zs := by
  obtain ⟨g', t', cs, fuel, p, hg', ht', hvar, hd⟩ := h
  obtain rfl := Option.some.inj (hg.symm.trans hg')
  obtain rfl := Option.some.inj (hty.symm.trans ht')
  unfold Lib.TabIs
  rw [hvar, ← Lib.cells_of_tab ht he hce hct hd]
theorem env_of {W : World} (hM : laidMet Tryz.prog [("math/bits.deBruijn32tab", Rows.laid_math_bits_deBruijn32tab), ("math/bits.deBruijn64tab", Rows.laid_math_bits_deBruijn64tab), ("internal/strconv.uint64pow10", Rows.laid_internal_strconv_uint64pow10), ("unicode/utf8.acceptRanges", Rows.laid_unicode_utf8_acceptRanges), ("stencil/xplex.signs", Rows.laid_stencil_xplex_signs), ("stencil/xparse.operators", Rows.laid_stencil_xparse_operators), ("stencil/xparse.axes", Rows.laid_stencil_xparse_axes), ("stencil/xparse.types", Rows.laid_stencil_xparse_types), ("unicode/utf8.first", Rows.laid_unicode_utf8_first)] W) (hs : W.ShapedOpen Tryz.prog) : Env6 W := by
  have h3 := Lib.laidMet.reads hM (n := "unicode/utf8.first") (d := Rows.laid_unicode_utf8_first) (by simp)
  have h4 := Lib.laidMet.reads hM (n := "unicode/utf8.acceptRanges") (d := Rows.laid_unicode_utf8_acceptRanges) (by simp)
  have h5 := Lib.laidMet.reads hM (n := "stencil/xplex.signs") (d := Rows.laid_stencil_xplex_signs) (by simp)
  have h6 := Lib.laidMet.reads hM (n := "internal/strconv.uint64pow10") (d := Rows.laid_internal_strconv_uint64pow10) (by simp)
  have h7 := Lib.laidMet.reads hM (n := "stencil/xparse.operators") (d := Rows.laid_stencil_xparse_operators) (by simp)
  have h8 := Lib.laidMet.reads hM (n := "stencil/xparse.axes") (d := Rows.laid_stencil_xparse_axes) (by simp)
  have h9 := Lib.laidMet.reads hM (n := "stencil/xparse.types") (d := Rows.laid_stencil_xparse_types) (by simp)
  rw [first_data] at h3
  rw [accept_data] at h4
  rw [signs_data] at h5
  rw [pow_data] at h6
  rw [oper_data] at h7
  rw [axes_data] at h8
  rw [types_data] at h9
  refine ⟨⟨⟨⟨?_, utf8Tabs_of_reads Tryz.lays260 u8extra h3 h4⟩, signs_of_reads h5⟩, opers_of_reads h7, axes_of_reads h8, types_of_reads h9⟩, ?_⟩
  · exact cell_of_shapedOpen_int (zero := #[.int .i64 0]) (t := 3) hs (of_decide_eq_true (by kernel_rfl)) (by kernel_rfl) rfl (by kernel_rfl) (by kernel_rfl) Tryz.underlying3
  · exact tab_of (g := 9) (t := 179) (e := 125) (n := 20) (by kernel_rfl) (by kernel_rfl) (by kernel_rfl) Tryz.underlying125 (by kernel_rfl) (by kernel_rfl) h6
theorem own : ownKnob Tryz.prog.godebug = none := by kernel_rfl
end Go.Proofs.YthkkfldmoflfaaaGreatDoor
