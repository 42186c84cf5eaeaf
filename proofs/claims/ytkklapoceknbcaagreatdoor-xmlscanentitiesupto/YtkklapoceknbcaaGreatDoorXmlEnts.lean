/- An entity comes to its text, in an element and in an attribute; in itself it is refused: the law XmlscanEntities. -/
import Derived.Test.YtkklapoceknbcaaGreatDoorXe
import Derived.Test.YtkklapoceknbcaaGreatDoorXmlTexts
namespace Go.Proofs.YtkklapoceknbcaaGreatDoor
open Go.RowKit
def goodB (C : Nat) : Prop := 32 ≤ C ∧ C ≤ 126 ∧ C ≠ 60 ∧ C ≠ 38 ∧ C ≠ 37 ∧ C ≠ 34 ∧ C ≠ 39
theorem asc_okF : ∀ c : Fin 127, 32 ≤ c.val → charR (c.val : Int) = true := by decide +kernel
theorem ent_list (s : ByteArray) (h : ∀ j, j < s.size → goodB (s.get! j).toNat) : ∃ l, EntS l ∧ okL l ∧ s = T l ∧ (tx l).length = s.size := by
  have hS : EntS (s.data.toList.map UInt8.toNat) := by
    intro c hc
    obtain ⟨b, hb, rfl⟩ := List.mem_map.1 hc
    obtain ⟨j, hj, rfl⟩ := List.getElem_of_mem hb
    have hj' : j < s.size := hj
    have e := get_at s j hj'
    rw [List.getElem?_eq_getElem hj] at e
    rw [Option.some.inj e]
    exact h j hj'
  have ha : ∀ c ∈ s.data.toList.map UInt8.toNat, c < 128 := fun c hc => by have := (hS c hc).2.1; omega
  have e : tx (s.data.toList.map UInt8.toNat) = s.data.toList := by
    rw [sign_len_tx ha, List.map_map]
    have : ∀ b ∈ s.data.toList, (UInt8.ofNat ∘ UInt8.toNat) b = id b := fun b _ => by simp
    rw [List.map_congr_left this, List.map_id]
  refine ⟨_, hS, fun c hc => ?_, ?_, by rw [e]; rfl⟩
  · have h1 := (hS c hc).1
    have h2 := (hS c hc).2.1
    exact asc_okF ⟨c, by omega⟩ h1
  · unfold T
    rw [e]
theorem entL_app (n l E : List Nat) : entL n l E = [60, 33, 68, 79, 67, 84, 89, 80, 69, 32, 97, 32, 91, 60, 33, 69, 78, 84, 73, 84, 89, 32] ++ (n ++ ([32, 34] ++ (l ++ ([34, 62, 93, 62] ++ E)))) := rfl
theorem ent_okL {n l E : List Nat} (hn : okL n) (hl : okL l) (hE : okL E) : okL (entL n l E) := by
  rw [entL_app]
  refine okL_app (by unfold okL; decide +kernel) (okL_app hn (okL_app (by unfold okL; decide +kernel) (okL_app hl (okL_app (by unfold okL; decide +kernel) hE))))
theorem ent_sz {n l E : List Nat} (h1 : (tx n).length ≤ 4) (h2 : (tx E).length ≤ 100) : (T (entL n l E)).size ≤ (tx l).length + 200 := by
  rw [T_size, entL_app, tx_len_app, tx_len_app, tx_len_app, tx_len_app, tx_len_app]
  have e1 : (tx [60, 33, 68, 79, 67, 84, 89, 80, 69, 32, 97, 32, 91, 60, 33, 69, 78, 84, 73, 84, 89, 32]).length = 22 := by decide +kernel
  have e2 : (tx [32, 34]).length = 2 := by decide +kernel
  have e3 : (tx [34, 62, 93, 62]).length = 4 := by decide +kernel
  omega
theorem ent_facts {n : List Nat} (hn : entN n) : okL n ∧ okL (entB n) ∧ okL (entC n) ∧ (tx n).length ≤ 4 ∧ (tx (entB n)).length ≤ 100 ∧ (tx (entC n)).length ≤ 100 ∧ okL (38 :: (n ++ [59])) ∧ (tx (38 :: (n ++ [59]))).length ≤ 10 := by
  rcases hn with rfl | rfl <;> (unfold okL; decide +kernel)
theorem ent_walk1 (n l : List Nat) (w : World) (hn : entN n) (h : EntS l) (hl : okL l) (hz : (tx l).length ≤ 3000) (hE : XEnv w.heap.size w) :
    Calls Tryz.prog 11 #[.string (T (entL n l (entB n)))] w fun e w' => ∃ vt, e = .returned (.tuple #[vt, .int .i64 0, .int .i64 0]) ∧ Toks w' w.heap.size vt [entTok l, ⟨4, [], [], 120 :: (l ++ 121 :: l)⟩, ⟨7, [97], [], []⟩] ∧ Below w.heap.size w w' := by
  obtain ⟨f1, f2, f3, f4, f5, f6, f7, f8⟩ := ent_facts hn
  have hsz := ent_sz (l := l) f4 f5
  have h1 := scan_typed (entL n l (entB n)) w (ent_okL f1 hl f2) (by omega) hE (ent_decl n l (entB n))
  rw [ent_scan n l hn h hz] at h1
  refine h1.mono ?_
  rintro e w' ⟨⟨vt, rfl, h2⟩, hb⟩
  exact ⟨vt, rfl, h2, hb⟩
theorem ent_walk2 (n l : List Nat) (w : World) (hn : entN n) (h : EntS l) (hl : okL l) (hz : (tx l).length ≤ 3000) (hE : XEnv w.heap.size w) :
    Calls Tryz.prog 11 #[.string (T (entL n (l ++ 38 :: (n ++ [59])) (entC n)))] w fun e w' => ∃ pl : Nat, e = .returned (.tuple #[.slice none 0 0, .int .i64 6, .int .i64 (pl : Nat)]) ∧ Below w.heap.size w w' := by
  obtain ⟨f1, f2, f3, f4, f5, f6, f7, f8⟩ := ent_facts hn
  have hsz := ent_sz (l := l ++ 38 :: (n ++ [59])) f4 f6
  rw [tx_len_app] at hsz
  obtain ⟨pl, hs⟩ := ent_none n l hn h hz
  have h1 := scan_typed (entL n (l ++ 38 :: (n ++ [59])) (entC n)) w (ent_okL f1 (okL_app hl f7) f3) (by omega) hE (ent_decl n _ (entC n))
  rw [hs] at h1
  refine h1.mono ?_
  rintro e w' ⟨h2, hb⟩
  exact ⟨pl, h2, hb⟩
theorem ent_D1 (n l : List Nat) : (⟨#[60, 33, 68, 79, 67, 84, 89, 80, 69, 32, 97, 32, 91, 60, 33, 69, 78, 84, 73, 84, 89, 32]⟩ : ByteArray) ++ T n ++ (⟨#[32, 34]⟩ : ByteArray) ++ T l ++ (⟨#[34, 62, 93, 62, 60, 97, 32, 98, 61, 39, 38]⟩ : ByteArray) ++ T n ++ (⟨#[59, 39, 62, 120, 38]⟩ : ByteArray) ++ T n ++ (⟨#[59, 121, 38]⟩ : ByteArray) ++ T n ++ (⟨#[59, 60, 47, 97, 62]⟩ : ByteArray) = T (entL n l (entB n)) := by
  have e0 : (⟨#[60, 33, 68, 79, 67, 84, 89, 80, 69, 32, 97, 32, 91, 60, 33, 69, 78, 84, 73, 84, 89, 32]⟩ : ByteArray) = T [60, 33, 68, 79, 67, 84, 89, 80, 69, 32, 97, 32, 91, 60, 33, 69, 78, 84, 73, 84, 89, 32] := by decide +kernel
  have e1 : (⟨#[32, 34]⟩ : ByteArray) = T [32, 34] := by decide +kernel
  have e2 : (⟨#[34, 62, 93, 62, 60, 97, 32, 98, 61, 39, 38]⟩ : ByteArray) = T [34, 62, 93, 62, 60, 97, 32, 98, 61, 39, 38] := by decide +kernel
  have e3 : (⟨#[59, 39, 62, 120, 38]⟩ : ByteArray) = T [59, 39, 62, 120, 38] := by decide +kernel
  have e4 : (⟨#[59, 121, 38]⟩ : ByteArray) = T [59, 121, 38] := by decide +kernel
  have e5 : (⟨#[59, 60, 47, 97, 62]⟩ : ByteArray) = T [59, 60, 47, 97, 62] := by decide +kernel
  rw [e0, e1, e2, e3, e4, e5]
  simp only [T_app]
  congr 1
  unfold entL entB entA
  simp
theorem ent_D2 (n l : List Nat) : (⟨#[60, 33, 68, 79, 67, 84, 89, 80, 69, 32, 97, 32, 91, 60, 33, 69, 78, 84, 73, 84, 89, 32]⟩ : ByteArray) ++ T n ++ (⟨#[32, 34]⟩ : ByteArray) ++ T l ++ (⟨#[38]⟩ : ByteArray) ++ T n ++ (⟨#[59, 34, 62, 93, 62, 60, 97, 62, 38]⟩ : ByteArray) ++ T n ++ (⟨#[59, 60, 47, 97, 62]⟩ : ByteArray) = T (entL n (l ++ 38 :: (n ++ [59])) (entC n)) := by
  have e0 : (⟨#[60, 33, 68, 79, 67, 84, 89, 80, 69, 32, 97, 32, 91, 60, 33, 69, 78, 84, 73, 84, 89, 32]⟩ : ByteArray) = T [60, 33, 68, 79, 67, 84, 89, 80, 69, 32, 97, 32, 91, 60, 33, 69, 78, 84, 73, 84, 89, 32] := by decide +kernel
  have e1 : (⟨#[32, 34]⟩ : ByteArray) = T [32, 34] := by decide +kernel
  have e2 : (⟨#[59, 60, 47, 97, 62]⟩ : ByteArray) = T [59, 60, 47, 97, 62] := by decide +kernel
  have e3 : (⟨#[38]⟩ : ByteArray) = T [38] := by decide +kernel
  have e4 : (⟨#[59, 34, 62, 93, 62, 60, 97, 62, 38]⟩ : ByteArray) = T [59, 34, 62, 93, 62, 60, 97, 62, 38] := by decide +kernel
  rw [e0, e1, e2, e3, e4]
  simp only [T_app]
  congr 1
  unfold entL entC
  simp
theorem ent_text (l : List Nat) : (⟨#[120]⟩ : ByteArray) ++ T l ++ (⟨#[121]⟩ : ByteArray) ++ T l = T (120 :: (l ++ 121 :: l)) := by
  have e0 : (⟨#[120]⟩ : ByteArray) = T [120] := by decide +kernel
  have e1 : (⟨#[121]⟩ : ByteArray) = T [121] := by decide +kernel
  rw [e0, e1]
  simp only [T_app]
  congr 1
  simp
set_option maxRecDepth 100000 in
set_option maxHeartbeats 8000000 in
theorem entities_walk (s : ByteArray) (name : Bool) (w : World) (hs : s.size ≤ 1048576) (hE : XEnv w.heap.size w) :
    Calls Tryz.prog 7 #[.string s, .bool name] w fun e w' => e = .returned (.bool true) ∧ Below w.heap.size w w' := by
  have HE := hide hE
  have HL0 := hide (live_any w hE)
  clear hE
  go_enter Tryz.func7, Tryz.ntmps7
  go_wp2_with fail
  go_loopg [5] s.size (fun g v5 wr => ∃ i : Nat, i + g = s.size ∧ v5 = .int .i64 (i : Nat) ∧ wr = w ∧ ∀ j, j < i → goodB (s.get! j).toNat)
  case atStart => exact ⟨0, by omega, rfl, rfl, fun j hj => by omega⟩
  case round =>
    obtain ⟨i, hig, rfl, rfl, hno⟩ := hrel
    have HNO := hide hno
    have HIG := hide hig
    clear hno
    cases gk with
    | succ g =>
      have hi : i < s.size := by omega
      obtain ⟨C, hC⟩ : ∃ C : Nat, (s.get! i).toNat = C := ⟨_, rfl⟩
      have hix : ∀ W, (Instr.index 9 (.string s) (.int .i64 (i : Int))).run Tryz.prog W = .ok (.int .u8 (C : Int)) W := fun W => by
        rw [run_index_string W 9 s .i64 _ Tryz.underlying9, dif_pos ⟨by omega, by omega⟩, ← hC]
        have e := get_at s i hi
        have e2 : s.data.toList[i]? = some (s[i]'hi) := Lib.data_getElem? s i hi
        rw [e2] at e
        rw [← Option.some.inj e]
        rfl
      have HC := hide hC
      have hw1 : wrap64 ((i : Int) + 1) = ((i + 1 : Nat) : Int) := by unfold wrap64; omega
      clear hC hig
      by_cases c0 : C < 32
      · have i0 : decide ((C : Int) < 32) = true := by simp; omega
        clear c0
        go_wp2_with fail
        refine (unhide HL0).mono ?_
        rintro e w2 ⟨rfl, hb2⟩
        go_wp2
        go_ret
        exact ⟨rfl, hb2⟩
      · have i0 : decide ((C : Int) < 32) = false := by simp; omega
        by_cases c1 : 126 < C
        · have i1 : decide ((126 : Int) < (C : Int)) = true := by simp; omega
          clear c1
          go_wp2_with fail
          refine (unhide HL0).mono ?_
          rintro e w2 ⟨rfl, hb2⟩
          go_wp2
          go_ret
          exact ⟨rfl, hb2⟩
        · have i1 : decide ((126 : Int) < (C : Int)) = false := by simp; omega
          by_cases c2 : C = 60
          · have i2 : ((C : Int) == 60) = true := by simp; omega
            clear c2
            go_wp2_with fail
            refine (unhide HL0).mono ?_
            rintro e w2 ⟨rfl, hb2⟩
            go_wp2
            go_ret
            exact ⟨rfl, hb2⟩
          · have i2 : ((C : Int) == 60) = false := by simp; omega
            by_cases c3 : C = 38
            · have i3 : ((C : Int) == 38) = true := by simp; omega
              clear c3
              go_wp2_with fail
              refine (unhide HL0).mono ?_
              rintro e w2 ⟨rfl, hb2⟩
              go_wp2
              go_ret
              exact ⟨rfl, hb2⟩
            · have i3 : ((C : Int) == 38) = false := by simp; omega
              by_cases c4 : C = 37
              · have i4 : ((C : Int) == 37) = true := by simp; omega
                clear c4
                go_wp2_with fail
                refine (unhide HL0).mono ?_
                rintro e w2 ⟨rfl, hb2⟩
                go_wp2
                go_ret
                exact ⟨rfl, hb2⟩
              · have i4 : ((C : Int) == 37) = false := by simp; omega
                by_cases c5 : C = 34
                · have i5 : ((C : Int) == 34) = true := by simp; omega
                  clear c5
                  go_wp2_with fail
                  refine (unhide HL0).mono ?_
                  rintro e w2 ⟨rfl, hb2⟩
                  go_wp2
                  go_ret
                  exact ⟨rfl, hb2⟩
                · have i5 : ((C : Int) == 34) = false := by simp; omega
                  by_cases c6 : C = 39
                  · have i6 : ((C : Int) == 39) = true := by simp; omega
                    clear c6
                    go_wp2_with fail
                    refine (unhide HL0).mono ?_
                    rintro e w2 ⟨rfl, hb2⟩
                    go_wp2
                    go_ret
                    exact ⟨rfl, hb2⟩
                  · have i6 : ((C : Int) == 39) = false := by simp; omega
                    have HG := hide (show goodB C from ⟨by omega, by omega, c2, c3, c4, c5, c6⟩)
                    clear c0 c1 c2 c3 c4 c5 c6
                    go_wp2_with fail
                    go_roundg g
                    case measure => omega
                    case rel =>
                      refine ⟨i + 1, by have := unhide HIG; omega, by first | rfl | simp, rfl, fun j hj => ?_⟩
                      by_cases hji : j = i
                      · rw [hji, unhide HC]; exact unhide HG
                      · exact unhide HNO j (by omega)
    | zero =>
      obtain rfl : i = s.size := by omega
      obtain ⟨l, hS, hl, hT, hz⟩ := ent_list s (unhide HNO)
      clear hig HIG HNO
      by_cases hbig : 3000 < s.size
      · have hb' : decide ((3000 : Int) < (s.size : Int)) = true := decide_eq_true (by omega)
        clear hT hS hl hz hbig
        go_wp2_with fail
        refine (unhide HL0).mono ?_
        rintro e w2 ⟨rfl, hb2⟩
        go_wp2
        go_ret
        exact ⟨rfl, hb2⟩
      · have hb' : decide ((3000 : Int) < (s.size : Int)) = false := decide_eq_false (by omega)
        have HT := hide hT
        have HZ : Hid ((tx l).length ≤ 3000) := hide (by omega)
        clear hT hz hbig
        cases name
        · have hN : entN [101] := .inl rfl
          have eN : (⟨#[101]⟩ : ByteArray) = T [101] := by decide +kernel
          have HD1 : Hid ((⟨#[60, 33, 68, 79, 67, 84, 89, 80, 69, 32, 97, 32, 91, 60, 33, 69, 78, 84, 73, 84, 89, 32]⟩ : ByteArray) ++ (⟨#[101]⟩ : ByteArray) ++ (⟨#[32, 34]⟩ : ByteArray) ++ s ++ (⟨#[34, 62, 93, 62, 60, 97, 32, 98, 61, 39, 38]⟩ : ByteArray) ++ (⟨#[101]⟩ : ByteArray) ++ (⟨#[59, 39, 62, 120, 38]⟩ : ByteArray) ++ (⟨#[101]⟩ : ByteArray) ++ (⟨#[59, 121, 38]⟩ : ByteArray) ++ (⟨#[101]⟩ : ByteArray) ++ (⟨#[59, 60, 47, 97, 62]⟩ : ByteArray) = T (entL [101] l (entB [101]))) := hide (by rw [eN, unhide HT]; exact ent_D1 [101] l)
          have HD2 : Hid ((⟨#[60, 33, 68, 79, 67, 84, 89, 80, 69, 32, 97, 32, 91, 60, 33, 69, 78, 84, 73, 84, 89, 32]⟩ : ByteArray) ++ (⟨#[101]⟩ : ByteArray) ++ (⟨#[32, 34]⟩ : ByteArray) ++ s ++ (⟨#[38]⟩ : ByteArray) ++ (⟨#[101]⟩ : ByteArray) ++ (⟨#[59, 34, 62, 93, 62, 60, 97, 62, 38]⟩ : ByteArray) ++ (⟨#[101]⟩ : ByteArray) ++ (⟨#[59, 60, 47, 97, 62]⟩ : ByteArray) = T (entL [101] (l ++ 38 :: ([101] ++ [59])) (entC [101]))) := hide (by rw [eN, unhide HT]; exact ent_D2 [101] l)
          have HW1 : Hid (∀ W, XEnv W.heap.size W → Calls Tryz.prog 11 #[.string (T (entL [101] l (entB [101])))] W fun e w' => ∃ vt, e = .returned (.tuple #[vt, .int .i64 0, .int .i64 0]) ∧ Toks w' W.heap.size vt [entTok l, ⟨4, [], [], 120 :: (l ++ 121 :: l)⟩, ⟨7, [97], [], []⟩] ∧ Below W.heap.size W w') := hide (fun W => ent_walk1 [101] l W hN hS hl (unhide HZ))
          have HW2 : Hid (∀ W, XEnv W.heap.size W → Calls Tryz.prog 11 #[.string (T (entL [101] (l ++ 38 :: ([101] ++ [59])) (entC [101])))] W fun e w' => ∃ pl : Nat, e = .returned (.tuple #[.slice none 0 0, .int .i64 6, .int .i64 (pl : Nat)]) ∧ Below W.heap.size W w') := hide (fun W => ent_walk2 [101] l W hN hS hl (unhide HZ))
          clear hN eN hl hS
          go_wp2_with fail
          rw [unhide HD1]
          refine (unhide HW1 _ (unhide HE)).mono ?_
          rintro e w1 ⟨vt, rfl, hTk, hb1⟩
          obtain ⟨g, cap, rfl, hcap, _, hg, ht⟩ := toks_at hTk (by simp)
          have t0 := ht 0 _ rfl
          have t1 := ht 1 _ rfl
          obtain ⟨v, ha1, ha2⟩ := t0.a
          obtain ⟨g2, cap2, rfl, hcap2, hB2, hg2, hp⟩ := owns_at ha2 (by simp [entTok])
          have k1 : w1.cell? ⟨g, 2, none⟩ = some (.slice (some ⟨g2, 0, none⟩) 1 cap2) := ha1
          have k2 : w1.cell? ⟨g2, 1, none⟩ = some (.string s) := by rw [unhide HT]; exact hp 1 _ rfl
          have k3 : w1.cell? ⟨g, 7, none⟩ = some (.string ((⟨#[120]⟩ : ByteArray) ++ s ++ (⟨#[121]⟩ : ByteArray) ++ s)) := by rw [unhide HT, ent_text l]; exact t1.x
          have HK1 := hide k1
          have HK2 := hide k2
          have HK3 := hide k3
          have HE1 := hide ((unhide HE).at hb1)
          clear hTk HT ht t0 t1 ha1 ha2 hp k1 k2 k3 HW1 HD1
          go_wp2_with fail
          rw [unhide HD2]
          refine (unhide HW2 _ (unhide HE1)).mono ?_
          rintro e w2 ⟨pl, rfl, hb2⟩
          have HL := hide (live_any w2 ((unhide HE1).at hb2))
          have HK1 := hide (keptC hb2 (unhide HK1))
          have HK2 := hide (keptC hb2 (unhide HK2))
          have HK3 := hide (keptC hb2 (unhide HK3))
          have hb02 := Below.then hb1 hb2
          clear HW2 HD2 hb1 hb2
          go_wp2_with fail
          refine (unhide HL).mono ?_
          rintro e w3 ⟨rfl, hb3⟩
          have k1 := keptC hb3 (unhide HK1)
          have k2 := keptC hb3 (unhide HK2)
          have k3 := keptC hb3 (unhide HK3)
          go_wp2
          go_ret
          exact ⟨rfl, Below.then hb02 hb3⟩
        · have hN : entN [108, 116, 45, 101] := .inr rfl
          have eN : (⟨#[108, 116, 45, 101]⟩ : ByteArray) = T [108, 116, 45, 101] := by decide +kernel
          have HD1 : Hid ((⟨#[60, 33, 68, 79, 67, 84, 89, 80, 69, 32, 97, 32, 91, 60, 33, 69, 78, 84, 73, 84, 89, 32]⟩ : ByteArray) ++ (⟨#[108, 116, 45, 101]⟩ : ByteArray) ++ (⟨#[32, 34]⟩ : ByteArray) ++ s ++ (⟨#[34, 62, 93, 62, 60, 97, 32, 98, 61, 39, 38]⟩ : ByteArray) ++ (⟨#[108, 116, 45, 101]⟩ : ByteArray) ++ (⟨#[59, 39, 62, 120, 38]⟩ : ByteArray) ++ (⟨#[108, 116, 45, 101]⟩ : ByteArray) ++ (⟨#[59, 121, 38]⟩ : ByteArray) ++ (⟨#[108, 116, 45, 101]⟩ : ByteArray) ++ (⟨#[59, 60, 47, 97, 62]⟩ : ByteArray) = T (entL [108, 116, 45, 101] l (entB [108, 116, 45, 101]))) := hide (by rw [eN, unhide HT]; exact ent_D1 [108, 116, 45, 101] l)
          have HD2 : Hid ((⟨#[60, 33, 68, 79, 67, 84, 89, 80, 69, 32, 97, 32, 91, 60, 33, 69, 78, 84, 73, 84, 89, 32]⟩ : ByteArray) ++ (⟨#[108, 116, 45, 101]⟩ : ByteArray) ++ (⟨#[32, 34]⟩ : ByteArray) ++ s ++ (⟨#[38]⟩ : ByteArray) ++ (⟨#[108, 116, 45, 101]⟩ : ByteArray) ++ (⟨#[59, 34, 62, 93, 62, 60, 97, 62, 38]⟩ : ByteArray) ++ (⟨#[108, 116, 45, 101]⟩ : ByteArray) ++ (⟨#[59, 60, 47, 97, 62]⟩ : ByteArray) = T (entL [108, 116, 45, 101] (l ++ 38 :: ([108, 116, 45, 101] ++ [59])) (entC [108, 116, 45, 101]))) := hide (by rw [eN, unhide HT]; exact ent_D2 [108, 116, 45, 101] l)
          have HW1 : Hid (∀ W, XEnv W.heap.size W → Calls Tryz.prog 11 #[.string (T (entL [108, 116, 45, 101] l (entB [108, 116, 45, 101])))] W fun e w' => ∃ vt, e = .returned (.tuple #[vt, .int .i64 0, .int .i64 0]) ∧ Toks w' W.heap.size vt [entTok l, ⟨4, [], [], 120 :: (l ++ 121 :: l)⟩, ⟨7, [97], [], []⟩] ∧ Below W.heap.size W w') := hide (fun W => ent_walk1 [108, 116, 45, 101] l W hN hS hl (unhide HZ))
          have HW2 : Hid (∀ W, XEnv W.heap.size W → Calls Tryz.prog 11 #[.string (T (entL [108, 116, 45, 101] (l ++ 38 :: ([108, 116, 45, 101] ++ [59])) (entC [108, 116, 45, 101])))] W fun e w' => ∃ pl : Nat, e = .returned (.tuple #[.slice none 0 0, .int .i64 6, .int .i64 (pl : Nat)]) ∧ Below W.heap.size W w') := hide (fun W => ent_walk2 [108, 116, 45, 101] l W hN hS hl (unhide HZ))
          clear hN eN hl hS
          go_wp2_with fail
          rw [unhide HD1]
          refine (unhide HW1 _ (unhide HE)).mono ?_
          rintro e w1 ⟨vt, rfl, hTk, hb1⟩
          obtain ⟨g, cap, rfl, hcap, _, hg, ht⟩ := toks_at hTk (by simp)
          have t0 := ht 0 _ rfl
          have t1 := ht 1 _ rfl
          obtain ⟨v, ha1, ha2⟩ := t0.a
          obtain ⟨g2, cap2, rfl, hcap2, hB2, hg2, hp⟩ := owns_at ha2 (by simp [entTok])
          have k1 : w1.cell? ⟨g, 2, none⟩ = some (.slice (some ⟨g2, 0, none⟩) 1 cap2) := ha1
          have k2 : w1.cell? ⟨g2, 1, none⟩ = some (.string s) := by rw [unhide HT]; exact hp 1 _ rfl
          have k3 : w1.cell? ⟨g, 7, none⟩ = some (.string ((⟨#[120]⟩ : ByteArray) ++ s ++ (⟨#[121]⟩ : ByteArray) ++ s)) := by rw [unhide HT, ent_text l]; exact t1.x
          have HK1 := hide k1
          have HK2 := hide k2
          have HK3 := hide k3
          have HE1 := hide ((unhide HE).at hb1)
          clear hTk HT ht t0 t1 ha1 ha2 hp k1 k2 k3 HW1 HD1
          go_wp2_with fail
          rw [unhide HD2]
          refine (unhide HW2 _ (unhide HE1)).mono ?_
          rintro e w2 ⟨pl, rfl, hb2⟩
          have HL := hide (live_any w2 ((unhide HE1).at hb2))
          have HK1 := hide (keptC hb2 (unhide HK1))
          have HK2 := hide (keptC hb2 (unhide HK2))
          have HK3 := hide (keptC hb2 (unhide HK3))
          have hb02 := Below.then hb1 hb2
          clear HW2 HD2 hb1 hb2
          go_wp2_with fail
          refine (unhide HL).mono ?_
          rintro e w3 ⟨rfl, hb3⟩
          have k1 := keptC hb3 (unhide HK1)
          have k2 := keptC hb3 (unhide HK2)
          have k3 := keptC hb3 (unhide HK3)
          go_wp2
          go_ret
          exact ⟨rfl, Below.then hb02 hb3⟩
end Go.Proofs.YtkklapoceknbcaaGreatDoor
