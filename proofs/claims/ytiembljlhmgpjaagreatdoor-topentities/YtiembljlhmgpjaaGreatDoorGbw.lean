/- Several texts, laid as one. -/
import Derived.Test.YtiembljlhmgpjaaGreatDoorTeP
import Derived.Test.YtiembljlhmgpjaaGreatDoorGbv
import Derived.Test.YtiembljlhmgpjaaGreatDoorGak
import Derived.Lib.LaidU8
import Derived.HandedShaped
import Derived.WalkKit
import Derived.ProofKit
import Derived.OpenShut
import Derived.ShutString
import Derived.Deep.DeepHandedRow
import Derived.Lib.LaidTab
/- The law TopEntities. -/
namespace Go.Proofs.YtiembljlhmgpjaaGreatDoor
open Go.RowKit Go.Maps
def goodT (C : Nat) : Prop := (97 ≤ C ∧ C ≤ 122) ∨ (48 ≤ C ∧ C ≤ 57) ∨ C = 32
theorem asc_okT : ∀ c : Fin 127, 32 ≤ c.val → charR (c.val : Int) = true := by decide +kernel
structure TeAt (s : ByteArray) (k : Nat) : Prop where
  le : k ≤ s.size
  good : ∀ j, j < k → goodT (s.get! j).toNat
theorem te_list (s : ByteArray) (h : ∀ j, j < s.size → goodT (s.get! j).toNat) : ∃ l, TeS l ∧ okL l ∧ s = T l ∧ (tx l).length = s.size := by
  have hS : TeS (s.data.toList.map UInt8.toNat) := by
    intro c hc
    obtain ⟨b, hb, rfl⟩ := List.mem_map.1 hc
    obtain ⟨j, hj, rfl⟩ := List.getElem_of_mem hb
    have hj' : j < s.size := hj
    have e := get_at s j hj'
    rw [List.getElem?_eq_getElem hj] at e
    rw [Option.some.inj e]
    exact h j hj'
  have ha : ∀ c ∈ s.data.toList.map UInt8.toNat, c < 128 := fun c hc => by have := hS c hc; omega
  have e : tx (s.data.toList.map UInt8.toNat) = s.data.toList := by
    rw [sign_len_tx ha, List.map_map]
    have : ∀ b ∈ s.data.toList, (UInt8.ofNat ∘ UInt8.toNat) b = id b := fun b _ => by simp
    rw [List.map_congr_left this, List.map_id]
  refine ⟨_, hS, fun c hc => ?_, ?_, by rw [e]; rfl⟩
  · have h1 := hS c hc
    exact asc_okT ⟨c, by omega⟩ (by show 32 ≤ c; omega)
  · unfold T
    rw [e]
theorem teApp {a b : List Nat} (ha : okL a) (hb : okL b) : okL (a ++ b) := fun c hc => (List.mem_append.1 hc).elim (ha c) (hb c)
/-- The document with the entities. -/
theorem te_bytes (l : List Nat) (E : List Nat) (EB : ByteArray) (hE : EB = T E) : (⟨#[60, 33, 68, 79, 67, 84, 89, 80, 69, 32, 97, 32, 91, 60, 33, 69, 78, 84, 73, 84, 89, 32, 102, 32, 39]⟩ : ByteArray) ++ T l ++ (⟨#[39, 62, 60, 33, 69, 78, 84, 73, 84, 89, 32, 101, 32, 39, 38, 102, 59, 39, 62, 93, 62]⟩ : ByteArray) ++ EB = T (teH l E) := by
  have e1 : (⟨#[60, 33, 68, 79, 67, 84, 89, 80, 69, 32, 97, 32, 91, 60, 33, 69, 78, 84, 73, 84, 89, 32, 102, 32, 39]⟩ : ByteArray) = T [60, 33, 68, 79, 67, 84, 89, 80, 69, 32, 97, 32, 91, 60, 33, 69, 78, 84, 73, 84, 89, 32, 102, 32, 39] := by decide +kernel
  have e2 : (⟨#[39, 62, 60, 33, 69, 78, 84, 73, 84, 89, 32, 101, 32, 39, 38, 102, 59, 39, 62, 93, 62]⟩ : ByteArray) = T [39, 62, 60, 33, 69, 78, 84, 73, 84, 89, 32, 101, 32, 39, 38, 102, 59, 39, 62, 93, 62] := by decide +kernel
  rw [hE, e1, e2, T_app, T_app, T_app]
  congr 1
  unfold teH
  simp
theorem te_okH {l E : List Nat} (hl : okL l) (hE : okL E) : okL (teH l E) := by
  have h1 : okL [60, 33, 68, 79, 67, 84, 89, 80, 69, 32, 97, 32, 91, 60, 33, 69, 78, 84, 73, 84, 89, 32, 102, 32, 39] := by unfold okL; decide +kernel
  have h2 : okL [39, 62, 60, 33, 69, 78, 84, 73, 84, 89, 32, 101, 32, 39, 38, 102, 59, 39, 62, 93, 62] := by unfold okL; decide +kernel
  have e : teH l E = [60, 33, 68, 79, 67, 84, 89, 80, 69, 32, 97, 32, 91, 60, 33, 69, 78, 84, 73, 84, 89, 32, 102, 32, 39] ++ (l ++ ([39, 62, 60, 33, 69, 78, 84, 73, 84, 89, 32, 101, 32, 39, 38, 102, 59, 39, 62, 93, 62] ++ E)) := by unfold teH; simp
  rw [e]
  exact teApp h1 (teApp hl (teApp h2 hE))
theorem te_sz {l E : List Nat} : (T (teH l E)).size = 46 + (tx l).length + (tx E).length := by
  have e : teH l E = [60, 33, 68, 79, 67, 84, 89, 80, 69, 32, 97, 32, 91, 60, 33, 69, 78, 84, 73, 84, 89, 32, 102, 32, 39] ++ (l ++ ([39, 62, 60, 33, 69, 78, 84, 73, 84, 89, 32, 101, 32, 39, 38, 102, 59, 39, 62, 93, 62] ++ E)) := by unfold teH; simp
  rw [T_size, e, tx_append, tx_append, tx_append, List.length_append, List.length_append, List.length_append]
  have e1 : (tx [60, 33, 68, 79, 67, 84, 89, 80, 69, 32, 97, 32, 91, 60, 33, 69, 78, 84, 73, 84, 89, 32, 102, 32, 39]).length = 25 := by decide +kernel
  have e2 : (tx [39, 62, 60, 33, 69, 78, 84, 73, 84, 89, 32, 101, 32, 39, 38, 102, 59, 39, 62, 93, 62]).length = 21 := by decide +kernel
  omega
/-- Both documents have one tree of three nodes. -/
structure TePair (D1 D2 : ByteArray) : Prop where
  ex : ∃ c1 c2 ns, D1 = T c1 ∧ D2 = T c2 ∧ okL c1 ∧ okL c2 ∧ (T c1).size ≤ 32768 ∧ (T c2).size ≤ 32768 ∧ parseD c1 = .ok ns ∧ parseD c2 = .ok ns ∧ ns.length = 3
theorem te_treeA (l : List Nat) : ∃ ns, treeD (teA l) = .ok ns ∧ ns.length = 3 := ⟨_, rfl, rfl⟩
theorem te_treeB (l : List Nat) : ∃ ns, treeD (teB l) = .ok ns ∧ ns.length = 3 := ⟨_, rfl, rfl⟩
theorem te_pairA {l : List Nat} (h : TeS l) (hl : okL l) (hz : (tx l).length ≤ 2000) : TePair ((⟨#[60, 33, 68, 79, 67, 84, 89, 80, 69, 32, 97, 32, 91, 60, 33, 69, 78, 84, 73, 84, 89, 32, 102, 32, 39]⟩ : ByteArray) ++ T l ++ (⟨#[39, 62, 60, 33, 69, 78, 84, 73, 84, 89, 32, 101, 32, 39, 38, 102, 59, 39, 62, 93, 62]⟩ : ByteArray) ++ (⟨#[60, 97, 62, 120, 38, 101, 59, 121, 60, 47, 97, 62]⟩ : ByteArray)) ((⟨#[60, 97, 62, 120]⟩ : ByteArray) ++ T l ++ (⟨#[121, 60, 47, 97, 62]⟩ : ByteArray)) := by
  obtain ⟨ns, h1, h2⟩ := te_treeA l
  have p1 : (⟨#[60, 97, 62, 120]⟩ : ByteArray) = T [60, 97, 62, 120] := by decide +kernel
  have p2 : (⟨#[121, 60, 47, 97, 62]⟩ : ByteArray) = T [121, 60, 47, 97, 62] := by decide +kernel
  have e1 : (tx [60, 97, 62, 120, 38, 101, 59, 121, 60, 47, 97, 62]).length = 12 := by decide +kernel
  have o1 : okL [60, 97, 62, 120] := by unfold okL; decide +kernel
  have o2 : okL [121, 60, 47, 97, 62] := by unfold okL; decide +kernel
  have d2 : (⟨#[60, 97, 62, 120]⟩ : ByteArray) ++ T l ++ (⟨#[121, 60, 47, 97, 62]⟩ : ByteArray) = T (60 :: 97 :: 62 :: 120 :: (l ++ [121, 60, 47, 97, 62])) := by
    rw [p1, p2, T_app, T_app]
    congr 1
  have z2 : (T (60 :: 97 :: 62 :: 120 :: (l ++ [121, 60, 47, 97, 62]))).size ≤ 32768 := by
    rw [T_size, show 60 :: 97 :: 62 :: 120 :: (l ++ [121, 60, 47, 97, 62]) = [60, 97, 62, 120] ++ (l ++ [121, 60, 47, 97, 62]) from rfl, tx_append, tx_append, List.length_append, List.length_append]
    have a1 : (tx [60, 97, 62, 120]).length = 4 := by decide +kernel
    have a2 : (tx [121, 60, 47, 97, 62]).length = 5 := by decide +kernel
    omega
  refine ⟨_, _, ns, te_bytes l [60, 97, 62, 120, 38, 101, 59, 121, 60, 47, 97, 62] _ (by decide +kernel), d2, te_okH hl (by unfold okL; decide +kernel), teApp o1 (teApp hl o2), by rw [te_sz]; omega, z2, ?_, ?_, h2⟩
  · unfold parseD
    rw [te_1a h (by omega)]
    exact h1
  · unfold parseD
    rw [te_2a h]
    exact h1
theorem te_pairB {l : List Nat} (h : TeS l) (hl : okL l) (hz : (tx l).length ≤ 2000) : TePair ((⟨#[60, 33, 68, 79, 67, 84, 89, 80, 69, 32, 97, 32, 91, 60, 33, 69, 78, 84, 73, 84, 89, 32, 102, 32, 39]⟩ : ByteArray) ++ T l ++ (⟨#[39, 62, 60, 33, 69, 78, 84, 73, 84, 89, 32, 101, 32, 39, 38, 102, 59, 39, 62, 93, 62]⟩ : ByteArray) ++ (⟨#[60, 97, 32, 98, 61, 39, 38, 101, 59, 38, 101, 59, 39, 47, 62]⟩ : ByteArray)) ((⟨#[60, 97, 32, 98, 61, 39]⟩ : ByteArray) ++ T l ++ T l ++ (⟨#[39, 47, 62]⟩ : ByteArray)) := by
  obtain ⟨ns, h1, h2⟩ := te_treeB (l ++ l)
  have p1 : (⟨#[60, 97, 32, 98, 61, 39]⟩ : ByteArray) = T [60, 97, 32, 98, 61, 39] := by decide +kernel
  have p2 : (⟨#[39, 47, 62]⟩ : ByteArray) = T [39, 47, 62] := by decide +kernel
  have e1 : (tx [60, 97, 32, 98, 61, 39, 38, 101, 59, 38, 101, 59, 39, 47, 62]).length = 15 := by decide +kernel
  have o1 : okL [60, 97, 32, 98, 61, 39] := by unfold okL; decide +kernel
  have o2 : okL [39, 47, 62] := by unfold okL; decide +kernel
  have d2 : (⟨#[60, 97, 32, 98, 61, 39]⟩ : ByteArray) ++ T l ++ T l ++ (⟨#[39, 47, 62]⟩ : ByteArray) = T (60 :: 97 :: 32 :: 98 :: 61 :: 39 :: ((l ++ l) ++ [39, 47, 62])) := by
    rw [p1, p2, T_app, T_app, T_app]
    congr 1
    try simp
  have z2 : (T (60 :: 97 :: 32 :: 98 :: 61 :: 39 :: ((l ++ l) ++ [39, 47, 62]))).size ≤ 32768 := by
    rw [T_size, show 60 :: 97 :: 32 :: 98 :: 61 :: 39 :: ((l ++ l) ++ [39, 47, 62]) = [60, 97, 32, 98, 61, 39] ++ ((l ++ l) ++ [39, 47, 62]) from rfl, tx_append, tx_append, tx_append, List.length_append, List.length_append, List.length_append]
    have a1 : (tx [60, 97, 32, 98, 61, 39]).length = 6 := by decide +kernel
    have a2 : (tx [39, 47, 62]).length = 3 := by decide +kernel
    omega
  refine ⟨_, _, ns, te_bytes l [60, 97, 32, 98, 61, 39, 38, 101, 59, 38, 101, 59, 39, 47, 62] _ (by decide +kernel), d2, te_okH hl (by unfold okL; decide +kernel), teApp o1 (teApp (teApp hl hl) o2), by rw [te_sz]; omega, z2, ?_, ?_, h2⟩
  · unfold parseD
    rw [te_1b h (by omega)]
    exact h1
  · unfold parseD
    rw [te_2b (h.app h)]
    exact h1
set_option maxRecDepth 100000 in
set_option maxHeartbeats 4000000 in
theorem entities_walk (s : ByteArray) (attr : Bool) (w : World) (hs : s.size ≤ 9223372036854775807) (hE : XEnv w.heap.size w) :
    Calls Tryz.prog 4 #[.string s, .bool attr] w fun e w' => e = .returned (.bool true) ∧ Below w.heap.size w w' := by
  have HE := hide hE
  clear hE
  go_enter Tryz.func4, Tryz.ntmps4
  go_wp2_with fail
  go_loopw [5] (fun i wr => ∃ k : Nat, i = .int .i64 (k : Nat) ∧ wr = w ∧ Hid (TeAt s k)) (fun i _ => s.size - (intOf i).toNat)
  case atStart => exact ⟨0, rfl, rfl, hide ⟨Nat.zero_le _, fun j hj => by omega⟩⟩
  case round =>
    obtain ⟨k, rfl, rfl, hk⟩ := hrel
    by_cases hlt : k < s.size
    · obtain ⟨C, hC⟩ : ∃ C : Nat, (s.get! k).toNat = C := ⟨_, rfl⟩
      have hix : ∀ W, (Instr.index 9 (.string s) (.int .i64 (k : Int))).run Tryz.prog W = .ok (.int .u8 (C : Int)) W := fun W => by
        rw [run_index_string W 9 s .i64 _ Tryz.underlying9, dif_pos ⟨by omega, by omega⟩, ← hC]
        have e := get_at s k hlt
        have e2 : s.data.toList[k]? = some (s[k]'hlt) := Lib.data_getElem? s k hlt
        rw [e2] at e
        rw [← Option.some.inj e]
        rfl
      have n2 : (k : Int) < (s.size : Int) := by omega
      have HK1 : goodT C → Hid (TeAt s (k + 1)) := fun hg => hide ⟨hlt, fun j hj => by
        by_cases e : j = k
        · subst e
          rw [hC]
          exact hg
        · exact (unhide hk).good j (by omega)⟩
      clear hC
      have hcases : (97 ≤ C ∧ C ≤ 122) ∨ (97 ≤ C ∧ 122 < C) ∨ (C < 97 ∧ 57 < C) ∨ (48 ≤ C ∧ C ≤ 57) ∨ (C < 48 ∧ C = 32) ∨ (C < 48 ∧ C ≠ 32) := by omega
      rcases hcases with hcc | hcc | hcc | hcc | hcc | hcc
      · have i0 : (97 : Int) ≤ (C : Int) := by omega
        have i1 : (C : Int) ≤ 122 := by omega
        have HK2 := HK1 (by unfold goodT; omega)
        clear HK1 hcc
        go_wp2_with fail
        try go_quiet (fail)
        try go_wp2_with fail
        go_round
        case measure => simp [intOf]; omega
        case rel => exact ⟨k + 1, by simp, trivial, HK2⟩
      · have i0 : (97 : Int) ≤ (C : Int) := by omega
        have i1 : ¬ (C : Int) ≤ 122 := by omega
        have i2 : (48 : Int) ≤ (C : Int) := by omega
        have i3 : ¬ (C : Int) ≤ 57 := by omega
        have i4 : ((C : Int) == 32) = false := by simp; omega
        clear HK1 hcc
        go_wp2_with fail
        try go_quiet (fail)
        try go_wp2_with fail
        go_returns
        exact ⟨rfl, Below.refl _ _⟩
      · have i0 : ¬ (97 : Int) ≤ (C : Int) := by omega
        have i1 : (48 : Int) ≤ (C : Int) := by omega
        have i2 : ¬ (C : Int) ≤ 57 := by omega
        have i3 : ((C : Int) == 32) = false := by simp; omega
        clear HK1 hcc
        go_wp2_with fail
        try go_quiet (fail)
        try go_wp2_with fail
        go_returns
        exact ⟨rfl, Below.refl _ _⟩
      · have i0 : ¬ (97 : Int) ≤ (C : Int) := by omega
        have i1 : (48 : Int) ≤ (C : Int) := by omega
        have i2 : (C : Int) ≤ 57 := by omega
        have HK2 := HK1 (by unfold goodT; omega)
        clear HK1 hcc
        go_wp2_with fail
        try go_quiet (fail)
        try go_wp2_with fail
        go_round
        case measure => simp [intOf]; omega
        case rel => exact ⟨k + 1, by simp, trivial, HK2⟩
      · have i0 : ¬ (97 : Int) ≤ (C : Int) := by omega
        have i1 : ¬ (48 : Int) ≤ (C : Int) := by omega
        have i2 : ((C : Int) == 32) = true := by simp; omega
        have HK2 := HK1 (by unfold goodT; omega)
        clear HK1 hcc
        go_wp2_with fail
        try go_quiet (fail)
        try go_wp2_with fail
        go_round
        case measure => simp [intOf]; omega
        case rel => exact ⟨k + 1, by simp, trivial, HK2⟩
      · have i0 : ¬ (97 : Int) ≤ (C : Int) := by omega
        have i1 : ¬ (48 : Int) ≤ (C : Int) := by omega
        have i2 : ((C : Int) == 32) = false := by simp; omega
        clear HK1 hcc
        go_wp2_with fail
        try go_quiet (fail)
        try go_wp2_with fail
        go_returns
        exact ⟨rfl, Below.refl _ _⟩
    · have n2 : ¬ (k : Int) < (s.size : Int) := by omega
      by_cases hz : 2000 < s.size
      · have hz' : (2000 : Int) < (s.size : Int) := by omega
        go_wp2
        go_returns
        exact ⟨rfl, Below.refl _ _⟩
      have hz' : ¬ (2000 : Int) < (s.size : Int) := by omega
      obtain ⟨l, hS, hl, rfl, hlen⟩ := te_list s (fun j hj => (unhide hk).good j (by omega))
      cases attr
      · have HP := hide (te_pairA hS hl (by omega))
        clear hS hl hlt hk hlen
        have hsz : (T l).size ≤ 2000 := by omega
        obtain ⟨c1, c2, ns, e1, e2, o1, o2, z1, z2, p1, p2, hn3⟩ := (unhide HP).ex
        have HD1 := hide e1
        have HD2 := hide e2
        have hok := parse_ok2 o1 z1 p1
        have HNL := hide hok.len
        have HN3 := hide hn3
        have HPA := hide (parse_T c1 wr o1 z1 (unhide HE))
        have HPB := hide (fun W (hb : Below wr.heap.size wr W) => parse_T c2 W o2 z2 ((unhide HE).at hb))
        rw [p1] at HPA
        rw [p2] at HPB
        clear e1 e2 o1 o2 z1 z2 p1 p2 hn3 hok HP
        generalize T l = s at *
        go_wp2_with fail
        rw [unhide HD1]
        refine (unhide HPA).mono ?_
        rintro e w1 ⟨⟨q1, rfl, hT1⟩, hb1⟩
        have hTV1 : TreeV _ _ (.pointer (some ⟨q1, 0, none⟩)) ns := .inr ⟨q1, rfl, hT1⟩
        have HTV1 := hide hTV1
        have hc := unhide HPB w1 hb1
        clear HPA HPB hT1 hTV1
        go_wp2_with fail
        rw [unhide HD2]
        refine hc.mono ?_
        rintro e w2 ⟨⟨q2, rfl, hT2⟩, hb2⟩
        have hTV2 : TreeV _ _ (.pointer (some ⟨q2, 0, none⟩)) ns := .inr ⟨q2, rfl, hT2⟩
        have HTV2 := hide hTV2
        have hTV1 := (unhide HTV1).on hb2
        have HN1 := hide (nodes_any _ _ _ w2 hTV1 (unhide HNL))
        have HN2 := hide (fun W (hb : Below w2.heap.size w2 W) => nodes_any _ _ _ W ((unhide HTV2).on hb) (unhide HNL))
        have HLn := hide (fun W (hb : Below w2.heap.size w2 W) => len_any _ _ _ W (hTV1.on hb))
        rw [unhide HN3] at HLn
        clear hc hT2 hTV2 hTV1
        go_wp2_with fail
        refine (unhide HN1).mono ?_
        rintro e w3 ⟨⟨u1, rfl, hA1⟩, hb3⟩
        have hc := unhide HN2 w3 hb3
        go_wp2_with fail
        refine hc.mono ?_
        rintro e w4 ⟨⟨u2, rfl, hA2⟩, hb4⟩
        have hal := alike_any _ _ u1 u2 ns w4 (hA1.on hb4) hA2 (unhide HNL)
        go_wp2_with fail
        refine hal.mono ?_
        rintro e w5 ⟨rfl, hb5⟩
        have hc := unhide HLn w5 (Below.then (Below.then hb3 hb4) hb5)
        go_wp2_with fail
        refine hc.mono ?_
        rintro e w6 ⟨rfl, hb6⟩
        go_wp2
        go_returns
        exact ⟨rfl, Below.then hb1 (Below.then hb2 (Below.then (Below.then (Below.then hb3 hb4) hb5) hb6))⟩
      · have HP := hide (te_pairB hS hl (by omega))
        clear hS hl hlt hk hlen
        have hsz : (T l).size ≤ 2000 := by omega
        obtain ⟨c1, c2, ns, e1, e2, o1, o2, z1, z2, p1, p2, hn3⟩ := (unhide HP).ex
        have HD1 := hide e1
        have HD2 := hide e2
        have hok := parse_ok2 o1 z1 p1
        have HNL := hide hok.len
        have HN3 := hide hn3
        have HPA := hide (parse_T c1 wr o1 z1 (unhide HE))
        have HPB := hide (fun W (hb : Below wr.heap.size wr W) => parse_T c2 W o2 z2 ((unhide HE).at hb))
        rw [p1] at HPA
        rw [p2] at HPB
        clear e1 e2 o1 o2 z1 z2 p1 p2 hn3 hok HP
        generalize T l = s at *
        go_wp2_with fail
        rw [unhide HD1]
        refine (unhide HPA).mono ?_
        rintro e w1 ⟨⟨q1, rfl, hT1⟩, hb1⟩
        have hTV1 : TreeV _ _ (.pointer (some ⟨q1, 0, none⟩)) ns := .inr ⟨q1, rfl, hT1⟩
        have HTV1 := hide hTV1
        have hc := unhide HPB w1 hb1
        clear HPA HPB hT1 hTV1
        go_wp2_with fail
        rw [unhide HD2]
        refine hc.mono ?_
        rintro e w2 ⟨⟨q2, rfl, hT2⟩, hb2⟩
        have hTV2 : TreeV _ _ (.pointer (some ⟨q2, 0, none⟩)) ns := .inr ⟨q2, rfl, hT2⟩
        have HTV2 := hide hTV2
        have hTV1 := (unhide HTV1).on hb2
        have HN1 := hide (nodes_any _ _ _ w2 hTV1 (unhide HNL))
        have HN2 := hide (fun W (hb : Below w2.heap.size w2 W) => nodes_any _ _ _ W ((unhide HTV2).on hb) (unhide HNL))
        have HLn := hide (fun W (hb : Below w2.heap.size w2 W) => len_any _ _ _ W (hTV1.on hb))
        rw [unhide HN3] at HLn
        clear hc hT2 hTV2 hTV1
        go_wp2_with fail
        refine (unhide HN1).mono ?_
        rintro e w3 ⟨⟨u1, rfl, hA1⟩, hb3⟩
        have hc := unhide HN2 w3 hb3
        go_wp2_with fail
        refine hc.mono ?_
        rintro e w4 ⟨⟨u2, rfl, hA2⟩, hb4⟩
        have hal := alike_any _ _ u1 u2 ns w4 (hA1.on hb4) hA2 (unhide HNL)
        go_wp2_with fail
        refine hal.mono ?_
        rintro e w5 ⟨rfl, hb5⟩
        have hc := unhide HLn w5 (Below.then (Below.then hb3 hb4) hb5)
        go_wp2_with fail
        refine hc.mono ?_
        rintro e w6 ⟨rfl, hb6⟩
        go_wp2
        go_returns
        exact ⟨rfl, Below.then hb1 (Below.then hb2 (Below.then (Below.then (Below.then hb3 hb4) hb5) hb6))⟩
end Go.Proofs.YtiembljlhmgpjaaGreatDoor
/- From what a row lists of the library's tables, and from the world's shape, to what the walks of layer 3 ask. -/
namespace Go.Proofs.YtiembljlhmgpjaaGreatDoor
open Go.ChangeShapes Go.WideShapes Go.ChangeAt Go.RowKit
theorem u8extra : U8Extra Tryz.prog Tryz.lays260_ren where
  n3 := by kernel_rfl
  n4 := by kernel_rfl
  y3 := by kernel_rfl
  y4 := by kernel_rfl
  c5 := by kernel_rfl
  c119 := by kernel_rfl
  c138 := by kernel_rfl
theorem first_data : Rows.laid_unicode_utf8_first = Lib.firstData := by kernel_rfl
theorem accept_data : Rows.laid_unicode_utf8_acceptRanges = Lib.acceptData := by kernel_rfl
def foldTab : List Int := [0, 1, 2, 3, 4, 5, 6, 7, 8, 9, 10, 11, 12, 13, 14, 15, 16, 17, 18, 19, 20, 21, 22, 23, 24, 25, 26, 27, 28, 29, 30, 31, 32, 33, 34, 35, 36, 37, 38, 39, 40, 41, 42, 43, 44, 45, 46, 47, 48, 49, 50, 51, 52, 53, 54, 55, 56, 57, 58, 59, 60, 61, 62, 63, 64, 97, 98, 99, 100, 101, 102, 103, 104, 105, 106, 107, 108, 109, 110, 111, 112, 113, 114, 115, 116, 117, 118, 119, 120, 121, 122, 91, 92, 93, 94, 95, 96, 65, 66, 67, 68, 69, 70, 71, 72, 73, 74, 8490, 76, 77, 78, 79, 80, 81, 82, 383, 84, 85, 86, 87, 88, 89, 90, 123, 124, 125, 126, 127]
theorem fold_data : (Rows.laid_unicode_asciiFold : DataW Unit) = Lib.tabData .u16 foldTab := by kernel_rfl
theorem xTab_of {P : Program} {W : World} {name : String} {k : IntKind} {zs : List Int} {g : Nat} {t e : TypeId} {n : Nat} (hg : P.globalNamed name = some g) (hty : (P.globals[g]?).map (·.type) = some t) (ht : P.underlying t = some (.array n e)) (he : P.underlying e = some (.int k)) (hce : P.cellsOf e = 1) (hct : P.cellsOf t = n) (h : Lib.VarReads P W name (Lib.tabData k zs)) (j : Nat) : W.cell? ⟨g, j, none⟩ = (zs.map fun z => Value.int k z)[j]? := by
  obtain ⟨g', t', cs, fuel, p, hg', ht', hvar, hd⟩ := h
  obtain rfl := Option.some.inj (hg.symm.trans hg')
  obtain rfl := Option.some.inj (hty.symm.trans ht')
  rw [World.var?_cell hg hvar j, ← Lib.cells_of_tab ht he hce hct hd]
  simp
theorem env_of {W : World} (hM : laidMet Tryz.prog [("unicode/utf8.acceptRanges", Rows.laid_unicode_utf8_acceptRanges), ("unicode.asciiFold", Rows.laid_unicode_asciiFold), ("unicode.caseOrbit", Rows.laid_unicode_caseOrbit), ("unicode.CaseRanges", Rows.laid_unicode_CaseRanges), ("unicode/utf8.first", Rows.laid_unicode_utf8_first)] W) (hs : W.ShapedOpen Tryz.prog) : XEnv W.heap.size W := by
  have h3 := Lib.laidMet.reads hM (n := "unicode/utf8.first") (d := Rows.laid_unicode_utf8_first) (by simp)
  have h4 := Lib.laidMet.reads hM (n := "unicode/utf8.acceptRanges") (d := Rows.laid_unicode_utf8_acceptRanges) (by simp)
  have h5 := Lib.laidMet.reads hM (n := "unicode.asciiFold") (d := Rows.laid_unicode_asciiFold) (by simp)
  rw [first_data] at h3
  rw [accept_data] at h4
  rw [fold_data] at h5
  have ht := utf8Tabs_of_reads Tryz.lays260 u8extra h3 h4
  have hf := xTab_of (g := 2) (t := 192) (e := 191) (n := 128) (by kernel_rfl) (by kernel_rfl) (by kernel_rfl) Tryz.underlying191 (by kernel_rfl) (by kernel_rfl) h5
  obtain ⟨m, hm⟩ : ∃ m, W.cell? ⟨5, 0, none⟩ = some (.int .i64 m) := cell_of_shapedOpen_int (zero := #[.int .i64 0]) (t := 3) hs (of_decide_eq_true (by kernel_rfl)) (by kernel_rfl) rfl (by kernel_rfl) (by kernel_rfl) Tryz.underlying3
  have fx : W.cell? ⟨2, 120, none⟩ = some (.int .u16 88) := (hf 120).trans rfl
  refine ⟨⟨⟨m, hm⟩, ht⟩, fx, (hf 109).trans rfl, (hf 108).trans rfl, (hf 88).trans rfl, (hf 77).trans rfl, (hf 76).trans rfl, block_lt_of_cell hm, ?_, ?_, block_lt_of_cell fx⟩
  · exact block_lt_of_cell (ht.1 0 (by decide))
  · exact block_lt_of_cell (ht.2 0 (by decide)).1
theorem own : ownKnob Tryz.prog.godebug = none := by kernel_rfl
end Go.Proofs.YtiembljlhmgpjaaGreatDoor
