/- What stands in a CDATA section is read as it stands: the law XmlscanCdata. -/
import Derived.Test.YtdlahkbpjodgmabGreatDoorXmlCdP
import Derived.Test.YtdlahkbpjodgmabGreatDoorXmlLive
import Derived.Test.YtdlahkbpjodgmabGreatDoorGr
namespace Go.Proofs.YtdlahkbpjodgmabGreatDoor
open Go.RowKit
theorem XEnv.up {B B' : Nat} {w : World} (h : XEnv B w) (hb : B ≤ B') : XEnv B' w := ⟨h.env, h.x, h.m, h.l, h.X, h.M, h.L, Nat.lt_of_lt_of_le h.g1 hb, Nat.lt_of_lt_of_le h.g2 hb, Nat.lt_of_lt_of_le h.g3 hb, Nat.lt_of_lt_of_le h.g4 hb⟩
theorem XEnv.at {w w' : World} (h : XEnv w.heap.size w) (hb : Below w.heap.size w w') : XEnv w'.heap.size w' := (h.low hb).up hb.size
/-- No end of a section stands in these bytes. -/
def noSec (s : ByteArray) : Prop := ∀ j, j + 3 ≤ s.size → (s.extract j (j + 3)).toList ≠ [93, 93, 62]
theorem noSec_T {l : List Nat} (h : noSec (T l)) : noSign [93, 93, 62] l := by
  intro x y e
  have hz : (tx [93, 93, 62]).length = 3 := by decide +kernel
  have hs : (T l).size = (tx x).length + 3 + (tx y).length := by rw [T_size, e, tx_append, tx_append, List.length_append, List.length_append, hz]
  refine h (tx x).length (by omega) ?_
  rw [Lib.toList_data, ByteArray.data_extract, Array.toList_extract, List.extract_eq_take_drop, T_data, e, List.append_assoc, tx_append, List.drop_left, tx_append, show (tx x).length + 3 - (tx x).length = (tx [93, 93, 62]).length by rw [hz]; omega, List.take_left]
  decide +kernel
def secHead : ByteArray := ⟨#[60, 97, 62, 60, 33, 91, 67, 68, 65, 84, 65, 91]⟩
def secFoot : ByteArray := ⟨#[93, 93, 62, 60, 47, 97, 62]⟩
def cdL (l : List Nat) : List Nat := 60 :: 97 :: 62 :: 60 :: 33 :: 91 :: 67 :: 68 :: 65 :: 84 :: 65 :: 91 :: (l ++ [93, 93, 62, 60, 47, 97, 62])
theorem cd_T (l : List Nat) : secHead ++ T l ++ secFoot = T (cdL l) := by
  have e1 : secHead = T [60, 97, 62, 60, 33, 91, 67, 68, 65, 84, 65, 91] := by decide +kernel
  have e2 : secFoot = T [93, 93, 62, 60, 47, 97, 62] := by decide +kernel
  rw [e1, e2, T_app, T_app]
  rfl
theorem cd_ok {l : List Nat} (h : okL l) : okL (cdL l) := by
  have h1 : okL [60, 97, 62, 60, 33, 91, 67, 68, 65, 84, 65, 91] := by unfold okL; decide +kernel
  have h2 : okL [93, 93, 62, 60, 47, 97, 62] := by unfold okL; decide +kernel
  intro c hc
  have hc' : c ∈ [60, 97, 62, 60, 33, 91, 67, 68, 65, 84, 65, 91] ++ (l ++ [93, 93, 62, 60, 47, 97, 62]) := hc
  rcases List.mem_append.1 hc' with hc' | hc'
  · exact h1 c hc'
  · rcases List.mem_append.1 hc' with hc' | hc'
    · exact h c hc'
    · exact h2 c hc'
theorem cd_size (s : ByteArray) : (secHead ++ s ++ secFoot).size = s.size + 19 := by
  rw [ByteArray.size_append, ByteArray.size_append]
  show 12 + s.size + 7 = _
  omega
theorem cd_txt {s : ByteArray} (h : ¬ Txt s.data.toList) : ¬ Txt (secHead ++ s ++ secFoot).data.toList := by
  intro h1
  apply h
  rw [ByteArray.data_append, ByteArray.data_append, Array.toList_append, Array.toList_append] at h1
  exact txt_mid (a := [60, 97, 62, 60, 33, 91, 67, 68, 65, 84, 65, 91]) (b := [93, 93, 62, 60, 47, 97, 62]) (by decide) (by decide) h1
theorem cd_walk (s : ByteArray) (w : World) (hE : XEnv w.heap.size w) :
    Calls Tryz.prog 4 #[.string (secHead ++ s ++ secFoot)] w fun e w' => ∃ (vt : Value) (er pl : Nat), e = .returned (.tuple #[vt, .int .i64 (er : Nat), .int .i64 (pl : Nat)]) ∧ Below w.heap.size w w' ∧ ∃ n c a, vt = .slice a n c ∧
      (noSec s → (er = 4 ∨ (er = 6 ∧ 30000 < s.size)) ∨ (er = 0 ∧ ∃ l, okL l ∧ s = T l ∧ Toks w' w.heap.size vt (⟨2, [97], [], []⟩ :: (if l = [] then [] else [⟨4, [], [], l⟩]) ++ [⟨7, [97], [], []⟩]))) := by
  by_cases hz : 32768 < (secHead ++ s ++ secFoot).size
  · refine (scan_long _ w hz).mono ?_
    rintro e w' ⟨rfl, rfl⟩
    rw [cd_size] at hz
    exact ⟨_, 6, 0, rfl, Below.refl _ _, 0, 0, none, rfl, fun _ => .inl (.inr ⟨rfl, by omega⟩)⟩
  · by_cases ht : Txt s.data.toList
    · obtain ⟨l, hl, rfl⟩ := txt_T ht
      rw [cd_T] at hz ⊢
      refine (scan_plain (cdL l) w (cd_ok hl) (by omega) hE rfl rfl).mono ?_
      rintro e w' ⟨hp, hb⟩
      by_cases hn : noSec (T l)
      · rw [show scanX (cdL l) = _ from cd_scan l (noSec_T hn)] at hp
        obtain ⟨vt, rfl, hT⟩ := hp
        obtain ⟨g, cap, rfl, _⟩ := toks_at hT (by simp)
        exact ⟨_, 0, 0, rfl, hb, _, _, _, rfl, fun _ => .inr ⟨rfl, l, hl, rfl, hT⟩⟩
      · cases hs : scanX (cdL l) with
        | error x =>
          rw [hs] at hp
          exact ⟨_, x.1, x.2, hp, hb, _, _, _, rfl, fun h => absurd h hn⟩
        | ok ts =>
          rw [hs] at hp
          obtain ⟨vt, rfl, hT⟩ := hp
          obtain ⟨vs, _, h2, _⟩ := hT
          obtain ⟨a, c, rfl⟩ := owns_slice h2
          exact ⟨_, 0, 0, rfl, hb, _, _, _, rfl, fun h => absurd h hn⟩
    · refine (scan_bad _ w (by omega) hE.env (cd_txt ht)).mono ?_
      rintro e w' ⟨⟨at', _, rfl⟩, hb⟩
      exact ⟨_, 4, at', rfl, hb, 0, 0, none, rfl, fun _ => .inl (.inl rfl)⟩
set_option maxRecDepth 100000 in
set_option maxHeartbeats 4000000 in
theorem cdata_walk (s : ByteArray) (w : World) (hs : s.size ≤ 1048576) (hE : XEnv w.heap.size w) :
    Calls Tryz.prog 3 #[.string s] w fun e w' => e = .returned (.bool true) ∧ Below w.heap.size w w' := by
  have HW := hide (cd_walk s w hE)
  have HE := hide hE
  clear hE
  go_enter Tryz.func3, Tryz.ntmps3
  go_wp2_with fail
  refine (unhide HW).mono ?_
  rintro e w1 ⟨vt, er, pl, rfl, hb1, n, c, a, rfl, hO⟩
  have HO := hide hO
  have HL := hide (live_any w1 ((unhide HE).at hb1))
  clear hO HW HE
  go_wp2_with fail
  go_loopg [6] s.size (fun g v6 wr => ∃ i : Nat, i + g = s.size ∧ v6 = .int .i64 (i : Nat) ∧ wr = w1 ∧ ∀ j, j < i → j + 3 ≤ s.size → (s.extract j (j + 3)).toList ≠ [93, 93, 62])
  case atStart => exact ⟨0, by omega, rfl, rfl, fun j hj => by omega⟩
  case round =>
    obtain ⟨i, hig, rfl, rfl, hno⟩ := hrel
    have HNO := hide hno
    have HIG := hide hig
    have hw3 : wrap64 ((i : Int) + 3) = ((i + 3 : Nat) : Int) := by unfold wrap64; omega
    clear hno hig
    by_cases h3 : i + 3 ≤ s.size
    · cases gk with
      | zero => have := unhide HIG; omega
      | succ g =>
        cases hq : (s.extract i (i + 3)).toList == [93, 93, 62]
        · have HQ := hide hq
          go_wp2_with fail
          go_roundg g
          case measure => omega
          case rel =>
            refine ⟨i + 1, by have := unhide HIG; omega, by first | rfl | simp, rfl, fun j hj hz => ?_⟩
            by_cases hji : j = i
            · subst hji
              exact beq_eq_false_iff_ne.1 (unhide HQ)
            · exact unhide HNO j (by omega) hz
        · go_wp2_with fail
          refine (unhide HL).mono ?_
          rintro e w2 ⟨rfl, hb2⟩
          go_wp2
          go_ret
          exact ⟨rfl, hb1.trans (hb2.mono hb1.size)⟩
    · have hN : noSec s := fun j hj => unhide HNO j (by omega) hj
      rcases unhide HO hN with (rfl | ⟨rfl, h30⟩) | ⟨rfl, l, hl, hT, hTk⟩
      · clear hN HNO HO
        go_wp2_with fail
        refine (unhide HL).mono ?_
        rintro e w2 ⟨rfl, hb2⟩
        go_wp2
        go_ret
        exact ⟨rfl, hb1.trans (hb2.mono hb1.size)⟩
      · have h30' : decide ((30000 : Int) < (s.size : Int)) = true := decide_eq_true (by omega)
        clear hN HNO HO
        go_wp2_with fail
        refine (unhide HL).mono ?_
        rintro e w2 ⟨rfl, hb2⟩
        go_wp2
        go_ret
        exact ⟨rfl, hb1.trans (hb2.mono hb1.size)⟩
      · by_cases hl0 : l = []
        · have he : s.toList = [] := by rw [hT]; exact nil_T hl0
          rw [if_pos hl0] at hTk
          obtain ⟨g, cap, hv, _⟩ := toks_at hTk (by decide)
          cases hv
          clear hN HNO HO hTk hT
          go_wp2_with fail
          refine (unhide HL).mono ?_
          rintro e w2 ⟨rfl, hb2⟩
          go_wp2
          go_ret
          exact ⟨rfl, hb1.trans (hb2.mono hb1.size)⟩
        · have he : s.toList.isEmpty = false := by rw [hT]; exact ne_T hl hl0
          rw [if_neg hl0] at hTk
          obtain ⟨g, cap, hv, hcap, _, hg, ht⟩ := toks_at hTk (by simp)
          cases hv
          have t1 := ht 1 _ rfl
          have k0 : wr.cell? ⟨g, 4, none⟩ = some (.int .i64 4) := t1.k
          have k1 : wr.cell? ⟨g, 7, none⟩ = some (.string s) := by rw [hT]; exact t1.x
          have HK0 := hide k0
          have HK1 := hide k1
          clear hN HNO HO hTk hT ht t1 k0 k1
          go_wp2_with fail
          refine (unhide HL).mono ?_
          rintro e w2 ⟨rfl, hb2⟩
          have k0 := keptC hb2 (unhide HK0)
          have k1 := keptC hb2 (unhide HK1)
          go_wp2
          go_ret
          exact ⟨rfl, hb1.trans (hb2.mono hb1.size)⟩
end Go.Proofs.YtdlahkbpjodgmabGreatDoor
