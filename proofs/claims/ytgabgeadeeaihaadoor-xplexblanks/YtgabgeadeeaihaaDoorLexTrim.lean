/- A text without the blanks at its end: the law's trimmed. -/
import Derived.Test.YtgabgeadeeaihaaDoorLexBackPlain
import Derived.Test.YtgabgeadeeaihaaDoorRefBlank
namespace Go.Proofs.YtgabgeadeeaihaaDoor
open Go.RowKit
theorem last_blank {x : List Nat} {c : Nat} (hc : charR (c : Int) = true) {G : ByteArray} (hG : G = T (x ++ [c])) (h : G.size - 1 < G.size) : blankB (wrap32 ((G[G.size - 1]'h).toNat : Int)) = blankC c := by
  have hb : (G[G.size - 1]'h) ∈ runeB c := by
    have hdata : G.data.toList = tx x ++ runeB c := by rw [hG, T_data, tx_append]; simp [tx]
    have hlen : G.size = (tx x).length + (runeB c).length := by
      have := congrArg List.length hdata
      rw [List.length_append] at this
      exact this
    have hpos := runeB_pos hc
    have e : (G[G.size - 1]'h) = G.data.toList[G.size - 1]'(by show G.size - 1 < G.size; exact h) := by simp; rfl
    rw [e]
    have e2 : G.data.toList[G.size - 1]'(by show G.size - 1 < G.size; exact h) = (tx x ++ runeB c)[G.size - 1]'(by rw [← hdata]; show G.size - 1 < G.size; exact h) := by congr 1
    rw [e2, List.getElem_append_right (by omega)]
    exact List.getElem_mem _
  by_cases h1 : c < 128
  · rw [runeB_one h1, List.mem_singleton] at hb
    rw [hb, u8_nat (by omega)]
    have : wrap32 ((c : Nat) : Int) = (c : Int) := by unfold wrap32; omega
    rw [this, blankC_eq]
  · have hh := runeB_high (charR_ok hc) (by omega) _ hb
    have h256 := (G[G.size - 1]'h).toNat_lt
    generalize (G[G.size - 1]'h).toNat = n at *
    have : wrap32 ((n : Nat) : Int) = (n : Int) := by unfold wrap32; omega
    rw [this, blankC_eq]
    unfold blankC
    rw [Bool.eq_iff_iff]
    simp
    omega
theorem cut_last {x : List Nat} {c : Nat} (hc : c < 128) : (T (x ++ [c])).extract 0 ((T (x ++ [c])).size - 1) = T x := by
  have : (T (x ++ [c])).size - 1 = (tx x).length := by
    rw [T_size, tx_snoc, runeB_one hc]; simp
  rw [this]; exact T_pre x [c]
set_option maxHeartbeats 1000000 in
theorem trimmed_any (raw b : List Nat) (w : World) (hl : okL (raw ++ b)) (hs : (T (raw ++ b)).size ≤ 4096) (hb : ∀ c ∈ b, blankC c = true) (a : List Nat) (d : Nat) (hr : raw = a ++ [d]) (hd : blankC d = false) :
    Calls Tryd.prog 16 #[.string (T (raw ++ b))] w fun e w' => e = .returned (.string (T raw)) ∧ w' = w := by
  have HR := hide hr
  have HD := hide hd
  clear hr hd
  go_enter Tryd.func16, Tryd.ntmps16
  go_wp2_with fail
  go_loop [0] (fun s => ∃ G b1, s = .string G ∧ Hid (G = T (raw ++ b1)) ∧ Hid (∀ c ∈ b1, blankC c = true) ∧ Hid (okL (raw ++ b1)) ∧ G.size ≤ 4096) (fun s => match s with | .string G => G.size | _ => 0)
  case atStart => exact ⟨_, b, rfl, hide rfl, hide hb, hide hl, hs⟩
  case round =>
    obtain ⟨G, b1, rfl, HG, HB, HL, hs1⟩ := hrel
    have hne : raw ++ b1 ≠ [] := by rw [unhide HR]; simp
    have hpos : 0 < G.size := by
      have h1 := unhide HG
      have h2 := unhide HL
      rw [h1, T_size]
      exact Nat.pos_of_ne_zero fun h0 => hne (tx_len_zero h2 h0)
    have i1 : (1 : Int) ≤ (G.size : Int) := by omega
    have i2 : (G.size : Int) - 1 < (G.size : Int) := by omega
    have hlb := fun (x : List Nat) (c : Nat) hc hG h => @last_blank x c hc G hG h
    have HLB := hide hlb
    clear hlb hne
    rcases List.eq_nil_or_concat b1 with rfl | ⟨b2, c, rfl⟩
    · have hc : charR (d : Int) = true := (unhide HL) d (by rw [unhide HR]; simp)
      go_wp2_with fail
      refine (refIsBlank_any _ _).mono ?_
      rintro e w1 ⟨rfl, rfl⟩
      rw [unhide HLB a d hc (by rw [unhide HG, List.append_nil, unhide HR]) _, unhide HD]
      go_wp2
      go_ret
      refine ⟨ret_str ?_, rfl⟩
      rw [unhide HG, List.append_nil]
    · rw [List.concat_eq_append] at HG HB HL
      have hbc : blankC c = true := unhide HB c (by simp)
      have hc : charR (c : Int) = true := (unhide HL) c (by simp)
      have hc8 : c < 128 := by rcases blank_four hbc with rfl | rfl | rfl | rfl <;> decide
      have HBC := hide hbc
      clear hbc
      go_wp2_with fail
      refine (refIsBlank_any _ _).mono ?_
      rintro e w1 ⟨rfl, rfl⟩
      rw [unhide HLB (raw ++ b2) c hc (by rw [unhide HG, List.append_assoc]) _, unhide HBC]
      go_wp2
      refine ⟨⟨_, b2, rfl, hide ?_, hide (fun y hy => unhide HB y (by simp [hy])), hide (fun y hy => unhide HL y ?_), ?_⟩, ?_⟩
      · rw [unhide HG, ← List.append_assoc, cut_last hc8]
      · rw [← List.append_assoc]; exact List.mem_append_left _ hy
      · rw [ByteArray.size_extract]; omega
      · simp; omega
end Go.Proofs.YtgabgeadeeaihaaDoor
