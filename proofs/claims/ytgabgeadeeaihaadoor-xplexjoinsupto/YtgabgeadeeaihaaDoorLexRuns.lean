/- The digits, the name that a text begins with: xplex's digitsAhead and nameAhead. -/
import Derived.Test.YtgabgeadeeaihaaDoorLexTx
import Derived.Test.YtgabgeadeeaihaaDoorLexSame
namespace Go.Proofs.YtgabgeadeeaihaaDoor
open Go.RowKit
theorem digsA_stop (p t : List Nat) (c : Nat) (hp : ∀ x ∈ p, digC x = true) (hc : digC c = false) : digsA (p ++ c :: t) = p := digsA_run p (c :: t) hp (fun x hx => by cases hx; exact hc)
theorem digsA_whole (p : List Nat) (hp : ∀ x ∈ p, digC x = true) : digsA p = p := by
  have := digsA_run p [] hp (fun x hx => by cases hx)
  rwa [List.append_nil] at this
set_option maxHeartbeats 1000000 in
theorem digitsAhead_any (l : List Nat) (w : World) (hl : okL l) :
    Calls Tryd.prog 54 #[.string (T l)] w fun e w' => e = .returned (.string (T (digsA l))) ∧ Below w.heap.size w w' := by
  go_enter Tryd.func54, Tryd.ntmps54
  go_wp2_with fail
  go_loopw [] (fun w' => ∃ p t : List Nat, l = p ++ t ∧ (∀ x ∈ p, digC x = true) ∧ w' = w.iter (T l) (tx p).length) (fun w' => (T l).size - w'.iterPos w.heap.size)
  case atStart => exact ⟨[], l, rfl, (fun _ h => by cases h), rfl⟩
  case round =>
    obtain ⟨p, t, hpt, hp, rfl⟩ := hrel
    cases t with
    | nil =>
      have hnx : ∀ ty, (Instr.next (.pointer (some ⟨w.heap.size, 0, none⟩)) true ty).run Tryd.prog (w.iter (T l) (tx p).length) = _ := fun ty => run_next_end w (T l) (tx p).length ty (end_at hpt)
      have HPT := hide hpt
      clear hpt
      go_wp2
      go_ret
      refine ⟨ret_str ?_, (Below.refl _ _).alloc (Nat.le_refl _) _⟩
      rw [unhide HPT, List.append_nil, digsA_whole p hp]
    | cons c t =>
      obtain ⟨hd, hlt, hc, hpos⟩ := dec_at hpt hl
      have hnx : ∀ ty, (Instr.next (.pointer (some ⟨w.heap.size, 0, none⟩)) true ty).run Tryd.prog (w.iter (T l) (tx p).length) = _ := fun ty => run_next_any w (T l) (tx p).length ty hlt
      rw [hd] at hnx
      simp only at hnx
      have HS := hide (tx_snoc p c)
      have HP := hide (pre_at hpt)
      have HPT := hide hpt
      clear hd hpt
      cases hdc : digC c
      · rcases digC_ge hdc with hlo | hhi
        · go_wp2
          go_ret
          refine ⟨ret_str ?_, (Below.refl _ _).alloc (Nat.le_refl _) _⟩
          rw [unhide HP, unhide HPT, digsA_stop p t c hp hdc]
        · go_wp2
          go_ret
          refine ⟨ret_str ?_, (Below.refl _ _).alloc (Nat.le_refl _) _⟩
          rw [unhide HP, unhide HPT, digsA_stop p t c hp hdc]
      · obtain ⟨h1, h2⟩ := digC_lt hdc
        go_wp2
        refine ⟨⟨p ++ [c], t, by rw [unhide HPT]; simp, ?_, by rw [unhide HS]⟩, by simp; omega⟩
        intro x hx
        rcases List.mem_append.1 hx with hx | hx
        · exact hp x hx
        · rw [List.mem_singleton.1 hx]; exact hdc
theorem nameA_one {c : Nat} (h : begC c = true) : nameA [c] = [c] := by rw [nameA, if_pos h]; rfl
theorem nameA_snoc {p : List Nat} {c : Nat} (hp : nameA p = p) (h0 : p ≠ []) (hc : goC c = true) : nameA (p ++ [c]) = p ++ [c] := by
  cases p with
  | nil => exact absurd rfl h0
  | cons a t =>
    rw [nameA] at hp
    by_cases hb : begC a = true
    · rw [if_pos hb] at hp
      have ht : t.takeWhile goC = t := (List.cons.inj hp).2
      show nameA (a :: (t ++ [c])) = a :: (t ++ [c])
      rw [nameA, if_pos hb, List.takeWhile_append_of_pos (fun x hx => all_takeWhile goC t x (by rw [ht]; exact hx)), List.takeWhile_cons_of_pos hc]
      rfl
    · rw [if_neg hb] at hp; cases hp
set_option maxHeartbeats 1000000 in
theorem nameAhead_any (l : List Nat) (w : World) (hl : okL l) :
    Calls Tryd.prog 70 #[.string (T l)] w fun e w' => e = .returned (.string (T (nameA l))) ∧ Below w.heap.size w w' := by
  go_enter Tryd.func70, Tryd.ntmps70
  go_wp2_with fail
  go_loopw [] (fun wr => ∃ p t : List Nat, l = p ++ t ∧ nameA p = p ∧ wr.heap[w.heap.size]? = some (.stringIter (T l) (tx p).length) ∧ Below w.heap.size w wr) (fun wr => (T l).size - wr.iterPos w.heap.size)
  case atStart => exact ⟨[], l, rfl, rfl, World.iter_heap _ _ _, (Below.refl _ _).alloc (Nat.le_refl _) _⟩
  case round =>
    obtain ⟨p, t, hpt, hp, hk, hbr⟩ := hrel
    cases t with
    | nil =>
      have hnx := fun ty => Lib.run_next_end_at (P := Tryd.prog) wr w.heap.size (T l) (tx p).length ty hk (end_at hpt)
      have HPT := hide hpt
      have HP := hide hp
      clear hpt hp hk
      go_wp2
      go_ret
      refine ⟨ret_str ?_, hbr⟩
      rw [unhide HPT, List.append_nil, unhide HP]
    | cons c t =>
      obtain ⟨hd, hlt, hc, hpos⟩ := dec_at hpt hl
      have hnx := fun ty => Lib.run_next_any_at (P := Tryd.prog) wr w.heap.size (T l) (tx p).length ty hk hlt
      rw [hd] at hnx
      simp only at hnx
      have HS := hide (tx_snoc p c)
      have HX := hide (pre_at hpt)
      have HPT := hide hpt
      have HP := hide hp
      have HK := hide hk
      have hbc := begC_eq c hc
      have hgc := goC_eq c hc
      have HB := hide hbc
      have HG := hide hgc
      have H0 : Hid ((tx p).length = 0 ↔ p = []) := hide ⟨fun h => tx_len_zero (okL_left (hpt ▸ hl)) h, fun h => by rw [h]; rfl⟩
      clear hd hpt hp hk hbc hgc
      generalize (tx p).length = n at *
      by_cases hz : n = 0
      · subst hz
        have hp0 := (unhide H0).1 rfl
        cases hb : begC c
        · have HBF := hide hb
          clear hb
          go_wp2_with (go_at_call 72; refine (begins_any _ _).mono ?_; rintro e w1 ⟨rfl, hb1⟩; rw [unhide HB, unhide HBF])
          go_ret
          refine ⟨ret_str ?_, (iter_on (unhide HK) hbr hb1).2⟩
          rw [unhide HPT, hp0, List.nil_append, nameA_no (unhide HBF)]
          rfl
        · have HBT := hide hb
          have HGT := hide (goC_of_beg hb)
          clear hb
          go_wp2_with (first | (go_at_call 72; refine (begins_any _ _).mono ?_; rintro e w1 ⟨rfl, hb1⟩; rw [unhide HB, unhide HBT]) | (go_at_call 73; refine (goesOn_any _ _).mono ?_; rintro e w2 ⟨rfl, hb2⟩; rw [unhide HG, unhide HGT]))
          obtain ⟨q1, q2⟩ := iter_on (unhide HK) hbr (Below.then hb1 hb2)
          refine ⟨⟨p ++ [c], t, by rw [unhide HPT]; simp, by rw [hp0]; exact nameA_one (unhide HBT), by rw [unhide HS, Nat.zero_add]; exact q1, q2⟩, ?_⟩
          rw [iterPos_of q1, iterPos_of (unhide HK)]; omega
      · have hz' : ((n : Int) == 0) = false := by simpa using hz
        have hp0 : p ≠ [] := fun h => hz ((unhide H0).2 h)
        cases hg : goC c
        · have HGF := hide hg
          clear hg
          go_wp2_with (go_at_call 73; refine (goesOn_any _ _).mono ?_; rintro e w2 ⟨rfl, hb2⟩; rw [unhide HG, unhide HGF])
          go_ret
          refine ⟨ret_str ?_, (iter_on (unhide HK) hbr hb2).2⟩
          rw [unhide HX, unhide HPT, nameA_run p (c :: t) (fun x hx => by cases hx; exact unhide HGF) (unhide HP) hp0]
        · have HGT := hide hg
          clear hg
          go_wp2_with (go_at_call 73; refine (goesOn_any _ _).mono ?_; rintro e w2 ⟨rfl, hb2⟩; rw [unhide HG, unhide HGT])
          obtain ⟨q1, q2⟩ := iter_on (unhide HK) hbr hb2
          refine ⟨⟨p ++ [c], t, by rw [unhide HPT]; simp, nameA_snoc (unhide HP) hp0 (unhide HGT), by rw [unhide HS]; exact q1, q2⟩, ?_⟩
          rw [iterPos_of q1, iterPos_of (unhide HK)]; omega
end Go.Proofs.YtgabgeadeeaihaaDoor
