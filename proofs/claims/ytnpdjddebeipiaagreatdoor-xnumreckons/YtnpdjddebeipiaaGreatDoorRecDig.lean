/- The reference's digits: stencilref02's digits and whole. -/
import Derived.Test.YtnpdjddebeipiaaGreatDoorNumSmall
import Derived.Deep.AppendLies
import Derived.OwnWalk
namespace Go.Proofs.YtnpdjddebeipiaaGreatDoor
open Go.RowKit
/-- A number's digits, the lowest first. -/
def digsL (n : Nat) : List Nat := if n = 0 then [] else n % 10 :: digsL (n / 10)
termination_by n
decreasing_by omega
theorem digsL_zero : digsL 0 = [] := by rw [digsL]; rfl
theorem digsL_pos (n : Nat) (h : 0 < n) : digsL n = n % 10 :: digsL (n / 10) := by
  rw [digsL, if_neg (by omega)]
/-- What digits are, the lowest first. -/
def valD : List Nat → Nat
  | [] => 0
  | d :: l => d + 10 * valD l
theorem valD_digs (n : Nat) : valD (digsL n) = n := by
  induction n using Nat.strongRecOn with
  | ind n ih =>
    by_cases h : n = 0
    · subst h
      rw [digsL_zero]
      rfl
    · rw [digsL_pos n (by omega), valD, ih (n / 10) (by omega)]
      omega
theorem digs_low (n : Nat) : ∀ d ∈ digsL n, d < 10 := by
  induction n using Nat.strongRecOn with
  | ind n ih =>
    intro d hd
    by_cases h : n = 0
    · subst h
      rw [digsL_zero] at hd
      cases hd
    · rw [digsL_pos n (by omega)] at hd
      rcases List.mem_cons.1 hd with rfl | hd
      · omega
      · exact ih (n / 10) (by omega) d hd
theorem digs_len (n k : Nat) (h : n < 10 ^ k) : (digsL n).length ≤ k := by
  induction k generalizing n with
  | zero =>
    have : n = 0 := by omega
    subst this
    rw [digsL_zero]
    exact Nat.le_refl _
  | succ k ih =>
    by_cases h0 : n = 0
    · subst h0
      rw [digsL_zero]
      exact Nat.zero_le _
    · rw [digsL_pos n (by omega), List.length_cons]
      have := ih (n / 10) (by rw [Nat.pow_succ] at h; omega)
      omega
def intsD (l : List Nat) : List Value := l.map fun k => .int .i64 ((k : Nat) : Int)
theorem intsD_ones (l : List Nat) : ∀ u ∈ intsD l, u.oneCell' = true := by
  intro u hu
  obtain ⟨k, _, rfl⟩ := List.mem_map.1 hu
  rfl
theorem own_on {w w' : World} {base : Nat} {e : TypeId} {size : Nat} {v : Value} {n : Nat} {xs : List Value} (h : w.ownsRow base e size v n xs) (hb : Below w.heap.size w w') : w'.ownsRow base e size v n xs := by
  refine ⟨h.1, ?_⟩
  rcases h.2 with h | ⟨g, cap, cur, h1, h2, h3, h4⟩
  · exact .inl h
  · exact .inr ⟨g, cap, cur, h1, h2, by rw [hb.block g (Array.getElem?_eq_some_iff.1 h3).1]; exact h3, h4⟩
theorem own_low {w : World} {base : Nat} {e : TypeId} {size : Nat} {v : Value} {n : Nat} {xs : List Value} (h : w.ownsRow base e size v n xs) : ∀ k, v.ownBlock = some k → base ≤ k := by
  intro k hk
  rcases h.2 with ⟨rfl, _⟩ | ⟨g, cap, cur, rfl, h2, _⟩
  · simp [Value.ownBlock] at hk
  · simp [Value.ownBlock] at hk; omega
theorem own_form {w : World} {base : Nat} {e : TypeId} {size : Nat} {v : Value} {n : Nat} {xs : List Value} (h : w.ownsRow base e size v n xs) : ∃ a c, v = .slice a n c := by
  rcases h.2 with ⟨rfl, h0⟩ | ⟨g, cap, cur, rfl, _⟩
  · exact ⟨none, 0, by rw [h0]⟩
  · exact ⟨_, _, rfl⟩
theorem infoIntD : (Tryz.prog.info? 3).map (fun i => (i.zero, i.size, i.bytes)) = some (some (.int .i64 0), 1, 8) := by kernel_rfl
/-- What the reference's digits tells. -/
def DigOut (B : Nat) (l : List Nat) (e : Ending) (w' : World) : Prop := ∃ v, e = .returned v ∧ w'.ownsRow B 3 1 v l.length (intsD l)
def valU : Value → Nat
  | .int _ q => q.toNat
  | _ => 0
set_option maxRecDepth 100000 in
set_option maxHeartbeats 2000000 in
theorem refDigits_own (n : Nat) (w : World) (hn : n < 18446744073709551616) :
    Calls Tryz.prog 36 #[.int .u64 (n : Int)] w fun e w' => DigOut w.heap.size (digsL n) e w' ∧ Below w.heap.size w w' := by
  obtain ⟨iI, z1, z2, z3, z4⟩ := info_parts infoIntD
  have HZ := hide (And.intro z1 (And.intro z2 (And.intro z3 z4)))
  clear z1 z2 z3 z4
  go_enter Tryz.func36, Tryz.ntmps36
  go_wp2_with fail
  go_loopw [0, 3] (fun vn vo wr => ∃ (m : Nat) (ds : List Nat), vn = .int .u64 (m : Int) ∧ m < 18446744073709551616 ∧ Hid (digsL n = ds ++ digsL m) ∧ Hid (wr.ownsRow w.heap.size 3 1 vo ds.length (intsD ds)) ∧ Below w.heap.size w wr) (fun vn _ _ => valU vn)
  case atStart => exact ⟨n, [], rfl, hn, hide rfl, hide (World.ownsRow_nil _ _ _ _), Below.refl _ _⟩
  case round =>
    obtain ⟨m, ds, rfl, hm, hD, hO, hbr⟩ := hrel
    have hdl : ds.length ≤ 20 := by
      have h1 := digs_len n 20 (by omega)
      rw [unhide hD, List.length_append] at h1
      omega
    by_cases h0 : 0 < m
    · have h0' : (0 : Int) < (m : Int) := by omega
      have e1 : ((m : Int)).tmod 10 = ((m % 10 : Nat) : Int) := by rw [Int.tmod_eq_emod_of_nonneg (by omega)]; omega
      have e3 : (m : Int) % 10 = ((m % 10 : Nat) : Int) := by omega
      have e4 : (m : Int) / 10 = ((m / 10 : Nat) : Int) := by omega
      have e2 : ((m : Int)).tdiv 10 = ((m / 10 : Nat) : Int) := by rw [Int.tdiv_eq_ediv_of_nonneg (by omega)]; omega
      have HDN := hide (show digsL n = (ds ++ [m % 10]) ++ digsL (m / 10) by rw [unhide hD, digsL_pos m h0, List.append_assoc]; rfl)
      have HM := hide (show (((m / 10 : Nat) : Int)).toNat < ((m : Nat) : Int).toNat by rw [Int.toNat_natCast, Int.toNat_natCast]; omega)
      have HQ := hide (show m / 10 < 18446744073709551616 by omega)
      have hd10 : m % 10 < 10 := by omega
      have HBR := hide hbr
      have hsr := hbr.size
      obtain ⟨z1, z2, z3, z4⟩ := unhide HZ
      clear hbr h0 hm hn
      generalize m % 10 = d at *
      generalize m / 10 = q at *
      go_wp2_with (at_builtin; refine wpList_append_own _ rfl _ _ 45 rfl w.heap.size 3 iI _ 1 8 Tryz.underlying45 z1 z2 z3 z4 rfl (by decide) _ _ _ rfl ((unhide hO).alloc _) ⟨wr.heap.size, 0, none⟩ 1 1 [.int .i64 (d : Int)] rfl rfl (World.news_of_block (cs := #[.int .i64 (d : Int)]) (heap_alloc_new wr _)) (intsD_ones [d]) (by unfold maxLen; omega) (by omega) (by simp; omega) ?_)
      intro v' w5 hown5 hgrow5 _
      have HO5 := hide (show w5.ownsRow w.heap.size 3 1 v' (ds ++ [d]).length (intsD (ds ++ [d])) by
        unfold intsD at hown5 ⊢
        rw [List.map_append, List.length_append]
        exact hown5)
      have HB5 := hide (Below.grown ((unhide HBR).alloc hsr (.cells #[.int .i64 (d : Int)] 3)) hgrow5 (by simp; omega) (own_low (unhide hO)))
      clear hown5 hgrow5
      go_wp2_with fail
      have hwq : IntKind.u64.wrap (q : Int) = (q : Int) := by
        have := unhide HQ
        rw [IntKind.wrap_u64]
        omega
      rw [hwq]
      exact ⟨⟨q, ds ++ [d], rfl, unhide HQ, HDN, HO5, unhide HB5⟩, unhide HM⟩
    · have h0' : ¬ (0 : Int) < (m : Int) := by omega
      have hz : m = 0 := by omega
      have HD2 := hide (show digsL n = ds by rw [unhide hD, hz, digsL_zero, List.append_nil])
      obtain ⟨ao, co, rfl⟩ := own_form (unhide hO)
      have HBR := hide hbr
      clear hbr h0 hz hm hn
      go_wp2_with fail
      go_ret
      exact ⟨⟨_, rfl, by rw [unhide HD2]; exact unhide hO⟩, unhide HBR⟩
end Go.Proofs.YtnpdjddebeipiaaGreatDoor
