/- stencilref07's add and Union: numbers, rising, each once. -/
import Derived.Test.YtppkilblkobkhaaGreatDoorVaIn
import Derived.Lib.AppendZerosOnto
import Derived.Lib.SliceRun
import Derived.Deep.AppendLies
namespace Go.Proofs.YtppkilblkobkhaaGreatDoor
open Go.RowKit
/-- Numbers, rising, each once: just those. -/
def SetL (l : List Int) (P : Int → Prop) : Prop := l.Pairwise (· < ·) ∧ ∀ x, x ∈ l ↔ P x
theorem set_unique {l m : List Int} {P : Int → Prop} (h : SetL l P) (k : SetL m P) : l = m := by
  have nd : ∀ {l : List Int}, l.Pairwise (· < ·) → l.Nodup := fun h => h.imp (fun h => Int.ne_of_lt h)
  have hp : l.Perm m := (List.perm_ext_iff_of_nodup (nd h.1) (nd k.1)).2 fun x => (h.2 x).trans (k.2 x).symm
  exact hp.eq_of_pairwise (fun a b _ _ h1 h2 => by omega) h.1 k.1
theorem set_cong {l : List Int} {P Q : Int → Prop} (h : SetL l P) (e : ∀ x, P x ↔ Q x) : SetL l Q := ⟨h.1, fun x => (h.2 x).trans (e x)⟩
/-- Where a number goes: all behind are above it; it is there already, or all ahead are below. -/
theorem set_in {l : List Int} {P : Int → Prop} {n : Int} (h : SetL l P) (k : Nat) (hk : k ≤ l.length) (hb : ∀ i x, k ≤ i → l[i]? = some x → n < x) (ha : ∀ x, k ≠ 0 → l[k - 1]? = some x → x < n) : SetL (l.take k ++ n :: l.drop k) (fun x => P x ∨ x = n) := by
  have hd : ∀ x ∈ l.drop k, n < x := by
    intro x hx
    obtain ⟨i, hi, e⟩ := List.getElem_of_mem hx
    have e2 : l[k + i]? = some x := by rw [← List.getElem?_drop, List.getElem?_eq_getElem hi, e]
    exact hb (k + i) x (by omega) e2
  have ht : ∀ x ∈ l.take k, x < n := by
    intro x hx
    by_cases h0 : k = 0
    · subst h0; simp at hx
    · have hl : k - 1 < l.length := by omega
      have h1 := ha _ h0 (List.getElem?_eq_getElem hl)
      obtain ⟨i, hi, e⟩ := List.getElem_of_mem hx
      have hi2 : i < k := by simp at hi; omega
      rw [List.getElem_take] at e
      by_cases h2 : i = k - 1
      · subst h2; omega
      · have h3 := List.pairwise_iff_getElem.1 h.1 i (k - 1) (by omega) hl (by omega)
        omega
  have hp := h.1
  rw [← List.take_append_drop k l, List.pairwise_append] at hp
  refine ⟨?_, fun x => ?_⟩
  · rw [List.pairwise_append, List.pairwise_cons]
    refine ⟨hp.1, ⟨hd, hp.2.1⟩, fun a ha' b hb' => ?_⟩
    rcases List.mem_cons.1 hb' with e | hb'
    · rw [e]; exact ht a ha'
    · exact hp.2.2 a ha' b hb'
  · show _ ↔ P x ∨ x = n
    rw [← h.2 x]
    conv => rhs; rw [← List.take_append_drop k l]
    simp only [List.mem_append, List.mem_cons]
    constructor
    · rintro (h | h | h)
      · exact .inl (.inl h)
      · exact .inr h
      · exact .inl (.inr h)
    · rintro ((h | h) | h)
      · exact .inl h
      · exact .inr (.inr h)
      · exact .inr (.inl h)
theorem infoInt : (Tryz.prog.info? 3).map (fun i => (i.zero, i.size, i.bytes)) = some (some (.int .i64 0), 1, 8) := by kernel_rfl
theorem append_noneI (au a : Option Addr) (LL cu c : Nat) (h : LL ≤ cu) (w : World) (ty : TypeId) : (Builtin.append_ #[22, 22] ty #[.slice au LL cu, .slice a 0 c]).run Tryz.prog w = .ok (.slice au LL cu) w := by
  obtain ⟨i0, hi, hz0, hz1, hz2⟩ := info_parts infoInt
  have hu := Tryz.underlying22
  have hsz : ∀ w, (Go.sizeOf 3).run Tryz.prog w = .ok i0.size w := fun w => by simp [Go.sizeOf, typeInfo, hi]
  cases au <;> cases a <;> simp [Builtin.append_, Builtin.lenOf, Builtin.firstCells, run_underlying hu, hsz, h, loadCells, loadCellsFrom, storeCells, Result.andThen]
/-- A row of one's own, of these numbers. -/
abbrev OwnI (w : World) (B : Nat) (v : Value) (l : List Int) : Prop := w.ownsRow B 3 1 v l.length (l.map (Value.int .i64))
theorem ownI_ints {w : World} {B : Nat} {v : Value} {l : List Int} (h : OwnI w B v l) : IntsV w v l := by
  have hc := @World.ownsRow.cells _ _ _ _ _ _ _ h
  rcases h.2 with ⟨rfl, h0⟩ | ⟨g, cap, cur, rfl, h2, h3, h4⟩
  · have e : l = [] := List.length_eq_zero_iff.1 h0
    subst e
    exact ⟨_, _, rfl, Nat.zero_le _, fun h => absurd rfl h⟩
  · refine ⟨_, _, rfl, h4.1, fun _ => ⟨g, 0, rfl, fun i x hx => ?_⟩⟩
    have a0 := hc (g := g) rfl i (.int .i64 x) (by rw [List.getElem?_map, hx]; rfl)
    rw [Addr.add_mid] at a0
    exact a0
theorem ownI_ge {w : World} {B : Nat} {v : Value} {l : List Int} (h : OwnI w B v l) : ∀ k, v.ownBlock = some k → B ≤ k := by
  intro k hk
  rcases h.2 with ⟨rfl, _⟩ | ⟨g, cap, cur, rfl, h2, _⟩
  · simp [Value.ownBlock] at hk
  · simp [Value.ownBlock] at hk; omega
theorem ownI_room {w : World} {B : Nat} {v : Value} {l : List Int} (h : OwnI w B v l) : ∃ a c, v = .slice a l.length c ∧ l.length ≤ c := by
  rcases h.2 with ⟨rfl, h0⟩ | ⟨g, cap, cur, rfl, h2, h3, h4, _⟩
  · exact ⟨_, _, by rw [h0], by omega⟩
  · exact ⟨_, _, rfl, h4⟩
theorem ints_ones (l : List Int) : ∀ u ∈ l.map (Value.int .i64), u.oneCell' = true := by
  intro u hu
  obtain ⟨x, _, rfl⟩ := List.mem_map.1 hu
  rfl
theorem wpList_app_ints {ops : Array Oper} {rest : List Oper} {op : Oper} {A : Act} {Q : Exit → Act → World → Prop} {w : World} (hgd : op.guard = none) (s x : Operand)
    (ho : op.op = .call { callee := .builtin .append, args := #[s, x], argTypes := #[22, 22] }) (B : Nat) (v u : Value) (l m : List Int) (hs : A.eval s = v) (hx : A.eval x = u)
    (hown : OwnI w B v l) (hsrc : IntsV w u m) (hlen : l.length + m.length ≤ 20000000) (hB : B ≤ w.heap.size)
    (h : ∀ v' w', OwnI w' B v' (l ++ m) → w.grownBy w' v.ownBlock → wpList Tryz.prog ops Q rest (A.put op.dst v') w') : wpList Tryz.prog ops Q (op :: rest) A w := by
  obtain ⟨i0, hi, hz0, hz1, hz2⟩ := info_parts infoInt
  obtain ⟨a', c', rfl, hc', hcells⟩ := hsrc
  by_cases hm : m = []
  · subst hm
    obtain ⟨au, cu, rfl, hr⟩ := ownI_room hown
    refine Lib.wpList_append_run w hgd s x _ _ ho _ _ hs hx _ _ (append_noneI au a' l.length cu c' hr w op.type) (h _ w ?_ (World.grownBy.refl _ _))
    rw [List.append_nil]
    exact hown
  · obtain ⟨g, o, rfl, hc⟩ := hcells hm
    refine wpList_append_own w hgd s x 22 ho B 3 i0 (.int .i64 0) 1 8 Tryz.underlying22 hi hz0 hz1 hz2 rfl (by decide) v l.length _ hs hown ⟨g, o, none⟩ m.length c' (m.map (Value.int .i64)) hx (by simp) (fun j y hy => ?_) (ints_ones m) (by unfold maxLen; omega) (by omega) hB (fun v' w' h1 h2 _ => h v' w' ?_ h2)
    · rw [List.getElem?_map] at hy
      cases hj : m[j]? with
      | none => rw [hj] at hy; cases hy
      | some z => rw [hj] at hy; cases hy; rw [Addr.add_mid]; exact hc j z hj
    · unfold OwnI
      rw [List.length_append, List.map_append]
      exact h1
theorem own_blk (a : Option Addr) (n c m c' : Nat) : (Value.slice a n c).ownBlock = (Value.slice a m c').ownBlock := by cases a <;> rfl
theorem ints_none (w : World) (a : Option Addr) (c : Nat) : IntsV w (.slice a 0 c) [] := ⟨a, c, rfl, Nat.zero_le _, fun h => absurd rfl h⟩
theorem ints_slice {w : World} {g o : Nat} {l : List Int} (hA : ∀ i x, l[i]? = some x → w.cell? ⟨g, o + i, none⟩ = some (.int .i64 x)) (k n c : Nat) (hkn : k + n ≤ l.length) (hc : n ≤ c) : IntsV w (.slice (some ⟨g, o + k, none⟩) n c) ((l.drop k).take n) := by
  have e : ((l.drop k).take n).length = n := by rw [List.length_take, List.length_drop]; omega
  refine ⟨_, _, by rw [e], by omega, fun _ => ⟨g, o + k, rfl, fun i x hx => ?_⟩⟩
  rw [List.getElem?_take] at hx
  split at hx
  · rw [List.getElem?_drop] at hx
    rw [Nat.add_assoc]
    exact hA _ x hx
  · cases hx
theorem ints_cell (w : World) (n : Int) : IntsV (w.alloc (.cells #[.int .i64 n] 3)) (.slice (some ⟨w.heap.size, 0, none⟩) 1 1) [n] :=
  ⟨_, _, rfl, Nat.le_refl _, fun _ => ⟨_, 0, rfl, fun i x hx => by
    match i, hx with
    | 0, hx => cases hx; rw [new_cell]; rfl⟩⟩
theorem ownI_on {w w' : World} {B : Nat} {v : Value} {l : List Int} (h : OwnI w B v l) (hb : Below w.heap.size w w') : OwnI w' B v l := by
  refine ⟨h.1, ?_⟩
  rcases h.2 with h | ⟨g, cap, cur, h1, h2, h3, h4⟩
  · exact .inl h
  · exact .inr ⟨g, cap, cur, h1, h2, block_kept h3 hb, h4⟩
set_option maxRecDepth 100000 in
set_option maxHeartbeats 4000000 in
theorem add_set (v : Value) (l : List Int) (P : Int → Prop) (n : Int) (w : World) (hv : IntsV w v l) (hs : SetL l P) (hll : l.length ≤ 9000000) :
    Calls Tryz.prog 20 #[v, .int .i64 n] w fun e w' => (∃ u l', e = .returned u ∧ IntsV w' u l' ∧ SetL l' (fun x => P x ∨ x = n) ∧ l'.length ≤ l.length + 1) ∧ Below w.heap.size w w' := by
  obtain ⟨a, ca, rfl, hca, hA⟩ := hv
  have HA := hide hA
  have HS := hide hs
  clear hA hs
  go_enter Tryz.func20, Tryz.ntmps20
  go_upto_block 0 with fail
  go_cut [5] (fun kv wx => ∃ k : Nat, kv = .int .i64 (k : Nat) ∧ k ≤ l.length ∧ Hid (∀ i x, k ≤ i → l[i]? = some x → n < x) ∧ Hid (∀ x, k ≠ 0 → l[k - 1]? = some x → x ≤ n) ∧ wx = w)
  case first =>
    go_wp2_with fail
    go_loop [5] (fun kv => ∃ k : Nat, kv = .int .i64 (k : Nat) ∧ k ≤ l.length ∧ Hid (∀ i x, k ≤ i → l[i]? = some x → n < x)) (fun kv => (intOf kv).toNat)
    case atStart => exact ⟨l.length, rfl, Nat.le_refl _, hide fun i x hi hx => by have := (List.getElem?_eq_some_iff.1 hx).1; omega⟩
    case round =>
      obtain ⟨k, rfl, hk, HB⟩ := hrel
      by_cases h0 : k = 0
      · subst h0
        go_wp2_with fail
        go_meet
        exact ⟨0, rfl, hk, HB, hide fun x hx => absurd rfl hx, rfl⟩
      · obtain ⟨j, rfl⟩ : ∃ j, k = j + 1 := ⟨k - 1, by omega⟩
        have hkl : j < l.length := by omega
        obtain ⟨g, o, rfl, hA⟩ := unhide HA (by intro e; rw [e] at hkl; cases hkl)
        have c1 := hA j _ (List.getElem?_eq_getElem hkl)
        have HXG : Hid (l[j]? = some l[j]) := hide (List.getElem?_eq_getElem hkl)
        obtain ⟨J, hJ⟩ : ∃ J : Int, ((j + 1 : Nat) : Int) = J := ⟨_, rfl⟩
        have hj1 : J - 1 = (j : Int) := by omega
        have hw1 : wrap64 (J - 1) = (j : Int) := by rw [hj1]; unfold wrap64; omega
        have n1 : (0 : Int) < J := by omega
        have n2 : (0 : Int) ≤ (j : Int) := by omega
        have n3 : (j : Int) < (l.length : Int) := by omega
        have HJ := hide hJ
        have HW1 := hide hw1
        have HLE : Hid (j ≤ l.length) := hide (by omega)
        rw [hJ]
        clear hA hJ hj1
        by_cases he : n < l[j]
        · have HN : Hid (∀ i x, j ≤ i → l[i]? = some x → n < x) := hide fun i x hi hx => by
            by_cases h3 : i = j
            · rw [h3, unhide HXG] at hx
              cases hx
              exact he
            · exact unhide HB i x (by omega) hx
          clear HXG
          generalize l[j] = X at *
          go_wp2_with fail
          exact ⟨⟨j, by rw [unhide HW1], unhide HLE, HN⟩, by rw [unhide HW1, ← unhide HJ]; simp only [intOf]; omega⟩
        · have HN : Hid (∀ x, j + 1 ≠ 0 → l[j + 1 - 1]? = some x → x ≤ n) := hide fun x _ hx => by
            rw [Nat.add_sub_cancel, unhide HXG] at hx
            cases hx
            omega
          clear HXG
          generalize l[j] = X at *
          go_wp2_with fail
          go_meet
          exact ⟨j + 1, by rw [← unhide HJ], hk, HB, HN, rfl⟩
  case rest =>
    obtain ⟨k, rfl, hk, HB, HN, rfl⟩ := hcut
    obtain ⟨i0, hi, hz0, hz1, hz2⟩ := info_parts infoInt
    by_cases hin : ∃ j, k = j + 1 ∧ l[j]? = some n
    · obtain ⟨j, rfl, hx⟩ := hin
      have hkl : j < l.length := by omega
      obtain ⟨g, o, rfl, hA⟩ := unhide HA (by intro e; rw [e] at hkl; cases hkl)
      have c1 := hA j _ hx
      obtain ⟨J, hJ⟩ : ∃ J : Int, ((j + 1 : Nat) : Int) = J := ⟨_, rfl⟩
      have hj1 : J - 1 = (j : Int) := by omega
      have hw1 : wrap64 (J - 1) = (j : Int) := by rw [hj1]; unfold wrap64; omega
      have n1 : (0 : Int) < J := by omega
      have n2 : (0 : Int) ≤ (j : Int) := by omega
      have n3 : (j : Int) < (l.length : Int) := by omega
      have HFIN : Hid (SetL l (fun x => P x ∨ x = n)) := hide (set_cong (unhide HS) fun x => ⟨.inl, fun h => by
        rcases h with h | h
        · exact h
        · rw [h]; exact ((unhide HS).2 n).1 (List.mem_of_getElem? hx)⟩)
      have HINV : Hid (IntsV wc (.slice (some ⟨g, o, none⟩) l.length ca) l) := hide ⟨_, _, rfl, hca, fun _ => ⟨g, o, rfl, hA⟩⟩
      rw [hJ]
      clear hA hJ hj1 hx
      go_wp2
      go_ret
      exact ⟨⟨_, l, rfl, unhide HINV, unhide HFIN, by omega⟩, Below.refl _ _⟩
    · have hlt : ∀ x, k ≠ 0 → l[k - 1]? = some x → x < n := fun x h0 hx => by
        have h1 := unhide HN x h0 hx
        have h2 : x ≠ n := fun e => hin ⟨k - 1, by omega, by rw [hx, e]⟩
        omega
      have HSET := hide (set_in (unhide HS) k hk (unhide HB) hlt)
      have HLT := hide hlt
      clear hin hlt HB HN
      have hnil : OwnI wc wc.heap.size (.slice none 0 0) [] := World.ownsRow_nil _ _ _ _
      by_cases hl0 : l = []
      · subst hl0
        obtain rfl : k = 0 := by simpa using hk
        simp only [List.length_nil, Int.natCast_zero] at *
        cases a with
        | none =>
          go_wp2_with (at_builtin; refine wpList_app_ints rfl _ _ rfl wc.heap.size _ _ [] [] rfl rfl hnil (ints_none _ _ _) (by simp) (Nat.le_refl _) ?_)
          intro v1 w1 hown1 hgrow1
          have hb1 : Below wc.heap.size wc w1 := Below.grown (Below.refl _ _) hgrow1 (Nat.le_refl _) (fun j hj => by cases hj)
          have hbA : Below w1.heap.size w1 (w1.alloc (.cells #[.int .i64 n] 3)) := (Below.refl _ _).alloc (Nat.le_refl _) _
          have HO1 := hide (ownI_on hown1 hbA)
          have HG1 := hide (ownI_ge hown1)
          have HB1 := hide hb1
          have HBA := hide hbA
          obtain ⟨a1, c1', rfl, _⟩ := ownI_room hown1
          have hs1 := hb1.size
          clear hown1 hgrow1 hb1 hbA hnil
          go_wp2_with (at_builtin; refine wpList_app_ints rfl _ _ rfl wc.heap.size _ _ [] [n] rfl rfl (unhide HO1) (ints_cell w1 n) (by simp) (by simp; omega) ?_)
          intro v2 w2 hown2 hgrow2
          have hb2 : Below wc.heap.size wc w2 := Below.grown (Below.then (unhide HB1) (unhide HBA)) hgrow2 (by simp; omega) (fun j hj => unhide HG1 j ((own_blk _ _ _ _ _).trans hj))
          have HO2 := hide hown2
          have HG2 := hide (ownI_ge hown2)
          have HB2 := hide hb2
          obtain ⟨a2, c2, rfl, _⟩ := ownI_room hown2
          have hs2 := hb2.size
          clear hown2 hgrow2 hb2 HO1 HB1 HBA
          go_wp2_with (at_builtin; refine wpList_app_ints rfl _ _ rfl wc.heap.size _ _ [n] [] rfl rfl (unhide HO2) (ints_none _ _ _) (by simp) hs2 ?_)
          all_goals
            intro v3 w3 hown3 hgrow3
            have hb3 : Below wc.heap.size wc w3 := Below.grown (unhide HB2) hgrow3 hs2 (fun j hj => unhide HG2 j ((own_blk _ _ _ _ _).trans hj))
            have HI3 := hide (ownI_ints hown3)
            have HB3 := hide hb3
            clear hown3 hgrow3 hb3
            go_wp2
            go_ret
            exact ⟨⟨_, _, rfl, unhide HI3, unhide HSET, by simp⟩, unhide HB3⟩
        | some x =>
          go_wp2_with (at_builtin; refine wpList_app_ints rfl _ _ rfl wc.heap.size _ _ [] [] rfl rfl hnil (ints_none _ _ _) (by simp) (Nat.le_refl _) ?_)
          intro v1 w1 hown1 hgrow1
          have hb1 : Below wc.heap.size wc w1 := Below.grown (Below.refl _ _) hgrow1 (Nat.le_refl _) (fun j hj => by cases hj)
          have hbA : Below w1.heap.size w1 (w1.alloc (.cells #[.int .i64 n] 3)) := (Below.refl _ _).alloc (Nat.le_refl _) _
          have HO1 := hide (ownI_on hown1 hbA)
          have HG1 := hide (ownI_ge hown1)
          have HB1 := hide hb1
          have HBA := hide hbA
          obtain ⟨a1, c1', rfl, _⟩ := ownI_room hown1
          have hs1 := hb1.size
          clear hown1 hgrow1 hb1 hbA hnil
          go_wp2_with (at_builtin; refine wpList_app_ints rfl _ _ rfl wc.heap.size _ _ [] [n] rfl rfl (unhide HO1) (ints_cell w1 n) (by simp) (by simp; omega) ?_)
          intro v2 w2 hown2 hgrow2
          have hb2 : Below wc.heap.size wc w2 := Below.grown (Below.then (unhide HB1) (unhide HBA)) hgrow2 (by simp; omega) (fun j hj => unhide HG1 j ((own_blk _ _ _ _ _).trans hj))
          have HO2 := hide hown2
          have HG2 := hide (ownI_ge hown2)
          have HB2 := hide hb2
          obtain ⟨a2, c2, rfl, _⟩ := ownI_room hown2
          have hs2 := hb2.size
          clear hown2 hgrow2 hb2 HO1 HB1 HBA
          go_wp2_with (at_builtin; refine wpList_app_ints rfl _ _ rfl wc.heap.size _ _ [n] [] rfl rfl (unhide HO2) (ints_none _ _ _) (by simp) hs2 ?_)
          all_goals
            intro v3 w3 hown3 hgrow3
            have hb3 : Below wc.heap.size wc w3 := Below.grown (unhide HB2) hgrow3 hs2 (fun j hj => unhide HG2 j ((own_blk _ _ _ _ _).trans hj))
            have HI3 := hide (ownI_ints hown3)
            have HB3 := hide hb3
            clear hown3 hgrow3 hb3
            go_wp2
            go_ret
            exact ⟨⟨_, _, rfl, unhide HI3, unhide HSET, by simp⟩, unhide HB3⟩
      · obtain ⟨g, o, rfl, hA⟩ := unhide HA hl0
        have HA2 := hide hA
        have hs1 := ints_slice hA 0 k ca (by omega) (by omega)
        rw [Nat.add_zero, List.drop_zero] at hs1
        have HS1 := hide hs1
        have HNIL := hide hnil
        have e0 : ¬ (k : Int) < 0 := by omega
        have e1 : (0 : Int) ≤ (k : Int) := by omega
        have e2 : (k : Int) ≤ (ca : Int) := by omega
        clear hA hs1 hnil
        by_cases hk0 : k = 0
        · subst hk0
          have HSET0 : Hid (SetL (n :: l) (fun x => P x ∨ x = n)) := hide (by have h := unhide HSET; simpa using h)
          have hl1 : ¬ ca = 0 := by have := List.length_pos_iff.2 hl0; omega
          simp only [Int.natCast_zero] at *
          go_wp2_with (at_builtin; refine wpList_app_ints rfl _ _ rfl wc.heap.size _ _ [] [] rfl rfl (unhide HNIL) (ints_none _ _ _) (by simp) (Nat.le_refl _) ?_)
          intro v1 w1 hown1 hgrow1
          have hb1 : Below wc.heap.size wc w1 := Below.grown (Below.refl _ _) hgrow1 (Nat.le_refl _) (fun j hj => by cases hj)
          have hbA : Below w1.heap.size w1 (w1.alloc (.cells #[.int .i64 n] 3)) := (Below.refl _ _).alloc (Nat.le_refl _) _
          have HO1 := hide (ownI_on hown1 hbA)
          have HG1 := hide (ownI_ge hown1)
          have HB1 := hide hb1
          have HBA := hide hbA
          obtain ⟨a1, c1', rfl, _⟩ := ownI_room hown1
          have hs1 := hb1.size
          clear hown1 hgrow1 hb1 hbA HNIL HS1
          go_wp2_with (at_builtin; refine wpList_app_ints rfl _ _ rfl wc.heap.size _ _ [] [n] rfl rfl (unhide HO1) (ints_cell w1 n) (by simp) (by simp; omega) ?_)
          intro v2 w2 hown2 hgrow2
          have hb2 : Below wc.heap.size wc w2 := Below.grown (Below.then (unhide HB1) (unhide HBA)) hgrow2 (by simp; omega) (fun j hj => unhide HG1 j ((own_blk _ _ _ _ _).trans hj))
          have HO2 := hide hown2
          have HG2 := hide (ownI_ge hown2)
          have HB2 := hide hb2
          obtain ⟨a2, c2, rfl, _⟩ := ownI_room hown2
          have hs2 := hb2.size
          have HA4 : Hid (IntsV w2 (.slice (some ⟨g, o, none⟩) l.length ca) l) := hide ⟨_, _, rfl, hca, fun _ => ⟨g, o, rfl, fun i x hx => kept_cell hb2 (unhide HA2 i x hx)⟩⟩
          have e4 : (l.length : Int) ≤ (ca : Int) := by omega
          clear hown2 hgrow2 hb2 HO1 HB1 HBA
          go_wp2_with (at_builtin; refine wpList_app_ints rfl _ _ rfl wc.heap.size _ _ [n] l rfl rfl (unhide HO2) (unhide HA4) (by rw [List.length_singleton]; omega) hs2 ?_)
          all_goals
            intro v3 w3 hown3 hgrow3
            have hb3 : Below wc.heap.size wc w3 := Below.grown (unhide HB2) hgrow3 hs2 (fun j hj => unhide HG2 j ((own_blk _ _ _ _ _).trans hj))
            have HI3 := hide (ownI_ints hown3)
            have HB3 := hide hb3
            clear hown3 hgrow3 hb3
            go_wp2
            go_ret
            exact ⟨⟨_, _, rfl, unhide HI3, unhide HSET0, by simp⟩, unhide HB3⟩
        · have hkl : k - 1 < l.length := by omega
          have c1 := unhide HA2 (k - 1) _ (List.getElem?_eq_getElem hkl)
          have hx := unhide HLT l[k - 1] hk0 (List.getElem?_eq_getElem hkl)
          have hne : (l[k - 1] == n) = false := by simp; omega
          have n1 : (0 : Int) < (k : Int) := by omega
          have n2 : (0 : Int) ≤ (k : Int) - 1 := by omega
          have n3 : (k : Int) - 1 < (l.length : Int) := by omega
          clear hx
          generalize l[k - 1] = X at *
          go_wp2_with (at_builtin; refine wpList_app_ints rfl _ _ rfl wc.heap.size _ _ [] (l.take k) rfl rfl (unhide HNIL) (unhide HS1) (by rw [List.length_take, List.length_nil]; omega) (Nat.le_refl _) ?_)
          intro v1 w1 hown1 hgrow1
          have hb1 : Below wc.heap.size wc w1 := Below.grown (Below.refl _ _) hgrow1 (Nat.le_refl _) (fun j hj => by cases hj)
          have hbA : Below w1.heap.size w1 (w1.alloc (.cells #[.int .i64 n] 3)) := (Below.refl _ _).alloc (Nat.le_refl _) _
          have HO1 := hide (ownI_on hown1 hbA)
          have HG1 := hide (ownI_ge hown1)
          have HB1 := hide hb1
          have HBA := hide hbA
          obtain ⟨a1, c1', rfl, _⟩ := ownI_room hown1
          have hs1 := hb1.size
          clear hown1 hgrow1 hb1 hbA HNIL HS1
          go_wp2_with (at_builtin; refine wpList_app_ints rfl _ _ rfl wc.heap.size _ _ (l.take k) [n] rfl rfl (unhide HO1) (ints_cell w1 n) (by rw [List.length_take, List.length_singleton]; omega) (by simp; omega) ?_)
          intro v2 w2 hown2 hgrow2
          have hb2 : Below wc.heap.size wc w2 := Below.grown (Below.then (unhide HB1) (unhide HBA)) hgrow2 (by simp; omega) (fun j hj => unhide HG1 j ((own_blk _ _ _ _ _).trans hj))
          have HO2 := hide hown2
          have HG2 := hide (ownI_ge hown2)
          have HB2 := hide hb2
          have HA4 : Hid (∀ i x, l[i]? = some x → w2.cell? ⟨g, o + i, none⟩ = some (.int .i64 x)) := hide fun i x hx => kept_cell hb2 (unhide HA2 i x hx)
          obtain ⟨a2, c2, rfl, _⟩ := ownI_room hown2
          have hs2 := hb2.size
          have e3 : (k : Int) ≤ (l.length : Int) := by omega
          have e4 : (l.length : Int) ≤ (ca : Int) := by omega
          clear hown2 hgrow2 hb2 HO1 HB1 HBA HA2
          go_wp2_with (at_builtin; refine wpList_app_ints rfl _ _ rfl wc.heap.size _ _ (l.take k ++ [n]) (l.drop k) rfl rfl (unhide HO2) ?src (by simp only [List.length_append, List.length_take, List.length_singleton, List.length_drop]; omega) hs2 ?_)
          case src.inl =>
            rename_i h
            rw [show l.drop k = [] from List.drop_eq_nil_of_le (by omega), show l.length - k = 0 by omega]
            exact ints_none _ _ _
          case src.inr =>
            have h := ints_slice (unhide HA4) k (l.length - k) (ca - k) (by omega) (by omega)
            rw [List.take_of_length_le (by rw [List.length_drop]; omega)] at h
            exact h
          case inl =>
            intro v3 w3 hown3 hgrow3
            have hb3 : Below wc.heap.size wc w3 := Below.grown (unhide HB2) hgrow3 hs2 (fun j hj => unhide HG2 j ((own_blk _ _ _ _ _).trans hj))
            have HI3 := hide (ownI_ints hown3)
            have HB3 := hide hb3
            have HL3 : Hid ((l.take k ++ n :: l.drop k).length ≤ l.length + 1) := hide (by simp only [List.length_append, List.length_take, List.length_cons, List.length_drop]; omega)
            clear hown3 hgrow3 hb3
            go_wp2
            go_ret
            exact ⟨⟨_, _, rfl, unhide HI3, unhide HSET, unhide HL3⟩, unhide HB3⟩
          case inr =>
            intro v3 w3 hown3 hgrow3
            have hb3 : Below wc.heap.size wc w3 := Below.grown (unhide HB2) hgrow3 hs2 (fun j hj => unhide HG2 j ((own_blk _ _ _ _ _).trans hj))
            have HI3 := hide (ownI_ints hown3)
            have HB3 := hide hb3
            have HL3 : Hid ((l.take k ++ n :: l.drop k).length ≤ l.length + 1) := hide (by simp only [List.length_append, List.length_take, List.length_cons, List.length_drop]; omega)
            clear hown3 hgrow3 hb3
            go_wp2
            go_ret
            exact ⟨⟨_, _, rfl, unhide HI3, unhide HSET, unhide HL3⟩, unhide HB3⟩
end Go.Proofs.YtppkilblkobkhaaGreatDoor
