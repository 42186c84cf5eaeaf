/- Several texts, laid as one. -/
import Derived.RangeFuncNested
import Derived.RangeFuncBox
import Derived.RangeFuncLeaves
import Derived.OwnWalkIn
import Derived.TacticsInMore
import Derived.LoopNIn
import Derived.LoopIn
import Derived.Maps.AppendAt
import Derived.Sort.QuietTacIn
import Derived.Test.YtjjggncbhenffaaGreatDoorGbt
import Derived.Test.YtjjggncbhenffaaGreatDoorGbu
import Derived.Test.YtjjggncbhenffaaGreatDoorGbs
/- What lies right in a node: xdm's Kids, of any tree. -/
namespace Go.Proofs.YtjjggncbhenffaaGreatDoor
open Go.RowKit Go.Maps Go.Sort Go.Shelf
attribute [local go_sem] Oper.semAt_some
theorem kidsGo_more (ns : List XNode) (hf : ∀ (i : Nat) (x : XNode), ns[i]? = some x → i < x.fin ∧ x.fin ≤ ns.length) (e : Nat) (he : e ≤ ns.length) : ∀ (f g i : Nat), e ≤ i + f → e ≤ i + g → kidsGo ns f i e = kidsGo ns g i e
  | 0, 0, _, _, _ => rfl
  | 0, g + 1, i, h1, _ => by rw [kidsGo, kidsGo, if_neg (by omega)]
  | f + 1, 0, i, _, h2 => by rw [kidsGo, kidsGo, if_neg (by omega)]
  | f + 1, g + 1, i, h1, h2 => by
    rw [kidsGo, kidsGo]
    by_cases hlt : i < e
    · obtain ⟨x, hx⟩ : ∃ x, ns[i]? = some x := ⟨ns[i]'(by omega), List.getElem?_eq_getElem _⟩
      have := (hf i x hx).1
      rw [if_pos hlt, if_pos hlt, nodeD_at hx, kidsGo_more ns hf e he f g x.fin (by omega) (by omega)]
    · rw [if_neg hlt, if_neg hlt]
theorem kidsGo_at {ns : List XNode} {f i e : Nat} {x : XNode} (hx : ns[i]? = some x) (hlt : i < e) : kidsGo ns (f + 1) i e = (if x.kind = 3 then [] else [i]) ++ kidsGo ns f x.fin e := by
  rw [kidsGo, if_pos hlt, nodeD_at hx]
theorem kidsGo_end {ns : List XNode} {f i : Nat} : kidsGo ns f i i = [] := by
  cases f with
  | zero => rfl
  | succ f => rw [kidsGo, if_neg (by omega)]
theorem kidsGo_len (ns : List XNode) : ∀ (f i e : Nat), (kidsGo ns f i e).length ≤ f
  | 0, _, _ => Nat.le_refl _
  | f + 1, i, e => by
    rw [kidsGo]
    split
    · have := kidsGo_len ns f (nodeD ns (i : Nat)).fin e
      rw [List.length_append]
      split
      · simp; omega
      · simp; omega
    · exact Nat.zero_le _
/-- What a tree must be for its kids to be told. -/
structure KidsOk (ns : List XNode) : Prop where
  fin : ∀ (i : Nat) (x : XNode), ns[i]? = some x → i < x.fin ∧ x.fin ≤ ns.length
  len : ns.length ≤ 300000
  wit : ∀ (n : Nat) (x : XNode), ns[n]? = some x → ∀ (k : Nat) (y : XNode), ns[k]? = some y → n < k → k < x.fin → y.fin ≤ x.fin
/-- Where kids' loop stands: what has come, the number that is next. -/
structure KidAt (ns : List XNode) (m : Int) (J : List Nat → World → Prop) (w : World) (i : Nat) (pre : List Nat) (wr : World) : Prop where
  le : i ≤ (partD ns m).length
  more : pre ++ kidsGo ns ns.length (m.toNat + 1 + i) (m.toNat + 1 + (partD ns m).length) = kidsD ns m
  few : pre.length ≤ i
  j : J pre wr
  bel : Below w.heap.size w wr
theorem part_at {ns : List XNode} {m : Int} {i : Nat} {y : XNode} (h : (partD ns m)[i]? = some y) : ns[m.toNat + 1 + i]? = some y ∧ (nodeD ns m).fin ≠ 0 := by
  unfold partD at h
  split at h
  · cases h
  · rename_i h0
    rw [List.getElem?_take] at h
    split at h
    · rw [List.getElem?_drop] at h
      exact ⟨h, h0⟩
    · cases h
theorem wrapK (i : Int) (n : Nat) (h : i = (n : Int)) (hn : n ≤ 1000000) : IntKind.i64.wrap i = (n : Int) := by
  rw [IntKind.wrap_i64, h]
  omega
/-- Where a node's part lies in the tree. -/
theorem part_where {ns : List XNode} {m : Int} (hK : KidsOk ns) (h : partD ns m ≠ []) : ∃ (M : Nat) (x : XNode), m = (M : Int) ∧ ns[M]? = some x ∧ (partD ns m).length = x.fin - (M + 1) ∧ M < x.fin ∧ x.fin ≤ ns.length := by
  have h0 : (nodeD ns m).fin ≠ 0 := fun e => h (by unfold partD; rw [if_pos e])
  have hm0 : 0 ≤ m := by
    apply Decidable.byContradiction
    intro hc
    exact h0 (by rw [nodeD_low (by omega)]; rfl)
  have hml : m < ns.length := by
    apply Decidable.byContradiction
    intro hc
    exact h0 (by rw [nodeD_high (by omega)]; rfl)
  obtain ⟨M, rfl⟩ : ∃ M : Nat, m = M := ⟨m.toNat, by omega⟩
  obtain ⟨x, hx⟩ : ∃ x, ns[M]? = some x := ⟨ns[M]'(by omega), List.getElem?_eq_getElem _⟩
  obtain ⟨h1, h2⟩ := hK.fin M x hx
  refine ⟨M, x, rfl, hx, ?_, h1, h2⟩
  unfold partD
  rw [nodeD_at hx, if_neg (by omega), List.length_take, List.length_drop, Int.toNat_natCast]
  omega
theorem KidAt.start {ns : List XNode} {m : Int} {J : List Nat → World → Prop} {w W : World} (hK : KidsOk ns) (h0 : J [] W) (hb : Below w.heap.size w W) : KidAt ns m J w 0 [] W := by
  refine ⟨Nat.zero_le _, ?_, Nat.le_refl _, h0, hb⟩
  rw [List.nil_append, Nat.add_zero]
  by_cases h : partD ns m = []
  · rw [h, List.length_nil, Nat.add_zero, kidsGo_end]
    unfold kidsD
    split
    · rfl
    · rename_i hf
      have hne : (nodeD ns m).fin = m.toNat + 1 := by
        have hm0 : 0 ≤ m := by
          apply Decidable.byContradiction
          intro hc
          exact hf (by rw [nodeD_low (by omega)]; rfl)
        have hml : m < ns.length := by
          apply Decidable.byContradiction
          intro hc
          exact hf (by rw [nodeD_high (by omega)]; rfl)
        obtain ⟨M, rfl⟩ : ∃ M : Nat, m = M := ⟨m.toNat, by omega⟩
        obtain ⟨x, hx⟩ : ∃ x, ns[M]? = some x := ⟨ns[M]'(by omega), List.getElem?_eq_getElem _⟩
        obtain ⟨h1, h2⟩ := hK.fin M x hx
        unfold partD at h
        rw [nodeD_at hx] at h hf ⊢
        rw [if_neg hf] at h
        have hl := congrArg List.length h
        rw [List.length_take, List.length_drop, Int.toNat_natCast, List.length_nil] at hl
        rw [Int.toNat_natCast]
        omega
      rw [hne, kidsGo_end]
  · obtain ⟨M, x, rfl, hx, hl, h1, h2⟩ := part_where hK h
    unfold kidsD
    rw [nodeD_at hx, if_neg (by omega), hl, Int.toNat_natCast, show M + 1 + (x.fin - (M + 1)) = x.fin by omega]
/-- One step of the loop: a node that is told, or an attribute that is passed over. -/
theorem KidAt.step {ns : List XNode} {M k : Nat} {J : List Nat → World → Prop} {w wr : World} {pre : List Nat} (hK : KidsOk ns) (h : KidAt ns (M : Nat) J w k pre wr) {y : XNode} (hy : (partD ns (M : Nat))[k]? = some y) :
    ns[M + 1 + k]? = some y ∧ M + 1 + k < y.fin ∧ y.fin - (M + 1) ≤ (partD ns (M : Nat)).length ∧ y.fin ≤ ns.length ∧ pre.length < ns.length + 1 ∧
    pre ++ ((if y.kind = 3 then [] else [M + 1 + k]) ++ kidsGo ns ns.length (M + 1 + (y.fin - (M + 1))) (M + 1 + (partD ns (M : Nat)).length)) = kidsD ns (M : Nat) := by
  have hne : partD ns (M : Nat) ≠ [] := fun e => by rw [e] at hy; cases hy
  obtain ⟨M', x, e, hx, hl, h1, h2⟩ := part_where hK hne
  have e' : M = M' := by omega
  subst e'
  have hkl := (List.getElem?_eq_some_iff.1 hy).1
  obtain ⟨hy1, _⟩ := part_at hy
  rw [Int.toNat_natCast] at hy1
  obtain ⟨h3, h4⟩ := hK.fin _ y hy1
  have h5 := hK.wit M x hx _ y hy1 (by omega) (by omega)
  have hf := h.few
  have hm := h.more
  rw [Int.toNat_natCast] at hm
  refine ⟨hy1, h3, by omega, h4, by omega, ?_⟩
  obtain ⟨f, hfl⟩ : ∃ f, ns.length = f + 1 := ⟨ns.length - 1, by omega⟩
  rw [show M + 1 + (y.fin - (M + 1)) = y.fin by omega]
  rw [hfl] at hm ⊢
  rw [kidsGo_at hy1 (by omega), kidsGo_more ns hK.fin _ (by omega) f (f + 1) y.fin (by omega) (by omega)] at hm
  exact hm
set_option maxRecDepth 100000 in
set_option maxHeartbeats 2000000 in
theorem kids1_in (n : Nat) (hn : 1 ≤ n) (l Bt Bn B : Nat) (v : Value) (ns : List XNode) (m : Int) (w W : World) (hT : TreeV w B v ns) (hK : KidsOk ns) (hbW : Below w.heap.size w W)
    (ht : w.cell? ⟨Bt, 0, none⟩ = some v) (hm : w.cell? ⟨Bn, 0, none⟩ = some (.int .i64 m)) (hBt : Bt < w.heap.size) (hBn : Bn < w.heap.size) (J Jx : List Nat → World → Prop) (hJ : AbidesFrom W.heap.size J)
    (hY : ∀ pre x W1, J pre W1 → pre.length < ns.length + 1 → YieldAt Fence.wide (n - 1) Tryz.prog l #[.int .i64 ((x : Nat) : Int)] W1 fun e W' =>
      (e = .returned (.bool true) ∧ J (pre ++ [x]) W' ∧ Below w.heap.size W1 W') ∨ (e = .returned (.bool false) ∧ Jx (pre ++ [x]) W')) (h0 : J [] W) :
    CallsIn Fence.wide n Tryz.prog 91 #[.func (.yield l) #[] #[], .pointer (some ⟨Bt, 0, none⟩), .pointer (some ⟨Bn, 0, none⟩)] W fun e W' => (∃ v, e = .returned v) ∧
      ((∃ ys, ys = kidsD ns m ∧ J ys W') ∨ (∃ pre, pre <+: kidsD ns m ∧ Jx pre W')) := by
  have HPA := hide (part_any B v ns m w W hT hbW hK.fin hK.len)
  have ct : W.cell? ⟨Bt, 0, none⟩ = some v := (hbW.cell (p := ⟨Bt, 0, none⟩) hBt).trans ht
  have cn : W.cell? ⟨Bn, 0, none⟩ = some (.int .i64 m) := (hbW.cell (p := ⟨Bn, 0, none⟩) hBn).trans hm
  obtain ⟨pv, rfl⟩ := hT.ptr
  refine callsIn_of_wp Tryz.func91 rfl trivial ?_ rfl
  simp only [Tryz.ntmps91, List.size_toArray, List.length_cons, List.length_nil, Nat.reduceAdd, Nat.reduceSub, Array.replicate_succ, Array.replicate_zero, List.push_toArray, List.append_toArray, List.nil_append, List.cons_append]
  gi_wp2_with (refine ⟨trivial, ?_⟩; gi_at_call 50; refine (callsIn_wide.2 (unhide HPA)).mono ?_; rintro e W1 ⟨⟨u, rfl, hR⟩, hb1⟩)
  have hJ1 : J [] W1 := hJ [] W W1 none h0 (grown_of_below hb1) (fun r e => by cases e)
  have HI0 : Hid (KidAt ns m J w 0 [] W1) := hide (KidAt.start hK hJ1 (Below.then hbW hb1))
  have HR := hide hR
  have HK := hide hK
  have HY := hide hY
  have HJA : Hid (∀ (pre : List Nat) (A : World) (n : Nat), J pre A → J pre (A.drewN n)) := hide fun pre A n h => hJ pre A _ none h (grown_of_below ⟨rfl, rfl, rfl, Nat.le_refl _, fun _ _ => rfl⟩) (fun r e => by cases e)
  have HM := hide hm
  obtain ⟨a, cap, rfl, _⟩ := hR
  obtain ⟨N, hN⟩ : ∃ N, N = (partD ns m).length := ⟨_, rfl⟩
  have HN := hide hN
  rw [← hN]
  clear hJ1 hK hb1 hJ h0 hY hN ct cn HPA
  gi_loopw [5] (fun i wr => ∃ (k : Nat) (pre : List Nat), i = .int .i64 (k : Nat) ∧ Hid (KidAt ns m J w k pre wr)) (fun i _ => N - (intOf i).toNat)
  case atStart => exact ⟨0, [], rfl, HI0⟩
  case round =>
    clear HI0
    obtain ⟨k, pre, rfl, hI⟩ := hrel
    by_cases hlt : k < N
    · obtain ⟨y, hy⟩ : ∃ y, (partD ns m)[k]? = some y := ⟨(partD ns m)[k]'(by rw [← unhide HN]; exact hlt), List.getElem?_eq_getElem _⟩
      have hne : partD ns m ≠ [] := fun e => by rw [e] at hy; cases hy
      obtain ⟨M, x, rfl, hx, _, _, hxl⟩ := part_where (unhide HK) hne
      obtain ⟨hy1, hy2, hy3, hy4, hpl, hmore⟩ := (unhide hI).step (unhide HK) hy
      obtain ⟨a', cap', e0, hc⟩ := unhide HR
      cases e0
      obtain ⟨g, oo, rfl, hcr⟩ := hc hne
      obtain ⟨mm, _, hcc⟩ := hcr k y hy
      have HCK : Hid (w.cell? ⟨g, oo + k * 9, none⟩ = some (.int .i64 (y.kind : Nat))) := hide (hcc 0 _ rfl)
      have HCF : Hid (w.cell? ⟨g, oo + k * 9 + 6, none⟩ = some (.int .i64 (y.fin : Nat))) := hide (hcc 6 _ rfl)
      have ck := keptC (unhide hI).bel (unhide HCK)
      have cf := keptC (unhide hI).bel (unhide HCF)
      have cn := keptC (unhide hI).bel (unhide HM)
      have hlen := (unhide HK).len
      have n1 : (0 : Int) ≤ (k : Int) := by omega
      have n2 : (k : Int) < (N : Int) := by omega
      obtain ⟨K, hKe⟩ : ∃ K, K = y.fin - (M + 1) := ⟨_, rfl⟩
      rw [← hKe] at hmore hy3
      have HKE := hide hKe
      obtain ⟨D, hD⟩ : ∃ D : Nat, D = y.fin - M := ⟨_, rfl⟩
      have v1 : IntKind.i64.wrap ((y.fin : Int) - (M : Int)) = (D : Int) := wrapK _ _ (by omega) (by omega)
      have v2 : IntKind.i64.wrap ((D : Int) - 1) = (K : Int) := wrapK _ _ (by omega) (by omega)
      clear hD hKe
      have HMS : Hid (k < K ∧ K ≤ N) := hide ⟨by have := unhide HKE; omega, by have := unhide HN; omega⟩
      have HMO := hide hmore
      clear hc hcr hcc hy hx hmore hne
      by_cases h3 : y.kind = 3
      · have e3 : ((y.kind : Int) != 3) = false := by rw [h3]; rfl
        have H3 := hide h3
        clear h3
        gi_wp2
        refine ⟨fun _ h => (by cases h), ?_⟩
        gi_wp2
        gi_quiet (fail)
        gi_wp2
        refine ⟨⟨K, pre, rfl, hide ?_⟩, by have := unhide HMS; simp [intOf]; omega⟩
        have hm := unhide HMS
        have hN := unhide HN
        refine ⟨by omega, ?_, ?_, unhide HJA _ _ _ (unhide hI).j, (unhide hI).bel.trans ⟨rfl, rfl, rfl, Nat.le_refl _, fun _ _ => rfl⟩⟩
        · have := unhide HMO
          rw [if_pos (unhide H3), List.nil_append] at this
          exact this
        · have := (unhide hI).few
          omega
      · have e3 : ((y.kind : Int) != 3) = true := by simpa using (by omega : ¬ (y.kind : Int) = 3)
        have H3 := hide h3
        clear h3
        have hYC := unhide HY pre (M + 1 + k) wr (unhide hI).j hpl
        rw [show ((M + 1 + k : Nat) : Int) = (M : Int) + 1 + (k : Int) by omega] at hYC
        obtain ⟨fn, tmps, assign, body, hy', hRR⟩ := hYC
        gi_wp2
        refine hRR.mono ?_
        rintro e W3 (⟨rfl, hJ3, hk3⟩ | ⟨rfl, hJx3⟩)
        · have hb3 := (unhide hI).bel.trans hk3
          have ck := keptC hb3 (unhide HCK)
          have cf := keptC hb3 (unhide HCF)
          have cn := keptC hb3 (unhide HM)
          gi_wp2
          gi_quiet (fail)
          gi_wp2
          refine ⟨⟨K, pre ++ [M + 1 + k], rfl, hide ?_⟩, by have := unhide HMS; simp [intOf]; omega⟩
          have hm := unhide HMS
          have hN := unhide HN
          refine ⟨by omega, ?_, ?_, unhide HJA _ _ _ hJ3, hb3.trans ⟨rfl, rfl, rfl, Nat.le_refl _, fun _ _ => rfl⟩⟩
          · have := unhide HMO
            rw [if_neg (unhide H3), ← List.append_assoc] at this
            exact this
          · have := (unhide hI).few
            rw [List.length_append, List.length_singleton]
            omega
        · gi_wp2
          refine bodyPost_ret (results_none rfl _ _ _) rfl ?_
          have hmo := unhide HMO
          rw [if_neg (unhide H3), ← List.append_assoc] at hmo
          exact ⟨⟨_, rfl⟩, .inr ⟨pre ++ [M + 1 + k], ⟨_, hmo⟩, hJx3⟩⟩
    · have n2 : ¬ (k : Int) < (N : Int) := by omega
      have hdone : pre = kidsD ns m := by
        have h1 := (unhide hI).more
        have h2 := (unhide hI).le
        have h3 := unhide HN
        rw [show k = (partD ns m).length by omega, kidsGo_end, List.append_nil] at h1
        exact h1
      have HJ := hide (unhide hI).j
      clear hI
      gi_wp2
      go_end0
      refine ⟨⟨_, rfl⟩, .inl ?_⟩
      rw [← hdone]
      exact unhide HJ
end Go.Proofs.YtjjggncbhenffaaGreatDoor
/- What lies right in a node: xdm's Kids, of any tree: the iterator is collected. -/
namespace Go.Proofs.YtjjggncbhenffaaGreatDoor
open Go.RowKit Go.Maps Go.Sort Go.Shelf
attribute [local go_sem] Oper.semAt_some
theorem kids_stops (n : Nat) (hn : 1 ≤ n) (Bt Bn B : Nat) (v : Value) (ns : List XNode) (m : Int) (w : World) (hT : TreeV w B v ns) (hK : KidsOk ns)
    (ht : w.cell? ⟨Bt, 0, none⟩ = some v) (hm : w.cell? ⟨Bn, 0, none⟩ = some (.int .i64 m)) (hBt : Bt < w.heap.size) (hBn : Bn < w.heap.size) :
    SeqStopsK Fence.wide n Tryz.prog 91 #[.pointer (some ⟨Bt, 0, none⟩), .pointer (some ⟨Bn, 0, none⟩)] (fun x : Nat => #[Value.int .i64 ((x : Nat) : Int)]) (Below w.heap.size) (fun ys => ys = kidsD ns m) (fun pre => pre <+: kidsD ns m) (ns.length + 1) w :=
  fun l J Jx W hW hJ _ hY h0 => kids1_in n hn l Bt Bn B v ns m w W hT hK hW ht hm hBt hBn J Jx hJ hY h0
theorem infoIntK : (Tryz.prog.info? 3).map (fun i => (i.zero, i.size, i.bytes)) = some (some (.int .i64 0), 1, 8) := by kernel_rfl
set_option maxRecDepth 100000 in
set_option maxHeartbeats 2000000 in
theorem appendSeq_kids (n : Nat) (hn : 3 ≤ n) (Bt Bn B : Nat) (v : Value) (ns : List XNode) (m : Int) (w : World) (hT : TreeV w B v ns) (hK : KidsOk ns)
    (ht : w.cell? ⟨Bt, 0, none⟩ = some v) (hm : w.cell? ⟨Bn, 0, none⟩ = some (.int .i64 m)) (hBt : Bt < w.heap.size) (hBn : Bn < w.heap.size) :
    CallsIn Fence.wide n Tryz.prog 90 #[.slice none 0 0, .func (.func 91) #[] #[.pointer (some ⟨Bt, 0, none⟩), .pointer (some ⟨Bn, 0, none⟩)]] w fun e W' =>
      (∃ u, e = .returned u ∧ W'.ownsRow w.heap.size 3 1 u (kidsD ns m).length (intRow (kidsD ns m))) ∧ Below w.heap.size w W' := by
  have h1 : 1 ≤ n := by omega
  obtain ⟨i0, hi, hz0, hz1, hz2⟩ := info_parts infoIntK
  refine callsIn_of_wp_marks Tryz.func90 rfl trivial ?_ rfl
  simp only [Tryz.ntmps90, List.size_toArray, List.length_cons, List.length_nil, Nat.reduceAdd, Nat.reduceSub, Array.replicate_succ, Array.replicate_zero, List.push_toArray, List.append_toArray, List.nil_append, List.cons_append]
  gi_wp2
  have bO := Boxed.new w 41 (.slice none 0 0)
  have hB0 : Below w.heap.size w (w.alloc (.cells #[.slice none 0 0] 41)) := (Below.refl _ w).alloc (Nat.le_refl _) _
  have hlen := hK.len
  refine wpIn_rangeFunc_ownG rfl h1 (gf := 91) (lb := #[.pointer (some ⟨Bt, 0, none⟩), .pointer (some ⟨Bn, 0, none⟩)]) rfl trivial (enters_of Tryz.func91 (by kernel_rfl) rfl)
    (kids_stops (n - 1) (by omega) Bt Bn B v ns m w hT hK ht hm hBt hBn) belowK_t (belowK_b (by simp)) hB0 (fun _ => rfl)
    (fun pre W => (∃ u, Boxed W w.heap.size 41 u ∧ W.ownsRow w.heap.size 3 1 u pre.length (intRow pre) ∧ (u = .slice none 0 0 ↔ pre = [])) ∧ Below w.heap.size w W)
    (fun _ _ _ => False)
    (OwnFrom.and (Own.from (holdsRow_own w.heap.size w.heap.size 41 3 1 (fun pre : List Nat => pre.length) (fun pre => intRow pre) (fun pre u => u = .slice none 0 0 ↔ pre = [])) _) (ownFrom_below (Nat.le_refl _) (by simp)))
    (fun _ _ _ _ _ hs _ _ => hs)
    ⟨⟨_, bO, World.ownsRow_nil _ _ _ _, by simp⟩, hB0⟩
    (fun x => { tmps := #[.slice none 0 0, .func (.func 91) #[] #[.pointer (some ⟨Bt, 0, none⟩), .pointer (some ⟨Bn, 0, none⟩)], .pointer (some ⟨w.heap.size, 0, none⟩), undef, .slice none 0 0, .int .i64 ((x : Nat) : Int), .func (.func 91) #[] #[.pointer (some ⟨Bt, 0, none⟩), .pointer (some ⟨Bn, 0, none⟩)], .int .i64 ((x : Nat) : Int), undef, undef, undef, undef, undef], defers := [] }) ?assign ?body ?done ?stop
  case assign =>
    intro l x W K hK
    gi_wp2
    exact hK
  case body =>
    rintro l pre x W ⟨⟨u, hv, hrow, hnil⟩, hB⟩ hlt
    have hc := hv.cell
    gi_wp2_with (gi_at_builtin; refine wpListIn_append_own _ rfl _ _ 41 rfl w.heap.size 3 i0 (.int .i64 0) 1 8 Tryz.underlying41 hi hz0 hz1 hz2 rfl (by decide) _ _ _ rfl (hrow.alloc _) ⟨W.heap.size, 0, none⟩ 1 1 [.int .i64 ((x : Nat) : Int)] rfl rfl (cell_one_new _ _ _) (by simp [Value.oneCell']) (by unfold maxLen; omega) (by omega) (by have := hB.size; simp; omega) ?_; intro v' w1 hown' hgrow _; obtain ⟨g', cap', rfl⟩ := ownsRow_succ hown'; obtain ⟨hv1, hv2, hr2, hk2, hb2⟩ := hv.appended (by decide) hrow hB.size (Nat.le_refl _) hown' hgrow; have hc1 := hv1.cell; have hf1 := hv1.frozen)
    exact ⟨hk2.from _, hb2, ⟨_, hv2, by simpa [intRow] using hr2, by simp⟩, hB.trans hb2⟩
  case done =>
    rintro D ys W hD rfl ⟨⟨u, hv, hrow, hnil⟩, hB⟩ hKK
    have hc := hv.cell
    gi_wp2
    refine ⟨by simp, .inl ⟨_, _, rfl, run_takeDeferred hKK, ?_⟩⟩
    exact ⟨_, results_tmp rfl _ _ _, ⟨u, rfl, ownsRow_putObj hrow _ hKK rfl⟩, hB.trans (belowK_b (w := w) (Nat.le_refl _) W D _ _ (by simp at hD; omega) hKK rfl rfl)⟩
  case stop =>
    rintro D c pre W _ _ h _
    exact h.elim
set_option maxRecDepth 100000 in
set_option maxHeartbeats 2000000 in
theorem collect_kids (Bt Bn B : Nat) (v : Value) (ns : List XNode) (m : Int) (w : World) (hT : TreeV w B v ns) (hK : KidsOk ns)
    (ht : w.cell? ⟨Bt, 0, none⟩ = some v) (hm : w.cell? ⟨Bn, 0, none⟩ = some (.int .i64 m)) (hBt : Bt < w.heap.size) (hBn : Bn < w.heap.size) :
    Calls Tryz.prog 53 #[.func (.func 91) #[] #[.pointer (some ⟨Bt, 0, none⟩), .pointer (some ⟨Bn, 0, none⟩)]] w fun e W' =>
      (∃ u, e = .returned u ∧ W'.ownsRow w.heap.size 3 1 u (kidsD ns m).length (intRow (kidsD ns m))) ∧ Below w.heap.size w W' := by
  have HA := hide (callsIn_wide.1 (appendSeq_kids 3 (Nat.le_refl _) Bt Bn B v ns m w hT hK ht hm hBt hBn))
  clear hT hK ht hm
  go_enter Tryz.func53, Tryz.ntmps53
  go_wp2_with fail
  refine (unhide HA).mono ?_
  rintro e w1 ⟨⟨u, rfl, hu⟩, hb⟩
  go_wp2
  go_returns
  exact ⟨⟨u, rfl, hu⟩, hb⟩
set_option maxRecDepth 100000 in
set_option maxHeartbeats 2000000 in
theorem kids_any (B : Nat) (v : Value) (ns : List XNode) (m : Int) (w : World) (h : TreeV w B v ns) (hK : KidsOk ns) :
    Calls Tryz.prog 23 #[v, .int .i64 m] w fun e W' => (∃ u, e = .returned u ∧ W'.ownsRow w.heap.size 3 1 u (kidsD ns m).length (intRow (kidsD ns m))) ∧ Below w.heap.size w W' := by
  obtain ⟨pv, rfl⟩ := h.ptr
  have HS := hide (kids_seq (.pointer pv) m w ⟨_, rfl⟩)
  have HH := hide h
  have HK := hide hK
  clear h hK
  go_enter Tryz.func23, Tryz.ntmps23
  go_wp2_with fail
  refine (unhide HS).mono ?_
  rintro e w1 ⟨Bt, Bn, rfl, h1, h2, h3, h4, hb1⟩
  have cC := collect_kids Bt Bn B _ ns m w1 ((unhide HH).on hb1) (unhide HK) h1 h2 h3 h4
  clear h1 h2
  go_wp2_with fail
  refine cC.mono ?_
  rintro e w2 ⟨⟨u, rfl, hu⟩, hb2⟩
  go_wp2
  go_returns
  exact ⟨⟨u, rfl, ownsRow_base_a hu hb1.size⟩, Below.then hb1 hb2⟩
end Go.Proofs.YtjjggncbhenffaaGreatDoor
/- What Parse tells of any text. -/
namespace Go.Proofs.YtjjggncbhenffaaGreatDoor
open Go.RowKit Go.Maps
/-- An error and no tree, or a text's tree. -/
def ParseOut (w w' : World) (v : Value) (er : Nat) : Prop := ((er = 4 ∨ er = 5 ∨ er = 6 ∨ er = 7 ∨ er = 8) ∧ v = .pointer none) ∨ (er = 0 ∧ ∃ cs ns q, okL cs ∧ (T cs).size ≤ 32768 ∧ parseD cs = .ok ns ∧ v = .pointer (some ⟨q, 0, none⟩) ∧ TreeAt w' w.heap.size q ns)
set_option maxRecDepth 100000 in
set_option maxHeartbeats 2000000 in
theorem parse_err (s : ByteArray) (w : World) (er : Nat) (her : er = 4 ∨ er = 6) (hS : Calls Tryz.prog 46 #[.string s] w fun e w' => (∃ pl : Nat, e = .returned (.tuple #[.slice none 0 0, .int .i64 (er : Nat), .int .i64 (pl : Nat)])) ∧ Below w.heap.size w w') :
    Calls Tryz.prog 14 #[.string s] w fun e w' => e = .returned (.tuple #[.pointer none, .int .i64 (er : Nat)]) ∧ Below w.heap.size w w' := by
  have HS := hide hS
  clear hS
  rcases her with rfl | rfl
  all_goals
    go_enter Tryz.func14, Tryz.ntmps14
    go_wp2_with fail
    refine (unhide HS).mono ?_
    rintro e w1 ⟨⟨pl, rfl⟩, hb1⟩
    go_wp2
    go_returns
    exact ⟨rfl, hb1⟩
theorem parse_errs {cs : List Nat} (hl : okL cs) (hs : (T cs).size ≤ 32768) {n : Nat} (h : parseD cs = .error n) : n = 5 ∨ n = 6 ∨ n = 7 ∨ n = 8 := by
  unfold parseD at h
  cases hsc : scanX cs with
  | error x =>
    rw [hsc] at h
    cases h
    rcases (scan_er hl hs hsc).1 with h | h
    · exact .inl h
    · exact .inr (.inl h)
  | ok ts =>
    rw [hsc] at h
    have h' : treeD ts = .error n := h
    unfold treeD at h'
    split at h'
    · rename_i e he
      cases h'
      rcases adds_errs he with h | h
      · exact .inr (.inr (.inl h))
      · exact .inr (.inr (.inr h))
    · cases h'
theorem parse_out (s : ByteArray) (w : World) (hE : XEnv w.heap.size w) :
    Calls Tryz.prog 14 #[.string s] w fun e w' => ∃ (v : Value) (er : Nat), e = .returned (.tuple #[v, .int .i64 (er : Nat)]) ∧ Below w.heap.size w w' ∧ ParseOut w w' v er := by
  by_cases hz : 32768 < s.size
  · refine (parse_err s w 6 (.inr rfl) ((scan_long _ w hz).mono ?_)).mono ?_
    · rintro e w' ⟨rfl, rfl⟩
      exact ⟨⟨0, rfl⟩, Below.refl _ _⟩
    · rintro e w' ⟨rfl, hb⟩
      exact ⟨_, 6, rfl, hb, .inl ⟨.inr (.inr (.inl rfl)), rfl⟩⟩
  · by_cases ht : Txt s.data.toList
    · obtain ⟨l, hl, rfl⟩ := txt_T ht
      refine (parse_T l w hl (by omega) hE).mono ?_
      rintro e w' ⟨hp, hb⟩
      cases hs : parseD l with
      | error n =>
        rw [hs] at hp
        have hp' : e = .returned (.tuple #[.pointer none, .int .i64 (n : Nat)]) := hp
        exact ⟨_, n, hp', hb, .inl ⟨.inr (parse_errs hl (by omega) hs), rfl⟩⟩
      | ok ns =>
        rw [hs] at hp
        obtain ⟨q, he, hT⟩ := hp
        exact ⟨_, 0, he, hb, .inr ⟨rfl, l, ns, q, hl, by omega, hs, rfl, hT⟩⟩
    · refine (parse_err s w 4 (.inl rfl) ((scan_bad _ w (by omega) hE.env ht).mono ?_)).mono ?_
      · rintro e w' ⟨⟨at', _, rfl⟩, hb⟩
        exact ⟨⟨at', rfl⟩, hb⟩
      · rintro e w' ⟨rfl, hb⟩
        exact ⟨_, 4, rfl, hb, .inl ⟨.inl rfl, rfl⟩⟩
end Go.Proofs.YtjjggncbhenffaaGreatDoor
