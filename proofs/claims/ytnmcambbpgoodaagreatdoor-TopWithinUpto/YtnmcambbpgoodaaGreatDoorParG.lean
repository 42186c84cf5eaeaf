/- Tables of xparse: its operators, axes, types of nodes. -/
import Derived.Test.YtnmcambbpgoodaaGreatDoorGam
import Derived.Test.YtnmcambbpgoodaaGreatDoorLexTok
import Derived.Deep.MidRow
namespace Go.Proofs.YtnmcambbpgoodaaGreatDoor
open Go.RowKit
theorem palloc_new (w : World) (o : Obj) : (w.alloc o).heap[w.heap.size]? = some o := by
  unfold World.alloc
  exact Array.getElem?_push_size
def opCells : List Value := opTab.flatMap fun x => [.string (T x.1), .int .i64 (x.2.1 : Nat), .int .i64 (x.2.2 : Nat)]
def axCells : List Value := axisL.map fun x => .string (T x)
def tyCells : List Value := typeL.map fun x => .string (T x)
/-- What always holds: the tables. -/
structure EnvG (w : World) : Prop where
  lex : Env5 w
  ops : w.rangeAt 1 0 opCells
  axes : w.rangeAt 6 0 axCells
  types : w.rangeAt 5 0 tyCells
theorem EnvG.below {w w' : World} (h : EnvG w) (hb : Below w.heap.size w w') : EnvG w' :=
  ⟨h.lex.below hb, fun j v hv => pkept hb (h.ops j v hv), fun j v hv => pkept hb (h.axes j v hv), fun j v hv => pkept hb (h.types j v hv)⟩
def opAt (i : Nat) : List Nat × Nat × Nat := opTab.getD i ([], 0, 0)
def axAt (i : Nat) : List Nat := axisL.getD i []
def tyAt (i : Nat) : List Nat := typeL.getD i []
theorem op_index (i : Nat) (h : i < 14) (w : World) : (Instr.index 106 (.agg opCells.toArray) (.int .i64 (i : Nat))).run Tryz.prog w = .ok (.agg #[.string (T (opAt i).1), .int .i64 ((opAt i).2.1 : Nat), .int .i64 ((opAt i).2.2 : Nat)]) w := by
  rcases (show i = 0 ∨ i = 1 ∨ i = 2 ∨ i = 3 ∨ i = 4 ∨ i = 5 ∨ i = 6 ∨ i = 7 ∨ i = 8 ∨ i = 9 ∨ i = 10 ∨ i = 11 ∨ i = 12 ∨ i = 13 by omega) with rfl | rfl | rfl | rfl | rfl | rfl | rfl | rfl | rfl | rfl | rfl | rfl | rfl | rfl
  all_goals kernel_rfl
theorem ax_index (i : Nat) (h : i < 12) (w : World) : (Instr.index 144 (.agg axCells.toArray) (.int .i64 (i : Nat))).run Tryz.prog w = .ok (.string (T (axAt i))) w := by
  rcases (show i = 0 ∨ i = 1 ∨ i = 2 ∨ i = 3 ∨ i = 4 ∨ i = 5 ∨ i = 6 ∨ i = 7 ∨ i = 8 ∨ i = 9 ∨ i = 10 ∨ i = 11 by omega) with rfl | rfl | rfl | rfl | rfl | rfl | rfl | rfl | rfl | rfl | rfl | rfl
  all_goals kernel_rfl
theorem ty_index (i : Nat) (h : i < 4) (w : World) : (Instr.index 129 (.agg tyCells.toArray) (.int .i64 (i : Nat))).run Tryz.prog w = .ok (.string (T (tyAt i))) w := by
  rcases (show i = 0 ∨ i = 1 ∨ i = 2 ∨ i = 3 by omega) with rfl | rfl | rfl | rfl
  all_goals kernel_rfl
theorem tab_asc : (∀ i, i < 14 → okL (opAt i).1) ∧ (∀ i, i < 12 → okL (axAt i)) ∧ (∀ i, i < 4 → okL (tyAt i)) := by
  refine ⟨fun i h => okL_p ?_, fun i h => okL_p ?_, fun i h => okL_p ?_⟩
  · revert i; decide
  · revert i; decide
  · revert i; decide
theorem findIdx_at {α : Type} {l : List α} {p : α → Bool} {k : Nat} {a : α} (h : l[k]? = some a) (hp : p a = true) (hno : ∀ j b, j < k → l[j]? = some b → p b = false) : l.findIdx? p = some k := by
  obtain ⟨hk, e⟩ := List.getElem?_eq_some_iff.1 h
  rw [List.findIdx?_eq_some_iff_getElem]
  refine ⟨hk, by rw [e]; exact hp, fun j hj => ?_⟩
  have := hno j _ hj (List.getElem?_eq_getElem (by omega))
  simp [this]
theorem findIdx_no {α : Type} {l : List α} {p : α → Bool} (hno : ∀ (j : Nat) (b : α), l[j]? = some b → p b = false) : l.findIdx? p = none := by
  rw [List.findIdx?_eq_none_iff]
  intro x hx
  obtain ⟨j, hj⟩ := List.getElem?_of_mem hx
  exact hno j x hj
theorem axis_yes {t : List Nat} {k : Nat} (hk : k < 12) (hno : ∀ j, j < k → (axAt j == t) = false) (h : (axAt k == t) = true) : axisNo t = some k := by
  have hl : axisL.length = 12 := rfl
  exact findIdx_at (a := axAt k) (by unfold axAt; rw [List.getD_eq_getElem?_getD, List.getElem?_eq_getElem (by omega)]; rfl) h (fun j b hj hb => by
    have := hno j hj
    unfold axAt at this
    rwa [List.getD_eq_getElem?_getD, hb] at this)
theorem axis_no {t : List Nat} (hno : ∀ j, j < 12 → (axAt j == t) = false) : axisNo t = none := findIdx_no fun j b hb => by
  have hl : axisL.length = 12 := rfl
  have := hno j (by have := (List.getElem?_eq_some_iff.1 hb).1; omega)
  unfold axAt at this
  rwa [List.getD_eq_getElem?_getD, hb] at this
theorem type_yes {t : List Nat} {k : Nat} (hk : k < 4) (hno : ∀ j, j < k → (tyAt j == t) = false) (h : (tyAt k == t) = true) : typeNo t = some k := by
  have hl : typeL.length = 4 := rfl
  exact findIdx_at (a := tyAt k) (by unfold tyAt; rw [List.getD_eq_getElem?_getD, List.getElem?_eq_getElem (by omega)]; rfl) h (fun j b hj hb => by
    have := hno j hj
    unfold tyAt at this
    rwa [List.getD_eq_getElem?_getD, hb] at this)
theorem type_no {t : List Nat} (hno : ∀ j, j < 4 → (tyAt j == t) = false) : typeNo t = none := findIdx_no fun j b hb => by
  have hl : typeL.length = 4 := rfl
  have := hno j (by have := (List.getElem?_eq_some_iff.1 hb).1; omega)
  unfold tyAt at this
  rwa [List.getD_eq_getElem?_getD, hb] at this
theorem oper_yes {g : Nat} {s : PS} {k : Nat} (hk : k < 14) (hno : ∀ j, j < k → ((opAt j).2.2 == g && headIs 8 (opAt j).1 s) = false) (h : ((opAt k).2.2 == g && headIs 8 (opAt k).1 s) = true) : operOf g s = some (opAt k).2.1 := by
  have hl : opTab.length = 14 := rfl
  unfold operOf
  have : opTab.find? (fun o => o.2.2 == g && headIs 8 o.1 s) = some (opAt k) := by
    rw [List.find?_eq_some_iff_getElem]
    refine ⟨h, k, by omega, by unfold opAt; rw [List.getD_eq_getElem?_getD, List.getElem?_eq_getElem (by omega)]; rfl, fun j hj => ?_⟩
    have := hno j hj
    unfold opAt at this
    rw [List.getD_eq_getElem?_getD, List.getElem?_eq_getElem (by omega)] at this
    simp only [Option.getD_some] at this
    rw [this]
    rfl
  rw [this]
  rfl
theorem oper_no {g : Nat} {s : PS} (hno : ∀ j, j < 14 → ((opAt j).2.2 == g && headIs 8 (opAt j).1 s) = false) : operOf g s = none := by
  have hl : opTab.length = 14 := rfl
  unfold operOf
  rw [List.find?_eq_none.2 (fun x hx => by
    obtain ⟨j, hj⟩ := List.getElem?_of_mem hx
    have := hno j (by have := (List.getElem?_eq_some_iff.1 hj).1; omega)
    unfold opAt at this
    rw [List.getD_eq_getElem?_getD, hj] at this
    simp only [Option.getD_some] at this
    rw [this]
    decide)]
  rfl
/-- What a look-up in a table tells. -/
def noV (b : Int) (o : Option Nat) : Value := match o with
  | some k => .tuple #[.int .i64 (b + (k : Nat)), .bool true]
  | none => .tuple #[.int .i64 0, .bool false]
set_option maxRecDepth 100000 in
set_option maxHeartbeats 4000000 in
theorem paxisOf_any (t : List Nat) (w : World) (ht : okL t) (hE : EnvG w) :
    Calls Tryz.prog 97 #[.string (T t)] w fun e w' => e = .returned (noV 0 (axisNo t)) ∧ w' = w := by
  have HSG := hide hE.axes
  have HT := hide ht
  clear hE ht
  go_enter Tryz.func97, Tryz.ntmps97
  go_wp2_with (refine wpList_load_mid rfl 144 _ rfl 6 0 rfl axCells _ (unhide HSG) Tryz.underlying144 rfl (by kernel_rfl) ?_)
  have hix := ax_index
  generalize axCells.toArray = sv at *
  go_loopw [7] (fun v wr => ∃ k : Nat, v = .int .i64 (k : Nat) ∧ k ≤ 12 ∧ Hid (∀ j, j < k → (axAt j == t) = false) ∧ wr = w) (fun v _ => 12 - (intOf v).toNat)
  case atStart => exact ⟨0, rfl, by omega, hide (fun j hj => absurd hj (by omega)), rfl⟩
  case round =>
    obtain ⟨k, rfl, hk, HNO, rfl⟩ := hrel
    by_cases hkn : k < 12
    · have hi := hix k hkn
      have HEQ := hide (T_eq2 (tab_asc.2.1 k hkn) (unhide HT))
      have HY := hide (fun h => axis_yes hkn (unhide HNO) h)
      have HN2 : Hid ((axAt k == t) = false → ∀ j, j < k + 1 → (axAt j == t) = false) := hide fun h j hj => by
        by_cases hjk : j = k
        · rw [hjk]; exact h
        · exact unhide HNO j (by omega)
      clear hix
      have n1 : (k : Int) < 12 := by omega
      generalize axAt k = ak at *
      cases hb : (ak == t) with
      | true =>
        rw [hb] at HEQ
        have q := unhide HEQ
        have HY2 := hide (unhide HY hb)
        clear HY HN2 hb
        go_wp2_with fail
        go_returns
        exact ⟨by rw [unhide HY2]; exact congrArg (fun n => Ending.returned (.tuple #[.int .i64 n, .bool true])) (by simp), rfl⟩
      | false =>
        rw [hb] at HEQ
        have q := unhide HEQ
        have HY2 := hide (unhide HN2 hb)
        clear HY HN2 hb HNO
        go_wp2_with fail
        exact ⟨⟨k + 1, rfl, by omega, HY2, trivial⟩, by show 12 - ((k : Int) + 1).toNat < 12 - (k : Int).toNat; omega⟩
    · obtain rfl : k = 12 := by omega
      clear hix
      have HZ := hide (axis_no (unhide HNO))
      clear HNO
      go_wp2_with fail
      go_returns
      exact ⟨by rw [unhide HZ]; rfl, rfl⟩
set_option maxRecDepth 100000 in
set_option maxHeartbeats 4000000 in
theorem ptypeOf_any (t : List Nat) (w : World) (ht : okL t) (hE : EnvG w) :
    Calls Tryz.prog 76 #[.string (T t)] w fun e w' => e = .returned (noV 3 (typeNo t)) ∧ w' = w := by
  have HSG := hide hE.types
  have HT := hide ht
  clear hE ht
  go_enter Tryz.func76, Tryz.ntmps76
  go_wp2_with (refine wpList_load_mid rfl 129 _ rfl 5 0 rfl tyCells _ (unhide HSG) Tryz.underlying129 rfl (by kernel_rfl) ?_)
  have hix := ty_index
  generalize tyCells.toArray = sv at *
  go_loopw [7] (fun v wr => ∃ k : Nat, v = .int .i64 (k : Nat) ∧ k ≤ 4 ∧ Hid (∀ j, j < k → (tyAt j == t) = false) ∧ wr = w) (fun v _ => 4 - (intOf v).toNat)
  case atStart => exact ⟨0, rfl, by omega, hide (fun j hj => absurd hj (by omega)), rfl⟩
  case round =>
    obtain ⟨k, rfl, hk, HNO, rfl⟩ := hrel
    by_cases hkn : k < 4
    · have hi := hix k hkn
      have HEQ := hide (T_eq2 (tab_asc.2.2 k hkn) (unhide HT))
      have HY := hide (fun h => type_yes hkn (unhide HNO) h)
      have HN2 : Hid ((tyAt k == t) = false → ∀ j, j < k + 1 → (tyAt j == t) = false) := hide fun h j hj => by
        by_cases hjk : j = k
        · rw [hjk]; exact h
        · exact unhide HNO j (by omega)
      clear hix
      have n1 : (k : Int) < 4 := by omega
      generalize tyAt k = ak at *
      cases hb : (ak == t) with
      | true =>
        rw [hb] at HEQ
        have q := unhide HEQ
        have HY2 := hide (unhide HY hb)
        clear HY HN2 hb
        go_wp2_with fail
        go_returns
        exact ⟨by rw [unhide HY2]; exact congrArg (fun n => Ending.returned (.tuple #[.int .i64 n, .bool true])) (by simp), rfl⟩
      | false =>
        rw [hb] at HEQ
        have q := unhide HEQ
        have HY2 := hide (unhide HN2 hb)
        clear HY HN2 hb HNO
        go_wp2_with fail
        exact ⟨⟨k + 1, rfl, by omega, HY2, trivial⟩, by show 4 - ((k : Int) + 1).toNat < 4 - (k : Int).toNat; omega⟩
    · obtain rfl : k = 4 := by omega
      clear hix
      have HZ := hide (type_no (unhide HNO))
      clear HNO
      go_wp2_with fail
      go_returns
      exact ⟨by rw [unhide HZ]; rfl, rfl⟩
set_option maxRecDepth 100000 in
set_option maxHeartbeats 4000000 in
theorem poperOf_any (p g : Nat) (s : PS) (w : World) (h : PV w p s) (hE : EnvG w) :
    Calls Tryz.prog 51 #[.pointer (some ⟨p, 0, none⟩), .int .i64 (g : Nat)] w fun e w' => e = .returned (noV 0 (operOf g s)) ∧ PV w' p (popIf (operOf g s).isSome s) ∧ Kq (fun j => j = p) w w' := by
  have HSG := hide hE.ops
  have HV := hide h
  clear hE h
  go_enter Tryz.func51, Tryz.ntmps51
  go_wp2_with (refine wpList_load_mid rfl 106 _ rfl 1 0 rfl opCells _ (unhide HSG) Tryz.underlying106 rfl (by kernel_rfl) ?_)
  have hix := op_index
  generalize opCells.toArray = sv at *
  go_loopw [9] (fun v wr => ∃ k : Nat, v = .int .i64 (k : Nat) ∧ k ≤ 14 ∧ Hid (∀ j, j < k → ((opAt j).2.2 == g && headIs 8 (opAt j).1 s) = false) ∧ Hid (PV wr p s) ∧ Hid (Kq (fun j => j = p) w wr)) (fun v _ => 14 - (intOf v).toNat)
  case atStart => exact ⟨0, rfl, by omega, hide (fun j hj => absurd hj (by omega)), HV, hide (Kq.refl _ _)⟩
  case round =>
    obtain ⟨k, rfl, hk, HNO, HPV, HKQ⟩ := hrel
    clear HV
    by_cases hkn : k < 14
    · have hi := hix k hkn
      have HY := hide (fun h => oper_yes hkn (unhide HNO) h)
      have HN2 : Hid (((opAt k).2.2 == g && headIs 8 (opAt k).1 s) = false → ∀ j, j < k + 1 → ((opAt j).2.2 == g && headIs 8 (opAt j).1 s) = false) := hide fun h j hj => by
        by_cases hjk : j = k
        · rw [hjk]; exact h
        · exact unhide HNO j (by omega)
      have HOP := hide (poperator_any p (opAt k).1 s wr (unhide HPV) (tab_asc.1 k hkn))
      clear hix
      have n1 : (k : Int) < 14 := by omega
      have HBC := hide (beq_cast (opAt k).2.2 g)
      have HAS := hide (tab_asc.1 k hkn)
      generalize opAt k = ak at *
      obtain ⟨a1, a2, a3⟩ := ak
      simp only at hi HY HN2 HOP HBC HAS
      have hba : Below wr.heap.size wr (wr.alloc (.cells #[.string (T a1), .int .i64 (a2 : Nat), .int .i64 (a3 : Nat)] 105)) := (Below.refl _ _).alloc (Nat.le_refl _) _
      have hca : (wr.alloc (.cells #[.string (T a1), .int .i64 (a2 : Nat), .int .i64 (a3 : Nat)] 105)).heap[wr.heap.size]? = some (.cells #[.string (T a1), .int .i64 (a2 : Nat), .int .i64 (a3 : Nat)] 105 (0, 0)) := palloc_new _ _
      have hop := fun w' (hb : Below wr.heap.size wr w') => poperator_any p a1 s w' ((unhide HPV).below hb) (unhide HAS)
      clear HOP
      obtain ⟨W, eW⟩ : ∃ W, (wr.alloc (.cells #[.string (T a1), .int .i64 (a2 : Nat), .int .i64 (a3 : Nat)] 105)) = W := ⟨_, rfl⟩
      rw [eW] at hba hca
      have HBA := hide hba
      have HPVA := hide ((unhide HPV).below hba)
      have c0 : W.cell? ⟨wr.heap.size, 0, none⟩ = some (.string (T a1)) := pcell hca 0
      have c1 : W.cell? ⟨wr.heap.size, 1, none⟩ = some (.int .i64 (a2 : Nat)) := pcell hca 1
      have c2 : W.cell? ⟨wr.heap.size, 2, none⟩ = some (.int .i64 (a3 : Nat)) := pcell hca 2
      have hlt := (Array.getElem?_eq_some_iff.1 hca).1
      cases hb : (a3 == g) with
      | false =>
        rw [hb] at HBC HN2
        have q := unhide HBC
        have HN3 := hide (unhide HN2 rfl)
        have HX : Hid (ClsP W W.drew) := hide ⟨(Below.refl _ _).drew⟩
        have HCE := hide (fun w' (hC : ClsP W w') => And.intro (pkept hC.bel c0) (And.intro (pkept hC.bel c1) (pkept hC.bel c2)))
        clear HN2 HY HNO hb hop
        go_wp2_with fail
        refine wp_region_cls (ClsP W) (by kernel_rfl) (by kernel_rfl) (unhide HX) ?_
        repeat
          (first
            | go_big_quiet_skip
            | (go_big_quiet_want
               go_big_quiet_op
               first
                 | go_big_quiet_on
                 | (apply Exists.intro
                    refine ⟨fun w' hC => ?_, ?_⟩
                    · (obtain ⟨k0, k1, k2⟩ := unhide HCE _ hC; go_simp; first | done | rfl)
                    go_big_quiet_on)))
        refine wpQuiet_nil ?_
        intro w2 hC2
        have HB2 := hide (Below.then (unhide HBA) hC2.bel)
        clear hC2 HX HCE c0 c1 c2
        go_wp2_with fail
        exact ⟨⟨k + 1, rfl, by omega, HN3, hide ((unhide HPV).below (unhide HB2)), hide ((unhide HKQ).andThen (Kq.of (S := fun j => j = p) (unhide HB2)) (fun _ _ h => h))⟩, by show 14 - ((k : Int) + 1).toNat < 14 - (k : Int).toNat; omega⟩
      | true =>
        rw [hb] at HBC HN2 HY
        have q := unhide HBC
        have hp1 : p < wr.heap.size := (unhide HPV).lt
        have HP1 := hide (show wr.heap.size ≠ p from by omega)
        have HOP := hide hop
        have HC1 := hide c1
        clear HNO hb hop hp1
        go_wp2_with fail
        cases hh : headIs 8 a1 s with
        | true =>
          rw [hh] at HOP
          have HY2 := hide (unhide HY hh)
          clear HY HN2 hh
          go_region_law (first
            | (go_simp; go_at_call 64; refine (unhide HOP _ (by repeat (first | exact unhide HBA | refine Below.drew ?_))).mono ?_; rintro e w2 ⟨rfl, r1, r2⟩; (have HPV2 := hide r1); (have HK2 := hide r2); (have c1' : w2.cell? ⟨wr.heap.size, 1, none⟩ = some (.int .i64 (a2 : Nat)) := keptK r2 (by exact unhide HC1) (unhide HP1)); clear r1 r2))
          all_goals
            go_wp2_with fail
            go_returns
            have hz := unhide HY2
            exact ⟨by rw [hz]; exact congrArg (fun n => Ending.returned (.tuple #[.int .i64 n, .bool true])) (by simp), by rw [hz]; exact unhide HPV2, (((unhide HKQ).andThen (Kq.of (S := fun j => j = p) (unhide HBA)) (fun _ _ h => h)).drew).andThen (unhide HK2) (fun _ _ h => h)⟩
        | false =>
          rw [hh] at HOP
          have HN3 := hide (unhide HN2 hh)
          clear HY HN2 hh
          go_region_law (first
            | (go_simp; go_at_call 64; refine (unhide HOP _ (by repeat (first | exact unhide HBA | refine Below.drew ?_))).mono ?_; rintro e w2 ⟨rfl, r1, r2⟩; (have HPV2 := hide r1); (have HK2 := hide r2); clear r1 r2))
          all_goals
            go_wp2_with fail
            exact ⟨⟨k + 1, rfl, by omega, HN3, HPV2, hide ((((unhide HKQ).andThen (Kq.of (S := fun j => j = p) (unhide HBA)) (fun _ _ h => h)).drew).andThen (unhide HK2) (fun _ _ h => h))⟩, by show 14 - ((k : Int) + 1).toNat < 14 - (k : Int).toNat; omega⟩
    · obtain rfl : k = 14 := by omega
      clear hix
      have HZ := hide (oper_no (unhide HNO))
      clear HNO
      go_wp2_with fail
      go_returns
      have hz := unhide HZ
      exact ⟨by rw [hz]; rfl, by rw [hz]; exact unhide HPV, unhide HKQ⟩
end Go.Proofs.YtnmcambbpgoodaaGreatDoor
