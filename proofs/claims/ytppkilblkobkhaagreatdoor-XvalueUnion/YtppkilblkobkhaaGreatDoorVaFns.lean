/- The functions of values: xvalue.functions, and what stands there at a name. (Written by mkvafns.py.) -/
import Derived.Test.YtppkilblkobkhaaGreatDoorBase
import Derived.Laws.EntriesVeiled
import Derived.Maps.OwnSet
namespace Go.Proofs.YtppkilblkobkhaaGreatDoor
open Go.RowKit Go.Maps
theorem strKeyed : Keyed Tryz.prog 9 := Maps.string_keyed Tryz.underlying9
/-- How a function of the table reads: as it is. -/
def fnElem (v : Value) : Option (DataW Value × List MemPlace) := some (.held v, [])
theorem fnElem_inv {v : Value} {d : Value} {ps : List MemPlace} (h : fnElem v = some (.held d, ps)) : v = d := by
  unfold fnElem at h
  simpa using congrArg (fun x => x.map (·.1)) h
/-- A function of the table, as a value. -/
def fnV (l m : Int) (c n : Bool) (f : Value) : Value := .agg #[.int .i64 l, .int .i64 m, .bool c, .bool n, f]
/-- The table. -/
def fnTab : List (List UInt8 × Value) := [
  ([108, 97, 115, 116], fnV 0 0 true false (.nilFunc)),
  ([112, 111, 115, 105, 116, 105, 111, 110], fnV 0 0 true false (.nilFunc)),
  ([98, 111, 111, 108, 101, 97, 110], fnV 1 1 false false (.func (.func 27) #[] #[])),
  ([110, 111, 116], fnV 1 1 false false (.func (.func 28) #[] #[])),
  ([116, 114, 117, 101], fnV 0 0 false false (.func (.func 29) #[] #[])),
  ([102, 97, 108, 115, 101], fnV 0 0 false false (.func (.func 30) #[] #[])),
  ([110, 117, 109, 98, 101, 114], fnV 0 1 true false (.func (.func 31) #[] #[])),
  ([102, 108, 111, 111, 114], fnV 1 1 false false (.func (.func 32) #[] #[])),
  ([99, 101, 105, 108, 105, 110, 103], fnV 1 1 false false (.func (.func 33) #[] #[])),
  ([114, 111, 117, 110, 100], fnV 1 1 false false (.func (.func 34) #[] #[])),
  ([115, 117, 109], fnV 1 1 false true (.func (.func 35) #[] #[])),
  ([99, 111, 117, 110, 116], fnV 1 1 false true (.func (.func 36) #[] #[])),
  ([115, 116, 114, 105, 110, 103], fnV 0 1 true false (.func (.func 37) #[] #[])),
  ([99, 111, 110, 99, 97, 116], fnV 2 8 false false (.func (.func 38) #[] #[])),
  ([115, 116, 97, 114, 116, 115, 45, 119, 105, 116, 104], fnV 2 2 false false (.func (.func 39) #[] #[])),
  ([99, 111, 110, 116, 97, 105, 110, 115], fnV 2 2 false false (.func (.func 40) #[] #[])),
  ([115, 117, 98, 115, 116, 114, 105, 110, 103, 45, 98, 101, 102, 111, 114, 101], fnV 2 2 false false (.func (.func 41) #[] #[])),
  ([115, 117, 98, 115, 116, 114, 105, 110, 103, 45, 97, 102, 116, 101, 114], fnV 2 2 false false (.func (.func 42) #[] #[])),
  ([115, 116, 114, 105, 110, 103, 45, 108, 101, 110, 103, 116, 104], fnV 0 1 true false (.func (.func 43) #[] #[])),
  ([110, 111, 114, 109, 97, 108, 105, 122, 101, 45, 115, 112, 97, 99, 101], fnV 0 1 true false (.func (.func 44) #[] #[])),
  ([116, 114, 97, 110, 115, 108, 97, 116, 101], fnV 3 3 false false (.func (.func 45) #[] #[])),
  ([115, 117, 98, 115, 116, 114, 105, 110, 103], fnV 2 3 false false (.func (.func 46) #[] #[])),
  ([102, 111, 114, 109, 97, 116, 45, 110, 117, 109, 98, 101, 114], fnV 2 2 false false (.func (.func 47) #[] #[])),
  ([110, 97, 109, 101], fnV 0 1 true true (.func (.func 48) #[] #[])),
  ([108, 111, 99, 97, 108, 45, 110, 97, 109, 101], fnV 0 1 true true (.func (.func 49) #[] #[])),
  ([110, 97, 109, 101, 115, 112, 97, 99, 101, 45, 117, 114, 105], fnV 0 1 true true (.func (.func 50) #[] #[]))]
def fnsUp (k : Nat) : DataW Value := (fnTab.take k).foldl (fun D x => D.put (.string x.1) (.held x.2)) (.map [])
theorem wpList_insert_own {H : Type} {P : Program} (w : World) {ops : Array Oper} {rest : List Oper} {o : Oper} {a : Act} {Q : Exit → Act → World → Prop}
    (hg : o.guard = none) (m x v : Operand) (t : TypeId) (hop : o.op = Op.insert t m x v)
    (k e : TypeId) (K : Keyed P k) (ht : P.underlying t = some (.map k e)) (R : Value → Option (DataW H × List MemPlace)) (b n : Nat) (D : DataW H)
    (hm : a.eval m = .map (some b)) (hown : w.ownsMap P k R b n D) (hn : n < maxLen) (key val : Value) (kl : Lit) (hx : a.eval x = key) (hv : a.eval v = val) (hkey : keyOf P k key = some kl)
    (d : DataW H) (ps : List MemPlace) (hval : R val = some (d, ps))
    (hK : ∀ w', w'.ownsMap P k R b (n + 1) (D.put kl d) → w.grownBy w' (some b) → wpList P ops Q rest (a.put o.dst undef) w') :
    wpList P ops Q (o :: rest) a w := by
  refine wpList_plain hg fun K' hK' => ?_
  obtain ⟨w', hrun, r1, r2⟩ := hown.update K ht hn hkey hval
  unfold Oper.wp
  simp [execOp, hop, hm, hx, hv, hrun, Result.andThen]
  exact hK' _ _ (hK w' r1 r2)
def Owns (w : World) (b k : Nat) : Prop := w.ownsMap Tryz.prog 9 fnElem b k (fnsUp k)
theorem wpList_fn (w : World) {ops : Array Oper} {rest : List Oper} {o : Oper} {a : Act} {Q : Exit → Act → World → Prop}
    (W : World) (k b : Nat) (h : Owns w b k ∧ Below W.heap.size W w) (hg : o.guard = none) (m x v : Operand) (hop : o.op = Op.insert 59 m x v) (key : ByteArray) (val : Value)
    (htab : fnTab[k]? = some (key.data.toList, val)) (hm : a.eval m = .map (some b)) (hx : a.eval x = .string key) (hv : a.eval v = val)
    (hk : k < 26) (hs : key.size ≤ maxLen) (hb : W.heap.size ≤ b) (hK : ∀ w', Owns w' b (k + 1) ∧ Below W.heap.size W w' → wpList Tryz.prog ops Q rest (a.put o.dst undef) w') :
    wpList Tryz.prog ops Q (o :: rest) a w := by
  refine wpList_insert_own w hg m x v 59 hop 9 57 strKeyed Tryz.underlying59 fnElem b k (fnsUp k) hm h.1 (by unfold maxLen; omega) _ _ (.string key.data.toList) hx hv (Go.WideMaps.keyOf_string_mk Tryz.underlying9 hs) (.held val) [] rfl ?_
  intro w' hown hg'
  refine hK w' ⟨?_, ?_⟩
  · have e : fnsUp (k + 1) = (fnsUp k).put (.string key.data.toList) (.held val) := by
      unfold fnsUp
      rw [List.take_add_one, htab]
      simp
    unfold Owns
    rw [e]
    exact hown
  · exact h.2.grown hg' (by have := h.2.size; omega) (fun i hi => by cases hi; exact hb)
set_option maxRecDepth 100000 in
set_option maxHeartbeats 4000000 in
theorem fns_any (w : World) :
    Calls Tryz.prog 22 #[] w fun e w' => e = .returned (.map (some w.heap.size)) ∧ Owns w' w.heap.size 26 ∧ Below w.heap.size w w' := by
  have hmm := @run_makeMap Tryz.prog
  have hO : Owns (w.alloc (.map #[] 0)) w.heap.size 0 ∧ Below w.heap.size w (w.alloc (.map #[] 0)) := ⟨World.ownsMap_made w _ _ _, (Below.refl _ _).alloc (Nat.le_refl _) _⟩
  go_enter Tryz.func22, Tryz.ntmps22
  go_wp2_with (first | (refine wpList_fn _ w _ _ hO rfl _ _ _ rfl _ _ rfl rfl rfl rfl (by decide) (by decide) (Nat.le_refl _) ?_; clear hO; intro w1 hO; go_frame) | go_in)
  go_returns
  exact ⟨rfl, hO.1, hO.2⟩
theorem zeroFn (w : World) : (zeroValue 57).run Tryz.prog w = .ok (fnV 0 0 false false .nilFunc) w := by kernel_rfl
/-- What stands in the table at a name. -/
theorem fn_look {w : World} {b : Nat} (h : Owns w b 26) (key : ByteArray) (val : Value) (hs : key.size ≤ maxLen) (h1 : (fnsUp 26).atKey (.string key.data.toList) (.held (fnV 0 0 false false .nilFunc)) = .held val) (h2 : Maps.has (fnsUp 26) (.string key.data.toList) = true) :
    (Instr.lookup 59 (.map (some b)) (.string key) true).run Tryz.prog w = .ok (.tuple #[val, .bool true]) w := by
  obtain ⟨v, ps, hrun, hv⟩ := h.look_ok strKeyed Tryz.underlying59 (zeroFn w) (R := fnElem) rfl (Go.WideMaps.keyOf_string_mk Tryz.underlying9 hs)
  rw [h1] at hv
  rw [h2, fnElem_inv hv] at hrun
  exact hrun
theorem look_translate {w : World} {b : Nat} (h : Owns w b 26) : (Instr.lookup 59 (.map (some b)) (.string { data := #[116, 114, 97, 110, 115, 108, 97, 116, 101] }) true).run Tryz.prog w = .ok (.tuple #[.agg #[.int .i64 3, .int .i64 3, .bool false, .bool false, .func (.func 45) #[] #[]], .bool true]) w :=
  fn_look h _ _ (by decide) (by kernel_rfl) (by kernel_rfl)
theorem look_substring {w : World} {b : Nat} (h : Owns w b 26) : (Instr.lookup 59 (.map (some b)) (.string { data := #[115, 117, 98, 115, 116, 114, 105, 110, 103] }) true).run Tryz.prog w = .ok (.tuple #[.agg #[.int .i64 2, .int .i64 3, .bool false, .bool false, .func (.func 46) #[] #[]], .bool true]) w :=
  fn_look h _ _ (by decide) (by kernel_rfl) (by kernel_rfl)
end Go.Proofs.YtppkilblkobkhaaGreatDoor
