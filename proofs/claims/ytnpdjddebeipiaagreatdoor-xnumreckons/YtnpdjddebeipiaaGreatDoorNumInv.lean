/- A statement that leaves its order open, by what holds behind each of its steps. -/
import Derived.Test.YtnpdjddebeipiaaGreatDoorNumNamed
import Derived.Deep.RegionHeld3
import Derived.Deep.DrawnRows
import Derived.Deep.DeepCutAuto
namespace Go.Proofs.YtnpdjddebeipiaaGreatDoor
open Go.RowKit
/-- How many have not come up. -/
def openN (L : Array Bool) : Nat := L.toList.countP (fun b => !b)
theorem countP_lt_set : ∀ (l : List Bool) (i : Nat), l[i]? = some false → (l.set i true).countP (fun b => !b) < l.countP (fun b => !b)
  | [], i, h => by simp at h
  | b :: l, 0, h => by
    simp at h
    subst h
    simp
  | b :: l, i + 1, h => by
    have := countP_lt_set l i (by simpa using h)
    simp only [List.set_cons_succ, List.countP_cons]
    omega
theorem open_set {L : Array Bool} {i : Nat} (h : L.getD i true = false) : openN (L.setIfInBounds i true) < openN L := by
  unfold openN
  rw [Array.toList_setIfInBounds]
  refine countP_lt_set _ _ ?_
  rw [Array.getD_eq_getD_getElem?] at h
  cases hx : L[i]? with
  | none => rw [hx] at h; simp at h
  | some b => rw [hx] at h; simp at h; subst h; simpa using hx
/-- What holds at the beginning, and behind each step if it held ahead of it, and ends well, holds whatever the order. -/
theorem wpAny_inv {P : Program} {md : Region.Mode} {ops : Array Oper} {Q : Exit → Act → World → Prop} (I : Array Bool → Act → World → Prop)
    (hend : ∀ L a w, I L a w → Region.ready md ops L = [] → Q .normal a w)
    (hstep : ∀ L a w i, I L a w → i ∈ Region.ready md ops L → wpOp P ops Q i (fun a' w' => I (L.setIfInBounds i true) a' w') a w) :
    ∀ (n : Nat) (L : Array Bool) (a : Act) (w : World), openN L ≤ n → I L a w → wpAny P md ops Q n L a w := by
  intro n
  induction n with
  | zero =>
    intro L a w hn hI
    have hr : Region.ready md ops L = [] := by
      rw [List.eq_nil_iff_forall_not_mem]
      intro i hi
      have := open_set (mem_ready.1 hi).1
      omega
    exact ⟨hr, hend L a w hI hr⟩
  | succ n ih =>
    intro L a w hn hI
    refine ⟨hend L a w hI, fun i hi => ?_⟩
    refine wpOp_mono (fun a' w' h => ?_) (hstep L a w i hI hi)
    refine ih _ a' w' ?_ h
    have := open_set (mem_ready.1 hi).1
    omega
theorem wp_region_inv {P : Program} {id : Nat} {ops : Array Oper} {Q : Exit → Act → World → Prop} {a : Act} {w : World} (hm : P.follows .mixedOrders = true) (I : Array Bool → Act → World → Prop)
    (h0 : I (Array.replicate ops.size false) a w.drew)
    (hend : ∀ L a w, I L a w → Region.ready .any ops L = [] → Q .normal a w)
    (hstep : ∀ L a w i, I L a w → i ∈ Region.ready .any ops L → wpOp P ops Q i (fun a' w' => I (L.setIfInBounds i true) a' w') a w) : (Code.region id ops true).wp P Q a w :=
  wp_region_any hm (wpAny_inv I hend hstep ops.size _ a w.drew (by unfold openN; rw [Array.toList_replicate]; exact Nat.le_trans List.countP_le_length (by simp)) h0)
theorem wp_region_inv2 {P : Program} {id : Nat} {ops : Array Oper} {Q : Exit → Act → World → Prop} {a : Act} {w : World} (hm : P.follows .mixedOrders = true) (I : Act → World → Array Bool → Act → World → Prop)
    (h0 : I a w.drew (Array.replicate ops.size false) a w.drew)
    (hend : ∀ L a' w', I a w.drew L a' w' → Region.ready .any ops L = [] → Q .normal a' w')
    (hstep : ∀ L a' w' i, I a w.drew L a' w' → i ∈ Region.ready .any ops L → wpOp P ops Q i (fun a'' w'' => I a w.drew (L.setIfInBounds i true) a'' w'') a' w') : (Code.region id ops true).wp P Q a w :=
  wp_region_inv hm (I a w.drew) h0 hend hstep
theorem not_ready {md : Region.Mode} {ops : Array Oper} {L : Array Bool} {i : Nat} {o : Oper} (hr : Region.ready md ops L = []) (ho : ops[i]? = some o) (hd : o.after.all (fun e => !Region.binds md e || L.getD e.on false) = true) : L.getD i true = true := by
  cases h : L.getD i true with
  | true => rfl
  | false =>
    exfalso
    have hm : i ∈ Region.ready md ops L := by
      refine mem_ready.2 ⟨h, o, ho, fun e he hb => ?_⟩
      have := Array.all_eq_true'.1 hd e he
      rw [hb] at this
      simpa using this
    rw [hr] at hm
    cases hm
/-- A step's own dependencies have come up. -/
theorem dep_done {ops : Array Oper} {L : Array Bool} {i j : Nat} {o : Oper} {g : Ground} (hi : i ∈ Region.ready .any ops L) (ho : ops[i]? = some o) (hj : (⟨j, g⟩ : Edge) ∈ o.after) (hb : Region.binds .any ⟨j, g⟩ = true) : L.getD j false = true := by
  obtain ⟨_, o', ho', hall⟩ := mem_ready.1 hi
  obtain rfl := Option.some.inj (ho.symm.trans ho')
  exact hall _ hj hb
/-- A frame with some slots written. -/
def setT (a : Act) (l : List (Nat × Value)) : Act := { a with tmps := l.foldl (fun t x => t.setIfInBounds x.1 x.2) a.tmps }
/-- A new number's variable: where it lies, and what it holds. -/
structure NumBox (w W : World) (b : Nat) (q : Value) (z : Bool) (K U : Int) : Prop where
  ptr : q = .pointer (some ⟨b, 0, none⟩)
  ge : W.heap.size ≤ b
  at_ : NumAt w b (if z then K else 0) (if z then U else 0)
theorem NumBox.below {w w' W : World} {b : Nat} {q : Value} {z : Bool} {K U : Int} (h : NumBox w W b q z K U) (hb : Below w.heap.size w w') : NumBox w' W b q z K U := ⟨h.ptr, h.ge, h.at_.below hb⟩
theorem NumBox.lt {w W : World} {b : Nat} {q : Value} {z : Bool} {K U : Int} (h : NumBox w W b q z K U) : b < w.heap.size := block_lt_of_cell h.at_.kind
/-- .. when it is written. -/
def putN (w : World) (b : Nat) (k v : Int) : World := (w.setCell ⟨b, 0, none⟩ (.int .i64 k)).setCell ⟨b, 1, none⟩ (.int .i64 v)
theorem NumAt.put {w : World} {b : Nat} {k v : Int} (h : NumAt w b k v) (k' v' : Int) : NumAt (putN w b k' v') b k' v' := by
  obtain ⟨h1, h2, h3, h4⟩ := h
  unfold putN
  refine ⟨?_, ?_, ?_, ?_⟩
  all_goals simp [go_sem, *]
theorem NumAt.keep {w : World} {b c : Nat} {k v : Int} (h : NumAt w b k v) (hn : b ≠ c) (k' v' : Int) : NumAt (putN w c k' v') b k v := by
  obtain ⟨h1, h2, h3, h4⟩ := h
  have hn' : c ≠ b := fun e => hn e.symm
  unfold putN
  refine ⟨?_, ?_, ?_, ?_⟩
  all_goals simp [go_sem, *]
theorem putN_below {w w' : World} {B b : Nat} (h : Below B w w') (hk : B ≤ b) (k v : Int) : Below B w (putN w' b k v) := (h.setCell hk _).setCell hk _
theorem NumBox.put {w W : World} {b : Nat} {q : Value} {z : Bool} {K U : Int} (h : NumBox w W b q z K U) : NumBox (putN w b K U) W b q true K U := ⟨h.ptr, h.ge, h.at_.put K U⟩
theorem NumBox.keep {w W : World} {b c : Nat} {q : Value} {z : Bool} {K U : Int} (h : NumBox w W b q z K U) (hn : b ≠ c) (k v : Int) : NumBox (putN w c k v) W b q z K U := ⟨h.ptr, h.ge, h.at_.keep hn k v⟩
theorem NumBox.new {w W : World} (hs : W.heap.size ≤ w.heap.size) (K U : Int) : NumBox (w.alloc (.cells #[.int .i64 0, .int .i64 0] 24)) W w.heap.size (.pointer (some ⟨w.heap.size, 0, none⟩)) false K U :=
  ⟨rfl, hs, ⟨by simp [go_sem], by simp [go_sem], by simp [go_sem], by simp [go_sem]⟩⟩
end Go.Proofs.YtnpdjddebeipiaaGreatDoor
