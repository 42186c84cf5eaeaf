/- Several texts, laid as one. -/
import Derived.Test.YtefjfjieoiegnaaGreatDoorGai
import Derived.Deep.DeepCutAuto
import Derived.Test.YtefjfjieoiegnaaGreatDoorGaa
import Derived.ScopeJumps
import Derived.BigQuiet
import Derived.BigGuard
import Derived.BigCall
import Derived.Deep.QuietTactic
/- A token more: xmlscan's tell and roomForRun. -/
namespace Go.Proofs.YtefjfjieoiegnaaGreatDoor
open Go.RowKit
/-- Behind an append onto the tokens. -/
theorem toks_snoc {w w' : World} {B : Nat} {vt v' va : Value} {ts : List XTok} {t : XTok} {vs : List Value} (h1 : vs.length = ts.length) (h2 : w.ownsRow B 37 4 vt ts.length (tokRow ts vs))
    (h3 : ∀ (i : Nat) (t : XTok) (v : Value), ts[i]? = some t → vs[i]? = some v → AttrsAt w B v t.attrs) (ha : AttrsAt w B va t.attrs) (hg : w.grownBy w' vt.ownBlock)
    (hown : w'.ownsRow B 37 4 v' (ts.length + 1) (tokRow ts vs ++ tokCells t va)) : Toks w' B v' (ts ++ [t]) := by
  have hrow : ∀ {v : Value} {l : List (List Nat × List Nat)}, AttrsAt w B v l → AttrsAt w' B v l := fun {v l} hv => by
    refine ⟨hv.1, ?_⟩
    rcases hv.2 with e | ⟨g, cap, cur, e1, e2, e3, e4⟩
    · exact .inl e
    · refine .inr ⟨g, cap, cur, e1, e2, ?_, e4⟩
      rw [hg.block g (Array.getElem?_eq_some_iff.1 e3).1 (fun e => owns_apart hv h2 (by decide) g (by rw [e1]; rfl) e.symm)]
      exact e3
  refine ⟨vs ++ [va], by simp [h1], ?_, ?_⟩
  · rw [tokRow_snoc ts vs t va h1, List.length_append]
    exact hown
  · intro i x v hx hv
    by_cases hi : i < ts.length
    · rw [List.getElem?_append_left hi] at hx
      rw [List.getElem?_append_left (by omega)] at hv
      exact hrow (h3 i x v hx hv)
    · rw [List.getElem?_append_right (by omega)] at hx
      rw [List.getElem?_append_right (by omega), h1] at hv
      have : i - ts.length = 0 := by
        have := (List.getElem?_eq_some_iff.1 hx).1
        simp at this
        omega
      rw [this] at hx hv
      cases hx
      cases hv
      exact hrow ha
/-- Where the tokens' row was written, and all else stands. -/
theorem Rd.told {X W w' : World} {B p m : Nat} {vo vt vr v' va : Value} {s : RS} {t : XTok} {vs : List Value} (R : Rd X B p m vo vt vr s) (hb : Below X.heap.size X W) (h1 : vs.length = s.toks.length) (h2 : X.ownsRow B 37 4 vt s.toks.length (tokRow s.toks vs))
    (h3 : ∀ (i : Nat) (t : XTok) (v : Value), s.toks[i]? = some t → vs[i]? = some v → AttrsAt X B v t.attrs) (ha : AttrsAt X B va t.attrs) (hg : W.grownBy w' vt.ownBlock)
    (hown : w'.ownsRow B 37 4 v' (s.toks.length + 1) (tokRow s.toks vs ++ tokCells t va)) :
    Rd (w'.setCell ⟨p, 5, none⟩ v') B p m vo v' vr { s with toks := s.toks ++ [t] } ∧ w'.heap[p]? = some (.cells (rdArr s m vo vt vr) 63 (0, 0)) ∧
      (∀ v l, AttrsAt X B v l → AttrsAt (w'.setCell ⟨p, 5, none⟩ v') B v l) ∧ (∀ k o, W.heap[k]? = some o → vt.ownBlock ≠ some k → k ≠ p → (w'.setCell ⟨p, 5, none⟩ v').heap[k]? = some o) := by
  have RW := R.on hb
  have hvt : vt.ownBlock ≠ some p := owns_not h2 R.blk (by decide)
  have hp : w'.heap[p]? = some (.cells (rdArr s m vo vt vr) 63 (0, 0)) := by
    rw [hg.block p RW.lt (fun e => hvt e.symm)]; exact RW.blk
  have hk : ∀ k o, W.heap[k]? = some o → vt.ownBlock ≠ some k → k ≠ p → (w'.setCell ⟨p, 5, none⟩ v').heap[k]? = some o := fun k o ho h1 h2 => by
    rw [blk_other h2, hg.block k (Array.getElem?_eq_some_iff.1 ho).1 (fun e => h1 e.symm)]; exact ho
  have hrow : ∀ {base : Nat} {e : TypeId} {size : Nat} {v : Value} {n : Nat} {xs : List Value}, W.ownsRow base e size v n xs → e ≠ 37 → e ≠ 63 → (w'.setCell ⟨p, 5, none⟩ v').ownsRow base e size v n xs := fun ho e1 e2 =>
    owns_kept (S := fun k => vt.ownBlock = some k ∨ k = p) ho (fun k o hk' hs => hk k o hk' (fun e => hs (.inl e)) (fun e => hs (.inr e))) fun k hk' hs => by
      rcases hs with hs | rfl
      · exact owns_apart ho (owns_below h2 hb) e1 k hk' hs
      · exact owns_not ho RW.blk e2 hk'
  refine ⟨⟨?_, R.low, ?_, hrow RW.opn (by decide) (by decide), ?_, hrow RW.run (by decide) (by decide)⟩, hp, fun v l hv => hrow (owns_below hv hb) (by decide) (by decide), hk⟩
  · rw [blk_set hp]; rfl
  · refine RW.ents.kept ?_
    obtain ⟨es, clock, hm⟩ := RW.ents.map
    rw [hm]
    refine hk m _ hm (fun e => ?_) (RW.ents.ne RW.blk)
    obtain ⟨c, hc⟩ := owns_type (owns_below h2 hb) e
    rw [hm] at hc
    cases hc
  · have ht := toks_snoc h1 (owns_below h2 hb) (fun i t v a b => owns_below (h3 i t v a b) hb) (owns_below ha hb) hg hown
    refine ht.kept (· = p) (fun k o ho hs => by rw [blk_other hs]; exact ho) fun k c hs => ?_
    subst hs
    rw [hp]
    exact ⟨fun e => (by cases e), fun e => (by cases e)⟩
theorem Rd.from {w : World} {B p m : Nat} {vo vt vr : Value} {s : RS} (R : Rd w B p m vo vt vr s) (n : Nat) : Rd (w.setCell ⟨p, 7, none⟩ (.int .i64 (n : Nat))) B p m vo vt vr { s with runAt := n } := by
  refine R.keep (· = p) (fun k o hk hs => by rw [blk_other hs]; exact hk) (fun k hs => ?_) ?_ rfl rfl rfl rfl
  · subst hs
    exact ⟨_, _, R.blk, by decide, by decide, by decide, by decide⟩
  · rw [blk_set R.blk]; rfl
/-- A token in a block of its own. -/
def BoxAt (w : World) (b : Nat) (t : XTok) (va : Value) : Prop := w.cell? ⟨b, 0, none⟩ = some (.int .i64 (t.kind : Nat)) ∧ w.cell? ⟨b, 1, none⟩ = some (.string (T t.name)) ∧ w.cell? ⟨b, 2, none⟩ = some va ∧ w.cell? ⟨b, 3, none⟩ = some (.string (T t.text))
theorem BoxAt.kept {w w' : World} {b : Nat} {t : XTok} {va : Value} (h : BoxAt w b t va) (hk : w'.heap[b]? = w.heap[b]?) : BoxAt w' b t va := by
  unfold BoxAt World.cell? at *
  rw [hk]; exact h
theorem flush_eq (s : RS) : (s.run = [] → s.flush = s) ∧ (s.run ≠ [] → s.flush = { s with toks := s.toks ++ [⟨4, [], [], s.run⟩], run := [] }) := by
  unfold RS.flush
  exact ⟨fun h => by rw [if_pos h], fun h => by rw [if_neg h]⟩
/-- What is told behind the text. -/
theorem tell_eq (s : RS) (t : XTok) (pl : Nat) : s.tell t pl = if s.flush.toks.length = 4096 then .error (6, pl) else .ok { s.flush with runAt := s.place, toks := s.flush.toks ++ [t] } := rfl
end Go.Proofs.YtefjfjieoiegnaaGreatDoor
/- Walks with one label, and regions over a class of worlds. -/
namespace Go.Proofs.YtefjfjieoiegnaaGreatDoor
open Go.RowKit
/-- As Q; by a goto: J of its label. -/
def jumps (J : Nat → Act → World → Prop) (Q : Exit → Act → World → Prop) : Exit → Act → World → Prop
  | .goto l, a, w => J l a w
  | e, a, w => Q e a w
section
variable {P : Program} {a : Act} {w : World} {Q : Exit → Act → World → Prop} {J : Nat → Act → World → Prop}
theorem jumps_normal : jumps J Q .normal a w = Q .normal a w := rfl
theorem jumps_exit (id : Nat) : jumps J Q (.exit id) a w = Q (.exit id) a w := rfl
theorem jumps_ret : jumps J Q .ret a w = Q .ret a w := rfl
theorem jumps_goto (l : Nat) : jumps J Q (.goto l) a w = J l a w := rfl
theorem jumps_panic (ch : List PanicEntry) : jumps J Q (.panic ch) a w = Q (.panic ch) a w := rfl
theorem jumps_mono {J J' : Nat → Act → World → Prop} (h : ∀ l a w, J l a w → J' l a w) (e : Exit) (a : Act) (w : World) (hq : jumps J Q e a w) : jumps J' Q e a w := by
  cases e with
  | goto l => exact h l a w hq
  | _ => exact hq
end
attribute [local go_sem] jumps_normal jumps_exit jumps_ret jumps_goto jumps_panic
section
variable {P : Program} {a : Act} {w : World} {Q : Exit → Act → World → Prop}
/-- One label, to which the run comes back with less to do. -/
theorem wp_scope_one {c rest1 : Code} (l1 : Nat) (Inv : Nat → Act → World → Prop) (hf1 : findLabel c l1 = some (Code.skip.seq rest1))
    (round' : ∀ n a w, Inv n a w → rest1.wp P (jumps (fun l a' w' => l = l1 ∧ ∃ n', n' < n ∧ Inv n' a' w') Q) a w)
    (first : (∀ n a w, Inv n a w → rest1.wp P (jumps (fun l a' w' => l = l1 ∧ ∃ n', Inv n' a' w') Q) a w) → c.wp P (jumps (fun l a' w' => l = l1 ∧ ∃ n', Inv n' a' w') Q) a w) : (Code.scope c).wp P Q a w := by
  have round := fun n a w hI => wp_seq (wp_skip (round' n a w hI))
  have hfirst := first fun n a w hI => Code.wp_mono (fun e a w hq => jumps_mono (fun l a w h => ⟨h.1, h.2.choose, h.2.choose_spec.2⟩) e a w hq) (round' n a w hI)
  intro b k cs
  have key1 : ∀ n a w, Inv n a w → ∃ e a' w', Q e a' w' ∧ Arrives P (lone (b.at a (.code (Code.skip.seq rest1) :: .inScope c :: k)) cs w) b k cs e a' w' := by
    intro n
    induction n using Nat.strongRecOn with
    | _ n ih =>
      intro a w hI
      obtain ⟨e, a₁, w₁, hq, harr⟩ := round n a w hI b (.inScope c :: k) cs
      cases e with
      | normal => exact ⟨.normal, a₁, w₁, hq, Steps.trans harr (.one step_inScope)⟩
      | exit id => exact ⟨.exit id, a₁, w₁, hq, fun k' hk => harr k' (by simp [exitTo, hk])⟩
      | goto l' =>
        obtain ⟨rfl, n', hlt, hI'⟩ := hq
        obtain ⟨e₂, a₂, w₂, hq₂, harr₂⟩ := ih n' hlt a₁ w₁ hI'
        exact ⟨e₂, a₂, w₂, hq₂, .of_steps (harr _ (by simp [gotoIn, hf1])) harr₂⟩
      | ret => exact ⟨_, a₁, w₁, hq, harr⟩
      | panic ch => exact ⟨_, a₁, w₁, hq, harr⟩
      | outgrown => exact ⟨_, a₁, w₁, hq, harr⟩
  obtain ⟨e, a₁, w₁, hq, harr⟩ := hfirst b (.inScope c :: k) cs
  cases e with
  | normal => exact ⟨.normal, a₁, w₁, hq, .head step_scope (Steps.trans harr (.one step_inScope))⟩
  | exit id => exact ⟨.exit id, a₁, w₁, hq, fun k' hk => .head step_scope (harr k' (by simp [exitTo, hk]))⟩
  | goto l' =>
    obtain ⟨rfl, n', hI'⟩ := hq
    obtain ⟨e₂, a₂, w₂, hq₂, harr₂⟩ := key1 n' a₁ w₁ hI'
    exact ⟨e₂, a₂, w₂, hq₂, .of_steps (.head step_scope (harr _ (by simp [gotoIn, hf1]))) harr₂⟩
  | ret => exact ⟨_, a₁, w₁, hq, .of_steps (.one step_scope) harr⟩
  | panic ch => exact ⟨_, a₁, w₁, hq, .of_steps (.one step_scope) harr⟩
  | outgrown => exact ⟨_, a₁, w₁, hq, .of_steps (.one step_scope) harr⟩
end
theorem wp_region_cls {P : Program} {id : Nat} {Q : Exit → Act → World → Prop} {a : Act} {w : World} {l : List Oper} (C : World → Prop) (hm : P.follows .mixedOrders = true) (hB : Region.lexB .any l.toArray = true) (hC : C w.drew)
    (h : wpQuiet P l.toArray C (fun a' => ∀ w', C w' → Q .normal a' w') l a) : (Code.region id l.toArray true).wp P Q a w :=
  wp_region_quiet (C := C) hm hB hC (by simpa using h)
/-- Worlds behind one. -/
structure ClsW (W0 : World) (u : World) : Prop where
  bel : Below W0.heap.size W0 u
theorem arr_of {t : Array Value} {n : Nat} (h : t.size = n) : t = ((List.range n).map fun i => t[i]!).toArray := by
  apply Array.ext
  · simp [h]
  · intro i h1 h2
    simp [h1]
end Go.Proofs.YtefjfjieoiegnaaGreatDoor
