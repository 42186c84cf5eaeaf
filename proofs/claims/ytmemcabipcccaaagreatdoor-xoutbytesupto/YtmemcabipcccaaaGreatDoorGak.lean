/- Several texts, laid as one. -/
import Derived.Test.YtmemcabipcccaaaGreatDoorGaj
import Derived.Deep.RegionLawGrows
import Derived.Maps.OwnSet
import Derived.Deep.DeepCutAuto
import Derived.Test.YtmemcabipcccaaaGreatDoorGaa
import Derived.ScopeJumps
import Derived.BigQuiet
import Derived.BigGuard
import Derived.BigCall
import Derived.Deep.QuietTactic
/- A reader of XML in memory: its tokens, what is open, the text behind the last token. -/
namespace Go.Proofs.YtmemcabipcccaaaGreatDoor
open Go.RowKit
/-- Every block but some stands; blocks may be new. -/
structure Kp (S : Nat → Prop) (w w' : World) : Prop where
  os : w'.os = w.os
  tape : w'.tape = w.tape
  output : w'.output = w.output
  size : w.heap.size ≤ w'.heap.size
  block : ∀ k, k < w.heap.size → ¬ S k → w'.heap[k]? = w.heap[k]?
theorem Kp.low {S : Nat → Prop} {w w' : World} {B : Nat} (h : Kp S w w') (hB : B ≤ w.heap.size) (hS : ∀ k, S k → B ≤ k) : Below B w w' :=
  ⟨h.os, h.tape, h.output, h.size, fun k hk => h.block k (by omega) fun hs => by have := hS k hs; omega⟩
theorem owns_kept {S : Nat → Prop} {w w' : World} {base : Nat} {e : TypeId} {size : Nat} {v : Value} {n : Nat} {xs : List Value} (h : w.ownsRow base e size v n xs) (hk : ∀ k o, w.heap[k]? = some o → ¬ S k → w'.heap[k]? = some o) (hS : ∀ k, v.ownBlock = some k → ¬ S k) : w'.ownsRow base e size v n xs := by
  refine ⟨h.1, ?_⟩
  rcases h.2 with h | ⟨g, cap, cur, h1, h2, h3, h4⟩
  · exact .inl h
  · exact .inr ⟨g, cap, cur, h1, h2, hk g _ h3 (hS g (by rw [h1]; rfl)), h4⟩
/-- The block of a row that is owned is one of its elements' type. -/
theorem owns_type {w : World} {base : Nat} {e : TypeId} {size : Nat} {v : Value} {n : Nat} {xs : List Value} (h : w.ownsRow base e size v n xs) {k : Nat} (hk : v.ownBlock = some k) : ∃ c, w.heap[k]? = some (.cells c e (0, 0)) := by
  rcases h.2 with ⟨rfl, _⟩ | ⟨g, cap, cur, rfl, _, h3, _⟩
  · cases hk
  · cases hk; exact ⟨cur, h3⟩
theorem owns_not {w : World} {base : Nat} {e : TypeId} {size : Nat} {v : Value} {n : Nat} {xs : List Value} (h : w.ownsRow base e size v n xs) {p : Nat} {c : Array Value} {t : TypeId} {z : Nat × Nat} (hp : w.heap[p]? = some (.cells c t z)) (he : e ≠ t) : v.ownBlock ≠ some p := by
  intro hk
  obtain ⟨c', hc⟩ := owns_type h hk
  rw [hp] at hc
  cases hc
  exact he rfl
theorem owns_pre {w : World} {base : Nat} {e : TypeId} {size : Nat} {a : Option Addr} {n cap k : Nat} {xs : List Value} (h : w.ownsRow base e size (.slice a n cap) n xs) (hk : k ≤ n) : w.ownsRow base e size (.slice a k cap) k (xs.take (k * size)) := by
  refine ⟨by rw [List.length_take, h.1]; exact Nat.min_eq_left (Nat.mul_le_mul_right _ hk), ?_⟩
  rcases h.2 with ⟨h1, h2⟩ | ⟨g, cap', cur, h1, h2, h3, h4, h5, h6, h7⟩
  · cases h1
    obtain rfl : k = 0 := by omega
    exact .inl ⟨rfl, rfl⟩
  · cases h1
    refine .inr ⟨g, cap, cur, rfl, h2, h3, by omega, h5, h6, ?_⟩
    rw [← h7, List.take_take, Nat.min_eq_left (Nat.mul_le_mul_right _ hk)]
def pairRow (l : List (List Nat × List Nat)) : List Value := l.flatMap fun x => [.string (T x.1), .string (T x.2)]
def tokCells (t : XTok) (v : Value) : List Value := [.int .i64 (t.kind : Nat), .string (T t.name), v, .string (T t.text)]
def tokRow : List XTok → List Value → List Value
  | t :: ts, v :: vs => tokCells t v ++ tokRow ts vs
  | _, _ => []
abbrev AttrsAt (w : World) (B : Nat) (v : Value) (l : List (List Nat × List Nat)) : Prop := w.ownsRow B 72 2 v l.length (pairRow l)
def Toks (w : World) (B : Nat) (vt : Value) (ts : List XTok) : Prop := ∃ vs : List Value, vs.length = ts.length ∧ w.ownsRow B 53 4 vt ts.length (tokRow ts vs) ∧
  ∀ (i : Nat) (t : XTok) (v : Value), ts[i]? = some t → vs[i]? = some v → AttrsAt w B v t.attrs
/-- How an entity's value reads. -/
def entCells : List Value → Option (DataW Unit × List MemPlace)
  | [.string s] => some (.agg [.lit (.string s.data.toList)], [])
  | _ => none
def entElem : Value → Option (DataW Unit × List MemPlace)
  | .agg a => entCells a.toList
  | _ => none
/-- What names stand for, as a map that is read. -/
def entsD (ents : List (List Nat × List Nat)) : DataW Unit := ents.foldl (fun D x => D.put (.string (tx x.1)) (.agg [.lit (.string (tx x.2))])) (.map [])
/-- What a map's block holds: names that stand for texts. -/
def EntsAt (w : World) (B m : Nat) (ents : List (List Nat × List Nat)) : Prop := B ≤ m ∧ (∀ x ∈ ents, okL x.1 ∧ okL x.2) ∧ w.ownsMap Tryz.prog 9 entElem m ents.length (entsD ents)
theorem EntsAt.kept {w w' : World} {B m : Nat} {ents : List (List Nat × List Nat)} (h : EntsAt w B m ents) (hk : w'.heap[m]? = w.heap[m]?) : EntsAt w' B m ents := by
  obtain ⟨h1, h2, es, clock, h3, h4⟩ := h
  exact ⟨h1, h2, es, clock, by rw [hk]; exact h3, h4⟩
theorem EntsAt.map {w : World} {B m : Nat} {ents : List (List Nat × List Nat)} (h : EntsAt w B m ents) : ∃ es clock, w.heap[m]? = some (.map es clock) := by
  obtain ⟨_, _, es, clock, h3, _⟩ := h
  exact ⟨es, clock, h3⟩
theorem EntsAt.ne {w : World} {B m p : Nat} {ents : List (List Nat × List Nat)} (h : EntsAt w B m ents) {c : Array Value} {t : TypeId} {z : Nat × Nat} (hp : w.heap[p]? = some (.cells c t z)) : m ≠ p := by
  rintro rfl
  obtain ⟨es, clock, h3⟩ := h.map
  rw [hp] at h3
  cases h3
theorem Toks.kept {w w' : World} {B : Nat} {vt : Value} {ts : List XTok} (h : Toks w B vt ts) (S : Nat → Prop) (hk : ∀ k o, w.heap[k]? = some o → ¬ S k → w'.heap[k]? = some o)
    (hS : ∀ k c, S k → w.heap[k]? ≠ some (.cells c 53 (0, 0)) ∧ w.heap[k]? ≠ some (.cells c 72 (0, 0))) : Toks w' B vt ts := by
  obtain ⟨vs, h1, h2, h3⟩ := h
  refine ⟨vs, h1, owns_kept h2 hk fun k hb hs => ?_, fun i t v ht hv => owns_kept (h3 i t v ht hv) hk fun k hb hs => ?_⟩
  · obtain ⟨c, hc⟩ := owns_type h2 hb
    exact (hS k c hs).1 hc
  · obtain ⟨c, hc⟩ := owns_type (h3 i t v ht hv) hb
    exact (hS k c hs).2 hc
end Go.Proofs.YtmemcabipcccaaaGreatDoor
/- A token more: xmlscan's tell and roomForRun. -/
namespace Go.Proofs.YtmemcabipcccaaaGreatDoor
open Go.RowKit
/-- A token in a block of its own. -/
def BoxAt (w : World) (b : Nat) (t : XTok) (va : Value) : Prop := w.cell? ⟨b, 0, none⟩ = some (.int .i64 (t.kind : Nat)) ∧ w.cell? ⟨b, 1, none⟩ = some (.string (T t.name)) ∧ w.cell? ⟨b, 2, none⟩ = some va ∧ w.cell? ⟨b, 3, none⟩ = some (.string (T t.text))
theorem BoxAt.kept {w w' : World} {b : Nat} {t : XTok} {va : Value} (h : BoxAt w b t va) (hk : w'.heap[b]? = w.heap[b]?) : BoxAt w' b t va := by
  unfold BoxAt World.cell? at *
  rw [hk]; exact h
theorem flush_eq (s : RS) : (s.run = [] → s.flush = s) ∧ (s.run ≠ [] → s.flush = { s with toks := s.toks ++ [⟨4, [], [], s.run⟩], run := [] }) := by
  unfold RS.flush
  exact ⟨fun h => by rw [if_pos h], fun h => by rw [if_neg h]⟩
/-- What is told behind the text. -/
theorem tell_eq (s : RS) (t : XTok) (pl : Nat) : s.tell t pl = if s.flush.toks.length = 4096 then .error (6, pl) else .ok { s.flush with runAt := s.place, toks := s.flush.toks ++ [t] } := rfl
end Go.Proofs.YtmemcabipcccaaaGreatDoor
/- Walks with one label, and regions over a class of worlds. -/
namespace Go.Proofs.YtmemcabipcccaaaGreatDoor
open Go.RowKit
/-- As Q; by a goto: J of its label. -/
def jumps (J : Nat → Act → World → Prop) (Q : Exit → Act → World → Prop) : Exit → Act → World → Prop
  | .goto l, a, w => J l a w
  | e, a, w => Q e a w
section
variable {P : Program} {a : Act} {w : World} {Q : Exit → Act → World → Prop} {J : Nat → Act → World → Prop}
theorem jumps_normal : jumps J Q .normal a w = Q .normal a w := rfl
theorem jumps_exit (id : Nat) : jumps J Q (.exit id) a w = Q (.exit id) a w := rfl
theorem jumps_ret : jumps J Q .ret a w = Q .ret a w := rfl
theorem jumps_goto (l : Nat) : jumps J Q (.goto l) a w = J l a w := rfl
theorem jumps_panic (ch : List PanicEntry) : jumps J Q (.panic ch) a w = Q (.panic ch) a w := rfl
theorem jumps_mono {J J' : Nat → Act → World → Prop} (h : ∀ l a w, J l a w → J' l a w) (e : Exit) (a : Act) (w : World) (hq : jumps J Q e a w) : jumps J' Q e a w := by
  cases e with
  | goto l => exact h l a w hq
  | _ => exact hq
end
attribute [local go_sem] jumps_normal jumps_exit jumps_ret jumps_goto jumps_panic
section
variable {P : Program} {a : Act} {w : World} {Q : Exit → Act → World → Prop}
/-- One label, to which the run comes back with less to do. -/
theorem wp_scope_one {c rest1 : Code} (l1 : Nat) (Inv : Nat → Act → World → Prop) (hf1 : findLabel c l1 = some (Code.skip.seq rest1))
    (round' : ∀ n a w, Inv n a w → rest1.wp P (jumps (fun l a' w' => l = l1 ∧ ∃ n', n' < n ∧ Inv n' a' w') Q) a w)
    (first : (∀ n a w, Inv n a w → rest1.wp P (jumps (fun l a' w' => l = l1 ∧ ∃ n', Inv n' a' w') Q) a w) → c.wp P (jumps (fun l a' w' => l = l1 ∧ ∃ n', Inv n' a' w') Q) a w) : (Code.scope c).wp P Q a w := by
  have round := fun n a w hI => wp_seq (wp_skip (round' n a w hI))
  have hfirst := first fun n a w hI => Code.wp_mono (fun e a w hq => jumps_mono (fun l a w h => ⟨h.1, h.2.choose, h.2.choose_spec.2⟩) e a w hq) (round' n a w hI)
  intro b k cs
  have key1 : ∀ n a w, Inv n a w → ∃ e a' w', Q e a' w' ∧ Arrives P (lone (b.at a (.code (Code.skip.seq rest1) :: .inScope c :: k)) cs w) b k cs e a' w' := by
    intro n
    induction n using Nat.strongRecOn with
    | _ n ih =>
      intro a w hI
      obtain ⟨e, a₁, w₁, hq, harr⟩ := round n a w hI b (.inScope c :: k) cs
      cases e with
      | normal => exact ⟨.normal, a₁, w₁, hq, Steps.trans harr (.one step_inScope)⟩
      | exit id => exact ⟨.exit id, a₁, w₁, hq, fun k' hk => harr k' (by simp [exitTo, hk])⟩
      | goto l' =>
        obtain ⟨rfl, n', hlt, hI'⟩ := hq
        obtain ⟨e₂, a₂, w₂, hq₂, harr₂⟩ := ih n' hlt a₁ w₁ hI'
        exact ⟨e₂, a₂, w₂, hq₂, .of_steps (harr _ (by simp [gotoIn, hf1])) harr₂⟩
      | ret => exact ⟨_, a₁, w₁, hq, harr⟩
      | panic ch => exact ⟨_, a₁, w₁, hq, harr⟩
      | outgrown => exact ⟨_, a₁, w₁, hq, harr⟩
  obtain ⟨e, a₁, w₁, hq, harr⟩ := hfirst b (.inScope c :: k) cs
  cases e with
  | normal => exact ⟨.normal, a₁, w₁, hq, .head step_scope (Steps.trans harr (.one step_inScope))⟩
  | exit id => exact ⟨.exit id, a₁, w₁, hq, fun k' hk => .head step_scope (harr k' (by simp [exitTo, hk]))⟩
  | goto l' =>
    obtain ⟨rfl, n', hI'⟩ := hq
    obtain ⟨e₂, a₂, w₂, hq₂, harr₂⟩ := key1 n' a₁ w₁ hI'
    exact ⟨e₂, a₂, w₂, hq₂, .of_steps (.head step_scope (harr _ (by simp [gotoIn, hf1]))) harr₂⟩
  | ret => exact ⟨_, a₁, w₁, hq, .of_steps (.one step_scope) harr⟩
  | panic ch => exact ⟨_, a₁, w₁, hq, .of_steps (.one step_scope) harr⟩
  | outgrown => exact ⟨_, a₁, w₁, hq, .of_steps (.one step_scope) harr⟩
end
theorem wp_region_cls {P : Program} {id : Nat} {Q : Exit → Act → World → Prop} {a : Act} {w : World} {l : List Oper} (C : World → Prop) (hm : P.follows .mixedOrders = true) (hB : Region.lexB .any l.toArray = true) (hC : C w.drew)
    (h : wpQuiet P l.toArray C (fun a' => ∀ w', C w' → Q .normal a' w') l a) : (Code.region id l.toArray true).wp P Q a w :=
  wp_region_quiet (C := C) hm hB hC (by simpa using h)
/-- Worlds behind one. -/
structure ClsW (W0 : World) (u : World) : Prop where
  bel : Below W0.heap.size W0 u
theorem arr_of {t : Array Value} {n : Nat} (h : t.size = n) : t = ((List.range n).map fun i => t[i]!).toArray := by
  apply Array.ext
  · simp [h]
  · intro i h1 h2
    simp [h1]
end Go.Proofs.YtmemcabipcccaaaGreatDoor
