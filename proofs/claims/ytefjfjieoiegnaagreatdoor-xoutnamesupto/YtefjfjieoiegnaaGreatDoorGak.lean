/- Several texts, laid as one. -/
import Derived.Test.YtefjfjieoiegnaaGreatDoorGaj
import Derived.Deep.RegionLawGrows
import Derived.Maps.OwnSet
import Derived.Deep.DeepCutAuto
/- A reader of XML in memory: its tokens, what is open, the text behind the last token. -/
namespace Go.Proofs.YtefjfjieoiegnaaGreatDoor
open Go.RowKit
/-- Every block but some stands; blocks may be new. -/
structure Kp (S : Nat → Prop) (w w' : World) : Prop where
  os : w'.os = w.os
  tape : w'.tape = w.tape
  output : w'.output = w.output
  size : w.heap.size ≤ w'.heap.size
  block : ∀ k, k < w.heap.size → ¬ S k → w'.heap[k]? = w.heap[k]?
theorem Kp.low {S : Nat → Prop} {w w' : World} {B : Nat} (h : Kp S w w') (hB : B ≤ w.heap.size) (hS : ∀ k, S k → B ≤ k) : Below B w w' :=
  ⟨h.os, h.tape, h.output, h.size, fun k hk => h.block k (by omega) fun hs => by have := hS k hs; omega⟩
theorem owns_kept {S : Nat → Prop} {w w' : World} {base : Nat} {e : TypeId} {size : Nat} {v : Value} {n : Nat} {xs : List Value} (h : w.ownsRow base e size v n xs) (hk : ∀ k o, w.heap[k]? = some o → ¬ S k → w'.heap[k]? = some o) (hS : ∀ k, v.ownBlock = some k → ¬ S k) : w'.ownsRow base e size v n xs := by
  refine ⟨h.1, ?_⟩
  rcases h.2 with h | ⟨g, cap, cur, h1, h2, h3, h4⟩
  · exact .inl h
  · exact .inr ⟨g, cap, cur, h1, h2, hk g _ h3 (hS g (by rw [h1]; rfl)), h4⟩
/-- The block of a row that is owned is one of its elements' type. -/
theorem owns_type {w : World} {base : Nat} {e : TypeId} {size : Nat} {v : Value} {n : Nat} {xs : List Value} (h : w.ownsRow base e size v n xs) {k : Nat} (hk : v.ownBlock = some k) : ∃ c, w.heap[k]? = some (.cells c e (0, 0)) := by
  rcases h.2 with ⟨rfl, _⟩ | ⟨g, cap, cur, rfl, _, h3, _⟩
  · cases hk
  · cases hk; exact ⟨cur, h3⟩
theorem owns_apart {w : World} {base base' : Nat} {e e' : TypeId} {size size' : Nat} {v v' : Value} {n n' : Nat} {xs xs' : List Value} (h : w.ownsRow base e size v n xs) (h' : w.ownsRow base' e' size' v' n' xs') (he : e ≠ e') : ∀ k, v.ownBlock = some k → v'.ownBlock ≠ some k := by
  intro k hk hk'
  obtain ⟨c, hc⟩ := owns_type h hk
  obtain ⟨c', hc'⟩ := owns_type h' hk'
  rw [hc] at hc'
  cases hc'
  exact he rfl
theorem owns_not {w : World} {base : Nat} {e : TypeId} {size : Nat} {v : Value} {n : Nat} {xs : List Value} (h : w.ownsRow base e size v n xs) {p : Nat} {c : Array Value} {t : TypeId} {z : Nat × Nat} (hp : w.heap[p]? = some (.cells c t z)) (he : e ≠ t) : v.ownBlock ≠ some p := by
  intro hk
  obtain ⟨c', hc⟩ := owns_type h hk
  rw [hp] at hc
  cases hc
  exact he rfl
theorem owns_pre {w : World} {base : Nat} {e : TypeId} {size : Nat} {a : Option Addr} {n cap k : Nat} {xs : List Value} (h : w.ownsRow base e size (.slice a n cap) n xs) (hk : k ≤ n) : w.ownsRow base e size (.slice a k cap) k (xs.take (k * size)) := by
  refine ⟨by rw [List.length_take, h.1]; exact Nat.min_eq_left (Nat.mul_le_mul_right _ hk), ?_⟩
  rcases h.2 with ⟨h1, h2⟩ | ⟨g, cap', cur, h1, h2, h3, h4, h5, h6, h7⟩
  · cases h1
    obtain rfl : k = 0 := by omega
    exact .inl ⟨rfl, rfl⟩
  · cases h1
    refine .inr ⟨g, cap, cur, rfl, h2, h3, by omega, h5, h6, ?_⟩
    rw [← h7, List.take_take, Nat.min_eq_left (Nat.mul_le_mul_right _ hk)]
def pairRow (l : List (List Nat × List Nat)) : List Value := l.flatMap fun x => [.string (T x.1), .string (T x.2)]
def tokCells (t : XTok) (v : Value) : List Value := [.int .i64 (t.kind : Nat), .string (T t.name), v, .string (T t.text)]
def tokRow : List XTok → List Value → List Value
  | t :: ts, v :: vs => tokCells t v ++ tokRow ts vs
  | _, _ => []
abbrev AttrsAt (w : World) (B : Nat) (v : Value) (l : List (List Nat × List Nat)) : Prop := w.ownsRow B 40 2 v l.length (pairRow l)
def Toks (w : World) (B : Nat) (vt : Value) (ts : List XTok) : Prop := ∃ vs : List Value, vs.length = ts.length ∧ w.ownsRow B 37 4 vt ts.length (tokRow ts vs) ∧
  ∀ (i : Nat) (t : XTok) (v : Value), ts[i]? = some t → vs[i]? = some v → AttrsAt w B v t.attrs
theorem tokRow_snoc : ∀ (ts : List XTok) (vs : List Value) (t : XTok) (v : Value), vs.length = ts.length → tokRow (ts ++ [t]) (vs ++ [v]) = tokRow ts vs ++ tokCells t v
  | [], [], t, v, _ => by simp [tokRow]
  | x :: ts, y :: vs, t, v, h => by
    have ih := tokRow_snoc ts vs t v (by simpa using h)
    show tokCells x y ++ tokRow (ts ++ [t]) (vs ++ [v]) = _
    rw [ih, ← List.append_assoc]; rfl
  | [], _ :: _, _, _, h => by simp at h
  | _ :: _, [], _, _, h => by simp at h
def opnRow (l : List (List Nat)) : List Value := l.map fun x => .string (T x)
/-- How an entity's value reads. -/
def entCells : List Value → Option (DataW Unit × List MemPlace)
  | [.string s] => some (.agg [.lit (.string s.data.toList)], [])
  | _ => none
def entElem : Value → Option (DataW Unit × List MemPlace)
  | .agg a => entCells a.toList
  | _ => none
/-- What names stand for, as a map that is read. -/
def entsD (ents : List (List Nat × List Nat)) : DataW Unit := ents.foldl (fun D x => D.put (.string (tx x.1)) (.agg [.lit (.string (tx x.2))])) (.map [])
/-- What a map's block holds: names that stand for texts. -/
def EntsAt (w : World) (B m : Nat) (ents : List (List Nat × List Nat)) : Prop := B ≤ m ∧ (∀ x ∈ ents, okL x.1 ∧ okL x.2) ∧ w.ownsMap Tryz.prog 9 entElem m ents.length (entsD ents)
theorem EntsAt.kept {w w' : World} {B m : Nat} {ents : List (List Nat × List Nat)} (h : EntsAt w B m ents) (hk : w'.heap[m]? = w.heap[m]?) : EntsAt w' B m ents := by
  obtain ⟨h1, h2, es, clock, h3, h4⟩ := h
  exact ⟨h1, h2, es, clock, by rw [hk]; exact h3, h4⟩
theorem EntsAt.map {w : World} {B m : Nat} {ents : List (List Nat × List Nat)} (h : EntsAt w B m ents) : ∃ es clock, w.heap[m]? = some (.map es clock) := by
  obtain ⟨_, _, es, clock, h3, _⟩ := h
  exact ⟨es, clock, h3⟩
theorem EntsAt.ne {w : World} {B m p : Nat} {ents : List (List Nat × List Nat)} (h : EntsAt w B m ents) {c : Array Value} {t : TypeId} {z : Nat × Nat} (hp : w.heap[p]? = some (.cells c t z)) : m ≠ p := by
  rintro rfl
  obtain ⟨es, clock, h3⟩ := h.map
  rw [hp] at h3
  cases h3
/-- A reader's block. -/
def rdArr (s : RS) (m : Nat) (vo vt vr : Value) : Array Value := #[.string (T (s.pre ++ s.rest)), .int .i64 (s.place : Nat), .map (some m), .int .i64 (s.spent : Nat), vo, vt, vr, .int .i64 (s.runAt : Nat), .int .i64 0, .int .i64 0]
structure Rd (w : World) (B p m : Nat) (vo vt vr : Value) (s : RS) : Prop where
  blk : w.heap[p]? = some (.cells (rdArr s m vo vt vr) 63 (0, 0))
  low : B ≤ p
  ents : EntsAt w B m s.ents
  opn : w.ownsRow B 9 1 vo s.opn.length (opnRow s.opn)
  toks : Toks w B vt s.toks
  run : w.ownsRow B 5 1 vr (tx s.run).length (byteCells (tx s.run))
theorem Toks.kept {w w' : World} {B : Nat} {vt : Value} {ts : List XTok} (h : Toks w B vt ts) (S : Nat → Prop) (hk : ∀ k o, w.heap[k]? = some o → ¬ S k → w'.heap[k]? = some o)
    (hS : ∀ k c, S k → w.heap[k]? ≠ some (.cells c 37 (0, 0)) ∧ w.heap[k]? ≠ some (.cells c 40 (0, 0))) : Toks w' B vt ts := by
  obtain ⟨vs, h1, h2, h3⟩ := h
  refine ⟨vs, h1, owns_kept h2 hk fun k hb hs => ?_, fun i t v ht hv => owns_kept (h3 i t v ht hv) hk fun k hb hs => ?_⟩
  · obtain ⟨c, hc⟩ := owns_type h2 hb
    exact (hS k c hs).1 hc
  · obtain ⟨c, hc⟩ := owns_type (h3 i t v ht hv) hb
    exact (hS k c hs).2 hc
theorem Rd.at {w : World} {B p m : Nat} {vo vt vr : Value} {s : RS} (h : Rd w B p m vo vt vr s) : AtS w p s := by
  refine ⟨?_, ?_, blk_open h.blk 1⟩
  · rw [blk_cell h.blk]; rfl
  · rw [blk_cell h.blk]; rfl
theorem Rd.lt {w : World} {B p m : Nat} {vo vt vr : Value} {s : RS} (h : Rd w B p m vo vt vr s) : p < w.heap.size := (Array.getElem?_eq_some_iff.1 h.blk).1
/-- All of a reader but its own block, under what changes other blocks alone. -/
theorem Rd.keep {w w' : World} {B p m : Nat} {vo vt vr : Value} {s : RS} (h : Rd w B p m vo vt vr s) (S : Nat → Prop) (hk : ∀ k o, w.heap[k]? = some o → ¬ S k → w'.heap[k]? = some o)
    (hS : ∀ k, S k → ∃ c t, w.heap[k]? = some (.cells c t (0, 0)) ∧ t ≠ 37 ∧ t ≠ 40 ∧ t ≠ 9 ∧ t ≠ 5)
    {s' : RS} (hp : w'.heap[p]? = some (.cells (rdArr s' m vo vt vr) 63 (0, 0))) (e1 : s'.ents = s.ents) (e2 : s'.opn = s.opn) (e3 : s'.toks = s.toks) (e4 : s'.run = s.run) : Rd w' B p m vo vt vr s' := by
  have hrow : ∀ {base : Nat} {e : TypeId} {size : Nat} {v : Value} {n : Nat} {xs : List Value}, w.ownsRow base e size v n xs → (e = 9 ∨ e = 5) → w'.ownsRow base e size v n xs := fun ho he => owns_kept ho hk fun k hb hs => by
    obtain ⟨c, hc⟩ := owns_type ho hb
    obtain ⟨c', t, ht, _, _, h3, h4⟩ := hS k hs
    rw [hc] at ht
    cases ht
    rcases he with rfl | rfl
    · exact h3 rfl
    · exact h4 rfl
  refine ⟨hp, h.low, ?_, ?_, ?_, ?_⟩
  · rw [e1]
    refine h.ents.kept ?_
    obtain ⟨es, clock, hm⟩ := h.ents.map
    rw [hm]
    refine hk m _ hm fun hs => ?_
    obtain ⟨c, t, ht, _⟩ := hS m hs
    rw [hm] at ht
    cases ht
  · rw [e2]; exact hrow h.opn (.inl rfl)
  · rw [e3]
    refine h.toks.kept S hk fun k c hs => ?_
    obtain ⟨c', t, ht, h1, h2, _⟩ := hS k hs
    rw [ht]
    exact ⟨fun e => by cases e; exact h1 rfl, fun e => by cases e; exact h2 rfl⟩
  · rw [e4]; exact hrow h.run (.inr rfl)
theorem Rd.moved {w w' : World} {B p m : Nat} {vo vt vr : Value} {s s' : RS} (h : Rd w B p m vo vt vr s) (hm : Moves p s'.place w w') (ha : Adv s s') : Rd w' B p m vo vt vr s' := by
  refine h.keep (· = p) (fun k o hk hs => ?_) (fun k hs => ?_) ?_ ?_ ?_ ?_ ?_
  · rw [hm.block (Array.getElem?_eq_some_iff.1 hk).1 hs]; exact hk
  · subst hs
    exact ⟨_, _, h.blk, by decide, by decide, by decide, by decide⟩
  · rw [hm.own h.blk]
    obtain ⟨k, rfl⟩ := ha
    unfold rdArr
    rw [adv_whole]
    rfl
  all_goals (obtain ⟨k, rfl⟩ := ha; rfl)
theorem Rd.on {w w' : World} {B p m : Nat} {vo vt vr : Value} {s : RS} (h : Rd w B p m vo vt vr s) (hb : Below w.heap.size w w') : Rd w' B p m vo vt vr s :=
  h.keep (fun _ => False) (fun _ _ hk _ => block_below hk hb) (fun _ hs => hs.elim) (block_below h.blk hb) rfl rfl rfl rfl
end Go.Proofs.YtefjfjieoiegnaaGreatDoor
/- A token more: xmlscan's tell and roomForRun. -/
namespace Go.Proofs.YtefjfjieoiegnaaGreatDoor
open Go.RowKit
/-- Behind an append onto the tokens. -/
theorem toks_snoc {w w' : World} {B : Nat} {vt v' va : Value} {ts : List XTok} {t : XTok} {vs : List Value} (h1 : vs.length = ts.length) (h2 : w.ownsRow B 37 4 vt ts.length (tokRow ts vs))
    (h3 : ∀ (i : Nat) (t : XTok) (v : Value), ts[i]? = some t → vs[i]? = some v → AttrsAt w B v t.attrs) (ha : AttrsAt w B va t.attrs) (hg : w.grownBy w' vt.ownBlock)
    (hown : w'.ownsRow B 37 4 v' (ts.length + 1) (tokRow ts vs ++ tokCells t va)) : Toks w' B v' (ts ++ [t]) := by
  have hrow : ∀ {v : Value} {l : List (List Nat × List Nat)}, AttrsAt w B v l → AttrsAt w' B v l := fun {v l} hv => by
    refine ⟨hv.1, ?_⟩
    rcases hv.2 with e | ⟨g, cap, cur, e1, e2, e3, e4⟩
    · exact .inl e
    · refine .inr ⟨g, cap, cur, e1, e2, ?_, e4⟩
      rw [hg.block g (Array.getElem?_eq_some_iff.1 e3).1 (fun e => owns_apart hv h2 (by decide) g (by rw [e1]; rfl) e.symm)]
      exact e3
  refine ⟨vs ++ [va], by simp [h1], ?_, ?_⟩
  · rw [tokRow_snoc ts vs t va h1, List.length_append]
    exact hown
  · intro i x v hx hv
    by_cases hi : i < ts.length
    · rw [List.getElem?_append_left hi] at hx
      rw [List.getElem?_append_left (by omega)] at hv
      exact hrow (h3 i x v hx hv)
    · rw [List.getElem?_append_right (by omega)] at hx
      rw [List.getElem?_append_right (by omega), h1] at hv
      have : i - ts.length = 0 := by
        have := (List.getElem?_eq_some_iff.1 hx).1
        simp at this
        omega
      rw [this] at hx hv
      cases hx
      cases hv
      exact hrow ha
/-- Where the tokens' row was written, and all else stands. -/
theorem Rd.told {X W w' : World} {B p m : Nat} {vo vt vr v' va : Value} {s : RS} {t : XTok} {vs : List Value} (R : Rd X B p m vo vt vr s) (hb : Below X.heap.size X W) (h1 : vs.length = s.toks.length) (h2 : X.ownsRow B 37 4 vt s.toks.length (tokRow s.toks vs))
    (h3 : ∀ (i : Nat) (t : XTok) (v : Value), s.toks[i]? = some t → vs[i]? = some v → AttrsAt X B v t.attrs) (ha : AttrsAt X B va t.attrs) (hg : W.grownBy w' vt.ownBlock)
    (hown : w'.ownsRow B 37 4 v' (s.toks.length + 1) (tokRow s.toks vs ++ tokCells t va)) :
    Rd (w'.setCell ⟨p, 5, none⟩ v') B p m vo v' vr { s with toks := s.toks ++ [t] } ∧ w'.heap[p]? = some (.cells (rdArr s m vo vt vr) 63 (0, 0)) ∧
      (∀ v l, AttrsAt X B v l → AttrsAt (w'.setCell ⟨p, 5, none⟩ v') B v l) ∧ (∀ k o, W.heap[k]? = some o → vt.ownBlock ≠ some k → k ≠ p → (w'.setCell ⟨p, 5, none⟩ v').heap[k]? = some o) := by
  have RW := R.on hb
  have hvt : vt.ownBlock ≠ some p := owns_not h2 R.blk (by decide)
  have hp : w'.heap[p]? = some (.cells (rdArr s m vo vt vr) 63 (0, 0)) := by
    rw [hg.block p RW.lt (fun e => hvt e.symm)]; exact RW.blk
  have hk : ∀ k o, W.heap[k]? = some o → vt.ownBlock ≠ some k → k ≠ p → (w'.setCell ⟨p, 5, none⟩ v').heap[k]? = some o := fun k o ho h1 h2 => by
    rw [blk_other h2, hg.block k (Array.getElem?_eq_some_iff.1 ho).1 (fun e => h1 e.symm)]; exact ho
  have hrow : ∀ {base : Nat} {e : TypeId} {size : Nat} {v : Value} {n : Nat} {xs : List Value}, W.ownsRow base e size v n xs → e ≠ 37 → e ≠ 63 → (w'.setCell ⟨p, 5, none⟩ v').ownsRow base e size v n xs := fun ho e1 e2 =>
    owns_kept (S := fun k => vt.ownBlock = some k ∨ k = p) ho (fun k o hk' hs => hk k o hk' (fun e => hs (.inl e)) (fun e => hs (.inr e))) fun k hk' hs => by
      rcases hs with hs | rfl
      · exact owns_apart ho (owns_below h2 hb) e1 k hk' hs
      · exact owns_not ho RW.blk e2 hk'
  refine ⟨⟨?_, R.low, ?_, hrow RW.opn (by decide) (by decide), ?_, hrow RW.run (by decide) (by decide)⟩, hp, fun v l hv => hrow (owns_below hv hb) (by decide) (by decide), hk⟩
  · rw [blk_set hp]; rfl
  · refine RW.ents.kept ?_
    obtain ⟨es, clock, hm⟩ := RW.ents.map
    rw [hm]
    refine hk m _ hm (fun e => ?_) (RW.ents.ne RW.blk)
    obtain ⟨c, hc⟩ := owns_type (owns_below h2 hb) e
    rw [hm] at hc
    cases hc
  · have ht := toks_snoc h1 (owns_below h2 hb) (fun i t v a b => owns_below (h3 i t v a b) hb) (owns_below ha hb) hg hown
    refine ht.kept (· = p) (fun k o ho hs => by rw [blk_other hs]; exact ho) fun k c hs => ?_
    subst hs
    rw [hp]
    exact ⟨fun e => (by cases e), fun e => (by cases e)⟩
theorem Rd.from {w : World} {B p m : Nat} {vo vt vr : Value} {s : RS} (R : Rd w B p m vo vt vr s) (n : Nat) : Rd (w.setCell ⟨p, 7, none⟩ (.int .i64 (n : Nat))) B p m vo vt vr { s with runAt := n } := by
  refine R.keep (· = p) (fun k o hk hs => by rw [blk_other hs]; exact hk) (fun k hs => ?_) ?_ rfl rfl rfl rfl
  · subst hs
    exact ⟨_, _, R.blk, by decide, by decide, by decide, by decide⟩
  · rw [blk_set R.blk]; rfl
/-- A token in a block of its own. -/
def BoxAt (w : World) (b : Nat) (t : XTok) (va : Value) : Prop := w.cell? ⟨b, 0, none⟩ = some (.int .i64 (t.kind : Nat)) ∧ w.cell? ⟨b, 1, none⟩ = some (.string (T t.name)) ∧ w.cell? ⟨b, 2, none⟩ = some va ∧ w.cell? ⟨b, 3, none⟩ = some (.string (T t.text))
theorem BoxAt.kept {w w' : World} {b : Nat} {t : XTok} {va : Value} (h : BoxAt w b t va) (hk : w'.heap[b]? = w.heap[b]?) : BoxAt w' b t va := by
  unfold BoxAt World.cell? at *
  rw [hk]; exact h
theorem flush_eq (s : RS) : (s.run = [] → s.flush = s) ∧ (s.run ≠ [] → s.flush = { s with toks := s.toks ++ [⟨4, [], [], s.run⟩], run := [] }) := by
  unfold RS.flush
  exact ⟨fun h => by rw [if_pos h], fun h => by rw [if_neg h]⟩
/-- What is told behind the text. -/
theorem tell_eq (s : RS) (t : XTok) (pl : Nat) : s.tell t pl = if s.flush.toks.length = 4096 then .error (6, pl) else .ok { s.flush with runAt := s.place, toks := s.flush.toks ++ [t] } := rfl
end Go.Proofs.YtefjfjieoiegnaaGreatDoor
