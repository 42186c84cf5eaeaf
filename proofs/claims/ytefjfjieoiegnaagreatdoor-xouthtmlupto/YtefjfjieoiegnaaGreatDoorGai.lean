/- Several texts, laid as one. -/
import Derived.Test.YtefjfjieoiegnaaGreatDoorGah
import Derived.Deep.RegionLawGrows
import Derived.Maps.OwnSet
/- A reader's small steps, more: xmlscan's nameAhead, name, qname, quote, quoted, equals. -/
namespace Go.Proofs.YtefjfjieoiegnaaGreatDoor
open Go.RowKit
end Go.Proofs.YtefjfjieoiegnaaGreatDoor
/- A reader's small steps, more: xmlscan's quote, quoted, equals, fail. -/
namespace Go.Proofs.YtefjfjieoiegnaaGreatDoor
open Go.RowKit
/-- What the package variables of the library hold; they all lie below B. -/
structure XEnv (B : Nat) (w : World) : Prop where
  env : Env w
  x : w.cell? ⟨3, 120, none⟩ = some (.int .u16 88)
  m : w.cell? ⟨3, 109, none⟩ = some (.int .u16 77)
  l : w.cell? ⟨3, 108, none⟩ = some (.int .u16 76)
  X : w.cell? ⟨3, 88, none⟩ = some (.int .u16 120)
  M : w.cell? ⟨3, 77, none⟩ = some (.int .u16 109)
  L : w.cell? ⟨3, 76, none⟩ = some (.int .u16 108)
  g1 : 2 < B
  g2 : 0 < B
  g3 : 1 < B
  g4 : 3 < B
theorem XEnv.low {B : Nat} {w w' : World} (h : XEnv B w) (hb : Below B w w') : XEnv B w' := by
  obtain ⟨⟨⟨m, hm⟩, t1, t2⟩, hx, hmm, hl, hX, hM, hL, g1, g2, g3, g4⟩ := h
  refine ⟨⟨⟨m, ?_⟩, ?_, ?_⟩, ?_, ?_, ?_, ?_, ?_, ?_, g1, g2, g3, g4⟩
  · rw [hb.cell g1]; exact hm
  · intro c hc; rw [hb.cell g2]; exact t1 c hc
  · intro i hi
    rw [hb.cell g3, hb.cell g3]; exact t2 i hi
  · rw [hb.cell g4]; exact hx
  · rw [hb.cell g4]; exact hmm
  · rw [hb.cell g4]; exact hl
  · rw [hb.cell g4]; exact hX
  · rw [hb.cell g4]; exact hM
  · rw [hb.cell g4]; exact hL
theorem XEnv.moved {B : Nat} {w w' : World} {p n : Nat} (h : XEnv B w) (hm : Moves p n w w') (hB : B ≤ p) (hp : p < w.heap.size) : XEnv B w' := h.low (hm.low hB (by omega))
theorem XEnv.on {B : Nat} {w w' : World} (h : XEnv B w) (hB : B ≤ w.heap.size) (hb : Below w.heap.size w w') : XEnv B w' := h.low (hb.mono hB)
theorem adv_adv (s : RS) (n m : Nat) : (s.adv n).adv m = s.adv (n + m) := by
  unfold RS.adv
  simp only [List.drop_drop, List.append_assoc, RS.mk.injEq, and_true, List.append_cancel_left_eq]
  rw [List.take_add]
/-- One state is another one, some characters on. -/
def Adv (s s' : RS) : Prop := ∃ k, s' = s.adv k
theorem Adv.then {a b c : RS} (h : Adv a b) (g : Adv b c) : Adv a c := by
  obtain ⟨k, rfl⟩ := h
  obtain ⟨m, rfl⟩ := g
  exact ⟨k + m, adv_adv _ _ _⟩
theorem Adv.by (s : RS) (n : Nat) : Adv s (s.adv n) := ⟨n, rfl⟩
theorem Adv.fine {s s' : RS} (h : Adv s s') (hf : Fine s) : Fine s' := by
  obtain ⟨k, rfl⟩ := h
  exact hf.adv k
theorem Adv.at {s s' : RS} (h : Adv s s') {w w' : World} {p : Nat} (ha : AtS w p s) (hm : Moves p s'.place w w') : AtS w' p s' := by
  obtain ⟨k, rfl⟩ := h
  exact ha.to hm
theorem Adv.blanks (s : RS) : Adv s s.blanks := ⟨_, rfl⟩
theorem Adv.take (s : RS) (a : List Nat) : Adv s (s.take a) := by
  unfold RS.take
  split
  · exact ⟨_, rfl⟩
  · exact ⟨0, by unfold RS.adv; simp⟩
theorem Adv.name (s : RS) : Adv s s.name := ⟨_, rfl⟩
theorem Adv.qname (s : RS) : Adv s s.qname := ⟨_, rfl⟩
theorem Adv.takeTo {s s' : RS} {a x : List Nat} (h : s.takeTo a = some (x, s')) : Adv s s' ∧ ∃ y, cutL a s.rest = some (x, y) ∧ s' = s.adv (x.length + a.length) := by
  unfold RS.takeTo at h
  cases hc : cutL a s.rest with
  | none => rw [hc] at h; cases h
  | some xy => rw [hc] at h; cases h; exact ⟨⟨_, rfl⟩, xy.2, rfl, rfl⟩
theorem quote_some {s s' : RS} {q : Nat} (h : s.quote = some (q, s')) : s' = s.adv 1 ∧ heads q s.rest = true ∧ (q = 34 ∨ q = 39 ∧ heads 34 s.rest = false) := by
  unfold RS.quote at h
  split at h
  · rename_i hh; cases h; exact ⟨rfl, hh, .inl rfl⟩
  · rename_i hh
    split at h
    · rename_i h2; cases h; exact ⟨rfl, h2, .inr ⟨rfl, by simpa using hh⟩⟩
    · cases h
theorem Adv.quote {s s' : RS} {q : Nat} (h : s.quote = some (q, s')) : Adv s s' := ⟨1, (quote_some h).1⟩
theorem Adv.quoted {s s' : RS} {x : List Nat} (h : s.quoted = some (x, s')) : Adv s s' := by
  unfold RS.quoted at h
  cases hq : s.quote with
  | none => rw [hq] at h; cases h
  | some qs =>
    obtain ⟨q, s1⟩ := qs
    rw [hq] at h
    exact (Adv.quote hq).then (Adv.takeTo h).1
theorem Adv.equals {s s' : RS} (h : s.equals = some s') : Adv s s' := by
  unfold RS.equals at h
  split at h
  · cases h; exact (Adv.blanks s).then ((Adv.by _ 1).then (Adv.blanks _))
  · cases h
end Go.Proofs.YtefjfjieoiegnaaGreatDoor
/- A reader of XML in memory: its tokens, what is open, the text behind the last token. -/
namespace Go.Proofs.YtefjfjieoiegnaaGreatDoor
open Go.RowKit
/-- Every block but some stands; blocks may be new. -/
structure Kp (S : Nat → Prop) (w w' : World) : Prop where
  os : w'.os = w.os
  tape : w'.tape = w.tape
  output : w'.output = w.output
  size : w.heap.size ≤ w'.heap.size
  block : ∀ k, k < w.heap.size → ¬ S k → w'.heap[k]? = w.heap[k]?
theorem Kp.low {S : Nat → Prop} {w w' : World} {B : Nat} (h : Kp S w w') (hB : B ≤ w.heap.size) (hS : ∀ k, S k → B ≤ k) : Below B w w' :=
  ⟨h.os, h.tape, h.output, h.size, fun k hk => h.block k (by omega) fun hs => by have := hS k hs; omega⟩
theorem owns_kept {S : Nat → Prop} {w w' : World} {base : Nat} {e : TypeId} {size : Nat} {v : Value} {n : Nat} {xs : List Value} (h : w.ownsRow base e size v n xs) (hk : ∀ k o, w.heap[k]? = some o → ¬ S k → w'.heap[k]? = some o) (hS : ∀ k, v.ownBlock = some k → ¬ S k) : w'.ownsRow base e size v n xs := by
  refine ⟨h.1, ?_⟩
  rcases h.2 with h | ⟨g, cap, cur, h1, h2, h3, h4⟩
  · exact .inl h
  · exact .inr ⟨g, cap, cur, h1, h2, hk g _ h3 (hS g (by rw [h1]; rfl)), h4⟩
/-- The block of a row that is owned is one of its elements' type. -/
theorem owns_type {w : World} {base : Nat} {e : TypeId} {size : Nat} {v : Value} {n : Nat} {xs : List Value} (h : w.ownsRow base e size v n xs) {k : Nat} (hk : v.ownBlock = some k) : ∃ c, w.heap[k]? = some (.cells c e (0, 0)) := by
  rcases h.2 with ⟨rfl, _⟩ | ⟨g, cap, cur, rfl, _, h3, _⟩
  · cases hk
  · cases hk; exact ⟨cur, h3⟩
theorem owns_apart {w : World} {base base' : Nat} {e e' : TypeId} {size size' : Nat} {v v' : Value} {n n' : Nat} {xs xs' : List Value} (h : w.ownsRow base e size v n xs) (h' : w.ownsRow base' e' size' v' n' xs') (he : e ≠ e') : ∀ k, v.ownBlock = some k → v'.ownBlock ≠ some k := by
  intro k hk hk'
  obtain ⟨c, hc⟩ := owns_type h hk
  obtain ⟨c', hc'⟩ := owns_type h' hk'
  rw [hc] at hc'
  cases hc'
  exact he rfl
theorem owns_not {w : World} {base : Nat} {e : TypeId} {size : Nat} {v : Value} {n : Nat} {xs : List Value} (h : w.ownsRow base e size v n xs) {p : Nat} {c : Array Value} {t : TypeId} {z : Nat × Nat} (hp : w.heap[p]? = some (.cells c t z)) (he : e ≠ t) : v.ownBlock ≠ some p := by
  intro hk
  obtain ⟨c', hc⟩ := owns_type h hk
  rw [hp] at hc
  cases hc
  exact he rfl
theorem owns_pre {w : World} {base : Nat} {e : TypeId} {size : Nat} {a : Option Addr} {n cap k : Nat} {xs : List Value} (h : w.ownsRow base e size (.slice a n cap) n xs) (hk : k ≤ n) : w.ownsRow base e size (.slice a k cap) k (xs.take (k * size)) := by
  refine ⟨by rw [List.length_take, h.1]; exact Nat.min_eq_left (Nat.mul_le_mul_right _ hk), ?_⟩
  rcases h.2 with ⟨h1, h2⟩ | ⟨g, cap', cur, h1, h2, h3, h4, h5, h6, h7⟩
  · cases h1
    obtain rfl : k = 0 := by omega
    exact .inl ⟨rfl, rfl⟩
  · cases h1
    refine .inr ⟨g, cap, cur, rfl, h2, h3, by omega, h5, h6, ?_⟩
    rw [← h7, List.take_take, Nat.min_eq_left (Nat.mul_le_mul_right _ hk)]
def pairRow (l : List (List Nat × List Nat)) : List Value := l.flatMap fun x => [.string (T x.1), .string (T x.2)]
def tokCells (t : XTok) (v : Value) : List Value := [.int .i64 (t.kind : Nat), .string (T t.name), v, .string (T t.text)]
def tokRow : List XTok → List Value → List Value
  | t :: ts, v :: vs => tokCells t v ++ tokRow ts vs
  | _, _ => []
abbrev AttrsAt (w : World) (B : Nat) (v : Value) (l : List (List Nat × List Nat)) : Prop := w.ownsRow B 40 2 v l.length (pairRow l)
def Toks (w : World) (B : Nat) (vt : Value) (ts : List XTok) : Prop := ∃ vs : List Value, vs.length = ts.length ∧ w.ownsRow B 37 4 vt ts.length (tokRow ts vs) ∧
  ∀ (i : Nat) (t : XTok) (v : Value), ts[i]? = some t → vs[i]? = some v → AttrsAt w B v t.attrs
theorem tokRow_snoc : ∀ (ts : List XTok) (vs : List Value) (t : XTok) (v : Value), vs.length = ts.length → tokRow (ts ++ [t]) (vs ++ [v]) = tokRow ts vs ++ tokCells t v
  | [], [], t, v, _ => by simp [tokRow]
  | x :: ts, y :: vs, t, v, h => by
    have ih := tokRow_snoc ts vs t v (by simpa using h)
    show tokCells x y ++ tokRow (ts ++ [t]) (vs ++ [v]) = _
    rw [ih, ← List.append_assoc]; rfl
  | [], _ :: _, _, _, h => by simp at h
  | _ :: _, [], _, _, h => by simp at h
def opnRow (l : List (List Nat)) : List Value := l.map fun x => .string (T x)
/-- How an entity's value reads. -/
def entCells : List Value → Option (DataW Unit × List MemPlace)
  | [.string s] => some (.agg [.lit (.string s.data.toList)], [])
  | _ => none
def entElem : Value → Option (DataW Unit × List MemPlace)
  | .agg a => entCells a.toList
  | _ => none
/-- What names stand for, as a map that is read. -/
def entsD (ents : List (List Nat × List Nat)) : DataW Unit := ents.foldl (fun D x => D.put (.string (tx x.1)) (.agg [.lit (.string (tx x.2))])) (.map [])
/-- What a map's block holds: names that stand for texts. -/
def EntsAt (w : World) (B m : Nat) (ents : List (List Nat × List Nat)) : Prop := B ≤ m ∧ (∀ x ∈ ents, okL x.1 ∧ okL x.2) ∧ w.ownsMap Tryz.prog 9 entElem m ents.length (entsD ents)
theorem EntsAt.kept {w w' : World} {B m : Nat} {ents : List (List Nat × List Nat)} (h : EntsAt w B m ents) (hk : w'.heap[m]? = w.heap[m]?) : EntsAt w' B m ents := by
  obtain ⟨h1, h2, es, clock, h3, h4⟩ := h
  exact ⟨h1, h2, es, clock, by rw [hk]; exact h3, h4⟩
theorem EntsAt.map {w : World} {B m : Nat} {ents : List (List Nat × List Nat)} (h : EntsAt w B m ents) : ∃ es clock, w.heap[m]? = some (.map es clock) := by
  obtain ⟨_, _, es, clock, h3, _⟩ := h
  exact ⟨es, clock, h3⟩
theorem EntsAt.ne {w : World} {B m p : Nat} {ents : List (List Nat × List Nat)} (h : EntsAt w B m ents) {c : Array Value} {t : TypeId} {z : Nat × Nat} (hp : w.heap[p]? = some (.cells c t z)) : m ≠ p := by
  rintro rfl
  obtain ⟨es, clock, h3⟩ := h.map
  rw [hp] at h3
  cases h3
/-- A reader's block. -/
def rdArr (s : RS) (m : Nat) (vo vt vr : Value) : Array Value := #[.string (T (s.pre ++ s.rest)), .int .i64 (s.place : Nat), .map (some m), .int .i64 (s.spent : Nat), vo, vt, vr, .int .i64 (s.runAt : Nat), .int .i64 0, .int .i64 0]
structure Rd (w : World) (B p m : Nat) (vo vt vr : Value) (s : RS) : Prop where
  blk : w.heap[p]? = some (.cells (rdArr s m vo vt vr) 63 (0, 0))
  low : B ≤ p
  ents : EntsAt w B m s.ents
  opn : w.ownsRow B 9 1 vo s.opn.length (opnRow s.opn)
  toks : Toks w B vt s.toks
  run : w.ownsRow B 5 1 vr (tx s.run).length (byteCells (tx s.run))
theorem Toks.kept {w w' : World} {B : Nat} {vt : Value} {ts : List XTok} (h : Toks w B vt ts) (S : Nat → Prop) (hk : ∀ k o, w.heap[k]? = some o → ¬ S k → w'.heap[k]? = some o)
    (hS : ∀ k c, S k → w.heap[k]? ≠ some (.cells c 37 (0, 0)) ∧ w.heap[k]? ≠ some (.cells c 40 (0, 0))) : Toks w' B vt ts := by
  obtain ⟨vs, h1, h2, h3⟩ := h
  refine ⟨vs, h1, owns_kept h2 hk fun k hb hs => ?_, fun i t v ht hv => owns_kept (h3 i t v ht hv) hk fun k hb hs => ?_⟩
  · obtain ⟨c, hc⟩ := owns_type h2 hb
    exact (hS k c hs).1 hc
  · obtain ⟨c, hc⟩ := owns_type (h3 i t v ht hv) hb
    exact (hS k c hs).2 hc
theorem Rd.at {w : World} {B p m : Nat} {vo vt vr : Value} {s : RS} (h : Rd w B p m vo vt vr s) : AtS w p s := by
  refine ⟨?_, ?_, blk_open h.blk 1⟩
  · rw [blk_cell h.blk]; rfl
  · rw [blk_cell h.blk]; rfl
theorem Rd.lt {w : World} {B p m : Nat} {vo vt vr : Value} {s : RS} (h : Rd w B p m vo vt vr s) : p < w.heap.size := (Array.getElem?_eq_some_iff.1 h.blk).1
/-- All of a reader but its own block, under what changes other blocks alone. -/
theorem Rd.keep {w w' : World} {B p m : Nat} {vo vt vr : Value} {s : RS} (h : Rd w B p m vo vt vr s) (S : Nat → Prop) (hk : ∀ k o, w.heap[k]? = some o → ¬ S k → w'.heap[k]? = some o)
    (hS : ∀ k, S k → ∃ c t, w.heap[k]? = some (.cells c t (0, 0)) ∧ t ≠ 37 ∧ t ≠ 40 ∧ t ≠ 9 ∧ t ≠ 5)
    {s' : RS} (hp : w'.heap[p]? = some (.cells (rdArr s' m vo vt vr) 63 (0, 0))) (e1 : s'.ents = s.ents) (e2 : s'.opn = s.opn) (e3 : s'.toks = s.toks) (e4 : s'.run = s.run) : Rd w' B p m vo vt vr s' := by
  have hrow : ∀ {base : Nat} {e : TypeId} {size : Nat} {v : Value} {n : Nat} {xs : List Value}, w.ownsRow base e size v n xs → (e = 9 ∨ e = 5) → w'.ownsRow base e size v n xs := fun ho he => owns_kept ho hk fun k hb hs => by
    obtain ⟨c, hc⟩ := owns_type ho hb
    obtain ⟨c', t, ht, _, _, h3, h4⟩ := hS k hs
    rw [hc] at ht
    cases ht
    rcases he with rfl | rfl
    · exact h3 rfl
    · exact h4 rfl
  refine ⟨hp, h.low, ?_, ?_, ?_, ?_⟩
  · rw [e1]
    refine h.ents.kept ?_
    obtain ⟨es, clock, hm⟩ := h.ents.map
    rw [hm]
    refine hk m _ hm fun hs => ?_
    obtain ⟨c, t, ht, _⟩ := hS m hs
    rw [hm] at ht
    cases ht
  · rw [e2]; exact hrow h.opn (.inl rfl)
  · rw [e3]
    refine h.toks.kept S hk fun k c hs => ?_
    obtain ⟨c', t, ht, h1, h2, _⟩ := hS k hs
    rw [ht]
    exact ⟨fun e => by cases e; exact h1 rfl, fun e => by cases e; exact h2 rfl⟩
  · rw [e4]; exact hrow h.run (.inr rfl)
theorem Rd.moved {w w' : World} {B p m : Nat} {vo vt vr : Value} {s s' : RS} (h : Rd w B p m vo vt vr s) (hm : Moves p s'.place w w') (ha : Adv s s') : Rd w' B p m vo vt vr s' := by
  refine h.keep (· = p) (fun k o hk hs => ?_) (fun k hs => ?_) ?_ ?_ ?_ ?_ ?_
  · rw [hm.block (Array.getElem?_eq_some_iff.1 hk).1 hs]; exact hk
  · subst hs
    exact ⟨_, _, h.blk, by decide, by decide, by decide, by decide⟩
  · rw [hm.own h.blk]
    obtain ⟨k, rfl⟩ := ha
    unfold rdArr
    rw [adv_whole]
    rfl
  all_goals (obtain ⟨k, rfl⟩ := ha; rfl)
theorem Rd.on {w w' : World} {B p m : Nat} {vo vt vr : Value} {s : RS} (h : Rd w B p m vo vt vr s) (hb : Below w.heap.size w w') : Rd w' B p m vo vt vr s :=
  h.keep (fun _ => False) (fun _ _ hk _ => block_below hk hb) (fun _ hs => hs.elim) (block_below h.blk hb) rfl rfl rfl rfl
end Go.Proofs.YtefjfjieoiegnaaGreatDoor
