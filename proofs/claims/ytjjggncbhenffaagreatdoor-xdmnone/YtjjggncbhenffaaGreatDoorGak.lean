/- Several texts, laid as one. -/
import Derived.Test.YtjjggncbhenffaaGreatDoorGaj
import Derived.Deep.RegionLawGrows
import Derived.Maps.OwnSet
import Derived.Deep.DeepCutAuto
/- A reader of XML in memory: its tokens, what is open, the text behind the last token. -/
namespace Go.Proofs.YtjjggncbhenffaaGreatDoor
open Go.RowKit
/-- append onto a row of the call's own, as one step of a region that draws its order. -/
theorem step_append_own {P : Program} {ops : Array Oper} {o : Oper} {a : Act} {w : World} {K : Act → World → Prop} {Q : Exit → Act → World → Prop} {E : Prop}
    (hg : o.guard = none) (s x : Operand) (t : TypeId) (hop : o.op = Op.call { callee := Callee.builtin Builtin.append, args := #[s, x], argTypes := #[t, t] })
    (base : Nat) (e : TypeId) (i : TypeInfo) (z : Value) (size bytes : Nat) (h1 : P.underlying t = some (.slice e)) (h2 : P.info? e = some i) (h3 : i.zero = some z) (h4 : i.size = size) (h5 : i.bytes = bytes) (h6 : z.cells.size = size) (h7 : 0 < size)
    (v : Value) (n : Nat) (xs : List Value) (hs : a.eval s = v) (hown : w.ownsRow base e size v n xs)
    (ad : Addr) (m c : Nat) (news : List Value) (hx : a.eval x = .slice (some ad) m c) (hn : news.length = m * size) (hc : ∀ j u, news[j]? = some u → w.cell? (ad.add j) = some u) (h1c : ∀ u ∈ news, u.oneCell' = true)
    (b1 : n + m ≤ maxLen) (b2 : (n + m) * bytes ≤ 140737488355328) (hb : base ≤ w.heap.size)
    (hK : ∀ v' w', w'.ownsRow base e size v' (n + m) (xs ++ news) → w.grownBy w' v.ownBlock → K (a.put o.dst v') w') :
    if Region.wanted o (yielded ops a.tmps) = true then Oper.wp P o a w K Q else E := by
  have hw : Region.wanted o (yielded ops a.tmps) = true := by simp [Region.wanted, hg]
  rw [if_pos hw]
  obtain ⟨v', w', hrun, r1, r2, _⟩ := run_append_own (P := P) w base t o.type e i z size bytes h1 h2 h3 h4 h5 h6 h7 v n xs hown ad m c news hn hc h1c b1 b2 hb
  unfold Oper.wp
  simp [execOp, hop, resolve, invoke, builtin, hs, hx, hrun, Result.andThen]
  exact hK v' w' r1 r2
/-- Every block but some stands; blocks may be new. -/
structure Kp (S : Nat → Prop) (w w' : World) : Prop where
  os : w'.os = w.os
  tape : w'.tape = w.tape
  output : w'.output = w.output
  size : w.heap.size ≤ w'.heap.size
  block : ∀ k, k < w.heap.size → ¬ S k → w'.heap[k]? = w.heap[k]?
theorem Kp.low {S : Nat → Prop} {w w' : World} {B : Nat} (h : Kp S w w') (hB : B ≤ w.heap.size) (hS : ∀ k, S k → B ≤ k) : Below B w w' :=
  ⟨h.os, h.tape, h.output, h.size, fun k hk => h.block k (by omega) fun hs => by have := hS k hs; omega⟩
theorem owns_kept {S : Nat → Prop} {w w' : World} {base : Nat} {e : TypeId} {size : Nat} {v : Value} {n : Nat} {xs : List Value} (h : w.ownsRow base e size v n xs) (hk : ∀ k o, w.heap[k]? = some o → ¬ S k → w'.heap[k]? = some o) (hS : ∀ k, v.ownBlock = some k → ¬ S k) : w'.ownsRow base e size v n xs := by
  refine ⟨h.1, ?_⟩
  rcases h.2 with h | ⟨g, cap, cur, h1, h2, h3, h4⟩
  · exact .inl h
  · exact .inr ⟨g, cap, cur, h1, h2, hk g _ h3 (hS g (by rw [h1]; rfl)), h4⟩
/-- The block of a row that is owned is one of its elements' type. -/
theorem owns_type {w : World} {base : Nat} {e : TypeId} {size : Nat} {v : Value} {n : Nat} {xs : List Value} (h : w.ownsRow base e size v n xs) {k : Nat} (hk : v.ownBlock = some k) : ∃ c, w.heap[k]? = some (.cells c e (0, 0)) := by
  rcases h.2 with ⟨rfl, _⟩ | ⟨g, cap, cur, rfl, _, h3, _⟩
  · cases hk
  · cases hk; exact ⟨cur, h3⟩
theorem owns_apart {w : World} {base base' : Nat} {e e' : TypeId} {size size' : Nat} {v v' : Value} {n n' : Nat} {xs xs' : List Value} (h : w.ownsRow base e size v n xs) (h' : w.ownsRow base' e' size' v' n' xs') (he : e ≠ e') : ∀ k, v.ownBlock = some k → v'.ownBlock ≠ some k := by
  intro k hk hk'
  obtain ⟨c, hc⟩ := owns_type h hk
  obtain ⟨c', hc'⟩ := owns_type h' hk'
  rw [hc] at hc'
  cases hc'
  exact he rfl
theorem owns_not {w : World} {base : Nat} {e : TypeId} {size : Nat} {v : Value} {n : Nat} {xs : List Value} (h : w.ownsRow base e size v n xs) {p : Nat} {c : Array Value} {t : TypeId} {z : Nat × Nat} (hp : w.heap[p]? = some (.cells c t z)) (he : e ≠ t) : v.ownBlock ≠ some p := by
  intro hk
  obtain ⟨c', hc⟩ := owns_type h hk
  rw [hp] at hc
  cases hc
  exact he rfl
theorem owns_pre {w : World} {base : Nat} {e : TypeId} {size : Nat} {a : Option Addr} {n cap k : Nat} {xs : List Value} (h : w.ownsRow base e size (.slice a n cap) n xs) (hk : k ≤ n) : w.ownsRow base e size (.slice a k cap) k (xs.take (k * size)) := by
  refine ⟨by rw [List.length_take, h.1]; exact Nat.min_eq_left (Nat.mul_le_mul_right _ hk), ?_⟩
  rcases h.2 with ⟨h1, h2⟩ | ⟨g, cap', cur, h1, h2, h3, h4, h5, h6, h7⟩
  · cases h1
    obtain rfl : k = 0 := by omega
    exact .inl ⟨rfl, rfl⟩
  · cases h1
    refine .inr ⟨g, cap, cur, rfl, h2, h3, by omega, h5, h6, ?_⟩
    rw [← h7, List.take_take, Nat.min_eq_left (Nat.mul_le_mul_right _ hk)]
def pairRow (l : List (List Nat × List Nat)) : List Value := l.flatMap fun x => [.string (T x.1), .string (T x.2)]
def tokCells (t : XTok) (v : Value) : List Value := [.int .i64 (t.kind : Nat), .string (T t.name), v, .string (T t.text)]
def tokRow : List XTok → List Value → List Value
  | t :: ts, v :: vs => tokCells t v ++ tokRow ts vs
  | _, _ => []
abbrev AttrsAt (w : World) (B : Nat) (v : Value) (l : List (List Nat × List Nat)) : Prop := w.ownsRow B 36 2 v l.length (pairRow l)
def Toks (w : World) (B : Nat) (vt : Value) (ts : List XTok) : Prop := ∃ vs : List Value, vs.length = ts.length ∧ w.ownsRow B 26 4 vt ts.length (tokRow ts vs) ∧
  ∀ (i : Nat) (t : XTok) (v : Value), ts[i]? = some t → vs[i]? = some v → AttrsAt w B v t.attrs
theorem tokRow_snoc : ∀ (ts : List XTok) (vs : List Value) (t : XTok) (v : Value), vs.length = ts.length → tokRow (ts ++ [t]) (vs ++ [v]) = tokRow ts vs ++ tokCells t v
  | [], [], t, v, _ => by simp [tokRow]
  | x :: ts, y :: vs, t, v, h => by
    have ih := tokRow_snoc ts vs t v (by simpa using h)
    show tokCells x y ++ tokRow (ts ++ [t]) (vs ++ [v]) = _
    rw [ih, ← List.append_assoc]; rfl
  | [], _ :: _, _, _, h => by simp at h
  | _ :: _, [], _, _, h => by simp at h
def opnRow (l : List (List Nat)) : List Value := l.map fun x => .string (T x)
/-- How an entity's value reads. -/
def entCells : List Value → Option (DataW Unit × List MemPlace)
  | [.string s] => some (.agg [.lit (.string s.data.toList)], [])
  | _ => none
def entElem : Value → Option (DataW Unit × List MemPlace)
  | .agg a => entCells a.toList
  | _ => none
theorem entElem_inv {v : Value} {x : List UInt8} {ps : List MemPlace} (h : entElem v = some (.agg [.lit (.string x)], ps)) : v = .agg #[.string ⟨x.toArray⟩] := by
  unfold entElem at h
  split at h
  · rename_i a
    unfold entCells at h
    split at h
    · rename_i s hs
      cases h
      have : a = #[.string s] := Array.toList_inj.1 hs
      rw [this]
    · cases h
  · cases h
/-- What names stand for, as a map that is read. -/
def entsD (ents : List (List Nat × List Nat)) : DataW Unit := ents.foldl (fun D x => D.put (.string (tx x.1)) (.agg [.lit (.string (tx x.2))])) (.map [])
/-- What a map's block holds: names that stand for texts. -/
def EntsAt (w : World) (B m : Nat) (ents : List (List Nat × List Nat)) : Prop := B ≤ m ∧ (∀ x ∈ ents, okL x.1 ∧ okL x.2) ∧ w.ownsMap Tryz.prog 9 entElem m ents.length (entsD ents)
theorem EntsAt.kept {w w' : World} {B m : Nat} {ents : List (List Nat × List Nat)} (h : EntsAt w B m ents) (hk : w'.heap[m]? = w.heap[m]?) : EntsAt w' B m ents := by
  obtain ⟨h1, h2, es, clock, h3, h4⟩ := h
  exact ⟨h1, h2, es, clock, by rw [hk]; exact h3, h4⟩
theorem EntsAt.map {w : World} {B m : Nat} {ents : List (List Nat × List Nat)} (h : EntsAt w B m ents) : ∃ es clock, w.heap[m]? = some (.map es clock) := by
  obtain ⟨_, _, es, clock, h3, _⟩ := h
  exact ⟨es, clock, h3⟩
theorem EntsAt.ne {w : World} {B m p : Nat} {ents : List (List Nat × List Nat)} (h : EntsAt w B m ents) {c : Array Value} {t : TypeId} {z : Nat × Nat} (hp : w.heap[p]? = some (.cells c t z)) : m ≠ p := by
  rintro rfl
  obtain ⟨es, clock, h3⟩ := h.map
  rw [hp] at h3
  cases h3
/-- A reader's block. -/
def rdArr (s : RS) (m : Nat) (vo vt vr : Value) : Array Value := #[.string (T (s.pre ++ s.rest)), .int .i64 (s.place : Nat), .map (some m), .int .i64 (s.spent : Nat), vo, vt, vr, .int .i64 (s.runAt : Nat), .int .i64 0, .int .i64 0]
structure Rd (w : World) (B p m : Nat) (vo vt vr : Value) (s : RS) : Prop where
  blk : w.heap[p]? = some (.cells (rdArr s m vo vt vr) 131 (0, 0))
  low : B ≤ p
  ents : EntsAt w B m s.ents
  opn : w.ownsRow B 9 1 vo s.opn.length (opnRow s.opn)
  toks : Toks w B vt s.toks
  run : w.ownsRow B 5 1 vr (tx s.run).length (byteCells (tx s.run))
theorem Toks.kept {w w' : World} {B : Nat} {vt : Value} {ts : List XTok} (h : Toks w B vt ts) (S : Nat → Prop) (hk : ∀ k o, w.heap[k]? = some o → ¬ S k → w'.heap[k]? = some o)
    (hS : ∀ k c, S k → w.heap[k]? ≠ some (.cells c 26 (0, 0)) ∧ w.heap[k]? ≠ some (.cells c 36 (0, 0))) : Toks w' B vt ts := by
  obtain ⟨vs, h1, h2, h3⟩ := h
  refine ⟨vs, h1, owns_kept h2 hk fun k hb hs => ?_, fun i t v ht hv => owns_kept (h3 i t v ht hv) hk fun k hb hs => ?_⟩
  · obtain ⟨c, hc⟩ := owns_type h2 hb
    exact (hS k c hs).1 hc
  · obtain ⟨c, hc⟩ := owns_type (h3 i t v ht hv) hb
    exact (hS k c hs).2 hc
theorem Rd.at {w : World} {B p m : Nat} {vo vt vr : Value} {s : RS} (h : Rd w B p m vo vt vr s) : AtS w p s := by
  refine ⟨?_, ?_, blk_open h.blk 1⟩
  · rw [blk_cell h.blk]; rfl
  · rw [blk_cell h.blk]; rfl
theorem Rd.lt {w : World} {B p m : Nat} {vo vt vr : Value} {s : RS} (h : Rd w B p m vo vt vr s) : p < w.heap.size := (Array.getElem?_eq_some_iff.1 h.blk).1
/-- All of a reader but its own block, under what changes other blocks alone. -/
theorem Rd.keep {w w' : World} {B p m : Nat} {vo vt vr : Value} {s : RS} (h : Rd w B p m vo vt vr s) (S : Nat → Prop) (hk : ∀ k o, w.heap[k]? = some o → ¬ S k → w'.heap[k]? = some o)
    (hS : ∀ k, S k → ∃ c t, w.heap[k]? = some (.cells c t (0, 0)) ∧ t ≠ 26 ∧ t ≠ 36 ∧ t ≠ 9 ∧ t ≠ 5)
    {s' : RS} (hp : w'.heap[p]? = some (.cells (rdArr s' m vo vt vr) 131 (0, 0))) (e1 : s'.ents = s.ents) (e2 : s'.opn = s.opn) (e3 : s'.toks = s.toks) (e4 : s'.run = s.run) : Rd w' B p m vo vt vr s' := by
  have hrow : ∀ {base : Nat} {e : TypeId} {size : Nat} {v : Value} {n : Nat} {xs : List Value}, w.ownsRow base e size v n xs → (e = 9 ∨ e = 5) → w'.ownsRow base e size v n xs := fun ho he => owns_kept ho hk fun k hb hs => by
    obtain ⟨c, hc⟩ := owns_type ho hb
    obtain ⟨c', t, ht, _, _, h3, h4⟩ := hS k hs
    rw [hc] at ht
    cases ht
    rcases he with rfl | rfl
    · exact h3 rfl
    · exact h4 rfl
  refine ⟨hp, h.low, ?_, ?_, ?_, ?_⟩
  · rw [e1]
    refine h.ents.kept ?_
    obtain ⟨es, clock, hm⟩ := h.ents.map
    rw [hm]
    refine hk m _ hm fun hs => ?_
    obtain ⟨c, t, ht, _⟩ := hS m hs
    rw [hm] at ht
    cases ht
  · rw [e2]; exact hrow h.opn (.inl rfl)
  · rw [e3]
    refine h.toks.kept S hk fun k c hs => ?_
    obtain ⟨c', t, ht, h1, h2, _⟩ := hS k hs
    rw [ht]
    exact ⟨fun e => by cases e; exact h1 rfl, fun e => by cases e; exact h2 rfl⟩
  · rw [e4]; exact hrow h.run (.inr rfl)
theorem Rd.moved {w w' : World} {B p m : Nat} {vo vt vr : Value} {s s' : RS} (h : Rd w B p m vo vt vr s) (hm : Moves p s'.place w w') (ha : Adv s s') : Rd w' B p m vo vt vr s' := by
  refine h.keep (· = p) (fun k o hk hs => ?_) (fun k hs => ?_) ?_ ?_ ?_ ?_ ?_
  · rw [hm.block (Array.getElem?_eq_some_iff.1 hk).1 hs]; exact hk
  · subst hs
    exact ⟨_, _, h.blk, by decide, by decide, by decide, by decide⟩
  · rw [hm.own h.blk]
    obtain ⟨k, rfl⟩ := ha
    unfold rdArr
    rw [adv_whole]
    rfl
  all_goals (obtain ⟨k, rfl⟩ := ha; rfl)
theorem Rd.on {w w' : World} {B p m : Nat} {vo vt vr : Value} {s : RS} (h : Rd w B p m vo vt vr s) (hb : Below w.heap.size w w') : Rd w' B p m vo vt vr s :=
  h.keep (fun _ => False) (fun _ _ hk _ => block_below hk hb) (fun _ hs => hs.elim) (block_below h.blk hb) rfl rfl rfl rfl
/-- What is wrong has been told. -/
def Wrong (w : World) (p c pl : Nat) : Prop := w.cell? ⟨p, 8, none⟩ = some (.int .i64 (c : Nat)) ∧ w.cell? ⟨p, 9, none⟩ = some (.int .i64 (pl : Nat))
/-- What a call on a reader tells: it goes on as it should, or what is wrong is told. -/
def outP (o : Except Er RS) (B p m : Nat) (e : Ending) (w w' : World) : Prop := Below B w w' ∧ match o with
  | .ok s' => e = .returned (.bool true) ∧ ∃ vo vt vr, Rd w' B p m vo vt vr s'
  | .error (c, pl) => e = .returned (.bool false) ∧ Wrong w' p c pl
theorem fail_rd {c : Array Value} {t : TypeId} (B p code pl : Nat) (w : World) (hp : w.heap[p]? = some (.cells c t (0, 0))) (hs : c.size = 10) (hB : B ≤ p) :
    Calls Tryz.prog 123 #[.pointer (some ⟨p, 0, none⟩), .int .i64 (code : Nat), .int .i64 (pl : Nat)] w fun e w' => e = .returned (.bool false) ∧ Wrong w' p code pl ∧ Below B w w' := by
  refine (fail_any p code pl w ⟨c[8], by rw [blk_cell hp]; exact Array.getElem?_eq_getElem _⟩ ⟨c[9], by rw [blk_cell hp]; exact Array.getElem?_eq_getElem _⟩ (blk_open hp 8) (blk_open hp 9)).mono ?_
  rintro e w' ⟨rfl, rfl⟩
  refine ⟨rfl, ⟨?_, ?_⟩, ((Below.refl B w).setCell hB _).setCell hB _⟩
  · rw [blk_cell (blk_set (blk_set hp 8 _) 9 _)]
    simp [hs]
  · rw [blk_cell (blk_set (blk_set hp 8 _) 9 _)]
    simp [hs]
end Go.Proofs.YtjjggncbhenffaaGreatDoor
/- A token more: xmlscan's tell and roomForRun. -/
namespace Go.Proofs.YtjjggncbhenffaaGreatDoor
open Go.RowKit
theorem infoTok : (Tryz.prog.info? 26).map (fun i => (i.zero, i.size, i.bytes)) = some (some (.agg #[.int .i64 0, .string ⟨#[]⟩, .slice none 0 0, .string ⟨#[]⟩]), 4, 64) := by kernel_rfl
theorem news4 {W : World} {g : Nat} {a b c d : Value} (h0 : W.cell? ⟨g, 0, none⟩ = some a) (h1 : W.cell? ⟨g, 1, none⟩ = some b) (h2 : W.cell? ⟨g, 2, none⟩ = some c) (h3 : W.cell? ⟨g, 3, none⟩ = some d) :
    ∀ j u, [a, b, c, d][j]? = some u → W.cell? ((⟨g, 0, none⟩ : Addr).add j) = some u := by
  intro j u h
  rw [Addr.add_mid, Nat.zero_add]
  match j, h with
  | 0, h => cases h; exact h0
  | 1, h => cases h; exact h1
  | 2, h => cases h; exact h2
  | 3, h => cases h; exact h3
/-- Behind an append onto the tokens. -/
theorem toks_snoc {w w' : World} {B : Nat} {vt v' va : Value} {ts : List XTok} {t : XTok} {vs : List Value} (h1 : vs.length = ts.length) (h2 : w.ownsRow B 26 4 vt ts.length (tokRow ts vs))
    (h3 : ∀ (i : Nat) (t : XTok) (v : Value), ts[i]? = some t → vs[i]? = some v → AttrsAt w B v t.attrs) (ha : AttrsAt w B va t.attrs) (hg : w.grownBy w' vt.ownBlock)
    (hown : w'.ownsRow B 26 4 v' (ts.length + 1) (tokRow ts vs ++ tokCells t va)) : Toks w' B v' (ts ++ [t]) := by
  have hrow : ∀ {v : Value} {l : List (List Nat × List Nat)}, AttrsAt w B v l → AttrsAt w' B v l := fun {v l} hv => by
    refine ⟨hv.1, ?_⟩
    rcases hv.2 with e | ⟨g, cap, cur, e1, e2, e3, e4⟩
    · exact .inl e
    · refine .inr ⟨g, cap, cur, e1, e2, ?_, e4⟩
      rw [hg.block g (Array.getElem?_eq_some_iff.1 e3).1 (fun e => owns_apart hv h2 (by decide) g (by rw [e1]; rfl) e.symm)]
      exact e3
  refine ⟨vs ++ [va], by simp [h1], ?_, ?_⟩
  · rw [tokRow_snoc ts vs t va h1, List.length_append]
    exact hown
  · intro i x v hx hv
    by_cases hi : i < ts.length
    · rw [List.getElem?_append_left hi] at hx
      rw [List.getElem?_append_left (by omega)] at hv
      exact hrow (h3 i x v hx hv)
    · rw [List.getElem?_append_right (by omega)] at hx
      rw [List.getElem?_append_right (by omega), h1] at hv
      have : i - ts.length = 0 := by
        have := (List.getElem?_eq_some_iff.1 hx).1
        simp at this
        omega
      rw [this] at hx hv
      cases hx
      cases hv
      exact hrow ha
/-- Where the tokens' row was written, and all else stands. -/
theorem Rd.told {X W w' : World} {B p m : Nat} {vo vt vr v' va : Value} {s : RS} {t : XTok} {vs : List Value} (R : Rd X B p m vo vt vr s) (hb : Below X.heap.size X W) (h1 : vs.length = s.toks.length) (h2 : X.ownsRow B 26 4 vt s.toks.length (tokRow s.toks vs))
    (h3 : ∀ (i : Nat) (t : XTok) (v : Value), s.toks[i]? = some t → vs[i]? = some v → AttrsAt X B v t.attrs) (ha : AttrsAt X B va t.attrs) (hg : W.grownBy w' vt.ownBlock)
    (hown : w'.ownsRow B 26 4 v' (s.toks.length + 1) (tokRow s.toks vs ++ tokCells t va)) :
    Rd (w'.setCell ⟨p, 5, none⟩ v') B p m vo v' vr { s with toks := s.toks ++ [t] } ∧ w'.heap[p]? = some (.cells (rdArr s m vo vt vr) 131 (0, 0)) ∧
      (∀ v l, AttrsAt X B v l → AttrsAt (w'.setCell ⟨p, 5, none⟩ v') B v l) ∧ (∀ k o, W.heap[k]? = some o → vt.ownBlock ≠ some k → k ≠ p → (w'.setCell ⟨p, 5, none⟩ v').heap[k]? = some o) := by
  have RW := R.on hb
  have hvt : vt.ownBlock ≠ some p := owns_not h2 R.blk (by decide)
  have hp : w'.heap[p]? = some (.cells (rdArr s m vo vt vr) 131 (0, 0)) := by
    rw [hg.block p RW.lt (fun e => hvt e.symm)]; exact RW.blk
  have hk : ∀ k o, W.heap[k]? = some o → vt.ownBlock ≠ some k → k ≠ p → (w'.setCell ⟨p, 5, none⟩ v').heap[k]? = some o := fun k o ho h1 h2 => by
    rw [blk_other h2, hg.block k (Array.getElem?_eq_some_iff.1 ho).1 (fun e => h1 e.symm)]; exact ho
  have hrow : ∀ {base : Nat} {e : TypeId} {size : Nat} {v : Value} {n : Nat} {xs : List Value}, W.ownsRow base e size v n xs → e ≠ 26 → e ≠ 131 → (w'.setCell ⟨p, 5, none⟩ v').ownsRow base e size v n xs := fun ho e1 e2 =>
    owns_kept (S := fun k => vt.ownBlock = some k ∨ k = p) ho (fun k o hk' hs => hk k o hk' (fun e => hs (.inl e)) (fun e => hs (.inr e))) fun k hk' hs => by
      rcases hs with hs | rfl
      · exact owns_apart ho (owns_below h2 hb) e1 k hk' hs
      · exact owns_not ho RW.blk e2 hk'
  refine ⟨⟨?_, R.low, ?_, hrow RW.opn (by decide) (by decide), ?_, hrow RW.run (by decide) (by decide)⟩, hp, fun v l hv => hrow (owns_below hv hb) (by decide) (by decide), hk⟩
  · rw [blk_set hp]; rfl
  · refine RW.ents.kept ?_
    obtain ⟨es, clock, hm⟩ := RW.ents.map
    rw [hm]
    refine hk m _ hm (fun e => ?_) (RW.ents.ne RW.blk)
    obtain ⟨c, hc⟩ := owns_type (owns_below h2 hb) e
    rw [hm] at hc
    cases hc
  · have ht := toks_snoc h1 (owns_below h2 hb) (fun i t v a b => owns_below (h3 i t v a b) hb) (owns_below ha hb) hg hown
    refine ht.kept (· = p) (fun k o ho hs => by rw [blk_other hs]; exact ho) fun k c hs => ?_
    subst hs
    rw [hp]
    exact ⟨fun e => (by cases e), fun e => (by cases e)⟩
theorem Rd.from {w : World} {B p m : Nat} {vo vt vr : Value} {s : RS} (R : Rd w B p m vo vt vr s) (n : Nat) : Rd (w.setCell ⟨p, 7, none⟩ (.int .i64 (n : Nat))) B p m vo vt vr { s with runAt := n } := by
  refine R.keep (· = p) (fun k o hk hs => by rw [blk_other hs]; exact hk) (fun k hs => ?_) ?_ rfl rfl rfl rfl
  · subst hs
    exact ⟨_, _, R.blk, by decide, by decide, by decide, by decide⟩
  · rw [blk_set R.blk]; rfl
theorem attrs_set {w : World} {B p m i : Nat} {vo vt vr v va : Value} {s : RS} {l : List (List Nat × List Nat)} (R : Rd w B p m vo vt vr s) (ha : AttrsAt w B va l) : AttrsAt (w.setCell ⟨p, i, none⟩ v) B va l :=
  owns_kept (S := (· = p)) ha (fun k o hk hs => by rw [blk_other hs]; exact hk) fun k hk hs => by
    subst hs
    exact owns_not ha R.blk (by decide) hk
theorem Rd.cleared {w : World} {B p m n cr : Nat} {ar : Option Addr} {vo vt : Value} {s : RS} (R : Rd w B p m vo vt (.slice ar n cr) s) : Rd (w.setCell ⟨p, 6, none⟩ (.slice ar 0 cr)) B p m vo vt (.slice ar 0 cr) { s with run := [] } := by
  have hk : ∀ k o, w.heap[k]? = some o → ¬ k = p → (w.setCell ⟨p, 6, none⟩ (.slice ar 0 cr)).heap[k]? = some o := fun k o hk hs => by rw [blk_other hs]; exact hk
  have R' : Rd (w.setCell ⟨p, 6, none⟩ (.slice ar n cr)) B p m vo vt (.slice ar n cr) s := by
    refine R.keep (· = p) (fun k o hk hs => by rw [blk_other hs]; exact hk) (fun k hs => ?_) ?_ rfl rfl rfl rfl
    · subst hs
      exact ⟨_, _, R.blk, by decide, by decide, by decide, by decide⟩
    · rw [blk_set R.blk]; rfl
  have hrow : ∀ {base : Nat} {e : TypeId} {size : Nat} {v : Value} {n : Nat} {xs : List Value}, w.ownsRow base e size v n xs → e ≠ 131 → (w.setCell ⟨p, 6, none⟩ (.slice ar 0 cr)).ownsRow base e size v n xs := fun ho he => owns_kept ho hk fun k hb hs => by
    subst hs
    exact owns_not ho R.blk he hb
  refine ⟨by rw [blk_set R.blk]; rfl, R.low, R.ents.kept (by rw [blk_other (R.ents.ne R.blk)]), hrow R.opn (by decide), ?_, ?_⟩
  · refine R.toks.kept (· = p) hk fun k c hs => ?_
    subst hs
    rw [R.blk]
    exact ⟨fun e => (by cases e), fun e => (by cases e)⟩
  · have hf := R.run
    obtain ⟨a, c, e⟩ := owns_slice hf
    cases e
    exact hrow (owns_pre hf (Nat.zero_le _)) (by decide)
/-- A token in a block of its own. -/
def BoxAt (w : World) (b : Nat) (t : XTok) (va : Value) : Prop := w.cell? ⟨b, 0, none⟩ = some (.int .i64 (t.kind : Nat)) ∧ w.cell? ⟨b, 1, none⟩ = some (.string (T t.name)) ∧ w.cell? ⟨b, 2, none⟩ = some va ∧ w.cell? ⟨b, 3, none⟩ = some (.string (T t.text))
theorem BoxAt.kept {w w' : World} {b : Nat} {t : XTok} {va : Value} (h : BoxAt w b t va) (hk : w'.heap[b]? = w.heap[b]?) : BoxAt w' b t va := by
  unfold BoxAt World.cell? at *
  rw [hk]; exact h
theorem flush_eq (s : RS) : (s.run = [] → s.flush = s) ∧ (s.run ≠ [] → s.flush = { s with toks := s.toks ++ [⟨4, [], [], s.run⟩], run := [] }) := by
  unfold RS.flush
  exact ⟨fun h => by rw [if_pos h], fun h => by rw [if_neg h]⟩
/-- What is told behind the text. -/
theorem tell_eq (s : RS) (t : XTok) (pl : Nat) : s.tell t pl = if s.flush.toks.length = 4096 then .error (6, pl) else .ok { s.flush with runAt := s.place, toks := s.flush.toks ++ [t] } := rfl
theorem flush_place (s : RS) : s.flush.place = s.place := by
  unfold RS.flush
  split <;> rfl
set_option maxRecDepth 100000 in
set_option maxHeartbeats 4000000 in
theorem tell_any (B p m : Nat) (vo vt vr va : Value) (s : RS) (t : XTok) (pl : Nat) (w : World) (R : Rd w B p m vo vt vr s) (ha : AttrsAt w B va t.attrs) (hn : s.flush.toks.length ≤ 4096) (hrp : s.run ≠ [] → 0 < (tx s.run).length) (hB : B ≤ w.heap.size) :
    Calls Tryz.prog 157 #[.pointer (some ⟨p, 0, none⟩), .agg #[.int .i64 (t.kind : Nat), .string (T t.name), va, .string (T t.text)], .int .i64 (pl : Nat)] w fun e w' => outP (s.tell t pl) B p m e w w' := by
  have hlow := R.low
  have hlt := R.lt
  obtain ⟨aa, ca, rfl⟩ := owns_slice ha
  have HTE := hide (tell_eq s t pl)
  have hw1 : Below w.heap.size w (w.alloc (.cells #[.int .i64 (t.kind : Nat), .string (T t.name), .slice aa t.attrs.length ca, .string (T t.text)] 26)) := (Below.refl _ _).alloc (Nat.le_refl _) _
  have R1 := R.on hw1
  have ha1 := owns_below ha hw1
  have HB1 := hide (hw1.mono hB)
  have hbox : BoxAt (w.alloc (.cells #[.int .i64 (t.kind : Nat), .string (T t.name), .slice aa t.attrs.length ca, .string (T t.text)] 26)) w.heap.size t (.slice aa t.attrs.length ca) := ⟨by simp [go_sem], by simp [go_sem], by simp [go_sem], by simp [go_sem]⟩
  have HR1 := hide R1
  have hself := Below.refl (w.alloc (.cells #[.int .i64 (t.kind : Nat), .string (T t.name), .slice aa t.attrs.length ca, .string (T t.text)] 26)).heap.size (w.alloc (.cells #[.int .i64 (t.kind : Nat), .string (T t.name), .slice aa t.attrs.length ca, .string (T t.text)] 26))
  have HA1 := hide ha1
  have HBX := hide hbox
  obtain ⟨vs0, _, hrow0, _⟩ := R.toks
  have HVB : Hid (∀ k, vt.ownBlock = some k → k < w.heap.size) := hide fun k hk => (hrow0.lt k hk).2
  clear hrow0
  obtain ⟨vs, hvs, hrow, hat⟩ := R1.toks
  have HVS := hide hvs
  have HROW := hide hrow
  have HAT := hide hat
  have hfrm := hrow
  obtain ⟨at', ct, rfl⟩ := owns_slice hfrm
  obtain ⟨ar, cr, rfl⟩ := owns_slice R.run
  have c0 := fun i => blk_cell R.blk i
  have o0 := fun i => blk_open R.blk i
  have c5 : _ = some (Value.slice at' s.toks.length ct) := c0 5
  have c6 : _ = some (Value.slice ar (tx s.run).length cr) := c0 6
  have o5 := o0 5
  have o6 := o0 6
  have hcv := conv_owned (Rd.run R1)
  have hcv' : (convert 97 9 (.slice ar (tx s.run).length cr)).run Tryz.prog (w.alloc (.cells #[.int .i64 (t.kind : Nat), .string (T t.name), .slice aa t.attrs.length ca, .string (T t.text)] 26)).drew = .ok (.string (T s.run)) (w.alloc (.cells #[.int .i64 (t.kind : Nat), .string (T t.name), .slice aa t.attrs.length ca, .string (T t.text)] 26)).drew := conv_owned (owns_below (Rd.run R1) (Below.drew (Below.refl _ _)))
  have hfl := flush_eq s
  have HFL := hide hfl
  have HFP := hide (flush_place s)
  obtain ⟨i0, hi, hz0, hz1, hz2⟩ := info_parts infoTok
  clear c0 o0 hfrm hrow R R1 ha ha1 hat hvs hw1 hbox hcv hfl
  go_enter Tryz.func157, Tryz.ntmps157
  go_upto_if 12 with fail
  go_cut [] (fun wx => ∃ vt1 vr1, Rd wx B p m vo vt1 vr1 s.flush ∧ AttrsAt wx B (.slice aa t.attrs.length ca) t.attrs ∧ BoxAt wx w.heap.size t (.slice aa t.attrs.length ca) ∧ Below B w wx ∧ w.heap.size < wx.heap.size)
  case first =>
    by_cases hr : s.run = []
    · have hz : (tx s.run).length = 0 := by rw [hr]; rfl
      rw [hz] at c6 hcv' ⊢
      have HRE := hide hr
      clear hr hz
      go_wp2_with fail
      go_meet
      rw [(unhide HFL).1 (unhide HRE)]
      exact ⟨_, _, unhide HR1, unhide HA1, unhide HBX, unhide HB1, by simp⟩
    · have hz : 0 < (tx s.run).length := hrp hr
      have hn2 : s.toks.length + 1 ≤ 4096 := by
        have := hn
        rw [(unhide HFL).2 hr] at this
        simpa using this
      have HRE := hide hr
      clear hr
      go_wp2_with fail
      go_region_law (refine step_append_own rfl (.tmp 17) (.tmp 24) 22 rfl B 26 i0 _ 4 64 Tryz.underlying22 hi hz0 hz1 hz2 rfl (by decide) (.slice at' s.toks.length ct) s.toks.length (tokRow s.toks vs) rfl (owns_below (unhide HROW) (by (repeat first | with_reducible exact hself | refine Below.drew ?_ | refine Below.alloc ?_ (by simp) _))) _ 1 1 [.int .i64 4, .string ⟨#[]⟩, .slice none 0 0, .string (T s.run)] rfl rfl (news4 (by simp [go_sem]) (by simp [go_sem]) (by simp [go_sem]) (by simp [go_sem])) (fun u hu => by simp at hu; rcases hu with rfl | rfl | rfl | rfl <;> rfl) (by unfold maxLen; omega) (by omega) (by simp; omega) ?_; intro v' w' hown hgrow; obtain ⟨a5, b5, rfl⟩ := owns_slice hown; have hR := (unhide HR1).told (t := ⟨4, [], [], s.run⟩) (va := .slice none 0 0) (by (repeat first | with_reducible exact hself | refine Below.drew ?_ | refine Below.alloc ?_ (by simp) _)) (unhide HVS) (unhide HROW) (unhide HAT) (World.ownsRow_nil _ _ _ _) hgrow hown; have c5' : w'.cell? ⟨p, 5, none⟩ = some (.slice at' s.toks.length ct) := blk_cell hR.2.1 5; have o5' := blk_open hR.2.1 5; have c6' : w'.cell? ⟨p, 6, none⟩ = some (.slice ar (tx s.run).length cr) := blk_cell hR.2.1 6; have o6' := blk_open hR.2.1 6; have hB' := Below.grown (B := B) (((unhide HB1).alloc (by simp; omega) _).drew) hgrow (by simp; omega) (owns_ge (unhide HROW)))
      all_goals have HRC := hide (Rd.cleared hR.1)
      all_goals have HAC := hide (attrs_set (i := 6) (v := .slice ar 0 cr) hR.1 (hR.2.2.1 _ _ (unhide HA1)))
      all_goals have HBC := hide (BoxAt.kept (w' := (w'.setCell ⟨p, 5, none⟩ (.slice a5 (s.toks.length + 1) b5)).setCell ⟨p, 6, none⟩ (.slice ar 0 cr)) (unhide HBX) (by obtain ⟨c, tt, z, hc, _⟩ := cell_blk (unhide HBX).1; rw [hc, blk_other (by omega)]; exact hR.2.2.2 _ _ (block_below hc (by (repeat first | with_reducible exact hself | refine Below.drew ?_ | refine Below.alloc ?_ (by simp) _))) (fun e => by have := unhide HVB _ e; omega) (by omega)))
      all_goals have hsz : w.heap.size < w'.heap.size := (by have := hgrow.size; simp at this; omega)
      all_goals clear hR
      all_goals go_wp2_with fail
      all_goals go_meet
      all_goals rw [(unhide HFL).2 (unhide HRE)]
      all_goals exact ⟨_, _, unhide HRC, unhide HAC, unhide HBC, (hB'.setCell hlow _).setCell hlow _, by simp; exact hsz⟩
  case rest =>
    obtain ⟨vt1, vr1, R2, ha2, hbx, hb2, hsz⟩ := hcut
    have R7 := R2.from s.place
    have HA7 := hide (attrs_set (i := 7) (v := .int .i64 (s.place : Nat)) R2 ha2)
    have HR7 := hide R7
    clear HR1 HA1 HBX HVS HROW HAT hcv' c5 c6 o5 o6 hself HB1 HVB
    obtain ⟨vs2, hvs, hrow, hat⟩ := R7.toks
    have HVS := hide hvs
    have HROW := hide hrow
    have HAT := hide hat
    have hfrm := hrow
    obtain ⟨at2, ct2, rfl⟩ := owns_slice hfrm
    have hlt2 := R2.lt
    have c0 := fun i => blk_cell R2.blk i
    have o0 := fun i => blk_open R2.blk i
    have c1 : wc.cell? ⟨p, 1, none⟩ = some (Value.int .i64 (s.place : Nat)) := by
      have := c0 1
      rw [← unhide HFP]; exact this
    have c5 : _ = some (Value.slice at2 s.flush.toks.length ct2) := c0 5
    have c7 : _ = some (Value.int .i64 (s.flush.runAt : Nat)) := c0 7
    have o5 := o0 5
    have o7 := o0 7
    have b1 := hbx.1
    have b2 := hbx.2.1
    have b3 := hbx.2.2.1
    have b4 := hbx.2.2.2
    have hne : w.heap.size ≠ p := by omega
    have HB7 : Hid (Below B w (wc.setCell ⟨p, 7, none⟩ (.int .i64 (s.place : Nat)))) := hide (hb2.setCell hlow _)
    have hBc : B ≤ wc.heap.size := by omega
    clear c0 o0 hfrm hrow R2 R7 ha2 hat hvs hbx hb2
    by_cases hf : s.flush.toks.length = 4096
    · have HF := hide hf
      have hf' : ((s.flush.toks.length : Int) == 4096) = true := by rw [hf]; rfl
      clear hf
      go_wp2_with (go_at_call 123; refine (fail_rd B p 6 pl _ (unhide HR7).blk rfl hlow).mono ?_; rintro e w2 ⟨rfl, hw2, hb2⟩)
      go_ret
      rw [unhide HTE, if_pos (unhide HF)]
      exact ⟨(unhide HB7).trans hb2, rfl, hw2⟩
    · have HF := hide hf
      have hf' : ((s.flush.toks.length : Int) == 4096) = false := by simpa using (by omega : ¬ (s.flush.toks.length : Int) = 4096)
      have hn' : s.flush.toks.length + 1 ≤ 4096 := by omega
      clear hf
      have hself := Below.refl (wc.setCell ⟨p, 7, none⟩ (.int .i64 (s.place : Nat))).heap.size (wc.setCell ⟨p, 7, none⟩ (.int .i64 (s.place : Nat)))
      go_wp2_with fail
      go_region_law (refine step_append_own rfl (.tmp 56) (.tmp 58) 22 rfl B 26 i0 _ 4 64 Tryz.underlying22 hi hz0 hz1 hz2 rfl (by decide) (.slice at2 s.flush.toks.length ct2) s.flush.toks.length (tokRow s.flush.toks vs2) rfl (owns_below (unhide HROW) (by (repeat first | with_reducible exact hself | refine Below.drew ?_ | refine Below.alloc ?_ (by simp) _))) _ 1 1 (tokCells t (.slice aa t.attrs.length ca)) rfl rfl (news4 (by simp [go_sem]) (by simp [go_sem]) (by simp [go_sem]) (by simp [go_sem])) (fun u hu => by simp [tokCells] at hu; rcases hu with rfl | rfl | rfl | rfl <;> rfl) (by unfold maxLen; omega) (by omega) (by simp; omega) ?_; intro v' w' hown hgrow; obtain ⟨a5, b5, rfl⟩ := owns_slice hown; have hR := (unhide HR7).told (by (repeat first | with_reducible exact hself | refine Below.drew ?_ | refine Below.alloc ?_ (by simp) _)) (unhide HVS) (unhide HROW) (unhide HAT) (unhide HA7) hgrow hown; have c5' : w'.cell? ⟨p, 5, none⟩ = some (.slice at2 s.flush.toks.length ct2) := blk_cell hR.2.1 5; have o5' := blk_open hR.2.1 5; have hB' := Below.grown (B := B) (((unhide HB7).alloc (by simp; omega) _).drew) hgrow (by simp; omega) (owns_ge (unhide HROW)))
      all_goals have HRR := hide hR.1
      all_goals clear hR
      all_goals go_wp2
      all_goals go_ret
      all_goals rw [unhide HTE, if_neg (unhide HF)]
      all_goals exact ⟨hB'.setCell hlow _, rfl, _, _, _, unhide HRR⟩
end Go.Proofs.YtjjggncbhenffaaGreatDoor
