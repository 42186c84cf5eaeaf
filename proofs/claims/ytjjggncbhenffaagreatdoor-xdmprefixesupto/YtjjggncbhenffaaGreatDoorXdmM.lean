/- Trees in memory: what prefixes stand for, nodes, and a builder of them. -/
import Derived.Test.YtjjggncbhenffaaGreatDoorGae
import Derived.Test.YtjjggncbhenffaaGreatDoorGak
namespace Go.Proofs.YtjjggncbhenffaaGreatDoor
open Go.RowKit
/-- What prefixes stand for, as a map that is read. -/
def scD (s : Sc) : DataW Unit := .map (s.map fun x => (.string (tx x.1), .agg [.lit (.string (tx x.2))]))
/-- Prefixes and what they stand for are texts, and not long. -/
def OkSc (s : Sc) : Prop := ∀ x ∈ s, (okL x.1 ∧ okL x.2) ∧ (T x.1).size ≤ 1048576 ∧ (T x.2).size ≤ 1048576
def ScV (w : World) (B : Nat) (v : Value) (s : Sc) : Prop := OkSc s ∧ ((v = .map none ∧ s = []) ∨ ∃ b, v = .map (some b) ∧ B ≤ b ∧ w.ownsMap Tryz.prog 9 entElem b s.length (scD s))
theorem ScV.nil (w : World) (B : Nat) : ScV w B (.map none) [] := ⟨(fun _ h => by cases h), .inl ⟨rfl, rfl⟩⟩
theorem ScV.one {w : World} {B : Nat} {v : Value} {s : Sc} (h : ScV w B v s) : ∃ m, v = .map m := by
  rcases h.2 with ⟨rfl, _⟩ | ⟨b, rfl, _⟩
  · exact ⟨_, rfl⟩
  · exact ⟨_, rfl⟩
theorem ScV.kept {w w' : World} {B : Nat} {v : Value} {s : Sc} (h : ScV w B v s) (hk : ∀ b es clock, w.heap[b]? = some (.map es clock) → v = .map (some b) → w'.heap[b]? = some (.map es clock)) : ScV w' B v s := by
  refine ⟨h.1, ?_⟩
  rcases h.2 with h2 | ⟨b, rfl, hb, es, clock, h1, h2⟩
  · exact .inl h2
  · exact .inr ⟨b, rfl, hb, es, clock, hk b es clock h1 rfl, h2⟩
theorem ScV.on {w w' : World} {B : Nat} {v : Value} {s : Sc} (h : ScV w B v s) (hb : Below w.heap.size w w') : ScV w' B v s :=
  h.kept fun b es clock h1 _ => by rw [hb.block b (Array.getElem?_eq_some_iff.1 h1).1]; exact h1
theorem ScV.low {w : World} {B B' : Nat} {v : Value} {s : Sc} (h : ScV w B v s) (hB : B' ≤ B) : ScV w B' v s := by
  refine ⟨h.1, ?_⟩
  rcases h.2 with h2 | ⟨b, h1, hb, h2⟩
  · exact .inl h2
  · exact .inr ⟨b, h1, Nat.le_trans hB hb, h2⟩
def nodeCells (x : XNode) (v : Value) : List Value := [.int .i64 (x.kind : Nat), .string (T x.name.uri), .string (T x.name.pre), .string (T x.name.loc), .string (T x.text), .int .i64 x.parent, .int .i64 (x.fin : Nat), .int .i64 (x.deep : Nat), v]
def nodeRow : List XNode → List Value → List Value
  | x :: xs, v :: vs => nodeCells x v ++ nodeRow xs vs
  | _, _ => []
theorem nodeRow_snoc : ∀ (xs : List XNode) (vs : List Value) (x : XNode) (v : Value), vs.length = xs.length → nodeRow (xs ++ [x]) (vs ++ [v]) = nodeRow xs vs ++ nodeCells x v
  | [], [], x, v, _ => by simp [nodeRow]
  | y :: xs, u :: vs, x, v, h => by
    have ih := nodeRow_snoc xs vs x v (by simpa using h)
    show nodeCells y u ++ nodeRow (xs ++ [x]) (vs ++ [v]) = _
    rw [ih, ← List.append_assoc]; rfl
  | [], _ :: _, _, _, h => by simp at h
  | _ :: _, [], _, _, h => by simp at h
theorem nodeRow_get : ∀ (xs : List XNode) (vs : List Value) (i : Nat) (x : XNode) (v : Value) (j : Nat), xs[i]? = some x → vs[i]? = some v → j < 9 → (nodeRow xs vs)[i * 9 + j]? = (nodeCells x v)[j]?
  | [], _, i, x, v, j, h, _, _ => by cases h
  | y :: xs, [], i, x, v, j, _, h, _ => by cases h
  | y :: xs, u :: vs, 0, x, v, j, h, h', hj => by
    cases h
    cases h'
    show (nodeCells y u ++ nodeRow xs vs)[0 * 9 + j]? = _
    rw [Nat.zero_mul, Nat.zero_add, List.getElem?_append_left (by show j < 9; exact hj)]
  | y :: xs, u :: vs, i + 1, x, v, j, h, h', hj => by
    show (nodeCells y u ++ nodeRow xs vs)[(i + 1) * 9 + j]? = _
    rw [List.getElem?_append_right (by show 9 ≤ _; omega), show (i + 1) * 9 + j - (nodeCells y u).length = i * 9 + j by show (i + 1) * 9 + j - 9 = _; omega]
    exact nodeRow_get xs vs i x v j h h' hj
/-- Nodes in memory. -/
def Nodes (w : World) (B : Nat) (vn : Value) (xs : List XNode) : Prop := ∃ vs : List Value, vs.length = xs.length ∧ w.ownsRow B 69 9 vn xs.length (nodeRow xs vs) ∧
  ∀ (i : Nat) (x : XNode) (v : Value), xs[i]? = some x → vs[i]? = some v → ScV w B v x.scope
theorem Nodes.nil (w : World) (B : Nat) : Nodes w B (.slice none 0 0) [] := ⟨[], rfl, World.ownsRow_nil _ _ _ _, fun i x v h => by cases h⟩
theorem Nodes.kept {w w' : World} {B : Nat} {vn : Value} {xs : List XNode} (h : Nodes w B vn xs) (S : Nat → Prop) (hk : ∀ k o, w.heap[k]? = some o → ¬ S k → w'.heap[k]? = some o)
    (hS : ∀ k, S k → vn.ownBlock ≠ some k ∧ ∀ es clock, w.heap[k]? ≠ some (.map es clock)) : Nodes w' B vn xs := by
  obtain ⟨vs, h1, h2, h3⟩ := h
  refine ⟨vs, h1, owns_kept h2 hk fun k hb hs => (hS k hs).1 hb, fun i x v hx hv => (h3 i x v hx hv).kept fun b es clock hb _ => hk b _ hb fun hs => (hS b hs).2 es clock hb⟩
theorem Nodes.on {w w' : World} {B : Nat} {vn : Value} {xs : List XNode} (h : Nodes w B vn xs) (hb : Below w.heap.size w w') : Nodes w' B vn xs :=
  h.kept (fun _ => False) (fun k o hk _ => by rw [hb.block k (Array.getElem?_eq_some_iff.1 hk).1]; exact hk) (fun _ h => h.elim)
def intRow (l : List Nat) : List Value := l.map fun n => .int .i64 (n : Nat)
/-- A builder in memory. -/
structure Bd (w : World) (B p : Nat) (vn vo : Value) (s : BS) : Prop where
  blk : w.heap[p]? = some (.cells #[vn, vo] 64 (0, 0))
  low : B ≤ p
  nodes : Nodes w B vn s.nodes
  opn : w.ownsRow B 3 1 vo s.opn.length (intRow s.opn)
theorem Bd.lt {w : World} {B p : Nat} {vn vo : Value} {s : BS} (h : Bd w B p vn vo s) : p < w.heap.size := (Array.getElem?_eq_some_iff.1 h.blk).1
theorem Bd.on {w w' : World} {B p : Nat} {vn vo : Value} {s : BS} (h : Bd w B p vn vo s) (hb : Below w.heap.size w w') : Bd w' B p vn vo s :=
  ⟨by rw [hb.block p h.lt]; exact h.blk, h.low, h.nodes.on hb, owns_below h.opn hb⟩
/-- What a builder's methods may change: its block, and its two rows. -/
def BdS (p : Nat) (vn vo : Value) (k : Nat) : Prop := k = p ∨ vn.ownBlock = some k ∨ vo.ownBlock = some k
/-- Where a builder stands behind a method: what else there was stands, and its rows lie where they lay, or are new. -/
structure BdTo (B p : Nat) (vn vo : Value) (w w' : World) (vn' vo' : Value) (s' : BS) : Prop where
  bd : Bd w' B p vn' vo' s'
  kp : Kp (BdS p vn vo) w w'
  atn : ∀ k, vn'.ownBlock = some k → vn.ownBlock = some k ∨ w.heap.size ≤ k
  ato : ∀ k, vo'.ownBlock = some k → vo.ownBlock = some k ∨ w.heap.size ≤ k
theorem Kp.andThen {S S' : Nat → Prop} {a b c : World} (h : Kp S a b) (g : Kp S' b c) (hS : ∀ k, k < a.heap.size → S' k → S k) : Kp S a c :=
  ⟨g.os.trans h.os, g.tape.trans h.tape, g.output.trans h.output, Nat.le_trans h.size g.size, fun k hk hs => by rw [g.block k (Nat.lt_of_lt_of_le hk h.size) fun hs' => hs (hS k hk hs'), h.block k hk hs]⟩
theorem Kp.of {S : Nat → Prop} {w w' : World} (h : Below w.heap.size w w') : Kp S w w' := ⟨h.os, h.tape, h.output, h.size, fun k hk _ => h.block k hk⟩
theorem Kp.refl (S : Nat → Prop) (w : World) : Kp S w w := ⟨rfl, rfl, rfl, Nat.le_refl _, fun _ _ _ => rfl⟩
theorem Kp.grown {S : Nat → Prop} {w a b : World} {row : Option Nat} (h : Kp S w a) (g : a.grownBy b row) (hr : ∀ j, row = some j → j < w.heap.size → S j) : Kp S w b :=
  ⟨g.os.trans h.os, g.tape.trans h.tape, g.output.trans h.output, Nat.le_trans h.size g.size, fun k hk hs => by rw [g.block k (Nat.lt_of_lt_of_le hk h.size) (fun e => hs (hr k e.symm hk)), h.block k hk hs]⟩
theorem BdTo.then {B p : Nat} {vn vo vn1 vo1 vn2 vo2 : Value} {a b c : World} {s1 s2 : BS} (h : BdTo B p vn vo a b vn1 vo1 s1) (g : BdTo B p vn1 vo1 b c vn2 vo2 s2) : BdTo B p vn vo a c vn2 vo2 s2 := by
  have hsz := h.kp.size
  refine ⟨g.bd, h.kp.andThen g.kp fun k hk hs => ?_, fun k hk => ?_, fun k hk => ?_⟩
  · rcases hs with hs | hs | hs
    · exact .inl hs
    · rcases h.atn k hs with h1 | h1
      · exact .inr (.inl h1)
      · omega
    · rcases h.ato k hs with h1 | h1
      · exact .inr (.inr h1)
      · omega
  · rcases g.atn k hk with h1 | h1
    · exact h.atn k h1
    · exact .inr (by omega)
  · rcases g.ato k hk with h1 | h1
    · exact h.ato k h1
    · exact .inr (by omega)
theorem BdTo.still {B p : Nat} {vn vo : Value} {w w' : World} {s : BS} (h : Bd w B p vn vo s) (hb : Below w.heap.size w w') : BdTo B p vn vo w w' vn vo s := ⟨h.on hb, Kp.of hb, fun _ h => .inl h, fun _ h => .inl h⟩
theorem Bd.low' {w : World} {B p : Nat} {vn vo : Value} {s : BS} (h : Bd w B p vn vo s) : ∀ k, BdS p vn vo k → B ≤ k := by
  rintro k (rfl | hk | hk)
  · exact h.low
  · obtain ⟨vs, _, h2, _⟩ := h.nodes
    exact (h2.lt k hk).1
  · exact (h.opn.lt k hk).1
theorem BdTo.below {B p : Nat} {vn vo vn' vo' : Value} {w w' : World} {s s' : BS} (h : BdTo B p vn vo w w' vn' vo' s') (hB : Bd w B p vn vo s) (hle : B ≤ w.heap.size) : Below B w w' := h.kp.low hle hB.low'
theorem alloc_new (w : World) (o : Obj) : (w.alloc o).heap[w.heap.size]? = some o := by
  unfold World.alloc
  exact Array.getElem?_push_size
theorem Bd.cells {w : World} {B p : Nat} {vn vo : Value} {s : BS} (h : Bd w B p vn vo s) {k : Nat} (hk : BdS p vn vo k) : ∃ c t, w.heap[k]? = some (.cells c t (0, 0)) ∧ k < w.heap.size := by
  rcases hk with rfl | hk | hk
  · exact ⟨_, _, h.blk, h.lt⟩
  · obtain ⟨vs, _, h2, _⟩ := h.nodes
    obtain ⟨c, hc⟩ := owns_type h2 hk
    exact ⟨c, _, hc, (h2.lt k hk).2⟩
  · obtain ⟨c, hc⟩ := owns_type h.opn hk
    exact ⟨c, _, hc, (h.opn.lt k hk).2⟩
theorem BdTo.sc {B p : Nat} {vn vo vn' vo' v : Value} {w w' : World} {s s' : BS} {l : Sc} (h : BdTo B p vn vo w w' vn' vo' s') (H : Bd w B p vn vo s) (hv : ScV w B v l) : ScV w' B v l := by
  refine hv.kept fun b es c hb _ => ?_
  rw [h.kp.block b (Array.getElem?_eq_some_iff.1 hb).1 fun hs => ?_]
  · exact hb
  · obtain ⟨c', t, hc, _⟩ := H.cells hs
    rw [hc] at hb
    cases hb
/-- append onto a row of the call's own, as one step of a region that draws its order, with where the row lies behind it. -/
theorem step_append_where {P : Program} {ops : Array Oper} {o : Oper} {a : Act} {w : World} {K : Act → World → Prop} {Q : Exit → Act → World → Prop} {E : Prop}
    (hg : o.guard = none) (s x : Operand) (t : TypeId) (hop : o.op = Op.call { callee := Callee.builtin Builtin.append, args := #[s, x], argTypes := #[t, t] })
    (base : Nat) (e : TypeId) (i : TypeInfo) (z : Value) (size bytes : Nat) (h1 : P.underlying t = some (.slice e)) (h2 : P.info? e = some i) (h3 : i.zero = some z) (h4 : i.size = size) (h5 : i.bytes = bytes) (h6 : z.cells.size = size) (h7 : 0 < size)
    (v : Value) (n : Nat) (xs : List Value) (hs : a.eval s = v) (hown : w.ownsRow base e size v n xs)
    (ad : Addr) (m c : Nat) (news : List Value) (hx : a.eval x = .slice (some ad) m c) (hn : news.length = m * size) (hc : ∀ j u, news[j]? = some u → w.cell? (ad.add j) = some u) (h1c : ∀ u ∈ news, u.oneCell' = true)
    (b1 : n + m ≤ maxLen) (b2 : (n + m) * bytes ≤ 140737488355328) (hb : base ≤ w.heap.size)
    (hK : ∀ v' w', w'.ownsRow base e size v' (n + m) (xs ++ news) → w.grownBy w' v.ownBlock → (v'.ownBlock = v.ownBlock ∨ v'.ownBlock = some w.heap.size) → K (a.put o.dst v') w') :
    if Region.wanted o (yielded ops a.tmps) = true then Oper.wp P o a w K Q else E := by
  have hw : Region.wanted o (yielded ops a.tmps) = true := by simp [Region.wanted, hg]
  rw [if_pos hw]
  obtain ⟨v', w', hrun, r1, r2, _, r3⟩ := run_append_own_at (P := P) w base t o.type e i z size bytes h1 h2 h3 h4 h5 h6 h7 v n xs hown ad m c news hn hc h1c b1 b2 hb
  unfold Oper.wp
  simp [execOp, hop, resolve, invoke, builtin, hs, hx, hrun, Result.andThen]
  exact hK v' w' r1 r2 r3
theorem newsI1 {W : World} {g : Nat} {a : Value} (h0 : W.cell? ⟨g, 0, none⟩ = some a) : ∀ j u, [a][j]? = some u → W.cell? ((⟨g, 0, none⟩ : Addr).add j) = some u := by
  intro j u h
  rw [Addr.add_mid, Nat.zero_add]
  match j, h with
  | 0, h => cases h; exact h0
/-- A number more is open. -/
theorem Bd.opened {w W w2 : World} {B p n : Nat} {vn vo v2 : Value} {s : BS} (H : Bd w B p vn vo s) (hb : Below w.heap.size w W) (hg : W.grownBy w2 vo.ownBlock) (hat : v2.ownBlock = vo.ownBlock ∨ v2.ownBlock = some W.heap.size)
    (hown : w2.ownsRow B 3 1 v2 (s.opn.length + 1) (intRow s.opn ++ [.int .i64 (n : Nat)])) :
    BdTo B p vn vo w (w2.setCell ⟨p, 1, none⟩ v2) vn v2 ⟨s.nodes, s.opn ++ [n]⟩ ∧ w2.heap[p]? = some (.cells #[vn, vo] 64 (0, 0)) := by
  have HW := H.on hb
  have hvo : vo.ownBlock ≠ some p := owns_not HW.opn HW.blk (by decide)
  have hp : w2.heap[p]? = some (.cells #[vn, vo] 64 (0, 0)) := by
    rw [hg.block p HW.lt (fun e => hvo e.symm)]; exact HW.blk
  have hk : ∀ k o, W.heap[k]? = some o → ¬ (k = p ∨ vo.ownBlock = some k) → (w2.setCell ⟨p, 1, none⟩ v2).heap[k]? = some o := fun k o ho hs => by
    rw [blk_other (fun e => hs (.inl e)), hg.block k (Array.getElem?_eq_some_iff.1 ho).1 (fun e => hs (.inr e.symm))]; exact ho
  refine ⟨⟨⟨by rw [blk_set hp]; rfl, H.low, ?_, ?_⟩, ?_, fun k h => .inl h, fun k h => ?_⟩, hp⟩
  · refine HW.nodes.kept _ hk fun k hs => ?_
    obtain ⟨vs, _, h2, _⟩ := HW.nodes
    rcases hs with rfl | hs
    · exact ⟨owns_not h2 HW.blk (by decide), fun es c e => by rw [HW.blk] at e; cases e⟩
    · refine ⟨fun e => owns_apart h2 HW.opn (by decide) k e hs, fun es c e => ?_⟩
      obtain ⟨c', hc⟩ := owns_type HW.opn hs
      rw [hc] at e
      cases e
  · show World.ownsRow _ B _ 1 v2 (s.opn ++ [n]).length (intRow (s.opn ++ [n]))
    rw [List.length_append, show intRow (s.opn ++ [n]) = intRow s.opn ++ [.int .i64 (n : Nat)] by simp [intRow]]
    exact owns_kept (S := (· = p)) hown (fun k o ho hs => by rw [blk_other hs]; exact ho) fun k hk' hs => by
      subst hs
      exact owns_not hown hp (by decide) hk'
  · refine ⟨hg.os.trans hb.os, hg.tape.trans hb.tape, hg.output.trans hb.output, by rw [blk_size]; exact Nat.le_trans hb.size hg.size, fun k hk' hs => ?_⟩
    rw [blk_other (fun e => hs (.inl e)), hg.block k (Nat.lt_of_lt_of_le hk' hb.size) (fun e => hs (.inr (.inr e.symm))), hb.block k hk']
  · rcases hat with e | e
    · exact .inl (e ▸ h)
    · rw [e] at h
      cases h
      exact .inr hb.size
/-- A node more. -/
theorem Bd.grew {w W w2 : World} {B p : Nat} {vn vo v2 v : Value} {s : BS} {x : XNode} {vs : List Value} (H : Bd w B p vn vo s) (hb : Below w.heap.size w W) (h1 : vs.length = s.nodes.length)
    (h3 : ∀ (i : Nat) (x : XNode) (v : Value), s.nodes[i]? = some x → vs[i]? = some v → ScV w B v x.scope) (hv : ScV w B v x.scope) (h2 : w.ownsRow B 69 9 vn s.nodes.length (nodeRow s.nodes vs)) (hg : W.grownBy w2 vn.ownBlock) (hat : v2.ownBlock = vn.ownBlock ∨ v2.ownBlock = some W.heap.size)
    (hown : w2.ownsRow B 69 9 v2 (s.nodes.length + 1) (nodeRow s.nodes vs ++ nodeCells x v)) :
    BdTo B p vn vo w (w2.setCell ⟨p, 0, none⟩ v2) v2 vo ⟨s.nodes ++ [x], s.opn⟩ ∧ w2.heap[p]? = some (.cells #[vn, vo] 64 (0, 0)) := by
  have HW := H.on hb
  have h2W := owns_below h2 hb
  have hvn : vn.ownBlock ≠ some p := owns_not h2W HW.blk (by decide)
  have hp : w2.heap[p]? = some (.cells #[vn, vo] 64 (0, 0)) := by
    rw [hg.block p HW.lt (fun e => hvn e.symm)]; exact HW.blk
  have hk : ∀ k o, W.heap[k]? = some o → ¬ (k = p ∨ vn.ownBlock = some k) → (w2.setCell ⟨p, 0, none⟩ v2).heap[k]? = some o := fun k o ho hs => by
    rw [blk_other (fun e => hs (.inl e)), hg.block k (Array.getElem?_eq_some_iff.1 ho).1 (fun e => hs (.inr e.symm))]; exact ho
  have hsc : ∀ {v : Value} {l : Sc}, ScV w B v l → ScV (w2.setCell ⟨p, 0, none⟩ v2) B v l := fun hs => (hs.on hb).kept fun b es c hb' _ => hk b _ hb' fun e => by
    rcases e with rfl | e
    · rw [HW.blk] at hb'; cases hb'
    · obtain ⟨c', hc⟩ := owns_type h2W e
      rw [hc] at hb'
      cases hb'
  refine ⟨⟨⟨by rw [blk_set hp]; rfl, H.low, ⟨vs ++ [v], by simp [h1], ?_, ?_⟩, ?_⟩, ?_, fun k h => ?_, fun k h => .inl h⟩, hp⟩
  · show World.ownsRow _ B _ 9 v2 (s.nodes ++ [x]).length (nodeRow (s.nodes ++ [x]) (vs ++ [v]))
    rw [nodeRow_snoc s.nodes vs x v h1, List.length_append]
    exact owns_kept (S := (· = p)) hown (fun k o ho hs => by rw [blk_other hs]; exact ho) fun k hk' hs => by
      subst hs
      exact owns_not hown hp (by decide) hk'
  · intro i y u hy hu
    have hy' : (s.nodes ++ [x])[i]? = some y := hy
    by_cases hi : i < s.nodes.length
    · rw [List.getElem?_append_left hi] at hy'
      rw [List.getElem?_append_left (by omega)] at hu
      exact hsc (h3 i y u hy' hu)
    · rw [List.getElem?_append_right (by omega)] at hy'
      rw [List.getElem?_append_right (by omega), h1] at hu
      have : i - s.nodes.length = 0 := by
        have := (List.getElem?_eq_some_iff.1 hy').1
        simp at this
        omega
      rw [this] at hy' hu
      cases hy'
      cases hu
      exact hsc hv
  · refine owns_kept (S := fun k => k = p ∨ vn.ownBlock = some k) HW.opn hk fun k hk' hs => ?_
    rcases hs with rfl | hs
    · exact owns_not HW.opn HW.blk (by decide) hk'
    · exact owns_apart h2W HW.opn (by decide) k hs hk'
  · refine ⟨hg.os.trans hb.os, hg.tape.trans hb.tape, hg.output.trans hb.output, by rw [blk_size]; exact Nat.le_trans hb.size hg.size, fun k hk' hs => ?_⟩
    rw [blk_other (fun e => hs (.inl e)), hg.block k (Nat.lt_of_lt_of_le hk' hb.size) (fun e => hs (.inr (.inl e.symm))), hb.block k hk']
  · rcases hat with e | e
    · exact .inl (e ▸ h)
    · rw [e] at h
      cases h
      exact .inr hb.size
theorem nodeRow_fin (n : Nat) : ∀ (xs : List XNode) (vs : List Value) (i : Nat), vs.length = xs.length → i < xs.length → nodeRow (xs.modify i fun x => { x with fin := n }) vs = (nodeRow xs vs).set (i * 9 + 6) (.int .i64 (n : Nat))
  | [], _, i, _, h => by cases h
  | x :: xs, [], i, h, _ => by simp at h
  | x :: xs, v :: vs, 0, _, _ => rfl
  | x :: xs, v :: vs, i + 1, h, hi => by
    have ih := nodeRow_fin n xs vs i (by simpa using h) (by simpa using hi)
    have e : (x :: xs).modify (i + 1) (fun x => { x with fin := n }) = x :: xs.modify i fun x => { x with fin := n } := rfl
    rw [e]
    show nodeCells x v ++ nodeRow (xs.modify i fun x => { x with fin := n }) vs = (nodeCells x v ++ nodeRow xs vs).set ((i + 1) * 9 + 6) _
    rw [ih, List.set_append_right _ _ (by show 9 ≤ _; omega), show (i + 1) * 9 + 6 - (nodeCells x v).length = i * 9 + 6 by show (i + 1) * 9 + 6 - 9 = _; omega]
theorem owns_set {w : World} {B : Nat} {e : TypeId} {size g n c : Nat} {xs : List Value} (h : w.ownsRow B e size (.slice (some ⟨g, 0, none⟩) n c) n xs) (j : Nat) (_ : j < n * size) (u : Value) : (w.setCell ⟨g, j, none⟩ u).ownsRow B e size (.slice (some ⟨g, 0, none⟩) n c) n (xs.set j u) := by
  refine ⟨by rw [List.length_set]; exact h.1, ?_⟩
  rcases h.2 with ⟨h1, _⟩ | ⟨g', cap, cur, h1, h2, h3, h4, h5, h6, h7⟩
  · cases h1
  · cases h1
    refine .inr ⟨g, c, cur.setIfInBounds j u, rfl, h2, by rw [blk_set h3], h4, h5, by rw [Array.size_setIfInBounds]; exact h6, ?_⟩
    rw [Array.toList_setIfInBounds, ← h7, List.take_set]
theorem owns_cells {w : World} {B : Nat} {e : TypeId} {size n : Nat} {v : Value} {xs : List Value} (h : w.ownsRow B e size v n xs) (hn : 0 < n) : ∃ g cap, v = .slice (some ⟨g, 0, none⟩) n cap ∧ n ≤ cap ∧ B ≤ g ∧ g < w.heap.size ∧ (∀ i u, xs[i]? = some u → w.cell? ⟨g, i, none⟩ = some u) ∧ ∀ i, w.frozen? ⟨g, i, none⟩ = false := by
  rcases h.2 with ⟨_, h0⟩ | ⟨g, cap, cur, h1, h2, h3, h4, h5, h6, h7⟩
  · omega
  · refine ⟨g, cap, h1, h4, h2, (Array.getElem?_eq_some_iff.1 h3).1, fun i u hu => ?_, fun i => blk_open h3 i⟩
    rw [blk_cell h3]
    rw [← h7, List.getElem?_take] at hu
    split at hu
    · rw [← Array.getElem?_toList]; exact hu
    · cases hu
/-- A node's end is told, and it is open no more. -/
theorem Bd.ended {w : World} {B p g cn ci k : Nat} {ao : Option Addr} {s : BS} (H : Bd w B p (.slice (some ⟨g, 0, none⟩) s.nodes.length cn) (.slice ao s.opn.length ci) s) (hi : s.inner < s.nodes.length) (hk : k + 1 = s.opn.length) :
    BdTo B p (.slice (some ⟨g, 0, none⟩) s.nodes.length cn) (.slice ao s.opn.length ci) w ((w.setCell ⟨g, s.inner * 9 + 6, none⟩ (.int .i64 (s.nodes.length : Nat))).setCell ⟨p, 1, none⟩ (.slice ao k ci)) (.slice (some ⟨g, 0, none⟩) s.nodes.length cn) (.slice ao k ci) s.finish := by
  obtain ⟨vs, h1, h2, h3⟩ := H.nodes
  have hgp : g ≠ p := fun e => owns_not h2 H.blk (by decide) (by rw [e]; rfl)
  have hp : (w.setCell ⟨g, s.inner * 9 + 6, none⟩ (.int .i64 (s.nodes.length : Nat))).heap[p]? = some (.cells #[.slice (some ⟨g, 0, none⟩) s.nodes.length cn, .slice ao s.opn.length ci] 64 (0, 0)) := by
    rw [blk_other (Ne.symm hgp)]; exact H.blk
  have hk' : ∀ j o, w.heap[j]? = some o → ¬ (j = p ∨ j = g) → ((w.setCell ⟨g, s.inner * 9 + 6, none⟩ (.int .i64 (s.nodes.length : Nat))).setCell ⟨p, 1, none⟩ (.slice ao k ci)).heap[j]? = some o := fun j o ho hs => by
    rw [blk_other (fun e => hs (.inl e)), blk_other (fun e => hs (.inr e))]; exact ho
  obtain ⟨cg, hcg⟩ := owns_type h2 (k := g) rfl
  refine ⟨⟨by rw [blk_set hp]; rfl, H.low, ⟨vs, ?_, ?_, ?_⟩, ?_⟩, ?_, fun j h => .inl h, fun j h => .inl (by cases ao with | none => cases h | some a => exact h)⟩
  · show vs.length = (s.nodes.modify _ _).length
    rw [List.length_modify]; exact h1
  · show World.ownsRow _ B _ 9 _ (s.nodes.modify _ _).length (nodeRow (s.nodes.modify s.inner fun x => { x with fin := s.nodes.length }) vs)
    rw [nodeRow_fin s.nodes.length s.nodes vs s.inner h1 hi, List.length_modify]
    refine owns_kept (S := (· = p)) (owns_set h2 (s.inner * 9 + 6) (by omega) _) (fun j o ho hs => by rw [blk_other hs]; exact ho) fun j hj hs => ?_
    subst hs
    exact hgp (by cases hj; rfl)
  · intro i x v hx hv
    have hx' : (s.nodes.modify s.inner fun x => { x with fin := s.nodes.length })[i]? = some x := hx
    obtain ⟨y, hy, hsc⟩ : ∃ y, s.nodes[i]? = some y ∧ x.scope = y.scope := by
      rw [List.getElem?_modify] at hx'
      obtain ⟨y, hy, e⟩ := Option.map_eq_some_iff.1 hx'
      refine ⟨y, hy, ?_⟩
      rw [← e]
      split <;> rfl
    rw [hsc]
    refine (h3 i y v hy hv).kept fun b es c hb _ => hk' b _ hb fun hs => ?_
    rcases hs with rfl | rfl
    · rw [H.blk] at hb; cases hb
    · rw [hcg] at hb; cases hb
  · have hop := owns_pre H.opn (k := k) (by omega)
    have e : (intRow s.opn).take (k * 1) = intRow s.opn.dropLast := by
      unfold intRow
      rw [← List.map_take, List.dropLast_eq_take, show s.opn.length - 1 = k by omega, Nat.mul_one]
    rw [e] at hop
    have hl : s.finish.opn.length = k := by show s.opn.dropLast.length = k; rw [List.length_dropLast]; omega
    rw [hl]
    refine owns_kept (S := fun j => j = p ∨ j = g) hop hk' fun j hj hs => ?_
    rcases hs with rfl | rfl
    · exact owns_not hop H.blk (by decide) hj
    · exact owns_apart hop h2 (by decide) j hj rfl
  · refine ⟨rfl, rfl, rfl, by rw [blk_size, blk_size]; exact Nat.le_refl _, fun j hj hs => ?_⟩
    rw [blk_other (fun e => hs (.inl e)), blk_other (fun e => hs (.inr (.inl (by rw [e]; rfl))))]
end Go.Proofs.YtjjggncbhenffaaGreatDoor
