/- Trees in memory: what prefixes stand for, nodes, and a builder of them. -/
import Derived.Test.YtllhajjceecjdaaDoorXdmP
import Derived.Test.YtllhajjceecjdaaDoorXmlTell
namespace Go.Proofs.YtllhajjceecjdaaDoor
open Go.RowKit
/-- What prefixes stand for, as a map that is read. -/
def scD (s : Sc) : DataW Unit := .map (s.map fun x => (.string (tx x.1), .agg [.lit (.string (tx x.2))]))
/-- Prefixes and what they stand for are texts, and not long. -/
def OkSc (s : Sc) : Prop := ∀ x ∈ s, (okL x.1 ∧ okL x.2) ∧ (T x.1).size ≤ 1048576 ∧ (T x.2).size ≤ 1048576
def ScV (w : World) (B : Nat) (v : Value) (s : Sc) : Prop := OkSc s ∧ ((v = .map none ∧ s = []) ∨ ∃ b, v = .map (some b) ∧ B ≤ b ∧ w.ownsMap Tryd.prog 9 entElem b s.length (scD s))
theorem ScV.nil (w : World) (B : Nat) : ScV w B (.map none) [] := ⟨(fun _ h => by cases h), .inl ⟨rfl, rfl⟩⟩
theorem ScV.one {w : World} {B : Nat} {v : Value} {s : Sc} (h : ScV w B v s) : ∃ m, v = .map m := by
  rcases h.2 with ⟨rfl, _⟩ | ⟨b, rfl, _⟩
  · exact ⟨_, rfl⟩
  · exact ⟨_, rfl⟩
theorem ScV.kept {w w' : World} {B : Nat} {v : Value} {s : Sc} (h : ScV w B v s) (hk : ∀ b es clock, w.heap[b]? = some (.map es clock) → v = .map (some b) → w'.heap[b]? = some (.map es clock)) : ScV w' B v s := by
  refine ⟨h.1, ?_⟩
  rcases h.2 with h2 | ⟨b, rfl, hb, es, clock, h1, h2⟩
  · exact .inl h2
  · exact .inr ⟨b, rfl, hb, es, clock, hk b es clock h1 rfl, h2⟩
theorem ScV.on {w w' : World} {B : Nat} {v : Value} {s : Sc} (h : ScV w B v s) (hb : Below w.heap.size w w') : ScV w' B v s :=
  h.kept fun b es clock h1 _ => by rw [hb.block b (Array.getElem?_eq_some_iff.1 h1).1]; exact h1
theorem ScV.low {w : World} {B B' : Nat} {v : Value} {s : Sc} (h : ScV w B v s) (hB : B' ≤ B) : ScV w B' v s := by
  refine ⟨h.1, ?_⟩
  rcases h.2 with h2 | ⟨b, h1, hb, h2⟩
  · exact .inl h2
  · exact .inr ⟨b, h1, Nat.le_trans hB hb, h2⟩
theorem Kp.andThen {S S' : Nat → Prop} {a b c : World} (h : Kp S a b) (g : Kp S' b c) (hS : ∀ k, k < a.heap.size → S' k → S k) : Kp S a c :=
  ⟨g.os.trans h.os, g.tape.trans h.tape, g.output.trans h.output, Nat.le_trans h.size g.size, fun k hk hs => by rw [g.block k (Nat.lt_of_lt_of_le hk h.size) fun hs' => hs (hS k hk hs'), h.block k hk hs]⟩
theorem Kp.of {S : Nat → Prop} {w w' : World} (h : Below w.heap.size w w') : Kp S w w' := ⟨h.os, h.tape, h.output, h.size, fun k hk _ => h.block k hk⟩
theorem Kp.refl (S : Nat → Prop) (w : World) : Kp S w w := ⟨rfl, rfl, rfl, Nat.le_refl _, fun _ _ _ => rfl⟩
theorem Kp.grown {S : Nat → Prop} {w a b : World} {row : Option Nat} (h : Kp S w a) (g : a.grownBy b row) (hr : ∀ j, row = some j → j < w.heap.size → S j) : Kp S w b :=
  ⟨g.os.trans h.os, g.tape.trans h.tape, g.output.trans h.output, Nat.le_trans h.size g.size, fun k hk hs => by rw [g.block k (Nat.lt_of_lt_of_le hk h.size) (fun e => hs (hr k e.symm hk)), h.block k hk hs]⟩
theorem alloc_new (w : World) (o : Obj) : (w.alloc o).heap[w.heap.size]? = some o := by
  unfold World.alloc
  exact Array.getElem?_push_size
/-- append onto a row of the call's own, as one step of a region that draws its order, with where the row lies behind it. -/
theorem step_append_where {P : Program} {ops : Array Oper} {o : Oper} {a : Act} {w : World} {K : Act → World → Prop} {Q : Exit → Act → World → Prop} {E : Prop}
    (hg : o.guard = none) (s x : Operand) (t : TypeId) (hop : o.op = Op.call { callee := Callee.builtin Builtin.append, args := #[s, x], argTypes := #[t, t] })
    (base : Nat) (e : TypeId) (i : TypeInfo) (z : Value) (size bytes : Nat) (h1 : P.underlying t = some (.slice e)) (h2 : P.info? e = some i) (h3 : i.zero = some z) (h4 : i.size = size) (h5 : i.bytes = bytes) (h6 : z.cells.size = size) (h7 : 0 < size)
    (v : Value) (n : Nat) (xs : List Value) (hs : a.eval s = v) (hown : w.ownsRow base e size v n xs)
    (ad : Addr) (m c : Nat) (news : List Value) (hx : a.eval x = .slice (some ad) m c) (hn : news.length = m * size) (hc : ∀ j u, news[j]? = some u → w.cell? (ad.add j) = some u) (h1c : ∀ u ∈ news, u.oneCell' = true)
    (b1 : n + m ≤ maxLen) (b2 : (n + m) * bytes ≤ 140737488355328) (hb : base ≤ w.heap.size)
    (hK : ∀ v' w', w'.ownsRow base e size v' (n + m) (xs ++ news) → w.grownBy w' v.ownBlock → (v'.ownBlock = v.ownBlock ∨ v'.ownBlock = some w.heap.size) → K (a.put o.dst v') w') :
    if Region.wanted o (yielded ops a.tmps) = true then Oper.wp P o a w K Q else E := by
  have hw : Region.wanted o (yielded ops a.tmps) = true := by simp [Region.wanted, hg]
  rw [if_pos hw]
  obtain ⟨v', w', hrun, r1, r2, _, r3⟩ := run_append_own_at (P := P) w base t o.type e i z size bytes h1 h2 h3 h4 h5 h6 h7 v n xs hown ad m c news hn hc h1c b1 b2 hb
  unfold Oper.wp
  simp [execOp, hop, resolve, invoke, builtin, hs, hx, hrun, Result.andThen]
  exact hK v' w' r1 r2 r3
theorem newsI1 {W : World} {g : Nat} {a : Value} (h0 : W.cell? ⟨g, 0, none⟩ = some a) : ∀ j u, [a][j]? = some u → W.cell? ((⟨g, 0, none⟩ : Addr).add j) = some u := by
  intro j u h
  rw [Addr.add_mid, Nat.zero_add]
  match j, h with
  | 0, h => cases h; exact h0
end Go.Proofs.YtllhajjceecjdaaDoor
