/- Several texts, laid as one. -/
import Derived.Test.YthkkfldmoflfaaaGreatDoorGah
import Derived.Test.YthkkfldmoflfaaaGreatDoorGaa
import Derived.Maps.AppendAt
import Derived.Test.YthkkfldmoflfaaaGreatDoorGaf
import Derived.Laws.Externs
import Derived.ScopeJumps
import Derived.WalkMore
import Derived.Deep.RegionHeld3
import Derived.Deep.DrawnRows
import Derived.Deep.DeepCutAuto
import Derived.BigQuiet
/- xparse's parser in memory: expressions, the tokens that are left. -/
namespace Go.Proofs.YthkkfldmoflfaaaGreatDoor
open Go.RowKit
/-- Every block but some stands; blocks may be new. -/
structure Kq (S : Nat → Prop) (w w' : World) : Prop where
  os : w'.os = w.os
  tape : w'.tape = w.tape
  output : w'.output = w.output
  size : w.heap.size ≤ w'.heap.size
  block : ∀ k, k < w.heap.size → ¬ S k → w'.heap[k]? = w.heap[k]?
theorem Kq.of {S : Nat → Prop} {w w' : World} (h : Below w.heap.size w w') : Kq S w w' := ⟨h.os, h.tape, h.output, h.size, fun k hk _ => h.block k hk⟩
theorem Kq.refl (S : Nat → Prop) (w : World) : Kq S w w := ⟨rfl, rfl, rfl, Nat.le_refl _, fun _ _ _ => rfl⟩
theorem Kq.andThen {S S' : Nat → Prop} {a b c : World} (h : Kq S a b) (g : Kq S' b c) (hS : ∀ k, k < a.heap.size → S' k → S k) : Kq S a c :=
  ⟨g.os.trans h.os, g.tape.trans h.tape, g.output.trans h.output, Nat.le_trans h.size g.size, fun k hk hs => by rw [g.block k (Nat.lt_of_lt_of_le hk h.size) fun hs' => hs (hS k hk hs'), h.block k hk hs]⟩
theorem Kq.grown {S : Nat → Prop} {w a b : World} {row : Option Nat} (h : Kq S w a) (g : a.grownBy b row) (hr : ∀ j, row = some j → j < w.heap.size → S j) : Kq S w b :=
  ⟨g.os.trans h.os, g.tape.trans h.tape, g.output.trans h.output, Nat.le_trans h.size g.size, fun k hk hs => by rw [g.block k (Nat.lt_of_lt_of_le hk h.size) (fun e => hs (hr k e.symm hk)), h.block k hk hs]⟩
theorem Kq.more {S S' : Nat → Prop} {w w' : World} (h : Kq S w w') (hS : ∀ k, k < w.heap.size → S k → S' k) : Kq S' w w' := ⟨h.os, h.tape, h.output, h.size, fun k hk hn => h.block k hk fun hs => hn (hS k hk hs)⟩
theorem Kq.fresh {S : Nat → Prop} {w w' : World} (h : Kq S w w') (hS : ∀ k, S k → w.heap.size ≤ k) : Below w.heap.size w w' :=
  ⟨h.os, h.tape, h.output, h.size, fun k hk => h.block k hk fun hs => by have := hS k hs; omega⟩
theorem Kq.drew {S : Nat → Prop} {w w' : World} (h : Kq S w w') : Kq S w w'.drew := ⟨h.os, h.tape, h.output, h.size, h.block⟩
theorem Kq.set (w : World) (p i : Nat) (v : Value) : Kq (fun j => j = p) w (w.setCell ⟨p, i, none⟩ v) :=
  ⟨rfl, rfl, rfl, by simp [World.setCell], fun j _ hS => by simp [World.setCell, Array.getElem?_modify, Ne.symm hS]⟩
theorem keptK {S : Nat → Prop} {w w' : World} (hk : Kq S w w') {a : Addr} {v : Value} (h : w.cell? a = some v) (hS : ¬ S a.block) : w'.cell? a = some v := by
  have hlt := block_lt_of_cell h
  unfold World.cell? at h ⊢
  rw [hk.block _ hlt hS]
  exact h
theorem blockK {S : Nat → Prop} {w w' : World} (hk : Kq S w w') {q : Nat} {o : Obj} (h : w.heap[q]? = some o) (hS : ¬ S q) : w'.heap[q]? = some o :=
  (hk.block q (Array.getElem?_eq_some_iff.1 h).1 hS).trans h
theorem ownsK {S : Nat → Prop} {w w' : World} {B : Nat} {e : TypeId} {size n : Nat} {v : Value} {xs : List Value} (h : w.ownsRow B e size v n xs) (hk : Kq S w w') (hne : ∀ k, v.ownBlock = some k → ¬ S k) : w'.ownsRow B e size v n xs := by
  refine ⟨h.1, ?_⟩
  rcases h.2 with h0 | ⟨g, cap, cur, rfl, h2, h3, h4⟩
  · exact .inl h0
  · exact .inr ⟨g, cap, cur, rfl, h2, blockK hk h3 (hne g rfl), h4⟩
/-- Cells that a slice reads, its block among some. -/
def slAt (w : World) (S : Nat → Prop) (v : Value) (n : Nat) (xs : List Value) : Prop :=
  (∃ a c, v = .slice a n c ∧ n ≤ c) ∧ (0 < n → ∃ g o c, v = .slice (some ⟨g, o, none⟩) n c ∧ S g ∧ g < w.heap.size ∧ ∀ i u, xs[i]? = some u → w.cell? ⟨g, o + i, none⟩ = some u)
mutual
/-- An expression in memory: its seven cells; its blocks are among some. -/
def exIn (w : World) (S : Nat → Prop) : Ex → List Value → Prop
  | .mk o t n a ts ks, xs => okL t ∧ ∃ v, xs = [.int .i64 (o : Nat), .string (T t), .int .i64 0, .int .i64 n, .int .i64 (a : Nat), .int .i64 (ts : Nat), v] ∧ ∃ ys, slAt w S v ks.length ys ∧ kidsIn w S ks ys
/-- Expressions in memory, one behind the other. -/
def kidsIn (w : World) (S : Nat → Prop) : List Ex → List Value → Prop
  | [], ys => ys = []
  | k :: ks, ys => ∃ a b, ys = a ++ b ∧ exIn w S k a ∧ kidsIn w S ks b
end
theorem slAt.mono {w w' : World} {S S' : Nat → Prop} {v : Value} {n : Nat} {xs : List Value} (h : slAt w S v n xs) (hS : ∀ k, S k → S' k) (hk : ∀ k o, S k → w.heap[k]? = some o → w'.heap[k]? = some o) : slAt w' S' v n xs := by
  refine ⟨h.1, fun hn => ?_⟩
  obtain ⟨g, o, c, e, hg, hlg, hc⟩ := h.2 hn
  refine ⟨g, o, c, e, hS g hg, (Array.getElem?_eq_some_iff.1 (hk g _ hg (Array.getElem?_eq_getElem hlg))).1, fun i u hu => ?_⟩
  have hx := hc i u hu
  have hlt := block_lt_of_cell hx
  unfold World.cell? at hx ⊢
  simp only at hx ⊢ hlt
  cases ho : w.heap[g]? with
  | none => rw [ho] at hx; cases hx
  | some ob => rw [hk g ob hg ho]; rw [ho] at hx; exact hx
mutual
theorem exIn.mono {w w' : World} {S S' : Nat → Prop} (hS : ∀ k, S k → S' k) (hk : ∀ k o, S k → w.heap[k]? = some o → w'.heap[k]? = some o) : ∀ (e : Ex) (xs : List Value), exIn w S e xs → exIn w' S' e xs
  | .mk o t n a ts ks, xs, h => by
    rw [exIn] at h ⊢
    obtain ⟨h0, v, e, ys, h1, h2⟩ := h
    exact ⟨h0, v, e, ys, h1.mono hS hk, kidsIn.mono hS hk ks ys h2⟩
theorem kidsIn.mono {w w' : World} {S S' : Nat → Prop} (hS : ∀ k, S k → S' k) (hk : ∀ k o, S k → w.heap[k]? = some o → w'.heap[k]? = some o) : ∀ (ks : List Ex) (ys : List Value), kidsIn w S ks ys → kidsIn w' S' ks ys
  | [], ys, h => by rw [kidsIn] at h ⊢; exact h
  | k :: ks, ys, h => by
    rw [kidsIn] at h ⊢
    obtain ⟨a, b, e, h1, h2⟩ := h
    exact ⟨a, b, e, exIn.mono hS hk k a h1, kidsIn.mono hS hk ks b h2⟩
end
mutual
theorem exIn.bound {w : World} {S : Nat → Prop} : ∀ (e : Ex) (xs : List Value), exIn w S e xs → exIn w (fun k => S k ∧ k < w.heap.size) e xs
  | .mk o t n a ts ks, xs, h => by
    rw [exIn] at h ⊢
    obtain ⟨h0, v, e, ys, h1, h2⟩ := h
    exact ⟨h0, v, e, ys, ⟨h1.1, fun hn => by obtain ⟨g, o, c, e, hg, hlg, hc⟩ := h1.2 hn; exact ⟨g, o, c, e, ⟨hg, hlg⟩, hlg, hc⟩⟩, kidsIn.bound ks ys h2⟩
theorem kidsIn.bound {w : World} {S : Nat → Prop} : ∀ (ks : List Ex) (ys : List Value), kidsIn w S ks ys → kidsIn w (fun k => S k ∧ k < w.heap.size) ks ys
  | [], ys, h => by rw [kidsIn] at h ⊢; exact h
  | k :: ks, ys, h => by
    rw [kidsIn] at h ⊢
    obtain ⟨a, b, e, h1, h2⟩ := h
    exact ⟨a, b, e, exIn.bound k a h1, kidsIn.bound ks b h2⟩
end
theorem exIn.len {w : World} {S : Nat → Prop} {e : Ex} {xs : List Value} (h : exIn w S e xs) : xs.length = 7 := by
  cases e
  rw [exIn] at h
  obtain ⟨_, v, rfl, _⟩ := h
  rfl
theorem exIn.one {w : World} {S : Nat → Prop} {e : Ex} {xs : List Value} (h : exIn w S e xs) : ∀ u ∈ xs, u.oneCell' = true := by
  cases e
  rw [exIn] at h
  obtain ⟨_, v, rfl, ys, ⟨⟨a, c, rfl, _⟩, _⟩, _⟩ := h
  intro u hu
  simp only [List.mem_cons, List.not_mem_nil, or_false] at hu
  rcases hu with rfl | rfl | rfl | rfl | rfl | rfl | rfl <;> rfl
theorem kidsIn.len {w : World} {S : Nat → Prop} : ∀ {ks : List Ex} {ys : List Value}, kidsIn w S ks ys → ys.length = ks.length * 7
  | [], ys, h => by rw [kidsIn] at h; subst h; rfl
  | k :: ks, ys, h => by
    rw [kidsIn] at h
    obtain ⟨a, b, rfl, h1, h2⟩ := h
    rw [List.length_append, h1.len, kidsIn.len h2, List.length_cons]
    omega
theorem kidsIn.app {w : World} {S : Nat → Prop} : ∀ {ks ls : List Ex} {ys zs : List Value}, kidsIn w S ks ys → kidsIn w S ls zs → kidsIn w S (ks ++ ls) (ys ++ zs)
  | [], ls, ys, zs, h, g => by rw [kidsIn] at h; subst h; exact g
  | k :: ks, ls, ys, zs, h, g => by
    rw [kidsIn] at h
    obtain ⟨a, b, rfl, h1, h2⟩ := h
    rw [List.cons_append, kidsIn]
    exact ⟨a, b ++ zs, by rw [List.append_assoc], h1, kidsIn.app h2 g⟩
theorem kidsIn.single {w : World} {S : Nat → Prop} {e : Ex} {xs : List Value} (h : exIn w S e xs) : kidsIn w S [e] xs := by
  rw [kidsIn]
  exact ⟨xs, [], (List.append_nil _).symm, h, by rw [kidsIn]⟩
theorem kidsIn.at {w : World} {S : Nat → Prop} : ∀ {ks : List Ex} {ys : List Value}, kidsIn w S ks ys → ∀ (i : Nat) (e : Ex), ks[i]? = some e → ∃ xs, exIn w S e xs ∧ ∀ j, j < 7 → ys[i * 7 + j]? = xs[j]?
  | [], ys, h, i, e, he => by cases he
  | k :: ks, ys, h, i, e, he => by
    rw [kidsIn] at h
    obtain ⟨a, b, rfl, h1, h2⟩ := h
    have hl := h1.len
    cases i with
    | zero =>
      cases he
      exact ⟨a, h1, fun j hj => by rw [Nat.zero_mul, Nat.zero_add, List.getElem?_append_left (by omega)]⟩
    | succ i =>
      obtain ⟨xs, h3, h4⟩ := kidsIn.at h2 i e he
      refine ⟨xs, h3, fun j hj => ?_⟩
      rw [List.getElem?_append_right (by omega), hl, show (i + 1) * 7 + j - 7 = i * 7 + j by omega]
      exact h4 j hj
/-- The tokens that a slice holds. -/
def LeftAt (w : World) (p : Nat) (v : Value) (ts : List (Nat × List Nat)) : Prop :=
  (∀ x ∈ ts, okL x.2 ∧ (T x.2).size ≤ 512) ∧ ((ts = [] ∧ v = .slice none 0 0) ∨ ∃ g o c, v = .slice (some ⟨g, o, none⟩) ts.length c ∧ ts.length ≤ c ∧ c ≤ 9223372036854775807 ∧ g < p ∧ g < w.heap.size ∧
    ∀ i x, ts[i]? = some x → w.cell? ⟨g, o + i * 3, none⟩ = some (.int .i64 (x.1 : Nat)) ∧ w.cell? ⟨g, o + (i * 3 + 1), none⟩ = some (.string (T x.2)) ∧ ∃ a : Int, w.cell? ⟨g, o + (i * 3 + 2), none⟩ = some (.int .i64 a))
/-- A parser's block. -/
def PV (w : World) (p : Nat) (s : PS) : Prop :=
  s.opn + s.left.length ≤ 100000 ∧ s.dp ≤ 100000 ∧ ∃ v, w.heap[p]? = some (.cells #[v, .int .i64 (s.opn : Nat), .int .i64 (s.dp : Nat)] 48 (0, 0)) ∧ LeftAt w p v s.left
theorem PV.kept {w w' : World} {p : Nat} {s : PS} (h : PV w p s) {S : Nat → Prop} (hk : Kq S w w') (hS : ∀ k, S k → p < k) : PV w' p s := by
  obtain ⟨h0, h1, v, h2, h3, ⟨e1, e2⟩ | ⟨g, o, c, e, h4, h5, h6, h7, h8⟩⟩ := h
  · exact ⟨h0, h1, v, blockK hk h2 (fun hs => by have := hS _ hs; omega), h3, .inl ⟨e1, e2⟩⟩
  refine ⟨h0, h1, v, blockK hk h2 (fun hs => by have := hS _ hs; omega), h3, .inr ⟨g, o, c, e, h4, h5, h6, Nat.lt_of_lt_of_le h7 hk.size, fun i x hx => ?_⟩⟩
  have hg : ¬ S g := fun hs => by have := hS _ hs; omega
  obtain ⟨c0, c1, a, c2⟩ := h8 i x hx
  exact ⟨keptK hk c0 hg, keptK hk c1 hg, a, keptK hk c2 hg⟩
theorem PV.below {w w' : World} {p : Nat} {s : PS} (h : PV w p s) (hb : Below w.heap.size w w') : PV w' p s := h.kept (S := fun _ => False) (Kq.of hb) (fun _ h => h.elim)
theorem PV.lt {w : World} {p : Nat} {s : PS} (h : PV w p s) : p < w.heap.size := by
  obtain ⟨_, _, v, h2, _⟩ := h
  exact (Array.getElem?_eq_some_iff.1 h2).1
/-- Kids in the making: a row of one's own, whose kids lie in other blocks. -/
def KRow (w : World) (B : Nat) (v : Value) (ks : List Ex) (xs : List Value) : Prop :=
  w.ownsRow B 32 7 v ks.length xs ∧ kidsIn w (fun j => (B ≤ j ∧ v.ownBlock ≠ some j) ∧ j < w.heap.size) ks xs
theorem KRow.nil (w : World) (B : Nat) : KRow w B (.slice none 0 0) [] [] := ⟨World.ownsRow_nil _ _ _ _, by rw [kidsIn]⟩
theorem KRow.ne {w : World} {B p : Nat} {v : Value} {ks : List Ex} {xs : List Value} {c : Array Value} {z : Nat × Nat} {t : TypeId} (h : KRow w B v ks xs) (hp : w.heap[p]? = some (.cells c t z)) (ht : 32 ≠ t) : v.ownBlock ≠ some p := by
  intro e
  rcases h.1.2 with ⟨rfl, _⟩ | ⟨g, cap, cur, rfl, h2, h3, h4⟩
  · cases e
  · cases e
    rw [hp] at h3
    injection h3 with h3
    injection h3 with _ h5 _
    exact ht h5.symm
theorem KRow.lt {w : World} {B : Nat} {v : Value} {ks : List Ex} {xs : List Value} (h : KRow w B v ks xs) : ∀ k, v.ownBlock = some k → B ≤ k ∧ k < w.heap.size := fun k hk => h.1.lt k hk
theorem KRow.kept {w w' : World} {B : Nat} {v : Value} {ks : List Ex} {xs : List Value} (h : KRow w B v ks xs) {S : Nat → Prop} (hk : Kq S w w') (hS : ∀ j, j < w.heap.size → B ≤ j → ¬ S j) : KRow w' B v ks xs :=
  ⟨ownsK h.1 hk (fun k hb => hS k (h.lt k hb).2 (h.lt k hb).1), kidsIn.mono (fun _ hj => ⟨hj.1, Nat.lt_of_lt_of_le hj.2 hk.size⟩) (fun j _ hj ho => blockK hk ho (hS j hj.2 hj.1.1)) ks xs h.2⟩
theorem KRow.below {w w' : World} {B : Nat} {v : Value} {ks : List Ex} {xs : List Value} (h : KRow w B v ks xs) (hb : Below w.heap.size w w') : KRow w' B v ks xs := h.kept (S := fun _ => False) (Kq.of hb) (fun _ _ _ h => h)
/-- A row that was appended to. -/
theorem KRow.add {w w' : World} {B : Nat} {v v' : Value} {ks ls : List Ex} {xs ys : List Value} (h : KRow w B v ks xs) (hl : kidsIn w (fun j => (B ≤ j ∧ v.ownBlock ≠ some j) ∧ j < w.heap.size) ls ys)
    (ho : w'.ownsRow B 32 7 v' (ks.length + ls.length) (xs ++ ys)) (hg : w.grownBy w' v.ownBlock) (ha : v'.ownBlock = v.ownBlock ∨ v'.ownBlock = some w.heap.size) : KRow w' B v' (ks ++ ls) (xs ++ ys) := by
  refine ⟨by rw [List.length_append]; exact ho, kidsIn.mono (fun j hj => ⟨⟨hj.1.1, fun e => ?_⟩, Nat.lt_of_lt_of_le hj.2 hg.size⟩) (fun j o hj hob => (hg.block j hj.2 (fun e => hj.1.2 e.symm)).trans hob) _ _ (kidsIn.app h.2 hl)⟩
  rcases ha with e2 | e2
  · rw [e2] at e; exact hj.1.2 e
  · rw [e2] at e
    have := Option.some.inj e
    omega
end Go.Proofs.YthkkfldmoflfaaaGreatDoor
/- Sums, products and quotients of 128 bits: xnum's addWide, product and quotient. -/
namespace Go.Proofs.YthkkfldmoflfaaaGreatDoor
open Go.RowKit
set_option maxHeartbeats 1000000 in
theorem div64_small (lo y : Nat) (w : World) (h1 : lo < 18446744073709551616) (h0 : 0 < y) (h2 : y < 18446744073709551616) :
    Calls Tryz.prog 117 #[.int .u64 0, .int .u64 (lo : Int), .int .u64 (y : Int)] w fun e w' => e = .returned (.tuple #[.int .u64 ((lo / y : Nat) : Int), .int .u64 ((lo % y : Nat) : Int)]) ∧ w' = w.drew := by
  have h0' : ((y : Int) == 0) = false := by simp; omega
  have h0'' : ¬ (y : Int) ≤ 0 := by omega
  go_enter Tryz.func117, Tryz.ntmps117
  go_wp2
  go_region
  go_wp2
  go_ret2
  refine ⟨?_, rfl⟩
  have e1 : IntKind.u64.wrap ((lo : Int) / (y : Int)) = ((lo / y : Nat) : Int) := by
    have hd : lo / y ≤ lo := Nat.div_le_self _ _
    have hc : ((lo / y : Nat) : Int) = (lo : Int) / (y : Int) := Int.natCast_ediv lo y
    rw [IntKind.wrap_u64, ← hc]
    generalize lo / y = q at *
    omega
  have e2 : (lo : Int) % (y : Int) = ((lo % y : Nat) : Int) := (Int.natCast_emod lo y).symm
  rw [← e1, ← e2]
  rfl
set_option maxHeartbeats 1000000 in
theorem quotient_any (a1 y : Nat) (w : World) (ha1 : a1 < 18446744073709551616) (hb0 : 0 < y) (hb1 : y < 18446744073709551616) :
    Calls Tryz.prog 87 #[.agg #[.int .u64 0, .int .u64 (a1 : Int)], .int .u64 (y : Int)] w fun e w' => e = .returned (.agg #[.int .u64 ((a1 / y : Nat) : Int), .int .u64 ((a1 % y : Nat) : Int)]) ∧ w' = ((w.alloc (.cells #[.int .u64 0, .int .u64 (a1 : Int)] 126)).alloc (.cells #[.int .u64 ((a1 / y : Nat) : Int), .int .u64 ((a1 % y : Nat) : Int)] 126)).drew := by
  have HD := hide (fun w => div64_small a1 y w ha1 hb0 hb1)
  generalize a1 / y = q at *
  generalize a1 % y = r at *
  go_enter Tryz.func87, Tryz.ntmps87
  go_wp2_with (go_at_call 117; refine (unhide HD _).mono ?_; rintro e w' ⟨rfl, rfl⟩)
  refine bodyPost_ret (v := .agg #[.int .u64 (q : Int), .int .u64 (r : Int)]) (by simp [results, Tryz.results87, go_sem]) rfl ⟨rfl, ?_⟩
  rfl
/-- A variable of 128 bits holds a number, and may be written. -/
structure WideAt (w : World) (k n : Nat) : Prop where
  hi : w.cell? ⟨k, 0, none⟩ = some (.int .u64 ((n : Int) / 18446744073709551616))
  lo : w.cell? ⟨k, 1, none⟩ = some (.int .u64 ((n : Int) % 18446744073709551616))
  o0 : w.frozen? ⟨k, 0, none⟩ = false
  o1 : w.frozen? ⟨k, 1, none⟩ = false
theorem WideAt.below {w w' : World} {k n : Nat} (h : WideAt w k n) (hb : Below w.heap.size w w') : WideAt w' k n :=
  ⟨kept_cell hb h.hi, kept_cell hb h.lo, kept_open hb h.hi h.o0, kept_open hb h.lo h.o1⟩
/-- .. when it is written. -/
def putW (w : World) (k : Nat) (x y : Int) : World := (w.setCell ⟨k, 0, none⟩ (.int .u64 x)).setCell ⟨k, 1, none⟩ (.int .u64 y)
theorem WideAt.put {w : World} {k n : Nat} (h : WideAt w k n) (m : Nat) : WideAt (putW w k ((m : Int) / 18446744073709551616) ((m : Int) % 18446744073709551616)) k m := by
  obtain ⟨h1, h2, h3, h4⟩ := h
  unfold putW
  refine ⟨?_, ?_, ?_, ?_⟩
  all_goals simp [go_sem, *]
end Go.Proofs.YthkkfldmoflfaaaGreatDoor
/- The world under one name; a number's variable. -/
namespace Go.Proofs.YthkkfldmoflfaaaGreatDoor
open Go.RowKit
/-- A variable of a number holds it, and may be written. -/
structure NumAt (w : World) (b : Nat) (k v : Int) : Prop where
  kind : w.cell? ⟨b, 0, none⟩ = some (.int .i64 k)
  val : w.cell? ⟨b, 1, none⟩ = some (.int .i64 v)
  o0 : w.frozen? ⟨b, 0, none⟩ = false
  o1 : w.frozen? ⟨b, 1, none⟩ = false
theorem NumAt.below {w w' : World} {b : Nat} {k v : Int} (h : NumAt w b k v) (hb : Below w.heap.size w w') : NumAt w' b k v :=
  ⟨kept_cell hb h.kind, kept_cell hb h.val, kept_open hb h.kind h.o0, kept_open hb h.val h.o1⟩
end Go.Proofs.YthkkfldmoflfaaaGreatDoor
/- A statement that leaves its order open, by what holds behind each of its steps. -/
namespace Go.Proofs.YthkkfldmoflfaaaGreatDoor
open Go.RowKit
/-- A new number's variable: where it lies, and what it holds. -/
structure NumBox (w W : World) (b : Nat) (q : Value) (z : Bool) (K U : Int) : Prop where
  ptr : q = .pointer (some ⟨b, 0, none⟩)
  ge : W.heap.size ≤ b
  at_ : NumAt w b (if z then K else 0) (if z then U else 0)
theorem NumBox.below {w w' W : World} {b : Nat} {q : Value} {z : Bool} {K U : Int} (h : NumBox w W b q z K U) (hb : Below w.heap.size w w') : NumBox w' W b q z K U := ⟨h.ptr, h.ge, h.at_.below hb⟩
theorem NumBox.lt {w W : World} {b : Nat} {q : Value} {z : Bool} {K U : Int} (h : NumBox w W b q z K U) : b < w.heap.size := block_lt_of_cell h.at_.kind
/-- .. when it is written. -/
def putN (w : World) (b : Nat) (k v : Int) : World := (w.setCell ⟨b, 0, none⟩ (.int .i64 k)).setCell ⟨b, 1, none⟩ (.int .i64 v)
theorem NumAt.put {w : World} {b : Nat} {k v : Int} (h : NumAt w b k v) (k' v' : Int) : NumAt (putN w b k' v') b k' v' := by
  obtain ⟨h1, h2, h3, h4⟩ := h
  unfold putN
  refine ⟨?_, ?_, ?_, ?_⟩
  all_goals simp [go_sem, *]
theorem putN_below {w w' : World} {B b : Nat} (h : Below B w w') (hk : B ≤ b) (k v : Int) : Below B w (putN w' b k v) := (h.setCell hk _).setCell hk _
theorem NumBox.put {w W : World} {b : Nat} {q : Value} {z : Bool} {K U : Int} (h : NumBox w W b q z K U) : NumBox (putN w b K U) W b q true K U := ⟨h.ptr, h.ge, h.at_.put K U⟩
theorem NumBox.new {w W : World} (hs : W.heap.size ≤ w.heap.size) (K U : Int) : NumBox (w.alloc (.cells #[.int .i64 0, .int .i64 0] 27)) W w.heap.size (.pointer (some ⟨w.heap.size, 0, none⟩)) false K U :=
  ⟨rfl, hs, ⟨by simp [go_sem], by simp [go_sem], by simp [go_sem], by simp [go_sem]⟩⟩
end Go.Proofs.YthkkfldmoflfaaaGreatDoor
/- A statement that leaves its order open, whose steps read and call: in the order of the text, over a class of worlds. -/
namespace Go.Proofs.YthkkfldmoflfaaaGreatDoor
open Go.RowKit
theorem wp_region_cls {P : Program} {id : Nat} {Q : Exit → Act → World → Prop} {a : Act} {w : World} {l : List Oper} (C : World → Prop) (hm : P.follows .mixedOrders = true) (hB : Region.lexB .any l.toArray = true) (hC : C w.drew)
    (h : wpQuiet P l.toArray C (fun a' => ∀ w', C w' → Q .normal a' w') l a) : (Code.region id l.toArray true).wp P Q a w :=
  wp_region_quiet (C := C) hm hB hC (by simpa using h)
/-- Worlds in which a number's variable, another's value and a third number's stand. -/
structure Cls5 (X : World) (p q s : Nat) (r v u : Int) (w' : World) : Prop where
  bel : Below X.heap.size X w'
  r0 : w'.cell? ⟨p, 0, none⟩ = some (.int .i64 0)
  r1 : w'.cell? ⟨p, 1, none⟩ = some (.int .i64 r)
  a0 : w'.cell? ⟨q, 0, none⟩ = some (.int .i64 0)
  a1 : w'.cell? ⟨q, 1, none⟩ = some (.int .i64 v)
  b1 : w'.cell? ⟨s, 1, none⟩ = some (.int .i64 u)
theorem Cls5.below {X w w' : World} {p q s : Nat} {r v u : Int} (h : Cls5 X p q s r v u w) (hb : Below w.heap.size w w') : Cls5 X p q s r v u w' :=
  ⟨Below.then h.bel hb, kept_cell hb h.r0, kept_cell hb h.r1, kept_cell hb h.a0, kept_cell hb h.a1, kept_cell hb h.b1⟩
end Go.Proofs.YthkkfldmoflfaaaGreatDoor
