/- Several texts, laid as one. -/
import Derived.Test.YtiembljlhmgpjaaGreatDoorGak
import Derived.Deep.RegionLawGrows
import Derived.Maps.OwnSet
/- A reader's small steps, more: xmlscan's quote, quoted, equals, fail. -/
namespace Go.Proofs.YtiembljlhmgpjaaGreatDoor
open Go.RowKit
/-- What the package variables of the library hold; they all lie below B. -/
structure XEnv (B : Nat) (w : World) : Prop where
  env : Env w
  x : w.cell? ⟨2, 120, none⟩ = some (.int .u16 88)
  m : w.cell? ⟨2, 109, none⟩ = some (.int .u16 77)
  l : w.cell? ⟨2, 108, none⟩ = some (.int .u16 76)
  X : w.cell? ⟨2, 88, none⟩ = some (.int .u16 120)
  M : w.cell? ⟨2, 77, none⟩ = some (.int .u16 109)
  L : w.cell? ⟨2, 76, none⟩ = some (.int .u16 108)
  g1 : 5 < B
  g2 : 0 < B
  g3 : 1 < B
  g4 : 2 < B
theorem XEnv.low {B : Nat} {w w' : World} (h : XEnv B w) (hb : Below B w w') : XEnv B w' := by
  obtain ⟨⟨⟨m, hm⟩, t1, t2⟩, hx, hmm, hl, hX, hM, hL, g1, g2, g3, g4⟩ := h
  refine ⟨⟨⟨m, ?_⟩, ?_, ?_⟩, ?_, ?_, ?_, ?_, ?_, ?_, g1, g2, g3, g4⟩
  · rw [hb.cell g1]; exact hm
  · intro c hc; rw [hb.cell g2]; exact t1 c hc
  · intro i hi
    rw [hb.cell g3, hb.cell g3]; exact t2 i hi
  · rw [hb.cell g4]; exact hx
  · rw [hb.cell g4]; exact hmm
  · rw [hb.cell g4]; exact hl
  · rw [hb.cell g4]; exact hX
  · rw [hb.cell g4]; exact hM
  · rw [hb.cell g4]; exact hL
theorem XEnv.moved {B : Nat} {w w' : World} {p n : Nat} (h : XEnv B w) (hm : Moves p n w w') (hB : B ≤ p) (hp : p < w.heap.size) : XEnv B w' := h.low (hm.low hB (by omega))
theorem XEnv.on {B : Nat} {w w' : World} (h : XEnv B w) (hB : B ≤ w.heap.size) (hb : Below w.heap.size w w') : XEnv B w' := h.low (hb.mono hB)
theorem adv_adv (s : RS) (n m : Nat) : (s.adv n).adv m = s.adv (n + m) := by
  unfold RS.adv
  simp only [List.drop_drop, List.append_assoc, RS.mk.injEq, and_true, List.append_cancel_left_eq]
  rw [List.take_add]
/-- One state is another one, some characters on. -/
def Adv (s s' : RS) : Prop := ∃ k, s' = s.adv k
theorem Adv.then {a b c : RS} (h : Adv a b) (g : Adv b c) : Adv a c := by
  obtain ⟨k, rfl⟩ := h
  obtain ⟨m, rfl⟩ := g
  exact ⟨k + m, adv_adv _ _ _⟩
theorem Adv.by (s : RS) (n : Nat) : Adv s (s.adv n) := ⟨n, rfl⟩
theorem Adv.fine {s s' : RS} (h : Adv s s') (hf : Fine s) : Fine s' := by
  obtain ⟨k, rfl⟩ := h
  exact hf.adv k
theorem Adv.at {s s' : RS} (h : Adv s s') {w w' : World} {p : Nat} (ha : AtS w p s) (hm : Moves p s'.place w w') : AtS w' p s' := by
  obtain ⟨k, rfl⟩ := h
  exact ha.to hm
theorem Adv.blanks (s : RS) : Adv s s.blanks := ⟨_, rfl⟩
theorem Adv.take (s : RS) (a : List Nat) : Adv s (s.take a) := by
  unfold RS.take
  split
  · exact ⟨_, rfl⟩
  · exact ⟨0, by unfold RS.adv; simp⟩
theorem Adv.name (s : RS) : Adv s s.name := ⟨_, rfl⟩
theorem Adv.qname (s : RS) : Adv s s.qname := ⟨_, rfl⟩
theorem Adv.takeTo {s s' : RS} {a x : List Nat} (h : s.takeTo a = some (x, s')) : Adv s s' ∧ ∃ y, cutL a s.rest = some (x, y) ∧ s' = s.adv (x.length + a.length) := by
  unfold RS.takeTo at h
  cases hc : cutL a s.rest with
  | none => rw [hc] at h; cases h
  | some xy => rw [hc] at h; cases h; exact ⟨⟨_, rfl⟩, xy.2, rfl, rfl⟩
theorem takeTo_none {s : RS} {a : List Nat} (h : s.takeTo a = none) : cutL a s.rest = none := by
  unfold RS.takeTo at h
  cases hc : cutL a s.rest with
  | none => rfl
  | some xy => rw [hc] at h; cases h
theorem quote_some {s s' : RS} {q : Nat} (h : s.quote = some (q, s')) : s' = s.adv 1 ∧ heads q s.rest = true ∧ (q = 34 ∨ q = 39 ∧ heads 34 s.rest = false) := by
  unfold RS.quote at h
  split at h
  · rename_i hh; cases h; exact ⟨rfl, hh, .inl rfl⟩
  · rename_i hh
    split at h
    · rename_i h2; cases h; exact ⟨rfl, h2, .inr ⟨rfl, by simpa using hh⟩⟩
    · cases h
theorem Adv.quote {s s' : RS} {q : Nat} (h : s.quote = some (q, s')) : Adv s s' := ⟨1, (quote_some h).1⟩
theorem Adv.quoted {s s' : RS} {x : List Nat} (h : s.quoted = some (x, s')) : Adv s s' := by
  unfold RS.quoted at h
  cases hq : s.quote with
  | none => rw [hq] at h; cases h
  | some qs =>
    obtain ⟨q, s1⟩ := qs
    rw [hq] at h
    exact (Adv.quote hq).then (Adv.takeTo h).1
theorem Adv.equals {s s' : RS} (h : s.equals = some s') : Adv s s' := by
  unfold RS.equals at h
  split at h
  · cases h; exact (Adv.blanks s).then ((Adv.by _ 1).then (Adv.blanks _))
  · cases h
/-- What quote tells, and where it leaves the reader. -/
def quoteP (o : Option (Nat × RS)) (p : Nat) (e : Ending) (w w' : World) : Prop := match o with
  | some (q, s1) => e = .returned (.tuple #[.string (T [q]), .bool true]) ∧ Moves p s1.place w w'
  | none => e = .returned (.tuple #[.string ⟨#[]⟩, .bool false]) ∧ Below w.heap.size w w'
set_option maxHeartbeats 1000000 in
theorem quote_any (p : Nat) (s : RS) (w : World) (h : AtS w p s) (hf : Fine s) :
    Calls Tryz.prog 135 #[.pointer (some ⟨p, 0, none⟩)] w fun e w' => quoteP s.quote p e w w' := by
  have i0 : ∀ w, (Instr.index 186 (.agg #[.string ⟨#[34]⟩, .string ⟨#[39]⟩]) (.int .i64 0)).run Tryz.prog w = .ok (.string ⟨#[34]⟩) w := fun _ => by kernel_rfl
  have i1 : ∀ w, (Instr.index 186 (.agg #[.string ⟨#[34]⟩, .string ⟨#[39]⟩]) (.int .i64 1)).run Tryz.prog w = .ok (.string ⟨#[39]⟩) w := fun _ => by kernel_rfl
  go_enter Tryz.func135, Tryz.ntmps135
  go_wp2_with fail
  refine wp_loop_rounds 3 ?_
  rw [rounds_succ]
  cases hh : heads 34 s.rest
  · have HH := hide hh
    clear hh
    go_wp2_with fail
    refine (take_no [34] ⟨#[34]⟩ rfl (by decide) p s _ h hf (by rw [isPre_one]; exact unhide HH)).mono ?_
    rintro e w1 ⟨rfl, hb1⟩
    go_wp2_with fail
    rw [rounds_succ]
    have h1 := h.keep hb1
    cases hh : heads 39 s.rest
    · have HH2 := hide hh
      clear hh
      go_wp2_with fail
      refine (take_no [39] ⟨#[39]⟩ rfl (by decide) p s _ h1 hf (by rw [isPre_one]; exact unhide HH2)).mono ?_
      rintro e w2 ⟨rfl, hb2⟩
      go_wp2_with fail
      rw [rounds_succ]
      go_wp2
      go_ret2
      have e : s.quote = none := by unfold RS.quote; rw [if_neg (by rw [unhide HH]; decide), if_neg (by rw [unhide HH2]; decide)]
      rw [e]
      exact ⟨rfl, Below.then hb1 hb2⟩
    · have HH2 := hide hh
      clear hh
      go_wp2_with fail
      refine (take_yes [39] ⟨#[39]⟩ rfl (by decide) p s _ h1 hf (by rw [isPre_one]; exact unhide HH2)).mono ?_
      rintro e w2 ⟨rfl, hm2⟩
      go_wp2
      go_ret2
      have e : s.quote = some (39, s.adv 1) := by unfold RS.quote; rw [if_neg (by rw [unhide HH]; decide), if_pos (unhide HH2)]
      rw [e]
      exact ⟨rfl, (h.stay hb1).then hm2⟩
  · have HH := hide hh
    clear hh
    go_wp2_with fail
    refine (take_yes [34] ⟨#[34]⟩ rfl (by decide) p s _ h hf (by rw [isPre_one]; exact unhide HH)).mono ?_
    rintro e w2 ⟨rfl, hm2⟩
    go_wp2
    go_ret2
    have e : s.quote = some (34, s.adv 1) := by unfold RS.quote; rw [if_pos (unhide HH)]
    rw [e]
    exact ⟨rfl, hm2⟩
/-- What quoted tells, and where it leaves the reader. -/
def quotedP (o : Option (List Nat × RS)) (p : Nat) (e : Ending) (w w' : World) : Prop := match o with
  | some (x, s1) => e = .returned (.tuple #[.string (T x), .bool true]) ∧ Moves p s1.place w w'
  | none => ∃ y k, e = .returned (.tuple #[.string y, .bool false]) ∧ Moves p k w w'
theorem quote_asc {q : Nat} (h : q = 34 ∨ q = 39) : (T [q]).data.toList = [q].map UInt8.ofNat ∧ ∀ c ∈ [q], c < 128 := by
  rcases h with rfl | rfl
  · exact ⟨rfl, by decide⟩
  · exact ⟨rfl, by decide⟩
set_option maxHeartbeats 1000000 in
theorem quoted_any (B p : Nat) (s : RS) (w : World) (h : AtS w p s) (hf : Fine s) (hE : XEnv B w) (hB : B ≤ p) :
    Calls Tryz.prog 131 #[.pointer (some ⟨p, 0, none⟩)] w fun e w' => quotedP s.quoted p e w w' := by
  have HQ := hide (quote_any p s w h hf)
  have hd : s.quoted = match s.quote with | none => none | some (q, s1) => s1.takeTo [q] := rfl
  have HD := hide hd
  clear hd
  go_enter Tryz.func131, Tryz.ntmps131
  go_wp2_with fail
  refine (unhide HQ).mono ?_
  intro e w1 hq1
  cases hq : s.quote with
  | none =>
    rw [hq] at hq1
    obtain ⟨rfl, hb1⟩ := hq1
    have e : s.quoted = none := by rw [unhide HD, hq]
    have HEQ := hide e
    clear e hq
    go_wp2
    go_ret2
    rw [unhide HEQ]
    exact ⟨_, _, rfl, h.stay hb1⟩
  | some qs =>
    obtain ⟨q, s1⟩ := qs
    rw [hq] at hq1
    obtain ⟨rfl, hm1⟩ := hq1
    obtain ⟨hs1, _, hqq⟩ := quote_some hq
    have hqq' : q = 34 ∨ q = 39 := hqq.imp id (·.1)
    obtain ⟨ha1, ha2⟩ := quote_asc hqq'
    have hA := Adv.quote hq
    have e : s.quoted = s1.takeTo [q] := by rw [unhide HD, hq]
    have HEQ := hide e
    have h1 := hA.at h hm1
    have hf1 := hA.fine hf
    have HA1 := hide ha1
    have HA2 := hide ha2
    have hE1 : Env w1 := (hE.moved hm1 hB h.lt).env
    clear e hq hs1 hqq hqq' ha1 ha2
    cases ht : s1.takeTo [q] with
    | none =>
      have HC := hide (takeTo_none ht)
      have HEQ2 := hide ((unhide HEQ).trans ht)
      clear ht
      go_wp2_with fail
      refine (takeTo_no [q] (T [q]) (unhide HA1) (unhide HA2) (by simp) p s1 _ h1 hf1 hE1 (unhide HC)).mono ?_
      rintro e w2 ⟨rfl, hb2⟩
      go_wp2
      go_ret2
      rw [unhide HEQ2]
      exact ⟨_, _, rfl, hm1.then (h1.stay hb2)⟩
    | some xs =>
      obtain ⟨x, s2⟩ := xs
      obtain ⟨_, y, hc, rfl⟩ := Adv.takeTo ht
      have HC := hide hc
      have HEQ2 := hide ((unhide HEQ).trans ht)
      clear ht hc
      go_wp2_with fail
      refine (takeTo_yes [q] (T [q]) (unhide HA1) (unhide HA2) (by simp) p s1 x y _ h1 hf1 hE1 (unhide HC)).mono ?_
      rintro e w2 ⟨rfl, hm2⟩
      go_wp2
      go_ret2
      rw [unhide HEQ2]
      exact ⟨rfl, hm1.then hm2⟩
/-- What a step that may fail tells. -/
def stepP (o : Option RS) (p : Nat) (e : Ending) (w w' : World) : Prop := match o with
  | some s1 => e = .returned (.bool true) ∧ Moves p s1.place w w'
  | none => ∃ k, e = .returned (.bool false) ∧ Moves p k w w'
set_option maxHeartbeats 1000000 in
theorem equals_any (p : Nat) (s : RS) (w : World) (h : AtS w p s) (hf : Fine s) :
    Calls Tryz.prog 108 #[.pointer (some ⟨p, 0, none⟩)] w fun e w' => stepP s.equals p e w w' := by
  have hA := Adv.blanks s
  have hf1 := hA.fine hf
  go_enter Tryz.func108, Tryz.ntmps108
  go_wp2_with fail
  refine (blanks_any p s _ h hf).mono ?_
  rintro e w1 ⟨rfl, hm1⟩
  have h1 := hA.at h hm1
  cases hh : heads 61 s.blanks.rest
  · have HEQ : Hid (s.equals = none) := by refine hide ?_; unfold RS.equals; rw [if_neg (by rw [hh]; decide)]
    have HH := hide hh
    clear hh
    go_wp2_with fail
    refine (take_no [61] ⟨#[61]⟩ rfl (by decide) p s.blanks _ h1 hf1 (by rw [isPre_one]; exact unhide HH)).mono ?_
    rintro e w2 ⟨rfl, hb2⟩
    go_wp2
    go_ret
    rw [unhide HEQ]
    exact ⟨_, rfl, hm1.then (h1.stay hb2)⟩
  · have HEQ : Hid (s.equals = some (s.blanks.adv 1).blanks) := by refine hide ?_; unfold RS.equals; rw [if_pos hh]
    have HH := hide hh
    clear hh
    go_wp2_with fail
    refine (take_yes [61] ⟨#[61]⟩ rfl (by decide) p s.blanks _ h1 hf1 (by rw [isPre_one]; exact unhide HH)).mono ?_
    rintro e w2 ⟨rfl, hm2⟩
    have h2 := (Adv.by s.blanks 1).at h1 hm2
    go_wp2_with fail
    refine (blanks_any p (s.blanks.adv 1) _ h2 (hf1.adv 1)).mono ?_
    rintro e w3 ⟨rfl, hm3⟩
    go_wp2
    go_ret
    rw [unhide HEQ]
    exact ⟨rfl, (hm1.then hm2).then hm3⟩
/-- fail: what is wrong, and where, is kept. -/
theorem fail_any (p : Nat) (c pl : Nat) (w : World) (c8 : ∃ v, w.cell? ⟨p, 8, none⟩ = some v) (c9 : ∃ v, w.cell? ⟨p, 9, none⟩ = some v) (o8 : w.frozen? ⟨p, 8, none⟩ = false) (o9 : w.frozen? ⟨p, 9, none⟩ = false) :
    Calls Tryz.prog 41 #[.pointer (some ⟨p, 0, none⟩), .int .i64 (c : Nat), .int .i64 (pl : Nat)] w fun e w' => e = .returned (.bool false) ∧ w' = (w.setCell ⟨p, 8, none⟩ (.int .i64 (c : Nat))).setCell ⟨p, 9, none⟩ (.int .i64 (pl : Nat)) := by
  obtain ⟨v8, c8⟩ := c8
  obtain ⟨v9, c9⟩ := c9
  go_enter Tryz.func41, Tryz.ntmps41
  go_wp2
  go_ret
  exact ⟨rfl, rfl⟩
end Go.Proofs.YtiembljlhmgpjaaGreatDoor
/- A reader of XML in memory: its tokens, what is open, the text behind the last token. -/
namespace Go.Proofs.YtiembljlhmgpjaaGreatDoor
open Go.RowKit
/-- append onto a row of the call's own, as one step of a region that draws its order. -/
theorem step_append_own {P : Program} {ops : Array Oper} {o : Oper} {a : Act} {w : World} {K : Act → World → Prop} {Q : Exit → Act → World → Prop} {E : Prop}
    (hg : o.guard = none) (s x : Operand) (t : TypeId) (hop : o.op = Op.call { callee := Callee.builtin Builtin.append, args := #[s, x], argTypes := #[t, t] })
    (base : Nat) (e : TypeId) (i : TypeInfo) (z : Value) (size bytes : Nat) (h1 : P.underlying t = some (.slice e)) (h2 : P.info? e = some i) (h3 : i.zero = some z) (h4 : i.size = size) (h5 : i.bytes = bytes) (h6 : z.cells.size = size) (h7 : 0 < size)
    (v : Value) (n : Nat) (xs : List Value) (hs : a.eval s = v) (hown : w.ownsRow base e size v n xs)
    (ad : Addr) (m c : Nat) (news : List Value) (hx : a.eval x = .slice (some ad) m c) (hn : news.length = m * size) (hc : ∀ j u, news[j]? = some u → w.cell? (ad.add j) = some u) (h1c : ∀ u ∈ news, u.oneCell' = true)
    (b1 : n + m ≤ maxLen) (b2 : (n + m) * bytes ≤ 140737488355328) (hb : base ≤ w.heap.size)
    (hK : ∀ v' w', w'.ownsRow base e size v' (n + m) (xs ++ news) → w.grownBy w' v.ownBlock → K (a.put o.dst v') w') :
    if Region.wanted o (yielded ops a.tmps) = true then Oper.wp P o a w K Q else E := by
  have hw : Region.wanted o (yielded ops a.tmps) = true := by simp [Region.wanted, hg]
  rw [if_pos hw]
  obtain ⟨v', w', hrun, r1, r2, _⟩ := run_append_own (P := P) w base t o.type e i z size bytes h1 h2 h3 h4 h5 h6 h7 v n xs hown ad m c news hn hc h1c b1 b2 hb
  unfold Oper.wp
  simp [execOp, hop, resolve, invoke, builtin, hs, hx, hrun, Result.andThen]
  exact hK v' w' r1 r2
/-- Every block but some stands; blocks may be new. -/
structure Kp (S : Nat → Prop) (w w' : World) : Prop where
  os : w'.os = w.os
  tape : w'.tape = w.tape
  output : w'.output = w.output
  size : w.heap.size ≤ w'.heap.size
  block : ∀ k, k < w.heap.size → ¬ S k → w'.heap[k]? = w.heap[k]?
theorem Kp.low {S : Nat → Prop} {w w' : World} {B : Nat} (h : Kp S w w') (hB : B ≤ w.heap.size) (hS : ∀ k, S k → B ≤ k) : Below B w w' :=
  ⟨h.os, h.tape, h.output, h.size, fun k hk => h.block k (by omega) fun hs => by have := hS k hs; omega⟩
theorem owns_kept {S : Nat → Prop} {w w' : World} {base : Nat} {e : TypeId} {size : Nat} {v : Value} {n : Nat} {xs : List Value} (h : w.ownsRow base e size v n xs) (hk : ∀ k o, w.heap[k]? = some o → ¬ S k → w'.heap[k]? = some o) (hS : ∀ k, v.ownBlock = some k → ¬ S k) : w'.ownsRow base e size v n xs := by
  refine ⟨h.1, ?_⟩
  rcases h.2 with h | ⟨g, cap, cur, h1, h2, h3, h4⟩
  · exact .inl h
  · exact .inr ⟨g, cap, cur, h1, h2, hk g _ h3 (hS g (by rw [h1]; rfl)), h4⟩
/-- The block of a row that is owned is one of its elements' type. -/
theorem owns_type {w : World} {base : Nat} {e : TypeId} {size : Nat} {v : Value} {n : Nat} {xs : List Value} (h : w.ownsRow base e size v n xs) {k : Nat} (hk : v.ownBlock = some k) : ∃ c, w.heap[k]? = some (.cells c e (0, 0)) := by
  rcases h.2 with ⟨rfl, _⟩ | ⟨g, cap, cur, rfl, _, h3, _⟩
  · cases hk
  · cases hk; exact ⟨cur, h3⟩
theorem owns_apart {w : World} {base base' : Nat} {e e' : TypeId} {size size' : Nat} {v v' : Value} {n n' : Nat} {xs xs' : List Value} (h : w.ownsRow base e size v n xs) (h' : w.ownsRow base' e' size' v' n' xs') (he : e ≠ e') : ∀ k, v.ownBlock = some k → v'.ownBlock ≠ some k := by
  intro k hk hk'
  obtain ⟨c, hc⟩ := owns_type h hk
  obtain ⟨c', hc'⟩ := owns_type h' hk'
  rw [hc] at hc'
  cases hc'
  exact he rfl
theorem owns_not {w : World} {base : Nat} {e : TypeId} {size : Nat} {v : Value} {n : Nat} {xs : List Value} (h : w.ownsRow base e size v n xs) {p : Nat} {c : Array Value} {t : TypeId} {z : Nat × Nat} (hp : w.heap[p]? = some (.cells c t z)) (he : e ≠ t) : v.ownBlock ≠ some p := by
  intro hk
  obtain ⟨c', hc⟩ := owns_type h hk
  rw [hp] at hc
  cases hc
  exact he rfl
theorem owns_pre {w : World} {base : Nat} {e : TypeId} {size : Nat} {a : Option Addr} {n cap k : Nat} {xs : List Value} (h : w.ownsRow base e size (.slice a n cap) n xs) (hk : k ≤ n) : w.ownsRow base e size (.slice a k cap) k (xs.take (k * size)) := by
  refine ⟨by rw [List.length_take, h.1]; exact Nat.min_eq_left (Nat.mul_le_mul_right _ hk), ?_⟩
  rcases h.2 with ⟨h1, h2⟩ | ⟨g, cap', cur, h1, h2, h3, h4, h5, h6, h7⟩
  · cases h1
    obtain rfl : k = 0 := by omega
    exact .inl ⟨rfl, rfl⟩
  · cases h1
    refine .inr ⟨g, cap, cur, rfl, h2, h3, by omega, h5, h6, ?_⟩
    rw [← h7, List.take_take, Nat.min_eq_left (Nat.mul_le_mul_right _ hk)]
def pairRow (l : List (List Nat × List Nat)) : List Value := l.flatMap fun x => [.string (T x.1), .string (T x.2)]
def tokCells (t : XTok) (v : Value) : List Value := [.int .i64 (t.kind : Nat), .string (T t.name), v, .string (T t.text)]
def tokRow : List XTok → List Value → List Value
  | t :: ts, v :: vs => tokCells t v ++ tokRow ts vs
  | _, _ => []
abbrev AttrsAt (w : World) (B : Nat) (v : Value) (l : List (List Nat × List Nat)) : Prop := w.ownsRow B 92 2 v l.length (pairRow l)
def Toks (w : World) (B : Nat) (vt : Value) (ts : List XTok) : Prop := ∃ vs : List Value, vs.length = ts.length ∧ w.ownsRow B 56 4 vt ts.length (tokRow ts vs) ∧
  ∀ (i : Nat) (t : XTok) (v : Value), ts[i]? = some t → vs[i]? = some v → AttrsAt w B v t.attrs
theorem tokRow_snoc : ∀ (ts : List XTok) (vs : List Value) (t : XTok) (v : Value), vs.length = ts.length → tokRow (ts ++ [t]) (vs ++ [v]) = tokRow ts vs ++ tokCells t v
  | [], [], t, v, _ => by simp [tokRow]
  | x :: ts, y :: vs, t, v, h => by
    have ih := tokRow_snoc ts vs t v (by simpa using h)
    show tokCells x y ++ tokRow (ts ++ [t]) (vs ++ [v]) = _
    rw [ih, ← List.append_assoc]; rfl
  | [], _ :: _, _, _, h => by simp at h
  | _ :: _, [], _, _, h => by simp at h
def opnRow (l : List (List Nat)) : List Value := l.map fun x => .string (T x)
/-- How an entity's value reads. -/
def entCells : List Value → Option (DataW Unit × List MemPlace)
  | [.string s] => some (.agg [.lit (.string s.data.toList)], [])
  | _ => none
def entElem : Value → Option (DataW Unit × List MemPlace)
  | .agg a => entCells a.toList
  | _ => none
theorem entElem_inv {v : Value} {x : List UInt8} {ps : List MemPlace} (h : entElem v = some (.agg [.lit (.string x)], ps)) : v = .agg #[.string ⟨x.toArray⟩] := by
  unfold entElem at h
  split at h
  · rename_i a
    unfold entCells at h
    split at h
    · rename_i s hs
      cases h
      have : a = #[.string s] := Array.toList_inj.1 hs
      rw [this]
    · cases h
  · cases h
/-- What names stand for, as a map that is read. -/
def entsD (ents : List (List Nat × List Nat)) : DataW Unit := ents.foldl (fun D x => D.put (.string (tx x.1)) (.agg [.lit (.string (tx x.2))])) (.map [])
/-- What a map's block holds: names that stand for texts. -/
def EntsAt (w : World) (B m : Nat) (ents : List (List Nat × List Nat)) : Prop := B ≤ m ∧ (∀ x ∈ ents, okL x.1 ∧ okL x.2) ∧ w.ownsMap Tryz.prog 9 entElem m ents.length (entsD ents)
theorem EntsAt.kept {w w' : World} {B m : Nat} {ents : List (List Nat × List Nat)} (h : EntsAt w B m ents) (hk : w'.heap[m]? = w.heap[m]?) : EntsAt w' B m ents := by
  obtain ⟨h1, h2, es, clock, h3, h4⟩ := h
  exact ⟨h1, h2, es, clock, by rw [hk]; exact h3, h4⟩
theorem EntsAt.map {w : World} {B m : Nat} {ents : List (List Nat × List Nat)} (h : EntsAt w B m ents) : ∃ es clock, w.heap[m]? = some (.map es clock) := by
  obtain ⟨_, _, es, clock, h3, _⟩ := h
  exact ⟨es, clock, h3⟩
theorem EntsAt.ne {w : World} {B m p : Nat} {ents : List (List Nat × List Nat)} (h : EntsAt w B m ents) {c : Array Value} {t : TypeId} {z : Nat × Nat} (hp : w.heap[p]? = some (.cells c t z)) : m ≠ p := by
  rintro rfl
  obtain ⟨es, clock, h3⟩ := h.map
  rw [hp] at h3
  cases h3
/-- A reader's block. -/
def rdArr (s : RS) (m : Nat) (vo vt vr : Value) : Array Value := #[.string (T (s.pre ++ s.rest)), .int .i64 (s.place : Nat), .map (some m), .int .i64 (s.spent : Nat), vo, vt, vr, .int .i64 (s.runAt : Nat), .int .i64 0, .int .i64 0]
structure Rd (w : World) (B p m : Nat) (vo vt vr : Value) (s : RS) : Prop where
  blk : w.heap[p]? = some (.cells (rdArr s m vo vt vr) 47 (0, 0))
  low : B ≤ p
  ents : EntsAt w B m s.ents
  opn : w.ownsRow B 9 1 vo s.opn.length (opnRow s.opn)
  toks : Toks w B vt s.toks
  run : w.ownsRow B 5 1 vr (tx s.run).length (byteCells (tx s.run))
theorem Toks.kept {w w' : World} {B : Nat} {vt : Value} {ts : List XTok} (h : Toks w B vt ts) (S : Nat → Prop) (hk : ∀ k o, w.heap[k]? = some o → ¬ S k → w'.heap[k]? = some o)
    (hS : ∀ k c, S k → w.heap[k]? ≠ some (.cells c 56 (0, 0)) ∧ w.heap[k]? ≠ some (.cells c 92 (0, 0))) : Toks w' B vt ts := by
  obtain ⟨vs, h1, h2, h3⟩ := h
  refine ⟨vs, h1, owns_kept h2 hk fun k hb hs => ?_, fun i t v ht hv => owns_kept (h3 i t v ht hv) hk fun k hb hs => ?_⟩
  · obtain ⟨c, hc⟩ := owns_type h2 hb
    exact (hS k c hs).1 hc
  · obtain ⟨c, hc⟩ := owns_type (h3 i t v ht hv) hb
    exact (hS k c hs).2 hc
theorem Rd.at {w : World} {B p m : Nat} {vo vt vr : Value} {s : RS} (h : Rd w B p m vo vt vr s) : AtS w p s := by
  refine ⟨?_, ?_, blk_open h.blk 1⟩
  · rw [blk_cell h.blk]; rfl
  · rw [blk_cell h.blk]; rfl
theorem Rd.lt {w : World} {B p m : Nat} {vo vt vr : Value} {s : RS} (h : Rd w B p m vo vt vr s) : p < w.heap.size := (Array.getElem?_eq_some_iff.1 h.blk).1
/-- All of a reader but its own block, under what changes other blocks alone. -/
theorem Rd.keep {w w' : World} {B p m : Nat} {vo vt vr : Value} {s : RS} (h : Rd w B p m vo vt vr s) (S : Nat → Prop) (hk : ∀ k o, w.heap[k]? = some o → ¬ S k → w'.heap[k]? = some o)
    (hS : ∀ k, S k → ∃ c t, w.heap[k]? = some (.cells c t (0, 0)) ∧ t ≠ 56 ∧ t ≠ 92 ∧ t ≠ 9 ∧ t ≠ 5)
    {s' : RS} (hp : w'.heap[p]? = some (.cells (rdArr s' m vo vt vr) 47 (0, 0))) (e1 : s'.ents = s.ents) (e2 : s'.opn = s.opn) (e3 : s'.toks = s.toks) (e4 : s'.run = s.run) : Rd w' B p m vo vt vr s' := by
  have hrow : ∀ {base : Nat} {e : TypeId} {size : Nat} {v : Value} {n : Nat} {xs : List Value}, w.ownsRow base e size v n xs → (e = 9 ∨ e = 5) → w'.ownsRow base e size v n xs := fun ho he => owns_kept ho hk fun k hb hs => by
    obtain ⟨c, hc⟩ := owns_type ho hb
    obtain ⟨c', t, ht, _, _, h3, h4⟩ := hS k hs
    rw [hc] at ht
    cases ht
    rcases he with rfl | rfl
    · exact h3 rfl
    · exact h4 rfl
  refine ⟨hp, h.low, ?_, ?_, ?_, ?_⟩
  · rw [e1]
    refine h.ents.kept ?_
    obtain ⟨es, clock, hm⟩ := h.ents.map
    rw [hm]
    refine hk m _ hm fun hs => ?_
    obtain ⟨c, t, ht, _⟩ := hS m hs
    rw [hm] at ht
    cases ht
  · rw [e2]; exact hrow h.opn (.inl rfl)
  · rw [e3]
    refine h.toks.kept S hk fun k c hs => ?_
    obtain ⟨c', t, ht, h1, h2, _⟩ := hS k hs
    rw [ht]
    exact ⟨fun e => by cases e; exact h1 rfl, fun e => by cases e; exact h2 rfl⟩
  · rw [e4]; exact hrow h.run (.inr rfl)
theorem Rd.moved {w w' : World} {B p m : Nat} {vo vt vr : Value} {s s' : RS} (h : Rd w B p m vo vt vr s) (hm : Moves p s'.place w w') (ha : Adv s s') : Rd w' B p m vo vt vr s' := by
  refine h.keep (· = p) (fun k o hk hs => ?_) (fun k hs => ?_) ?_ ?_ ?_ ?_ ?_
  · rw [hm.block (Array.getElem?_eq_some_iff.1 hk).1 hs]; exact hk
  · subst hs
    exact ⟨_, _, h.blk, by decide, by decide, by decide, by decide⟩
  · rw [hm.own h.blk]
    obtain ⟨k, rfl⟩ := ha
    unfold rdArr
    rw [adv_whole]
    rfl
  all_goals (obtain ⟨k, rfl⟩ := ha; rfl)
theorem Rd.on {w w' : World} {B p m : Nat} {vo vt vr : Value} {s : RS} (h : Rd w B p m vo vt vr s) (hb : Below w.heap.size w w') : Rd w' B p m vo vt vr s :=
  h.keep (fun _ => False) (fun _ _ hk _ => block_below hk hb) (fun _ hs => hs.elim) (block_below h.blk hb) rfl rfl rfl rfl
/-- What is wrong has been told. -/
def Wrong (w : World) (p c pl : Nat) : Prop := w.cell? ⟨p, 8, none⟩ = some (.int .i64 (c : Nat)) ∧ w.cell? ⟨p, 9, none⟩ = some (.int .i64 (pl : Nat))
/-- What a call on a reader tells: it goes on as it should, or what is wrong is told. -/
def outP (o : Except Er RS) (B p m : Nat) (e : Ending) (w w' : World) : Prop := Below B w w' ∧ match o with
  | .ok s' => e = .returned (.bool true) ∧ ∃ vo vt vr, Rd w' B p m vo vt vr s'
  | .error (c, pl) => e = .returned (.bool false) ∧ Wrong w' p c pl
theorem fail_rd {c : Array Value} {t : TypeId} (B p code pl : Nat) (w : World) (hp : w.heap[p]? = some (.cells c t (0, 0))) (hs : c.size = 10) (hB : B ≤ p) :
    Calls Tryz.prog 41 #[.pointer (some ⟨p, 0, none⟩), .int .i64 (code : Nat), .int .i64 (pl : Nat)] w fun e w' => e = .returned (.bool false) ∧ Wrong w' p code pl ∧ Below B w w' := by
  refine (fail_any p code pl w ⟨c[8], by rw [blk_cell hp]; exact Array.getElem?_eq_getElem _⟩ ⟨c[9], by rw [blk_cell hp]; exact Array.getElem?_eq_getElem _⟩ (blk_open hp 8) (blk_open hp 9)).mono ?_
  rintro e w' ⟨rfl, rfl⟩
  refine ⟨rfl, ⟨?_, ?_⟩, ((Below.refl B w).setCell hB _).setCell hB _⟩
  · rw [blk_cell (blk_set (blk_set hp 8 _) 9 _)]
    simp [hs]
  · rw [blk_cell (blk_set (blk_set hp 8 _) 9 _)]
    simp [hs]
end Go.Proofs.YtiembljlhmgpjaaGreatDoor
