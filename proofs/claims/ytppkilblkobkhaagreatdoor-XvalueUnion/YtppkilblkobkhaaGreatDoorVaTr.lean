/- xvalue.translate of texts whose bytes are below 128. -/
import Derived.Test.YtppkilblkobkhaaGreatDoorVaPl
namespace Go.Proofs.YtppkilblkobkhaaGreatDoor
open Go.RowKit
attribute [local go_sem] Oper.semAt_some
theorem wpIn_range_cell1 {α : Type} {P : Program} {n : Nat} {g : Operand} {p d : Nat} {assign body : Code} {Q : Exit → Act → World → Prop} {a : Act} {w : World}
    (h1 : 1 ≤ n) {gf : Nat} {lb : Array Value} (hg : a.eval g = .func (.func gf) #[] lb) (eg : ∀ args w, (callFunc gf args).run P w = .ok (.enter gf args) w)
    {enc : α → Value} {b : Nat} {t : TypeId} {v0 : Value} {xs : List α} (hseq : SeqCell (n - 1) P gf lb (fun x => #[enc x]) b t v0 xs) (hbx : Boxed w b t v0)
    (I : List α → World → Prop) (hI : OwnFrom w.heap.size I) (hIb : ∀ pre A v, I pre A → I pre (A.setCell ⟨b, 0, none⟩ v)) (h0 : I [] w)
    (hassign : ∀ (l : Nat) (x : α) (W : World) (K : Act → World → Prop), K { tmps := (a.tmps.setIfInBounds p (enc x)).setIfInBounds d (enc x), defers := [] } W →
      assign.wpIn (Fence.wide.inRound l) (n - 1 - 1) P (Exit.then K (fun _ _ _ => False)) { tmps := a.tmps.setIfInBounds p (enc x), defers := [] } W)
    (hbody : ∀ (l : Nat) (pre : List α) (x : α) (W : World), I pre W → pre.length < xs.length → body.wpIn (Fence.wide.inRound l) (n - 1 - 1) P (fun e _ W' => e = .normal ∧ KeepsFrom w.heap.size W W' ∧ W'.heap[b]? = W.heap[b]? ∧ I (pre ++ [x]) W') { tmps := (a.tmps.setIfInBounds p (enc x)).setIfInBounds d (enc x), defers := [] } W)
    (hdone : ∀ (D : Nat) (W : World), w.heap.size ≤ D → I xs W → W.heap[D]? = some (.deferred (some [])) → Q .normal { a with defers := { target := .collected D, args := #[] } :: a.defers } W) :
    (Code.rangeFunc g #[p] assign body).wpIn Fence.wide n P Q a w :=
  wpIn_range_cell h1 hg eg hseq hbx (fun _ => rfl) I hI hIb h0 (fun x => { tmps := (a.tmps.setIfInBounds p (enc x)).setIfInBounds d (enc x), defers := [] }) (fun l x W K hK => by simpa using hassign l x W K hK) hbody hdone
theorem Below.then' {B : Nat} {a b c : World} (h : Below a.heap.size a b) (k : Below B b c) (hB : a.heap.size ≤ B := by omega) : Below a.heap.size a c :=
  h.trans (k.mono hB)
theorem wf_i64v {n : Nat} (h : n ≤ 1048576) : (Lit.int .i64 (n : Nat)).wf = true := by
  have h1 : IntKind.i64.min = -9223372036854775808 := by decide
  have h2 : IntKind.i64.max = 9223372036854775807 := by decide
  simp only [Lit.wf, Bool.and_eq_true, decide_eq_true_eq]
  rw [h1, h2]
  omega
theorem wrap_up (k : Nat) (h : k ≤ 1048576) : wrap64 ((k : Int) + 1) = ((k + 1 : Nat) : Int) := by
  rw [show ((k : Int) + 1) = ((k + 1 : Nat) : Int) by omega]
  unfold wrap64
  omega
set_option maxRecDepth 100000 in
theorem aText_any (s : ByteArray) (w : World) : Calls Tryz.prog 74 #[.string s] w fun e w' => e = .returned (.agg #[.int .i64 2, .slice none 0 0, .int .i64 0, .int .i64 0, .string s, .bool false, .int .i64 0]) ∧ Below w.heap.size w w' := by
  go_enter Tryz.func74, Tryz.ntmps74
  go_wp2
  go_returns
  exact ⟨rfl, by (repeat first | exact Below.refl _ _ | assumption | refine Below.drew ?_ | refine Below.alloc ?_ (by simp <;> omega) _ | refine Below.setCell ?_ (by simp <;> omega) _)⟩
theorem set_blk {W : World} {b : Nat} {c : Array Value} {t : TypeId} {z : Nat × Nat} (h : W.heap[b]? = some (.cells c t z)) (i : Nat) (v : Value) : (W.setCell ⟨b, i, none⟩ v).heap[b]? = some (.cells (c.setIfInBounds i v) t z) := by
  simp [World.setCell, Array.getElem?_modify, h]
theorem put7 {W : World} {b : Nat} {x0 x1 x2 x3 x4 x5 x6 : Value} {t : TypeId} (h : W.heap[b]? = some (.cells #[x0, x1, x2, x3, x4, x5, x6] t (0, 0))) (y0 y1 y2 y3 y4 y5 y6 : Value) :
    ∃ W7, ((((((W.setCell ⟨b, 0, none⟩ y0).setCell ⟨b, 1, none⟩ y1).setCell ⟨b, 2, none⟩ y2).setCell ⟨b, 3, none⟩ y3).setCell ⟨b, 4, none⟩ y4).setCell ⟨b, 5, none⟩ y5).setCell ⟨b, 6, none⟩ y6 = W7 ∧ W7.heap[b]? = some (.cells #[y0, y1, y2, y3, y4, y5, y6] t (0, 0)) ∧ (∀ k, k ≠ b → W7.heap[k]? = W.heap[k]?) ∧ Below b W W7 := by
  refine ⟨_, rfl, ?_, fun k hk => ?_, ?_⟩
  · rw [set_blk (set_blk (set_blk (set_blk (set_blk (set_blk (set_blk h 0 y0) 1 y1) 2 y2) 3 y3) 4 y4) 5 y5) 6 y6]
    rfl
  · repeat rw [Below.heap_setCell _ _ _ _ hk]
  · exact (((((((Below.refl b W).setCell (p := ⟨b, 0, none⟩) (Nat.le_refl _) y0).setCell (p := ⟨b, 1, none⟩) (Nat.le_refl _) y1).setCell (p := ⟨b, 2, none⟩) (Nat.le_refl _) y2).setCell (p := ⟨b, 3, none⟩) (Nat.le_refl _) y3).setCell (p := ⟨b, 4, none⟩) (Nat.le_refl _) y4).setCell (p := ⟨b, 5, none⟩) (Nat.le_refl _) y5).setCell (p := ⟨b, 6, none⟩) (Nat.le_refl _) y6
/-- Where translate begins: its arguments, its answer, its map. -/
structure TrS (w : World) (g o cap bz : Nat) (f : List UInt8) (W : World) : Prop where
  bel : Below bz w W
  size : bz + 4 ≤ W.heap.size
  args : W.heap[bz]? = some (.cells #[.pointer none, .slice (some ⟨g, o, none⟩) 3 cap] 64 (0, 0))
  tell : W.heap[bz + 1]? = some (.cells #[.int .i64 0, .slice none 0 0, .int .i64 0, .int .i64 0, .string ⟨#[]⟩, .bool false, .int .i64 0] 62 (0, 0))
  places : PlAt W (bz + 1 + 1) f
  box : Boxed W (bz + 1 + 1 + 1) 107 (.map (some (bz + 1 + 1)))
theorem TrS.on {w W W' : World} {g o cap bz : Nat} {f : List UInt8} (h : TrS w g o cap bz f W) (hb : Below W.heap.size W W') : TrS w g o cap bz f W' :=
  have hz := h.size
  ⟨h.bel.trans (hb.mono (by omega)), by have := hb.size; omega, (hb.block _ (by omega)).trans h.args, (hb.block _ (by omega)).trans h.tell, h.places.kept (hb.block _ (by omega)), (hb.block _ (by omega)).trans h.box⟩
theorem TrS.oth {w W W' : World} {g o cap bz : Nat} {f f' : List UInt8} (h : TrS w g o cap bz f W) (hb : Oth (bz + 1 + 1) W W') (hp : PlAt W' (bz + 1 + 1) f') : TrS w g o cap bz f' W' :=
  have hz := h.size
  ⟨h.bel.trans (hb.bel.mono (by omega)), by have := hb.bel.size; omega, (hb.blk _ (by omega) (by omega)).trans h.args, (hb.blk _ (by omega) (by omega)).trans h.tell, hp, (hb.blk _ (by omega) (by omega)).trans h.box⟩
theorem tr_start (w : World) (g o cap : Nat) : ∃ W0, (((w.alloc (.cells #[.pointer none, .slice (some ⟨g, o, none⟩) 3 cap] 64)).alloc (.cells #[.int .i64 0, .slice none 0 0, .int .i64 0, .int .i64 0, .string ⟨#[]⟩, .bool false, .int .i64 0] 62)).alloc (.map #[] 0)).alloc (.cells #[.map (some (w.heap.size + 1 + 1))] 107) = W0 ∧ TrS w g o cap w.heap.size [] W0 := by
  refine ⟨_, rfl, ?_⟩
  have k : ∀ (x : World) (o : Obj), Below x.heap.size x (x.alloc o) := fun x o => (Below.refl _ _).alloc (Nat.le_refl _) _
  obtain ⟨w1, h1⟩ : ∃ w1, w.alloc (.cells #[.pointer none, .slice (some ⟨g, o, none⟩) 3 cap] 64) = w1 := ⟨_, rfl⟩
  rw [h1]
  obtain ⟨w2, h2⟩ : ∃ w2, w1.alloc (.cells #[.int .i64 0, .slice none 0 0, .int .i64 0, .int .i64 0, .string ⟨#[]⟩, .bool false, .int .i64 0] 62) = w2 := ⟨_, rfl⟩
  rw [h2]
  obtain ⟨w3, h3⟩ : ∃ w3, w2.alloc (.map #[] 0) = w3 := ⟨_, rfl⟩
  rw [h3]
  have e1 : w1.heap.size = w.heap.size + 1 := by rw [← h1]; exact World.size_alloc _ _
  have e2 : w2.heap.size = w.heap.size + 1 + 1 := by rw [← h2, World.size_alloc, e1]
  have e3 : w3.heap.size = w.heap.size + 1 + 1 + 1 := by rw [← h3, World.size_alloc, e2]
  have b1 : Below w.heap.size w w1 := by rw [← h1]; exact k _ _
  have b2 : Below w1.heap.size w1 w2 := by rw [← h2]; exact k _ _
  have b3 : Below w2.heap.size w2 w3 := by rw [← h3]; exact k _ _
  have b4 := k w3 (.cells #[.map (some (w.heap.size + 1 + 1))] 107)
  have z1 := (fun o (h : w.alloc o = w1) => show w1.heap[w.heap.size]? = some o by rw [← h]; exact new_block _ _) _ h1
  have z2 := (fun o (h : w1.alloc o = w2) => show w2.heap[w1.heap.size]? = some o by rw [← h]; exact new_block _ _) _ h2
  have z3 : PlAt w3 w2.heap.size [] := by rw [← h3]; exact ⟨.map [], 0, World.ownsMap_made _ _ _ _, Nat.le_refl _, fun x => ⟨rfl, fun j hj => by cases hj⟩⟩
  have z4 := Boxed.new w3 107 (.map (some (w.heap.size + 1 + 1)))
  rw [e1] at z2
  rw [e2] at z3
  rw [e3] at z4
  exact ⟨((b1.trans (b2.mono (by omega))).trans (b3.mono (by omega))).trans (b4.mono (by omega)), by rw [World.size_alloc, e3]; omega, block_kept (block_kept (block_kept z1 b2) b3) b4, block_kept (block_kept z2 b3) b4, z3.kept (b4.block _ (by omega)), z4⟩
theorem ChAt.shape {w : World} {u : Value} {l : List UInt8} (h : ChAt w u l) : ∃ a cap, u = .slice a l.length cap := by
  rcases h with ⟨rfl, rfl⟩ | ⟨gb, cap, rfl, _⟩
  · exact ⟨_, _, rfl⟩
  · exact ⟨_, _, rfl⟩
/-- What translate has ahead of its range: the others in their box, a builder that is new. -/
structure TrT (w : World) (g o cap bz bq : Nat) (f t : List UInt8) (u : Value) (W : World) : Prop where
  tr : TrS w g o cap bz f W
  low : bz + 4 ≤ bq
  size : bq + 1 < W.heap.size
  row : ChAt W u t
  rlt : ∀ k, u.ownBlock = some k → k < bq
  obox : Boxed W bq 52 u
  bld : IsB (bq + 1) (bq + 1) [] W
theorem tr_mid {w V : World} {g o cap bz : Nat} {f t : List UInt8} {u : Value} (h : TrS w g o cap bz f V) (hc : ChAt V u t) : ∃ V5, (V.alloc (.cells #[u] 52)).alloc (.cells #[.pointer none, .slice none 0 0] 98) = V5 ∧ TrT w g o cap bz V.heap.size f t u V5 := by
  refine ⟨_, rfl, ?_⟩
  have k : ∀ (x : World) (o : Obj), Below x.heap.size x (x.alloc o) := fun x o => (Below.refl _ _).alloc (Nat.le_refl _) _
  have z1 := Boxed.new V 52 u
  have b1 := k V (.cells #[u] 52)
  have e1 := World.size_alloc V (.cells #[u] 52)
  generalize V.alloc (.cells #[u] 52) = V1 at *
  have z2 := new_block V1 (.cells #[.pointer none, .slice none 0 0] 98)
  have b2 := k V1 (.cells #[.pointer none, .slice none 0 0] 98)
  have e2 := World.size_alloc V1 (.cells #[.pointer none, .slice none 0 0] 98)
  generalize V1.alloc (.cells #[.pointer none, .slice none 0 0] 98) = V2 at *
  have b3 := Below.then b1 b2
  rw [e1] at z2
  exact ⟨h.on b3, h.size, by omega, hc.kept b3.size (fun j hj => b3.block j (hc.lt j hj)), fun j hj => hc.lt j hj, (b2.block _ z1.lt).trans z1, .inl ⟨Nat.le_refl _, _, z2, World.ownsRowF_nil _ _ _ _, by simp [Value.ownBlock]⟩⟩
theorem TrT.on {w W W' : World} {g o cap bz bq : Nat} {f t : List UInt8} {u : Value} (h : TrT w g o cap bz bq f t u W) (hb : Below W.heap.size W W') : TrT w g o cap bz bq f t u W' :=
  ⟨h.tr.on hb, h.low, by have := hb.size; have := h.size; omega, h.row.kept hb.size (fun j hj => hb.block j (h.row.lt j hj)), h.rlt, (hb.block _ h.obox.lt).trans h.obox, isB_same h.bld fun k _ _ _ hk _ => hb.block k (Array.getElem?_eq_some_iff.1 hk).1⟩
theorem exBox_own {β : Type} (b : Nat) (t : TypeId) : Own (fun (_ : β) W => ∃ v, Boxed W b t v) := fun s X Y row hs hg hrow => by
  obtain ⟨v, hv⟩ := hs
  refine ⟨v, hv.kept hg fun e => ?_⟩
  obtain ⟨o, ho, hc⟩ := hrow b e.symm
  rw [show X.heap[b]? = _ from hv] at ho
  cases ho
  cases hc
set_option maxRecDepth 100000 in
set_option maxHeartbeats 4000000 in
theorem translate_in (n : Nat) (hn : 5 ≤ n) (g o cap : Nat) (s f t : List UInt8) (l : List PV) (hl : l = [txtP (bsT s), txtP (bsT f), txtP (bsT t)])
    (hs : ∀ x ∈ s, x.toNat < 128) (hf : ∀ x ∈ f, x.toNat < 128) (ht : ∀ x ∈ t, x.toNat < 128) (ls : s.length ≤ 1048576) (lf : f.length ≤ 1048576) (lt : t.length ≤ 1048576) (w : World) (hV : ValsAt w g o l) :
    CallsIn Fence.wide n Tryz.prog 45 #[.agg #[.pointer none, .slice (some ⟨g, o, none⟩) 3 cap]] w fun e W' => e = .returned (.agg #[.int .i64 2, .slice none 0 0, .int .i64 0, .int .i64 0, .string (bsT (trL f t s)), .bool false, .int .i64 0]) ∧ Below w.heap.size w W' := by
  have HT : Hid (∀ W, Below w.heap.size w W → ∀ (i : Nat) (z : ByteArray), l[i]? = some (txtP z) → Calls Tryz.prog 75 #[.agg #[.pointer none, .slice (some ⟨g, o, none⟩) 3 cap], .int .i64 (i : Nat)] W fun e w' => e = .returned (.string z) ∧ Below W.heap.size W w') :=
    hide fun W hb i z hi => text_at W g o 3 cap i z l (hV.on hb) hi (by rw [hl]; rfl)
  have HH : Hid (∀ (s : ByteArray) (w : World), _) := hide fun s w => characters_any s w
  have HA := hide aText_any
  have hmk : ∀ W : World, (Instr.makeMap 107 none).run Tryz.prog W = .ok (.map (some W.heap.size)) (W.alloc (.map #[] 0)) := fun W => rfl
  have HL0 : Hid (l[0]? = some (txtP (bsT s))) := hide (by rw [hl]; rfl)
  have HL1 : Hid (l[1]? = some (txtP (bsT f))) := hide (by rw [hl]; rfl)
  have HL2 : Hid (l[2]? = some (txtP (bsT t))) := hide (by rw [hl]; rfl)
  have HS := hide hs
  have HF := hide hf
  have HTT := hide ht
  clear hV hl hs hf ht
  refine callsIn_of_wp_marks Tryz.func45 rfl trivial ?_ rfl
  simp only [Tryz.ntmps45, List.size_toArray, List.length_cons, List.length_nil, Nat.reduceAdd, Nat.reduceSub, Array.replicate_succ, Array.replicate_zero, List.push_toArray, List.append_toArray, List.nil_append, List.cons_append]
  gi_wp2_with fail
  clear hmk
  obtain ⟨W0, hW0, hS0⟩ := tr_start w g o cap
  rw [hW0]
  clear hW0
  have HS0 := hide hS0
  have hsz := hS0.size
  clear hS0
  generalize hbz : w.heap.size = bz at *
  have HBZ := hide hbz
  clear hbz
  refine ⟨trivial, fun _ => by omega, ?_⟩
  refine (callsIn_wide.2 (unhide HT W0 (unhide HS0).bel 1 _ (unhide HL1))).mono ?_
  rintro e W1 ⟨rfl, hb1⟩
  have HB1 := hide hb1
  clear hb1
  gi_wp2_with fail
  refine ⟨trivial, fun _ => by omega, ?_⟩
  refine (callsIn_wide.2 (unhide HH (bsT f) W1)).mono ?_
  rintro e W2 ⟨rfl, hw2⟩
  have HBX : Hid (Boxed W2 W1.heap.size 9 (.string (bsT f))) := hide (by rw [hw2]; exact Boxed.new _ _ _)
  have HB2 : Hid (Below W1.heap.size W1 W2) := hide (by rw [hw2]; exact (Below.refl _ _).alloc (Nat.le_refl _) _)
  clear hw2
  gi_wp2_with fail
  refine ⟨trivial, fun _ => by omega, ?_⟩
  refine (callsIn_wide.2 (collect_chars W1.heap.size W1.heap.size (Nat.le_refl _) f (unhide HF) lf W2 (unhide HBX))).mono ?_
  rintro e W3 ⟨⟨u, rfl, hu⟩, hb3⟩
  have hS3 := TrS.on (unhide HS0) (Below.then' (Below.then (unhide HB1) (unhide HB2)) hb3 (by have := (unhide HB1).size; omega))
  obtain ⟨hc3, hcb⟩ := chAt_of hu
  obtain ⟨a3, cap3, rfl⟩ := hc3.shape
  have HC3 := hide hc3
  have HCB : Hid (∀ k, (Value.slice a3 f.length cap3).ownBlock = some k → bz + 4 ≤ k) := hide fun k hk => by have h1 := hcb k hk; have h2 := (unhide HB2).size; have h3 := (unhide HB1).size; omega
  have HS3 := hide hS3
  clear hS3 hc3 hcb hb3 hu HBX HB2 HB1 HS0
  have hN : ∃ N : Int, (f.length : Int) = N := ⟨_, rfl⟩
  have HI0 : Hid (Oth (bz + 1 + 1) W3 W3 ∧ PlAt W3 (bz + 1 + 1) (f.take 0)) := hide ⟨Oth.refl _ _, (unhide HS3).places⟩
  gi_wp2_with fail
  gi_loopw [19] (fun i wr => ∃ k : Nat, i = .int .i64 (k : Nat) ∧ k ≤ f.length ∧ Oth (bz + 1 + 1) W3 wr ∧ PlAt wr (bz + 1 + 1) (f.take k)) (fun i _ => f.length - (intOf i).toNat)
  case atStart => exact ⟨0, rfl, Nat.zero_le _, unhide HI0⟩
  case round =>
    clear HI0
    obtain ⟨k, rfl, hk, ho, hp⟩ := hrel
    have hbx := ((unhide HS3).oth ho hp).box.cell
    by_cases hlt : k < f.length
    · obtain ⟨x, hx⟩ : ∃ x, f[k]? = some x := ⟨f[k], List.getElem?_eq_getElem hlt⟩
      have n1 : (0 : Int) ≤ (k : Int) := by omega
      have n2 : (k : Int) < (f.length : Int) := by omega
      have hc4 := (unhide HC3).kept ho.bel.size (fun j hj => ho.blk j ((unhide HC3).lt j hj) (by have := unhide HCB j hj; omega))
      obtain ⟨gb, rfl, hcell⟩ : ∃ gb, a3 = some ⟨gb, 0, none⟩ ∧ wr.cell? ⟨gb, k, none⟩ = some (.string (bsT [x])) := by
        rcases hc4 with ⟨h0, _⟩ | ⟨gb, c', he, _, h2⟩
        · rw [h0] at hlt; cases hlt
        · cases he; exact ⟨gb, rfl, h2 k x hx⟩
      have htk : f.take (k + 1) = f.take k ++ [x] := by rw [List.take_add_one, hx]; rfl
      have HTK := hide htk
      have HO := hide ho
      have HP := hide hp
      obtain ⟨c, hlk, _⟩ := hp.look x
      have hkw := wrap_up k (by omega)
      clear ho hp hc4 htk hx
      by_cases hin : (f.take k).contains x = true
      · rw [hin] at hlk
        gi_wp2
        exact ⟨⟨k + 1, by simp, by omega, unhide HO, by rw [unhide HTK]; exact (unhide HP).known hin⟩, by simp [intOf]; omega⟩
      · have hin' : (f.take k).contains x = false := by simpa using hin
        rw [hin'] at hlk
        obtain ⟨D, m, hD, hm, hh⟩ := unhide HP
        have HD := hide hD
        have hml : m < maxLen := by have := hm; rw [List.length_take] at this; unfold maxLen; omega
        have HKY := hide (bs1_key x)
        have HPE : Hid (plainElem (H := Unit) Tryz.prog 3 (.int .i64 (k : Nat)) = some (.lit (.int .i64 (k : Nat)), [])) := hide (plainElem_int Tryz.underlying3 (wf_i64v (by omega)))
        have HHH := hide hh
        clear hD hh hin
        gi_wp2_with (gi_at_mapUpdate; refine wpListIn_mapUpdate_own _ rfl _ _ _ 107 rfl 9 3 (Maps.string_keyed Tryz.underlying9) Tryz.underlying107 (plainElem Tryz.prog 3) (bz + 1 + 1) m D rfl (unhide HD) hml _ _ (.string [x]) rfl rfl (unhide HKY) (.lit (.int .i64 (k : Nat))) [] (unhide HPE) ?_; intro w6 hown6 hgrow6)
        have hle : (f.take k).length = k := by rw [List.length_take]; omega
        refine ⟨⟨k + 1, by simp, by omega, (unhide HO).grown hgrow6 (by have := (unhide HS3).size; omega), ?_⟩, by simp [intOf]; omega⟩
        rw [unhide HTK]
        exact PlAt.named (unhide HD) hm (unhide HHH) hin' (by rw [hle]; exact hown6)
    · have n2 : ¬ (k : Int) < (f.length : Int) := by omega
      have hkf : k = f.length := by omega
      have hS4 := (unhide HS3).oth ho (by rw [hkf, List.take_length] at hp; exact hp)
      have HS4 := hide hS4
      have hsz4 := hS4.size
      have hcA : wr.cell? ⟨bz, 0, none⟩ = some (.pointer none) := blk_c hS4.args 0
      have hcB : wr.cell? ⟨bz, 1, none⟩ = some (.slice (some ⟨g, o, none⟩) 3 cap) := blk_c hS4.args 1
      clear ho hp hS4 HS3 HC3 HCB hkf
      gi_wp2_with fail
      refine ⟨trivial, fun _ => by omega, ?_⟩
      refine (callsIn_wide.2 (unhide HT wr (unhide HS4).bel 2 _ (unhide HL2))).mono ?_
      rintro e V1 ⟨rfl, hb1⟩
      have HB1 := hide hb1
      clear hb1 hcA hcB
      gi_wp2_with fail
      refine ⟨trivial, fun _ => by omega, ?_⟩
      refine (callsIn_wide.2 (unhide HH (bsT t) V1)).mono ?_
      rintro e V2 ⟨rfl, hw2⟩
      have HBX : Hid (Boxed V2 V1.heap.size 9 (.string (bsT t))) := hide (by rw [hw2]; exact Boxed.new _ _ _)
      have HB2 : Hid (Below V1.heap.size V1 V2) := hide (by rw [hw2]; exact (Below.refl _ _).alloc (Nat.le_refl _) _)
      clear hw2
      gi_wp2_with fail
      refine ⟨trivial, fun _ => by omega, ?_⟩
      refine (callsIn_wide.2 (collect_chars V1.heap.size V1.heap.size (Nat.le_refl _) t (unhide HTT) lt V2 (unhide HBX))).mono ?_
      rintro e V3 ⟨⟨u, rfl, hu⟩, hb3⟩
      have HS5 := hide (TrS.on (unhide HS4) (Below.then' (Below.then (unhide HB1) (unhide HB2)) hb3 (by have := (unhide HB1).size; omega)))
      obtain ⟨hc5, hcb⟩ := chAt_of hu
      obtain ⟨a5, cap5, rfl⟩ := hc5.shape
      obtain ⟨V5, hV5, hT5⟩ := tr_mid (unhide HS5) hc5
      have HT5 := hide hT5
      have hcA : V5.cell? ⟨bz, 0, none⟩ = some (.pointer none) := blk_c hT5.tr.args 0
      have hcB : V5.cell? ⟨bz, 1, none⟩ = some (.slice (some ⟨g, o, none⟩) 3 cap) := blk_c hT5.tr.args 1
      clear hc5 hcb hb3 hu HBX HB2 HB1 HS4 HS5 hT5
      gi_wp2_with fail
      refine ⟨trivial, fun _ => by omega, ?_⟩
      refine (callsIn_wide.2 (unhide HT V5 (unhide HT5).tr.bel 0 _ (unhide HL0))).mono ?_
      rintro e V6 ⟨rfl, hb6⟩
      have hT6 := hide ((unhide HT5).on hb6)
      clear hb6 hcA hcB hV5 HT5
      gi_wp2_with fail
      refine ⟨trivial, fun _ => by omega, ?_⟩
      refine (callsIn_wide.2 (unhide HH (bsT s) V6)).mono ?_
      rintro e V7 ⟨rfl, hw7⟩
      have hbx7 : Boxed V7 V6.heap.size 9 (.string (bsT s)) := by rw [hw7]; exact Boxed.new _ _ _
      have hb67 : Below V6.heap.size V6 V7 := by rw [hw7]; exact (Below.refl _ _).alloc (Nat.le_refl _) _
      have HT7 := hide ((unhide hT6).on hb67)
      clear hb67
      have h67 : V3.heap.size + 1 < V6.heap.size := (unhide hT6).size
      have h77 : V6.heap.size < V7.heap.size := hbx7.lt
      clear hw7 hT6
      generalize V3.heap.size = bq at *
      generalize V6.heap.size = bs6 at *
      gi_wp2_with fail
      refine wpIn_range_cell1 (by omega) (p := 43) (d := 10) (gf := 117) (lb := #[.pointer (some ⟨bs6, 0, none⟩)]) rfl (enters_of Tryz.func117 (by kernel_rfl) rfl)
        (enc := fun x : UInt8 => Value.string (bsT [x])) (chars_seq (n - 1) (by omega) bs6 s (unhide HS)) hbx7
        (fun pre W => (Below (bq + 1) V7 W ∧ IsB (bq + 1) (bq + 1) (Lib.byteCells (trL f t pre)) W) ∧ ∃ v, Boxed W bs6 9 v)
        (OwnFrom.and (OwnFrom.and (ownFrom_below (by omega) (by omega)) (Own.from (isB_own _ _ (fun pre => Lib.byteCells (trL f t pre))) _)) (Own.from (exBox_own _ _) _))
        ?cell ⟨⟨Below.refl _ _, (unhide HT7).bld⟩, _, hbx7⟩ ?assign ?body ?done
      case cell =>
        rintro pre A v ⟨⟨h1, h2⟩, v0, h3⟩
        refine ⟨⟨h1.setCell (p := ⟨bs6, 0, none⟩) (by show bq + 1 ≤ bs6; omega) v, isB_same h2 fun k c t z hk hkt => Below.heap_setCell _ _ _ _ (fun e => ?_)⟩, v, h3.set v⟩
        have e' : k = bs6 := e
        subst e'
        rw [show A.heap[k]? = _ from h3] at hk
        cases hk
        rcases hkt with h | h
        · omega
        · cases h
      case assign =>
        intro l x W K hK
        simp only [List.setIfInBounds_toArray, List.set_cons_succ, List.set_cons_zero] at hK ⊢
        gi_wp2
        exact hK
      case body =>
        rintro l pre x W ⟨⟨hb, hB⟩, v, hv⟩ hlen
        simp only [List.setIfInBounds_toArray, List.set_cons_succ, List.set_cons_zero]
        have hlow := (unhide HT7).low
        have hcb := (show Boxed W (bz + 1 + 1 + 1) 107 (.map (some (bz + 1 + 1))) from (hb.block _ (by omega)).trans (unhide HT7).tr.box).cell
        have hob := (show Boxed W bq 52 (.slice a5 t.length cap5) from (hb.block _ (by omega)).trans (unhide HT7).obox).cell
        have hro := (unhide HT7).row.kept hb.size (fun j hj => hb.block j (by have := (unhide HT7).rlt j hj; omega))
        obtain ⟨c, hlk, hcj⟩ := PlAt.look ((unhide HT7).tr.places.kept (hb.block _ (by omega))) x
        have hbs : bq + 1 ≤ W.heap.size := by have := hb.size; omega
        have hple := trL_le f t pre
        have HW := fun z h2 => writeString_any (bq + 1) (bq + 1) (Lib.byteCells (trL f t pre)) z W hB h2 hbs
        have hWlen : ∀ y : UInt8, (Lib.byteCells (trL f t pre)).length + (bsT [y]).size ≤ 140737488355328 := fun y => by
          rw [bsT_size]; simp [Lib.byteCells]; omega
        have HWW := hide (fun y => HW (bsT [y]) (hWlen y))
        have HB := hide hB
        have HBE := hide hb
        have HV := hide hv
        have HRO := hide hro
        have HFI : Hid (∀ (ys : List UInt8) (W' : World), tr1 f t x = ys → IsB (bq + 1) (bq + 1) (Lib.byteCells (trL f t pre) ++ Lib.byteCells ys) W' → Below (bq + 1) W W' → KeptB (bq + 1) W W' → (KeepsFrom V7.heap.size W W' ∧ W'.heap[bs6]? = W.heap[bs6]? ∧ (Below (bq + 1) V7 W' ∧ IsB (bq + 1) (bq + 1) (Lib.byteCells (trL f t (pre ++ [x]))) W') ∧ ∃ v, Boxed W' bs6 9 v)) := hide fun ys W' e1 e2 e3 e4 => by
          have hkb : W'.heap[bs6]? = W.heap[bs6]? := by
            rw [show W.heap[bs6]? = _ from unhide HV]
            exact e4 bs6 _ (unhide HV) (fun e => by cases e; omega) (fun c fz e => by cases e)
          refine ⟨⟨e3.size, fun k o _ hk ho => e4 k o hk (fun e => ?_) (fun c fz e => by rw [e] at ho; cases ho)⟩, hkb, ⟨(unhide HBE).trans e3, ?_⟩, v, hkb.trans (unhide HV)⟩
          · cases e
            obtain ⟨c, t, z, hz⟩ := isB_block (unhide HB)
            rw [hz] at hk
            cases hk
            cases ho
          · rw [trL_snoc, e1, byte_app]
            exact e2
        clear hb hB hv hro HW hWlen
        rcases hfi : f.findIdx? (· == x) with _ | j
        · have hin : f.contains x = false := by
            rw [List.findIdx?_eq_none_iff] at hfi
            by_cases e : f.contains x = true
            · have := hfi x (by simpa using e); simp at this
            · simpa using e
          have hys : tr1 f t x = [x] := by unfold tr1; rw [hfi]
          rw [hin] at hlk
          have HY := hide hys
          clear hcj hfi hys hin
          gi_wp2_with fail
          refine ⟨trivial, fun _ => by omega, ?_⟩
          refine (callsIn_wide.2 (unhide HWW x)).mono ?_
          rintro e W5 ⟨rfl, h1, h2, h3⟩
          have HE := hide (unhide HFI [x] W5 (unhide HY) (by rw [← str_bsT]; exact h1) h2 h3)
          clear h1 h2 h3
          gi_wp2
          exact unhide HE
        · have hin : f.contains x = true := by
            by_cases e : f.contains x = true
            · exact e
            · have h0 : f.findIdx? (· == x) = none := by
                rw [List.findIdx?_eq_none_iff]
                intro z hz
                by_cases e2 : z = x
                · subst e2; exact absurd (List.contains_iff_mem.2 hz) e
                · simpa using e2
              rw [h0] at hfi; cases hfi
          have hc0 := hcj j hfi
          subst hc0
          rw [hin] at hlk
          by_cases hjt : j < t.length
          · obtain ⟨y, hy⟩ : ∃ y, t[j]? = some y := ⟨t[j], List.getElem?_eq_getElem hjt⟩
            have hys : tr1 f t x = [y] := by unfold tr1; rw [hfi]; simp only [hy]
            have HY := hide hys
            obtain ⟨gb, rfl, hcell⟩ : ∃ gb, a5 = some ⟨gb, 0, none⟩ ∧ W.cell? ⟨gb, j, none⟩ = some (.string (bsT [y])) := by
              rcases unhide HRO with ⟨h0, _⟩ | ⟨gb, c', he, _, h2⟩
              · rw [h0] at hjt; cases hjt
              · cases he; exact ⟨gb, rfl, h2 j y hy⟩
            have n1 : (0 : Int) ≤ (j : Int) := by omega
            have n2 : (j : Int) < (t.length : Int) := by omega
            clear hcj hfi hys hin hy HRO
            gi_wp2_with fail
            refine ⟨trivial, fun _ => by omega, ?_⟩
            refine (callsIn_wide.2 (unhide HWW y)).mono ?_
            rintro e W5 ⟨rfl, h1, h2, h3⟩
            have HE := hide (unhide HFI [y] W5 (unhide HY) (by rw [← str_bsT]; exact h1) h2 h3)
            clear h1 h2 h3
            gi_wp2
            exact unhide HE
          · have hys : tr1 f t x = [] := by unfold tr1; rw [hfi]; simp only [List.getElem?_eq_none (Nat.le_of_not_lt hjt)]
            have HE := hide (unhide HFI [] W hys (by rw [show Lib.byteCells [] = [] from rfl, List.append_nil]; exact unhide HB) (Below.refl _ _) (Lib.OthersKept.refl _ _ _))
            have n2 : ¬ (j : Int) < (t.length : Int) := by omega
            clear hcj hfi hys hin HRO
            gi_wp2
            exact ⟨(unhide HE).1, (unhide HE).2.2⟩
      case done =>
        rintro D W hD ⟨⟨hb, hB⟩, v, hv⟩ hKK
        have HST := hide (Tryz.Builder_String_any_k (bq + 1) (bq + 1) (trL f t s) W hB (by have := hb.size; omega))
        have hDB : D ≠ bq + 1 := fun e => by
          obtain ⟨c, t, z, hz⟩ := isB_block hB
          rw [← e, hKK] at hz
          cases hz
        have HKK := hide hKK
        have HBE := hide hb
        have hlow := (unhide HT7).low
        clear hb hB hv hKK
        gi_wp2_with fail
        refine ⟨trivial, fun _ => by omega, ?_⟩
        refine (callsIn_wide.2 (unhide HST)).mono ?_
        rintro e W5 ⟨rfl, hB5, hb5, ho5⟩
        have HK5 : Hid (W5.heap[D]? = some (.deferred (some []))) := hide (ho5 D _ (unhide HKK) (fun e => hDB (by cases e; rfl)) (fun c fz e => by cases e))
        have HB5 := hide ((unhide HBE).trans hb5)
        clear hB5 hb5 ho5 HST
        gi_wp2_with fail
        refine ⟨trivial, fun _ => by omega, ?_⟩
        refine (callsIn_wide.2 (unhide HA ⟨(trL f t s).toArray⟩ W5)).mono ?_
        rintro e W6 ⟨rfl, hb6⟩
        have h5s : V7.heap.size ≤ W5.heap.size := (unhide HB5).size
        have HK6 : Hid (W6.heap[D]? = some (.deferred (some []))) := hide ((hb6.block D (Array.getElem?_eq_some_iff.1 (unhide HK5)).1).trans (unhide HK5))
        have HB6 := hide ((unhide HB5).trans (hb6.mono (by omega)))
        have ht6 := ((unhide HB6).block (bz + 1) (by omega)).trans (unhide HT7).tr.tell
        have c0 := blk_c ht6 0
        have c1 := blk_c ht6 1
        have c2 := blk_c ht6 2
        have c3 := blk_c ht6 3
        have c4 := blk_c ht6 4
        have c5 := blk_c ht6 5
        have c6 := blk_c ht6 6
        have hfr := blk_o ht6
        have HT6 := hide ht6
        clear ht6 hb6 HK5 HB5
        have hbw : Hid (Below bz w W6) := hide ((unhide HT7).tr.bel.trans ((unhide HB6).mono (by omega)))
        obtain ⟨W7, hW7, hz7, hk7, hb7⟩ := put7 (unhide HT6) (.int .i64 2) (.slice none 0 0) (.int .i64 0) (.int .i64 0) (.string ⟨(trL f t s).toArray⟩) (.bool false) (.int .i64 0)
        have HZ7 := hide hz7
        have HB7 := hide hb7
        have HK7 := hide ((hk7 D (by omega)).trans (unhide HK6))
        clear hz7 hb7 hk7
        gi_wp2
        clear hW7 c0 c1 c2 c3 c4 c5 c6 hfr
        refine ⟨by simp, .inl ⟨_, _, rfl, run_takeDeferred (unhide HK7), ?_⟩⟩
        have hz8 : (W7.putObj D (.deferred none)).heap[bz + 1]? = _ := (World.putObj_heap_other (by omega)).trans (unhide HZ7)
        have hb8 : Below bz w (W7.putObj D (.deferred none)) := ((unhide hbw).trans ((unhide HB7).mono (by omega))).trans (belowK_b (w := V7) (by omega) W7 D _ _ hD (unhide HK7) rfl rfl)
        generalize W7.putObj D (.deferred none) = W8 at *
        have d0 := blk_c hz8 0
        have d1 := blk_c hz8 1
        have d2 := blk_c hz8 2
        have d3 := blk_c hz8 3
        have d4 := blk_c hz8 4
        have d5 := blk_c hz8 5
        have d6 := blk_c hz8 6
        rw [unhide HBZ]
        exact ⟨.agg #[.int .i64 2, .slice none 0 0, .int .i64 0, .int .i64 0, .string ⟨(trL f t s).toArray⟩, .bool false, .int .i64 0], by simp [results, Tryz.results45, go_sem, d0, d1, d2, d3, d4, d5, d6], rfl, hb8⟩
theorem translate_low (g o cap : Nat) (s f t : List UInt8) (l : List PV) (hl : l = [txtP (bsT s), txtP (bsT f), txtP (bsT t)])
    (hs : ∀ x ∈ s, x.toNat < 128) (hf : ∀ x ∈ f, x.toNat < 128) (ht : ∀ x ∈ t, x.toNat < 128) (ls : s.length ≤ 1048576) (lf : f.length ≤ 1048576) (lt : t.length ≤ 1048576) (w : World) (hV : ValsAt w g o l) :
    Calls Tryz.prog 45 #[.agg #[.pointer none, .slice (some ⟨g, o, none⟩) 3 cap]] w fun e W' => e = .returned (.agg #[.int .i64 2, .slice none 0 0, .int .i64 0, .int .i64 0, .string (bsT (trL f t s)), .bool false, .int .i64 0]) ∧ Below w.heap.size w W' :=
  callsIn_wide.1 (translate_in 5 (Nat.le_refl _) g o cap s f t l hl hs hf ht ls lf lt w hV)
end Go.Proofs.YtppkilblkobkhaaGreatDoor
