/- Rows of Kids that grow: xparse's moreSteps, predicates, arguments. -/
import Derived.Test.YthkkfldmoflfaaaGreatDoorGau
namespace Go.Proofs.YthkkfldmoflfaaaGreatDoor
open Go.RowKit Go.Maps
theorem infoExpr : (Tryz.prog.info? 32).map (fun i => (i.zero, i.size, i.bytes)) = some (some (.agg #[.int .i64 0, .string ⟨#[]⟩, .int .i64 0, .int .i64 0, .int .i64 0, .int .i64 0, .slice none 0 0]), 7, 80) := by kernel_rfl
theorem news7 {w : World} {g : Nat} {x : Ex} {v : Value} (h : w.heap[g]? = some (.cells #[.int .i64 (x.op : Nat), .string (T x.text), .int .i64 0, .int .i64 x.num, .int .i64 (x.axis : Nat), .int .i64 (x.test : Nat), v] 32 (0, 0))) : ∀ j u, (exCells x v)[j]? = some u → w.cell? ((⟨g, 0, none⟩ : Addr).add j) = some u := fun j u hu => by
  rw [Addr.add_mid, Nat.zero_add, pcell h j]
  simpa [exCells] using hu
theorem one7 {x : Ex} {a : Option Addr} {n c : Nat} : ∀ u ∈ exCells x (.slice a n c), u.oneCell' = true := fun u hu => by
  simp only [exCells, List.mem_cons, List.not_mem_nil, or_false] at hu
  rcases hu with rfl | rfl | rfl | rfl | rfl | rfl | rfl <;> rfl
/-- Where a loop stands that adds to a row of Kids: v0 is the row that came in, ks0 its Kids. -/
structure RowSt (w wr : World) (p B : Nat) (v0 : Value) (ks0 : List Ex) (xs0 : List Value) (v : Value) (ks : List Ex) (s : PS) : Prop where
  row : ∃ ks1 xs1, ks = ks0 ++ ks1 ∧ KRow wr B v ks (xs0 ++ xs1) ∧ kidsIn wr (fun j => (w.heap.size ≤ j ∧ v.ownBlock ≠ some j) ∧ j < wr.heap.size) ks1 xs1
  at0 : ∀ k, v.ownBlock = some k → v0.ownBlock = some k ∨ w.heap.size ≤ k
  pv : PV wr p s
  kq : Kq (fun j => j = p ∨ v0.ownBlock = some j) w wr
  low : p < w.heap.size
theorem RowSt.ok {w wr : World} {p B : Nat} {v0 v : Value} {xs0 : List Value} {ks0 ks : List Ex} {s : PS} (h : RowSt w wr p B v0 ks0 xs0 v ks s) : KOk w wr B p v0 ks0 xs0 v ks s := ⟨h.row, h.at0, h.pv, h.kq⟩
theorem RowSt.start {w wr : World} {p B : Nat} {v0 : Value} {xs0 : List Value} {ks0 : List Ex} {s : PS} (h : KRow wr B v0 ks0 xs0) (hv : PV wr p s) (hk : Kq (fun j => j = p ∨ v0.ownBlock = some j) w wr) (hp : p < w.heap.size) : RowSt w wr p B v0 ks0 xs0 v0 ks0 s :=
  ⟨⟨[], [], by simp, by simpa using h, by rw [kidsIn]⟩, fun _ h => .inl h, hv, hk, hp⟩
/-- A call on the parser in between. -/
theorem RowSt.go {w wr w' : World} {p B : Nat} {v0 v : Value} {xs0 : List Value} {ks0 ks : List Ex} {s s' : PS} (h : RowSt w wr p B v0 ks0 xs0 v ks s) (hk : Kq (fun j => j = p) wr w') (hv : PV w' p s') (hp : p < B) : RowSt w w' p B v0 ks0 xs0 v ks s' := by
  obtain ⟨ks1, xs1, h0, h1, h2⟩ := h.row
  have hl := h.low
  exact ⟨⟨ks1, xs1, h0, h1.kept hk (fun j _ hj e => by omega), kidsIn.mono (fun j hj => ⟨hj.1, Nat.lt_of_lt_of_le hj.2 hk.size⟩) (fun j o hj ho => blockK hk ho (by have := hj.1.1; omega)) _ _ h2⟩, h.at0, hv, h.kq.andThen hk (fun j _ e => .inl e), hl⟩
theorem RowSt.lows {w wr : World} {p B : Nat} {v0 v : Value} {xs0 : List Value} {ks0 ks : List Ex} {s : PS} (h : RowSt w wr p B v0 ks0 xs0 v ks s) : ∀ j, v.ownBlock = some j → j < wr.heap.size := fun j e => by
  obtain ⟨_, _, _, h1, _⟩ := h.row
  exact (h1.lt j e).2
/-- Behind calls that added to a row. -/
theorem PQ.goR {W0 w wr : World} {p : Nat} {s s' : PS} {v0 : Value} (h : PQ W0 w p s) (hk : Kq (fun j => j = p ∨ v0.ownBlock = some j) w wr) (hv : PV wr p s') (h0 : ∀ j, v0.ownBlock = some j → W0.heap.size ≤ j) : PQ W0 wr p s' :=
  ⟨hv, h.lo, ⟨hk.os.trans h.bel.os, hk.tape.trans h.bel.tape, hk.output.trans h.bel.output, Nat.le_trans h.bel.size hk.size, fun k hk' => by
    rw [hk.block k (Nat.lt_of_lt_of_le hk' h.bel.size) (fun e => e.elim (fun e => by have := h.lo; omega) (fun e => by have := h0 k e; omega))]
    exact h.bel.block k hk'⟩⟩
theorem RowSt.below {w wr w' : World} {p B : Nat} {v0 v : Value} {xs0 : List Value} {ks0 ks : List Ex} {s : PS} (h : RowSt w wr p B v0 ks0 xs0 v ks s) (hb : Below wr.heap.size wr w') (hp : p < B) : RowSt w w' p B v0 ks0 xs0 v ks s := h.go (Kq.of hb) (h.pv.below hb) hp
/-- A Kid more. W: the world with the Kid's copy in a new block. -/
theorem RowSt.add {w W w8 : World} {p B : Nat} {v0 v v8 : Value} {xs0 xs1 : List Value} {ks0 ks1 ks : List Ex} {s : PS} {x : Ex} {vx : Value} (h : RowSt w W p B v0 ks0 xs0 v ks s) (hks : ks = ks0 ++ ks1) (hrow : KRow W B v ks (xs0 ++ xs1)) (hnew : kidsIn W (fun j => (w.heap.size ≤ j ∧ v.ownBlock ≠ some j) ∧ j < W.heap.size) ks1 xs1) (hx : exV W (fun j => (w.heap.size ≤ j ∧ v.ownBlock ≠ some j) ∧ j < W.heap.size) x vx) (hp : p < B) (hB : B ≤ w.heap.size) (hw : w.heap.size ≤ W.heap.size) (hpb : v.ownBlock ≠ some p)
    (ho : w8.ownsRow B 32 7 v8 (ks.length + 1) (xs0 ++ xs1 ++ exCells x vx)) (hg : W.grownBy w8 v.ownBlock) (ha : v8.ownBlock = v.ownBlock ∨ v8.ownBlock = some W.heap.size) : RowSt w w8 p B v0 ks0 xs0 v8 (ks ++ [x]) s := by
  have hk : Kq (fun j => v.ownBlock = some j) W w8 := (Kq.refl _ W).grown hg (fun j e _ => e)
  have hx2 : exIn W (fun j => (B ≤ j ∧ v.ownBlock ≠ some j) ∧ j < W.heap.size) x (exCells x vx) := exIn.mono (fun j hj => ⟨⟨Nat.le_trans hB hj.1.1, hj.1.2⟩, hj.2⟩) (fun _ _ _ h => h) _ _ hx.inn
  have hne : ∀ j, v.ownBlock ≠ some j → j < W.heap.size → v8.ownBlock ≠ some j := fun j h1 h2 e => by
    rcases ha with e2 | e2
    · rw [e2] at e; exact h1 e
    · rw [e2] at e
      have := Option.some.inj e
      omega
  have hat : ∀ k, v8.ownBlock = some k → v0.ownBlock = some k ∨ w.heap.size ≤ k := fun k hk => by
    rcases ha with e | e
    · exact h.at0 k (by rw [← e]; exact hk)
    · rw [e] at hk
      have := Option.some.inj hk
      exact .inr (by omega)
  have hpv : PV w8 p s := by
    obtain ⟨h0, h1, u, h2, h3, ⟨e1, e2⟩ | ⟨g, o, c, e, h4, h5, h6, h7, h8⟩⟩ := h.pv
    · exact ⟨h0, h1, u, blockK hk h2 hpb, h3, .inl ⟨e1, e2⟩⟩
    have hgg : v.ownBlock ≠ some g := fun e2 => by
      have h9 := (hrow.lt g e2).1
      omega
    exact ⟨h0, h1, u, blockK hk h2 hpb, h3, .inr ⟨g, o, c, e, h4, h5, h6, Nat.lt_of_lt_of_le h7 hk.size, fun i y hy => by
      obtain ⟨c0, c1, a, c2⟩ := h8 i y hy
      exact ⟨keptK hk c0 hgg, keptK hk c1 hgg, a, keptK hk c2 hgg⟩⟩⟩
  exact ⟨⟨ks1 ++ [x], xs1 ++ exCells x vx, by rw [hks, List.append_assoc], by rw [← List.append_assoc]; exact hrow.add (kidsIn.single hx2) ho hg ha, kidsIn.mono (fun j hj => ⟨⟨hj.1.1, hne j hj.1.2 hj.2⟩, Nat.lt_of_lt_of_le hj.2 hk.size⟩) (fun j o hj hob => (hg.block j hj.2 (fun e => hj.1.2 e.symm)).trans hob) _ _ (kidsIn.app hnew (kidsIn.single hx.inn))⟩, hat, hpv, h.kq.andThen hk (fun j hj e => .inr ((h.at0 j e).resolve_right (by omega))), h.low⟩
set_option maxRecDepth 100000 in
set_option maxHeartbeats 4000000 in
theorem pmore_step (num : List Nat → Option Int) (W0 : World) (n : Nat) (hS : ∀ m, m ≤ n → StepC num W0 m) : MoreC num W0 (n + 1) := by
  intro p B al0 c0 ks0 xs0 s0 w ksr sr hQ hpB hBs hrow hlen hr
  have HR := hide hr
  have HS := hide hS
  have HST0 : Hid (RowSt w w p B (.slice al0 ks0.length c0) ks0 xs0 (.slice al0 ks0.length c0) ks0 s0) := hide (RowSt.start hrow hQ.pv (Kq.refl _ _) hQ.pv.lt)
  obtain ⟨i0, hi, hz0, hz1, hz2⟩ := info_parts infoExpr
  have HPB := hide hpB
  have HBS := hide hBs
  have HQ := hide hQ
  have HL := hide hlen
  have HV0 := hide (fun j (e : (Value.slice al0 ks0.length c0).ownBlock = some j) => show W0.heap.size ≤ j from by have := (hrow.lt j e).1; have := hQ.lo; omega)
  clear hr hS hQ hpB hBs hrow hlen
  go_enter Tryz.func83, Tryz.ntmps83
  go_wp2_with fail
  go_loopg [1] (n + 1) (fun gk kv wr => gk ≤ n + 1 ∧ ∃ (ks : List Ex) (al : Option Addr) (c : Nat) (s : PS), kv = .slice al ks.length c ∧ ks.length + 2 * gk ≤ 2000000 ∧ Hid (moreP num gk ks s = .ok ksr sr) ∧ Hid (RowSt w wr p B (.slice al0 ks0.length c0) ks0 xs0 (.slice al ks.length c) ks s))
  case atStart => exact ⟨Nat.le_refl _, ks0, al0, c0, s0, rfl, unhide HL, HR, HST0⟩
  case round =>
    obtain ⟨hgn, ks, al, c, s, rfl, hl, HR1, HST⟩ := hrel
    have HGN := hide hgn
    clear hgn HST0 HR HL
    cases gk with
    | zero =>
      have := unhide HR1
      rw [moreP] at this
      cases this
    | succ m =>
      have hr1 := unhide HR1
      rw [moreP] at hr1
      clear HR1
      cases h1 : headIs 8 [47] s with
      | true =>
        rw [h1, if_pos rfl] at hr1
        cases h2 : stepP num m s.pop with
        | out => rw [h2, PR.bind_out] at hr1; cases hr1
        | fail => rw [h2, PR.bind_fail] at hr1; cases hr1
        | ok x s1 =>
          rw [h2, PR.bind_ok] at hr1
          have HR2 := hide hr1
          have HL2 := hide hl
          clear hr1
          go_wp2_with fail
          refine (poperator_at (unhide HST).pv (t := [47]) (okL_p rfl) rfl h1).mono ?_
          rintro e w1 ⟨rfl, r1, r2⟩
          have HST1 := hide ((unhide HST).go r2 r1 (unhide HPB))
          clear r1 r2 HST
          have HC := hide ((unhide HS) m (by have := unhide HGN; omega) p s.pop w1 x s1 ((unhide HQ).goR (unhide HST1).kq (unhide HST1).pv (unhide HV0)) h2)
          go_wp2_with fail
          refine (unhide HC).mono ?_
          rintro e w2 ⟨al2, c2, rfl, r2⟩
          have HST := hide ((unhide HST1).go r2.kq r2.pv (unhide HPB))
          have HX := hide r2
          have hs12 := (unhide HST1).lows
          clear r2 HC

          have hb3 : Below w2.heap.size w2 (w2.alloc (oneB x (.slice al2 x.kids.length c2))) := (Below.refl _ _).alloc (Nat.le_refl _) _
          have hn3 := palloc_new w2 (oneB x (.slice al2 x.kids.length c2))
          have hst3 := (unhide HST).below hb3 (unhide HPB)
          obtain ⟨ks3, xs3, hks3, hrow3, hnew3⟩ := hst3.row
          have hx3 := (((unhide HX).ex.bound.mono (S' := fun j => (w.heap.size ≤ j ∧ (Value.slice al ks.length c).ownBlock ≠ some j) ∧ j < w2.heap.size) (fun j hj => ⟨⟨by have := (unhide HST1).kq.size; omega, fun e => by have := hs12 j e; omega⟩, hj.2⟩) (fun _ _ _ h => h)).kept (Kq.of (S := fun _ => False) hb3) (fun _ _ _ h => h)).mono (S' := fun j => (w.heap.size ≤ j ∧ (Value.slice al ks.length c).ownBlock ≠ some j) ∧ j < (w2.alloc (oneB x (.slice al2 x.kids.length c2))).heap.size) (fun j hj => ⟨hj.1, Nat.lt_of_lt_of_le hj.2 hb3.size⟩) (fun _ _ _ h => h)
          generalize hg3 : w2.heap.size = g3 at hn3
          obtain ⟨W3, e3⟩ : ∃ W3, w2.alloc (oneB x (.slice al2 x.kids.length c2)) = W3 := ⟨_, rfl⟩
          rw [e3] at hb3 hn3 hst3 hrow3 hx3 hnew3
          have HN3 := hide hn3
          have HROW3 := hide hrow3
          have HST3 := hide (And.intro hst3 (And.intro hks3 (And.intro hnew3 hx3)))
          have HBW := hide (show B ≤ W3.heap.size from Nat.le_trans (unhide HBS) (Nat.le_trans (unhide HST).kq.size hb3.size))
          have hpw3 := hst3.pv
          have HPW3 := hide (show (.slice al ks.length c : Value).ownBlock ≠ some p from by obtain ⟨_, _, u, h2, _⟩ := hpw3; exact hrow3.ne h2 (by decide))
          clear hb3 hn3 hst3 hrow3 hks3 hnew3 hx3 hpw3
          go_wp2_with (at_builtin; refine wpList_append_own_at _ rfl _ _ 30 rfl B 32 i0 _ 7 80 Tryz.underlying30 hi hz0 hz1 hz2 rfl (by decide) (.slice al ks.length c) ks.length (xs0 ++ xs3) rfl (unhide HROW3).1 ⟨g3, 0, none⟩ 1 1 (exCells x (.slice al2 x.kids.length c2)) rfl rfl (news7 (unhide HN3)) one7 (by unfold maxLen; omega) (by omega) (unhide HBW) ?_; intro v8 w8 hown8 hgrow8 _ hat8; obtain ⟨a8, b8, rfl⟩ := owns_slice hown8; (have HST8 := hide ((unhide HST3).1.add (unhide HST3).2.1 (unhide HROW3) (unhide HST3).2.2.1 (unhide HST3).2.2.2 (unhide HPB) (unhide HBS) (unhide HST3).1.kq.size (unhide HPW3) hown8 hgrow8 hat8)); clear hown8 hgrow8 hat8)
          clear e3 hg3 HN3 HROW3 HST3 HBW HPW3 HST
          go_roundg m
          case measure => omega
          case rel =>
            have hl2 : (ks ++ [x]).length = ks.length + 1 := by simp
            have h8 := unhide HST8
            rw [← hl2] at h8
            exact ⟨by have := unhide HGN; omega, ks ++ [x], a8, b8, s1, by rw [hl2], by have := unhide HL2; omega, HR2, hide h8⟩
      | false =>
        rw [h1, if_neg (by decide)] at hr1
        cases h3 : headIs 8 [47, 47] s with
        | true =>
          rw [h3, if_pos rfl] at hr1
          cases h2 : stepP num m s.pop with
          | out => rw [h2, PR.bind_out] at hr1; cases hr1
          | fail => rw [h2, PR.bind_fail] at hr1; cases hr1
          | ok x s1 =>
            rw [h2, PR.bind_ok] at hr1
            have HR2 := hide hr1
            have HL2 := hide hl
            clear hr1
            go_wp2_with fail
            refine (poperator_at (unhide HST).pv (t := [47]) (okL_p rfl) rfl h1).mono ?_
            rintro e w1 ⟨rfl, r1, r2⟩
            have HST1 := hide ((unhide HST).go r2 r1 (unhide HPB))
            clear r1 r2 HST
            go_wp2_with fail
            refine (poperator_at (unhide HST1).pv (t := [47, 47]) (okL_p rfl) rfl h3).mono ?_
            rintro e w2 ⟨rfl, r1, r2⟩
            have HST2 := hide ((unhide HST1).go r2 r1 (unhide HPB))
            clear r1 r2 HST1
            go_wp2_with fail
            refine (pbelow_any _).mono ?_
            rintro e w3 ⟨he, hb⟩
            have HST := hide ((unhide HST2).below hb (unhide HPB))
            clear hb HST2
            obtain ⟨bx, hbx⟩ : ∃ bx, belowX = bx := ⟨_, rfl⟩
            have hbk : bx.kids.length = 0 := by rw [← hbx]; rfl
            have HBX : Hid (∀ (w : World) (S : Nat → Prop), exV w S bx (.slice none bx.kids.length 0)) := hide fun w S => ⟨by rw [← hbx]; exact (fun c hc => by cases hc), [], ⟨⟨_, _, rfl, by omega⟩, fun h => by omega⟩, by rw [← hbx]; exact (by rw [show (belowX).kids = [] from rfl, kidsIn])⟩
            have he2 : e = .returned (exAgg bx (.slice none bx.kids.length 0)) := by rw [he, hbk, hbx]
            rw [hbx] at HR2
            clear hbk hbx he
            subst he2
            have hb3 : Below w3.heap.size w3 (w3.alloc (oneB bx (.slice none bx.kids.length 0))) := (Below.refl _ _).alloc (Nat.le_refl _) _
            have hn3 := palloc_new w3 (oneB bx (.slice none bx.kids.length 0))
            have hst3 := (unhide HST).below hb3 (unhide HPB)
            obtain ⟨ks3, xs3, hks3, hrow3, hnew3⟩ := hst3.row
            have hx3 := unhide HBX (w3.alloc (oneB bx (.slice none bx.kids.length 0))) (fun j => (w.heap.size ≤ j ∧ (Value.slice al ks.length c).ownBlock ≠ some j) ∧ j < (w3.alloc (oneB bx (.slice none bx.kids.length 0))).heap.size)
            generalize hg3 : w3.heap.size = g3 at hn3
            obtain ⟨W3, e3⟩ : ∃ W3, w3.alloc (oneB bx (.slice none bx.kids.length 0)) = W3 := ⟨_, rfl⟩
            rw [e3] at hb3 hn3 hst3 hrow3 hx3 hnew3
            have HN3 := hide hn3
            have HROW3 := hide hrow3
            have HST3 := hide (And.intro hst3 (And.intro hks3 (And.intro hnew3 hx3)))
            have HBW := hide (show B ≤ W3.heap.size from Nat.le_trans (unhide HBS) (Nat.le_trans (unhide HST).kq.size hb3.size))
            have hpw3 := hst3.pv
            have HPW3 := hide (show (.slice al ks.length c : Value).ownBlock ≠ some p from by obtain ⟨_, _, u, h2, _⟩ := hpw3; exact hrow3.ne h2 (by decide))
            clear hb3 hn3 hst3 hrow3 hks3 hnew3 hx3 hpw3
            go_wp2_with (at_builtin; refine wpList_append_own_at _ rfl _ _ 30 rfl B 32 i0 _ 7 80 Tryz.underlying30 hi hz0 hz1 hz2 rfl (by decide) (.slice al ks.length c) ks.length (xs0 ++ xs3) rfl (unhide HROW3).1 ⟨g3, 0, none⟩ 1 1 (exCells bx (.slice none bx.kids.length 0)) rfl rfl (news7 (unhide HN3)) one7 (by unfold maxLen; omega) (by omega) (unhide HBW) ?_; intro v8 w8 hown8 hgrow8 _ hat8; obtain ⟨a8, b8, rfl⟩ := owns_slice hown8; (have HST8 := hide ((unhide HST3).1.add (unhide HST3).2.1 (unhide HROW3) (unhide HST3).2.2.1 (unhide HST3).2.2.2 (unhide HPB) (unhide HBS) (unhide HST3).1.kq.size (unhide HPW3) hown8 hgrow8 hat8)); clear hown8 hgrow8 hat8)
            clear e3 hg3 HN3 HROW3 HST3 HBW HPW3 HST
            have hl2 : (ks ++ [bx]).length = ks.length + 1 := by simp
            obtain ⟨ks2, hks2⟩ : ∃ ks2, ks ++ [bx] = ks2 := ⟨_, rfl⟩
            rw [hks2] at hl2 HST8 HR2
            rw [← hl2] at HST8 ⊢
            have HST1 := HST8
            have HL3 := hide hl2
            have hl5 : ks2.length ≤ 2000000 := by omega
            clear HST8 hks2 hl2 hl
            have HC := hide ((unhide HS) m (by have := unhide HGN; omega) p s.pop w8 x s1 ((unhide HQ).goR (unhide HST1).kq (unhide HST1).pv (unhide HV0)) h2)
            go_wp2_with fail
            refine (unhide HC).mono ?_
            rintro e w9 ⟨al2, c2, rfl, r2⟩
            have HST := hide ((unhide HST1).go r2.kq r2.pv (unhide HPB))
            have HX := hide r2
            have hs12 := (unhide HST1).lows
            clear r2 HC
            have hb3 : Below w9.heap.size w9 (w9.alloc (oneB x (.slice al2 x.kids.length c2))) := (Below.refl _ _).alloc (Nat.le_refl _) _
            have hn3 := palloc_new w9 (oneB x (.slice al2 x.kids.length c2))
            have hst3 := (unhide HST).below hb3 (unhide HPB)
            obtain ⟨ks3, xs3, hks3, hrow3, hnew3⟩ := hst3.row
            have hx3 := (((unhide HX).ex.bound.mono (S' := fun j => (w.heap.size ≤ j ∧ (Value.slice a8 ks2.length b8).ownBlock ≠ some j) ∧ j < w9.heap.size) (fun j hj => ⟨⟨by have := (unhide HST1).kq.size; omega, fun e => by have := hs12 j e; omega⟩, hj.2⟩) (fun _ _ _ h => h)).kept (Kq.of (S := fun _ => False) hb3) (fun _ _ _ h => h)).mono (S' := fun j => (w.heap.size ≤ j ∧ (Value.slice a8 ks2.length b8).ownBlock ≠ some j) ∧ j < (w9.alloc (oneB x (.slice al2 x.kids.length c2))).heap.size) (fun j hj => ⟨hj.1, Nat.lt_of_lt_of_le hj.2 hb3.size⟩) (fun _ _ _ h => h)
            generalize hg3 : w9.heap.size = g3 at hn3
            obtain ⟨W3, e3⟩ : ∃ W3, w9.alloc (oneB x (.slice al2 x.kids.length c2)) = W3 := ⟨_, rfl⟩
            rw [e3] at hb3 hn3 hst3 hrow3 hx3 hnew3
            have HN3 := hide hn3
            have HROW3 := hide hrow3
            have HST3 := hide (And.intro hst3 (And.intro hks3 (And.intro hnew3 hx3)))
            have HBW := hide (show B ≤ W3.heap.size from Nat.le_trans (unhide HBS) (Nat.le_trans (unhide HST).kq.size hb3.size))
            have hpw3 := hst3.pv
            have HPW3 := hide (show (.slice a8 ks2.length b8 : Value).ownBlock ≠ some p from by obtain ⟨_, _, u, h2, _⟩ := hpw3; exact hrow3.ne h2 (by decide))
            clear hb3 hn3 hst3 hrow3 hks3 hnew3 hx3 hpw3
            go_wp2_with (at_builtin; refine wpList_append_own_at _ rfl _ _ 30 rfl B 32 i0 _ 7 80 Tryz.underlying30 hi hz0 hz1 hz2 rfl (by decide) (.slice a8 ks2.length b8) ks2.length (xs0 ++ xs3) rfl (unhide HROW3).1 ⟨g3, 0, none⟩ 1 1 (exCells x (.slice al2 x.kids.length c2)) rfl rfl (news7 (unhide HN3)) one7 (by unfold maxLen; omega) (by omega) (unhide HBW) ?_; intro v8 w10 hown8 hgrow8 _ hat8; obtain ⟨a9, b9, rfl⟩ := owns_slice hown8; (have HST8 := hide ((unhide HST3).1.add (unhide HST3).2.1 (unhide HROW3) (unhide HST3).2.2.1 (unhide HST3).2.2.2 (unhide HPB) (unhide HBS) (unhide HST3).1.kq.size (unhide HPW3) hown8 hgrow8 hat8)); clear hown8 hgrow8 hat8)
            clear e3 hg3 HN3 HROW3 HST3 HBW HPW3 HST
            go_roundg m
            case measure => omega
            case rel =>
              have hl2 : (ks2 ++ [x]).length = ks2.length + 1 := by simp
              have h8 := unhide HST8
              rw [← hl2] at h8
              exact ⟨by have := unhide HGN; omega, ks2 ++ [x], a9, b9, s1, by rw [hl2], by have := unhide HL2; have := unhide HL3; omega, HR2, hide h8⟩
        | false =>
          rw [h3, if_neg (by decide)] at hr1
          obtain ⟨e1, e2⟩ : ks = ksr ∧ s = sr := by cases hr1; exact ⟨rfl, rfl⟩
          subst e1 e2
          clear hr1
          go_wp2_with fail
          refine (poperator_at (unhide HST).pv (t := [47]) (okL_p rfl) rfl h1).mono ?_
          rintro e w1 ⟨rfl, r1, r2⟩
          have HST1 := hide ((unhide HST).go r2 r1 (unhide HPB))
          clear r1 r2 HST
          go_wp2_with fail
          refine (poperator_at (unhide HST1).pv (t := [47, 47]) (okL_p rfl) rfl h3).mono ?_
          rintro e w2 ⟨rfl, r1, r2⟩
          have HST2 := hide ((unhide HST1).go r2 r1 (unhide HPB))
          clear r1 r2 HST1
          go_wp2_with fail
          go_returns
          exact ⟨_, _, rfl, (unhide HST2).ok⟩
set_option maxRecDepth 100000 in
set_option maxHeartbeats 4000000 in
theorem ppreds_step (num : List Nat → Option Int) (W0 : World) (n : Nat) (hE : ∀ m, m ≤ n → ExprC num W0 m) : PredsC num W0 (n + 1) := by
  intro p B al0 c0 ks0 xs0 s0 w ksr sr hQ hpB hBs hrow hlen hr
  have HR := hide hr
  have HS := hide hE
  have HST0 : Hid (RowSt w w p B (.slice al0 ks0.length c0) ks0 xs0 (.slice al0 ks0.length c0) ks0 s0) := hide (RowSt.start hrow hQ.pv (Kq.refl _ _) hQ.pv.lt)
  obtain ⟨i0, hi, hz0, hz1, hz2⟩ := info_parts infoExpr
  have HPB := hide hpB
  have HBS := hide hBs
  have HQ := hide hQ
  have HL := hide hlen
  have HV0 := hide (fun j (e : (Value.slice al0 ks0.length c0).ownBlock = some j) => show W0.heap.size ≤ j from by have := (hrow.lt j e).1; have := hQ.lo; omega)
  clear hr hE hQ hpB hBs hrow hlen
  go_enter Tryz.func112, Tryz.ntmps112
  go_wp2_with fail
  go_loopg [1] (n + 1) (fun gk kv wr => gk ≤ n + 1 ∧ ∃ (ks : List Ex) (al : Option Addr) (c : Nat) (s : PS), kv = .slice al ks.length c ∧ ks.length + 2 * gk ≤ 2000000 ∧ Hid (predsP num gk ks s = .ok ksr sr) ∧ Hid (RowSt w wr p B (.slice al0 ks0.length c0) ks0 xs0 (.slice al ks.length c) ks s))
  case atStart => exact ⟨Nat.le_refl _, ks0, al0, c0, s0, rfl, unhide HL, HR, HST0⟩
  case round =>
    obtain ⟨hgn, ks, al, c, s, rfl, hl, HR1, HST⟩ := hrel
    have HGN := hide hgn
    clear hgn HST0 HR HL
    cases gk with
    | zero =>
      have := unhide HR1
      rw [predsP] at this
      cases this
    | succ m =>
      have hr1 := unhide HR1
      rw [predsP] at hr1
      clear HR1
      cases h1 : headIs 9 [91] s with
      | true =>
        rw [h1, if_pos rfl] at hr1
        cases h2 : exprP num m 0 s.pop with
        | out => rw [h2, PR.bind_out] at hr1; cases hr1
        | fail => rw [h2, PR.bind_fail] at hr1; cases hr1
        | ok x s1 =>
          rw [h2, PR.bind_ok] at hr1
          cases h3 : headIs 9 [93] s1 with
          | false => rw [h3, if_neg (by decide)] at hr1; cases hr1
          | true =>
            rw [h3, if_pos rfl] at hr1
            have HR2 := hide hr1
            have HL2 := hide hl
            clear hr1
            go_wp2_with fail
            refine (psign_at (unhide HST).pv (t := [91]) (okL_p rfl) rfl h1).mono ?_
            rintro e w1 ⟨rfl, r1, r2⟩
            have HST1 := hide ((unhide HST).go r2 r1 (unhide HPB))
            clear r1 r2 HST
            have HC := hide ((unhide HS) m (by have := unhide HGN; omega) p 0 0 s.pop w1 x s1 rfl (by decide) ((unhide HQ).goR (unhide HST1).kq (unhide HST1).pv (unhide HV0)) h2)
            go_wp2_with fail
            refine (unhide HC).mono ?_
            rintro e w2 ⟨al2, c2, rfl, r2⟩
            have HST := hide ((unhide HST1).go r2.kq r2.pv (unhide HPB))
            have HX := hide r2
            have hs12 := (unhide HST1).lows
            clear r2 HC
            have hb3 : Below w2.heap.size w2 (w2.alloc (oneB x (.slice al2 x.kids.length c2))) := (Below.refl _ _).alloc (Nat.le_refl _) _
            have hn3 := palloc_new w2 (oneB x (.slice al2 x.kids.length c2))
            have hst3 := (unhide HST).below hb3 (unhide HPB)
            obtain ⟨ks3, xs3, hks3, hrow3, hnew3⟩ := hst3.row
            have hx3 := (((unhide HX).ex.bound.mono (S' := fun j => (w.heap.size ≤ j ∧ (Value.slice al ks.length c).ownBlock ≠ some j) ∧ j < w2.heap.size) (fun j hj => ⟨⟨by have := (unhide HST1).kq.size; omega, fun e => by have := hs12 j e; omega⟩, hj.2⟩) (fun _ _ _ h => h)).kept (Kq.of (S := fun _ => False) hb3) (fun _ _ _ h => h)).mono (S' := fun j => (w.heap.size ≤ j ∧ (Value.slice al ks.length c).ownBlock ≠ some j) ∧ j < (w2.alloc (oneB x (.slice al2 x.kids.length c2))).heap.size) (fun j hj => ⟨hj.1, Nat.lt_of_lt_of_le hj.2 hb3.size⟩) (fun _ _ _ h => h)
            generalize hg3 : w2.heap.size = g3 at hn3
            obtain ⟨W3, e3⟩ : ∃ W3, w2.alloc (oneB x (.slice al2 x.kids.length c2)) = W3 := ⟨_, rfl⟩
            rw [e3] at hb3 hn3 hst3 hrow3 hx3 hnew3
            have HN3 := hide hn3
            have HROW3 := hide hrow3
            have HST3 := hide (And.intro hst3 (And.intro hks3 (And.intro hnew3 hx3)))
            have HBW := hide (show B ≤ W3.heap.size from Nat.le_trans (unhide HBS) (Nat.le_trans (unhide HST).kq.size hb3.size))
            have hpw3 := hst3.pv
            have HPW3 := hide (show (.slice al ks.length c : Value).ownBlock ≠ some p from by obtain ⟨_, _, u, h2, _⟩ := hpw3; exact hrow3.ne h2 (by decide))
            clear hb3 hn3 hst3 hrow3 hks3 hnew3 hx3 hpw3
            go_wp2_with (at_builtin; refine wpList_append_own_at _ rfl _ _ 30 rfl B 32 i0 _ 7 80 Tryz.underlying30 hi hz0 hz1 hz2 rfl (by decide) (.slice al ks.length c) ks.length (xs0 ++ xs3) rfl (unhide HROW3).1 ⟨g3, 0, none⟩ 1 1 (exCells x (.slice al2 x.kids.length c2)) rfl rfl (news7 (unhide HN3)) one7 (by unfold maxLen; omega) (by omega) (unhide HBW) ?_; intro v8 w8 hown8 hgrow8 _ hat8; obtain ⟨a8, b8, rfl⟩ := owns_slice hown8; (have HST8 := hide ((unhide HST3).1.add (unhide HST3).2.1 (unhide HROW3) (unhide HST3).2.2.1 (unhide HST3).2.2.2 (unhide HPB) (unhide HBS) (unhide HST3).1.kq.size (unhide HPW3) hown8 hgrow8 hat8)); clear hown8 hgrow8 hat8)
            clear e3 hg3 HN3 HROW3 HST3 HBW HPW3 HST
            refine (pneed_at (unhide HST8).pv (t := [93]) (okL_p rfl) rfl h3).mono ?_
            rintro e w9 ⟨rfl, r1, r2⟩
            have HST9 := hide ((unhide HST8).go r2 r1 (unhide HPB))
            clear r1 r2 HST8
            go_wp2_with fail
            go_roundg m
            case measure => omega
            case rel =>
              have hl2 : (ks ++ [x]).length = ks.length + 1 := by simp
              have h8 := unhide HST9
              rw [← hl2] at h8
              exact ⟨by have := unhide HGN; omega, ks ++ [x], a8, b8, s1.pop, by rw [hl2], by have := unhide HL2; omega, HR2, hide h8⟩
      | false =>
        rw [h1, if_neg (by decide)] at hr1
        obtain ⟨e1, e2⟩ : ks = ksr ∧ s = sr := by cases hr1; exact ⟨rfl, rfl⟩
        subst e1 e2
        clear hr1
        go_wp2_with fail
        refine (psign_at (unhide HST).pv (t := [91]) (okL_p rfl) rfl h1).mono ?_
        rintro e w1 ⟨rfl, r1, r2⟩
        have HST1 := hide ((unhide HST).go r2 r1 (unhide HPB))
        clear r1 r2 HST
        go_wp2_with fail
        go_returns
        exact ⟨_, _, rfl, (unhide HST1).ok⟩
set_option maxRecDepth 100000 in
set_option maxHeartbeats 4000000 in
theorem pargs_step (num : List Nat → Option Int) (W0 : World) (n : Nat) (hn : n ≤ 90000) (hE : ∀ m, m ≤ n → ExprC num W0 m) : ArgsC num W0 (n + 1) := by
  intro p s0 w ksr sr hQ hr
  have HS := hide hE
  have HQ := hide hQ
  have HPB := hide hQ.pv.lt
  have HBS := hide (Nat.le_refl w.heap.size)
  have HPV := hide hQ.pv
  obtain ⟨i0, hi, hz0, hz1, hz2⟩ := info_parts infoExpr
  have HV0 := hide (fun j (e : (Value.slice none 0 0).ownBlock = some j) => show W0.heap.size ≤ j from by cases e)
  rw [argsP] at hr
  clear hE hQ
  cases h0 : headIs 9 [40] s0 with
  | false => rw [h0, if_neg (by decide)] at hr; cases hr
  | true =>
    rw [h0, if_pos rfl] at hr
    cases h1 : headIs 9 [41] s0.pop with
    | true =>
      rw [h1, if_pos rfl] at hr
      cases hr
      go_enter Tryz.func132, Tryz.ntmps132
      go_wp2_with fail
      refine (pneed_at (unhide HPV) (t := [40]) (okL_p rfl) rfl h0).mono ?_
      rintro e w1 ⟨rfl, r1, r2⟩
      have HPV1 := hide r1
      have HK1 := hide r2
      clear r1 r2
      go_wp2_with fail
      refine (psign_at (unhide HPV1) (t := [41]) (okL_p rfl) rfl h1).mono ?_
      rintro e w2 ⟨rfl, r1, r2⟩
      have HPV2 : Hid (PV w2 p s0.pop.pop) := hide r1
      have HK2 := hide ((unhide HK1).andThen r2 (fun _ _ h => h))
      clear r1 r2
      go_wp2_with fail
      go_returns
      exact ⟨none, 0, rfl, (RowSt.start (KRow.nil _ _) (unhide HPV2) ((unhide HK2).more (fun _ _ h => .inl h)) (unhide HPB)).ok⟩
    | false =>
      rw [h1, if_neg (by decide)] at hr
      have HR := hide hr
      clear hr
      go_enter Tryz.func132, Tryz.ntmps132
      go_wp2_with fail
      refine (pneed_at (unhide HPV) (t := [40]) (okL_p rfl) rfl h0).mono ?_
      rintro e w1 ⟨rfl, r1, r2⟩
      have HPV1 := hide r1
      have HK1 := hide r2
      clear r1 r2
      go_wp2_with fail
      refine (psign_at (unhide HPV1) (t := [41]) (okL_p rfl) rfl h1).mono ?_
      rintro e w2 ⟨rfl, r1, r2⟩
      have HPV2 : Hid (PV w2 p s0.pop) := hide r1
      have HK2 := hide ((unhide HK1).andThen r2 (fun _ _ h => h))
      clear r1 r2
      have HST0 : Hid (RowSt w w2 p w.heap.size (.slice none 0 0) [] [] (.slice none 0 0) [] s0.pop) := hide (RowSt.start (KRow.nil _ _) (unhide HPV2) ((unhide HK2).more (fun _ _ h => .inl h)) (unhide HPB))
      generalize hB : w.heap.size = B at HPB HBS HST0 ⊢
      have HB := hide hB
      clear hB
      go_wp2_with fail
      go_loopg [3] n (fun gk kv wr => gk ≤ n ∧ ∃ (ks : List Ex) (al : Option Addr) (c : Nat) (s : PS), kv = .slice al ks.length c ∧ ks.length + 2 * gk ≤ 2000000 ∧ Hid (argsGoP num gk ks s = .ok ksr sr) ∧ Hid (RowSt w wr p B (.slice none 0 0) [] [] (.slice al ks.length c) ks s))
      case atStart => exact ⟨Nat.le_refl _, [], none, 0, s0.pop, rfl, by simp; omega, HR, HST0⟩
      case round =>
        obtain ⟨hgn, ks, al, c, s, rfl, hl, HR1, HST⟩ := hrel
        have HGN := hide hgn
        clear hgn HST0 HR
        cases gk with
        | zero =>
          have := unhide HR1
          rw [argsGoP] at this
          cases this
        | succ m =>
          have hr1 := unhide HR1
          rw [argsGoP] at hr1
          clear HR1
          cases h2 : exprP num m 0 s with
          | out => rw [h2, PR.bind_out] at hr1; cases hr1
          | fail => rw [h2, PR.bind_fail] at hr1; cases hr1
          | ok x s1 =>
            rw [h2, PR.bind_ok] at hr1
            have HL2 := hide hl
            have HR2 := hide hr1
            clear hr1
            have HST1 := HST
            have HC := hide ((unhide HS) m (by have := unhide HGN; omega) p 0 0 s wr x s1 rfl (by decide) ((unhide HQ).goR (unhide HST1).kq (unhide HST1).pv (unhide HV0)) h2)
            clear HST
            go_wp2_with fail
            refine (unhide HC).mono ?_
            rintro e w2 ⟨al2, c2, rfl, r2⟩
            have HST := hide ((unhide HST1).go r2.kq r2.pv (unhide HPB))
            have HX := hide r2
            have hs12 := (unhide HST1).lows
            clear r2 HC
            have hb3 : Below w2.heap.size w2 (w2.alloc (oneB x (.slice al2 x.kids.length c2))) := (Below.refl _ _).alloc (Nat.le_refl _) _
            have hn3 := palloc_new w2 (oneB x (.slice al2 x.kids.length c2))
            have hst3 := (unhide HST).below hb3 (unhide HPB)
            obtain ⟨ks3, xs3, hks3, hrow3, hnew3⟩ := hst3.row
            have hx3 := (((unhide HX).ex.bound.mono (S' := fun j => (w.heap.size ≤ j ∧ (Value.slice al ks.length c).ownBlock ≠ some j) ∧ j < w2.heap.size) (fun j hj => ⟨⟨by have := (unhide HST1).kq.size; omega, fun e => by have := hs12 j e; omega⟩, hj.2⟩) (fun _ _ _ h => h)).kept (Kq.of (S := fun _ => False) hb3) (fun _ _ _ h => h)).mono (S' := fun j => (w.heap.size ≤ j ∧ (Value.slice al ks.length c).ownBlock ≠ some j) ∧ j < (w2.alloc (oneB x (.slice al2 x.kids.length c2))).heap.size) (fun j hj => ⟨hj.1, Nat.lt_of_lt_of_le hj.2 hb3.size⟩) (fun _ _ _ h => h)
            generalize hg3 : w2.heap.size = g3 at hn3
            obtain ⟨W3, e3⟩ : ∃ W3, w2.alloc (oneB x (.slice al2 x.kids.length c2)) = W3 := ⟨_, rfl⟩
            rw [e3] at hb3 hn3 hst3 hrow3 hx3 hnew3
            have HN3 := hide hn3
            have HROW3 := hide hrow3
            have HST3 := hide (And.intro hst3 (And.intro hks3 (And.intro hnew3 hx3)))
            have HBW := hide (show B ≤ W3.heap.size from by have h1 := unhide HB; have h2 := (unhide HST).kq.size; have h3 := hb3.size; omega)
            have hpw3 := hst3.pv
            have HPW3 := hide (show (.slice al ks.length c : Value).ownBlock ≠ some p from by obtain ⟨_, _, u, h2, _⟩ := hpw3; exact hrow3.ne h2 (by decide))
            clear hb3 hn3 hst3 hrow3 hks3 hnew3 hx3 hpw3
            go_wp2_with (at_builtin; refine wpList_append_own_at _ rfl _ _ 30 rfl B 32 i0 _ 7 80 Tryz.underlying30 hi hz0 hz1 hz2 rfl (by decide) (.slice al ks.length c) ks.length (([] : List Value) ++ xs3) rfl (unhide HROW3).1 ⟨g3, 0, none⟩ 1 1 (exCells x (.slice al2 x.kids.length c2)) rfl rfl (news7 (unhide HN3)) one7 (by unfold maxLen; omega) (by omega) (unhide HBW) ?_; intro v8 w8 hown8 hgrow8 _ hat8; obtain ⟨a8, b8, rfl⟩ := owns_slice hown8; (have HST8 := hide ((unhide HST3).1.add (unhide HST3).2.1 (unhide HROW3) (unhide HST3).2.2.1 (unhide HST3).2.2.2 (unhide HPB) (by have h1 := unhide HB; omega) (unhide HST3).1.kq.size (unhide HPW3) hown8 hgrow8 hat8)); clear hown8 hgrow8 hat8)
            clear e3 hg3 HN3 HROW3 HST3 HBW HPW3 HST
            have hl2 : (ks ++ [x]).length = ks.length + 1 := by simp
            have h8 := unhide HST8
            rw [← hl2] at h8
            have HST9 := hide h8
            have HLL := hide hl2
            clear h8 HST8 hl2
            cases h3 : headIs 9 [44] s1 with
            | true =>
              have hr2 := unhide HR2
              rw [h3, if_pos rfl] at hr2
              have HR3 := hide hr2
              clear hr2 HR2
              refine (psign_at (unhide HST9).pv (t := [44]) (okL_p rfl) rfl h3).mono ?_
              rintro e w9 ⟨rfl, r1, r2⟩
              have HST10 := hide ((unhide HST9).go r2 r1 (unhide HPB))
              clear r1 r2 HST9
              go_wp2_with fail
              go_roundg m
              case measure => omega
              case rel => exact ⟨by have := unhide HGN; omega, ks ++ [x], a8, b8, s1.pop, by rw [unhide HLL], by have := unhide HL2; have := unhide HLL; omega, HR3, HST10⟩
            | false =>
              have hr2 := unhide HR2
              rw [h3, if_neg (by decide)] at hr2
              cases h4 : headIs 9 [41] s1 with
              | false => rw [h4, if_neg (by decide)] at hr2; cases hr2
              | true =>
                rw [h4, if_pos rfl] at hr2
                obtain ⟨e1, e2⟩ : ks ++ [x] = ksr ∧ s1.pop = sr := by cases hr2; exact ⟨rfl, rfl⟩
                subst e1 e2
                clear hr2 HR2
                refine (psign_at (unhide HST9).pv (t := [44]) (okL_p rfl) rfl h3).mono ?_
                rintro e w9 ⟨rfl, r1, r2⟩
                have HST10 := hide ((unhide HST9).go r2 r1 (unhide HPB))
                clear r1 r2 HST9
                go_wp2_with fail
                refine (pneed_at (unhide HST10).pv (t := [41]) (okL_p rfl) rfl h4).mono ?_
                rintro e w10 ⟨rfl, r1, r2⟩
                have HST11 := hide ((unhide HST10).go r2 r1 (unhide HPB))
                clear r1 r2 HST10
                go_wp2_with fail
                go_returns
                exact ⟨a8, b8, by rw [unhide HLL]; rfl, by rw [unhide HB]; exact (unhide HST11).ok⟩
end Go.Proofs.YthkkfldmoflfaaaGreatDoor
