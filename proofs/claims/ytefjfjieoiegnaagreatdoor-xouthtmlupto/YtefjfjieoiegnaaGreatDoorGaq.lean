/- Several texts, laid as one. -/
import Derived.Test.YtefjfjieoiegnaaGreatDoorGap
/- Every reference and every entity's text, all the way down: xmlscan's add. -/
namespace Go.Proofs.YtefjfjieoiegnaaGreatDoor
open Go.RowKit
theorem spendX_err {opn : List (List Nat)} {sp n k : Nat} (h : spendX opn sp n = .error k) : k ≠ 0 := by
  unfold spendX at h
  split at h
  · cases h
  · split at h
    · cases h; decide
    · cases h
theorem textX_err {add : Nat → Ref → Except Nat (List Nat × Nat)} {flat : Bool} {opn : List (List Nat)} (hadd : ∀ s r k, add s r = .error k → k ≠ 0) :
    ∀ (f sp : Nat) (l : List Nat) (k : Nat), textX add flat opn f sp l = .error k → k ≠ 0
  | 0, sp, l, k, h => by
    unfold textX at h
    cases h
  | f + 1, sp, l, k, h => by
    unfold textX at h
    split at h
    · cases h
    · simp only at h
      split at h
      · rename_i e h1
        cases h
        exact spendX_err h1
      · split at h
        · cases h
        · split at h
          · cases h; decide
          · split at h
            · rename_i e h2
              cases h
              exact hadd _ _ _ h2
            · split at h
              · rename_i e h3
                cases h
                exact textX_err hadd f _ _ _ h3
              · cases h
theorem addX_err {ents : List (List Nat × List Nat)} {flat : Bool} :
    ∀ (d : Nat) (opn : List (List Nat)) (sp : Nat) (r : Ref) (k : Nat), addX ents flat d opn sp r = .error k → k ≠ 0
  | 0, opn, sp, r, k, h => by
    unfold addX at h
    cases h
    decide
  | d + 1, opn, sp, r, k, h => by
    unfold addX at h
    split at h
    · split at h
      · rename_i e h1
        cases h
        exact spendX_err h1
      · cases h
    · split at h
      · cases h; decide
      · split at h
        · cases h; decide
        · split at h
          · rename_i e h1
            cases h
            exact spendX_err h1
          · exact textX_err (fun s r' k' h' => addX_err d (opn ++ [r.name]) s r' k' h') _ _ _ _ h
/-- add, whatever is declared and whatever is open. -/
theorem add_all (C B q p m : Nat) (flat : Bool) (ents : List (List Nat × List Nat)) (D : Nat) (hC : D ≤ C) (hp0 : D ≤ p) (he : ∀ x ∈ ents, okL x.2 ∧ (T x.2).size ≤ 32768) :
    ∀ (d : Nat) (opn : List (List Nat)), d + opn.length = 10 → ∀ (vt vo : Value) (tt : List Nat) (sp : Nat) (c : Array Value) (r : Ref) (n : Nat) (w : World),
      ExpS w C B q p m flat vt vo tt opn sp ents c → ExpOk tt opn sp ents → okL r.said → (T r.said).size ≤ 4 → okL r.name → (T r.name).size ≤ 100000 → XEnv D w →
      Calls Tryz.prog 140 #[.pointer (some ⟨q, 0, none⟩), .agg #[.string (T r.said), .string (T r.name), .int .i64 (n : Nat)]] w fun e w' =>
        AddOut (addX ents flat d opn sp r) C B q p m flat vt vo tt opn ents c e w w'
  | 0, opn, hd, vt, vo, tt, sp, c, r, n, w, S, hX, _, _, _, _, _ => by
    have := hX.len
    omega
  | d + 1, opn, hd, vt, vo, tt, sp, c, r, n, w, S, hX, h1, h2, h3, h4, hB => by
    refine add_any d C B q p m flat vt vo tt opn sp ents c r n w S hX h1 h2 h3 h4 ?_
    intro t ht W vt1 vo1 sp1 c1 S1 hX1 h8 hK
    have hmem : okL t ∧ (T t).size ≤ 32768 := by
      unfold entX at ht
      obtain ⟨y, hy, rfl⟩ := Option.map_eq_some_iff.1 ht
      exact he y (List.mem_of_find?_eq_some hy)
    have hBW : XEnv D W := hB.low (hK.low (Nat.le_trans (Nat.le_trans hC S.lo) (Nat.le_of_lt (Array.getElem?_eq_some_iff.1 S.blk).1)) (Nat.le_trans hC S.lo) hp0 (fun k hk => Nat.le_trans hC (S.txt.lt k hk).1) (fun k hk => Nat.le_trans hC (S.opn.lt k hk).1))
    have hl : d + (opn ++ [r.name]).length = 10 := by rw [List.length_append]; show d + (opn.length + 1) = 10; omega
    refine addText_any C B q p m flat vt1 vo1 tt (opn ++ [r.name]) sp1 ents c1 t W D S1 hX1 (by simp) hmem.1 hmem.2 hBW hC hp0 (addX ents flat d (opn ++ [r.name])) ?_ ?_ (fun s r' k h => addX_err d _ s r' k h) ?_
    · intro s
      obtain ⟨d', rfl⟩ : ∃ d', d = d' + 1 := ⟨d - 1, by omega⟩
      unfold addX
      rw [if_neg (fun h => h rfl)]
      have : entX ents [] = none := entX_none fun y hy => hX.some y hy
      simp only [this]
    · exact fun s r' t' s' hs h => addX_len (fun x hx => (he x hx).1) d (opn ++ [r.name]) s r' t' s' (by simp) hs h
    · intro W2 vt2 vo2 tt2 sp2 c2 r2 n2 S2 hX2 k1 k2 k3 k4 hB2
      exact add_all C B q p m flat ents D hC hp0 he d (opn ++ [r.name]) hl vt2 vo2 tt2 sp2 c2 r2 n2 W2 S2 hX2 k1 k2 k3 k4 hB2
end Go.Proofs.YtefjfjieoiegnaaGreatDoor
/- A reader that went on and spent: what a reference comes to where entities are declared, in plain terms. -/
namespace Go.Proofs.YtefjfjieoiegnaaGreatDoor
/-- The reader went on, and may have spent. -/
def AdvS (s s' : RS) : Prop := ∃ k n, s' = { s.adv k with spent := n }
theorem Adv.spent {s s' : RS} (h : Adv s s') : AdvS s s' := by
  obtain ⟨k, rfl⟩ := h
  exact ⟨k, s.spent, rfl⟩
theorem AdvS.then {a b c : RS} (h : AdvS a b) (g : AdvS b c) : AdvS a c := by
  obtain ⟨k, n, rfl⟩ := h
  obtain ⟨j, i, rfl⟩ := g
  obtain ⟨x, hx⟩ := Adv.then (Adv.by a k) (Adv.by (a.adv k) j)
  refine ⟨x, i, ?_⟩
  rw [← hx]
  rfl
theorem AdvS.len {s s' : RS} (h : AdvS s s') : s'.rest.length ≤ s.rest.length := by
  obtain ⟨k, n, rfl⟩ := h
  show (s.rest.drop k).length ≤ _
  rw [List.length_drop]; omega
theorem AdvS.same {s s' : RS} (h : AdvS s s') : s'.ents = s.ents ∧ s'.opn = s.opn ∧ s'.run = s.run ∧ s'.toks = s.toks ∧ s'.runAt = s.runAt := by
  obtain ⟨k, n, rfl⟩ := h
  exact ⟨rfl, rfl, rfl, rfl, rfl⟩
theorem AdvS.fine {s s' : RS} (h : AdvS s s') (hf : Fine s) : Fine s' := by
  obtain ⟨k, n, rfl⟩ := h
  have := hf.adv k
  exact ⟨this.ok, this.le⟩
theorem flatL_ok {flat : Bool} {l : List Nat} (h : okL l) : okL (flatL flat l) := by
  unfold flatL
  cases flat
  · exact h
  · exact okL_space h
theorem textX_ok {add : Nat → Ref → Except Nat (List Nat × Nat)} {flat : Bool} {opn : List (List Nat)}
    (hadd : ∀ s r t s', okL r.said → add s r = .ok (t, s') → okL t) :
    ∀ (f sp : Nat) (l t : List Nat) (s' : Nat), okL l → textX add flat opn f sp l = .ok (t, s') → okL t
  | 0, sp, l, t, s', _, h => by
    unfold textX at h
    cases h
    exact fun c hc => by cases hc
  | f + 1, sp, l, t, s', hl, h => by
    unfold textX at h
    split at h
    · cases h
      exact fun c hc => by cases hc
    · have hp : okL (l.takeWhile (· != 38)) := fun c hc => hl c (List.takeWhile_subset _ hc)
      simp only at h
      split at h
      · cases h
      · split at h
        · cases h
          exact flatL_ok hp
        · split at h
          · cases h
          · rename_i r hr
            split at h
            · cases h
            · rename_i t2 s2 h2
              have a2 := hadd _ r t2 s2 (readRef_facts (okL_drop hl _) hr).1 h2
              split at h
              · cases h
              · rename_i u s3 h3
                have a3 := textX_ok hadd f s2 _ u s3 (okL_drop (okL_drop hl _) _) h3
                cases h
                exact okL_app (okL_app (flatL_ok hp) a2) a3
theorem addX_ok {ents : List (List Nat × List Nat)} {flat : Bool} (he : ∀ x ∈ ents, okL x.2) :
    ∀ (d : Nat) (opn : List (List Nat)) (sp : Nat) (r : Ref) (t : List Nat) (s' : Nat), okL r.said → addX ents flat d opn sp r = .ok (t, s') → okL t
  | 0, opn, sp, r, t, s', _, h => by
    unfold addX at h
    cases h
  | d + 1, opn, sp, r, t, s', hr, h => by
    unfold addX at h
    split at h
    · split at h
      · cases h
      · cases h
        exact hr
    · split at h
      · cases h
      · rename_i x hx
        split at h
        · cases h
        · split at h
          · cases h
          · have hok : okL x := by
              unfold entX at hx
              obtain ⟨y, hy, rfl⟩ := Option.map_eq_some_iff.1 hx
              exact he y (List.mem_of_find?_eq_some hy)
            exact textX_ok (fun s r' t2 s2 ho h2 => addX_ok he d (opn ++ [r.name]) s r' t2 s2 ho h2) _ _ _ _ _ hok h
/-- What a reference at the top comes to: at most four bytes, or spent. -/
theorem addX_top {ents : List (List Nat × List Nat)} {flat : Bool} (he : ∀ x ∈ ents, okL x.2) {d sp : Nat} {r : Ref} {t : List Nat} {s' : Nat} (hs : sp ≤ 32768) (hr : (T r.said).size ≤ 4) (h : addX ents flat d [] sp r = .ok (t, s')) : (tx t).length + sp ≤ s' + 4 ∧ sp ≤ s' ∧ s' ≤ 32768 := by
  cases d with
  | zero =>
    unfold addX at h
    cases h
  | succ d =>
    unfold addX at h
    split at h
    · have e1 : spendX [] sp ((tx r.said).length + 1) = .ok sp := rfl
      rw [e1] at h
      cases h
      rw [T_size] at hr
      exact ⟨by omega, Nat.le_refl _, hs⟩
    · split at h
      · cases h
      · rename_i x hx
        split at h
        · cases h
        · have e1 : spendX [] sp 1 = .ok sp := rfl
          rw [e1] at h
          simp only at h
          have hok : okL x := by
            unfold entX at hx
            obtain ⟨y, hy, rfl⟩ := Option.map_eq_some_iff.1 hx
            exact he y (List.mem_of_find?_eq_some hy)
          have := textX_len (by simp) (fun s r' t2 s2 hs2 h2 => addX_len he d ([] ++ [r.name]) s r' t2 s2 (by simp) hs2 h2) _ _ _ _ _ hok hs h
          exact ⟨by omega, by omega, this.2⟩
/-- What a reference leaves, whatever is declared. -/
theorem ref_any {s : RS} {flat : Bool} {l : List Nat} {s2 : RS} (he : ∀ x ∈ s.ents, okL x.2) (hk : okL s.rest) (hs : s.spent ≤ 32768) (h : s.reference flat = .ok (l, s2)) :
    AdvS s s2 ∧ okL l ∧ (tx l).length + s.spent ≤ s2.spent + 4 ∧ s.spent ≤ s2.spent ∧ s2.spent ≤ 32768 ∧ s2.rest.length + 2 ≤ s.rest.length := by
  unfold RS.reference at h
  split at h
  · cases h
  · rename_i r hr
    obtain ⟨f1, f2, f3, f4, f5, f6, f7⟩ := readRef_facts hk hr
    split at h
    · cases h
    · rename_i t n ha
      have h1 := addX_ok he 10 [] s.spent r t n f1 ha
      have h2 := addX_top he hs f2 ha
      cases h
      refine ⟨⟨r.size, n, rfl⟩, h1, h2.1, h2.2.1, h2.2.2, ?_⟩
      show (s.rest.drop r.size).length + 2 ≤ _
      rw [List.length_drop]
      omega
end Go.Proofs.YtefjfjieoiegnaaGreatDoor
/- A reference, whatever is declared: xmlscan's reference. -/
namespace Go.Proofs.YtefjfjieoiegnaaGreatDoor
open Go.RowKit
/-- What a reference leaves: the text longer, in its cell; the reader behind it, with what it spent. -/
def refQ (o : Except Er (List Nat × RS)) (B C p m g j : Nat) (vo vt vr v : Value) (s : RS) (t : List Nat) (e : Ending) (w w' : World) : Prop := match o with
  | .error (c, pl) => e = .returned (.bool false) ∧ Wrong w' p c pl ∧ Below B w w'
  | .ok (l, s') => e = .returned (.bool true) ∧ ∃ w1 v', Kp (fun k => v.ownBlock = some k ∨ k = p) w w1 ∧ w1.heap[p]? = some (.cells (rdArr { s with spent := s'.spent } m vo vt vr) 63 (0, 0)) ∧ w1.ownsRow C 5 1 v' (tx (t ++ l)).length (byteCells (tx (t ++ l))) ∧ Moves p s'.place (w1.setCell ⟨g, j, none⟩ v') w'
set_option maxRecDepth 100000 in
set_option maxHeartbeats 4000000 in
theorem reference_any (B C p m g j : Nat) (flat : Bool) (vo vt vr v : Value) (t : List Nat) (s : RS) (w : World) (R : Rd w B p m vo vt vr s) (hG : Good s) (hE : XEnv B w) (hU : UniqE s.ents) (hNe : ∀ x ∈ s.ents, x.1 ≠ []) (hZ : ∀ x ∈ s.ents, (T x.2).size ≤ 32768) (hs : s.sees [38] = true)
    (hc : w.cell? ⟨g, j, none⟩ = some v) (ho : w.frozen? ⟨g, j, none⟩ = false) (hrow : w.ownsRow C 5 1 v (tx t).length (byteCells (tx t))) (hB : B ≤ C) (hC : C ≤ w.heap.size) (hl : (tx t).length ≤ 100000) (hng : v.ownBlock ≠ some g) (hgj : g = p → j = 6) :
    Calls Tryz.prog 107 #[.pointer (some ⟨p, 0, none⟩), .pointer (some ⟨g, j, none⟩), .bool flat] w fun e w' => refQ (s.reference flat) B C p m g j vo vt vr v s t e w w' := by
  obtain ⟨at', ct, rfl⟩ := owns_slice hrow
  have hlow := R.low
  have hlt := R.lt
  have hBw : B ≤ w.heap.size := by omega
  have HD : Hid (s.reference flat = match readRef s.rest with | none => .error (5, s.place) | some r => match addX s.ents flat 10 [] s.spent r with | .error e => .error (e, s.place) | .ok (t, n) => .ok (t, { s.adv r.size with spent := n })) := hide rfl
  have c1 : w.cell? ⟨p, 1, none⟩ = some (.int .i64 (s.place : Nat)) := R.at.pos
  have o1 : w.frozen? ⟨p, 1, none⟩ = false := R.at.thaw
  have hh : heads 38 s.rest = true := by rw [← isPre_one]; exact hs
  have hz := hG.fine.lt
  go_enter Tryz.func107, Tryz.ntmps107
  go_wp2_with fail
  refine (rest_any p s _ R.at).mono ?_
  rintro e w0 ⟨rfl, hb0⟩
  go_wp2_with fail
  refine (readReference_any s.rest _ hG.fine.okR (by omega) hh).mono ?_
  rintro e w1 ⟨rfl, hb1⟩
  have hb := Below.then hb0 hb1
  have R1 := R.on hb
  have hrow1 := owns_below hrow hb
  have hc1 := keptC hb hc
  have ho1 := keptO hb hc ho
  have c11 := keptC hb c1
  have o11 := keptO hb c1 o1
  have hlt1 : p < w1.heap.size := R1.lt
  have hgt1 : g < w1.heap.size := block_lt_of_cell hc1
  clear hrow hc ho c1 o1 hb0 hb1
  cases hr : readRef s.rest with
  | none =>
    have hd := unhide HD
    rw [hr] at hd
    have HEQ := hide hd
    clear hd hr HD hrow1
    rw [show refV s.rest none = .agg #[.string ⟨#[]⟩, .string ⟨#[]⟩, .int .i64 0] from rfl]
    go_wp2_with (go_at_call 63; refine (fail_rd B p 5 s.place _ (block_below R1.blk (by (repeat first | assumption | with_reducible exact Below.refl _ _ | refine Below.drew ?_ | refine Below.setCell ?_ (by first | omega | (simp; omega) | (simp; done)) _ | refine Below.alloc ?_ (by first | omega | (simp; omega) | (simp; done)) _ | exact Below.refl _ _))) rfl hlow).mono ?_; rintro e w5 ⟨rfl, hw5, hb5⟩)
    go_ret
    rw [unhide HEQ]
    exact ⟨rfl, hw5, ((hb.mono hBw).trans (by (repeat first | assumption | with_reducible exact Below.refl _ _ | refine Below.drew ?_ | refine Below.setCell ?_ (by first | omega | (simp; omega) | (simp; done)) _ | refine Below.alloc ?_ (by first | omega | (simp; omega) | (simp; done)) _ | exact Below.refl _ _))).trans hb5⟩
  | some r =>
    obtain ⟨f1, f2, f3, f4, f5, f6, f7⟩ := readRef_facts hG.fine.okR hr
    have hd := unhide HD
    rw [hr] at hd
    simp only at hd
    have HEQ := hide hd
    have hsz : 1 ≤ (T (s.rest.take r.size)).size := by
      rw [heads_true hh, show r.size = (r.size - 1) + 1 by omega, List.take_succ_cons, sz_cons (by decide)]
      omega
    have hsz2 := size_pre (List.take_prefix r.size s.rest)
    rw [show refV s.rest (some r) = .agg #[.string (T r.said), .string (T r.name), .int .i64 ((T (s.rest.take r.size)).size : Nat)] from rfl]
    have HPL : Hid ((s.adv r.size).place = s.place + (T (s.rest.take r.size)).size) := hide (place_adv s r.size)
    generalize hgn : (T (s.rest.take r.size)).size = n at *
    have HA : Hid (∀ W, Below (w1.heap.size + 2) ((w1.alloc (.cells #[.string (T r.said), .string (T r.name), .int .i64 (n : Nat)] 135)).alloc (.cells #[.pointer (some ⟨p, 0, none⟩), .bool flat, .slice at' (tx t).length ct, .slice none 0 0] 138)) W →
        ExpS W C B (w1.heap.size + 1) p m flat (.slice at' (tx t).length ct) (.slice none 0 0) t [] s.spent s.ents (rdArr s m vo vt vr) ∧ XEnv B W ∧ Below w1.heap.size w1 W) := by
      refine hide fun W hW => ?_
      have h1 := (MapKept.heap_alloc (w1.alloc (.cells #[.string (T r.said), .string (T r.name), .int .i64 (n : Nat)] 135)) (.cells #[.pointer (some ⟨p, 0, none⟩), .bool flat, .slice at' (tx t).length ct, .slice none 0 0] 138)).1
      rw [show (w1.alloc (.cells #[.string (T r.said), .string (T r.name), .int .i64 (n : Nat)] 135)).heap.size = w1.heap.size + 1 by simp] at h1
      have hbW : Below w1.heap.size w1 W := (((Below.refl _ _).alloc (Nat.le_refl _) _).alloc (by simp) _).trans (hW.mono (by omega))
      have RW := R1.on hbW
      refine ⟨⟨?_, RW.blk, rfl, rfl, rfl, owns_below hrow1 hbW, World.ownsRow_nil _ _ _ _, RW.ents, by have := hb.size; omega⟩, hE.low ((hb.mono hBw).trans (hbW.mono (by have := hb.size; omega))), hbW⟩
      rw [ExpAt, hW.block _ (by omega)]
      exact h1
    clear hr HD hgn hd
    go_wp2_with fail
    obtain ⟨S0, hE0, hb2⟩ := unhide HA _ (Below.refl _ _)
    have hXO : ExpOk t [] s.spent s.ents := ⟨hU, hNe, (fun x hx => by cases hx), Nat.zero_le _, hG.sp, by omega⟩
    refine (add_all C B (w1.heap.size + 1) p m flat s.ents B hB hlow (fun x hx => ⟨(R1.ents.2.1 x hx).2, hZ x hx⟩) 10 [] rfl _ _ t s.spent _ r n _ S0 hXO f1 f2 f6 (by omega) hE0).mono ?_
    intro e w4 ho4
    obtain ⟨k4, v4, vo4, tt4, n4, rfl, K4, Ft4, Fo4, S4, hor⟩ := ho4.any
    have hz2 : w1.heap.size + 2 ≤ ((w1.alloc (.cells #[.string (T r.said), .string (T r.name), .int .i64 (n : Nat)] 135)).alloc (.cells #[.pointer (some ⟨p, 0, none⟩), .bool flat, .slice at' (tx t).length ct, .slice none 0 0] 138)).heap.size := by simp
    have hvn : ∀ k, (Value.slice none 0 0).ownBlock ≠ some k := fun k h => by cases h
    have hvl : ∀ k, (Value.slice at' (tx t).length ct).ownBlock = some k → k < w1.heap.size := fun k hk => (hrow1.lt k hk).2
    have hKP : Kp (fun k => (Value.slice at' (tx t).length ct).ownBlock = some k ∨ k = p) w w4 := by
      have z1 := hb.size
      have z2 := K4.size
      refine ⟨K4.os.trans (hb2.os.trans hb.os), K4.tape.trans (hb2.tape.trans hb.tape), K4.output.trans (hb2.output.trans hb.output), by omega, fun k hk hS => ?_⟩
      rw [K4.block k (by omega) (by omega) (fun e => hS (.inr e)) (fun e => hS (.inl e)) (hvn k), hb2.block k (by omega), hb.block k hk]
    have hvB : ∀ k, (Value.slice at' (tx t).length ct).ownBlock = some k → B ≤ k := fun k hk => Nat.le_trans hB (hrow1.lt k hk).1
    have HKP := hide hKP
    have HS4 := hide S4
    rcases hor with ⟨t4, hat, rfl, rfl⟩ | hae
    · have HEQ2 : Hid (s.reference flat = .ok (t4, { s.adv r.size with spent := n4 })) := hide (by rw [unhide HEQ, hat])
      have hr4 := S4.txt
      obtain ⟨a4, c4, rfl⟩ := owns_slice hr4
      have d1 : w4.cell? ⟨p, 1, none⟩ = some (.int .i64 (s.place : Nat)) := blk_cell S4.rd 1
      have d2 : w4.frozen? ⟨p, 1, none⟩ = false := blk_open S4.rd 1
      have d34 : w4.cell? ⟨g, j, none⟩ = some (.slice at' (tx t).length ct) ∧ w4.frozen? ⟨g, j, none⟩ = false := by
        by_cases hgp : g = p
        · obtain rfl := hgj hgp
          subst hgp
          have h6 : w1.cell? ⟨g, 6, none⟩ = some vr := blk_cell R1.blk 6
          rw [hc1] at h6
          cases h6
          exact ⟨blk_cell S4.rd 6, blk_open S4.rd 6⟩
        · have eg : w4.heap[g]? = w1.heap[g]? := by rw [K4.block g (by omega) (by omega) hgp hng (hvn g), hb2.block g hgt1]
          exact ⟨(cell_same eg j).trans hc1, (open_same eg j).trans ho1⟩
      obtain ⟨d3, d4⟩ := d34
      have d5 : w4.cell? ⟨w1.heap.size, 2, none⟩ = some (.int .i64 (n : Nat)) := by
        have ef := K4.block w1.heap.size (by omega) (by omega) (by omega) (fun e => by have := hvl _ e; omega) (hvn _)
        refine (cell_same ef 2).trans ?_
        exact keptC ((Below.refl _ _).alloc (by simp) _ : Below (w1.alloc (.cells #[.string (T r.said), .string (T r.name), .int .i64 (n : Nat)] 135)).heap.size _ _) (blk_cell (MapKept.heap_alloc w1 _).1 2)
      have d6 : w4.cell? ⟨w1.heap.size + 1, 2, none⟩ = some (.slice a4 (tx (t ++ t4)).length c4) := blk_cell S4.blk 2
      have HR4 := hide hr4
      have HRD : Hid (w4.heap[p]? = some (.cells (rdArr { s with spent := n4 } m vo vt vr) 63 (0, 0))) := hide S4.rd
      have HD5 : Hid ((w4.setCell ⟨g, j, none⟩ (.slice a4 (tx (t ++ t4)).length c4)).cell? ⟨p, 1, none⟩ = some (.int .i64 (s.place : Nat)) ∧ (w4.setCell ⟨g, j, none⟩ (.slice a4 (tx (t ++ t4)).length c4)).cell? ⟨w1.heap.size, 2, none⟩ = some (.int .i64 (n : Nat))) :=
        hide ⟨(World.cell?_setCell_other _ _ _ _ (fun e => by cases e; have := hgj rfl; omega)).trans d1, (World.cell?_setCell_other _ _ _ _ (fun e => by cases e; omega)).trans d5⟩
      have HO5 : Hid ((w4.setCell ⟨g, j, none⟩ (.slice a4 (tx (t ++ t4)).length c4)).frozen? ⟨p, 1, none⟩ = false) := hide (by rw [World.frozen?_setCell]; exact d2)
      clear hat S0 hE0 hb2 K4 Ft4 Fo4 S4 hKP ho4 HEQ HA hrow1 hvn hvl hvB hXO hr4 HS4 hb
      go_upto_region 9 with fail
      obtain ⟨x1, x2⟩ := unhide HD5
      have x3 := unhide HO5
      have HX5 : Hid (w4.setCell ⟨g, j, none⟩ (.slice a4 (tx (t ++ t4)).length c4) = w4.setCell ⟨g, j, none⟩ (.slice a4 (tx (t ++ t4)).length c4)) := hide rfl
      generalize hg5 : w4.setCell ⟨g, j, none⟩ (.slice a4 (tx (t ++ t4)).length c4) = w5 at x1 x2 x3 HX5 ⊢
      have HG5 := hide hg5
      clear hg5 d1 d2 d3 d4 d5 d6 c11 o11 hc1 ho1
      have hpn : s.place + n ≤ 32768 := by omega
      have HWR : Hid (IntKind.i64.wrap ((s.place : Int) + (n : Int)) = ((s.place + n : Nat) : Int)) := hide (by rw [IntKind.wrap_i64]; omega)
      go_region_with fail
      all_goals go_wp2_with fail
      all_goals go_ret
      all_goals rw [unhide HEQ2]
      all_goals refine ⟨rfl, w4, _, unhide HKP, unhide HRD, unhide HR4, ?_⟩
      all_goals unfold Moves
      all_goals rw [show RS.place { s.adv r.size with spent := n4 } = (s.adv r.size).place from rfl, unhide HPL, unhide HG5]
      all_goals refine Below.drew ?_
      all_goals rw [unhide HWR]
      all_goals exact Below.refl _ _
    · have hk := addX_err _ _ _ _ _ hae
      have hk7 : ((k4 : Int) == 0) = false := by simp; exact hk
      have c14 : w4.cell? ⟨p, 1, none⟩ = some (.int .i64 (s.place : Nat)) := blk_cell S4.rd 1
      have HEQ2 : Hid (s.reference flat = .error (k4, s.place)) := hide (by rw [unhide HEQ, hae])
      have HF := hide (fail_rd B p k4 s.place w4 S4.rd (by rw [Array.size_setIfInBounds]; rfl) hlow)
      have HBB : Hid (Below B w w4) := hide (hKP.low hBw (fun k hk => by rcases hk with h | h; exact hvB k h; omega))
      clear hae S0 hE0 hb2 K4 Ft4 Fo4 S4 hKP ho4 HEQ HA hrow1 hvn hvl hvB hXO
      go_wp2_with fail
      refine (unhide HF).mono ?_
      rintro e w5 ⟨rfl, hw5, hb5⟩
      go_wp2
      go_ret
      rw [unhide HEQ2]
      exact ⟨rfl, hw5, (unhide HBB).trans hb5⟩
end Go.Proofs.YtefjfjieoiegnaaGreatDoor
/- A reader that went on and may have spent, and the entities that it has. -/
namespace Go.Proofs.YtefjfjieoiegnaaGreatDoor
open Go.RowKit
/-- Entities as a reader has them. -/
structure EOk (e : List (List Nat × List Nat)) : Prop where
  u : UniqE e
  ne : ∀ x ∈ e, x.1 ≠ []
  z : ∀ x ∈ e, (T x.2).size ≤ 32768
  ok : ∀ x ∈ e, okL x.1 ∧ okL x.2
theorem EOk.of {a b : List (List Nat × List Nat)} (h : a = b) (hb : EOk b) : EOk a := by rw [h]; exact hb
theorem EOk.nil : EOk [] := ⟨by unfold UniqE; simp, (fun _ h => by cases h), (fun _ h => by cases h), (fun _ h => by cases h)⟩
/-- The reader went on, and may have spent. -/
def AdvT (s s' : RS) : Prop := ∃ k n, s' = { s.adv k with spent := n } ∧ s.spent ≤ n ∧ (n ≤ 32768 ∨ n = s.spent)
theorem Adv.t {s s' : RS} (h : Adv s s') : AdvT s s' := by
  obtain ⟨k, rfl⟩ := h
  exact ⟨k, s.spent, rfl, Nat.le_refl _, .inr rfl⟩
theorem AdvT.refl (s : RS) : AdvT s s := ⟨0, s.spent, by unfold RS.adv; simp, Nat.le_refl _, .inr rfl⟩
theorem AdvT.then {a b c : RS} (h : AdvT a b) (g : AdvT b c) : AdvT a c := by
  obtain ⟨k, n, rfl, h1, h2⟩ := h
  obtain ⟨j, i, rfl, h3, h4⟩ := g
  obtain ⟨x, hx⟩ := Adv.then (Adv.by a k) (Adv.by (a.adv k) j)
  have h3' : n ≤ i := h3
  have h4' : i ≤ 32768 ∨ i = n := h4
  refine ⟨x, i, ?_, by omega, by omega⟩
  rw [← hx]
  rfl
theorem AdvT.only {s s' : RS} (h : AdvT s s') : AdvT s { s with spent := s'.spent } := by
  obtain ⟨k, n, rfl, h1, h2⟩ := h
  exact ⟨0, n, by unfold RS.adv; simp, h1, h2⟩
theorem AdvT.len {s s' : RS} (h : AdvT s s') : s'.rest.length ≤ s.rest.length := by
  obtain ⟨k, n, rfl, _⟩ := h
  show (s.rest.drop k).length ≤ _
  rw [List.length_drop]; omega
theorem AdvT.same {s s' : RS} (h : AdvT s s') : s'.ents = s.ents ∧ s'.opn = s.opn ∧ s'.run = s.run ∧ s'.toks = s.toks ∧ s'.runAt = s.runAt := by
  obtain ⟨k, n, rfl, _⟩ := h
  exact ⟨rfl, rfl, rfl, rfl, rfl⟩
theorem AdvT.whole {s s' : RS} (h : AdvT s s') : s'.pre ++ s'.rest = s.pre ++ s.rest := by
  obtain ⟨k, n, rfl, _⟩ := h
  exact adv_whole s k
theorem AdvT.okR {s s' : RS} (h : AdvT s s') (hk : okL s.rest) : okL s'.rest := by
  obtain ⟨k, n, rfl, _⟩ := h
  exact okL_drop hk k
theorem AdvT.pre {s s' : RS} (h : AdvT s s') : s.pre.length ≤ s'.pre.length := by
  obtain ⟨k, n, rfl, _⟩ := h
  show _ ≤ (s.pre ++ _).length
  rw [List.length_append]; omega
theorem Good.t {s s' : RS} (h : Good s) (ha : AdvT s s') : Good s' := by
  obtain ⟨k, n, rfl, h1, h2⟩ := ha
  have g := h.adv k
  have hrl : (tx s.run).length ≤ (s.adv k).place + s.spent := g.rl
  have hsp := h.sp
  exact ⟨⟨g.fine.ok, g.fine.le⟩, g.n1, g.n2, g.okr, by show (tx s.run).length ≤ (s.adv k).place + n; omega, by show n ≤ 32768; omega⟩
theorem take_szT : ∀ (n : Nat) (l : List Nat), okL l → n ≤ l.length → n ≤ (T (l.take n)).size
  | 0, _, _, _ => Nat.zero_le _
  | n + 1, [], _, h => by simp at h
  | n + 1, c :: t, h, hn => by
    have ih := take_szT n t (okL_tail h) (by simpa using hn)
    have hp := runeB_pos (h c (List.mem_cons_self ..))
    rw [List.take_succ_cons, T_size]
    rw [T_size] at ih
    have e : (tx (c :: t.take n)).length = (runeB c).length + (tx (t.take n)).length := by simp [tx]
    omega
/-- What a reference leaves. -/
theorem ref_t {s : RS} {flat : Bool} {l : List Nat} {s2 : RS} (he : EOk s.ents) (hk : okL s.rest) (hs : s.spent ≤ 32768) (h : s.reference flat = .ok (l, s2)) :
    AdvT s s2 ∧ okL l ∧ (tx l).length + s.spent ≤ s2.spent + 4 ∧ s.place + 2 ≤ s2.place ∧ s2.rest.length < s.rest.length ∧ Adv { s with spent := s2.spent } s2 := by
  obtain ⟨⟨k, n, rfl⟩, r2, r3, r4, r5, r6⟩ := ref_any (fun x hx => (he.ok x hx).2) hk hs h
  have r6' : (s.rest.drop k).length + 2 ≤ s.rest.length := r6
  rw [List.length_drop] at r6'
  refine ⟨⟨k, n, rfl, r4, .inl r5⟩, r2, r3, ?_, by show (s.rest.drop k).length < _; rw [List.length_drop]; omega, ⟨k, rfl⟩⟩
  show s.place + 2 ≤ (s.adv k).place
  rw [place_adv]
  by_cases hkl : k ≤ s.rest.length
  · have := take_szT k s.rest hk hkl
    omega
  · have h1 := take_szT s.rest.length s.rest hk (Nat.le_refl _)
    rw [List.take_of_length_le (by omega)]
    rw [List.take_length] at h1
    omega
/-- What a reference comes to is no longer than what was read and spent. -/
theorem ref_sum {s : RS} {flat : Bool} {l : List Nat} {s2 : RS} (he : EOk s.ents) (hk : okL s.rest) (hs : s.spent ≤ 32768) (h : s.reference flat = .ok (l, s2)) : (tx l).length + s.spent + s.place ≤ s2.spent + s2.place := by
  unfold RS.reference at h
  split at h
  · cases h
  · rename_i r hr
    obtain ⟨f1, f2, f3, f4, f5, f6, f7⟩ := readRef_facts hk hr
    have hpl := place_adv s r.size
    have htk := take_szT r.size s.rest hk f5
    have hts : (T r.said).size = (tx r.said).length := T_size _
    split at h
    · cases h
    · rename_i t n ha
      cases h
      show (tx l).length + s.spent + s.place ≤ n + (s.adv r.size).place
      rw [hpl]
      unfold addX at ha
      split at ha
      · have e1 : spendX [] s.spent ((tx r.said).length + 1) = .ok s.spent := rfl
        rw [e1] at ha
        cases ha
        omega
      · split at ha
        · cases ha
        · rename_i x hx
          split at ha
          · cases ha
          · have e1 : spendX [] s.spent 1 = .ok s.spent := rfl
            rw [e1] at ha
            simp only at ha
            have hok : okL x := by
              unfold entX at hx
              obtain ⟨y, hy, rfl⟩ := Option.map_eq_some_iff.1 hx
              exact (he.ok y (List.mem_of_find?_eq_some hy)).2
            have := textX_len (by simp) (fun s r' t2 s2 hs2 h2 => addX_len (fun x hx => (he.ok x hx).2) 9 ([] ++ [r.name]) s r' t2 s2 (by simp) hs2 h2) _ _ _ _ _ hok hs ha
            omega
/-- The text behind the last token grew, and the reader may have spent. -/
theorem Rd.ranS {W w' : World} {B p m n : Nat} {vo vt vr v' : Value} {s : RS} {x : List Nat} (R : Rd W B p m vo vt vr s) (hkp : Kp (fun k => vr.ownBlock = some k ∨ k = p) W w') (hp : w'.heap[p]? = some (.cells (rdArr { s with spent := n } m vo vt vr) 63 (0, 0))) (hown : w'.ownsRow B 5 1 v' (tx (s.run ++ x)).length (byteCells (tx (s.run ++ x)))) :
    Rd (w'.setCell ⟨p, 6, none⟩ v') B p m vo vt v' { s with spent := n, run := s.run ++ x } := by
  have hk : ∀ k o, W.heap[k]? = some o → ¬ (vr.ownBlock = some k ∨ k = p) → (w'.setCell ⟨p, 6, none⟩ v').heap[k]? = some o := fun k o ho hs => by
    rw [blk_other (fun e => hs (.inr e)), hkp.block k (Array.getElem?_eq_some_iff.1 ho).1 hs]; exact ho
  have hrow : ∀ {base : Nat} {e : TypeId} {size : Nat} {v : Value} {n : Nat} {xs : List Value}, W.ownsRow base e size v n xs → e ≠ 5 → e ≠ 63 → (w'.setCell ⟨p, 6, none⟩ v').ownsRow base e size v n xs := fun ho e1 e2 =>
    owns_kept ho hk fun k hk' hs => by
      rcases hs with hs | rfl
      · exact owns_apart ho R.run e1 k hk' hs
      · exact owns_not ho R.blk e2 hk'
  refine ⟨?_, R.low, ?_, hrow R.opn (by decide) (by decide), ?_, ?_⟩
  · rw [blk_set hp]; rfl
  · refine R.ents.kept ?_
    obtain ⟨es, clock, hm⟩ := R.ents.map
    rw [hm]
    refine hk m _ hm fun hs => ?_
    rcases hs with e | e
    · obtain ⟨c, hc⟩ := owns_type R.run e
      rw [hm] at hc
      cases hc
    · exact R.ents.ne R.blk e
  · refine R.toks.kept _ hk fun k c hs => ?_
    rcases hs with e | rfl
    · obtain ⟨c', hc⟩ := owns_type R.run e
      rw [hc]
      exact ⟨fun e => (by cases e), fun e => (by cases e)⟩
    · rw [R.blk]
      exact ⟨fun e => (by cases e), fun e => (by cases e)⟩
  · exact owns_kept (S := (· = p)) hown (fun k o hk hs => by rw [blk_other hs]; exact hk) fun k hk' hs => by
      subst hs
      exact owns_not hown hp (by decide) hk'
end Go.Proofs.YtefjfjieoiegnaaGreatDoor
