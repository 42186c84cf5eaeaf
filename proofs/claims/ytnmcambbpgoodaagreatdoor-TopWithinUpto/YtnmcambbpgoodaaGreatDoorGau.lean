/- Several texts, laid as one. -/
import Derived.Test.YtnmcambbpgoodaaGreatDoorGat
import Derived.Test.YtnmcambbpgoodaaGreatDoorGar
import Derived.Test.YtnmcambbpgoodaaGreatDoorGas
/- xparse's judge: allRight. -/
namespace Go.Proofs.YtnmcambbpgoodaaGreatDoor
open Go.RowKit Go.Maps
/-- A Kid's cells in memory, where its slice lies. -/
theorem KsV.kid {w : World} {S : Nat → Prop} {ks : List Ex} {v : Value} (h : KsV w S ks v) (i : Nat) (x : Ex) (hi : ks[i]? = some x) : ∃ g o c al cc, v = .slice (some ⟨g, o, none⟩) ks.length c ∧ S g ∧ exV w S x (.slice al x.kids.length cc) ∧ ∀ j u, (exCells x (.slice al x.kids.length cc))[j]? = some u → w.cell? ⟨g, o + (i * 7 + j), none⟩ = some u := by
  obtain ⟨ys, h1, h2⟩ := h
  have hlt : i < ks.length := (List.getElem?_eq_some_iff.1 hi).1
  obtain ⟨g, o, c, e, hg, _, hc⟩ := h1.2 (by omega)
  obtain ⟨xs, h3, h4⟩ := h2.at i x hi
  cases x with
  | mk op t n a ts kk =>
    rw [exIn] at h3
    obtain ⟨h0, u, rfl, zs, h5, h6⟩ := h3
    obtain ⟨⟨al, cc, rfl, _⟩, _⟩ := id h5
    refine ⟨g, o, c, al, cc, e, hg, ⟨h0, zs, h5, h6⟩, fun j u hu => ?_⟩
    have hj : j < 7 := by
      have := (List.getElem?_eq_some_iff.1 hu).1
      simpa [exCells] using this
    exact hc (i * 7 + j) u ((h4 j hj).trans hu)
theorem small_at : ∀ (ks : List Ex), smallKs ks = true → ∀ (i : Nat) (x : Ex), ks[i]? = some x → smallX x = true
  | [], _, i, x, hi => by simp at hi
  | k :: ks, h, 0, x, hi => by
    cases hi
    exact (smallKs.head h).1
  | k :: ks, h, i + 1, x, hi => small_at ks (smallKs.head h).2 i x hi
set_option maxRecDepth 100000 in
set_option maxHeartbeats 4000000 in
theorem jall_step (fl : Ex → Bool) (W0 : World) (n : Nat) (hR : ∀ m, m ≤ n → JRightC fl W0 m) : JAllC fl W0 (n + 1) := by
  intro p d c ks al cc w S b c' hj hz hx hS hd hc hr
  have HRR := hide hR
  have HZ := hide hz
  have HS := hide hS
  have HD := hide (And.intro hd hc)
  have HR0 := hide hr
  have HJ0 := hide hj
  have HX0 := hide hx
  have HK0 := hide (Kq.refl (fun j => j = p) w)
  have HPL := hide hj.lt
  clear hR hj hz hx hS hd hc hr
  go_enter Tryz.func79, Tryz.ntmps79
  go_wp2_with fail
  go_loopg [11] (n + 1) (fun gk iv wr => gk ≤ n + 1 ∧ ∃ (k cq : Nat), iv = .int .i64 (k : Nat) ∧ k ≤ ks.length ∧ c + k ≤ cq ∧ cq ≤ 1000 ∧ Hid (jAll fl gk d cq (ks.drop k) = some (b, c')) ∧ Hid (JQ W0 wr p cq) ∧ Hid (KsV wr S ks (.slice al ks.length cc)) ∧ Hid (Kq (fun j => j = p) w wr))
  case atStart => exact ⟨Nat.le_refl _, 0, c, rfl, by omega, by omega, (unhide HD).2, by rw [List.drop_zero]; exact HR0, HJ0, HX0, HK0⟩
  case round =>
    obtain ⟨hgn, k, cq, rfl, hk, hck, hcq, HR1, HJ1, HX1, HK1⟩ := hrel
    have HGN := hide (And.intro hgn (And.intro hck hcq))
    clear hgn hck hcq HR0 HJ0 HX0 HK0
    cases gk with
    | zero =>
      have := unhide HR1
      rw [jAll] at this
      cases this
    | succ m =>
      have hr1 := unhide HR1
      clear HR1
      cases hl : ks.drop k with
      | nil =>
        rw [hl, jAll] at hr1
        cases hr1
        have n1 : decide (k < ks.length) = false := decide_eq_false (by have := List.drop_eq_nil_iff.1 hl; omega)
        clear hl hk
        go_wp2_with fail
        go_returns
        exact ⟨rfl, (unhide HJ1).jv, unhide HK1⟩
      | cons x rest =>
        have hkx : ks[k]? = some x := by
          have h0 : (ks.drop k)[0]? = some x := by rw [hl]; rfl
          rw [List.getElem?_drop] at h0
          simpa using h0
        have hrest : ks.drop (k + 1) = rest := by
          have h0 : (ks.drop k).drop 1 = rest := by rw [hl]; rfl
          rwa [List.drop_drop] at h0
        have hklt : k < ks.length := (List.getElem?_eq_some_iff.1 hkx).1
        rw [hl, jAll] at hr1
        obtain ⟨g, o, ce, al1, cc1, ev, hg, hx1, hcells⟩ := (unhide HX1).kid k x hkx
        cases ev
        have hx2 := hx1.kept (Kq.of (S := fun _ => False) ((Below.refl wr.heap.size wr).alloc (Nat.le_refl _) (oneB x (.slice al1 x.kids.length cc1)))) (fun _ _ _ h => h)
        have hj2 := (unhide HJ1).below ((Below.refl wr.heap.size wr).alloc (Nat.le_refl _) (oneB x (.slice al1 x.kids.length cc1)))
        have hk2 := (Kq.of (S := fun j => j = p) ((Below.refl wr.heap.size wr).alloc (Nat.le_refl _) (oneB x (.slice al1 x.kids.length cc1))))
        have HKR := hide ((unhide HX1).kept (Kq.of (S := fun _ => False) ((Below.refl wr.heap.size wr).alloc (Nat.le_refl _) (oneB x (.slice al1 x.kids.length cc1)))) (fun _ _ _ h => h))
        have h0 : wr.cell? ⟨g, o + k * 7, none⟩ = some (.int .i64 (x.op : Nat)) := hcells 0 _ rfl
        have h1 : wr.cell? ⟨g, o + k * 7 + 1, none⟩ = some (.string (T x.text)) := (Nat.add_assoc o (k * 7) 1) ▸ hcells 1 _ rfl
        have h2 : wr.cell? ⟨g, o + k * 7 + 2, none⟩ = some (.int .i64 0) := (Nat.add_assoc o (k * 7) 2) ▸ hcells 2 _ rfl
        have h3 : wr.cell? ⟨g, o + k * 7 + 3, none⟩ = some (.int .i64 x.num) := (Nat.add_assoc o (k * 7) 3) ▸ hcells 3 _ rfl
        have h4 : wr.cell? ⟨g, o + k * 7 + 4, none⟩ = some (.int .i64 (x.axis : Nat)) := (Nat.add_assoc o (k * 7) 4) ▸ hcells 4 _ rfl
        have h5 : wr.cell? ⟨g, o + k * 7 + 5, none⟩ = some (.int .i64 (x.test : Nat)) := (Nat.add_assoc o (k * 7) 5) ▸ hcells 5 _ rfl
        have h6 : wr.cell? ⟨g, o + k * 7 + 6, none⟩ = some (.slice al1 x.kids.length cc1) := (Nat.add_assoc o (k * 7) 6) ▸ hcells 6 _ rfl
        have HZX : Hid (smallX x = true) := hide (small_at _ (unhide HZ) k x hkx)
        have n1 : decide (k < ks.length) = true := decide_eq_true (by omega)
        have HRS := hide hrest
        clear hl hx1 hcells hrest hg hkx
        cases hjr : jRight fl m d cq x with
        | none => rw [hjr, JR.then_none] at hr1; cases hr1
        | some r =>
          obtain ⟨bb, c1⟩ := r
          have HC := hide ((unhide HRR) m (by have := (unhide HGN).1; omega) p d cq x al1 cc1 _ S bb c1 hj2 (unhide HZX) hx2 (unhide HS) (unhide HD).1 (unhide HGN).2.2 hjr)
          have HJR := hide hjr
          have HK2 := hide ((unhide HK1).andThen hk2 (fun _ _ h => h))
          have HR1 := hide hr1
          have HJ2 := hide hj2
          clear hjr hr1 hx2 hj2 hk2
          go_wp2_with fail
          refine (unhide HC).mono ?_
          rintro e w1 ⟨rfl, r1, r2⟩
          have HK3 := hide ((unhide HK2).andThen r2 (fun _ _ h => h))
          have HJ3 := hide ((unhide HJ2).go r2 r1)
          have HX3 := hide ((unhide HKR).kept r2 (fun j hj _ e => unhide HS j hj e))
          clear r1 r2 HC h0 h1 h2 h3 h4 h5 h6
          have hr1 := unhide HR1
          rw [unhide HJR] at hr1
          clear HR1
          cases bb with
          | false =>
            rw [JR.then_false] at hr1
            cases hr1
            go_wp2_with fail
            go_returns
            exact ⟨rfl, (unhide HJ3).jv, unhide HK3⟩
          | true =>
            rw [JR.then_true] at hr1
            have hcn := (j_counts fl m).2.2.1 d cq x c1 (unhide HJR)
            have HCN := hide hcn
            have HR2 := hide hr1
            have hk1000 : k + 1 ≤ 1000 := by have := unhide HGN; omega
            have w1 : IntKind.i64.wrap ((k : Int) + 1) = ((k + 1 : Nat) : Int) := by rw [wrap_small] <;> omega
            clear hr1 hcn
            go_wp2_with fail
            go_roundg m
            case measure => omega
            case rel => exact ⟨by have := unhide HGN; omega, k + 1, c1, by go_num, by omega, by have := unhide HGN; have := unhide HCN; omega, by have := unhide HCN; omega, by rw [unhide HRS]; exact HR2, HJ3, HX3, HK3⟩
end Go.Proofs.YtnmcambbpgoodaaGreatDoor
/- Fuel that suffices the parser and the judge; what the parser finds is small. -/
namespace Go.Proofs.YtnmcambbpgoodaaGreatDoor
def Lv {α : Type} (r : PR α) : Prop := r ≠ .out
theorem Lv.ok {α : Type} {a : α} {s : PS} : Lv (.ok a s) := fun h => by cases h
theorem Lv.fail {α : Type} : Lv (.fail : PR α) := fun h => by cases h
theorem Lv.bind {α β : Type} {r : PR α} {f : α → PS → PR β} (h : Lv r) (hf : ∀ a s', r = .ok a s' → Lv (f a s')) : Lv (r.bind f) := by
  cases r with
  | out => exact absurd rfl h
  | fail => exact Lv.fail
  | ok a s' => exact hf a s' rfl
theorem head_pop {k : Nat} {t : List Nat} {s : PS} (h : headIs k t s = true) : s.pop.left.length + 1 = s.left.length := by
  unfold headIs at h
  unfold PS.pop
  cases hl : s.left with
  | nil => rw [hl] at h; cases h
  | cons x r => simp
theorem sees_pop {k : Nat} {s : PS} (h : seesK k s = true) : s.pop.left.length + 1 = s.left.length := by
  unfold seesK at h
  unfold PS.pop
  cases hl : s.left with
  | nil => rw [hl] at h; cases h
  | cons x r => simp
theorem oper_pop {g op : Nat} {s : PS} (h : operOf g s = some op) : s.pop.left.length + 1 = s.left.length := by
  cases hl : s.left with
  | nil =>
    have h0 : ∀ t, headIs 8 t s = false := fun t => by unfold headIs; rw [hl]
    have h1 : opTab.find? (fun o => o.2.2 == g && headIs 8 o.1 s) = none := List.find?_eq_none.2 fun o _ => by simp [h0]
    unfold operOf at h
    rw [h1] at h
    cases h
  | cons x r =>
    unfold PS.pop
    simp [hl]
/-- With so much fuel the parser ends. -/
theorem live_all (num : List Nat → Option Int) : ∀ n, (∀ g s, g ≤ 8 → 30 * s.left.length + 26 ≤ n + 2 * g → Lv (exprP num n g s)) ∧ (∀ g e s, g ≤ 7 → 30 * s.left.length + 1 ≤ n → Lv (opsP num n g e s)) ∧ (∀ s, 30 * s.left.length + 13 ≤ n → Lv (negP num n s)) ∧ (∀ s, 30 * s.left.length + 8 ≤ n → Lv (pathP num n s)) ∧ (∀ ks s, 30 * s.left.length + 1 ≤ n → Lv (moreP num n ks s)) ∧ (∀ s, 30 * s.left.length + 3 ≤ n → Lv (stepP num n s)) ∧ (∀ ks s, 30 * s.left.length + 1 ≤ n → Lv (predsP num n ks s)) ∧ (∀ s, 30 * s.left.length + 4 ≤ n → Lv (filtP num n s)) ∧ (∀ s, 30 * s.left.length + 2 ≤ n → Lv (primP num n s)) ∧ (∀ s, 30 * s.left.length + 28 ≤ n → Lv (brP num n s)) ∧ (∀ s, 30 * s.left.length + 1 ≤ n → Lv (argsP num n s)) ∧ (∀ ks s, 30 * s.left.length + 28 ≤ n → Lv (argsGoP num n ks s))
  | 0 => by
    refine ⟨?_, ?_, ?_, ?_, ?_, ?_, ?_, ?_, ?_, ?_, ?_, ?_⟩ <;> intros <;> exact absurd (by assumption : _ ≤ _) (by omega)
  | n + 1 => by
    obtain ⟨hE, hO, hN, hP, hM, hS, hQ, hF, hR, hB, hA, hG⟩ := live_all num n
    obtain ⟨pE, _, pN, pP, pM, pS, pQ, pF, pR, pB, pA, pG⟩ := pres_all num n
    refine ⟨?_, ?_, ?_, ?_, ?_, ?_, ?_, ?_, ?_, ?_, ?_, ?_⟩
    · intro g s hg h
      rw [exprP]
      split
      · subst g; exact hN s (by omega)
      · split
        · subst g; exact hP s (by omega)
        · exact (hE _ s (by omega) (by omega)).bind fun a s' e => hO g a s' (by omega) (by have := (pE _ _ a s' e).2; omega)
    · intro g e s hg h
      rw [opsP]
      split
      · exact Lv.ok
      · rename_i op ho
        have := oper_pop ho
        exact (hE _ s.pop (by omega) (by omega)).bind fun a s' e => hO g _ s' hg (by have := (pE _ _ a s' e).2; omega)
    · intro s h
      rw [negP]
      split
      · rename_i h0
        have := head_pop h0
        exact (hN s.pop (by omega)).bind fun a s' e => Lv.ok
      · exact hE 7 s (by omega) (by omega)
    · intro s h
      rw [pathP]
      split
      · rename_i h0
        have := head_pop h0
        split
        · exact (hS s.pop (by omega)).bind fun a s' e => (hM _ s' (by have := (pS _ a s' e).2; omega)).bind fun ks s2 e2 => Lv.ok
        · exact Lv.ok
      · split
        · rename_i h0
          have := head_pop h0
          exact (hS s.pop (by omega)).bind fun a s' e => (hM _ s' (by have := (pS _ a s' e).2; omega)).bind fun ks s2 e2 => Lv.ok
        · split
          · exact (hS s (by omega)).bind fun a s' e => (hM _ s' (by have := (pS _ a s' e).2; omega)).bind fun ks s2 e2 => Lv.ok
          · exact (hF s (by omega)).bind fun a s' e => (hM _ s' (by have := (pF _ a s' e).2; omega)).bind fun ks s2 e2 => Lv.ok
    · intro ks s h
      rw [moreP]
      split
      · rename_i h0
        have := head_pop h0
        exact (hS s.pop (by omega)).bind fun a s' e => hM _ s' (by have := (pS _ a s' e).2; omega)
      · split
        · rename_i h0
          have := head_pop h0
          exact (hS s.pop (by omega)).bind fun a s' e => hM _ s' (by have := (pS _ a s' e).2; omega)
        · exact Lv.ok
    · intro s h
      rw [stepP]
      split
      · exact Lv.ok
      · split
        · exact Lv.ok
        · split
          · exact Lv.fail
          · rename_i a s1 h1
            split
            · exact Lv.fail
            · rename_i t tt s2 h2
              have a2 := (axisP_pres h1).2
              have b2 := (testP_pres h2).2
              exact (hQ _ s2 (by omega)).bind fun b s3 e => Lv.ok
    · intro ks s h
      rw [predsP]
      split
      · rename_i h0
        have := head_pop h0
        refine (hE _ s.pop (by omega) (by omega)).bind fun a s' e => ?_
        have h2 := (pE _ _ a s' e).2
        split
        · rename_i h1
          have := head_pop h1
          exact hQ _ s'.pop (by omega)
        · exact Lv.fail
      · exact Lv.ok
    · intro s h
      rw [filtP]
      refine (hR s (by omega)).bind fun a s' e => ?_
      have h2 := (pR _ a s' e).2
      split
      · exact (hQ _ s' (by omega)).bind fun b s3 _ => Lv.ok
      · exact (hQ _ s' (by omega)).bind fun b s3 _ => Lv.ok
    · intro s h
      rw [primP]
      split
      · rename_i h0
        have := head_pop h0
        exact hB s.pop (by omega)
      · split
        · split
          · exact Lv.fail
          · exact Lv.ok
        · split
          · exact Lv.ok
          · split
            · exact Lv.ok
            · split
              · rename_i h0
                have := sees_pop h0
                exact (hA s.pop (by omega)).bind fun b s3 _ => Lv.ok
              · exact Lv.fail
    · intro s h
      rw [brP]
      refine (hE 0 ⟨s.left, s.opn + 1, max s.dp (s.opn + 1)⟩ (by omega) (by show 30 * s.left.length + 26 ≤ _; omega)).bind fun a s' e => ?_
      split
      · exact Lv.ok
      · exact Lv.fail
    · intro s h
      rw [argsP]
      split
      · rename_i h0
        have := head_pop h0
        split
        · exact Lv.ok
        · exact hG _ s.pop (by omega)
      · exact Lv.fail
    · intro ks s h
      rw [argsGoP]
      refine (hE _ s (by omega) (by omega)).bind fun a s' e => ?_
      have h2 := (pE _ _ a s' e).2
      split
      · rename_i h0
        have := head_pop h0
        exact hG _ s'.pop (by omega)
      · split
        · exact Lv.ok
        · exact Lv.fail
mutual
/-- Fuel for the judge. -/
def wt : Ex → Nat
  | .mk _ _ _ _ _ ks => 6 + wtKs ks
def wtKs : List Ex → Nat
  | [] => 1
  | k :: ks => wt k + wtKs ks + 1
end
theorem wt_kids (x : Ex) : wt x = 6 + wtKs x.kids := by
  cases x
  rw [wt]
  rfl
theorem JR.live {a : JR} {f : Nat → JR} (h : a ≠ none) (hf : ∀ c, f c ≠ none) : JR.thenJ a f ≠ none := by
  match a, h with
  | some (true, c), _ => exact hf c
  | some (false, c), _ => exact fun h => by cases h
theorem j_live (fl : Ex → Bool) : ∀ n, (∀ d c e, wtKs e.kids + 2 ≤ n → jPart fl n d c e ≠ none) ∧ (∀ d c e, wtKs e.kids + 1 ≤ n → jKids fl n d c e ≠ none) ∧ (∀ d c e, wtKs e.kids + 3 ≤ n → jRight fl n d c e ≠ none) ∧ (∀ d c ks, wtKs ks ≤ n → jAll fl n d c ks ≠ none) ∧ (∀ d c ks, wtKs ks ≤ n → jSteps fl n d c ks ≠ none) ∧ (∀ d c ks, wtKs ks ≤ n → jPath fl n d c ks ≠ none)
  | 0 => by
    have h0 : ∀ ks, 1 ≤ wtKs ks := fun ks => by cases ks <;> rw [wtKs] <;> omega
    refine ⟨?_, ?_, ?_, ?_, ?_, ?_⟩
    · intro d c e h; omega
    · intro d c e h; omega
    · intro d c e h; omega
    · intro d c ks h; have := h0 ks; omega
    · intro d c ks h; have := h0 ks; omega
    · intro d c ks h; have := h0 ks; omega
  | n + 1 => by
    obtain ⟨i1, i2, i3, i4, i5, i6⟩ := j_live fl n
    have hs : ∀ (b : Bool) (c : Nat), (some (b, c) : JR) ≠ none := fun _ _ h => by cases h
    refine ⟨?_, ?_, ?_, ?_, ?_, ?_⟩
    · intro d c e h
      rw [jPart]
      split
      · exact i2 _ _ e (by omega)
      · exact hs _ _
    · intro d c e h
      rw [jKids]
      split
      · exact i6 _ _ _ (by omega)
      · split
        · exact i4 _ _ _ (by omega)
        · exact hs _ _
    · intro d c e h
      rw [jRight]
      split
      · exact i1 _ _ e (by omega)
      · exact hs _ _
    · intro d c ks h
      cases ks with
      | nil => rw [jAll]; exact hs _ _
      | cons k ks =>
        rw [wtKs, wt_kids] at h
        rw [jAll]
        exact JR.live (i3 _ _ k (by omega)) fun c => i4 _ _ ks (by omega)
    · intro d c ks h
      cases ks with
      | nil => rw [jSteps]; exact hs _ _
      | cons k ks =>
        rw [wtKs, wt_kids] at h
        rw [jSteps]
        split
        · exact JR.live (i1 _ _ k (by omega)) fun c => i5 _ _ ks (by omega)
        · exact hs _ _
    · intro d c ks h
      cases ks with
      | nil => rw [jPath]; exact hs _ _
      | cons k ks =>
        rw [wtKs, wt_kids] at h
        rw [jPath]
        split
        · exact hs _ _
        · refine JR.live ?_ fun c => i5 _ _ ks (by omega)
          split
          · exact i1 _ _ k (by omega)
          · exact i3 _ _ k (by omega)
/-- The judge of an expression ends. -/
theorem jright_ends (fl : Ex → Bool) (x : Ex) : ∃ b c, jRight fl (wt x) 0 0 x = some (b, c) := by
  have h := (j_live fl (wt x)).2.2.1 0 0 x (by rw [wt_kids]; omega)
  cases hj : jRight fl (wt x) 0 0 x with
  | none => exact absurd hj h
  | some a => exact ⟨a.1, a.2, rfl⟩
end Go.Proofs.YtnmcambbpgoodaaGreatDoor
