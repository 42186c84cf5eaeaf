/- Several texts, laid as one. -/
import Derived.Test.YthkkfldmoflfaaaGreatDoorGbt
import Derived.Test.YthkkfldmoflfaaaGreatDoorGbn
/- Parse, Print and live of layer 6. -/
namespace Go.Proofs.YthkkfldmoflfaaaGreatDoor
open Go.RowKit Go.Maps
def jokX (x : Ex) : Bool := match jRight flX 300 0 0 x with | some (true, _) => true | _ => false
/-- What Parse tells of characters, where they are an expression within the limits. -/
def chkP (cs : List Nat) : Option Ex :=
  match scanOf cs with
  | .error _ => none
  | .ok ts => match exprP numP 1000 0 (ps0 ts) with
    | .ok x s' => if (s'.left.isEmpty && decide (s'.dp ≤ 32)) && ((decide (ts.length ≤ 512) && !ts.isEmpty) && ((smallX x && decide (sizeX x ≤ 512)) && (decide (depthX x ≤ 32) && jokX x))) then some x else none
    | _ => none
theorem chkP_inv {cs : List Nat} {x : Ex} (h : chkP cs = some x) : okX x ∧ ∃ ts s' c', scanOf cs = .ok ts ∧ exprP numP 1000 0 (ps0 ts) = .ok x s' ∧ s'.left = [] ∧ s'.dp ≤ 32 ∧ ts.length ≤ 512 ∧ ts ≠ [] ∧ smallX x = true ∧ jRight flX 300 0 0 x = some (true, c') := by
  unfold chkP at h
  cases hs : scanOf cs with
  | error p => rw [hs] at h; cases h
  | ok ts =>
    rw [hs] at h
    simp only at h
    cases hp : exprP numP 1000 0 (ps0 ts) with
    | out => rw [hp] at h; cases h
    | fail => rw [hp] at h; cases h
    | ok y s' =>
      rw [hp] at h
      simp only at h
      split at h
      · rename_i hc
        cases h
        simp only [Bool.and_eq_true, decide_eq_true_eq, Bool.not_eq_true', List.isEmpty_iff] at hc
        obtain ⟨⟨h1, h2⟩, ⟨h3, h4⟩, ⟨h5, h6⟩, h7, h8⟩ := hc
        have h4' : ts ≠ [] := by
          intro e
          rw [e] at h4
          cases h4
        unfold jokX at h8
        cases hj : jRight flX 300 0 0 x with
        | none => rw [hj] at h8; cases h8
        | some r =>
          obtain ⟨b, c'⟩ := r
          cases b with
          | false => rw [hj] at h8; cases h8
          | true => exact ⟨⟨h5, h6, h7, _, _, hj⟩, ts, s', c', rfl, hp, h1, h2, h3, h4', h5, by first | exact hj | rfl⟩
      · cases h
theorem parse_chk (cs : List Nat) (x : Ex) (w : World) (h : chkP cs = some x) (hl : okL cs) (hz : (T cs).size ≤ 512) (hG : EnvG w) :
    Calls Tryz.prog 6 #[.string (T cs)] w (outP6 w x) := by
  obtain ⟨_, ts, s', c', h1, h2, h3, h4, h5, h6, h7, h8⟩ := chkP_inv h
  exact parse_ok6 cs ts 1000 300 c' x s' w hG hl hz h1 h6 h5 (by omega) h2 h3 h4 h7 h8
/-- What always holds: the tables, those of numbers too. -/
structure Env6 (w : World) : Prop where
  env : EnvG w
  pow : Lib.TabIs Tryz.prog w "internal/strconv.uint64pow10" .u64 Lib.pow10Tab
theorem Env6.below {w w' : World} (h : Env6 w) (hb : Below w.heap.size w w') : Env6 w' := ⟨h.env.below hb, tab_below h.pow hb⟩
set_option maxRecDepth 100000 in
set_option maxHeartbeats 2000000 in
/-- Print of an expression whose text is known. -/
theorem pprint_ok (x : Ex) (cs : List Nat) (ts : List (Tok × Nat)) (al : Option Addr) (cc : Nat) (w : World) (S : Nat → Prop) (hE : Env6 w) (hx : exV w S x (.slice al x.kids.length cc)) (hk : okX x) (hW : ∀ Wb, Env6 Wb → WExpr Wb x (tx cs)) (hl : okL cs) (hz : (T cs).size ≤ 512) (hne : tx cs ≠ []) (hs : scanOf cs = .ok ts) :
    Calls Tryz.prog 14 #[exAgg x (.slice al x.kids.length cc)] w fun e w' => e = .returned (.tuple #[.string (T cs), .int .i64 0]) ∧ Below w.heap.size w w' := by
  obtain ⟨hsm, _, _, n, c', hj⟩ := hk
  obtain ⟨W1, e1⟩ : ∃ W1, w.alloc (oneB x (.slice al x.kids.length cc)) = W1 := ⟨_, rfl⟩
  have hb1 : Below w.heap.size w W1 := by rw [← e1]; exact (Below.refl _ _).alloc (Nat.le_refl _) _
  have hq1 : W1.heap[w.heap.size]? = some (oneB x (.slice al x.kids.length cc)) := by rw [← e1]; exact palloc_new _ _
  have hx1 := hx.below hb1
  have HC1 := hide (pright_ok w hE.env n c' x al cc W1 S hb1 hsm hx1 hj)
  have HB1 := hide hb1
  have HQ1 := hide hq1
  have HX1 := hide hx1
  have HE1 := hide (hE.below hb1)
  have HW := hide hW
  have HLZ := hide (And.intro hl hz)
  have HNE := hide hne
  have HS := hide hs
  obtain ⟨a0, a1, a2, a3, a4, a5, a6⟩ := var_cells hq1
  have hlt : w.heap.size < W1.heap.size := (Array.getElem?_eq_some_iff.1 hq1).1
  have HLT := hide hlt
  generalize hq : w.heap.size = q at HQ1 a0 a1 a2 a3 a4 a5 a6 HLT
  clear hb1 hq1 hx1 hE hx hW hl hz hne hs hj hsm hlt
  go_enter Tryz.func14, Tryz.ntmps14
  go_wp2_with fail
  refine (unhide HC1).mono ?_
  rintro e w2 ⟨rfl, hb2⟩
  have hE2 := (unhide HE1).below hb2
  have hx2 := (unhide HX1).below hb2
  have hq2 := blockB (unhide HQ1) hb2
  obtain ⟨W3, e3⟩ : ∃ W3, w2.alloc (.cells #[.pointer none, .slice none 0 0] 77) = W3 := ⟨_, rfl⟩
  have hb3 : Below w2.heap.size w2 W3 := by rw [← e3]; exact (Below.refl _ _).alloc (Nat.le_refl _) _
  have hp3 : W3.heap[w2.heap.size]? = some (.cells #[.pointer none, .slice none 0 0] 77 (0, 0)) := by rw [← e3]; exact palloc_new _ _
  have hwat : WAt w2 w2.heap.size [] W3 := ⟨.inl ⟨Nat.le_refl _, .slice none 0 0, hp3, ⟨rfl, .inl ⟨rfl, rfl⟩⟩, fun h => by cases h⟩, hb3⟩
  have hlz := unhide HLZ
  have HX := hide (unhide HW w2 hE2 w2.heap.size [] al cc W3 S hwat hx2 (by have : (tx cs).length = (T cs).size := (T_size cs).symm; simp only [List.length_nil]; omega))
  have HB2 := hide (Below.then (unhide HB1) hb2)
  have HB3 := hide hb3
  have HE2 := hide hE2
  have HQ3 := hide (blockB hq2 hb3)
  have hsz := hb2.size
  generalize hp : w2.heap.size = p at *
  have HPW := hide hp
  clear hb2 hb3 hE2 hx2 hq2 hp3 hwat hlz HC1 HW HX1 a0 a1 a2 a3 a4 a5 a6
  obtain ⟨a0, a1, a2, a3, a4, a5, a6⟩ := var_cells (unhide HQ3)
  go_wp2_with fail
  refine (unhide HX).mono ?_
  rintro e w4 ⟨rfl, r1, r2, r3⟩
  have HST := hide (wstring_any w2.heap.size p (tx cs) w4 (by rw [List.nil_append] at r1; exact r1) (unhide HNE) (by have : (tx cs).length = (T cs).size := (T_size cs).symm; have := (unhide HLZ).2; omega))
  have HB4 : Hid (Below w2.heap.size w2 w4) := hide (by have h3 := unhide HB3; rw [← unhide HPW] at h3; exact h3.trans r2)
  clear r1 r2 r3 HX a0 a1 a2 a3 a4 a5 a6
  go_wp2_with fail
  refine (unhide HST).mono ?_
  rintro e w5 ⟨rfl, r1⟩
  have HB5 := hide ((unhide HB4).trans r1)
  have hS := scan_any cs w5 (unhide HLZ).1 (unhide HLZ).2 ((unhide HE2).below (unhide HB5)).env.lex
  rw [unhide HS] at hS
  have HSC := hide hS
  clear r1 hS HST
  go_wp2_with fail
  refine (unhide HSC).mono ?_
  rintro e w6 ⟨⟨v, rfl, _⟩, hb6⟩
  have HB6 := hide (Below.then (unhide HB2) (Below.then (unhide HB5) hb6))
  clear hb6 HSC
  go_wp2_with fail
  go_returns
  exact ⟨rfl, by have h := unhide HB6; rw [hq] at h; exact h⟩
/-- The expression that live parses. -/
def liveX : Ex := .mk 10 [] 0 0 0 [.mk 14 [] 0 0 0 [.mk 14 [] 0 0 0 [.mk 16 [] 1000000 0 0 []]], .mk 16 [] 2000000 0 0 []]
theorem live_chk : chkP [45, 32, 45, 49, 32, 45, 32, 50] = some liveX := by kernel_rfl
theorem live_writes (Wb : World) (hE : Env6 Wb) : WExpr Wb liveX (tx [45, 45, 49, 32, 45, 32, 50]) := by
  have hT : ∀ (v : Int) (l : List UInt8), 0 ≤ v → v ≤ 9000000 → textL (decide (v < 0)) (v.natAbs / 1000000) (v.natAbs % 1000000) = l → ∀ w, Below Wb.heap.size Wb w → Calls Tryz.prog 52 #[.agg #[.int .i64 0, .int .i64 v]] w fun e w' => e = .returned (.string ⟨l.toArray⟩) ∧ Below w.heap.size w w' := fun v l h1 h2 h3 w hb => by
    rw [← h3]
    exact text_fin v w (hE.below hb).pow (by omega) (by omega)
  have n1 : WExpr Wb (.mk 16 [] 1000000 0 0 []) [49] := wnum_ok Wb _ [49] rfl (hT 1000000 [49] (by decide) (by decide) (by kernel_rfl))
  have n2 : WExpr Wb (.mk 16 [] 2000000 0 0 []) [50] := wnum_ok Wb _ [50] rfl (hT 2000000 [50] (by decide) (by decide) (by kernel_rfl))
  have m1 : WExpr Wb (.mk 14 [] 0 0 0 [.mk 16 [] 1000000 0 0 []]) [45, 49] := wneg_ok Wb _ _ [49] rfl rfl (wopd_ok Wb hE.env _ 6 [49] (by decide) (by decide) (by decide) n1)
  have m2 : WExpr Wb (.mk 14 [] 0 0 0 [.mk 14 [] 0 0 0 [.mk 16 [] 1000000 0 0 []]]) [45, 45, 49] := wneg_ok Wb _ _ [45, 49] rfl rfl (wopd_ok Wb hE.env _ 6 [45, 49] (by decide) (by decide) (by decide) m1)
  exact woper_ok Wb hE.env liveX _ _ [45, 45, 49] [50] (by decide) ⟨9, by decide, rfl⟩ (.inl (by decide)) rfl (wopd_ok Wb hE.env _ _ _ (by decide) (by decide) (by decide) m2) (wopd_ok Wb hE.env _ _ _ (by decide) (by decide) (by decide) n2) (by decide)
set_option maxRecDepth 100000 in
set_option maxHeartbeats 2000000 in
theorem live6_any (w : World) (hE : Env6 w) :
    Calls Tryz.prog 7 #[] w fun e w' => e = .returned (.bool true) ∧ Below w.heap.size w w' := by
  have hC1 := parse_chk [45, 32, 45, 49, 32, 45, 32, 50] liveX w live_chk (okL_asc (by decide)) (by decide) hE.env
  rw [show T [45, 32, 45, 49, 32, 45, 32, 50] = ⟨#[45, 32, 45, 49, 32, 45, 32, 50]⟩ from rfl] at hC1
  have HC1 := hide hC1
  have HE := hide hE
  have hok : okX liveX := (chkP_inv live_chk).1
  have HOK := hide hok
  obtain ⟨hsm, _, _, n, c', hj⟩ := hok
  have HJ := hide (And.intro hsm hj)
  have HO : Hid (liveX.op = 10 ∧ liveX.kids.length = 2 ∧ liveX.kids[0]? = some (.mk 14 [] 0 0 0 [.mk 14 [] 0 0 0 [.mk 16 [] 1000000 0 0 []]])) := hide ⟨rfl, rfl, rfl⟩
  have HW := hide live_writes
  clear hC1 hE hsm hj
  generalize liveX = x at *
  go_enter Tryz.func7, Tryz.ntmps7
  go_wp2_with fail
  refine (unhide HC1).mono ?_
  rintro e w1 ⟨al, cc, rfl, hx, hb1⟩
  obtain ⟨W2, e2⟩ : ∃ W2, w1.alloc (oneB x (.slice al x.kids.length cc)) = W2 := ⟨_, rfl⟩
  have hb2 : Below w1.heap.size w1 W2 := by rw [← e2]; exact (Below.refl _ _).alloc (Nat.le_refl _) _
  have hq2 : W2.heap[w1.heap.size]? = some (oneB x (.slice al x.kids.length cc)) := by rw [← e2]; exact palloc_new _ _
  have hx2 := hx.below hb2
  have hE2 := (unhide HE).below (Below.then hb1 hb2)
  have hC2 := pprint_ok x [45, 45, 49, 32, 45, 32, 50] _ al cc W2 _ hE2 hx2 (unhide HOK) (unhide HW) (okL_asc (by decide)) (by decide) (by decide) (show scanOf [45, 45, 49, 32, 45, 32, 50] = .ok [(⟨8,[45],[45]⟩,0),(⟨8,[45],[45]⟩,1),(⟨1,[49],[49]⟩,2),(⟨8,[45],[45]⟩,4),(⟨1,[50],[50]⟩,6)] from by kernel_rfl)
  rw [show T [45, 45, 49, 32, 45, 32, 50] = ⟨#[45, 45, 49, 32, 45, 32, 50]⟩ from rfl] at hC2
  have HC2 := hide hC2
  have HB2 := hide (Below.then hb1 hb2)
  have HX2 := hide hx2
  have HQ2 := hide hq2
  have HE2 := hide hE2
  obtain ⟨a0, a1, a2, a3, a4, a5, a6⟩ := var_cells hq2
  clear hb1 hb2 hq2 hx hx2 hE2 hC2 HC1
  go_wp2_with fail
  refine (unhide HC2).mono ?_
  rintro e w3 ⟨rfl, hb3⟩
  have HB3 := hide (Below.then (unhide HB2) hb3)
  have hx3 := (unhide HX2).below hb3
  have hE3 := (unhide HE2).below hb3
  have hq3 := blockB (unhide HQ2) hb3
  obtain ⟨g, o, al1, cc1, ev, _, k0, _⟩ := hx3.ks.kid7 0 _ (unhide HO).2.2
  subst ev
  rw [Nat.zero_mul, Nat.add_zero] at k0
  have k0' : w3.cell? ⟨g, o, none⟩ = some (.int .i64 14) := k0
  have HC3 := hide (pright_ok w3 hE3.env n c' x (some ⟨g, o, none⟩) cc w3 _ (Below.refl _ _) (unhide HJ).1 hx3 (unhide HJ).2)
  have ho := unhide HO
  have m1 : (((x.op : Nat) : Int) == 10) = true := icast_eq (by omega)
  have m2 : (((x.kids.length : Nat) : Int) == 2) = true := icast_eq (by omega)
  have m3 : 0 < x.kids.length := by omega
  clear a0 a1 a2 a3 a4 a5 a6 hb3 hx3 hE3 HC2 k0 ho
  obtain ⟨a0, a1, a2, a3, a4, a5, a6⟩ := var_cells hq3
  clear hq3
  go_wp2_with fail
  refine (unhide HC3).mono ?_
  rintro e w4 ⟨rfl, hb4⟩
  have HB4 := hide (Below.then (unhide HB3) hb4)
  clear a0 a1 a2 a3 a4 a5 a6 hb4 HC3 k0'
  go_wp2_with fail
  go_returns
  exact ⟨rfl, unhide HB4⟩
end Go.Proofs.YthkkfldmoflfaaaGreatDoor
/- Names between signs: how texts with slashes are scanned and parsed. -/
namespace Go.Proofs.YthkkfldmoflfaaaGreatDoor
open Go.RowKit Go.Maps
/-- A name with a slash behind it is one word. -/
theorem nm_slash {cs : List Nat} (h : isNm cs = true) (r : List Nat) : tokA (cs ++ 47 :: r) false = some ⟨3, cs, cs⟩ := by
  obtain ⟨c, t, e, hb⟩ := nm_head h
  have hge := begC_ge hb
  have hn := (isNm_name h).2
  have h0 := (isNm_name h).1
  have e2 : cs ++ 47 :: r = c :: (t ++ 47 :: r) := by rw [e]; rfl
  have hna : nameA (cs ++ 47 :: r) = cs := nameA_run cs (47 :: r) (fun c hc => by cases hc; decide) hn h0
  have hq : qnameA (cs ++ 47 :: r) = cs := by
    rw [qnameA_eq, hna, List.drop_left, show heads 58 (47 :: r) = false from rfl, Bool.false_and, Bool.and_false, if_neg (by decide)]
  have hw : wordA (cs ++ 47 :: r) = cs := by
    unfold wordA
    rw [hq, e2, heads_cons, if_neg (by simp; omega), ← e2, List.drop_left, if_neg]
    rw [Bool.and_eq_true]
    rintro ⟨_, h2⟩
    cases h2
  have hd : digC c = false := by simp [digC]; omega
  rw [tokA_word false (by rw [e2]; exact numA_no c _ hd (fun e => by omega)) (by rw [e2]; exact strAt_other (by omega)) (by rw [e2]; exact strAt_other (by omega)) (by rw [e2]; exact varA_other (by omega)) (by rw [hw]; exact h0), hw, List.drop_left]
  rfl
/-- The tokens that are told of characters, whatever stood ahead: 'pl': an operator is asked for. -/
inductive Toks : Bool → List Nat → List Tok → Prop where
  | nil (pl : Bool) : Toks pl [] []
  | cons (pl : Bool) (l l' : List Nat) (t : Tok) (ts : List Tok) (hb : l.dropWhile blankC = l) (ht : tokA l pl = some t) (he : l = t.raw ++ l') (hr : t.raw ≠ []) (hn : Toks (behindOp t) l' ts) : Toks pl l (t :: ts)
theorem toks_scan {n : List Nat → Nat} {pl : Bool} {l : List Nat} {ts : List Tok} (h : Toks pl l ts) : ∀ (f : Nat) (acc : List (Tok × Nat)) (pre : List Nat), plOf acc = pl → l.length < f → ∃ qs, scanA n f acc pre l = .ok (acc ++ qs) ∧ qs.map (·.1) = ts := by
  induction h with
  | nil pl =>
    intro f acc pre _ hf
    cases f with
    | zero => omega
    | succ f => exact ⟨[], by rw [List.append_nil]; rfl, rfl⟩
  | cons pl l l' t ts hb ht he hr hn ih =>
    intro f acc pre hp hf
    cases f with
    | zero => omega
    | succ f =>
      have hne : l ≠ [] := by
        intro e0
        rw [e0] at he
        cases hx : t.raw with
        | nil => exact hr hx
        | cons a b => rw [hx] at he; cases he
      have htw : l.takeWhile blankC = [] := by
        cases l with
        | nil => rfl
        | cons c r =>
          rw [List.takeWhile_cons]
          by_cases hc : blankC c = true
          · rw [List.dropWhile_cons_of_pos hc] at hb
            have := congrArg List.length hb
            have h2 := (List.dropWhile_suffix (p := blankC) (l := r)).length_le
            simp only [List.length_cons] at this
            omega
          · rw [if_neg hc]
      have hlen : l'.length < f := by
        have := congrArg List.length he
        rw [List.length_append] at this
        have : 0 < t.raw.length := List.length_pos_iff.2 hr
        omega
      obtain ⟨qs, h1, h2⟩ := ih f (acc ++ [(t, n (pre ++ l.takeWhile blankC))]) (pre ++ l.takeWhile blankC ++ t.raw) (by unfold plOf; rw [List.getLast?_append]; rfl) hlen
      refine ⟨(t, n (pre ++ l.takeWhile blankC)) :: qs, ?_, by rw [List.map_cons, h2]⟩
      rw [scanA, hb, if_neg (by simpa using hne), hp, ht]
      simp only
      rw [show l.drop t.raw.length = l' by rw [he]; exact List.drop_left, h1, List.append_assoc]
      rfl
theorem toks_of {cs : List Nat} {ts : List Tok} (h : Toks false cs ts) : ∃ qs, scanOf cs = .ok qs ∧ qs.map (·.1) = ts := by
  obtain ⟨qs, h1, h2⟩ := toks_scan (n := fun l => (tx l).length) h (cs.length + 1) [] [] rfl (by omega)
  exact ⟨qs, by unfold scanOf; rw [h1, List.nil_append], h2⟩
end Go.Proofs.YthkkfldmoflfaaaGreatDoor
