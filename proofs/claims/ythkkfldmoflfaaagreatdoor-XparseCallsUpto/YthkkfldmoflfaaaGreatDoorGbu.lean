/- Several texts, laid as one. -/
import Derived.Test.YthkkfldmoflfaaaGreatDoorGar
import Derived.Test.YthkkfldmoflfaaaGreatDoorGbi
import Derived.Test.YthkkfldmoflfaaaGreatDoorGbt
import Derived.Test.YthkkfldmoflfaaaGreatDoorGbs
import Derived.Test.YthkkfldmoflfaaaGreatDoorGap
import Derived.Test.YthkkfldmoflfaaaGreatDoorGaw
import Derived.Deep.RegionWith
import Derived.Deep.DeepCutAuto
/- xparse's signOf and grammarOf. -/
namespace Go.Proofs.YthkkfldmoflfaaaGreatDoor
open Go.RowKit Go.Maps
/-- An operator's grammar. -/
def gramX (o : Nat) : Nat := match opTab.find? (fun x => x.2.1 == o) with | some x => x.2.2 | none => if o = 14 then 6 else 8
/-- An operator's sign. -/
def signX (o : Nat) : List Nat := match opTab.find? (fun x => x.2.1 == o) with | some x => x.1 | none => []
theorem gram_yes : ∀ o, o < 24 → ∀ k, k < 14 → (opAt k).2.1 = o → gramX o = (opAt k).2.2 ∧ signX o = (opAt k).1 := by decide
theorem gram_no : ∀ o, o < 24 → (∀ k, k < 14 → ((opAt k).2.1 == o) = false) → gramX o = if o = 14 then 6 else 8 := by decide
set_option maxRecDepth 100000 in
set_option maxHeartbeats 2000000 in
theorem pgrammarOf_any (o : Nat) (w : World) (ho : o < 24) (hE : EnvG w) :
    Calls Tryz.prog 96 #[.int .i64 (o : Nat)] w fun e w' => e = .returned (.int .i64 (gramX o : Nat)) ∧ Below w.heap.size w w' := by
  have HSG := hide hE.ops
  have HO := hide ho
  clear hE ho
  go_enter Tryz.func96, Tryz.ntmps96
  go_wp2_with (refine wpList_load_mid rfl 122 _ rfl 3 0 rfl opCells _ (unhide HSG) Tryz.underlying122 rfl (by kernel_rfl) ?_)
  have hix := op_index
  generalize opCells.toArray = sv at *
  go_loopw [6] (fun v wr => ∃ k : Nat, v = .int .i64 (k : Nat) ∧ k ≤ 14 ∧ Hid (∀ j, j < k → ((opAt j).2.1 == o) = false) ∧ Hid (Below w.heap.size w wr)) (fun v _ => 14 - (intOf v).toNat)
  case atStart => exact ⟨0, rfl, by omega, hide (fun j hj => absurd hj (by omega)), hide (Below.refl _ _)⟩
  case round =>
    obtain ⟨k, rfl, hk, HNO, HB⟩ := hrel
    by_cases hkn : k < 14
    · have hi := hix k hkn
      have HY : Hid (((opAt k).2.1 == o) = true → gramX o = (opAt k).2.2) := hide (fun h => (gram_yes o (unhide HO) k hkn (beq_iff_eq.1 h)).1)
      have HN2 : Hid (((opAt k).2.1 == o) = false → ∀ j, j < k + 1 → ((opAt j).2.1 == o) = false) := hide fun h j hj => by
        by_cases hjk : j = k
        · rw [hjk]; exact h
        · exact unhide HNO j (by omega)
      clear hix
      have n1 : (k : Int) < 14 := by omega
      have HBC := hide (icast_beq (opAt k).2.1 o)
      generalize opAt k = ak at *
      obtain ⟨a1, a2, a3⟩ := ak
      simp only at hi HY HN2 HBC
      have hba : Below wr.heap.size wr (wr.alloc (.cells #[.string (T a1), .int .i64 (a2 : Nat), .int .i64 (a3 : Nat)] 121)) := (Below.refl _ _).alloc (Nat.le_refl _) _
      have HB2 := hide (Below.then (unhide HB) hba)
      clear hba
      cases hb : (a2 == o) with
      | false =>
        rw [hb] at HBC HN2
        have q := unhide HBC
        have HN3 := hide (unhide HN2 rfl)
        clear HN2 HY HNO hb
        go_wp2_with fail
        exact ⟨⟨k + 1, rfl, by omega, HN3, HB2⟩, by show 14 - ((k : Int) + 1).toNat < 14 - (k : Int).toNat; omega⟩
      | true =>
        rw [hb] at HBC HY
        have q := unhide HBC
        have HY2 := hide (unhide HY rfl)
        clear HN2 HY HNO hb
        go_wp2_with fail
        go_returns
        exact ⟨by rw [unhide HY2]; exact rfl, unhide HB2⟩
    · obtain rfl : k = 14 := by omega
      clear hix
      have HZ := hide (gram_no o (unhide HO) (unhide HNO))
      clear HNO
      by_cases h14 : o = 14
      · have q : (((o : Nat) : Int) == 14) = true := icast_eq (by omega)
        have HZ2 : Hid (gramX o = 6) := hide (by rw [unhide HZ, if_pos h14])
        clear h14 HZ
        go_wp2_with fail
        go_returns
        exact ⟨by rw [unhide HZ2]; exact rfl, unhide HB⟩
      · have q : (((o : Nat) : Int) == 14) = false := icast_ne (by omega)
        have HZ2 : Hid (gramX o = 8) := hide (by rw [unhide HZ, if_neg h14])
        clear h14 HZ
        go_wp2_with fail
        go_returns
        exact ⟨by rw [unhide HZ2]; exact rfl, unhide HB⟩
set_option maxRecDepth 100000 in
set_option maxHeartbeats 2000000 in
theorem psignOf_any (o : Nat) (w : World) (ho : o < 24) (hm : ∃ k, k < 14 ∧ (opAt k).2.1 = o) (hE : EnvG w) :
    Calls Tryz.prog 95 #[.int .i64 (o : Nat)] w fun e w' => e = .returned (.tuple #[.string (T (signX o)), .bool true]) ∧ Below w.heap.size w w' := by
  have HSG := hide hE.ops
  have HO := hide ho
  have HM := hide hm
  clear hE ho hm
  go_enter Tryz.func95, Tryz.ntmps95
  go_wp2_with (refine wpList_load_mid rfl 122 _ rfl 3 0 rfl opCells _ (unhide HSG) Tryz.underlying122 rfl (by kernel_rfl) ?_)
  have hix := op_index
  generalize opCells.toArray = sv at *
  go_loopw [7] (fun v wr => ∃ k : Nat, v = .int .i64 (k : Nat) ∧ k ≤ 14 ∧ Hid (∀ j, j < k → ((opAt j).2.1 == o) = false) ∧ Hid (Below w.heap.size w wr)) (fun v _ => 14 - (intOf v).toNat)
  case atStart => exact ⟨0, rfl, by omega, hide (fun j hj => absurd hj (by omega)), hide (Below.refl _ _)⟩
  case round =>
    obtain ⟨k, rfl, hk, HNO, HB⟩ := hrel
    by_cases hkn : k < 14
    · have hi := hix k hkn
      have HY : Hid (((opAt k).2.1 == o) = true → signX o = (opAt k).1) := hide (fun h => (gram_yes o (unhide HO) k hkn (beq_iff_eq.1 h)).2)
      have HN2 : Hid (((opAt k).2.1 == o) = false → ∀ j, j < k + 1 → ((opAt j).2.1 == o) = false) := hide fun h j hj => by
        by_cases hjk : j = k
        · rw [hjk]; exact h
        · exact unhide HNO j (by omega)
      clear hix
      have n1 : (k : Int) < 14 := by omega
      have HBC := hide (icast_beq (opAt k).2.1 o)
      generalize opAt k = ak at *
      obtain ⟨a1, a2, a3⟩ := ak
      simp only at hi HY HN2 HBC
      have hba : Below wr.heap.size wr (wr.alloc (.cells #[.string (T a1), .int .i64 (a2 : Nat), .int .i64 (a3 : Nat)] 121)) := (Below.refl _ _).alloc (Nat.le_refl _) _
      have HB2 := hide (Below.then (unhide HB) hba)
      clear hba
      cases hb : (a2 == o) with
      | false =>
        rw [hb] at HBC HN2
        have q := unhide HBC
        have HN3 := hide (unhide HN2 rfl)
        clear HN2 HY HNO hb
        go_wp2_with fail
        exact ⟨⟨k + 1, rfl, by omega, HN3, HB2⟩, by show 14 - ((k : Int) + 1).toNat < 14 - (k : Int).toNat; omega⟩
      | true =>
        rw [hb] at HBC HY
        have q := unhide HBC
        have HY2 := hide (unhide HY rfl)
        clear HN2 HY HNO hb
        go_wp2_with fail
        go_returns
        exact ⟨by rw [unhide HY2]; exact rfl, unhide HB2⟩
    · obtain ⟨j, hj, hjo⟩ := unhide HM
      have := unhide HNO j (by omega)
      rw [hjo] at this
      simp at this
end Go.Proofs.YthkkfldmoflfaaaGreatDoor
/- xparse's writer: numbers, what is negative, operators without ( ). -/
namespace Go.Proofs.YthkkfldmoflfaaaGreatDoor
open Go.RowKit Go.Maps
theorem IsW.below {B b : Nat} {bs : List Value} {w w' : World} (h : IsW B b bs w) (hb : Below w.heap.size w w') : IsW B b bs w' := by
  have go : ∀ p, Lib.BuilderAtF 77 5 B b p bs w → Lib.BuilderAtF 77 5 B b p bs w' := by
    rintro p ⟨hB, v, hbk, hown, hne⟩
    refine ⟨hB, v, blockB hbk hb, ⟨hown.1, ?_⟩, hne⟩
    rcases hown.2 with h | ⟨g, cap, cur, fz, h1, h2, h3, h4⟩
    · exact .inl h
    · exact .inr ⟨g, cap, cur, fz, h1, h2, blockB h3 hb, h4⟩
  rcases h with h | h
  · exact .inl (go _ h)
  · exact .inr (go _ h)
/-- A writer at block b that holds some bytes, above a world. -/
structure WAt (Wb : World) (b : Nat) (bs : List UInt8) (w : World) : Prop where
  bld : IsW Wb.heap.size b (Lib.byteCells bs) w
  bel : Below Wb.heap.size Wb w
theorem WAt.lt {Wb : World} {b : Nat} {bs : List UInt8} {w : World} (h : WAt Wb b bs w) : b < w.heap.size := by
  rcases h.bld with h | h
  · exact h.lt
  · exact h.lt
theorem WAt.below {Wb : World} {b : Nat} {bs : List UInt8} {w w' : World} (h : WAt Wb b bs w) (hb : Below w.heap.size w w') : WAt Wb b bs w' :=
  ⟨h.bld.below hb, h.bel.trans (hb.mono h.bel.size)⟩
theorem KeptW.of {b : Nat} {w w' : World} (hb : Below w.heap.size w w') : KeptW b w w' := fun _ _ hk _ _ => blockB hk hb
theorem KeptW.var {b q : Nat} {w w' : World} {x : Ex} {v : Value} (h : KeptW b w w') (hq : w.heap[q]? = some (oneB x v)) (hne : q ≠ b) : w'.heap[q]? = some (oneB x v) :=
  h q _ hq (fun e => hne (Option.some.inj e)) (fun c fz e => by injection e with _ h2; exact absurd h2 (by decide))
/-- What a call on the writer leaves. -/
def outW (Wb : World) (b : Nat) (w : World) (bs : List UInt8) (e : Ending) (w' : World) : Prop := e = .returned (.tuple #[]) ∧ IsW Wb.heap.size b (Lib.byteCells bs) w' ∧ Below Wb.heap.size w w' ∧ KeptW b w w'
def WExpr (Wb : World) (x : Ex) (l : List UInt8) : Prop := ∀ (b : Nat) (bs : List UInt8) (al : Option Addr) (cc : Nat) (w : World) (S : Nat → Prop), WAt Wb b bs w → exV Wb S x (.slice al x.kids.length cc) → bs.length + l.length ≤ 10000 → Calls Tryz.prog 29 #[.pointer (some ⟨b, 0, none⟩), exAgg x (.slice al x.kids.length cc)] w (outW Wb b w (bs ++ l))
def WOpd (Wb : World) (x : Ex) (g : Nat) (l : List UInt8) : Prop := ∀ (b : Nat) (bs : List UInt8) (al : Option Addr) (cc : Nat) (w : World) (S : Nat → Prop), WAt Wb b bs w → exV Wb S x (.slice al x.kids.length cc) → bs.length + l.length ≤ 10000 → Calls Tryz.prog 85 #[.pointer (some ⟨b, 0, none⟩), exAgg x (.slice al x.kids.length cc), .int .i64 (g : Nat)] w (outW Wb b w (bs ++ l))
theorem strCells_eq (l : List UInt8) : Lib.strCells (⟨l.toArray⟩ : ByteArray) = Lib.byteCells l := by
  unfold Lib.strCells Lib.byteCells
  first | rfl | simp
theorem wput (Wb : World) (b : Nat) (bs l : List UInt8) (s : ByteArray) (w : World) (h : WAt Wb b bs w) (hs : s = ⟨l.toArray⟩) (hl : bs.length + l.length ≤ 1000000) :
    Calls Tryz.prog 51 #[.pointer (some ⟨b, 0, none⟩), .string s] w fun e w' => (∃ n, e = .returned (.tuple #[n, .nilIface])) ∧ IsW Wb.heap.size b (Lib.byteCells (bs ++ l)) w' ∧ Below Wb.heap.size w w' ∧ KeptW b w w' := by
  subst hs
  refine (wwriteString_any Wb.heap.size b _ _ w h.bld (by rw [Lib.byteCells_length]; show bs.length + l.toArray.size ≤ _; simp; omega) h.bel.size).mono ?_
  rintro e w' ⟨rfl, h1, h2, h3⟩
  refine ⟨⟨_, rfl⟩, ?_, h2, h3⟩
  rw [strCells_eq] at h1
  have e : Lib.byteCells bs ++ Lib.byteCells l = Lib.byteCells (bs ++ l) := by unfold Lib.byteCells; rw [List.map_append]
  rw [← e]
  exact h1
/-- The variable of a parameter, and what always holds of it. -/
theorem wvar {Wb : World} {b : Nat} {bs : List UInt8} {w : World} (h : WAt Wb b bs w) (x : Ex) (v : Value) : WAt Wb b bs (w.alloc (oneB x v)) ∧ (w.alloc (oneB x v)).heap[w.heap.size]? = some (oneB x v) ∧ Below Wb.heap.size w (w.alloc (oneB x v)) ∧ KeptW b w (w.alloc (oneB x v)) ∧ w.heap.size ≠ b := by
  have hb : Below w.heap.size w (w.alloc (oneB x v)) := (Below.refl _ _).alloc (Nat.le_refl _) _
  exact ⟨h.below hb, palloc_new _ _, hb.mono h.bel.size, KeptW.of hb, by have := h.lt; omega⟩
set_option maxRecDepth 100000 in
set_option maxHeartbeats 2000000 in
/-- A number is written as its text. -/
theorem wnum_ok (Wb : World) (x : Ex) (l : List UInt8) (h16 : x.op = 16) (hT : ∀ w, Below Wb.heap.size Wb w → Calls Tryz.prog 52 #[.agg #[.int .i64 0, .int .i64 x.num]] w fun e w' => e = .returned (.string ⟨l.toArray⟩) ∧ Below w.heap.size w w') : WExpr Wb x l := by
  intro b bs al cc w S hw hx hbs
  obtain ⟨h1, h2, h3, h4, h5⟩ := wvar hw x (.slice al x.kids.length cc)
  obtain ⟨W1, e1⟩ : ∃ W1, w.alloc (oneB x (.slice al x.kids.length cc)) = W1 := ⟨_, rfl⟩
  rw [e1] at h1 h2 h3 h4
  obtain ⟨a0, a1, a2, a3, a4, a5, a6⟩ := var_cells h2
  have HW1 := hide h1
  have HB1 := hide h3
  have HK1 := hide h4
  have HT := hide (fun w' (hC : Below W1.heap.size W1 w') => hT w' (h1.bel.trans (hC.mono h1.bel.size)))
  have HPUT := hide (fun w2 (hb : Below W1.drew.heap.size W1.drew w2) => wput Wb b bs l _ w2 (h1.below (Below.then (Below.refl _ _).drew hb)) rfl (by omega))
  have HW2 := hide (fun w2 (hb : Below W1.drew.heap.size W1.drew w2) => And.intro (h3.trans ((Below.then (Below.refl _ _).drew hb).mono h1.bel.size)) (h4.trans (KeptW.of (Below.then (Below.refl _ _).drew hb))))
  have n14 : (((x.op : Nat) : Int) == 14) = false := icast_ne (by omega)
  have n16 : (((x.op : Nat) : Int) == 16) = true := icast_eq (by omega)
  generalize hq : w.heap.size = q at *
  clear h1 h2 h3 h4 hw hx hbs hT h16
  go_enter Tryz.func29, Tryz.ntmps29
  go_wp2_with fail
  go_region_law (first
    | (go_simp; go_at_call 52; refine (unhide HT _ (by repeat (first | exact Below.refl _ _ | refine Below.drew ?_))).mono ?_; rintro e w2 ⟨rfl, hb2⟩; (have HB9 := hide hb2); clear hb2)
    | (go_simp; go_at_call 51; refine (unhide HPUT _ (unhide HB9)).mono ?_; rintro e w3 ⟨⟨n, rfl⟩, r1, r2, r3⟩; (have HR1 := hide r1); (have HR2 := hide r2); (have HR3 := hide r3); clear r1 r2 r3))
  all_goals
    go_wp2_with fail
    go_end0
    exact ⟨rfl, unhide HR1, (unhide HW2 _ (unhide HB9)).1.trans (unhide HR2), (unhide HW2 _ (unhide HB9)).2.trans (unhide HR3)⟩
set_option maxRecDepth 100000 in
set_option maxHeartbeats 2000000 in
/-- An operand that needs no ( ). -/
theorem wopd_ok (Wb : World) (hE : EnvG Wb) (x : Ex) (g : Nat) (l : List UInt8) (hop : x.op < 24) (h21 : x.op ≠ 21) (hg : g ≤ gramX x.op) (hX : WExpr Wb x l) : WOpd Wb x g l := by
  intro b bs al cc w S hw hx hbs
  obtain ⟨h1, h2, h3, h4, h5⟩ := wvar hw x (.slice al x.kids.length cc)
  obtain ⟨W1, e1⟩ : ∃ W1, w.alloc (oneB x (.slice al x.kids.length cc)) = W1 := ⟨_, rfl⟩
  rw [e1] at h1 h2 h3 h4
  obtain ⟨a0, a1, a2, a3, a4, a5, a6⟩ := var_cells h2
  have HW1 := hide h1
  have HB1 := hide h3
  have HK1 := hide h4
  have HQ1 := hide h2
  have HC1 := hide (pgrammarOf_any x.op W1 hop (hE.below h1.bel))
  have HX := hide (fun w hw => hX b bs al cc w S hw hx hbs)
  have n21 : (((x.op : Nat) : Int) == 21) = false := icast_ne (by omega)
  have ng : decide (((gramX x.op : Nat) : Int) < ((g : Nat) : Int)) = false := decide_eq_false (by omega)
  have ng2 : decide (gramX x.op < g) = false := decide_eq_false (by omega)
  generalize hq : w.heap.size = q at *
  clear h1 h2 h3 h4 hw hx hbs hX hE h21 hop hg
  generalize gramX x.op = gx at *
  go_enter Tryz.func85, Tryz.ntmps85
  go_wp2_with fail
  refine (unhide HC1).mono ?_
  rintro e w2 ⟨rfl, hb2⟩
  have HW2 := hide ((unhide HW1).below hb2)
  have HB2 := hide ((unhide HB1).trans (hb2.mono ((unhide HW1).bel.size)))
  have HK2 := hide ((unhide HK1).trans (KeptW.of hb2))
  have hq2 := blockB (unhide HQ1) hb2
  have HC2 := hide (unhide HX w2 (unhide HW2))
  clear hb2 HC1 a0 a1 a2 a3 a4 a5 a6
  obtain ⟨a0, a1, a2, a3, a4, a5, a6⟩ := var_cells hq2
  clear hq2
  go_wp2_with fail
  refine (unhide HC2).mono ?_
  rintro e w3 ⟨rfl, r1, r2, r3⟩
  have HR1 := hide r1
  have HB3 := hide ((unhide HB2).trans r2)
  have HK3 := hide ((unhide HK2).trans r3)
  clear r1 r2 r3 HC2
  go_wp2_with fail
  go_end0
  exact ⟨rfl, unhide HR1, unhide HB3, unhide HK3⟩
set_option maxRecDepth 100000 in
set_option maxHeartbeats 2000000 in
/-- What is negative: '-' and the Kid. -/
theorem wneg_ok (Wb : World) (x k : Ex) (l : List UInt8) (h14 : x.op = 14) (hk : x.kids = [k]) (hK : WOpd Wb k 6 l) : WExpr Wb x (45 :: l) := by
  intro b bs al cc w S hw hx hbs
  obtain ⟨h1, h2, h3, h4, h5⟩ := wvar hw x (.slice al x.kids.length cc)
  obtain ⟨W1, e1⟩ : ∃ W1, w.alloc (oneB x (.slice al x.kids.length cc)) = W1 := ⟨_, rfl⟩
  rw [e1] at h1 h2 h3 h4
  obtain ⟨g, o, al1, cc1, ev, hx1, k0, k1, k2, k3, k4, k5, k6⟩ := hx.ks.kid7 0 k (by rw [hk]; rfl)
  subst ev
  rw [Nat.zero_mul, Nat.add_zero] at k0 k1 k2 k3 k4 k5 k6
  have hb := h1.bel
  replace k0 := pkept hb k0
  replace k1 := pkept hb k1
  replace k2 := pkept hb k2
  replace k3 := pkept hb k3
  replace k4 := pkept hb k4
  replace k5 := pkept hb k5
  replace k6 := pkept hb k6
  obtain ⟨a0, a1, a2, a3, a4, a5, a6⟩ := var_cells h2
  have HB1 := hide h3
  have HK1 := hide h4
  have n14 : (((x.op : Nat) : Int) == 14) = true := icast_eq (by omega)
  have n0 : 0 < x.kids.length := by rw [hk]; exact Nat.zero_lt_one
  -- negative, at the Kid
  have HN : Hid (Calls Tryz.prog 50 #[.pointer (some ⟨b, 0, none⟩), exAgg k (.slice al1 k.kids.length cc1)] W1 (outW Wb b W1 (bs ++ 45 :: l))) := hide (by
    obtain ⟨g1, g2, g3, g4, g5⟩ := wvar h1 k (.slice al1 k.kids.length cc1)
    obtain ⟨W2, e2⟩ : ∃ W2, W1.alloc (oneB k (.slice al1 k.kids.length cc1)) = W2 := ⟨_, rfl⟩
    rw [e2] at g1 g2 g3 g4
    have HB2 := hide g3
    have HK2 := hide g4
    have HQ2 := hide g2
    have HNE := hide g5
    have HC := hide (wput Wb b bs [45] ⟨#[45]⟩ W2 g1 rfl (by show bs.length + 1 ≤ 1000000; omega))
    have HG1 := hide g1
    have HX1 := hide hx1
    have HOPD := hide hK
    have HBS := hide hbs
    clear h1 h2 h3 h4 h5 g1 g2 g3 g4 g5 k0 k1 k2 k3 k4 k5 k6 a0 a1 a2 a3 a4 a5 a6 n14 n0 hw hx hb hK hx1 e1 HB1 HK1 hbs
    go_enter Tryz.func50, Tryz.ntmps50
    go_wp2_with fail
    refine (unhide HC).mono ?_
    rintro e w3 ⟨⟨n, rfl⟩, r1, r2, r3⟩
    have hq3 := r3.var (unhide HQ2) (unhide HNE)
    obtain ⟨a0, a1, a2, a3, a4, a5, a6⟩ := var_cells hq3
    have HC2 := hide (unhide HOPD b (bs ++ [45]) al1 cc1 w3 S ⟨r1, (unhide HG1).bel.trans r2⟩ (unhide HX1) (by have := unhide HBS; simp only [List.length_append, List.length_cons, List.length_nil] at this ⊢; omega))
    have HB3 := hide ((unhide HB2).trans r2)
    have HK3 := hide ((unhide HK2).trans r3)
    clear r1 r2 r3 hq3 HC HOPD
    go_wp2_with fail
    refine (unhide HC2).mono ?_
    rintro e w4 ⟨rfl, r1, r2, r3⟩
    have HR1 := hide r1
    have HB4 := hide ((unhide HB3).trans r2)
    have HK4 := hide ((unhide HK3).trans r3)
    clear r1 r2 r3 HC2
    go_wp2_with fail
    go_end0
    refine ⟨rfl, ?_, unhide HB4, unhide HK4⟩
    have := unhide HR1
    rw [List.append_assoc] at this
    exact this)
  clear h1 h2 h3 h4 h5 hw hx hb hK hx1 hbs hk h14
  go_enter Tryz.func29, Tryz.ntmps29
  go_wp2_with fail
  refine (unhide HN).mono ?_
  rintro e w3 ⟨rfl, r1, r2, r3⟩
  have HR1 := hide r1
  have HB3 := hide ((unhide HB1).trans r2)
  have HK3 := hide ((unhide HK1).trans r3)
  clear r1 r2 r3 HN
  go_wp2_with fail
  go_end0
  exact ⟨rfl, unhide HR1, unhide HB3, unhide HK3⟩
end Go.Proofs.YthkkfldmoflfaaaGreatDoor
/- xparse's writer: an operator between operands that need no ( ). -/
namespace Go.Proofs.YthkkfldmoflfaaaGreatDoor
open Go.RowKit Go.Maps
theorem signX_asc : ∀ o, o < 24 → (signX o).all (fun c => decide (32 ≤ c) && decide (c < 128)) = true ∧ (signX o).length ≤ 3 := by decide
/-- What an operator is written as, between two texts. -/
def opL (o : Nat) : List UInt8 := 32 :: (tx (signX o) ++ [32])
theorem opL_len (o : Nat) (h : o < 24) : (opL o).length ≤ 14 ∧ (T (signX o)).size ≤ 12 := by
  have h1 := (signX_asc o h).2
  have h2 := tx_len4 (signX o)
  unfold opL
  rw [T_size]
  simp only [List.length_cons, List.length_append, List.length_nil]
  omega
theorem opL_bytes (o : Nat) : (⟨#[32]⟩ : ByteArray) ++ T (signX o) ++ (⟨#[32]⟩ : ByteArray) = ⟨(opL o).toArray⟩ := by
  apply ByteArray.ext
  apply Array.toList_inj.1
  rw [ByteArray.data_append, ByteArray.data_append]
  simp only [Array.toList_append]
  rw [show (T (signX o)).data.toList = tx (signX o) from T_data _]
  rfl
set_option maxRecDepth 100000 in
set_option maxHeartbeats 2000000 in
theorem woperator_ok (Wb : World) (hE : EnvG Wb) (x a c : Ex) (la lc : List UInt8) (hop : x.op < 24) (hm : ∃ k, k < 14 ∧ (opAt k).2.1 = x.op) (hk : x.kids = [a, c]) (hA : WOpd Wb a (gramX x.op) la) (hC : WOpd Wb c (gramX x.op + 1) lc) (hg : gramX x.op ≤ 100)
    (b : Nat) (bs : List UInt8) (al : Option Addr) (cc : Nat) (w : World) (S : Nat → Prop) (hw : WAt Wb b bs w) (hx : exV Wb S x (.slice al x.kids.length cc)) (hbs : bs.length + (la ++ (opL x.op ++ lc)).length ≤ 10000) :
    Calls Tryz.prog 58 #[.pointer (some ⟨b, 0, none⟩), exAgg x (.slice al x.kids.length cc)] w (outW Wb b w (bs ++ (la ++ (opL x.op ++ lc)))) := by
  obtain ⟨h1, h2, h3, h4, h5⟩ := wvar hw x (.slice al x.kids.length cc)
  obtain ⟨W1, e1⟩ : ∃ W1, w.alloc (oneB x (.slice al x.kids.length cc)) = W1 := ⟨_, rfl⟩
  rw [e1] at h1 h2 h3 h4
  have HKA := hide (hx.ks.kid7 0 a (by rw [hk]; rfl))
  have HKC := hide (hx.ks.kid7 1 c (by rw [hk]; rfl))
  obtain ⟨a0, a1, a2, a3, a4, a5, a6⟩ := var_cells h2
  have HW1 := hide h1
  have HB1 := hide h3
  have HK1 := hide h4
  have HQ1 := hide h2
  have HNE := hide h5
  have n0 : 0 < x.kids.length := by rw [hk]; exact Nat.succ_pos _
  have n1 : 1 < x.kids.length := by rw [hk]; exact Nat.lt_succ_self _
  have hlen : x.kids.length = 2 := by rw [hk]; rfl
  have HS := hide (psignOf_any x.op W1 hop hm (hE.below h1.bel))
  have HG := hide (fun w (hw : WAt Wb b bs w) => pgrammarOf_any x.op w hop (hE.below hw.bel))
  have HOA := hide hA
  have HOC := hide hC
  have HBS := hide hbs
  have hol := opL_len x.op hop
  have HOL := hide hol
  have HOB := hide (opL_bytes x.op)
  have w9 : IntKind.i64.wrap (((gramX x.op : Nat) : Int) + 1) = ((gramX x.op + 1 : Nat) : Int) := by rw [wrap_small] <;> omega
  have hz1 : (9223372036854775807 < 1 + (T (signX x.op)).size) = False := by simp only [eq_iff_iff, iff_false]; omega
  have hz2 : (9223372036854775807 < 1 + (T (signX x.op)).size + 1) = False := by simp only [eq_iff_iff, iff_false]; omega
  have hz3 : (⟨#[32]⟩ : ByteArray).size = 1 := rfl
  have hz4 : (T (signX x.op)).size ≤ 12 := hol.2
  clear h1 h2 h3 h4 h5 hw hx hbs hA hC hE hop hm hk hol hlen
  generalize hq : w.heap.size = q at *
  generalize hsg : T (signX x.op) = sg at *
  generalize hgg : gramX x.op = gg at *
  go_enter Tryz.func58, Tryz.ntmps58
  go_wp2_with fail
  refine (unhide HS).mono ?_
  rintro e w2 ⟨rfl, hb2⟩
  have HW2 := hide ((unhide HW1).below hb2)
  have HB2 := hide ((unhide HB1).trans (hb2.mono ((unhide HW1).bel.size)))
  have HK2 := hide ((unhide HK1).trans (KeptW.of hb2))
  have HQ2 := hide (blockB (unhide HQ1) hb2)
  have HG2 := hide (unhide HG w2 (unhide HW2))
  clear hb2 HS a0 a1 a2 a3 a4 a5 a6
  obtain ⟨a0, a1, a2, a3, a4, a5, a6⟩ := var_cells (unhide HQ2)
  go_wp2_with fail
  refine (unhide HG2).mono ?_
  rintro e w3 ⟨rfl, hb3⟩
  have HW3 := hide ((unhide HW2).below hb3)
  have HB3 := hide ((unhide HB2).trans (hb3.mono ((unhide HW2).bel.size)))
  have HK3 := hide ((unhide HK2).trans (KeptW.of hb3))
  have HQ3 := hide (blockB (unhide HQ2) hb3)
  clear hb3 HG HG2 a0 a1 a2 a3 a4 a5 a6
  obtain ⟨a0, a1, a2, a3, a4, a5, a6⟩ := var_cells (unhide HQ3)
  obtain ⟨g, o, al1, cc1, ev, hx1, k0, k1, k2, k3, k4, k5, k6⟩ := unhide HKA
  subst ev
  have HC1 := hide (unhide HOA b bs al1 cc1 w3 S (unhide HW3) hx1 (by have := unhide HBS; simp only [List.length_append] at this; omega))
  rw [Nat.zero_mul, Nat.add_zero] at k0 k1 k2 k3 k4 k5 k6
  have hb := (unhide HW3).bel
  replace k0 := pkept hb k0
  replace k1 := pkept hb k1
  replace k2 := pkept hb k2
  replace k3 := pkept hb k3
  replace k4 := pkept hb k4
  replace k5 := pkept hb k5
  replace k6 := pkept hb k6
  clear hb hx1 HOA
  go_wp2_with fail
  refine (unhide HC1).mono ?_
  rintro e w4 ⟨rfl, r1, r2, r3⟩
  have HW4 : Hid (WAt Wb b (bs ++ la) w4) := hide ⟨r1, (unhide HW3).bel.trans r2⟩
  have HB4 := hide ((unhide HB3).trans r2)
  have HK4 := hide ((unhide HK3).trans r3)
  have HQ4 := hide (r3.var (unhide HQ3) (by exact unhide HNE))
  have HP := hide (wput Wb b (bs ++ la) (opL x.op) _ w4 (unhide HW4) (unhide HOB) (by have := unhide HBS; simp only [List.length_append] at this ⊢; omega))
  clear r1 r2 r3 HC1 a0 a1 a2 a3 a4 a5 a6 k0 k1 k2 k3 k4 k5 k6
  obtain ⟨a0, a1, a2, a3, a4, a5, a6⟩ := var_cells (unhide HQ4)
  go_wp2_with fail
  refine (unhide HP).mono ?_
  rintro e w5 ⟨⟨n, rfl⟩, r1, r2, r3⟩
  have HW5 : Hid (WAt Wb b (bs ++ la ++ opL x.op) w5) := hide ⟨r1, (unhide HW4).bel.trans r2⟩
  have HB5 := hide ((unhide HB4).trans r2)
  have HK5 := hide ((unhide HK4).trans r3)
  have HQ5 := hide (r3.var (unhide HQ4) (by exact unhide HNE))
  clear r1 r2 r3 HP a0 a1 a2 a3 a4 a5 a6
  obtain ⟨a0, a1, a2, a3, a4, a5, a6⟩ := var_cells (unhide HQ5)
  obtain ⟨g', o', al2, cc2, ev, hx2, k0, k1, k2, k3, k4, k5, k6⟩ := unhide HKC
  cases ev
  have HC2 := hide (unhide HOC b (bs ++ la ++ opL x.op) al2 cc2 w5 S (unhide HW5) hx2 (by have := unhide HBS; simp only [List.length_append] at this ⊢; omega))
  rw [Nat.one_mul] at k0 k1 k2 k3 k4 k5 k6
  have hb := (unhide HW5).bel
  replace k0 := pkept hb k0
  replace k1 := pkept hb k1
  replace k2 := pkept hb k2
  replace k3 := pkept hb k3
  replace k4 := pkept hb k4
  replace k5 := pkept hb k5
  replace k6 := pkept hb k6
  clear hb hx2 HOC
  go_wp2_with fail
  refine (unhide HC2).mono ?_
  rintro e w6 ⟨rfl, r1, r2, r3⟩
  have HR1 := hide r1
  have HB6 := hide ((unhide HB5).trans r2)
  have HK6 := hide ((unhide HK5).trans r3)
  clear r1 r2 r3 HC2 a0 a1 a2 a3 a4 a5 a6 k0 k1 k2 k3 k4 k5 k6
  go_wp2_with fail
  go_end0
  refine ⟨rfl, ?_, unhide HB6, unhide HK6⟩
  have := unhide HR1
  rw [List.append_assoc, List.append_assoc] at this
  exact this
set_option maxRecDepth 100000 in
set_option maxHeartbeats 2000000 in
/-- An operator between two operands. -/
theorem woper_ok (Wb : World) (hE : EnvG Wb) (x a c : Ex) (la lc : List UInt8) (hop : x.op < 24) (hm : ∃ k, k < 14 ∧ (opAt k).2.1 = x.op) (hno : x.op < 14 ∨ x.op = 15) (hk : x.kids = [a, c]) (hA : WOpd Wb a (gramX x.op) la) (hC : WOpd Wb c (gramX x.op + 1) lc) (hg : gramX x.op ≤ 100) : WExpr Wb x (la ++ (opL x.op ++ lc)) := by
  intro b bs al cc w S hw hx hbs
  obtain ⟨h1, h2, h3, h4, h5⟩ := wvar hw x (.slice al x.kids.length cc)
  obtain ⟨W1, e1⟩ : ∃ W1, w.alloc (oneB x (.slice al x.kids.length cc)) = W1 := ⟨_, rfl⟩
  rw [e1] at h1 h2 h3 h4
  obtain ⟨a0, a1, a2, a3, a4, a5, a6⟩ := var_cells h2
  have HB1 := hide h3
  have HK1 := hide h4
  have HC := hide (woperator_ok Wb hE x a c la lc hop hm hk hA hC hg b bs al cc W1 S h1 hx hbs)
  have n14 : (((x.op : Nat) : Int) == 14) = false := icast_ne (by omega)
  have n16 : (((x.op : Nat) : Int) == 16) = false := icast_ne (by omega)
  have n17 : (((x.op : Nat) : Int) == 17) = false := icast_ne (by omega)
  have n18 : (((x.op : Nat) : Int) == 18) = false := icast_ne (by omega)
  have n19 : (((x.op : Nat) : Int) == 19) = false := icast_ne (by omega)
  have n20 : (((x.op : Nat) : Int) == 20) = false := icast_ne (by omega)
  have n21 : (((x.op : Nat) : Int) == 21) = false := icast_ne (by omega)
  clear h1 h2 h3 h4 h5 hw hx hbs hA hC hE hop hm hk hno hg
  go_enter Tryz.func29, Tryz.ntmps29
  go_wp2_with fail
  refine (unhide HC).mono ?_
  rintro e w3 ⟨rfl, r1, r2, r3⟩
  have HR1 := hide r1
  have HB3 := hide ((unhide HB1).trans r2)
  have HK3 := hide ((unhide HK1).trans r3)
  clear r1 r2 r3 HC
  go_wp2_with fail
  go_end0
  exact ⟨rfl, unhide HR1, unhide HB3, unhide HK3⟩
end Go.Proofs.YthkkfldmoflfaaaGreatDoor
/- A number as a text: xnum's Text. -/
namespace Go.Proofs.YthkkfldmoflfaaaGreatDoor
open Go.RowKit
end Go.Proofs.YthkkfldmoflfaaaGreatDoor
