/- xparse's writer: numbers, what is negative, operators without ( ). -/
import Derived.Test.YthkkfldmoflfaaaGreatDoorGao
import Derived.Test.YthkkfldmoflfaaaGreatDoorGaw
import Derived.Test.YthkkfldmoflfaaaGreatDoorGbr
namespace Go.Proofs.YthkkfldmoflfaaaGreatDoor
open Go.RowKit Go.Maps
theorem IsW.below {B b : Nat} {bs : List Value} {w w' : World} (h : IsW B b bs w) (hb : Below w.heap.size w w') : IsW B b bs w' := by
  have go : ∀ p, Lib.BuilderAtF 77 5 B b p bs w → Lib.BuilderAtF 77 5 B b p bs w' := by
    rintro p ⟨hB, v, hbk, hown, hne⟩
    refine ⟨hB, v, blockB hbk hb, ⟨hown.1, ?_⟩, hne⟩
    rcases hown.2 with h | ⟨g, cap, cur, fz, h1, h2, h3, h4⟩
    · exact .inl h
    · exact .inr ⟨g, cap, cur, fz, h1, h2, blockB h3 hb, h4⟩
  rcases h with h | h
  · exact .inl (go _ h)
  · exact .inr (go _ h)
/-- A writer at block b that holds some bytes, above a world. -/
structure WAt (Wb : World) (b : Nat) (bs : List UInt8) (w : World) : Prop where
  bld : IsW Wb.heap.size b (Lib.byteCells bs) w
  bel : Below Wb.heap.size Wb w
theorem WAt.lt {Wb : World} {b : Nat} {bs : List UInt8} {w : World} (h : WAt Wb b bs w) : b < w.heap.size := by
  rcases h.bld with h | h
  · exact h.lt
  · exact h.lt
theorem WAt.below {Wb : World} {b : Nat} {bs : List UInt8} {w w' : World} (h : WAt Wb b bs w) (hb : Below w.heap.size w w') : WAt Wb b bs w' :=
  ⟨h.bld.below hb, h.bel.trans (hb.mono h.bel.size)⟩
theorem KeptW.of {b : Nat} {w w' : World} (hb : Below w.heap.size w w') : KeptW b w w' := fun _ _ hk _ _ => blockB hk hb
theorem KeptW.var {b q : Nat} {w w' : World} {x : Ex} {v : Value} (h : KeptW b w w') (hq : w.heap[q]? = some (oneB x v)) (hne : q ≠ b) : w'.heap[q]? = some (oneB x v) :=
  h q _ hq (fun e => hne (Option.some.inj e)) (fun c fz e => by injection e with _ h2; exact absurd h2 (by decide))
/-- What a call on the writer leaves. -/
def outW (Wb : World) (b : Nat) (w : World) (bs : List UInt8) (e : Ending) (w' : World) : Prop := e = .returned (.tuple #[]) ∧ IsW Wb.heap.size b (Lib.byteCells bs) w' ∧ Below Wb.heap.size w w' ∧ KeptW b w w'
def WExpr (Wb : World) (x : Ex) (l : List UInt8) : Prop := ∀ (b : Nat) (bs : List UInt8) (al : Option Addr) (cc : Nat) (w : World) (S : Nat → Prop), WAt Wb b bs w → exV Wb S x (.slice al x.kids.length cc) → bs.length + l.length ≤ 10000 → Calls Tryz.prog 29 #[.pointer (some ⟨b, 0, none⟩), exAgg x (.slice al x.kids.length cc)] w (outW Wb b w (bs ++ l))
def WOpd (Wb : World) (x : Ex) (g : Nat) (l : List UInt8) : Prop := ∀ (b : Nat) (bs : List UInt8) (al : Option Addr) (cc : Nat) (w : World) (S : Nat → Prop), WAt Wb b bs w → exV Wb S x (.slice al x.kids.length cc) → bs.length + l.length ≤ 10000 → Calls Tryz.prog 85 #[.pointer (some ⟨b, 0, none⟩), exAgg x (.slice al x.kids.length cc), .int .i64 (g : Nat)] w (outW Wb b w (bs ++ l))
theorem strCells_eq (l : List UInt8) : Lib.strCells (⟨l.toArray⟩ : ByteArray) = Lib.byteCells l := by
  unfold Lib.strCells Lib.byteCells
  first | rfl | simp
theorem wput (Wb : World) (b : Nat) (bs l : List UInt8) (s : ByteArray) (w : World) (h : WAt Wb b bs w) (hs : s = ⟨l.toArray⟩) (hl : bs.length + l.length ≤ 1000000) :
    Calls Tryz.prog 51 #[.pointer (some ⟨b, 0, none⟩), .string s] w fun e w' => (∃ n, e = .returned (.tuple #[n, .nilIface])) ∧ IsW Wb.heap.size b (Lib.byteCells (bs ++ l)) w' ∧ Below Wb.heap.size w w' ∧ KeptW b w w' := by
  subst hs
  refine (wwriteString_any Wb.heap.size b _ _ w h.bld (by rw [Lib.byteCells_length]; show bs.length + l.toArray.size ≤ _; simp; omega) h.bel.size).mono ?_
  rintro e w' ⟨rfl, h1, h2, h3⟩
  refine ⟨⟨_, rfl⟩, ?_, h2, h3⟩
  rw [strCells_eq] at h1
  have e : Lib.byteCells bs ++ Lib.byteCells l = Lib.byteCells (bs ++ l) := by unfold Lib.byteCells; rw [List.map_append]
  rw [← e]
  exact h1
/-- The variable of a parameter, and what always holds of it. -/
theorem wvar {Wb : World} {b : Nat} {bs : List UInt8} {w : World} (h : WAt Wb b bs w) (x : Ex) (v : Value) : WAt Wb b bs (w.alloc (oneB x v)) ∧ (w.alloc (oneB x v)).heap[w.heap.size]? = some (oneB x v) ∧ Below Wb.heap.size w (w.alloc (oneB x v)) ∧ KeptW b w (w.alloc (oneB x v)) ∧ w.heap.size ≠ b := by
  have hb : Below w.heap.size w (w.alloc (oneB x v)) := (Below.refl _ _).alloc (Nat.le_refl _) _
  exact ⟨h.below hb, palloc_new _ _, hb.mono h.bel.size, KeptW.of hb, by have := h.lt; omega⟩
set_option maxRecDepth 100000 in
set_option maxHeartbeats 2000000 in
/-- A number is written as its text. -/
theorem wnum_ok (Wb : World) (x : Ex) (l : List UInt8) (h16 : x.op = 16) (hT : ∀ w, Below Wb.heap.size Wb w → Calls Tryz.prog 52 #[.agg #[.int .i64 0, .int .i64 x.num]] w fun e w' => e = .returned (.string ⟨l.toArray⟩) ∧ Below w.heap.size w w') : WExpr Wb x l := by
  intro b bs al cc w S hw hx hbs
  obtain ⟨h1, h2, h3, h4, h5⟩ := wvar hw x (.slice al x.kids.length cc)
  obtain ⟨W1, e1⟩ : ∃ W1, w.alloc (oneB x (.slice al x.kids.length cc)) = W1 := ⟨_, rfl⟩
  rw [e1] at h1 h2 h3 h4
  obtain ⟨a0, a1, a2, a3, a4, a5, a6⟩ := var_cells h2
  have HW1 := hide h1
  have HB1 := hide h3
  have HK1 := hide h4
  have HT := hide (fun w' (hC : Below W1.heap.size W1 w') => hT w' (h1.bel.trans (hC.mono h1.bel.size)))
  have HPUT := hide (fun w2 (hb : Below W1.drew.heap.size W1.drew w2) => wput Wb b bs l _ w2 (h1.below (Below.then (Below.refl _ _).drew hb)) rfl (by omega))
  have HW2 := hide (fun w2 (hb : Below W1.drew.heap.size W1.drew w2) => And.intro (h3.trans ((Below.then (Below.refl _ _).drew hb).mono h1.bel.size)) (h4.trans (KeptW.of (Below.then (Below.refl _ _).drew hb))))
  have n14 : (((x.op : Nat) : Int) == 14) = false := icast_ne (by omega)
  have n16 : (((x.op : Nat) : Int) == 16) = true := icast_eq (by omega)
  generalize hq : w.heap.size = q at *
  clear h1 h2 h3 h4 hw hx hbs hT h16
  go_enter Tryz.func29, Tryz.ntmps29
  go_wp2_with fail
  go_region_law (first
    | (go_simp; go_at_call 52; refine (unhide HT _ (by repeat (first | exact Below.refl _ _ | refine Below.drew ?_))).mono ?_; rintro e w2 ⟨rfl, hb2⟩; (have HB9 := hide hb2); clear hb2)
    | (go_simp; go_at_call 51; refine (unhide HPUT _ (unhide HB9)).mono ?_; rintro e w3 ⟨⟨n, rfl⟩, r1, r2, r3⟩; (have HR1 := hide r1); (have HR2 := hide r2); (have HR3 := hide r3); clear r1 r2 r3))
  all_goals
    go_wp2_with fail
    go_end0
    exact ⟨rfl, unhide HR1, (unhide HW2 _ (unhide HB9)).1.trans (unhide HR2), (unhide HW2 _ (unhide HB9)).2.trans (unhide HR3)⟩
set_option maxRecDepth 100000 in
set_option maxHeartbeats 2000000 in
/-- An operand that needs no ( ). -/
theorem wopd_ok (Wb : World) (hE : EnvG Wb) (x : Ex) (g : Nat) (l : List UInt8) (hop : x.op < 24) (h21 : x.op ≠ 21) (hg : g ≤ gramX x.op) (hX : WExpr Wb x l) : WOpd Wb x g l := by
  intro b bs al cc w S hw hx hbs
  obtain ⟨h1, h2, h3, h4, h5⟩ := wvar hw x (.slice al x.kids.length cc)
  obtain ⟨W1, e1⟩ : ∃ W1, w.alloc (oneB x (.slice al x.kids.length cc)) = W1 := ⟨_, rfl⟩
  rw [e1] at h1 h2 h3 h4
  obtain ⟨a0, a1, a2, a3, a4, a5, a6⟩ := var_cells h2
  have HW1 := hide h1
  have HB1 := hide h3
  have HK1 := hide h4
  have HQ1 := hide h2
  have HC1 := hide (pgrammarOf_any x.op W1 hop (hE.below h1.bel))
  have HX := hide (fun w hw => hX b bs al cc w S hw hx hbs)
  have n21 : (((x.op : Nat) : Int) == 21) = false := icast_ne (by omega)
  have ng : decide (((gramX x.op : Nat) : Int) < ((g : Nat) : Int)) = false := decide_eq_false (by omega)
  have ng2 : decide (gramX x.op < g) = false := decide_eq_false (by omega)
  generalize hq : w.heap.size = q at *
  clear h1 h2 h3 h4 hw hx hbs hX hE h21 hop hg
  generalize gramX x.op = gx at *
  go_enter Tryz.func85, Tryz.ntmps85
  go_wp2_with fail
  refine (unhide HC1).mono ?_
  rintro e w2 ⟨rfl, hb2⟩
  have HW2 := hide ((unhide HW1).below hb2)
  have HB2 := hide ((unhide HB1).trans (hb2.mono ((unhide HW1).bel.size)))
  have HK2 := hide ((unhide HK1).trans (KeptW.of hb2))
  have hq2 := blockB (unhide HQ1) hb2
  have HC2 := hide (unhide HX w2 (unhide HW2))
  clear hb2 HC1 a0 a1 a2 a3 a4 a5 a6
  obtain ⟨a0, a1, a2, a3, a4, a5, a6⟩ := var_cells hq2
  clear hq2
  go_wp2_with fail
  refine (unhide HC2).mono ?_
  rintro e w3 ⟨rfl, r1, r2, r3⟩
  have HR1 := hide r1
  have HB3 := hide ((unhide HB2).trans r2)
  have HK3 := hide ((unhide HK2).trans r3)
  clear r1 r2 r3 HC2
  go_wp2_with fail
  go_end0
  exact ⟨rfl, unhide HR1, unhide HB3, unhide HK3⟩
set_option maxRecDepth 100000 in
set_option maxHeartbeats 2000000 in
/-- What is negative: '-' and the Kid. -/
theorem wneg_ok (Wb : World) (x k : Ex) (l : List UInt8) (h14 : x.op = 14) (hk : x.kids = [k]) (hK : WOpd Wb k 6 l) : WExpr Wb x (45 :: l) := by
  intro b bs al cc w S hw hx hbs
  obtain ⟨h1, h2, h3, h4, h5⟩ := wvar hw x (.slice al x.kids.length cc)
  obtain ⟨W1, e1⟩ : ∃ W1, w.alloc (oneB x (.slice al x.kids.length cc)) = W1 := ⟨_, rfl⟩
  rw [e1] at h1 h2 h3 h4
  obtain ⟨g, o, al1, cc1, ev, hx1, k0, k1, k2, k3, k4, k5, k6⟩ := hx.ks.kid7 0 k (by rw [hk]; rfl)
  subst ev
  rw [Nat.zero_mul, Nat.add_zero] at k0 k1 k2 k3 k4 k5 k6
  have hb := h1.bel
  replace k0 := pkept hb k0
  replace k1 := pkept hb k1
  replace k2 := pkept hb k2
  replace k3 := pkept hb k3
  replace k4 := pkept hb k4
  replace k5 := pkept hb k5
  replace k6 := pkept hb k6
  obtain ⟨a0, a1, a2, a3, a4, a5, a6⟩ := var_cells h2
  have HB1 := hide h3
  have HK1 := hide h4
  have n14 : (((x.op : Nat) : Int) == 14) = true := icast_eq (by omega)
  have n0 : 0 < x.kids.length := by rw [hk]; exact Nat.zero_lt_one
  -- negative, at the Kid
  have HN : Hid (Calls Tryz.prog 50 #[.pointer (some ⟨b, 0, none⟩), exAgg k (.slice al1 k.kids.length cc1)] W1 (outW Wb b W1 (bs ++ 45 :: l))) := hide (by
    obtain ⟨g1, g2, g3, g4, g5⟩ := wvar h1 k (.slice al1 k.kids.length cc1)
    obtain ⟨W2, e2⟩ : ∃ W2, W1.alloc (oneB k (.slice al1 k.kids.length cc1)) = W2 := ⟨_, rfl⟩
    rw [e2] at g1 g2 g3 g4
    have HB2 := hide g3
    have HK2 := hide g4
    have HQ2 := hide g2
    have HNE := hide g5
    have HC := hide (wput Wb b bs [45] ⟨#[45]⟩ W2 g1 rfl (by show bs.length + 1 ≤ 1000000; omega))
    have HG1 := hide g1
    have HX1 := hide hx1
    have HOPD := hide hK
    have HBS := hide hbs
    clear h1 h2 h3 h4 h5 g1 g2 g3 g4 g5 k0 k1 k2 k3 k4 k5 k6 a0 a1 a2 a3 a4 a5 a6 n14 n0 hw hx hb hK hx1 e1 HB1 HK1 hbs
    go_enter Tryz.func50, Tryz.ntmps50
    go_wp2_with fail
    refine (unhide HC).mono ?_
    rintro e w3 ⟨⟨n, rfl⟩, r1, r2, r3⟩
    have hq3 := r3.var (unhide HQ2) (unhide HNE)
    obtain ⟨a0, a1, a2, a3, a4, a5, a6⟩ := var_cells hq3
    have HC2 := hide (unhide HOPD b (bs ++ [45]) al1 cc1 w3 S ⟨r1, (unhide HG1).bel.trans r2⟩ (unhide HX1) (by have := unhide HBS; simp only [List.length_append, List.length_cons, List.length_nil] at this ⊢; omega))
    have HB3 := hide ((unhide HB2).trans r2)
    have HK3 := hide ((unhide HK2).trans r3)
    clear r1 r2 r3 hq3 HC HOPD
    go_wp2_with fail
    refine (unhide HC2).mono ?_
    rintro e w4 ⟨rfl, r1, r2, r3⟩
    have HR1 := hide r1
    have HB4 := hide ((unhide HB3).trans r2)
    have HK4 := hide ((unhide HK3).trans r3)
    clear r1 r2 r3 HC2
    go_wp2_with fail
    go_end0
    refine ⟨rfl, ?_, unhide HB4, unhide HK4⟩
    have := unhide HR1
    rw [List.append_assoc] at this
    exact this)
  clear h1 h2 h3 h4 h5 hw hx hb hK hx1 hbs hk h14
  go_enter Tryz.func29, Tryz.ntmps29
  go_wp2_with fail
  refine (unhide HN).mono ?_
  rintro e w3 ⟨rfl, r1, r2, r3⟩
  have HR1 := hide r1
  have HB3 := hide ((unhide HB1).trans r2)
  have HK3 := hide ((unhide HK1).trans r3)
  clear r1 r2 r3 HN
  go_wp2_with fail
  go_end0
  exact ⟨rfl, unhide HR1, unhide HB3, unhide HK3⟩
end Go.Proofs.YthkkfldmoflfaaaGreatDoor
