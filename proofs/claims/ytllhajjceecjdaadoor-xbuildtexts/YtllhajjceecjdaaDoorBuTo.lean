/- A builder's tokens: xbuild's content.tokens of one element, Tokens. -/
import Derived.Test.YtllhajjceecjdaaDoorBuTk
namespace Go.Proofs.YtllhajjceecjdaaDoor
open Go.RowKit Go.Maps Go.Shelf Go.Sort
theorem wpList_insert_own {H : Type} {P : Program} (w : World) {ops : Array Oper} {rest : List Oper} {o : Oper} {a : Act} {Q : Exit → Act → World → Prop}
    (hg : o.guard = none) (m x v : Operand) (t : TypeId) (hop : o.op = Op.insert t m x v)
    (k e : TypeId) (K : Keyed P k) (ht : P.underlying t = some (.map k e)) (R : Value → Option (DataW H × List MemPlace)) (b n : Nat) (D : DataW H)
    (hm : a.eval m = .map (some b)) (hown : w.ownsMap P k R b n D) (hn : n < maxLen) (key val : Value) (kl : Lit) (hx : a.eval x = key) (hv : a.eval v = val) (hkey : keyOf P k key = some kl)
    (d : DataW H) (ps : List MemPlace) (hval : R val = some (d, ps))
    (hK : ∀ w', w'.ownsMap P k R b (n + 1) (D.put kl d) → w.grownBy w' (some b) → wpList P ops Q rest (a.put o.dst undef) w') :
    wpList P ops Q (o :: rest) a w := by
  refine wpList_plain hg fun K' hK' => ?_
  obtain ⟨w', hrun, r1, r2⟩ := hown.update K ht hn hkey hval
  unfold Oper.wp
  simp [execOp, hop, hm, hx, hv, hrun, Result.andThen]
  exact hK' _ _ (hK w' r1 r2)
set_option maxRecDepth 100000 in
set_option maxHeartbeats 4000000 in
theorem contTokens_one (p o g q a : Nat) (c : Nat) (w : World) (R : Value → World → Prop) (h : w.cell? ⟨p, o, none⟩ = some (.slice (some ⟨g, 0, none⟩) 1 c)) (hg : w.cell? ⟨g, 0, none⟩ = some (.iface 77 (.pointer (some ⟨q, 0, none⟩))))
    (hE : Calls Tryd.prog 64 #[.pointer (some ⟨q, 0, none⟩), .slice none 0 0, .map (some a)] w fun e w' => ∃ al n c, e = .returned (.slice al n c) ∧ R (.slice al n c) w') :
    Calls Tryd.prog 15 #[.pointer (some ⟨p, o, none⟩), .slice none 0 0, .map (some a)] w fun e w' => ∃ al n c, e = .returned (.slice al n c) ∧ R (.slice al n c) w' := by
  have HE := hide hE
  clear hE
  go_enter Tryd.func15, Tryd.ntmps15
  go_wp2_with fail
  go_loopw [1, 14] (fun v i wr => (v = .slice none 0 0 ∧ i = .int .i64 0 ∧ wr = w) ∨ (∃ al n c, v = .slice al n c ∧ i = .int .i64 1 ∧ R (.slice al n c) wr)) (fun _ i _ => 1 - (intOf i).toNat)
  case atStart => exact .inl ⟨rfl, rfl, rfl⟩
  case round =>
    rcases hrel with ⟨rfl, rfl, rfl⟩ | ⟨al, n, c, rfl, rfl, hR⟩
    · go_wp2_with fail
      refine (unhide HE).mono ?_
      rintro e w2 ⟨al, n, c', rfl, hR⟩
      have HR := hide hR
      clear hR HE
      go_wp2_with fail
      exact ⟨.inr ⟨al, n, c', rfl, rfl, unhide HR⟩, by simp [intOf]⟩
    · have HR := hide hR
      clear hR
      go_wp2_with fail
      go_returns
      exact ⟨_, _, _, rfl, unhide HR⟩
theorem xmlB_ok : okL xmlL ∧ okL xmlUriL ∧ (T xmlL).size ≤ 1048576 ∧ (T xmlUriL).size ≤ 1048576 := ⟨xml_ok, uri_ok, by decide, by decide⟩
set_option maxRecDepth 100000 in
set_option maxHeartbeats 4000000 in
theorem tokens_one (p q m0 : Nat) (ao : Option Addr) (cc : Nat) (vn : Value) (k : Int) (nm : Nm) (va : Value) (l : List (Nm × List Nat)) (he : Sc) (w : World) (hb : BV w p (.slice ao 0 cc) vn k) (hvn : w.ownsRow 0 80 1 vn 1 [.iface 77 (.pointer (some ⟨q, 0, none⟩))]) (h : EV w q (.slice none 0 0) nm va (.map (some m0))) (hva : w.ownsRow 0 85 4 va l.length (atRow l)) (hl : ∀ x ∈ l, OkA x) (hm : w.ownsMap Tryd.prog 9 entElem m0 he.length (scD he)) (hok : OkSc he) (hE : BEnv w)
    (h0 : okL nm.uri) (h1 : okL nm.pre) (z0 : (T nm.uri).size ≤ 1048576) (z1 : (T nm.pre).size ≤ 1048576) (z2 : (T nm.loc).size ≤ 1048576) (hn : he.length + l.length ≤ 70) (hlne : 0 < l.length) (ar : Sc) (har : ar = [(xmlL, xmlUriL)]) :
    Calls Tryd.prog 6 #[.pointer (some ⟨p, 0, none⟩)] w fun e w' => ∃ al n c, e = .returned (.tuple #[.slice al n c, .int .i64 0]) ∧ (∃ va2 ks, w'.ownsRow w.heap.size 34 4 (.slice al n c) 2 [.int .i64 2, .string (T (qnS ar he nm).1), va2, .string ⟨#[]⟩, .int .i64 7, .string (T (qnS ar he nm).1), .slice none 0 0, .string ⟨#[]⟩] ∧ ks.Perm ((atsF ar (qnS ar he nm).2 l).2.map (·.1)) ∧ ks.map tx = (keysL (atsF ar (qnS ar he nm).2 l).2).mergeSort leB ∧ PairsV w' w.heap.size va2 (declsP ar (atsF ar (qnS ar he nm).2 l).2 ks ++ (atsF ar (qnS ar he nm).2 l).1)) ∧ Below w.heap.size w w' := by
  have HD := hide (deep_any p ao 0 cc vn k w hb)
  obtain ⟨g, cap, rfl, _, _, _, hgc⟩ := owns_at hvn (by omega)
  have c1 : w.cell? ⟨p, 1, none⟩ = some (.slice (some ⟨g, 0, none⟩) 1 cap) := blk_cell hb 1
  have g0 : w.cell? ⟨g, 0, none⟩ = some (.iface 77 (.pointer (some ⟨q, 0, none⟩))) := hgc 0 _ rfl
  have hmk : ∀ W : World, (Instr.makeMap 58 none).run Tryd.prog W = .ok (.map (some W.heap.size)) (W.alloc (.map #[] 0)) := fun W => rfl
  have hpl : p < w.heap.size := (Array.getElem?_eq_some_iff.1 hb).1
  have HC1 := hide c1
  clear hb hgc
  go_enter Tryd.func6, Tryd.ntmps6
  go_wp2_with fail
  refine (unhide HD).mono ?_
  rintro e w1 ⟨rfl, hw⟩
  have hw2 := hw.symm
  clear hw HD
  subst hw2
  have HCT := hide (fun (wI : World) (hOI : wI.ownsMap Tryd.prog 9 entElem w.heap.size (0 + 1) ((scD []).put (.string (tx xmlL)) (.agg [.lit (.string (tx xmlUriL))]))) (hGI : (w.alloc (.map #[] 0)).grownBy wI (some w.heap.size)) => show Calls Tryd.prog 15 #[.pointer (some ⟨p, 1, none⟩), .slice none 0 0, .map (some w.heap.size)] wI fun e w' => ∃ al n c, e = .returned (.slice al n c) ∧ (fun v w' => (∃ va2 ks, w'.ownsRow w.heap.size 34 4 v 2 [.int .i64 2, .string (T (qnS ar he nm).1), va2, .string ⟨#[]⟩, .int .i64 7, .string (T (qnS ar he nm).1), .slice none 0 0, .string ⟨#[]⟩] ∧ ks.Perm ((atsF ar (qnS ar he nm).2 l).2.map (·.1)) ∧ ks.map tx = (keysL (atsF ar (qnS ar he nm).2 l).2).mergeSort leB ∧ PairsV w' w.heap.size va2 (declsP ar (atsF ar (qnS ar he nm).2 l).2 ks ++ (atsF ar (qnS ar he nm).2 l).1)) ∧ Below w.heap.size w w') (.slice al n c) w' from by
    have hbI : Below w.heap.size w wI := Kp.fresh ((Kp.of (S := fun j => j = w.heap.size) ((Below.refl _ w).alloc (Nat.le_refl _) (.map #[] 0))).grown hGI (fun j e _ => (Option.some.inj e).symm)) (fun j hj => by omega)
    have hsc : ScV wI 0 (.map (some w.heap.size)) ar := by
      rw [scD_put (fun x hx => by cases hx) xmlB_ok.1] at hOI
      rw [har]
      exact ⟨fun x hx => by
        simp at hx
        subst hx
        exact ⟨⟨xmlB_ok.1, xmlB_ok.2.1⟩, xmlB_ok.2.2.1, xmlB_ok.2.2.2⟩, .inr ⟨_, rfl, Nat.zero_le _, hOI⟩⟩
    refine contTokens_one p 1 g q w.heap.size cap wI (fun v w' => (∃ va2 ks, w'.ownsRow w.heap.size 34 4 v 2 [.int .i64 2, .string (T (qnS ar he nm).1), va2, .string ⟨#[]⟩, .int .i64 7, .string (T (qnS ar he nm).1), .slice none 0 0, .string ⟨#[]⟩] ∧ ks.Perm ((atsF ar (qnS ar he nm).2 l).2.map (·.1)) ∧ ks.map tx = (keysL (atsF ar (qnS ar he nm).2 l).2).mergeSort leB ∧ PairsV w' w.heap.size va2 (declsP ar (atsF ar (qnS ar he nm).2 l).2 ks ++ (atsF ar (qnS ar he nm).2 l).1)) ∧ Below w.heap.size w w') (keptC hbI c1) (keptC hbI g0) ((elTokens_any q m0 w.heap.size nm va l ar he wI (block_below h hbI) (owns_below hva hbI) hl (map_on hm hbI) hok hsc (hE.below hbI) h0 h1 z0 z1 z2 (by rw [har]; simp; omega) hlne).mono fun e w' hP => ?_)
    obtain ⟨⟨v, va2, ks, rfl, hr, hp1, hp2, hp3⟩, hb⟩ := hP
    obtain ⟨al, cl, rfl⟩ := owns_slice hr
    exact ⟨al, 2, cl, rfl, ⟨va2, ks, ownsRow_base_a hr hbI.size, hp1, hp2, ownsRow_base_a hp3 hbI.size⟩, Below.then hbI hb⟩)
  have hO0 : (w.alloc (.map #[] 0)).ownsMap Tryd.prog 9 entElem w.heap.size 0 (scD []) := World.ownsMap_made _ _ _ _
  have hkX : keyOf Tryd.prog 9 (.string ⟨#[120, 109, 108]⟩) = some (.string (tx xmlL)) := Go.WideMaps.keyOf_string_mk Tryd.underlying9 (by decide)
  go_wp2_with (first
    | (refine wpList_insert_own _ rfl _ _ _ 58 rfl 9 56 strKeyed Tryd.underlying58 entElem w.heap.size 0 (scD []) rfl hO0 (by unfold maxLen; omega) _ _ (.string (tx xmlL)) rfl rfl hkX (.agg [.lit (.string (tx xmlUriL))]) [] (by rfl) ?_; intro wI hOI hGI; clear hO0 hkX; go_frame)
    | (go_at_call 15; refine (unhide HCT _ hOI hGI).mono ?_; rintro e w' ⟨al, n, c, rfl, hR⟩; (have HR := hide hR); clear hR hOI hGI HCT)
    | go_in)
  go_returns
  exact ⟨al, n, c, rfl, (unhide HR).1, (unhide HR).2⟩
end Go.Proofs.YtllhajjceecjdaaDoor
