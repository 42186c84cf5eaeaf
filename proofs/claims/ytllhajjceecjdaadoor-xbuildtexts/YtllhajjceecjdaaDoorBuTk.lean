/- An element's tokens: xbuild's element.tokens where nothing is in it. -/
import Derived.Test.YtllhajjceecjdaaDoorGbp
namespace Go.Proofs.YtllhajjceecjdaaDoor
open Go.RowKit Go.Maps Go.Shelf Go.Sort
/-- The attributes' names, one behind the other. -/
def atsStep (ar : Sc) (s : List (List Nat × List Nat) × Sc) (x : Nm × List Nat) : List (List Nat × List Nat) × Sc := (s.1 ++ [((atS ar s.2 x.1).1, x.2)], (atS ar s.2 x.1).2)
def atsF (ar he : Sc) (l : List (Nm × List Nat)) : List (List Nat × List Nat) × Sc := l.foldl (atsStep ar) ([], he)
theorem atsF_snoc {ar he : Sc} {l : List (Nm × List Nat)} {k : Nat} {x : Nm × List Nat} (h : l[k]? = some x) : atsF ar he (l.take (k + 1)) = atsStep ar (atsF ar he (l.take k)) x := by
  obtain ⟨hk, hx⟩ := List.getElem?_eq_some_iff.1 h
  unfold atsF
  rw [List.take_succ_eq_append_getElem hk, hx, List.foldl_append]
  rfl
def atRow (l : List (Nm × List Nat)) : List Value := l.flatMap fun x => [.string (T x.1.uri), .string (T x.1.pre), .string (T x.1.loc), .string (T x.2)]
structure OkA (x : Nm × List Nat) : Prop where
  h0 : okL x.1.uri
  h1 : okL x.1.pre
  z0 : (T x.1.uri).size ≤ 1048576
  z1 : (T x.1.pre).size ≤ 1048576
  z2 : (T x.1.loc).size ≤ 1048576
theorem setS_len (s : Sc) (p u : List Nat) : (setS s p u).length ≤ s.length + 1 := by
  unfold setS
  rw [insS_len]
  have : (delS s p).length ≤ s.length := List.length_filter_le _ _
  omega
theorem atS_len (ar he : Sc) (n : Nm) : (atS ar he n).2.length ≤ he.length + 1 := by
  unfold atS
  split
  · exact Nat.le_succ _
  · exact setS_len _ _ _
/-- Where the loop over the attributes stands. -/
structure AtSt (w : World) (p a : Nat) (ar he : Sc) (l : List (Nm × List Nat)) (k : Nat) (vo : Value) (w' : World) : Prop where
  le : k ≤ l.length
  bel : Below w.heap.size w w'
  tag : TagV w' p w.heap.size (.map (some a)) ar (atsF ar he (l.take k)).2
  row : PairsV w' w.heap.size vo (atsF ar he (l.take k)).1
  n1 : (atsF ar he (l.take k)).1.length = k
  n2 : (atsF ar he (l.take k)).2.length ≤ he.length + k
theorem atRow_get (l : List (Nm × List Nat)) (k j : Nat) (x : Nm × List Nat) (h : l[k]? = some x) (hj : j < 4) : (atRow l)[k * 4 + j]? = [Value.string (T x.1.uri), .string (T x.1.pre), .string (T x.1.loc), .string (T x.2)][j]? := by
  induction l generalizing k with
  | nil => simp at h
  | cons y l ih =>
    have e : atRow (y :: l) = [Value.string (T y.1.uri), .string (T y.1.pre), .string (T y.1.loc), .string (T y.2)] ++ atRow l := rfl
    rw [e]
    cases k with
    | zero =>
      simp only [List.getElem?_cons_zero, Option.some.injEq] at h
      subst h
      rw [Nat.zero_mul, Nat.zero_add, List.getElem?_append_left (by simpa using hj)]
    | succ k =>
      rw [List.getElem?_cons_succ] at h
      rw [List.getElem?_append_right (by simp; omega), show (k + 1) * 4 + j - [Value.string (T y.1.uri), .string (T y.1.pre), .string (T y.1.loc), .string (T y.2)].length = k * 4 + j by simp; omega]
      exact ih k h
theorem own_map {w : World} {p b : Nat} {ma : Value} {ar he : Sc} (h : TagV w p b ma ar he) {B : Nat} {e : TypeId} {size n : Nat} {v : Value} {xs : List Value} (hr : w.ownsRow B e size v n xs) : ∀ k, v.ownBlock = some k → ¬ k = b := by
  intro k hk
  rcases hr.2 with ⟨rfl, _⟩ | ⟨g, cap, cur, rfl, _, h3, _⟩
  · cases hk
  · cases hk
    exact h.apart h3
theorem Kp.fresh {S : Nat → Prop} {w w' : World} (h : Kp S w w') (hS : ∀ k, S k → w.heap.size ≤ k) : Below w.heap.size w w' :=
  ⟨h.os, h.tape, h.output, h.size, fun k hk => h.block k hk fun hs => by have := hS k hs; omega⟩
theorem TagV.kp {w w' : World} {p b : Nat} {ma : Value} {ar he : Sc} {S : Nat → Prop} (h : TagV w p b ma ar he) (hk : Kp S w w') (hp : ¬ S p) (hm : ∀ (j : Nat) es ck, w.heap[j]? = some (Obj.map es ck) → ¬ S j) : TagV w' p b ma ar he := by
  refine ⟨blk_kp hk h.blk hp, h.arV.kept fun b' es ck hb' _ => blk_kp hk hb' (hm _ _ _ hb'), ?_, h.ok, h.ne⟩
  obtain ⟨es, ck, h1, h2⟩ := h.heV
  exact ⟨es, ck, blk_kp hk h1 (hm _ _ _ h1), h2⟩
theorem AtSt.step {w w' w5 w7 : World} {p a : Nat} {ar he he5 : Sc} {l : List (Nm × List Nat)} {k : Nat} {vo v7 : Value} {x : Nm × List Nat} (h : AtSt w p a ar he l k vo w') (hx : l[k]? = some x) (h5 : (atS ar (atsF ar he (l.take k)).2 x.1).2 = he5) (hb5 : Below w.heap.size w w5) (hT5 : TagV w5 p w.heap.size (.map (some a)) ar he5) (hr5 : w5.ownsRow w.heap.size 65 2 vo k (pairRow (atsF ar he (l.take k)).1)) (hk7 : Kp (fun j => vo.ownBlock = some j) w5 w7)
    (hown7 : w7.ownsRow w.heap.size 65 2 v7 (k + 1) (pairRow (atsF ar he (l.take k)).1 ++ [.string (T (atS ar (atsF ar he (l.take k)).2 x.1).1), .string (T x.2)])) : AtSt w p a ar he l (k + 1) v7 w7 := by
  have e := atsF_snoc (ar := ar) (he := he) hx
  have hin : ∀ j, vo.ownBlock = some j → ∃ cur : Array Value, w5.heap[j]? = some (Obj.cells cur 65 (0, 0)) := by
    intro j hj
    rcases hr5.2 with ⟨rfl, _⟩ | ⟨g, cap, cur, rfl, _, h3, _⟩
    · cases hj
    · cases hj
      exact ⟨cur, h3⟩
  have hb7 : Below w.heap.size w w7 := Kp.fresh ((Kp.of (S := fun j => vo.ownBlock = some j) hb5).andThen hk7 (fun _ _ h => h)) (fun j hj => (hr5.lt j hj).1)
  refine ⟨(List.getElem?_eq_some_iff.1 hx).1, hb7, ?_, ?_, ?_, ?_⟩
  · rw [e]
    show TagV w7 p w.heap.size (.map (some a)) ar (atS ar (atsF ar he (l.take k)).2 x.1).2
    rw [h5]
    refine hT5.kp hk7 (fun hs => ?_) (fun j es ck hj hs => ?_)
    · obtain ⟨cur, h3⟩ := hin _ hs
      rw [hT5.blk] at h3
      injection h3 with h3
      injection h3 with _ h6 _
      revert h6
      decide
    · obtain ⟨cur, h3⟩ := hin _ hs
      rw [hj] at h3
      cases h3
  · rw [e]
    show PairsV w7 w.heap.size v7 ((atsF ar he (l.take k)).1 ++ [((atS ar (atsF ar he (l.take k)).2 x.1).1, x.2)])
    unfold PairsV
    rw [pairRow_snoc, List.length_append, h.n1]
    exact hown7
  · rw [e]
    show ((atsF ar he (l.take k)).1 ++ [_]).length = k + 1
    rw [List.length_append, h.n1]
    rfl
  · rw [e]
    show (atS ar (atsF ar he (l.take k)).2 x.1).2.length ≤ he.length + (k + 1)
    have := atS_len ar (atsF ar he (l.take k)).2 x.1
    have := h.n2
    omega
theorem pairRow_len (l : List (List Nat × List Nat)) : (pairRow l).length = l.length * 2 := by
  induction l with
  | nil => rfl
  | cons x l ih =>
    have e : pairRow (x :: l) = [Value.string (T x.1), .string (T x.2)] ++ pairRow l := rfl
    rw [e, List.length_append, ih, List.length_cons]
    simp
    omega
theorem pairRow_app (l m : List (List Nat × List Nat)) : pairRow (l ++ m) = pairRow l ++ pairRow m := by
  unfold pairRow
  exact List.flatMap_append
theorem pairRow_ones (l : List (List Nat × List Nat)) : ∀ u ∈ pairRow l, u.oneCell' = true := by
  intro u hu
  unfold pairRow at hu
  obtain ⟨x, _, hx⟩ := List.mem_flatMap.1 hu
  simp at hx
  rcases hx with rfl | rfl <;> rfl
theorem contTokens_none (q o : Nat) (al : Option Addr) (nl cl : Nat) (m : Value) (hm : ∃ b, m = .map b) (w : World) (h : w.cell? ⟨q, o, none⟩ = some (.slice none 0 0)) :
    Calls Tryd.prog 15 #[.pointer (some ⟨q, o, none⟩), .slice al nl cl, m] w fun e w' => e = .returned (.slice al nl cl) ∧ w' = w := by
  obtain ⟨b, rfl⟩ := hm
  go_enter Tryd.func15, Tryd.ntmps15
  go_wp2_with fail
  go_loopw [1, 14] (fun v i wr => v = .slice al nl cl ∧ i = .int .i64 0 ∧ wr = w) (fun _ _ _ => 0)
  case atStart => exact ⟨rfl, rfl, rfl⟩
  case round =>
    obtain ⟨rfl, rfl, rfl⟩ := hrel
    go_wp2
    go_returns
    exact ⟨rfl, rfl⟩
set_option maxRecDepth 100000 in
set_option maxHeartbeats 4000000 in
theorem elTokens_any (q m0 a : Nat) (nm : Nm) (va : Value) (l : List (Nm × List Nat)) (ar he : Sc) (w : World) (h : EV w q (.slice none 0 0) nm va (.map (some m0))) (hva : w.ownsRow 0 85 4 va l.length (atRow l)) (hl : ∀ x ∈ l, OkA x) (hm : w.ownsMap Tryd.prog 9 entElem m0 he.length (scD he)) (hok : OkSc he) (ha : ScV w 0 (.map (some a)) ar) (hE : BEnv w)
    (h0 : okL nm.uri) (h1 : okL nm.pre) (z0 : (T nm.uri).size ≤ 1048576) (z1 : (T nm.pre).size ≤ 1048576) (z2 : (T nm.loc).size ≤ 1048576) (hn : he.length + ar.length + l.length ≤ 80) (hlne : 0 < l.length) :
    Calls Tryd.prog 64 #[.pointer (some ⟨q, 0, none⟩), .slice none 0 0, .map (some a)] w fun e w' => (∃ v va2 ks, e = .returned v ∧ w'.ownsRow w.heap.size 34 4 v 2 [.int .i64 2, .string (T (qnS ar he nm).1), va2, .string ⟨#[]⟩, .int .i64 7, .string (T (qnS ar he nm).1), .slice none 0 0, .string ⟨#[]⟩] ∧ ks.Perm ((atsF ar (qnS ar he nm).2 l).2.map (·.1)) ∧ ks.map tx = (keysL (atsF ar (qnS ar he nm).2 l).2).mergeSort leB ∧ PairsV w' w.heap.size va2 (declsP ar (atsF ar (qnS ar he nm).2 l).2 ks ++ (atsF ar (qnS ar he nm).2 l).1)) ∧ Below w.heap.size w w' := by
  have HC := hide (AnyW.maps_Clone_owns Tryd.cloneB 9 entElem m0 he.length (scD he) w hm)
  have c5 : w.cell? ⟨q, 5, none⟩ = some (.map (some m0)) := blk_cell h 5
  have HEV := hide h
  have HVA := hide hva
  have HAR := hide ha
  have HEN := hide hE
  clear h hva hm ha hE
  go_enter Tryd.func64, Tryd.ntmps64
  go_wp2_with fail
  refine (unhide HC).mono ?_
  rintro e w1 ⟨rfl, hm2, _, hb1⟩
  have hal : a < w.heap.size := by
    rcases (unhide HAR).2 with ⟨h, _⟩ | ⟨b, h, _, ho⟩
    · cases h
    · cases h
      exact ho.lt
  have hb2 : Below w.heap.size w (w1.alloc (.cells #[.map (some a), .map (some w.heap.size)] 122)) := hb1.alloc hb1.size _
  have HT : Hid (TagV (w1.alloc (.cells #[.map (some a), .map (some w.heap.size)] 122)) w1.heap.size w.heap.size (.map (some a)) ar he) := hide ⟨alloc_new _ _, (unhide HAR).on hb2, map_on hm2 ((Below.refl _ _).alloc (Nat.le_refl _) _), hok, fun e => by injection e with e; injection e with e; omega⟩
  have hev2 := block_below (unhide HEV) hb2
  have e1 := blk_cell hev2 1
  have e2 := blk_cell hev2 2
  have e3 := blk_cell hev2 3
  have HB2 := hide hb2
  clear hm2 hb1 hb2 hev2 HC c5
  have HQN := hide (qnameB_any w1.heap.size w.heap.size (.map (some a)) ar he nm _ (unhide HT) h0 h1 z0 z1 z2 (by omega) ((unhide HEN).below (unhide HB2)))
  go_wp2_with fail
  refine (unhide HQN).mono ?_
  rintro e w3 ⟨rfl, hT3, hK3⟩
  have hb3 := Kp.fresh ((Kp.of (S := fun x => x = w.heap.size) (unhide HB2)).andThen hK3 (fun _ _ h => h)) (fun k hk => by omega)
  have HB3 := hide hb3
  have HT3 := hide hT3
  have hev3 := block_below (unhide HEV) hb3
  have e4 := blk_cell hev3 4
  obtain ⟨aa, ca, rfl⟩ := owns_slice (unhide HVA)
  clear hT3 hK3 hev3 hb3 HQN HT HB2 e1 e2 e3
  go_wp2_with fail
  obtain ⟨he1, hhe⟩ : ∃ s, (qnS ar he nm).2 = s := ⟨_, rfl⟩
  have hle1 : he1.length ≤ he.length + 1 := by rw [← hhe]; exact setS_len _ _ _
  rw [hhe] at HT3
  have HHE := hide hhe
  have HI0 : Hid (AtSt w w1.heap.size a ar he1 l 0 (.slice none 0 0) w3) := hide ⟨Nat.zero_le _, unhide HB3, unhide HT3, World.ownsRow_nil _ _ _ _, rfl, Nat.le_refl _⟩
  generalize hqn : (qnS ar he nm).1 = qn at *
  have HQN := hide hqn
  clear hqn
  clear hhe HB3 HT3 e4
  go_loopw [9, 30] (fun vo i wr => ∃ k : Nat, i = .int .i64 (k : Nat) ∧ AtSt w w1.heap.size a ar he1 l k vo wr) (fun _ i _ => l.length - (intOf i).toNat)
  case atStart => exact ⟨0, rfl, unhide HI0⟩
  case round =>
    clear HI0
    obtain ⟨k, rfl, hI⟩ := hrel
    have hk := hI.le
    by_cases hlt : k < l.length
    · obtain ⟨x, hx⟩ : ∃ x, l[k]? = some x := ⟨l[k], List.getElem?_eq_getElem hlt⟩
      obtain ⟨g, cap, eg, _, _, hgl, hcs⟩ := owns_at (unhide HVA) (by omega)
      cases eg
      have c0 : wr.cell? ⟨g, k * 4, none⟩ = some (.string (T x.1.uri)) := keptC hI.bel (hcs (k * 4) _ (by have := atRow_get l k 0 x hx (by decide); rw [Nat.add_zero] at this; exact this))
      have c1 : wr.cell? ⟨g, k * 4 + 1, none⟩ = some (.string (T x.1.pre)) := keptC hI.bel (hcs (k * 4 + 1) _ (atRow_get l k 1 x hx (by decide)))
      have c2 : wr.cell? ⟨g, k * 4 + 2, none⟩ = some (.string (T x.1.loc)) := keptC hI.bel (hcs (k * 4 + 2) _ (atRow_get l k 2 x hx (by decide)))
      have c3 : wr.cell? ⟨g, k * 4 + 3, none⟩ = some (.string (T x.2)) := keptC hI.bel (hcs (k * 4 + 3) _ (atRow_get l k 3 x hx (by decide)))
      have m1 : (0 : Int) ≤ (k : Int) := by omega
      have m2 : (k : Int) < (l.length : Int) := by omega
      have HI := hide hI
      have HX := hide hx
      have hrow := hI.row
      have hn1 := hI.n1
      unfold PairsV at hrow
      rw [hn1] at hrow
      obtain ⟨aw, cw, rfl⟩ := owns_slice hrow
      have hm2 := hI.tag.heV.lt
      obtain ⟨ps, hps⟩ : ∃ s, (atsF ar he1 (l.take k)).1 = s := ⟨_, rfl⟩
      obtain ⟨hek, hhek⟩ : ∃ s, (atsF ar he1 (l.take k)).2 = s := ⟨_, rfl⟩
      have htag := hI.tag
      have hn2 := hI.n2
      rw [hps] at hrow
      rw [hhek] at htag hn2
      have hxl := hl x (List.mem_of_getElem? hx)
      have HATT := hide (fun (W' : World) (hb : Below wr.heap.size wr W') (hv : W'.heap[wr.heap.size]? = some (.cells #[.string (T x.1.uri), .string (T x.1.pre), .string (T x.1.loc), .string (T x.2)] 85 (0, 0))) =>
        (attributeB_any w1.heap.size w.heap.size (.map (some a)) ar hek x.1 W' (htag.on hb) hxl.h0 hxl.h1 hxl.z0 hxl.z1 hxl.z2 (by omega) ((unhide HEN).below (Below.then hI.bel hb))).mono
          (R' := fun e w5 => e = .returned (.string (T (atS ar hek x.1).1)) ∧ TagV w5 w1.heap.size w.heap.size (.map (some a)) ar (atS ar hek x.1).2 ∧ Below w.heap.size w w5 ∧ w5.heap[wr.heap.size]? = some (.cells #[.string (T x.1.uri), .string (T x.1.pre), .string (T x.1.loc), .string (T x.2)] 85 (0, 0)) ∧ w5.ownsRow w.heap.size 65 2 (.slice aw k cw) k (pairRow ps) ∧ wr.heap.size < w5.heap.size)
          (fun e w5 ⟨he, hT, hK⟩ => ⟨he, hT, Kp.fresh (((Kp.of (S := fun x => x = w.heap.size) (Below.then hI.bel hb))).andThen hK (fun _ _ h => h)) (fun k hk => by omega), blk_kp hK hv (by omega), owns_kp (owns_below hrow hb) hK (own_map (htag.on hb) (owns_below hrow hb)), by
            have h1 := (Array.getElem?_eq_some_iff.1 (blk_kp hK hv (by omega))).1
            exact h1⟩))
      clear hI hcs hx hrow htag
      go_upto_region 7 with fail
      have hvar : (wr.alloc (.cells #[.string (T x.1.uri), .string (T x.1.pre), .string (T x.1.loc), .string (T x.2)] 85)).heap[wr.heap.size]? = some (.cells #[.string (T x.1.uri), .string (T x.1.pre), .string (T x.1.loc), .string (T x.2)] 85 (0, 0)) := alloc_new _ _
      have hbv : Below wr.heap.size wr (wr.alloc (.cells #[.string (T x.1.uri), .string (T x.1.pre), .string (T x.1.loc), .string (T x.2)] 85)) := (Below.refl _ _).alloc (Nat.le_refl _) _
      generalize (wr.alloc (.cells #[.string (T x.1.uri), .string (T x.1.pre), .string (T x.1.loc), .string (T x.2)] 85)) = W4 at hvar hbv ⊢
      have d0 := blk_cell hvar 0
      have d1 := blk_cell hvar 1
      have d2 := blk_cell hvar 2
      have d3 := blk_cell hvar 3
      have hvl : wr.heap.size < W4.heap.size := (Array.getElem?_eq_some_iff.1 hvar).1
      have HV := hide hvar
      have HBV := hide hbv
      obtain ⟨i0, hi, hz0, hz1, hz2⟩ := info_parts infoPair
      clear c0 c1 c2 c3 hvar hbv
      go_region_law (first
        | (go_simp; go_at_call 67; refine (unhide HATT _ (by (repeat first | exact unhide HBV | refine Below.drew ?_)) (by exact unhide HV)).mono ?_; rintro e w5 ⟨rfl, hT5, hb5, hv5, hr5, hs5⟩; (have g3 := blk_cell hv5 3); (have HT5 := hide hT5); (have HB5 := hide hb5); (have HR5 := hide hr5); (have hs6 := hb5.size); clear hT5 hb5 hv5 hr5)
        | (refine step_append_where rfl (.tmp 34) (.tmp 41) 32 rfl w.heap.size 65 i0 _ 2 32 Tryd.underlying32 hi hz0 hz1 hz2 rfl (by decide) (.slice aw k cw) k (pairRow ps) rfl (owns_below (unhide HR5) (by (repeat first | exact Below.refl _ _ | refine Below.drew ?_ | refine Below.alloc ?_ (by simp) _))) ⟨w5.heap.size, 0, none⟩ 1 1 [.string (T (atS ar hek x.1).1), .string (T x.2)] rfl rfl (news2 (by simp [go_sem]) (by simp [go_sem])) (fun u hu => by simp at hu; rcases hu with rfl | rfl <;> rfl) (by unfold maxLen; omega) (by omega) (by simp; omega) ?_; intro v7 w7 hown7 hgrow7 hat7))
      all_goals (try go_wp2_with fail)
      all_goals
        have hk7 := ((Kp.of (S := fun j => (Value.slice aw k cw).ownBlock = some j) (show Below w5.heap.size w5 _ from (by (repeat first | exact Below.refl _ _ | refine Below.drew ?_ | refine Below.alloc ?_ (by simp) _)))).grown hgrow7 (fun j e _ => e))
        refine ⟨⟨k + 1, by simp, (unhide HI).step (unhide HX) (by rw [hhek]) (unhide HB5) (unhide HT5) (by rw [hps]; exact unhide HR5) hk7 (by rw [hps, hhek]; exact hown7)⟩, by simp [intOf]; omega⟩
    · have m2 : ¬ (k : Int) < (l.length : Int) := by omega
      have hkl : k = l.length := by omega
      subst hkl
      have hst := hI
      have HST := hide hst
      clear hI hst
      have HDC := hide (declarations_any w1.heap.size w.heap.size (.map (some a)) ar _ wr (unhide HST).tag (by have := (unhide HST).n2; omega))
      go_wp2_with fail
      refine (unhide HDC).mono ?_
      rintro e w4 ⟨⟨u, ks, rfl, hks1, hks2, hu⟩, hb4⟩
      have hbw4 := Below.then (unhide HST).bel hb4
      have ht4 := (unhide HST).tag.on hb4
      have hrow4 := owns_below (unhide HST).row hb4
      have hu4 : PairsV w4 w.heap.size u _ := ownsRow_base_a hu (unhide HST).bel.size
      have HKS := hide (And.intro hks1 hks2)
      have hn1 := (unhide HST).n1
      have hn2 := (unhide HST).n2
      rw [List.take_length] at hrow4 ht4 hu4 HKS hn1 hn2
      rw [hn1] at hrow4
      obtain ⟨ps, hps⟩ : ∃ s, (atsF ar he1 l).1 = s := ⟨_, rfl⟩
      obtain ⟨he2, hhe2⟩ : ∃ s, (atsF ar he1 l).2 = s := ⟨_, rfl⟩
      rw [hps] at hrow4 hn1
      rw [hhe2] at ht4 hu4 HKS hn2
      obtain ⟨ds, hds⟩ : ∃ s, declsP ar he2 ks = s := ⟨_, rfl⟩
      have hdl : ds.length ≤ 3000 := by
        have h1 := declsP_len ar he2 ks
        rw [hds] at h1
        have h2 := (unhide HKS).1.length_eq
        rw [List.length_map] at h2
        omega
      rw [hds] at hu4
      unfold PairsV at hu4
      obtain ⟨au, cu, rfl⟩ := owns_slice hu4
      obtain ⟨gp, cp, rfl, _, _, _, hpc⟩ := owns_at hrow4 hlne
      have HIN := hide (show Calls Tryd.prog 69 #[.pointer (some ⟨w1.heap.size, 0, none⟩)] w4 fun e w'' => (∃ m, e = .returned (.map (some m))) ∧ Below w4.heap.size w4 w'' from by
        rcases ht4.arV.2 with ⟨hx, _⟩ | ⟨b, hx, _, ho⟩
        · cases hx
        · cases hx
          exact inner_some w1.heap.size w.heap.size a _ _ he2 (scD ar) w4 ht4.blk ht4.heV ho (by omega))
      have HU := hide hu4
      have HP := hide (And.intro hrow4 hpc)
      have HB4 := hide hbw4
      have HFX := hide (And.intro hps (And.intro hhe2 (And.intro hds hn1)))
      clear hks1 hks2 hu hu4 hrow4 hbw4 ht4 hb4 hps hhe2 hds HDC HST hn1 hn2 hpc
      by_cases hz : 0 < ds.length
      · have hz' : (0 : Int) < (ds.length : Int) := by omega
        have HMC : True := trivial
        have HMA : True := trivial
        have HMB : True := trivial
        have hpl : (pairRow ps).length = l.length * 2 := by rw [pairRow_len, (unhide HFX).2.2.2]
        obtain ⟨i0, hi, hz0, hz1, hz2⟩ := info_parts infoPair
        obtain ⟨j0, hj, hy0, hy1, hy2⟩ := info_parts infoTok
        go_wp2_with (first
          | ((clear HMC); go_at_call 69; refine (unhide HIN).mono ?_; rintro e w5 ⟨⟨mi, rfl⟩, hb5⟩; (have HBW := hide (Below.then (unhide HB4) hb5)); (have HUW := hide (owns_below (unhide HU) hb5)); (have HPW := hide (fun (j : Nat) (u : Value) (hu : (pairRow ps)[j]? = some u) => keptC hb5 ((unhide HP).2 j u hu))); clear hb5 HIN)
          | (at_builtin; (clear HMA); refine wpList_append_own _ rfl _ _ 32 rfl w.heap.size 65 i0 _ 2 32 Tryd.underlying32 hi hz0 hz1 hz2 rfl (by decide) (.slice au ds.length cu) ds.length (pairRow ds) rfl (unhide HUW) ⟨gp, 0, none⟩ l.length cp (pairRow ps) rfl hpl (fun j u hu => by rw [Addr.add_mid, Nat.zero_add]; exact (unhide HPW) j u hu) (pairRow_ones ps) (by unfold maxLen; omega) (by omega) (unhide HBW).size ?_; intro v7 w7 hown7 hgrow7 _; obtain ⟨a7, b7, rfl⟩ := owns_slice hown7; (have HB7 := hide ((unhide HBW).grown hgrow7 (unhide HBW).size (fun j hj => ((unhide HUW).lt j hj).1))); (have HO7 := hide hown7); (have hs7 := (unhide HB7).size); clear hown7 hgrow7)
          | (at_builtin; (clear HMB); refine wpList_append_own _ rfl _ _ 27 rfl w.heap.size 34 j0 _ 4 64 Tryd.underlying27 hj hy0 hy1 hy2 rfl (by decide) (.slice none 0 0) 0 [] rfl (World.ownsRow_nil _ _ _ _) ⟨w7.heap.size, 0, none⟩ 1 1 [.int .i64 2, .string (T qn), .slice a7 (ds.length + l.length) b7, .string ⟨#[]⟩] rfl rfl (news4 (by simp [go_sem]) (by simp [go_sem]) (by simp [go_sem]) (by simp [go_sem])) (fun u hu => by simp at hu; rcases hu with rfl | rfl | rfl | rfl <;> rfl) (by unfold maxLen; omega) (by omega) (by simp; omega) ?_; intro v8 w8 hown8 hgrow8 _; obtain ⟨a8, b8, rfl⟩ := owns_slice hown8; (have hb78 : Below w7.heap.size w7 w8 := Kp.fresh ((Kp.of (S := fun _ => False) ((Below.refl _ w7).alloc (Nat.le_refl _) _)).grown hgrow8 (fun j e _ => by cases e)) (fun _ h => h.elim)); (have HB8 := hide (Below.then (unhide HB7) hb78)); (have HO8 := hide hown8); (have HV8 := hide (owns_below (unhide HO7) hb78)); (have k8 := blk_cell (block_below (unhide HEV) (unhide HB8)) 0); (have HCT := hide (contTokens_none q 0 a8 (0 + 1) b8 (.map (some mi)) ⟨_, rfl⟩ w8 k8)); (have hs8 := (unhide HB8).size); clear hown8 hgrow8 hb78)
          | (go_at_call 15; refine (unhide HCT).mono ?_; rintro e w9 ⟨rfl, hw9⟩; have hw10 := hw9.symm; clear hw9; subst hw10)
          | (at_builtin; refine wpList_append_own _ rfl _ _ 27 rfl w.heap.size 34 j0 _ 4 64 Tryd.underlying27 hj hy0 hy1 hy2 rfl (by decide) (.slice a8 (0 + 1) b8) 1 [.int .i64 2, .string (T qn), .slice a7 (ds.length + l.length) b7, .string ⟨#[]⟩] rfl (owns_below (unhide HO8) ((Below.refl _ _).alloc (Nat.le_refl _) _)) ⟨w8.heap.size, 0, none⟩ 1 1 [.int .i64 7, .string (T qn), .slice none 0 0, .string ⟨#[]⟩] rfl rfl (news4 (by simp [go_sem]) (by simp [go_sem]) (by simp [go_sem]) (by simp [go_sem])) (fun u hu => by simp at hu; rcases hu with rfl | rfl | rfl | rfl <;> rfl) (by unfold maxLen; omega) (by omega) (by simp; omega) ?_; intro v11 w11 hown11 hgrow11 _; (have HO11 := hide hown11); (have HG11 := hide hgrow11); clear hown11 hgrow11))
        go_returns
        have hO8 := owns_below (unhide HO8) (show Below w8.heap.size w8 (w8.alloc (.cells #[.int .i64 7, .string (T qn), .slice none 0 0, .string ⟨#[]⟩] 34)) from (Below.refl _ _).alloc (Nat.le_refl _) _)
        have hV8 := owns_below (unhide HV8) (show Below w8.heap.size w8 (w8.alloc (.cells #[.int .i64 7, .string (T qn), .slice none 0 0, .string ⟨#[]⟩] 34)) from (Below.refl _ _).alloc (Nat.le_refl _) _)
        have hV11 := owns_kp hV8 ((Kp.refl (fun j => (Value.slice a8 (0 + 1) b8).ownBlock = some j) _).grown (unhide HG11) (fun j e _ => e)) (own_two hV8 hO8 (by decide))
        have hB11 := ((unhide HB8).alloc (unhide HB8).size (.cells #[.int .i64 7, .string (T qn), .slice none 0 0, .string ⟨#[]⟩] 34)).grown (unhide HG11) (by simp; omega) (fun j hj => ((unhide HO8).lt j hj).1)
        refine ⟨⟨v11, .slice a7 (ds.length + l.length) b7, ks, rfl, ?_, ?_, ?_, ?_⟩, hB11⟩
        · rw [unhide HQN]
          exact unhide HO11
        · rw [unhide HHE, (unhide HFX).2.1]
          exact (unhide HKS).1
        · rw [unhide HHE, (unhide HFX).2.1]
          exact (unhide HKS).2
        · rw [unhide HHE, (unhide HFX).2.1, (unhide HFX).2.2.1, (unhide HFX).1]
          unfold PairsV
          rw [pairRow_app, List.length_append, (unhide HFX).2.2.2]
          exact hV11
      · have hz' : ¬ (0 : Int) < (ds.length : Int) := by omega
        have HBW := HB4
        have HUW := HU
        have HPW := hide (unhide HP).2
        have HMA : True := trivial
        have HMB : True := trivial
        have hpl : (pairRow ps).length = l.length * 2 := by rw [pairRow_len, (unhide HFX).2.2.2]
        obtain ⟨i0, hi, hz0, hz1, hz2⟩ := info_parts infoPair
        obtain ⟨j0, hj, hy0, hy1, hy2⟩ := info_parts infoTok
        go_wp2_with (first
          | (at_builtin; (clear HMA); refine wpList_append_own _ rfl _ _ 32 rfl w.heap.size 65 i0 _ 2 32 Tryd.underlying32 hi hz0 hz1 hz2 rfl (by decide) (.slice au ds.length cu) ds.length (pairRow ds) rfl (unhide HUW) ⟨gp, 0, none⟩ l.length cp (pairRow ps) rfl hpl (fun j u hu => by rw [Addr.add_mid, Nat.zero_add]; exact (unhide HPW) j u hu) (pairRow_ones ps) (by unfold maxLen; omega) (by omega) (unhide HBW).size ?_; intro v7 w7 hown7 hgrow7 _; obtain ⟨a7, b7, rfl⟩ := owns_slice hown7; (have HB7 := hide ((unhide HBW).grown hgrow7 (unhide HBW).size (fun j hj => ((unhide HUW).lt j hj).1))); (have HO7 := hide hown7); (have hs7 := (unhide HB7).size); clear hown7 hgrow7)
          | (at_builtin; (clear HMB); refine wpList_append_own _ rfl _ _ 27 rfl w.heap.size 34 j0 _ 4 64 Tryd.underlying27 hj hy0 hy1 hy2 rfl (by decide) (.slice none 0 0) 0 [] rfl (World.ownsRow_nil _ _ _ _) ⟨w7.heap.size, 0, none⟩ 1 1 [.int .i64 2, .string (T qn), .slice a7 (ds.length + l.length) b7, .string ⟨#[]⟩] rfl rfl (news4 (by simp [go_sem]) (by simp [go_sem]) (by simp [go_sem]) (by simp [go_sem])) (fun u hu => by simp at hu; rcases hu with rfl | rfl | rfl | rfl <;> rfl) (by unfold maxLen; omega) (by omega) (by simp; omega) ?_; intro v8 w8 hown8 hgrow8 _; obtain ⟨a8, b8, rfl⟩ := owns_slice hown8; (have hb78 : Below w7.heap.size w7 w8 := Kp.fresh ((Kp.of (S := fun _ => False) ((Below.refl _ w7).alloc (Nat.le_refl _) _)).grown hgrow8 (fun j e _ => by cases e)) (fun _ h => h.elim)); (have HB8 := hide (Below.then (unhide HB7) hb78)); (have HO8 := hide hown8); (have HV8 := hide (owns_below (unhide HO7) hb78)); (have k8 := blk_cell (block_below (unhide HEV) (unhide HB8)) 0); (have HCT := hide (contTokens_none q 0 a8 (0 + 1) b8 (.map (some a)) ⟨_, rfl⟩ w8 k8)); (have hs8 := (unhide HB8).size); clear hown8 hgrow8 hb78)
          | (go_at_call 15; refine (unhide HCT).mono ?_; rintro e w9 ⟨rfl, hw9⟩; have hw10 := hw9.symm; clear hw9; subst hw10)
          | (at_builtin; refine wpList_append_own _ rfl _ _ 27 rfl w.heap.size 34 j0 _ 4 64 Tryd.underlying27 hj hy0 hy1 hy2 rfl (by decide) (.slice a8 (0 + 1) b8) 1 [.int .i64 2, .string (T qn), .slice a7 (ds.length + l.length) b7, .string ⟨#[]⟩] rfl (owns_below (unhide HO8) ((Below.refl _ _).alloc (Nat.le_refl _) _)) ⟨w8.heap.size, 0, none⟩ 1 1 [.int .i64 7, .string (T qn), .slice none 0 0, .string ⟨#[]⟩] rfl rfl (news4 (by simp [go_sem]) (by simp [go_sem]) (by simp [go_sem]) (by simp [go_sem])) (fun u hu => by simp at hu; rcases hu with rfl | rfl | rfl | rfl <;> rfl) (by unfold maxLen; omega) (by omega) (by simp; omega) ?_; intro v11 w11 hown11 hgrow11 _; (have HO11 := hide hown11); (have HG11 := hide hgrow11); clear hown11 hgrow11))
        go_returns
        have hO8 := owns_below (unhide HO8) (show Below w8.heap.size w8 (w8.alloc (.cells #[.int .i64 7, .string (T qn), .slice none 0 0, .string ⟨#[]⟩] 34)) from (Below.refl _ _).alloc (Nat.le_refl _) _)
        have hV8 := owns_below (unhide HV8) (show Below w8.heap.size w8 (w8.alloc (.cells #[.int .i64 7, .string (T qn), .slice none 0 0, .string ⟨#[]⟩] 34)) from (Below.refl _ _).alloc (Nat.le_refl _) _)
        have hV11 := owns_kp hV8 ((Kp.refl (fun j => (Value.slice a8 (0 + 1) b8).ownBlock = some j) _).grown (unhide HG11) (fun j e _ => e)) (own_two hV8 hO8 (by decide))
        have hB11 := ((unhide HB8).alloc (unhide HB8).size (.cells #[.int .i64 7, .string (T qn), .slice none 0 0, .string ⟨#[]⟩] 34)).grown (unhide HG11) (by simp; omega) (fun j hj => ((unhide HO8).lt j hj).1)
        refine ⟨⟨v11, .slice a7 (ds.length + l.length) b7, ks, rfl, ?_, ?_, ?_, ?_⟩, hB11⟩
        · rw [unhide HQN]
          exact unhide HO11
        · rw [unhide HHE, (unhide HFX).2.1]
          exact (unhide HKS).1
        · rw [unhide HHE, (unhide HFX).2.1]
          exact (unhide HKS).2
        · rw [unhide HHE, (unhide HFX).2.1, (unhide HFX).2.2.1, (unhide HFX).1]
          unfold PairsV
          rw [pairRow_app, List.length_append, (unhide HFX).2.2.2]
          exact hV11
end Go.Proofs.YtllhajjceecjdaaDoor
