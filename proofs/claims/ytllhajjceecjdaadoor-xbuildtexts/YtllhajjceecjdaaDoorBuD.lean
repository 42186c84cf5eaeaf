/- A tag's declarations: xbuild's declarations. -/
import Derived.Test.YtllhajjceecjdaaDoorBuQ
import Derived.Test.YtllhajjceecjdaaDoorGbh
namespace Go.Proofs.YtllhajjceecjdaaDoor
open Go.RowKit Go.Maps Go.Sort
theorem pairRow_snoc (l : List (List Nat × List Nat)) (n v : List Nat) : pairRow (l ++ [(n, v)]) = pairRow l ++ [.string (T n), .string (T v)] := by
  unfold pairRow
  rw [List.flatMap_append]
  rfl
theorem infoPair : (Tryd.prog.info? 65).map (fun i => (i.zero, i.size, i.bytes)) = some (some (.agg #[.string ⟨#[]⟩, .string ⟨#[]⟩]), 2, 32) := by kernel_rfl
theorem news2 {W : World} {g : Nat} {a b : Value} (h0 : W.cell? ⟨g, 0, none⟩ = some a) (h1 : W.cell? ⟨g, 1, none⟩ = some b) :
    ∀ j u, [a, b][j]? = some u → W.cell? ((⟨g, 0, none⟩ : Addr).add j) = some u := by
  intro j u h
  rw [Addr.add_mid, Nat.zero_add]
  match j, h with
  | 0, h => cases h; exact h0
  | 1, h => cases h; exact h1
/-- Where a row's cells lie. -/
theorem owns_at {w : World} {B : Nat} {e : TypeId} {size : Nat} {v : Value} {n : Nat} {xs : List Value} (h : w.ownsRow B e size v n xs) (hn : 0 < n) : ∃ g cap, v = .slice (some ⟨g, 0, none⟩) n cap ∧ n ≤ cap ∧ B ≤ g ∧ g < w.heap.size ∧ ∀ j x, xs[j]? = some x → w.cell? ⟨g, j, none⟩ = some x := by
  have h' := h
  rcases h.2 with ⟨_, h0⟩ | ⟨g, cap, cur, rfl, h2, h3, h4⟩
  · omega
  · refine ⟨g, cap, rfl, h4.1, h2, (Array.getElem?_eq_some_iff.1 h3).1, fun j x hx => ?_⟩
    have hj : j < n * size := by
      have := (List.getElem?_eq_some_iff.1 hx).1
      rw [h.1] at this
      exact this
    have hc := h'.cellAt j hj
    rw [hc]
    exact hx
theorem keys_back {s : Sc} (hok : ∀ x ∈ s, okL x.1) {zs : List (List UInt8)} (hp : zs.Perm (keysL s)) : ∃ ks : List (List Nat), zs = ks.map tx ∧ ks.Perm (s.map (·.1)) := by
  let inv : List UInt8 → List Nat := fun z => ((s.map (·.1)).find? fun p => tx p == z).getD []
  have hinv : ∀ p ∈ s.map (·.1), inv (tx p) = p := by
    intro p hm
    obtain ⟨x, hx, rfl⟩ := List.mem_map.1 hm
    show ((s.map (·.1)).find? fun q => tx q == tx x.1).getD [] = x.1
    cases hf : (s.map (·.1)).find? fun q => tx q == tx x.1 with
    | none =>
      have := List.find?_eq_none.1 hf x.1 hm
      simp at this
    | some q =>
      have h1 := List.find?_some hf
      have h2 := List.mem_of_find?_eq_some hf
      obtain ⟨y, hy, rfl⟩ := List.mem_map.1 h2
      exact tx_inj (hok y hy) (hok x hx) (by simpa using h1)
  refine ⟨zs.map inv, ?_, ?_⟩
  · rw [List.map_map]
    have : ∀ z ∈ zs, (tx ∘ inv) z = z := by
      intro z hz
      obtain ⟨x, hx, rfl⟩ := List.mem_map.1 (hp.mem_iff.1 hz)
      show tx (inv (tx x.1)) = tx x.1
      rw [hinv _ (List.mem_map_of_mem hx)]
    have h3 : zs.map (tx ∘ inv) = zs.map id := List.map_congr_left this
    rw [h3, List.map_id]
  · have h1 := hp.map inv
    have h2 : (keysL s).map inv = s.map (·.1) := by
      unfold keysL
      rw [List.map_map]
      refine List.map_congr_left fun x hx => ?_
      exact hinv _ (List.mem_map_of_mem hx)
    rw [h2] at h1
    exact h1
/-- A row of pairs of one's own. -/
def PairsV (w : World) (B : Nat) (v : Value) (l : List (List Nat × List Nat)) : Prop := w.ownsRow B 65 2 v l.length (pairRow l)
theorem PairsV.on {w w' : World} {B : Nat} {v : Value} {l : List (List Nat × List Nat)} (h : PairsV w B v l) (hb : Below w.heap.size w w') : PairsV w' B v l := owns_below h hb
theorem declsP_snoc {ar he : Sc} {ks : List (List Nat)} {k : Nat} {p : List Nat} (h : ks[k]? = some p) : declsP ar he (ks.take (k + 1)) = declsP ar he (ks.take k) ++ declP ar he p := by
  obtain ⟨hk, hx⟩ := List.getElem?_eq_some_iff.1 h
  unfold declsP
  rw [List.take_succ_eq_append_getElem hk, hx, List.flatMap_append]
  simp
theorem declsP_len (ar he : Sc) : ∀ ks : List (List Nat), (declsP ar he ks).length ≤ ks.length
  | [] => Nat.le_refl _
  | p :: ks => by
    have ih := declsP_len ar he ks
    have : declsP ar he (p :: ks) = declP ar he p ++ declsP ar he ks := rfl
    rw [this, List.length_append, List.length_cons]
    have h1 : (declP ar he p).length ≤ 1 := by
      unfold declP
      split
      · exact Nat.zero_le _
      · split <;> exact Nat.le_refl _
    omega
structure DcSt (w : World) (ar he : Sc) (ks : List (List Nat)) (k : Nat) (v : Value) (w' : World) : Prop where
  le : k ≤ ks.length
  bel : Below w.heap.size w w'
  row : PairsV w' w.heap.size v (declsP ar he (ks.take k))
theorem DcSt.keep {w w1 w2 : World} {ar he : Sc} {ks : List (List Nat)} {k : Nat} {v : Value} {p : List Nat} (h : DcSt w ar he ks k v w1) (hp : ks[k]? = some p) (hd : declP ar he p = []) (hb : Below w1.heap.size w1 w2) : DcSt w ar he ks (k + 1) v w2 := by
  refine ⟨(List.getElem?_eq_some_iff.1 hp).1, Below.then h.bel hb, ?_⟩
  rw [declsP_snoc hp, hd, List.append_nil]
  exact h.row.on hb
theorem DcSt.add {w w2 : World} {ar he : Sc} {ks : List (List Nat)} {k m : Nat} {v : Value} {p a c : List Nat} (hp : ks[k]? = some p) (hd : declP ar he p = [(a, c)]) (hm : (declsP ar he (ks.take k)).length = m) (hb : Below w.heap.size w w2) (h : w2.ownsRow w.heap.size 65 2 v (m + 1) (pairRow (declsP ar he (ks.take k)) ++ [.string (T a), .string (T c)])) : DcSt w ar he ks (k + 1) v w2 := by
  refine ⟨(List.getElem?_eq_some_iff.1 hp).1, hb, ?_⟩
  unfold PairsV
  rw [declsP_snoc hp, hd, pairRow_snoc, List.length_append, hm]
  exact h
theorem xmlns_T (p : List Nat) : (⟨#[120, 109, 108, 110, 115, 58]⟩ : ByteArray) ++ T p = T (xmlnsL ++ 58 :: p) := by
  have e : (⟨#[120, 109, 108, 110, 115, 58]⟩ : ByteArray) = T (xmlnsL ++ [58]) := by rfl
  rw [e, T_app, List.append_assoc]
  rfl
set_option maxRecDepth 100000 in
set_option maxHeartbeats 4000000 in
theorem declarations_any (p b : Nat) (ma : Value) (ar he : Sc) (w : World) (H : TagV w p b ma ar he) (hsl : he.length ≤ 100000) :
    Calls Tryd.prog 68 #[.pointer (some ⟨p, 0, none⟩)] w fun e w' => (∃ u ks, e = .returned u ∧ ks.Perm (he.map (·.1)) ∧ ks.map tx = (keysL he).mergeSort leB ∧ PairsV w' w.heap.size u (declsP ar he ks)) ∧ Below w.heap.size w w' := by
  obtain ⟨mm, rfl⟩ := H.arV.one
  have c1 : w.cell? ⟨p, 1, none⟩ = some (.map (some b)) := blk_cell H.blk 1
  have HK := hide (keys_any (some b) w)
  have HS := hide (sorted_any 0 (some b) he w H.sc (by omega))
  have HH := hide H
  clear H
  go_enter Tryd.func68, Tryd.ntmps68
  go_wp2_with fail
  refine (unhide HK).mono ?_
  rintro e w2 ⟨rfl, rfl⟩
  clear HK c1
  go_wp2_with fail
  refine (unhide HS).mono ?_
  rintro e w3 ⟨vs, ss, rfl, hp, hrow, hnil, hb3⟩
  have hb : Below w.heap.size w w3 := ((Below.refl _ _).alloc (Nat.le_refl _) _).trans (hb3.mono (Nat.le_succ _))
  have HH3 := hide ((unhide HH).on hb)
  have hms : ss.mergeSort leB = (keysL he).mergeSort leB := mergeSort_of_perm hp
  have hpz : (ss.mergeSort leB).Perm (keysL he) := (List.mergeSort_perm ss leB).trans hp
  obtain ⟨ks, hks, hkp⟩ := keys_back (fun y hy => ((unhide HH).ok y hy).1.1) hpz
  have hrow' : w3.ownsRow (w.heap.size + 1) 9 1 vs ss.length ((ss.mergeSort leB).map encStr) := hrow
  have hlen : ss.length = ks.length := by
    have h1 := (List.mergeSort_perm ss leB).length_eq
    rw [hks, List.length_map] at h1
    exact h1.symm
  rw [hks, hlen] at hrow'
  have hkl : ks.length ≤ 100000 := by
    have := hkp.length_eq
    rw [List.length_map] at this
    omega
  have HKO : Hid (∀ p ∈ ks, okL p ∧ (T p).size ≤ 1048576) := hide (fun p hm => by
    obtain ⟨y, hy, rfl⟩ := List.mem_map.1 (hkp.mem_iff.1 hm)
    exact ⟨((unhide HH).ok y hy).1.1, ((unhide HH).ok y hy).2.1⟩)
  have HFIN : Hid (ks.Perm (he.map (·.1)) ∧ ks.map tx = (keysL he).mergeSort leB) := hide ⟨hkp, by rw [← hks]; exact hms⟩
  obtain ⟨av, cv, rfl⟩ := owns_slice hrow'
  have HROW := hide hrow'
  have HB := hide hb
  have HI0 : Hid (DcSt w3 ar he ks 0 (.slice none 0 0) w3) := hide ⟨Nat.zero_le _, Below.refl _ _, World.ownsRow_nil _ _ _ _⟩
  clear hp hnil hrow hrow' hms hpz hks hkp hlen HS hb3 hb hsl
  go_wp2_with fail
  go_loopw [3, 14] (fun a i wr => ∃ k : Nat, i = .int .i64 (k : Nat) ∧ DcSt w3 ar he ks k a wr) (fun _ i _ => ks.length - (intOf i).toNat)
  case atStart => exact ⟨0, rfl, unhide HI0⟩
  case round =>
    clear HI0
    obtain ⟨k, rfl, hI⟩ := hrel
    have hk := hI.le
    by_cases hlt : k < ks.length
    · obtain ⟨x, hx⟩ : ∃ x, ks[k]? = some x := ⟨ks[k], List.getElem?_eq_getElem hlt⟩
      obtain ⟨hxo, hxz⟩ := unhide HKO x (List.mem_of_getElem? hx)
      obtain ⟨g, cap, e0, _, _, _, hcs⟩ := owns_at (unhide HROW) (by omega)
      cases e0
      have c0 : wr.cell? ⟨g, k, none⟩ = some (.string (T x)) := keptC hI.bel (hcs k _ (by rw [List.getElem?_map, List.getElem?_map, hx]; rfl))
      have HR := (unhide HH3).on hI.bel
      have l1 := HR.sc.lookB1 hxo hxz
      have l0 := HR.arV.lookB1 hxo hxz
      have d0 : wr.cell? ⟨p, 0, none⟩ = some (.map mm) := blk_cell HR.blk 0
      have d1 : wr.cell? ⟨p, 1, none⟩ = some (.map (some b)) := blk_cell HR.blk 1
      have hfm := fldB
      have n1 : (0 : Int) ≤ (k : Int) := by omega
      have n2 : (k : Int) < (ks.length : Int) := by omega
      have hq1 : ((T ((lookS ar x).getD [])).toList == (T ((lookS he x).getD [])).toList) = ((lookS ar x).getD [] == (lookS he x).getD []) := by
        rw [T_toList ((lookS he x).getD [])]
        refine eq_T ?_ (lookS_ok HR.ok _)
        cases hz : lookS ar x with
        | none => exact okL_e
        | some u =>
          obtain ⟨y, hy, rfl⟩ := Option.map_eq_some_iff.1 hz
          exact (HR.arV.1 y (List.mem_of_find?_eq_some hy)).1.2
      have hq2 := is_empty hxo
      obtain ⟨q1, e1⟩ : ∃ b, ((lookS ar x).getD [] == (lookS he x).getD []) = b := ⟨_, rfl⟩
      obtain ⟨q2, e2⟩ : ∃ b, (x == []) = b := ⟨_, rfl⟩
      rw [e1] at hq1
      rw [e2] at hq2
      have HD : Hid (declP ar he x = if q1 then [] else if q2 then [(xmlnsL, (lookS he x).getD [])] else [(xmlnsL ++ 58 :: x, (lookS he x).getD [])]) := hide (by
        unfold declP
        cases q1
        · rw [if_neg (by simpa using e1)]
          cases q2
          · rw [if_neg (by simpa using e2)]; rfl
          · rw [if_pos (by simpa using e2)]; rfl
        · rw [if_pos (by simpa using e1)]; rfl)
      obtain ⟨uh, euh⟩ : ∃ u, T ((lookS he x).getD []) = u := ⟨_, rfl⟩
      rw [euh] at l1 hq1
      generalize T ((lookS ar x).getD []) = ua at *
      have hsz : (⟨#[120, 109, 108, 110, 115, 58]⟩ : ByteArray).size = 6 := rfl
      have HX := hide hx
      have HU := hide euh
      have hbz := hI.bel.size
      have HI := hide hI
      have HBE := hide hI.bel
      obtain ⟨m, hm⟩ : ∃ m, (declsP ar he (ks.take k)).length = m := ⟨_, rfl⟩
      have hml : m ≤ k := by
        rw [← hm]
        have := declsP_len ar he (ks.take k)
        rw [List.length_take] at this
        omega
      have hrw := hI.row
      unfold PairsV at hrw
      rw [hm] at hrw
      obtain ⟨aw, cw, rfl⟩ := owns_slice hrw
      have HRW := hide hrw
      have HM := hide hm
      obtain ⟨i0, hi, hz0, hz1, hz2⟩ := info_parts infoPair
      clear hI hcs hx hrw HR e1 e2 euh hm
      cases q1
      · cases q2
        · go_wp2_with (at_builtin; refine wpList_append_own _ rfl _ _ 32 rfl w3.heap.size 65 i0 _ 2 32 Tryd.underlying32 hi hz0 hz1 hz2 rfl (by decide) _ m (pairRow (declsP ar he (ks.take k))) rfl (owns_below (unhide HRW) ((Below.refl _ _).alloc (Nat.le_refl _) _)) ⟨wr.heap.size, 0, none⟩ 1 1 [.string ((⟨#[120, 109, 108, 110, 115, 58]⟩ : ByteArray) ++ T x), .string uh] rfl rfl (news2 (by simp [go_sem]) (by simp [go_sem])) (fun u hu => by simp at hu; rcases hu with rfl | rfl <;> rfl) (by unfold maxLen; omega) (by omega) (by simp; omega) ?_; intro v8 w8 hown8 hgrow8 _)
          have hbg : Below w3.heap.size w3 w8 := ((unhide HBE).alloc (unhide HBE).size _).grown hgrow8 (by simp; omega) (fun j hj => ((unhide HRW).lt j hj).1)
          rw [← unhide HU, xmlns_T] at hown8
          exact ⟨⟨k + 1, by simp, DcSt.add (unhide HX) (unhide HD) (unhide HM) hbg hown8⟩, by simp [intOf]; omega⟩
        · go_wp2_with (at_builtin; refine wpList_append_own _ rfl _ _ 32 rfl w3.heap.size 65 i0 _ 2 32 Tryd.underlying32 hi hz0 hz1 hz2 rfl (by decide) _ m (pairRow (declsP ar he (ks.take k))) rfl (owns_below (unhide HRW) ((Below.refl _ _).alloc (Nat.le_refl _) _)) ⟨wr.heap.size, 0, none⟩ 1 1 [.string ⟨#[120, 109, 108, 110, 115]⟩, .string uh] rfl rfl (news2 (by simp [go_sem]) (by simp [go_sem])) (fun u hu => by simp at hu; rcases hu with rfl | rfl <;> rfl) (by unfold maxLen; omega) (by omega) (by simp; omega) ?_; intro v8 w8 hown8 hgrow8 _)
          have hbg : Below w3.heap.size w3 w8 := ((unhide HBE).alloc (unhide HBE).size _).grown hgrow8 (by simp; omega) (fun j hj => ((unhide HRW).lt j hj).1)
          rw [← unhide HU] at hown8
          rw [show (⟨#[120, 109, 108, 110, 115]⟩ : ByteArray) = T xmlnsL from rfl] at hown8
          exact ⟨⟨k + 1, by simp, DcSt.add (unhide HX) (unhide HD) (unhide HM) hbg hown8⟩, by simp [intOf]; omega⟩
      · go_wp2_with fail
        exact ⟨⟨k + 1, by simp, (unhide HI).keep (unhide HX) (unhide HD) (Below.refl _ _)⟩, by simp [intOf]; omega⟩
    · have n2 : ¬ (k : Int) < (ks.length : Int) := by omega
      have hkl : k = ks.length := by omega
      have hrw := hI.row
      rw [hkl, List.take_length] at hrw
      have hbI := hI.bel
      clear hI
      go_wp2
      go_returns
      exact ⟨⟨u3, rfl, ks, (unhide HFIN).1, (unhide HFIN).2, ownsRow_base_a hrw (unhide HB).size⟩, Below.then (unhide HB) hbI⟩
end Go.Proofs.YtllhajjceecjdaaDoor
