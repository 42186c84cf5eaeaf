/- What a node's prefixes stand for: xdm's Scope. -/
import Derived.Test.YtjjggncbhenffaaGreatDoorGbw
import Derived.Test.YtjjggncbhenffaaGreatDoorGbb
namespace Go.Proofs.YtjjggncbhenffaaGreatDoor
open Go.RowKit Go.Maps
def scopeOf (s : Sc) (ks : List (List Nat)) : List (List Nat × List Nat) := ks.map fun p => (p, (lookS s p).getD [])
theorem scopeOf_snoc {s : Sc} {ks : List (List Nat)} {k : Nat} {p : List Nat} (h : ks[k]? = some p) : scopeOf s (ks.take (k + 1)) = scopeOf s (ks.take k) ++ [(p, (lookS s p).getD [])] := by
  obtain ⟨hk, hx⟩ := List.getElem?_eq_some_iff.1 h
  unfold scopeOf
  rw [List.take_succ_eq_append_getElem hk, hx, List.map_append]
  rfl
theorem keys_back {s : Sc} (hok : ∀ x ∈ s, okL x.1) {zs : List (List UInt8)} (hp : zs.Perm (keysL s)) : ∃ ks : List (List Nat), zs = ks.map tx ∧ ks.Perm (s.map (·.1)) := by
  let inv : List UInt8 → List Nat := fun z => ((s.map (·.1)).find? fun p => tx p == z).getD []
  have hinv : ∀ p ∈ s.map (·.1), inv (tx p) = p := by
    intro p hm
    obtain ⟨x, hx, rfl⟩ := List.mem_map.1 hm
    show ((s.map (·.1)).find? fun q => tx q == tx x.1).getD [] = x.1
    cases hf : (s.map (·.1)).find? fun q => tx q == tx x.1 with
    | none =>
      have := List.find?_eq_none.1 hf x.1 hm
      simp at this
    | some q =>
      have h1 := List.find?_some hf
      have h2 := List.mem_of_find?_eq_some hf
      obtain ⟨y, hy, rfl⟩ := List.mem_map.1 h2
      exact tx_inj (hok y hy) (hok x hx) (by simpa using h1)
  refine ⟨zs.map inv, ?_, ?_⟩
  · rw [List.map_map]
    have : ∀ z ∈ zs, (tx ∘ inv) z = z := by
      intro z hz
      obtain ⟨x, hx, rfl⟩ := List.mem_map.1 (hp.mem_iff.1 hz)
      show tx (inv (tx x.1)) = tx x.1
      rw [hinv _ (List.mem_map_of_mem hx)]
    have h3 : zs.map (tx ∘ inv) = zs.map id := List.map_congr_left this
    rw [h3, List.map_id]
  · have h1 := hp.map inv
    have h2 : (keysL s).map inv = s.map (·.1) := by
      unfold keysL
      rw [List.map_map]
      refine List.map_congr_left fun x hx => ?_
      exact hinv _ (List.mem_map_of_mem hx)
    rw [h2] at h1
    exact h1
theorem ScV.look1 {w : World} {B : Nat} {v : Value} {s : Sc} (h : ScV w B v s) {p : List Nat} (hp : okL p) (hz : (T p).size ≤ 1048576) :
    (Instr.lookup 67 v (.string (T p)) false).run Tryz.prog w = .ok (.agg #[.string (T ((lookS s p).getD []))]) w := by
  have hz0 : (zeroValue 95).run Tryz.prog w = .ok (.agg #[.string ⟨#[]⟩]) w := by kernel_rfl
  have hk := Go.WideMaps.keyOf_string_mk Tryz.underlying9 (by unfold maxLen; omega : (T p).size ≤ maxLen)
  rcases h.2 with ⟨rfl, rfl⟩ | ⟨b, rfl, _, hown⟩
  · rw [Maps.look_nil false (Maps.string_keyed Tryz.underlying9) Tryz.underlying67 hz0 hk]
    rfl
  · obtain ⟨u, ps, hrun, hu⟩ := hown.lookup (Maps.string_keyed Tryz.underlying9) Tryz.underlying67 hz0 (zd := .agg [.lit (.string [])]) (zp := []) rfl hk
    rw [T_data] at hu
    rw [scD_at s p (fun x hx => (h.1 x hx).1.1) hp] at hu
    rw [hrun, entElem_inv hu]
    rfl
theorem fldMe (a : Value) (W : World) : (Instr.field 95 (.agg #[a]) 0).run Tryz.prog W = .ok a W := by kernel_rfl
structure ScSt (w : World) (s : Sc) (ks : List (List Nat)) (k : Nat) (v : Value) (w' : World) : Prop where
  le : k ≤ ks.length
  bel : Below w.heap.size w w'
  row : AttrsAt w' w.heap.size v (scopeOf s (ks.take k))
set_option maxRecDepth 100000 in
set_option maxHeartbeats 4000000 in
theorem scope_any (B : Nat) (v : Value) (ns : List XNode) (n : Int) (w : World) (h : TreeV w B v ns) (hsl : (nodeD ns n).scope.length ≤ 1048576) :
    Calls Tryz.prog 19 #[v, .int .i64 n] w fun e w' => (∃ u ks, e = .returned u ∧ ks.Perm ((nodeD ns n).scope.map (·.1)) ∧ ks.map tx = (keysL (nodeD ns n).scope).mergeSort leB ∧ AttrsAt w' w.heap.size u (scopeOf (nodeD ns n).scope ks)) ∧ Below w.heap.size w w' := by
  have HN := hide (node_ex B v ns n w h)
  obtain ⟨pv, rfl⟩ := h.ptr
  clear h
  generalize nodeD ns n = x at *
  have hfd := fld6
  go_enter Tryz.func19, Tryz.ntmps19
  go_wp2_with fail
  refine (unhide HN).mono ?_
  rintro e w1 ⟨⟨m, rfl, hu⟩, hb1⟩
  have HK := hide (keys_any m w1)
  have HS := hide (sorted_any B m x.scope w1 hu hsl)
  have HU := hide hu
  clear hu HN
  go_wp2_with fail
  refine (unhide HK).mono ?_
  rintro e w2 ⟨rfl, rfl⟩
  clear HK
  go_wp2_with fail
  refine (unhide HS).mono ?_
  rintro e w3 ⟨vs, ss, rfl, hp, hrow, hnil, hb3⟩
  have hb13 : Below w1.heap.size w1 w3 := ((Below.refl _ _).alloc (Nat.le_refl _) _).trans (hb3.mono (Nat.le_succ _))
  have hb := Below.then hb1 hb13
  have HU3 := hide ((unhide HU).on hb13)
  have hms : ss.mergeSort leB = (keysL x.scope).mergeSort leB := mergeSort_of_perm hp
  have hpz : (ss.mergeSort leB).Perm (keysL x.scope) := (List.mergeSort_perm ss leB).trans hp
  obtain ⟨ks, hks, hkp⟩ := keys_back (fun y hy => ((unhide HU).1 y hy).1.1) hpz
  have hrow' : w3.ownsRow (w1.heap.size + 1) 9 1 vs ss.length ((ss.mergeSort leB).map encStr) := hrow
  have hlen : ss.length = ks.length := by
    have h1 := (List.mergeSort_perm ss leB).length_eq
    rw [hks, List.length_map] at h1
    exact h1.symm
  rw [hks, hlen] at hrow'
  have hkl : ks.length ≤ 1048576 := by
    have := hkp.length_eq
    rw [List.length_map] at this
    omega
  have HKO : Hid (∀ p ∈ ks, okL p ∧ (T p).size ≤ 1048576) := hide (fun p hm => by
    obtain ⟨y, hy, rfl⟩ := List.mem_map.1 (hkp.mem_iff.1 hm)
    exact ⟨((unhide HU).1 y hy).1.1, ((unhide HU).1 y hy).2.1⟩)
  have HFIN : Hid (ks.Perm (x.scope.map (·.1)) ∧ ks.map tx = (keysL x.scope).mergeSort leB) := hide ⟨hkp, by rw [← hks]; exact hms⟩
  obtain ⟨av, cv, rfl⟩ := owns_slice hrow'
  have HROW := hide hrow'
  have HI0 : Hid (ScSt w3 x.scope ks 0 (.slice none 0 0) w3) := hide ⟨Nat.zero_le _, Below.refl _ _, World.ownsRow_nil _ _ _ _⟩
  clear hp hnil hrow hrow' hms hpz hks hkp hlen HS HU hb1 hb3 hb13 hsl
  go_wp2_with fail
  go_loopw [6, 17] (fun a i wr => ∃ k : Nat, i = .int .i64 (k : Nat) ∧ ScSt w3 x.scope ks k a wr) (fun _ i _ => ks.length - (intOf i).toNat)
  case atStart => exact ⟨0, rfl, unhide HI0⟩
  case round =>
    clear HI0 hfd
    obtain ⟨k, rfl, hI⟩ := hrel
    have hk := hI.le
    by_cases hlt : k < ks.length
    · obtain ⟨p, hp⟩ : ∃ p, ks[k]? = some p := ⟨ks[k], List.getElem?_eq_getElem hlt⟩
      obtain ⟨hpo, hpz⟩ := unhide HKO p (List.mem_of_getElem? hp)
      obtain ⟨g, cap, e0, _, _, _, hcs⟩ := owns_at (unhide HROW) (by omega)
      cases e0
      have c0 : wr.cell? ⟨g, k, none⟩ = some (.string (T p)) := keptC hI.bel (hcs k _ (by rw [List.getElem?_map, List.getElem?_map, hp]; rfl))
      have hlook := ((unhide HU3).on hI.bel).look1 hpo hpz
      have hfm := fldMe
      have n1 : (0 : Int) ≤ (k : Int) := by omega
      have n2 : (k : Int) < (ks.length : Int) := by omega
      have hbz := hI.bel.size
      have hrw := hI.row
      have HBE := hide hI.bel
      have hln : (scopeOf x.scope (ks.take k)).length = k := by unfold scopeOf; rw [List.length_map, List.length_take]; omega
      unfold AttrsAt at hrw
      rw [hln] at hrw
      obtain ⟨aw, cw, rfl⟩ := owns_slice hrw
      have HRW := hide hrw
      have HSN := hide (scopeOf_snoc (s := x.scope) hp)
      have HLN := hide hln
      obtain ⟨i0, hi, hz0, hz1, hz2⟩ := info_parts infoPair
      clear hI hcs hp hrw hln
      go_wp2_with (at_builtin; refine wpList_append_own _ rfl _ _ 24 rfl w3.heap.size 36 i0 _ 2 32 Tryz.underlying24 hi hz0 hz1 hz2 rfl (by decide) _ k (pairRow (scopeOf x.scope (ks.take k))) rfl (owns_below (unhide HRW) ((Below.refl _ _).alloc (Nat.le_refl _) _)) ⟨wr.heap.size, 0, none⟩ 1 1 [.string (T p), .string (T ((lookS x.scope p).getD []))] rfl rfl (news2 (by simp [go_sem]) (by simp [go_sem])) (fun u hu => by simp at hu; rcases hu with rfl | rfl <;> rfl) (by unfold maxLen; omega) (by omega) (by simp; omega) ?_; intro v8 w8 hown8 hgrow8 _)
      have hbg : Below w3.heap.size w3 w8 := ((unhide HBE).alloc (unhide HBE).size _).grown hgrow8 (by simp; omega) (fun j hj => ((unhide HRW).lt j hj).1)
      refine ⟨⟨k + 1, by simp, ⟨hlt, hbg, ?_⟩⟩, by simp [intOf]; omega⟩
      unfold AttrsAt
      rw [unhide HSN, pairRow_snoc, List.length_append, unhide HLN]
      exact hown8
    · have n2 : ¬ (k : Int) < (ks.length : Int) := by omega
      have hkl : k = ks.length := by omega
      have hrw := hI.row
      rw [hkl, List.take_length] at hrw
      have hbI := hI.bel
      clear hI
      go_wp2
      go_returns
      have hlow : AttrsAt wr w.heap.size u6 (scopeOf x.scope ks) := ownsRow_base_a hrw hb.size
      exact ⟨⟨u6, rfl, ks, (unhide HFIN).1, (unhide HFIN).2, hlow⟩, Below.then hb hbI⟩
end Go.Proofs.YtjjggncbhenffaaGreatDoor
