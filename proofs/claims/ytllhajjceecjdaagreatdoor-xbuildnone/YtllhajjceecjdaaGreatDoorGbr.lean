/- Several texts, laid as one. -/
import Derived.Test.YtllhajjceecjdaaGreatDoorBuD
import Derived.Maps.Ext
import Derived.Maps.RangeWalk
import Derived.Test.YtllhajjceecjdaaGreatDoorGbk
import Derived.Test.YtllhajjceecjdaaGreatDoorBuCl
/- What prefixes stand for, copied: maps.Copy; xbuild's inner. -/
namespace Go.Proofs.YtllhajjceecjdaaGreatDoor
open Go.RowKit Go.Maps Go.Shelf
theorem map_on {w w' : World} {b n : Nat} {D : DataW Unit} (h : w.ownsMap Tryz.prog 9 entElem b n D) (hb : Below w.heap.size w w') : w'.ownsMap Tryz.prog 9 entElem b n D := by
  obtain ⟨es, ck, h1, h2⟩ := h
  exact ⟨es, ck, block_below h1 hb, h2⟩
set_option maxRecDepth 100000 in
set_option maxHeartbeats 4000000 in
theorem copy_onto (b n d n1 : Nat) (D0 D1 : DataW Unit) (w : World) (hown : w.ownsMap Tryz.prog 9 entElem b n D0) (hd : w.ownsMap Tryz.prog 9 entElem d n1 D1) (hne : b ≠ d) (hmax : n1 + Maps.size D0 ≤ maxLen) :
    Calls Tryz.prog 123 #[.map (some d), .map (some b)] w fun e w' => e = .returned (.tuple #[]) ∧ (∃ Dn, w'.ownsMap Tryz.prog 9 entElem d (n1 + Maps.size D0) Dn) ∧ Kp (· = d) w w' := by
  have hbl := hown.lt
  have hdl := hd.lt
  go_enter Tryz.func123, Tryz.ntmps123
  go_wp2_with (first
    | (at_range; refine wpList_range_own _ rfl _ 51 rfl 9 49 strKeyed Tryz.underlying51 _ b n _ rfl hown ?_; intro w0 hrg0 hg0 hs0)
    | go_in)
  go_frame
  go_loopw [4, 5] (fun _ _ wr => ∃ (left : Lit → Bool) (cnt : Nat) (Dout : DataW Unit), wr.ranges Tryz.prog 9 entElem b w.heap.size n D0 left cnt ∧ cnt ≤ Maps.size D0 ∧
      wr.ownsMap Tryz.prog 9 entElem d (n1 + (Maps.size D0 - cnt)) Dout ∧ Kp (· = d) w wr)
    (fun _ _ wr => wr.rangeLeft b w.heap.size)
  case atStart =>
    exact ⟨_, _, D1, hrg0, Nat.le_refl _, (hd.kept hg0 (by simp)).mono (by omega), ⟨hg0.os, hg0.tape, hg0.output, hg0.size, fun k hk _ => hg0.block k hk (by simp)⟩⟩
  case round =>
    obtain ⟨left, cnt, Dout, hrg, hcs, hout, hkp⟩ := hrel
    have hsz := hkp.size
    go_wp2_with (first
      | (at_next; refine wpList_next_ranges _ rfl _ rfl 9 strKeyed entElem Value.string (fun c : ByteArray => Value.agg #[.string c]) (fun key kl hkey => by obtain ⟨x, rfl, _⟩ := str_inv hkey; exact ⟨x, rfl⟩) (fun v y hv => by obtain ⟨c, rfl, _⟩ := ent_inv hv; exact ⟨c, rfl⟩) b w.heap.size n _ _ _ rfl hrg ?_ ?_)
      | go_in)
    · intro hc0 hl0
      go_wp2
      go_returns
      subst hc0
      exact ⟨rfl, ⟨Dout, by simpa using hout⟩, hkp⟩
    · intro x c kl ya yb w1 cnt1 hkey hlx hy hat hrg1 hlt hg1 hs1 hen
      obtain ⟨_, e1, hxs, rfl⟩ := str_inv hkey
      cases e1
      obtain ⟨_, e2, e3⟩ := ent_inv hy
      cases e2
      cases e3
      have hout1 := (hout.kept hg1 (by simp; omega)).alloc (.cells #[.string c] 49)
      have hrg1a := hrg1.alloc (.cells #[.string c] 49)
      have HRG := hide hrg1a
      have HK := hide hkp
      have hkl : keyOf Tryz.prog 9 (.string x) = some (.string x.data.toList) := hkey
      clear hrg1 hrg1a hat hkp hown hd hg0 hrg0 hkey hlx hy hout
      go_wp2_with (first
        | (at_mapUpdate; refine wpList_mapUpdate_own _ rfl _ _ _ 51 rfl 9 49 strKeyed Tryz.underlying51 entElem d _ _ rfl hout1 (by omega) _ _ _ rfl rfl hkl _ [] rfl ?_; intro w2 hout2 hg2; go_frame)
        | go_in)
      have hrg2 := (unhide HRG).kept hg2 (fun e => hne (Option.some.inj e)) (fun e => by have := Option.some.inj e; omega)
      have hk1 := ((unhide HK).grown hg1 (fun j e hj => by have := Option.some.inj e; omega)).grown (World.grownBy_alloc w1 (.cells #[.string c] 49) none) (fun j e _ => by cases e)
      have hk2 := hk1.grown hg2 (fun j e _ => (Option.some.inj e).symm)
      refine ⟨⟨_, cnt1, _, hrg2, by omega, hout2.mono (by omega), hk2⟩, ?_⟩
      rw [hrg2.left_eq, hrg.left_eq]
      exact hlt
set_option maxRecDepth 100000 in
set_option maxHeartbeats 4000000 in
/-- inner tells a scope of its own, and changes nothing. -/
theorem inner_some (p b a n n1 : Nat) (he : Sc) (D1 : DataW Unit) (w : World) (hp : w.heap[p]? = some (.cells #[.map (some a), .map (some b)] 168 (0, 0))) (hh : w.ownsMap Tryz.prog 9 entElem b n (scD he)) (ha : w.ownsMap Tryz.prog 9 entElem a n1 D1) (hn : n1 + he.length ≤ 1000000) :
    Calls Tryz.prog 118 #[.pointer (some ⟨p, 0, none⟩)] w fun e w' => (∃ m, e = .returned (.map (some m))) ∧ Below w.heap.size w w' := by
  have c0 : w.cell? ⟨p, 0, none⟩ = some (.map (some a)) := blk_cell hp 0
  have hbl := hh.lt
  have HC := hide (AnyW.maps_Clone_owns Tryz.cloneB 9 entElem a n1 D1 w ha)
  have HP := hide hp
  have hs : Maps.size (scD he) = he.length := by
    show (he.map _).length = _
    rw [List.length_map]
  have HCP := hide (fun (w' : World) (d : Nat) (hb : Below w.heap.size w w') (hd : w'.ownsMap Tryz.prog 9 entElem d n1 D1) (hne : b ≠ d) => copy_onto b n d n1 (scD he) D1 w' (map_on hh hb) hd hne (by rw [hs]; unfold maxLen; omega))
  clear hp hh ha
  go_enter Tryz.func118, Tryz.ntmps118
  go_wp2_with fail
  refine (unhide HC).mono ?_
  rintro e w1 ⟨rfl, h1, _, hb1⟩
  have c1 : w1.cell? ⟨p, 1, none⟩ = some (.map (some b)) := blk_cell (block_below (unhide HP) hb1) 1
  have HK := hide (unhide HCP w1 w.heap.size hb1 h1 (by omega))
  have HB1 := hide hb1
  clear h1 hb1 HC HCP
  go_wp2_with fail
  refine (unhide HK).mono ?_
  rintro e w2 ⟨rfl, _, hk2⟩
  have HF := hide (show Below w.heap.size w w2 from by
    have h3 : Kp (fun j => j = w.heap.size) w w2 := (Kp.of (unhide HB1)).andThen hk2 (fun _ _ h => h)
    exact ⟨h3.os, h3.tape, h3.output, h3.size, fun k hk => h3.block k hk (by show ¬ k = w.heap.size; omega)⟩)
  clear hk2 HK
  go_wp2_with fail
  go_returns
  exact ⟨⟨_, rfl⟩, unhide HF⟩
end Go.Proofs.YtllhajjceecjdaaGreatDoor
/- An element's tokens: xbuild's attribute, tokens. -/
namespace Go.Proofs.YtllhajjceecjdaaGreatDoor
open Go.RowKit Go.Maps Go.Shelf
set_option maxRecDepth 100000 in
set_option maxHeartbeats 4000000 in
theorem attributeB_any (p b : Nat) (ma : Value) (ar he : Sc) (n : Nm) (w : World) (H : TagV w p b ma ar he) (h0 : okL n.uri) (h1 : okL n.pre) (z0 : (T n.uri).size ≤ 1048576) (z1 : (T n.pre).size ≤ 1048576) (z2 : (T n.loc).size ≤ 1048576) (hn : he.length + ar.length ≤ 90) (hE : BEnv w) :
    Calls Tryz.prog 116 #[.pointer (some ⟨p, 0, none⟩), .agg #[.string (T n.uri), .string (T n.pre), .string (T n.loc)]] w fun e w' => e = .returned (.string (T (atS ar he n).1)) ∧ TagV w' p b ma ar (atS ar he n).2 ∧ Kp (· = b) w w' := by
  have hb : Below w.heap.size w (w.alloc (.cells #[.string (T n.uri), .string (T n.pre), .string (T n.loc)] 23)) := (Below.refl _ _).alloc (Nat.le_refl _) _
  have hq := is_empty h1
  by_cases c : n.pre = []
  · have e : (n.pre == []) = true := by simp [c]
    rw [e] at hq
    have HS := hide (show atS ar he n = (n.loc, he) by unfold atS; rw [if_pos c])
    have HF := hide (And.intro (H.on hb) (Kp.of (S := fun x => x = b) hb))
    clear c e H hE
    go_enter Tryz.func116, Tryz.ntmps116
    go_wp2_with fail
    go_returns
    rw [unhide HS]
    exact ⟨rfl, (unhide HF).1, (unhide HF).2⟩
  · have e : (n.pre == []) = false := by simp [c]
    rw [e] at hq
    have HS := hide (show atS ar he n = qnS ar he n by unfold atS; rw [if_neg c])
    have HQ := hide (qnameB_any p b ma ar he n _ (H.on hb) h0 h1 z0 z1 z2 hn (hE.below hb))
    have HB := hide hb
    clear c e H hE hb
    go_enter Tryz.func116, Tryz.ntmps116
    go_wp2_with fail
    refine (unhide HQ).mono ?_
    rintro e w2 ⟨rfl, hT, hK⟩
    have HT := hide hT
    have HK := hide ((Kp.of (S := fun x => x = b) (unhide HB)).andThen hK (fun _ _ h => h))
    clear hT hK HQ HB
    go_wp2_with fail
    go_returns
    rw [unhide HS]
    exact ⟨rfl, unhide HT, unhide HK⟩
end Go.Proofs.YtllhajjceecjdaaGreatDoor
