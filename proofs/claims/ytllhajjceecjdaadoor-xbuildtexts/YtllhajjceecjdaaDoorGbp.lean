/- Several texts, laid as one. -/
import Derived.Test.YtllhajjceecjdaaDoorBuAt
import Derived.Test.YtllhajjceecjdaaDoorBuD
import Derived.Maps.Ext
import Derived.Maps.RangeWalk
import Derived.Test.YtllhajjceecjdaaDoorGbh
/- The element that is open alone is closed: xbuild's pop, Close. -/
namespace Go.Proofs.YtllhajjceecjdaaDoor
open Go.RowKit Go.Maps
set_option maxRecDepth 100000 in
set_option maxHeartbeats 4000000 in
theorem pop_one (p g c : Nat) (vn : Value) (k : Int) (w : World) (h : BV w p (.slice (some ⟨g, 0, none⟩) 1 c) vn k) (hc : 1 ≤ c) :
    Calls Tryd.prog 30 #[.pointer (some ⟨p, 0, none⟩)] w fun e w' => e = .returned (.tuple #[]) ∧ ∃ ao c', BV w' p (.slice ao 0 c') vn k ∧ Kp (fun j => j = p) w w' := by
  have c0 : w.cell? ⟨p, 0, none⟩ = some (.slice (some ⟨g, 0, none⟩) 1 c) := blk_cell h 0
  have o0 := blk_open h 0
  have hpl : p < w.heap.size := (Array.getElem?_eq_some_iff.1 h).1
  go_enter Tryd.func30, Tryd.ntmps30
  go_wp2_with fail
  have HX := hide (show ClsB w w.drew from ⟨(Below.refl _ _).drew⟩)
  have HCE := hide (fun w' (hC : ClsB w w') => keptC hC.bel c0)
  have HH := hide (fun w' (hb : Below w.heap.size w w') => block_below h hb)
  clear c0 o0
  refine wp_region_cls_tail 12 (ClsB w) (by kernel_rfl) (by kernel_rfl) (by kernel_rfl) (unhide HX) ?_
  simp only [List.take_succ_cons, List.take_zero, List.drop_succ_cons, List.drop_zero]
  repeat
    (first
      | go_big_quiet_skip
      | (go_big_quiet_want
         go_big_quiet_op
         first
           | go_big_quiet_on
           | (apply Exists.intro
              refine ⟨fun w' hC => ?_, ?_⟩
              · (obtain k0 := unhide HCE _ hC; go_simp; first | done | rfl)
              go_big_quiet_on)))
  refine wpQuiet_nil ?_
  intro w2 hC2
  have h2 := unhide HH _ hC2.bel
  have c2 := blk_cell h2 0
  have o2 := blk_open h2 0
  have HF := hide (fun v => heap_setCell_same w2 p 0 _ _ v h2)
  have HK := hide (fun v => (Kp.of hC2.bel).andThen (S := fun j => j = p) (Kp.set w2 p 0 v) (fun _ _ h => h))
  clear h2 hC2 HX HCE HH
  go_wp2_with fail
  go_returns
  exact ⟨rfl, _, _, unhide HF _, unhide HK _⟩
theorem close_one (p g c : Nat) (vn : Value) (k : Int) (w : World) (h : BV w p (.slice (some ⟨g, 0, none⟩) 1 c) vn k) (hc : 1 ≤ c) :
    Calls Tryd.prog 18 #[.pointer (some ⟨p, 0, none⟩)] w fun e w' => e = .returned (.int .i64 0) ∧ ∃ ao c', BV w' p (.slice ao 0 c') vn k ∧ Kp (fun j => j = p) w w' := by
  have HD := hide (deep_any p _ 1 c vn k w h)
  have HP := hide (pop_one p g c vn k w h hc)
  clear h
  go_enter Tryd.func18, Tryd.ntmps18
  go_wp2_with fail
  refine (unhide HD).mono ?_
  rintro e w1 ⟨rfl, hw⟩
  have hw2 := hw.symm
  clear hw
  subst hw2
  go_wp2_with fail
  refine (unhide HP).mono ?_
  rintro e w2 ⟨rfl, hF⟩
  have HF := hide hF
  clear hF
  go_wp2_with fail
  go_returns
  exact ⟨rfl, unhide HF⟩
end Go.Proofs.YtllhajjceecjdaaDoor
/- What prefixes stand for, copied: maps.Copy; xbuild's inner. -/
namespace Go.Proofs.YtllhajjceecjdaaDoor
open Go.RowKit Go.Maps Go.Shelf
theorem map_on {w w' : World} {b n : Nat} {D : DataW Unit} (h : w.ownsMap Tryd.prog 9 entElem b n D) (hb : Below w.heap.size w w') : w'.ownsMap Tryd.prog 9 entElem b n D := by
  obtain ⟨es, ck, h1, h2⟩ := h
  exact ⟨es, ck, block_below h1 hb, h2⟩
set_option maxRecDepth 100000 in
set_option maxHeartbeats 4000000 in
theorem copy_onto (b n d n1 : Nat) (D0 D1 : DataW Unit) (w : World) (hown : w.ownsMap Tryd.prog 9 entElem b n D0) (hd : w.ownsMap Tryd.prog 9 entElem d n1 D1) (hne : b ≠ d) (hmax : n1 + Maps.size D0 ≤ maxLen) :
    Calls Tryd.prog 74 #[.map (some d), .map (some b)] w fun e w' => e = .returned (.tuple #[]) ∧ (∃ Dn, w'.ownsMap Tryd.prog 9 entElem d (n1 + Maps.size D0) Dn) ∧ Kp (· = d) w w' := by
  have hbl := hown.lt
  have hdl := hd.lt
  go_enter Tryd.func74, Tryd.ntmps74
  go_wp2_with (first
    | (at_range; refine wpList_range_own _ rfl _ 58 rfl 9 56 strKeyed Tryd.underlying58 _ b n _ rfl hown ?_; intro w0 hrg0 hg0 hs0)
    | go_in)
  go_frame
  go_loopw [4, 5] (fun _ _ wr => ∃ (left : Lit → Bool) (cnt : Nat) (Dout : DataW Unit), wr.ranges Tryd.prog 9 entElem b w.heap.size n D0 left cnt ∧ cnt ≤ Maps.size D0 ∧
      wr.ownsMap Tryd.prog 9 entElem d (n1 + (Maps.size D0 - cnt)) Dout ∧ Kp (· = d) w wr)
    (fun _ _ wr => wr.rangeLeft b w.heap.size)
  case atStart =>
    exact ⟨_, _, D1, hrg0, Nat.le_refl _, (hd.kept hg0 (by simp)).mono (by omega), ⟨hg0.os, hg0.tape, hg0.output, hg0.size, fun k hk _ => hg0.block k hk (by simp)⟩⟩
  case round =>
    obtain ⟨left, cnt, Dout, hrg, hcs, hout, hkp⟩ := hrel
    have hsz := hkp.size
    go_wp2_with (first
      | (at_next; refine wpList_next_ranges _ rfl _ rfl 9 strKeyed entElem Value.string (fun c : ByteArray => Value.agg #[.string c]) (fun key kl hkey => by obtain ⟨x, rfl, _⟩ := str_inv hkey; exact ⟨x, rfl⟩) (fun v y hv => by obtain ⟨c, rfl, _⟩ := ent_inv hv; exact ⟨c, rfl⟩) b w.heap.size n _ _ _ rfl hrg ?_ ?_)
      | go_in)
    · intro hc0 hl0
      go_wp2
      go_returns
      subst hc0
      exact ⟨rfl, ⟨Dout, by simpa using hout⟩, hkp⟩
    · intro x c kl ya yb w1 cnt1 hkey hlx hy hat hrg1 hlt hg1 hs1 hen
      obtain ⟨_, e1, hxs, rfl⟩ := str_inv hkey
      cases e1
      obtain ⟨_, e2, e3⟩ := ent_inv hy
      cases e2
      cases e3
      have hout1 := (hout.kept hg1 (by simp; omega)).alloc (.cells #[.string c] 56)
      have hrg1a := hrg1.alloc (.cells #[.string c] 56)
      have HRG := hide hrg1a
      have HK := hide hkp
      have hkl : keyOf Tryd.prog 9 (.string x) = some (.string x.data.toList) := hkey
      clear hrg1 hrg1a hat hkp hown hd hg0 hrg0 hkey hlx hy hout
      go_wp2_with (first
        | (at_mapUpdate; refine wpList_mapUpdate_own _ rfl _ _ _ 58 rfl 9 56 strKeyed Tryd.underlying58 entElem d _ _ rfl hout1 (by omega) _ _ _ rfl rfl hkl _ [] rfl ?_; intro w2 hout2 hg2; go_frame)
        | go_in)
      have hrg2 := (unhide HRG).kept hg2 (fun e => hne (Option.some.inj e)) (fun e => by have := Option.some.inj e; omega)
      have hk1 := ((unhide HK).grown hg1 (fun j e hj => by have := Option.some.inj e; omega)).grown (World.grownBy_alloc w1 (.cells #[.string c] 56) none) (fun j e _ => by cases e)
      have hk2 := hk1.grown hg2 (fun j e _ => (Option.some.inj e).symm)
      refine ⟨⟨_, cnt1, _, hrg2, by omega, hout2.mono (by omega), hk2⟩, ?_⟩
      rw [hrg2.left_eq, hrg.left_eq]
      exact hlt
set_option maxRecDepth 100000 in
set_option maxHeartbeats 4000000 in
/-- inner tells a scope of its own, and changes nothing. -/
theorem inner_some (p b a n n1 : Nat) (he : Sc) (D1 : DataW Unit) (w : World) (hp : w.heap[p]? = some (.cells #[.map (some a), .map (some b)] 122 (0, 0))) (hh : w.ownsMap Tryd.prog 9 entElem b n (scD he)) (ha : w.ownsMap Tryd.prog 9 entElem a n1 D1) (hn : n1 + he.length ≤ 1000000) :
    Calls Tryd.prog 69 #[.pointer (some ⟨p, 0, none⟩)] w fun e w' => (∃ m, e = .returned (.map (some m))) ∧ Below w.heap.size w w' := by
  have c0 : w.cell? ⟨p, 0, none⟩ = some (.map (some a)) := blk_cell hp 0
  have hbl := hh.lt
  have HC := hide (AnyW.maps_Clone_owns Tryd.cloneB 9 entElem a n1 D1 w ha)
  have HP := hide hp
  have hs : Maps.size (scD he) = he.length := by
    show (he.map _).length = _
    rw [List.length_map]
  have HCP := hide (fun (w' : World) (d : Nat) (hb : Below w.heap.size w w') (hd : w'.ownsMap Tryd.prog 9 entElem d n1 D1) (hne : b ≠ d) => copy_onto b n d n1 (scD he) D1 w' (map_on hh hb) hd hne (by rw [hs]; unfold maxLen; omega))
  clear hp hh ha
  go_enter Tryd.func69, Tryd.ntmps69
  go_wp2_with fail
  refine (unhide HC).mono ?_
  rintro e w1 ⟨rfl, h1, _, hb1⟩
  have c1 : w1.cell? ⟨p, 1, none⟩ = some (.map (some b)) := blk_cell (block_below (unhide HP) hb1) 1
  have HK := hide (unhide HCP w1 w.heap.size hb1 h1 (by omega))
  have HB1 := hide hb1
  clear h1 hb1 HC HCP
  go_wp2_with fail
  refine (unhide HK).mono ?_
  rintro e w2 ⟨rfl, _, hk2⟩
  have HF := hide (show Below w.heap.size w w2 from by
    have h3 : Kp (fun j => j = w.heap.size) w w2 := (Kp.of (unhide HB1)).andThen hk2 (fun _ _ h => h)
    exact ⟨h3.os, h3.tape, h3.output, h3.size, fun k hk => h3.block k hk (by show ¬ k = w.heap.size; omega)⟩)
  clear hk2 HK
  go_wp2_with fail
  go_returns
  exact ⟨⟨_, rfl⟩, unhide HF⟩
end Go.Proofs.YtllhajjceecjdaaDoor
/- An element's tokens: xbuild's attribute, tokens. -/
namespace Go.Proofs.YtllhajjceecjdaaDoor
open Go.RowKit Go.Maps Go.Shelf
set_option maxRecDepth 100000 in
set_option maxHeartbeats 4000000 in
theorem attributeB_any (p b : Nat) (ma : Value) (ar he : Sc) (n : Nm) (w : World) (H : TagV w p b ma ar he) (h0 : okL n.uri) (h1 : okL n.pre) (z0 : (T n.uri).size ≤ 1048576) (z1 : (T n.pre).size ≤ 1048576) (z2 : (T n.loc).size ≤ 1048576) (hn : he.length + ar.length ≤ 90) (hE : BEnv w) :
    Calls Tryd.prog 67 #[.pointer (some ⟨p, 0, none⟩), .agg #[.string (T n.uri), .string (T n.pre), .string (T n.loc)]] w fun e w' => e = .returned (.string (T (atS ar he n).1)) ∧ TagV w' p b ma ar (atS ar he n).2 ∧ Kp (· = b) w w' := by
  have hb : Below w.heap.size w (w.alloc (.cells #[.string (T n.uri), .string (T n.pre), .string (T n.loc)] 61)) := (Below.refl _ _).alloc (Nat.le_refl _) _
  have hq := is_empty h1
  by_cases c : n.pre = []
  · have e : (n.pre == []) = true := by simp [c]
    rw [e] at hq
    have HS := hide (show atS ar he n = (n.loc, he) by unfold atS; rw [if_pos c])
    have HF := hide (And.intro (H.on hb) (Kp.of (S := fun x => x = b) hb))
    clear c e H hE
    go_enter Tryd.func67, Tryd.ntmps67
    go_wp2_with fail
    go_returns
    rw [unhide HS]
    exact ⟨rfl, (unhide HF).1, (unhide HF).2⟩
  · have e : (n.pre == []) = false := by simp [c]
    rw [e] at hq
    have HS := hide (show atS ar he n = qnS ar he n by unfold atS; rw [if_neg c])
    have HQ := hide (qnameB_any p b ma ar he n _ (H.on hb) h0 h1 z0 z1 z2 hn (hE.below hb))
    have HB := hide hb
    clear c e H hE hb
    go_enter Tryd.func67, Tryd.ntmps67
    go_wp2_with fail
    refine (unhide HQ).mono ?_
    rintro e w2 ⟨rfl, hT, hK⟩
    have HT := hide hT
    have HK := hide ((Kp.of (S := fun x => x = b) (unhide HB)).andThen hK (fun _ _ h => h))
    clear hT hK HQ HB
    go_wp2_with fail
    go_returns
    rw [unhide HS]
    exact ⟨rfl, unhide HT, unhide HK⟩
end Go.Proofs.YtllhajjceecjdaaDoor
