/- Several texts, laid as one. -/
import Derived.Test.YtiembljlhmgpjaaGreatDoorGbn
import Derived.Maps.Ext
import Derived.Maps.RangeWalk
import Derived.Test.YtiembljlhmgpjaaGreatDoorGbj
/- An attribute's name, expanded: xdm's expandAttribute. -/
namespace Go.Proofs.YtiembljlhmgpjaaGreatDoor
open Go.RowKit
theorem expV_cases (o : Option Nm) : ∃ a b c d, expV o = .tuple #[.agg #[.string a, .string b, .string c], .bool d] := by
  cases o with
  | none => exact ⟨_, _, _, _, rfl⟩
  | some n => exact ⟨_, _, _, _, rfl⟩
set_option maxRecDepth 100000 in
set_option maxHeartbeats 4000000 in
theorem expandA_any (B : Nat) (v : Value) (s : Sc) (q : List Nat) (w : World) (hv : ScV w B v s) (hq : okL q) (hQ : isQ q = true) (hz : (T q).size ≤ 1048576) (hE : Env w) :
    Calls Tryz.prog 130 #[v, .string (T q)] w fun e w' => e = .returned (expV (expandA s q)) ∧ Below w.heap.size w w' := by
  have HN : Hid (∀ W, Below w.heap.size w W → Calls Tryz.prog 116 #[.string (T q)] W fun e w' => e = .returned (.bool (isNm q)) ∧ Below W.heap.size W w') := hide (fun W hb => by
    rw [← nameB_T hq]
    exact isName_any (T q) W (by unfold maxLen; omega) (hE.below hb))
  have HX := hide (fun W (hb : Below w.heap.size w W) => expand_any B v s q W (hv.on hb) hq hQ hz (hE.below hb))
  have HA : Hid (expandA s q = if isNm q = true then some ⟨[], [], q⟩ else expandD s q) := hide rfl
  obtain ⟨m, rfl⟩ := hv.one
  clear hv hE
  by_cases hn : isNm q = true
  · rw [hn] at HN
    rw [unhide HA, if_pos hn]
    show Calls _ _ _ w fun e w' => e = .returned (.tuple #[.agg #[.string ⟨#[]⟩, .string ⟨#[]⟩, .string (T q)], .bool true]) ∧ Below w.heap.size w w'
    clear HX HA hn
    go_enter Tryz.func130, Tryz.ntmps130
    go_wp2_with fail
    refine (unhide HN _ ((Below.refl _ _).alloc (Nat.le_refl _) _)).mono ?_
    rintro e w1 ⟨rfl, hb1⟩
    have hbx := block_below (alloc_new _ _) hb1
    have hb01 := Below.then ((Below.refl _ _).alloc (Nat.le_refl _) _) hb1
    have hsz1 : w.heap.size < w1.heap.size := (Array.getElem?_eq_some_iff.1 hbx).1
    have r0 : w1.cell? ⟨w.heap.size, 0, none⟩ = some (.string ⟨#[]⟩) := blk_cell hbx 0
    have r1 : w1.cell? ⟨w.heap.size, 1, none⟩ = some (.string ⟨#[]⟩) := blk_cell hbx 1
    have r2 : w1.cell? ⟨w.heap.size, 2, none⟩ = some (.string ⟨#[]⟩) := blk_cell hbx 2
    have t0 := blk_open hbx 0
    have t1 := blk_open hbx 1
    have t2 := blk_open hbx 2
    clear hb1 hbx
    go_wp2_with fail
    refine bodyPost_ret (v := .tuple #[.agg #[.string ⟨#[]⟩, .string ⟨#[]⟩, .string (T q)], .bool true]) (by simp [results, Tryz.results130, go_sem, r0, r1, r2]) rfl ?_
    exact ⟨rfl, ((hb01.setCell (Nat.le_refl _) _).setCell (Nat.le_refl _) _).setCell (Nat.le_refl _) _⟩
  · have hn' : isNm q = false := by simpa using hn
    rw [hn'] at HN
    rw [unhide HA, if_neg hn]
    obtain ⟨a, b, c, d, he⟩ := expV_cases (expandD s q)
    rw [he] at HX ⊢
    clear HA hn hn' he
    go_enter Tryz.func130, Tryz.ntmps130
    go_wp2_with fail
    refine (unhide HN _ ((Below.refl _ _).alloc (Nat.le_refl _) _)).mono ?_
    rintro e w1 ⟨rfl, hb1⟩
    have hbx := block_below (alloc_new _ _) hb1
    have hb01 := Below.then ((Below.refl _ _).alloc (Nat.le_refl _) _) hb1
    have HBX := hide hbx
    clear hb1 hbx
    go_wp2_with fail
    refine (unhide HX _ hb01).mono ?_
    rintro e w2 ⟨rfl, hb2⟩
    have hbx := block_below (unhide HBX) hb2
    have hb02 := Below.then hb01 hb2
    have hsz1 : w.heap.size < w2.heap.size := (Array.getElem?_eq_some_iff.1 hbx).1
    have r0 : w2.cell? ⟨w.heap.size, 0, none⟩ = some (.string ⟨#[]⟩) := blk_cell hbx 0
    have r1 : w2.cell? ⟨w.heap.size, 1, none⟩ = some (.string ⟨#[]⟩) := blk_cell hbx 1
    have r2 : w2.cell? ⟨w.heap.size, 2, none⟩ = some (.string ⟨#[]⟩) := blk_cell hbx 2
    have t0 := blk_open hbx 0
    have t1 := blk_open hbx 1
    have t2 := blk_open hbx 2
    clear hb2 hbx
    go_wp2_with fail
    refine bodyPost_ret (v := .tuple #[.agg #[.string a, .string b, .string c], .bool d]) (by simp [results, Tryz.results130, go_sem, r0, r1, r2]) rfl ?_
    exact ⟨rfl, ((hb02.setCell (Nat.le_refl _) _).setCell (Nat.le_refl _) _).setCell (Nat.le_refl _) _⟩
end Go.Proofs.YtiembljlhmgpjaaGreatDoor
/- What prefixes stand for, copied and changed: maps.Copy, xdm's copied, declare. -/
namespace Go.Proofs.YtiembljlhmgpjaaGreatDoor
open Go.RowKit Go.Maps
theorem strKeyed : Maps.Keyed Tryz.prog 9 := Maps.string_keyed Tryz.underlying9
theorem strInv {P : Program} {k : TypeId} (hk : P.underlying k = some .string) {key : Value} {kl : Lit} (h : keyOf P k key = some kl) : ∃ s : ByteArray, key = .string s ∧ s.size ≤ maxLen ∧ kl = .string s.data.toList := by
  have e : keyOf P k key = mapKey P k key := by simp [keyOf, hk]
  rw [e] at h
  cases key with
  | string s =>
    simp [mapKey, hk] at h
    exact ⟨s, rfl, h.1, h.2.symm⟩
  | _ => simp [mapKey, hk] at h
theorem str_inv {key : Value} {kl : Lit} (h : keyOf Tryz.prog 9 key = some kl) : ∃ s : ByteArray, key = .string s ∧ s.size ≤ maxLen ∧ kl = .string s.data.toList := strInv Tryz.underlying9 h
theorem ent_inv {v : Value} {y : DataW Unit × List MemPlace} (h : entElem v = some y) : ∃ c : ByteArray, v = .agg #[.string c] ∧ y = (.agg [.lit (.string c.data.toList)], []) := by
  unfold entElem at h
  split at h
  · rename_i a
    unfold entCells at h
    split at h
    · rename_i s hs
      cases h
      exact ⟨s, by rw [show a = #[.string s] from Array.toList_inj.1 hs], rfl⟩
    · cases h
  · cases h
set_option maxRecDepth 100000 in
set_option maxHeartbeats 4000000 in
theorem copy_any (b n d : Nat) (D0 : DataW Unit) (w : World) (hown : w.ownsMap Tryz.prog 9 entElem b n D0) (hd : w.ownsMap Tryz.prog 9 entElem d 0 (.map [])) (hne : b ≠ d) (hmax : Maps.size D0 ≤ maxLen) :
    Calls Tryz.prog 150 #[.map (some d), .map (some b)] w fun e w' => e = .returned (.tuple #[]) ∧ w'.ownsMap Tryz.prog 9 entElem d (Maps.size D0) D0 ∧ Kp (· = d) w w' := by
  have hbl := hown.lt
  have hdl := hd.lt
  go_enter Tryz.func150, Tryz.ntmps150
  go_wp2_with (first
    | (at_range; refine wpList_range_own _ rfl _ 68 rfl 9 162 strKeyed Tryz.underlying68 _ b n _ rfl hown ?_; intro w0 hrg0 hg0 hs0)
    | go_in)
  go_frame
  go_loopw [4, 5] (fun _ _ wr => ∃ (left : Lit → Bool) (cnt : Nat) (Dout : DataW Unit), wr.ranges Tryz.prog 9 entElem b w.heap.size n D0 left cnt ∧ cnt ≤ Maps.size D0 ∧
      wr.ownsMap Tryz.prog 9 entElem d (Maps.size D0 - cnt) Dout ∧ Agree Dout D0 left ∧ Kp (· = d) w wr)
    (fun _ _ wr => wr.rangeLeft b w.heap.size)
  case atStart =>
    exact ⟨_, _, .map [], hrg0, Nat.le_refl _, (hd.kept hg0 (by simp)).mono (Nat.zero_le _), agree_start D0, ⟨hg0.os, hg0.tape, hg0.output, hg0.size, fun k hk _ => hg0.block k hk (by simp)⟩⟩
  case round =>
    obtain ⟨left, cnt, Dout, hrg, hcs, hout, hA, hkp⟩ := hrel
    have hsz := hkp.size
    go_wp2_with (first
      | (at_next; refine wpList_next_ranges _ rfl _ rfl 9 strKeyed entElem Value.string (fun c : ByteArray => Value.agg #[.string c]) (fun key kl hkey => by obtain ⟨x, rfl, _⟩ := str_inv hkey; exact ⟨x, rfl⟩) (fun v y hv => by obtain ⟨c, rfl, _⟩ := ent_inv hv; exact ⟨c, rfl⟩) b w.heap.size n _ _ _ rfl hrg ?_ ?_)
      | go_in)
    · intro hc0 hl0
      go_wp2
      go_returns
      subst hc0
      have e := agree_end hA hl0 (hout.canon strKeyed) (hown.canon strKeyed)
      subst e
      exact ⟨rfl, by simpa using hout, hkp⟩
    · intro x c kl ya yb w1 cnt1 hkey hlx hy hat hrg1 hlt hg1 hs1 hen
      obtain ⟨_, e1, hxs, rfl⟩ := str_inv hkey
      cases e1
      obtain ⟨_, e2, e3⟩ := ent_inv hy
      cases e2
      cases e3
      have hout1 := (hout.kept hg1 (by simp; omega)).alloc (.cells #[.string c] 162)
      have hrg1a := hrg1.alloc (.cells #[.string c] 162)
      have HRG := hide hrg1a
      have HA := hide hA
      have HAT := hide hat
      have HK := hide hkp
      have hkl : keyOf Tryz.prog 9 (.string x) = some (.string x.data.toList) := hkey
      clear hrg1 hrg1a hA hat hkp hown hd hg0 hrg0 hkey hlx hy hout
      go_wp2_with (first
        | (at_mapUpdate; refine wpList_mapUpdate_own _ rfl _ _ _ 68 rfl 9 162 strKeyed Tryz.underlying68 entElem d _ _ rfl hout1 (by omega) _ _ _ rfl rfl hkl _ [] rfl ?_; intro w2 hout2 hg2; go_frame)
        | go_in)
      have hrg2 := (unhide HRG).kept hg2 (fun e => hne (Option.some.inj e)) (fun e => by have := Option.some.inj e; omega)
      have hk1 := ((unhide HK).grown hg1 (fun j e hj => by have := Option.some.inj e; omega)).grown (World.grownBy_alloc w1 (.cells #[.string c] 162) none) (fun j e _ => by cases e)
      have hk2 := hk1.grown hg2 (fun j e _ => (Option.some.inj e).symm)
      refine ⟨⟨_, cnt1, _, hrg2, by omega, hout2.mono (by omega), agree_step (unhide HA) hout1.isMap trivial (unhide HAT), hk2⟩, ?_⟩
      rw [hrg2.left_eq, hrg.left_eq]
      exact hlt
set_option maxRecDepth 100000 in
set_option maxHeartbeats 4000000 in
theorem copy_nil (d : Nat) (w : World) (hd : w.ownsMap Tryz.prog 9 entElem d 0 (.map [])) :
    Calls Tryz.prog 150 #[.map (some d), .map none] w fun e w' => e = .returned (.tuple #[]) ∧ w'.ownsMap Tryz.prog 9 entElem d 0 (.map []) ∧ Kp (· = d) w w' := by
  have hrg := run_range_nilMap (P := Tryz.prog) w 68 9 162 Tryz.underlying68
  have hnx : ∀ ty, (Instr.next (.pointer (some ⟨w.heap.size, 0, none⟩)) false ty).run Tryz.prog (w.alloc (.mapIter none 0 #[] 0)) = _ := fun ty => run_next_nilMap _ ty 0 0 #[]
  go_enter Tryz.func150, Tryz.ntmps150
  go_wp2
  refine wp_loop_rounds 1 ?_
  rw [rounds_succ]
  go_wp2
  go_returns
  exact ⟨rfl, hd.alloc _, (Kp.refl (· = d) w).grown (World.grownBy_alloc w _ none) (fun j e _ => by cases e)⟩
/-- A copy: another map of the same. -/
theorem scD_size (s : Sc) : Maps.size (scD s) = s.length := by
  unfold scD
  rw [Maps.size_eq, List.length_map]
set_option maxRecDepth 100000 in
set_option maxHeartbeats 4000000 in
theorem copied_any (B : Nat) (v : Value) (s : Sc) (w : World) (hv : ScV w B v s) (hs : s.length ≤ 1000000) :
    Calls Tryz.prog 128 #[v] w fun e w' => e = .returned (.map (some w.heap.size)) ∧ w'.ownsMap Tryz.prog 9 entElem w.heap.size s.length (scD s) ∧ Below w.heap.size w w' := by
  have hmk : ∀ W : World, (Instr.makeMap 68 none).run Tryz.prog W = .ok (.map (some W.heap.size)) (W.alloc (.map #[] 0)) := fun W => rfl
  have HC : Hid (Calls Tryz.prog 150 #[.map (some w.heap.size), v] (w.alloc (.map #[] 0)) fun e w' => e = .returned (.tuple #[]) ∧ w'.ownsMap Tryz.prog 9 entElem w.heap.size s.length (scD s) ∧ Kp (· = w.heap.size) (w.alloc (.map #[] 0)) w') := hide (by
    rcases hv.2 with ⟨rfl, rfl⟩ | ⟨b, rfl, hB, hown⟩
    · exact copy_nil w.heap.size _ (World.ownsMap_made _ _ _ _)
    · have h := copy_any b s.length w.heap.size (scD s) _ (hown.alloc _) (World.ownsMap_made _ _ _ _) (by have := hown.lt; omega) (by rw [scD_size]; unfold maxLen; omega)
      rw [scD_size] at h
      exact h)
  obtain ⟨m, rfl⟩ := hv.one
  clear hv
  go_enter Tryz.func128, Tryz.ntmps128
  go_wp2_with fail
  refine (unhide HC).mono ?_
  rintro e w1 ⟨rfl, hown, hk⟩
  have HO := hide hown
  have HK := hide hk
  clear hown hk
  go_wp2
  go_returns
  refine ⟨rfl, unhide HO, ?_⟩
  have h := unhide HK
  have hsz := h.size
  have hasz : (w.alloc (.map #[] 0)).heap.size = w.heap.size + 1 := by simp
  rw [hasz] at hsz
  exact ⟨h.os, h.tape, h.output, by omega, fun k hk => by rw [h.block k (by rw [hasz]; omega) (by omega)]; exact Below.heap_alloc w _ k hk⟩
end Go.Proofs.YtiembljlhmgpjaaGreatDoor
/- A prefix declared: xdm's declare. -/
namespace Go.Proofs.YtiembljlhmgpjaaGreatDoor
open Go.RowKit Go.Maps
def scE (x : List Nat × List Nat) : Lit × DataW Unit := (.string (tx x.1), .agg [.lit (.string (tx x.2))])
theorem scD_eq (s : Sc) : scD s = .map (s.map scE) := rfl
theorem scD_filter {p : List Nat} (hp : okL p) : ∀ s : Sc, (∀ x ∈ s, okL x.1) → (s.map scE).filter (fun q => !q.1.sameKey (.string (tx p))) = (delS s p).map scE
  | [], _ => rfl
  | x :: s, h => by
    have ih := scD_filter hp s (fun y hy => h y (List.mem_cons_of_mem _ hy))
    have hk : (scE x).1.sameKey (.string (tx p)) = (x.1 == p) := key_same (h x (List.mem_cons_self ..)) hp
    rw [List.map_cons, List.filter_cons, hk]
    unfold delS
    rw [List.filter_cons]
    cases x.1 == p
    · simp only [Bool.not_false, if_true, List.map_cons]
      exact congrArg _ ih
    · simp only [Bool.not_true, Bool.false_eq_true, if_false]
      exact ih
theorem scD_insert (x : List Nat × List Nat) : ∀ s : Sc, DataW.insert (scE x) (s.map scE) = (insS x s).map scE
  | [] => rfl
  | y :: s => by
    have ih := scD_insert x s
    show (if bytesBefore (tx x.1) (tx y.1) then scE x :: scE y :: s.map scE else scE y :: DataW.insert (scE x) (s.map scE)) = (if bytesBefore (tx x.1) (tx y.1) then x :: y :: s else y :: insS x s).map scE
    split
    · rfl
    · rw [ih]; rfl
theorem scD_put {s : Sc} {p u : List Nat} (h : ∀ x ∈ s, okL x.1) (hp : okL p) : (scD s).put (.string (tx p)) (.agg [.lit (.string (tx u))]) = scD (setS s p u) := by
  rw [scD_eq, scD_eq]
  show DataW.map (DataW.insert (scE (p, u)) ((s.map scE).filter fun q => !q.1.sameKey (.string (tx p)))) = _
  rw [scD_filter hp s h, scD_insert]
  rfl
theorem scD_del {s : Sc} {p : List Nat} (h : ∀ x ∈ s, okL x.1) (hp : okL p) : (scD s).del (.string (tx p)) = scD (delS s p) := by
  rw [scD_eq, scD_eq]
  show DataW.map ((s.map scE).filter fun q => !q.1.sameKey (.string (tx p))) = _
  rw [scD_filter hp s h]
theorem insS_mem {x y : List Nat × List Nat} : ∀ {s : Sc}, y ∈ insS x s → y = x ∨ y ∈ s
  | [], h => .inl (List.mem_singleton.1 h)
  | z :: s, h => by
    unfold insS at h
    split at h
    · rcases List.mem_cons.1 h with h | h
      · exact .inl h
      · exact .inr h
    · rcases List.mem_cons.1 h with h | h
      · exact .inr (by rw [h]; exact List.mem_cons_self ..)
      · rcases insS_mem h with h | h
        · exact .inl h
        · exact .inr (List.mem_cons_of_mem _ h)
theorem insS_len (x : List Nat × List Nat) : ∀ s : Sc, (insS x s).length = s.length + 1
  | [] => rfl
  | z :: s => by
    unfold insS
    split
    · rfl
    · rw [List.length_cons, insS_len x s, List.length_cons]
theorem OkSc.del {s : Sc} (h : OkSc s) (p : List Nat) : OkSc (delS s p) := fun x hx => h x (List.mem_filter.1 hx).1
theorem OkSc.declare {s : Sc} (h : OkSc s) {p u : List Nat} (hp : okL p) (hu : okL u) (h1 : (T p).size ≤ 1048576) (h2 : (T u).size ≤ 1048576) : OkSc (declareD s p u) := by
  unfold declareD
  split
  · exact h
  · split
    · exact h.del p
    · intro x hx
      rcases insS_mem hx with rfl | hx
      · exact ⟨⟨hp, hu⟩, h1, h2⟩
      · exact h.del p x hx
theorem delS_len (s : Sc) (p : List Nat) : (delS s p).length ≤ s.length := List.length_filter_le _ _
theorem declareD_len (s : Sc) (p u : List Nat) : (declareD s p u).length ≤ s.length + 1 := by
  unfold declareD
  split
  · omega
  · split
    · have := delS_len s p; omega
    · unfold setS
      rw [insS_len]
      have := delS_len s p
      omega
theorem owns_fit {w : World} {b n : Nat} {s : Sc} (h : w.ownsMap Tryz.prog 9 entElem b n (scD s)) : w.ownsMap Tryz.prog 9 entElem b s.length (scD s) := by
  obtain ⟨es, clock, hb, F, hs, hD⟩ := h
  refine ⟨es, clock, hb, F, ?_, hD⟩
  have := congrArg Maps.size hD
  rw [scD_size] at this
  simp [Maps.size, length_sorted] at this
  omega
set_option maxRecDepth 100000 in
set_option maxHeartbeats 4000000 in
theorem declare_any (b : Nat) (s : Sc) (p u : List Nat) (w : World) (hown : w.ownsMap Tryz.prog 9 entElem b s.length (scD s)) (hs : OkSc s) (hn : s.length ≤ 1000000) (hp : okL p) (hu : okL u) (h1 : (T p).size ≤ 1048576) :
    Calls Tryz.prog 129 #[.map (some b), .string (T p), .string (T u)] w fun e w' => e = .returned (.tuple #[]) ∧ w'.ownsMap Tryz.prog 9 entElem b (declareD s p u).length (scD (declareD s p u)) ∧ Kp (· = b) w w' := by
  have hx := is_xml hp
  have he := is_empty hu
  have hk0 : ∀ x ∈ s, okL x.1 := fun x hx => (hs x hx).1.1
  have hkey : keyOf Tryz.prog 9 (.string (T p)) = some (.string (tx p)) := by
    have := Go.WideMaps.keyOf_string_mk Tryz.underlying9 (by unfold maxLen; omega : (T p).size ≤ maxLen)
    rwa [T_data] at this
  by_cases hpx : p = xmlL
  · have e : (p == xmlL) = true := by simp [hpx]
    rw [e] at hx
    have HD : Hid (declareD s p u = s) := hide (by unfold declareD; rw [if_pos hpx])
    rw [unhide HD]
    clear hpx e he HD
    go_enter Tryz.func129, Tryz.ntmps129
    go_wp2
    go_returns
    exact ⟨rfl, hown, Kp.refl _ _⟩
  · have e : (p == xmlL) = false := by simp [hpx]
    rw [e] at hx
    by_cases hu0 : u = []
    · have e2 : (u == []) = true := by simp [hu0]
      rw [e2] at he
      have HD : Hid (declareD s p u = delS s p) := hide (by unfold declareD; rw [if_neg hpx, if_pos hu0])
      rw [unhide HD]
      have HO := hide hown
      clear hpx e e2 hu0 HD
      go_enter Tryz.func129, Tryz.ntmps129
      go_wp2_with (first
        | (at_delete; refine wpList_delete_own _ rfl _ _ 68 9 rfl 162 strKeyed Tryz.underlying68 entElem b s.length (scD s) rfl hown _ _ rfl hkey ?_; intro w1 hown1 hturn1; go_frame)
        | go_in)
      go_returns
      rw [scD_del hk0 hp] at hown1
      exact ⟨rfl, owns_fit hown1, (Kp.refl _ _).grown hturn1.grown (fun j e _ => (Option.some.inj e).symm)⟩
    · have e2 : (u == []) = false := by simp [hu0]
      rw [e2] at he
      have HD : Hid (declareD s p u = setS s p u) := hide (by unfold declareD; rw [if_neg hpx, if_neg hu0])
      rw [unhide HD]
      clear hpx e e2 hu0 HD
      go_enter Tryz.func129, Tryz.ntmps129
      go_wp2_with (first
        | (at_mapUpdate; refine wpList_mapUpdate_own _ rfl _ _ _ 68 rfl 9 162 strKeyed Tryz.underlying68 entElem b s.length (scD s) rfl hown (by unfold maxLen; omega) _ _ _ rfl rfl hkey (.agg [.lit (.string (tx u))]) [] rfl ?_; intro w1 hown1 hg1; go_frame)
        | go_in)
      go_returns
      rw [scD_put hk0 hp] at hown1
      exact ⟨rfl, owns_fit hown1, (Kp.refl _ _).grown hg1 (fun j e _ => (Option.some.inj e).symm)⟩
end Go.Proofs.YtiembljlhmgpjaaGreatDoor
/- What prefixes stand for in an element: xdm's with. -/
namespace Go.Proofs.YtiembljlhmgpjaaGreatDoor
open Go.RowKit Go.Maps
/-- Attributes of characters that may be, and none long. -/
def OkAt (l : List (List Nat × List Nat)) : Prop := ∀ x ∈ l, (okL x.1 ∧ okL x.2) ∧ (T x.1).size ≤ 1048576 ∧ (T x.2).size ≤ 1048576
abbrev pairsT (l : List (List Nat × List Nat)) : List (ByteArray × ByteArray) := l.map fun x => (T x.1, T x.2)
/-- Where the loop stands: what prefixes stand for so far, and whether it is a map of its own. -/
structure WithInv (w : World) (B : Nat) (v : Value) (s : Sc) (l : List (List Nat × List Nat)) (k : Nat) (vi : Value) (sh : Bool) (t : Sc) (w' : World) : Prop where
  le : k ≤ l.length
  bel : Below w.heap.size w w'
  spec : withD s l = withD t (l.drop k)
  len : t.length ≤ s.length + k
  ok : OkSc t
  old : sh = true → vi = v ∧ t = s
  new : sh = false → ∃ b, vi = .map (some b) ∧ w.heap.size ≤ b ∧ w'.ownsMap Tryz.prog 9 entElem b t.length (scD t)
theorem owns_on {w w' : World} {b n : Nat} {D : DataW Unit} (h : w.ownsMap Tryz.prog 9 entElem b n D) (hb : Below w.heap.size w w') : w'.ownsMap Tryz.prog 9 entElem b n D := by
  have hlt := h.lt
  obtain ⟨es, clock, h1, h2⟩ := h
  exact ⟨es, clock, by rw [hb.block b hlt]; exact h1, h2⟩
theorem WithInv.skip {w : World} {B : Nat} {v : Value} {s : Sc} {l : List (List Nat × List Nat)} {k : Nat} {vi : Value} {sh : Bool} {t : Sc} {w1 w2 : World} (h : WithInv w B v s l k vi sh t w1) (hb : Below w1.heap.size w1 w2) (hk : k < l.length) (hs : withD s l = withD t (l.drop (k + 1))) : WithInv w B v s l (k + 1) vi sh t w2 :=
  ⟨hk, Below.then h.bel hb, hs, by have := h.len; omega, h.ok, h.old, fun e => by
    obtain ⟨b, h1, h2, h3⟩ := h.new e
    exact ⟨b, h1, h2, owns_on h3 hb⟩⟩
theorem declD_ok {n p : List Nat} (h : declD n = some p) (hn : okL n) : okL p ∧ (T p).size ≤ (T n).size := by
  unfold declD at h
  split at h
  · cases h; exact ⟨okL_e, Nat.zero_le _⟩
  · split at h
    · cases h
      refine ⟨okL_drop hn 6, ?_⟩
      rw [T_size, T_size]
      conv => rhs; rw [← List.take_append_drop 6 n, tx_len_app]
      omega
    · cases h
def WithOut (w' : World) (B : Nat) (o : Option Sc) (e : Ending) : Prop := match o with
  | some t => ∃ v', e = .returned (.tuple #[v', .bool true]) ∧ ScV w' B v' t
  | none => e = .returned (.tuple #[.map none, .bool false])
set_option maxRecDepth 100000 in
set_option maxHeartbeats 4000000 in
theorem with_any (B : Nat) (v va : Value) (s : Sc) (l : List (List Nat × List Nat)) (w : World) (hv : ScV w B v s) (ha : PairsArg w va (pairsT l)) (hl : OkAt l) (hn : l.length ≤ 1000) (hs : s.length ≤ 500000) (hB : B ≤ w.heap.size) :
    Calls Tryz.prog 95 #[v, va] w fun e w' => WithOut w' B (withD s l) e ∧ Below w.heap.size w w' := by
  have HV := hide hv
  have HA := hide ha
  have HL := hide hl
  have hpl : (pairsT l).length = l.length := List.length_map ..
  obtain ⟨aa, cap, rfl, _⟩ := ha
  rw [hpl] at HA ⊢
  obtain ⟨m, rfl⟩ := hv.one
  have HI0 : Hid (WithInv w B (.map m) s l 0 (.map m) true s w) := hide ⟨Nat.zero_le _, Below.refl _ _, rfl, by omega, hv.1, fun _ => ⟨rfl, rfl⟩, fun h => by cases h⟩
  clear hv hl
  go_enter Tryz.func95, Tryz.ntmps95
  go_wp2_with fail
  go_loopw [6, 7, 15] (fun vi vs i wr => ∃ (k : Nat) (sh : Bool) (t : Sc), i = .int .i64 (k : Nat) ∧ vs = .bool sh ∧ WithInv w B (.map m) s l k vi sh t wr) (fun _ _ i _ => l.length - (intOf i).toNat)
  case atStart => exact ⟨0, true, s, rfl, rfl, unhide HI0⟩
  case round =>
    clear HI0
    obtain ⟨k, sh, t, rfl, rfl, hI⟩ := hrel
    have hk := hI.le
    by_cases hlt : k < l.length
    · obtain ⟨x, hx⟩ : ∃ x, l[k]? = some x := ⟨l[k], List.getElem?_eq_getElem hlt⟩
      obtain ⟨⟨hx1, hx2⟩, hz1, hz2⟩ := unhide HL x (List.mem_of_getElem? hx)
      obtain ⟨a', cap', he, hcells⟩ := (unhide HA).below hI.bel
      obtain ⟨g, o, ha, hc⟩ := hcells (by intro h0; rw [List.map_eq_nil_iff] at h0; rw [h0] at hlt; cases hlt)
      rw [hpl] at he
      cases he
      subst ha
      obtain ⟨c0, c1⟩ := hc k (T x.1, T x.2) (by rw [List.getElem?_map, hx]; rfl)
      simp only at c0 c1
      have n1 : (0 : Int) ≤ (k : Int) := by omega
      have n2 : (k : Int) < (l.length : Int) := by omega
      have hdr : l.drop k = x :: l.drop (k + 1) := by
        rw [← List.getElem_cons_drop hlt]
        congr 1
        exact (List.getElem?_eq_some_iff.1 hx).2
      have hspec := hI.spec
      rw [hdr] at hspec
      have hbA : Below wr.heap.size wr (wr.alloc (.cells #[.string (T x.1), .string (T x.2)] 92 (0, 0))) := (Below.refl _ _).alloc (Nat.le_refl _) _
      have hb0 := Below.then hI.bel hbA
      have HI := hide hI
      have HDC := hide (fun W => declared_any x.1 W hx1)
      clear hc hI hcells hdr hx
      cases hdc : declD x.1 with
      | none =>
        have HV2 : Hid (declV x.1 = .tuple #[.string (T x.1), .bool false]) := hide (by unfold declV; rw [hdc])
        rw [unhide HV2] at HDC
        have HSP : Hid (withD s l = withD t (l.drop (k + 1))) := hide (by rw [hspec, withD, hdc])
        clear hdc hspec HV2
        go_wp2_with fail
        refine (unhide HDC _).mono ?_
        rintro e w1 ⟨rfl, rfl⟩
        go_wp2_with fail
        exact ⟨⟨k + 1, sh, t, by simp, rfl, (unhide HI).skip hbA hlt (unhide HSP)⟩, by simp [intOf]; omega⟩
      | some p =>
        obtain ⟨hp, hpz⟩ := declD_ok hdc hx1
        have HV2 : Hid (declV x.1 = .tuple #[.string (T p), .bool true]) := hide (by unfold declV; rw [hdc])
        rw [unhide HV2] at HDC
        have hspec2 : withD s l = if mayD p x.2 then withD (declareD t p x.2) (l.drop (k + 1)) else none := by rw [hspec, withD, hdc]
        have HMD := hide (fun W => mayDeclare_any p x.2 W hp hx2)
        have d1 : (wr.alloc (.cells #[.string (T x.1), .string (T x.2)] 92 (0, 0))).cell? ⟨wr.heap.size, 1, none⟩ = some (.string (T x.2)) := by simp [go_sem]
        have HD1 := hide d1
        clear hdc hspec HV2 d1
        cases hmd : mayD p x.2
        · rw [hmd] at HMD hspec2
          rw [if_neg (by decide)] at hspec2
          have HSPN := hide hspec2
          clear hmd hspec2
          go_wp2_with fail
          refine (unhide HDC _).mono ?_
          rintro e w1 ⟨rfl, rfl⟩
          go_wp2_with fail
          refine (unhide HMD _).mono ?_
          rintro e w1 ⟨rfl, rfl⟩
          go_wp2
          go_returns
          rw [unhide HSPN]
          exact ⟨rfl, hb0⟩
        · rw [hmd, if_pos rfl] at hspec2
          rw [hmd] at HMD
          have HSP := hide hspec2
          have hok := (unhide HI).ok.declare hp hx2 (by omega) hz2
          have hlen := (unhide HI).len
          have hdlen := declareD_len t p x.2
          have HOK := hide hok
          clear hmd hspec2 hok
          cases sh with
          | true =>
            obtain ⟨e6, et⟩ := (unhide HI).old rfl
            subst e6 et
            have HCP := hide (copied_any B (.map m) t (wr.alloc (.cells #[.string (T x.1), .string (T x.2)] 92 (0, 0))) ((unhide HV).on hb0) (by omega))
            have hsz0 : (wr.alloc (.cells #[.string (T x.1), .string (T x.2)] 92 (0, 0))).heap.size = wr.heap.size + 1 := by simp
            rw [hsz0] at HCP
            clear hsz0
            go_wp2_with fail
            refine (unhide HDC _).mono ?_
            rintro e w1 ⟨rfl, rfl⟩
            go_wp2_with fail
            refine (unhide HMD _).mono ?_
            rintro e w1 ⟨rfl, rfl⟩
            go_wp2_with fail
            refine (unhide HCP).mono ?_
            rintro e w1 ⟨rfl, hown, hb1⟩
            have hb1 : Below (wr.alloc (.cells #[.string (T x.1), .string (T x.2)] 92 (0, 0))).heap.size (wr.alloc (.cells #[.string (T x.1), .string (T x.2)] 92 (0, 0))) w1 := by simpa using hb1
            have hb01 := Below.then hb0 hb1
            have d1 := keptC hb1 (unhide HD1)
            have HDE := hide (declare_any _ t p x.2 w1 hown (unhide HI).ok (by omega) hp hx2 (by omega))
            have hlt1 := hown.lt
            clear hown
            go_wp2_with fail
            refine (unhide HDE).mono ?_
            rintro e w2 ⟨rfl, hown2, hk2⟩
            have HO2 := hide hown2
            have HK2 := hide hk2
            clear hown2 hk2
            go_wp2_with fail
            have hbz := (unhide HI).bel.size
            have hb02 : Below w.heap.size w w2 := hb01.trans ((unhide HK2).low hb01.size (fun j hj => by subst hj; omega))
            exact ⟨⟨k + 1, false, declareD t p x.2, by simp, rfl, ⟨hlt, hb02, unhide HSP, by omega, unhide HOK, (fun h => by cases h), fun _ => ⟨_, rfl, by omega, unhide HO2⟩⟩⟩, by simp [intOf]; omega⟩
          | false =>
            obtain ⟨b, e6, hbb, hown⟩ := (unhide HI).new rfl
            subst e6
            have HDE := hide (declare_any b t p x.2 (wr.alloc (.cells #[.string (T x.1), .string (T x.2)] 92 (0, 0))) (owns_on hown hbA) (unhide HI).ok (by omega) hp hx2 (by omega))
            have d1 := unhide HD1
            clear hown
            go_wp2_with fail
            refine (unhide HDC _).mono ?_
            rintro e w1 ⟨rfl, rfl⟩
            go_wp2_with fail
            refine (unhide HMD _).mono ?_
            rintro e w1 ⟨rfl, rfl⟩
            go_wp2_with fail
            refine (unhide HDE).mono ?_
            rintro e w2 ⟨rfl, hown2, hk2⟩
            have HO2 := hide hown2
            have HK2 := hide hk2
            have hb01 := hb0
            clear hown2 hk2
            go_wp2_with fail
            have hbz := (unhide HI).bel.size
            have hb02 : Below w.heap.size w w2 := hb01.trans ((unhide HK2).low hb01.size (fun j hj => by subst hj; omega))
            exact ⟨⟨k + 1, false, declareD t p x.2, by simp, rfl, ⟨hlt, hb02, unhide HSP, by omega, unhide HOK, (fun h => by cases h), fun _ => ⟨_, rfl, by omega, unhide HO2⟩⟩⟩, by simp [intOf]; omega⟩
    · have n2 : ¬ (k : Int) < (l.length : Int) := by omega
      have hkl : k = l.length := by omega
      have hsp := hI.spec
      rw [hkl, List.drop_length] at hsp
      have HSP : Hid (withD s l = some t) := hide hsp
      have HI := hide hI
      have HSC : Hid (ScV wr B u6 t) := hide (by
        cases sh with
        | true =>
          obtain ⟨e1, e2⟩ := hI.old rfl
          rw [e1, e2]
          exact (unhide HV).on hI.bel
        | false =>
          obtain ⟨b, e1, e2, e3⟩ := hI.new rfl
          exact ⟨hI.ok, .inr ⟨b, e1, by omega, e3⟩⟩)
      obtain ⟨mm, e6⟩ := (unhide HSC).one
      subst e6
      clear hI hsp hkl
      go_wp2
      go_returns
      rw [unhide HSP]
      exact ⟨⟨_, rfl, unhide HSC⟩, (unhide HI).bel⟩
end Go.Proofs.YtiembljlhmgpjaaGreatDoor
