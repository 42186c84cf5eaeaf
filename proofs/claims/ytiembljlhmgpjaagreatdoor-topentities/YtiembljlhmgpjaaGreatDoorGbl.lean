/- Several texts, laid as one. -/
import Derived.Test.YtiembljlhmgpjaaGreatDoorGbj
import Derived.BigQuiet
import Derived.Test.YtiembljlhmgpjaaGreatDoorGbk
import Derived.Test.YtiembljlhmgpjaaGreatDoorGag
/- Whether a token may stand in some document: xmlscan's areAttributes, isToken. -/
namespace Go.Proofs.YtiembljlhmgpjaaGreatDoor
open Go.RowKit
abbrev PlacesB (w : World) (b n : Nat) (D : DataW Unit) : Prop := w.ownsMap Tryz.prog 9 (plainElem Tryz.prog 3) b n D
def hasB (D : DataW Unit) (names : List (List UInt8)) : Prop := ∀ x : List UInt8, Maps.has D (.string x) = names.contains x
/-- The names that were met, in their map. -/
def NamesAt (w : World) (b : Nat) (names : List (List UInt8)) : Prop := ∃ D, PlacesB w b names.length D ∧ hasB D names
theorem str_keyB (x : List UInt8) : WideAt.IsKeyLit (.string x) := by
  first | exact trivial | simp [WideAt.IsKeyLit] | rfl
theorem NamesAt.kept {w w' : World} {b : Nat} {names : List (List UInt8)} (h : NamesAt w b names) (hk : w'.heap[b]? = w.heap[b]?) : NamesAt w' b names := by
  obtain ⟨D, ⟨es, ck, h1, h2⟩, h3⟩ := h
  exact ⟨D, ⟨es, ck, by rw [hk]; exact h1, h2⟩, h3⟩
theorem NamesAt.lt {w : World} {b : Nat} {names : List (List UInt8)} (h : NamesAt w b names) : b < w.heap.size := by
  obtain ⟨D, hD, _⟩ := h
  exact hD.lt
theorem NamesAt.on {w w' : World} {b : Nat} {names : List (List UInt8)} (h : NamesAt w b names) (hb : Below w.heap.size w w') : NamesAt w' b names := h.kept (hb.block b h.lt)
theorem NamesAt.look {w : World} {b : Nat} {names : List (List UInt8)} (h : NamesAt w b names) {n : ByteArray} (hz : n.size ≤ 1048576) : ∃ c, (Instr.lookup 140 (.map (some b)) (.string n) true).run Tryz.prog w = .ok (.tuple #[.int .i64 c, .bool (names.contains n.data.toList)]) w := by
  obtain ⟨D, hD, hh⟩ := h
  have hz0 : (zeroValue 3).run Tryz.prog w = .ok (.int .i64 0) w := by kernel_rfl
  obtain ⟨v, ps, hrun, hv⟩ := hD.look_ok (Maps.string_keyed Tryz.underlying9) Tryz.underlying140 hz0 (plainElem_int Tryz.underlying3 (by decide)) (Go.WideMaps.keyOf_string_mk Tryz.underlying9 (by unfold maxLen; omega : n.size ≤ maxLen))
  obtain ⟨c, rfl, _, _⟩ := plainElem_int_inv Tryz.underlying3 hv
  rw [hh n.data.toList] at hrun
  exact ⟨c, hrun⟩
theorem NamesAt.named {w W : World} {b : Nat} {names : List (List UInt8)} {n : List UInt8} {D d : DataW Unit} (hk : WideAt.IsKeyLit (.string n)) (hD : PlacesB w b names.length D) (hh : hasB D names) (hW : PlacesB W b (names.length + 1) (D.put (.string n) d)) : NamesAt W b (names ++ [n]) := by
  refine ⟨_, by rw [List.length_append]; exact hW, fun x => ?_⟩
  by_cases e : x = n
  · subst e
    rw [Maps.has_put_same hD.isMap hk]
    simp
  · rw [Maps.has_put_other (fun e' => e (Lit.string.inj e')), hh x]
    simp [e]
theorem attrsB_cons (seen : List (List UInt8)) (x : ByteArray × ByteArray) (l : List (ByteArray × ByteArray)) : attrsB seen (x :: l) = (!seen.contains x.1.data.toList && (qB x.1 && (textB x.2 && attrsB (seen ++ [x.1.data.toList]) l))) := rfl
theorem wf_i64b {n : Nat} (h : n ≤ 1048576) : (Lit.int .i64 (n : Nat)).wf = true := by
  have h1 : IntKind.i64.min = -9223372036854775808 := by decide
  have h2 : IntKind.i64.max = 9223372036854775807 := by decide
  simp only [Lit.wf, Bool.and_eq_true, decide_eq_true_eq]
  rw [h1, h2]
  omega
structure AreInv (w : World) (l : List (ByteArray × ByteArray)) (k : Nat) (w' : World) : Prop where
  le : k ≤ l.length
  bel : Below w.heap.size w w'
  map : NamesAt w' w.heap.size ((l.take k).map (·.1.data.toList))
  spec : attrsB [] l = attrsB ((l.take k).map (·.1.data.toList)) (l.drop k)
set_option maxRecDepth 100000 in
set_option maxHeartbeats 4000000 in
theorem areAttributes_any (l : List (ByteArray × ByteArray)) (v : Value) (w : World) (hv : PairsArg w v l) (hn : l.length ≤ 1048576) (hx : ∀ x ∈ l, x.1.size ≤ 1048576 ∧ x.2.size ≤ 1048576) (B : Nat) (hB : B ≤ w.heap.size) (hE : XEnv B w) :
    Calls Tryz.prog 79 #[v] w fun e w' => e = .returned (.bool (attrsB [] l)) ∧ Below w.heap.size w w' := by
  have HV := hide hv
  have HX := hide hx
  have HE := hide hE
  obtain ⟨a, cap, rfl, _⟩ := hv
  have hmk : ∀ W : World, (Instr.makeMap 140 none).run Tryz.prog W = .ok (.map (some W.heap.size)) (W.alloc (.map #[] 0)) := fun W => rfl
  have h0 : AreInv w l 0 (w.alloc (.map #[] 0)) := ⟨Nat.zero_le _, (Below.refl _ _).alloc (Nat.le_refl _) _, ⟨.map [], World.ownsMap_made _ _ _ _, fun x => rfl⟩, rfl⟩
  have HI0 := hide h0
  clear h0 hx hE
  go_enter Tryz.func79, Tryz.ntmps79
  go_wp2_with fail
  clear hmk
  go_loopw [11] (fun i wr => ∃ k : Nat, i = .int .i64 (k : Nat) ∧ AreInv w l k wr) (fun i _ => l.length - (intOf i).toNat)
  case atStart => exact ⟨0, rfl, unhide HI0⟩
  case round =>
    clear HI0
    obtain ⟨k, rfl, hI⟩ := hrel
    have hk := hI.le
    by_cases hlt : k < l.length
    · obtain ⟨x, hx⟩ : ∃ x, l[k]? = some x := ⟨l[k], List.getElem?_eq_getElem hlt⟩
      have hxs := unhide HX x (List.mem_of_getElem? hx)
      obtain ⟨a', cap', he, hcells⟩ := (unhide HV).below hI.bel
      obtain ⟨g, o, ha, hc⟩ := hcells (by intro h0; rw [h0] at hlt; cases hlt)
      cases he
      subst ha
      obtain ⟨c0, c1⟩ := hc k x hx
      have n1 : (0 : Int) ≤ (k : Int) := by omega
      have n2 : (k : Int) < (l.length : Int) := by omega
      have hdr : l.drop k = x :: l.drop (k + 1) := by
        rw [← List.getElem_cons_drop hlt]
        congr 1
        exact (List.getElem?_eq_some_iff.1 hx).2
      have htk : (l.take (k + 1)).map (·.1.data.toList) = (l.take k).map (·.1.data.toList) ++ [x.1.data.toList] := by
        rw [List.take_succ_eq_append_getElem hlt, List.map_append, (List.getElem?_eq_some_iff.1 hx).2]
        rfl
      have hnl : ((l.take k).map (·.1.data.toList)).length = k := by rw [List.length_map, List.length_take]; omega
      have hspec := hI.spec
      rw [hdr, attrsB_cons] at hspec
      have hbA : Below wr.heap.size wr (wr.alloc (.cells #[.string x.1, .string x.2] 92 (0, 0))) := (Below.refl _ _).alloc (Nat.le_refl _) _
      have NA := hI.map.on hbA
      have hb0 := Below.then hI.bel hbA
      obtain ⟨c, hlk⟩ := NA.look hxs.1
      have HTK := hide htk
      have HNA := hide NA
      have HNL := hide hnl
      clear hc hI hcells hdr hx htk NA hnl
      generalize (l.take k).map (·.1.data.toList) = names at *
      cases htw : names.contains x.1.data.toList
      · rw [htw] at hlk hspec
        rw [Bool.not_false, Bool.true_and] at hspec
        have HSP := hide hspec
        clear htw hspec
        go_wp2_with fail
        refine (isQName_any x.1 _ hxs.1 ((unhide HE).low (hb0.mono hB)).env).mono ?_
        rintro e w1 ⟨rfl, hb1⟩
        have hb01 := Below.then hb0 hb1
        cases hq : qB x.1
        · have HQ : Hid (attrsB [] l = false) := hide (by rw [unhide HSP, hq]; rfl)
          clear HSP hq
          go_wp2
          go_ret
          exact ⟨ret_bool (unhide HQ).symm, hb01⟩
        · have HSP2 : Hid (attrsB [] l = (textB x.2 && attrsB (names ++ [x.1.data.toList]) (l.drop (k + 1)))) := hide (by rw [unhide HSP, hq, Bool.true_and])
          have c1' := keptC hb1 (show (wr.alloc (.cells #[.string x.1, .string x.2] 92 (0, 0))).cell? ⟨wr.heap.size, 1, none⟩ = some (.string x.2) by simp [go_sem])
          have c0' := keptC hb1 (show (wr.alloc (.cells #[.string x.1, .string x.2] 92 (0, 0))).cell? ⟨wr.heap.size, 0, none⟩ = some (.string x.1) by simp [go_sem])
          have HC0 := hide c0'
          clear HSP hq c0'
          go_wp2_with fail
          refine (isText_any x.2 _).mono ?_
          rintro e w2 ⟨rfl, hb2⟩
          have hb02 := Below.then hb01 hb2
          cases ht : textB x.2
          · have HQ : Hid (attrsB [] l = false) := hide (by rw [unhide HSP2, ht]; rfl)
            clear HSP2 ht
            go_wp2
            go_ret
            exact ⟨ret_bool (unhide HQ).symm, hb02⟩
          · have HSP3 : Hid (attrsB [] l = attrsB (names ++ [x.1.data.toList]) (l.drop (k + 1))) := hide (by rw [unhide HSP2, ht, Bool.true_and])
            have c0' := keptC hb2 (unhide HC0)
            obtain ⟨D, hD, hh⟩ := ((unhide HNA).on hb1).on hb2
            have hlen : names.length < maxLen := by rw [unhide HNL]; unfold maxLen; omega
            have HKY : Hid (keyOf Tryz.prog 9 (.string x.1) = some (.string x.1.data.toList)) := hide (Go.WideMaps.keyOf_string_mk Tryz.underlying9 (by unfold maxLen; omega : x.1.size ≤ maxLen))
            have HPE : Hid (plainElem (H := Unit) Tryz.prog 3 (.int .i64 (k : Nat)) = some (.lit (.int .i64 (k : Nat)), [])) := hide (plainElem_int Tryz.underlying3 (wf_i64b (by omega)))
            have HD := hide hD
            have HH := hide hh
            have hmlt : w.heap.size < w2.heap.size := hD.lt
            clear HSP2 ht hD hh HC0 hlk
            go_wp2_with (at_mapUpdate; refine wpList_mapUpdate_own _ rfl _ _ _ 140 rfl 9 3 (Maps.string_keyed Tryz.underlying9) Tryz.underlying140 (plainElem Tryz.prog 3) w.heap.size names.length D rfl (unhide HD) hlen _ _ (.string x.1.data.toList) rfl rfl (unhide HKY) (.lit (.int .i64 (k : Nat))) [] (unhide HPE) ?_; intro w6 hown6 hgrow6)
            have hb6 : Below w.heap.size w w6 := hb02.grown hgrow6 (by omega) (fun j hj => by cases hj; exact Nat.le_refl _)
            have N6 := NamesAt.named (str_keyB _) (unhide HD) (unhide HH) hown6
            have HI6 : Hid (AreInv w l (k + 1) w6) := hide ⟨by omega, hb6, by rw [unhide HTK]; exact N6, by rw [unhide HTK]; exact unhide HSP3⟩
            clear HD HH N6 hown6 hgrow6 HKY HPE
            go_round
            case measure => simp [intOf]; omega
            case rel => exact ⟨k + 1, by simp, unhide HI6⟩
      · rw [htw] at hlk hspec
        have HSP := hide hspec
        clear htw hspec
        go_wp2
        go_ret
        exact ⟨ret_bool (by rw [unhide HSP]; rfl), hb0⟩
    · have n2 : ¬ (k : Int) < (l.length : Int) := by omega
      have hkl : k = l.length := by omega
      have HI := hide hI
      clear hI
      go_wp2
      go_ret
      refine ⟨ret_bool ?_, (unhide HI).bel⟩
      rw [(unhide HI).spec, hkl, List.drop_length]
      rfl
end Go.Proofs.YtiembljlhmgpjaaGreatDoor
/- Whether a token may stand in some document: xmlscan's isToken. -/
namespace Go.Proofs.YtiembljlhmgpjaaGreatDoor
open Go.RowKit
/-- A token as it is handed in: none of its parts is great. -/
structure Small (t : BTok) : Prop where
  l : t.attrs.length ≤ 1048576
  a : ∀ x ∈ t.attrs, x.1.size ≤ 1048576 ∧ x.2.size ≤ 1048576
  n : t.name.size ≤ 1048576
  x : t.text.size ≤ 1048576
def tokV (t : BTok) (v : Value) : Array Value := #[.int .i64 t.kind, .string t.name, v, .string t.text]
/-- A token's own cells, and nothing else new that matters. -/
structure TokBox (w : World) (t : BTok) (v : Value) (W : World) : Prop where
  bel : Below w.heap.size w W
  lt : w.heap.size < W.heap.size
  c0 : W.cell? ⟨w.heap.size, 0, none⟩ = some (.int .i64 t.kind)
  c1 : W.cell? ⟨w.heap.size, 1, none⟩ = some (.string t.name)
  c2 : W.cell? ⟨w.heap.size, 2, none⟩ = some v
  c3 : W.cell? ⟨w.heap.size, 3, none⟩ = some (.string t.text)
theorem TokBox.on {w W W' : World} {t : BTok} {v : Value} (h : TokBox w t v W) (hb : Below W.heap.size W W') : TokBox w t v W' :=
  ⟨Below.then h.bel hb, Nat.lt_of_lt_of_le h.lt hb.size, keptC hb h.c0, keptC hb h.c1, keptC hb h.c2, keptC hb h.c3⟩
theorem okB2 (n : ByteArray) (l : List (ByteArray × ByteArray)) (x : ByteArray) : okB ⟨2, n, l, x⟩ = (x.toList.isEmpty && (qB n && attrsB [] l)) := rfl
theorem okB7 (n : ByteArray) (l : List (ByteArray × ByteArray)) (x : ByteArray) : okB ⟨7, n, l, x⟩ = (x.toList.isEmpty && (l.isEmpty && qB n)) := rfl
theorem okB4 (n : ByteArray) (l : List (ByteArray × ByteArray)) (x : ByteArray) : okB ⟨4, n, l, x⟩ = (n.toList.isEmpty && (l.isEmpty && (!x.toList.isEmpty && textB x))) := rfl
theorem okB5 (n : ByteArray) (l : List (ByteArray × ByteArray)) (x : ByteArray) : okB ⟨5, n, l, x⟩ = (n.toList.isEmpty && (l.isEmpty && comB x)) := rfl
theorem okB6 (n : ByteArray) (l : List (ByteArray × ByteArray)) (x : ByteArray) : okB ⟨6, n, l, x⟩ = (l.isEmpty && (tarB n && insB x)) := rfl
set_option maxRecDepth 100000 in
set_option maxHeartbeats 8000000 in
theorem isToken_any (t : BTok) (v : Value) (w : World) (hv : PairsArg w v t.attrs) (hs : Small t) (B : Nat) (hB : B ≤ w.heap.size) (hE : XEnv B w) :
    Calls Tryz.prog 42 #[.agg #[.int .i64 t.kind, .string t.name, v, .string t.text]] w fun e w' => e = .returned (.bool (okB t)) ∧ Below w.heap.size w w' := by
  have HV := hide hv
  have HS := hide hs
  have HE := hide hE
  obtain ⟨a, cap, rfl, _⟩ := hv
  have HB0 : Hid (TokBox w t (.slice a t.attrs.length cap) (w.alloc (.cells (tokV t (.slice a t.attrs.length cap)) 56 (0, 0)))) := hide (by
    unfold tokV
    refine ⟨(Below.refl _ _).alloc (Nat.le_refl _) _, by simp, ?_, ?_, ?_, ?_⟩
    all_goals simp [go_sem])
  obtain ⟨k, n, l, x⟩ := t
  simp only at *
  clear hs hE
  go_enter Tryz.func42, Tryz.ntmps42
  go_wp2_with fail
  go_quiet (fail)
  have HB1 : Hid (TokBox w ⟨k, n, l, x⟩ (.slice a l.length cap) _) := hide ((unhide HB0).on (below_drewN _ nq))
  unfold tokV at HB1
  simp only at HB1
  generalize (w.alloc (.cells #[.int .i64 k, .string n, .slice a l.length cap, .string x] 56 (0, 0))).drewN nq = W at *
  clear HB0
  have hbW := (unhide HB1).bel
  have c0 := (unhide HB1).c0
  have c1 := (unhide HB1).c1
  have c2 := (unhide HB1).c2
  have c3 := (unhide HB1).c3
  simp only at c0 c1 c2 c3
  have HEW := hide ((unhide HE).low (hbW.mono hB))
  have hBW : B ≤ W.heap.size := Nat.le_trans hB hbW.size
  by_cases k2 : k = 2
  · subst k2
    have HOK := hide (okB2 n l x)
    cases hx0 : x.toList.isEmpty
    · have HR : Hid (okB ⟨2, n, l, x⟩ = false) := hide (by rw [unhide HOK, hx0]; rfl)
      clear HOK
      go_wp2
      go_ret
      exact ⟨ret_bool (unhide HR).symm, hbW⟩
    · rw [hx0, Bool.true_and] at HOK
      go_wp2_with fail
      refine (isQName_any n _ (unhide HS).n (unhide HEW).env).mono ?_
      rintro e w1 ⟨rfl, hb1⟩
      have hbW1 := Below.then hbW hb1
      have d2 := keptC hb1 c2
      cases hq : qB n
      · have HR : Hid (okB ⟨2, n, l, x⟩ = false) := hide (by rw [unhide HOK, hq]; rfl)
        clear HOK hq
        go_wp2
        go_ret
        exact ⟨ret_bool (unhide HR).symm, hbW1⟩
      · have HR : Hid (okB ⟨2, n, l, x⟩ = attrsB [] l) := hide (by rw [unhide HOK, hq, Bool.true_and])
        clear HOK hq
        go_wp2_with fail
        refine (areAttributes_any l _ _ ((unhide HV).below hbW1) (unhide HS).l (unhide HS).a B (Nat.le_trans hBW hb1.size) ((unhide HEW).on hBW hb1)).mono ?_
        rintro e w2 ⟨rfl, hb2⟩
        go_wp2
        go_ret
        exact ⟨ret_bool (unhide HR).symm, Below.then hbW1 hb2⟩
  · have g2 : (k == 2) = false := by simpa using k2
    by_cases k7 : k = 7
    · subst k7
      have HOK := hide (okB7 n l x)
      cases hx0 : x.toList.isEmpty
      · have HR : Hid (okB ⟨7, n, l, x⟩ = false) := hide (by rw [unhide HOK, hx0]; rfl)
        clear HOK
        go_wp2
        go_ret
        exact ⟨ret_bool (unhide HR).symm, hbW⟩
      · rw [hx0, Bool.true_and] at HOK
        cases hl0 : l.isEmpty
        · have HR : Hid (okB ⟨7, n, l, x⟩ = false) := hide (by rw [unhide HOK, hl0]; rfl)
          have hl1 : 0 < l.length := by cases l with | nil => cases hl0 | cons _ _ => simp
          clear HOK hl0
          go_wp2
          go_ret
          exact ⟨ret_bool (unhide HR).symm, hbW⟩
        · have HR : Hid (okB ⟨7, n, l, x⟩ = qB n) := hide (by rw [unhide HOK, hl0, Bool.true_and])
          have hl1 : ¬ 0 < l.length := by cases l with | nil => simp | cons _ _ => cases hl0
          clear HOK hl0
          go_wp2_with fail
          refine (isQName_any n _ (unhide HS).n (unhide HEW).env).mono ?_
          rintro e w1 ⟨rfl, hb1⟩
          go_wp2
          go_ret
          exact ⟨ret_bool (unhide HR).symm, Below.then hbW hb1⟩
    · have g7 : (k == 7) = false := by simpa using k7
      by_cases k4 : k = 4
      · subst k4
        have HOK := hide (okB4 n l x)
        cases hn0 : n.toList.isEmpty
        · have HR : Hid (okB ⟨4, n, l, x⟩ = false) := hide (by rw [unhide HOK, hn0]; rfl)
          clear HOK
          go_wp2
          go_ret
          exact ⟨ret_bool (unhide HR).symm, hbW⟩
        · rw [hn0, Bool.true_and] at HOK
          cases hl0 : l.isEmpty
          · have HR : Hid (okB ⟨4, n, l, x⟩ = false) := hide (by rw [unhide HOK, hl0]; rfl)
            have hl1 : 0 < l.length := by cases l with | nil => cases hl0 | cons _ _ => simp
            clear HOK hl0
            go_wp2
            go_ret
            exact ⟨ret_bool (unhide HR).symm, hbW⟩
          · rw [hl0, Bool.true_and] at HOK
            have hl1 : ¬ 0 < l.length := by cases l with | nil => simp | cons _ _ => cases hl0
            clear hl0
            cases hx0 : x.toList.isEmpty
            · have HR : Hid (okB ⟨4, n, l, x⟩ = textB x) := hide (by rw [unhide HOK, hx0]; rfl)
              clear HOK
              go_wp2_with fail
              refine (isText_any x _).mono ?_
              rintro e w1 ⟨rfl, hb1⟩
              go_wp2
              go_ret
              exact ⟨ret_bool (unhide HR).symm, Below.then hbW hb1⟩
            · have HR : Hid (okB ⟨4, n, l, x⟩ = false) := hide (by rw [unhide HOK, hx0]; rfl)
              clear HOK
              go_wp2
              go_ret
              exact ⟨ret_bool (unhide HR).symm, hbW⟩
      · have g4 : (k == 4) = false := by simpa using k4
        by_cases k5 : k = 5
        · subst k5
          have HOK := hide (okB5 n l x)
          cases hn0 : n.toList.isEmpty
          · have HR : Hid (okB ⟨5, n, l, x⟩ = false) := hide (by rw [unhide HOK, hn0]; rfl)
            clear HOK
            go_wp2
            go_ret
            exact ⟨ret_bool (unhide HR).symm, hbW⟩
          · rw [hn0, Bool.true_and] at HOK
            cases hl0 : l.isEmpty
            · have HR : Hid (okB ⟨5, n, l, x⟩ = false) := hide (by rw [unhide HOK, hl0]; rfl)
              have hl1 : 0 < l.length := by cases l with | nil => cases hl0 | cons _ _ => simp
              clear HOK hl0
              go_wp2
              go_ret
              exact ⟨ret_bool (unhide HR).symm, hbW⟩
            · have HR : Hid (okB ⟨5, n, l, x⟩ = comB x) := hide (by rw [unhide HOK, hl0, Bool.true_and])
              have hl1 : ¬ 0 < l.length := by cases l with | nil => simp | cons _ _ => cases hl0
              clear HOK hl0
              go_wp2_with fail
              refine (isComment_any x _ (unhide HS).x B hBW (unhide HEW)).mono ?_
              rintro e w1 ⟨rfl, hb1⟩
              go_wp2
              go_ret
              exact ⟨ret_bool (unhide HR).symm, Below.then hbW hb1⟩
        · have g5 : (k == 5) = false := by simpa using k5
          by_cases k6 : k = 6
          · subst k6
            have HOK := hide (okB6 n l x)
            cases hl0 : l.isEmpty
            · have HR : Hid (okB ⟨6, n, l, x⟩ = false) := hide (by rw [unhide HOK, hl0]; rfl)
              have hl1 : 0 < l.length := by cases l with | nil => cases hl0 | cons _ _ => simp
              clear HOK hl0
              go_wp2
              go_ret
              exact ⟨ret_bool (unhide HR).symm, hbW⟩
            · rw [hl0, Bool.true_and] at HOK
              have hl1 : ¬ 0 < l.length := by cases l with | nil => simp | cons _ _ => cases hl0
              clear hl0
              go_wp2_with fail
              refine (isTargetB_any n _ (unhide HS).n B hBW (unhide HEW)).mono ?_
              rintro e w1 ⟨rfl, hb1⟩
              have hbW1 := Below.then hbW hb1
              have d3 := keptC hb1 c3
              cases hq : tarB n
              · have HR : Hid (okB ⟨6, n, l, x⟩ = false) := hide (by rw [unhide HOK, hq]; rfl)
                clear HOK hq
                go_wp2
                go_ret
                exact ⟨ret_bool (unhide HR).symm, hbW1⟩
              · have HR : Hid (okB ⟨6, n, l, x⟩ = insB x) := hide (by rw [unhide HOK, hq, Bool.true_and])
                clear HOK hq
                go_wp2_with fail
                refine (isInstruction_any x _ (unhide HS).x B (Nat.le_trans hBW hb1.size) ((unhide HEW).on hBW hb1)).mono ?_
                rintro e w2 ⟨rfl, hb2⟩
                go_wp2
                go_ret
                exact ⟨ret_bool (unhide HR).symm, Below.then hbW1 hb2⟩
          · have g6 : (k == 6) = false := by simpa using k6
            have HR : Hid (okB ⟨k, n, l, x⟩ = false) := hide (by unfold okB; simp only [if_neg k2, if_neg k7, if_neg k4, if_neg k5, if_neg k6])
            clear k2 k7 k4 k5 k6
            go_wp2
            go_ret
            exact ⟨ret_bool (unhide HR).symm, hbW⟩
end Go.Proofs.YtiembljlhmgpjaaGreatDoor
/- What Scan tells, Write writes, or there is no room: in plain terms. -/
namespace Go.Proofs.YtiembljlhmgpjaaGreatDoor
theorem qB_of {l : List Nat} (h : okL l) (hq : isQ l = true) : qB (T l) = true := by
  unfold qB
  rw [splitB_T h]
  exact hq
theorem textB_of {l : List Nat} (h : okL l) : textB (T l) = true := (textB_txt _).2 (T_txt h)
theorem cut_contains {sign : List Nat} (hs : ∀ c ∈ sign, c < 128) (hne : sign ≠ []) {l : List Nat} (hl : okL l) (h : cutL sign l = none) : Lib.contains (tx l) (sign.map UInt8.ofNat) = false := by
  have := (index_tx sign hs hne l hl).2 h
  unfold Lib.contains
  rw [this]
  rfl
theorem T_inj {a b : List Nat} (ha : okL a) (hb : okL b) (h : tx a = tx b) : a = b := tx_inj ha hb h
theorem attrsB_of : ∀ (a : List (List Nat × List Nat)) (seen : List (List Nat)), (∀ x ∈ seen, okL x) → (∀ x ∈ a, okL x.1 ∧ okL x.2) → (∀ x ∈ a, isQ x.1 = true) → (a.map (·.1)).Nodup → (∀ x ∈ a, x.1 ∉ seen) →
    attrsB (seen.map tx) (a.map fun x => (T x.1, T x.2)) = true
  | [], _, _, _, _, _, _ => rfl
  | (n, v) :: a, seen, hs, ho, hq, hd, hn => by
    have hon := ho (n, v) (List.mem_cons_self ..)
    rw [List.map_cons, List.nodup_cons] at hd
    have ih := attrsB_of a (seen ++ [n]) (fun y hy => by
      rcases List.mem_append.1 hy with hy | hy
      · exact hs y hy
      · rw [List.mem_singleton.1 hy]; exact hon.1) (fun x hx => ho x (List.mem_cons_of_mem _ hx)) (fun x hx => hq x (List.mem_cons_of_mem _ hx)) hd.2 (fun x hx hm => by
        rcases List.mem_append.1 hm with hm | hm
        · exact hn x (List.mem_cons_of_mem _ hx) hm
        · exact hd.1 (List.mem_map.2 ⟨x, hx, List.mem_singleton.1 hm⟩))
    have hc : (seen.map tx).contains (tx n) = false := by
      cases hh : (seen.map tx).contains (tx n)
      · rfl
      · obtain ⟨y, hy, e⟩ := List.mem_map.1 (List.contains_iff_mem.1 hh)
        exact absurd (by rw [← T_inj (hs y hy) hon.1 e]; exact hy) (hn (n, v) (List.mem_cons_self ..))
    rw [List.map_append] at ih
    simp only [List.map_cons, attrsB, T_data, hc, qB_of hon.1 (hq (n, v) (List.mem_cons_self ..)), textB_of hon.2, Bool.not_false, Bool.true_and]
    exact ih
theorem last_suffix {l : List Nat} (hl : okL l) (h : l.getLast? ≠ some 45) : Lib.hasSuffix (tx l) [45] = false := by
  cases hh : Lib.hasSuffix (tx l) [45]
  · rfl
  · exfalso
    unfold Lib.hasSuffix at hh
    obtain ⟨p, hp⟩ := List.isSuffixOf_iff_suffix.1 hh
    rcases List.eq_nil_or_concat l with rfl | ⟨q, c, rfl⟩
    · rw [tx_nil] at hp
      simp at hp
    · rw [List.concat_eq_append] at hp h hl
      have hT : Txt (p ++ UInt8.ofNat 45 :: []) := ⟨q ++ [c], hl, by rw [show (UInt8.ofNat 45 : UInt8) = 45 from rfl, hp]; rfl⟩
      obtain ⟨⟨a, ha, ea⟩, _⟩ := txt_cut (by decide) hT
      have e : tx (q ++ [c]) = tx (a ++ [45]) := by
        rw [← hp, tx_append, show tx a = p from ea.symm]
        rfl
      have := tx_inj hl (okL_app ha (okL_of (by decide))) e
      rw [this] at h
      exact h (by simp)
theorem head_trim {l : List Nat} (hl : okL l) (h : ∀ c, l.head? = some c → blankC c = false) : ((Lib.trimLeftF blankN (T l)).toList == (T l).toList) = true := by
  rw [trim_T hl]
  have : l.dropWhile blankC = l := by
    cases l with
    | nil => rfl
    | cons c l => rw [List.dropWhile_cons, h c rfl]; rfl
  rw [this]
  simp
theorem empty_of (k : List Nat) (h : k = []) : (T k).toList.isEmpty = true := by rw [T_toList, h]; rfl
/-- A token that may stand in some document is one that Write takes. -/
theorem okB_of (x : XTok) (hok : OkTok x) (hA : OkAll x) : okB x.b = true := by
  cases hok with
  | elem n a h ha hd =>
    have h3 := attrsB_of a [] (fun _ h => by cases h) hA.a ha hd (fun _ _ hx => by cases hx)
    show ((T []).toList.isEmpty && (qB (T n) && attrsB [] (a.map fun x => (T x.1, T x.2)))) = true
    rw [empty_of [] rfl, qB_of hA.n h]
    exact h3
  | fin n h =>
    show ((T []).toList.isEmpty && (true && qB (T n))) = true
    rw [empty_of [] rfl, qB_of hA.n h]
    rfl
  | text l h =>
    show ((T []).toList.isEmpty && (true && (!(T l).toList.isEmpty && textB (T l)))) = true
    rw [empty_of [] rfl, textB_of hA.x, ne_T hA.x h]
    rfl
  | comment l h h' =>
    have h1 := cut_contains (sign := [45, 45]) (by decide) (by decide) hA.x h
    have h2 := last_suffix hA.x h'
    show ((T []).toList.isEmpty && (true && comB (T l))) = true
    unfold comB
    rw [T_data, empty_of [] rfl, textB_of hA.x, h2]
    rw [show ([45, 45] : List Nat).map UInt8.ofNat = [45, 45] from rfl] at h1
    rw [h1]
    rfl
  | pi n l h hc hb =>
    have h1 := cut_contains (sign := [63, 62]) (by decide) (by decide) hA.x hc
    rw [show ([63, 62] : List Nat).map UInt8.ofNat = [63, 62] from rfl] at h1
    show (true && (tarB (T n) && insB (T l))) = true
    unfold insB
    rw [tarB_T hA.n, T_data, h, textB_of hA.x, h1, head_trim hA.x hb]
    rfl
theorem attrs_few {o : List (List Nat)} {r : Bool} {k : Nat} {ts : List XTok} (h : DocT o r k ts) : ∀ x ∈ ts, x.attrs.length ≤ 64 := by
  induction h with
  | done k => intro x hx; cases hx
  | elem n a o r k ts h hr ho ha hn ih =>
    intro x hx
    rcases List.mem_cons.1 hx with rfl | hx
    · exact ha
    · exact ih x hx
  | fin n o r k ts h ho hn ih =>
    intro x hx
    rcases List.mem_cons.1 hx with rfl | hx
    · exact Nat.zero_le _
    · exact ih x hx
  | text l o r k ts h ho hk hn ih =>
    intro x hx
    rcases List.mem_cons.1 hx with rfl | hx
    · exact Nat.zero_le _
    · exact ih x hx
  | comment l o r k ts h hn ih =>
    intro x hx
    rcases List.mem_cons.1 hx with rfl | hx
    · exact Nat.zero_le _
    · exact ih x hx
  | pi n l o r k ts h hn ih =>
    intro x hx
    rcases List.mem_cons.1 hx with rfl | hx
    · exact Nat.zero_le _
    · exact ih x hx
/-- What Scan tells, Write writes, or there is no room. -/
theorem write_told {cs : List Nat} {ts : List XTok} (hl : okL cs) (hs : (T cs).size ≤ 32768) (h : scanX cs = .ok ts) :
    DocT [] false 0 ts ∧ ts.length ≤ 4096 ∧ (∀ t ∈ ts.map XTok.b, Small t) ∧ (writeR (ts.map XTok.b) = (⟨#[]⟩, 6) ∨ (writeR (ts.map XTok.b) = (T (writeX ts), 0) ∧ okL (writeX ts) ∧ (T (writeX ts)).size ≤ 32768)) := by
  obtain ⟨hD, hn⟩ := scan_docT hl hs h
  have hF := scan_F hl hs h
  have hdoc := docB_of okB_of hD (fun t ht => (hF t ht).ok)
  have hok : ∀ x ∈ ts, OkTok x := doc_all hD
  have hsm : ∀ t ∈ ts.map XTok.b, Small t := fun t ht => by
    obtain ⟨x, hx, rfl⟩ := List.mem_map.1 ht
    have hf := hF x hx
    have ha : x.attrs.length ≤ 64 := attrs_few hD x hx
    refine ⟨?_, fun y hy => ?_, ?_, ?_⟩
    · show (x.attrs.map _).length ≤ _
      rw [List.length_map]
      omega
    · obtain ⟨z, hz, rfl⟩ := List.mem_map.1 hy
      have := hf.a z hz
      show (T z.1).size ≤ _ ∧ (T z.2).size ≤ _
      rw [T_size, T_size]
      omega
    · have := hf.n
      show (T x.name).size ≤ _
      rw [T_size]
      omega
    · have := hf.x
      show (T x.text).size ≤ _
      rw [T_size]
      omega
  refine ⟨hD, hn, hsm, ?_⟩
  obtain ⟨w1, w2⟩ := write_tx (fun x hx => (hF x hx).ok) hok
  cases hp : pastB (ts.map XTok.b)
  · by_cases hz : 32768 < (writeB (ts.map XTok.b)).length
    · left
      unfold writeR
      rw [if_neg (by rw [show docB [] false 0 (ts.map XTok.b) = true from hdoc]; decide), if_neg (by rw [hp]; decide), if_pos hz]
    · right
      refine ⟨?_, w2, ?_⟩
      · unfold writeR
        rw [if_neg (by rw [show docB [] false 0 (ts.map XTok.b) = true from hdoc]; decide), if_neg (by rw [hp]; decide), if_neg hz, w1]
        rfl
      · rw [T_size, ← w1]
        omega
  · left
    unfold writeR
    rw [if_neg (by rw [show docB [] false 0 (ts.map XTok.b) = true from hdoc]; decide), if_pos hp]
end Go.Proofs.YtiembljlhmgpjaaGreatDoor
/- Trees, over lists of characters: what xdm's functions tell of a document's tokens, in plain terms. -/
namespace Go.Proofs.YtiembljlhmgpjaaGreatDoor
/-- What prefixes stand for: by the prefixes' bytes, no prefix twice. -/
abbrev Sc := List (List Nat × List Nat)
def insS (x : List Nat × List Nat) : Sc → Sc
  | [] => [x]
  | y :: r => if bytesBefore (tx x.1) (tx y.1) then x :: y :: r else y :: insS x r
def delS (s : Sc) (p : List Nat) : Sc := s.filter fun y => !(y.1 == p)
def setS (s : Sc) (p u : List Nat) : Sc := insS (p, u) (delS s p)
def lookS (s : Sc) (p : List Nat) : Option (List Nat) := (s.find? fun y => y.1 == p).map (·.2)
def xmlL : List Nat := [120, 109, 108]
def xmlnsL : List Nat := [120, 109, 108, 110, 115]
def xmlUriL : List Nat := [104, 116, 116, 112, 58, 47, 47, 119, 119, 119, 46, 119, 51, 46, 111, 114, 103, 47, 88, 77, 76, 47, 49, 57, 57, 56, 47, 110, 97, 109, 101, 115, 112, 97, 99, 101]
/-- The prefix that an attribute of a name declares. -/
def declD (n : List Nat) : Option (List Nat) := if n = xmlnsL then some [] else if (xmlnsL ++ [58]).isPrefixOf n then some (n.drop 6) else none
def mayD (p u : List Nat) : Bool := if p = xmlnsL then false else if p = xmlL then u == xmlUriL else if p = [] then !(u == xmlUriL) else !(u == []) && !(u == xmlUriL)
def declareD (s : Sc) (p u : List Nat) : Sc := if p = xmlL then s else if u = [] then delS s p else setS s p u
def withD : Sc → List (List Nat × List Nat) → Option Sc
  | s, [] => some s
  | s, x :: l => match declD x.1 with
    | none => withD s l
    | some p => if mayD p x.2 then withD (declareD s p x.2) l else none
/-- A name, expanded: what its prefix stands for, the prefix, the local name. -/
structure Nm where
  uri : List Nat
  pre : List Nat
  loc : List Nat
  deriving DecidableEq
def splitQ (q : List Nat) : List Nat × List Nat := if q.contains 58 then (q.takeWhile (· != 58), (q.dropWhile (· != 58)).tail) else ([], q)
def expandD (s : Sc) (q : List Nat) : Option Nm :=
  if (splitQ q).1 = xmlL then some ⟨xmlUriL, (splitQ q).1, (splitQ q).2⟩ else match lookS s (splitQ q).1 with
  | some u => some ⟨u, (splitQ q).1, (splitQ q).2⟩
  | none => if (splitQ q).1 = [] then some ⟨[], [], (splitQ q).2⟩ else none
def expandA (s : Sc) (q : List Nat) : Option Nm := if isNm q then some ⟨[], [], q⟩ else expandD s q
structure XNode where
  kind : Nat
  name : Nm
  text : List Nat
  parent : Int
  fin : Nat
  deep : Nat
  scope : Sc
  deriving DecidableEq
def nm0 : Nm := ⟨[], [], []⟩
def attrN (n : Nm) (t : List Nat) : XNode := ⟨3, n, t, 0, 0, 0, []⟩
/-- The nodes of a tag's attributes, without declarations. -/
def attrsN (s : Sc) : List (List Nat × List Nat) → Option (List XNode)
  | [] => some []
  | x :: l => match declD x.1 with
    | some _ => attrsN s l
    | none => match expandA s x.1 with
      | none => none
      | some n => (attrsN s l).map fun r => attrN n x.2 :: r
def keyN (x : XNode) : List Nat × List Nat := (x.name.uri, x.name.loc)
def attributesD (s : Sc) (l : List (List Nat × List Nat)) : Except Nat (List XNode) := match attrsN s l with
  | none => .error 7
  | some r => if (r.map keyN).Nodup then .ok r else .error 8
/-- Nodes one behind the other, and the numbers of those that are open. -/
structure BS where
  nodes : List XNode
  opn : List Nat
def BS.begin (s : BS) (x : XNode) : BS := ⟨s.nodes ++ [x], s.opn ++ [s.nodes.length]⟩
def BS.inner (s : BS) : Nat := s.opn.getLastD 0
def BS.finish (s : BS) : BS := ⟨s.nodes.modify s.inner fun x => { x with fin := s.nodes.length }, s.opn.dropLast⟩
def BS.placed (s : BS) (x : XNode) : XNode := { x with deep := s.opn.length, parent := (s.inner : Nat) }
def BS.leaf (s : BS) (x : XNode) : BS := (s.begin (s.placed x)).finish
def BS.scope (s : BS) : Sc := match s.nodes[s.inner]? with | some x => x.scope | none => []
def BS.elementAt (s : BS) (sc : Sc) (t : XTok) : Except Nat BS := match withD sc t.attrs with
  | none => .error 7
  | some inner => match expandD inner t.name with
    | none => .error 7
    | some n => match attributesD inner t.attrs with
      | .error e => .error e
      | .ok ns => .ok (ns.foldl BS.leaf (s.begin (s.placed ⟨2, n, [], 0, 0, 0, inner⟩)))
def BS.element (s : BS) (t : XTok) : Except Nat BS := s.elementAt s.scope t
def BS.add (s : BS) (t : XTok) : Except Nat BS :=
  if t.kind = 2 then s.element t else if t.kind = 7 then .ok s.finish else
  if t.kind = 6 then .ok (s.leaf ⟨6, ⟨[], [], t.name⟩, t.text, 0, 0, 0, []⟩) else .ok (s.leaf ⟨t.kind, nm0, t.text, 0, 0, 0, []⟩)
def BS.adds : BS → List XTok → Except Nat BS
  | s, [] => .ok s
  | s, t :: l => match s.add t with
    | .error e => .error e
    | .ok s1 => s1.adds l
def rootN : XNode := ⟨1, nm0, [], -1, 0, 0, []⟩
def BS.start : BS := (⟨[], []⟩ : BS).begin rootN
/-- The tree of a document's tokens, or the error. -/
def treeD (ts : List XTok) : Except Nat (List XNode) := match BS.start.adds ts with
  | .error e => .error e
  | .ok s => .ok s.finish.nodes
/-- The tree of a text, or the error. -/
def parseD (cs : List Nat) : Except Nat (List XNode) := match scanX cs with
  | .error e => .error e.1
  | .ok ts => treeD ts
end Go.Proofs.YtiembljlhmgpjaaGreatDoor
