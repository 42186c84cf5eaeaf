/- Whether a token may stand in some document: xmlscan's isToken. -/
import Derived.Test.YtkklapoceknbcaaGreatDoorXmlWrT
import Derived.BigQuiet
namespace Go.Proofs.YtkklapoceknbcaaGreatDoor
open Go.RowKit
/-- A token as it is handed in: none of its parts is great. -/
structure Small (t : BTok) : Prop where
  l : t.attrs.length ≤ 1048576
  a : ∀ x ∈ t.attrs, x.1.size ≤ 1048576 ∧ x.2.size ≤ 1048576
  n : t.name.size ≤ 1048576
  x : t.text.size ≤ 1048576
def tokV (t : BTok) (v : Value) : Array Value := #[.int .i64 t.kind, .string t.name, v, .string t.text]
/-- A token's own cells, and nothing else new that matters. -/
structure TokBox (w : World) (t : BTok) (v : Value) (W : World) : Prop where
  bel : Below w.heap.size w W
  lt : w.heap.size < W.heap.size
  c0 : W.cell? ⟨w.heap.size, 0, none⟩ = some (.int .i64 t.kind)
  c1 : W.cell? ⟨w.heap.size, 1, none⟩ = some (.string t.name)
  c2 : W.cell? ⟨w.heap.size, 2, none⟩ = some v
  c3 : W.cell? ⟨w.heap.size, 3, none⟩ = some (.string t.text)
theorem TokBox.on {w W W' : World} {t : BTok} {v : Value} (h : TokBox w t v W) (hb : Below W.heap.size W W') : TokBox w t v W' :=
  ⟨Below.then h.bel hb, Nat.lt_of_lt_of_le h.lt hb.size, keptC hb h.c0, keptC hb h.c1, keptC hb h.c2, keptC hb h.c3⟩
theorem okB2 (n : ByteArray) (l : List (ByteArray × ByteArray)) (x : ByteArray) : okB ⟨2, n, l, x⟩ = (x.toList.isEmpty && (qB n && attrsB [] l)) := rfl
theorem okB7 (n : ByteArray) (l : List (ByteArray × ByteArray)) (x : ByteArray) : okB ⟨7, n, l, x⟩ = (x.toList.isEmpty && (l.isEmpty && qB n)) := rfl
theorem okB4 (n : ByteArray) (l : List (ByteArray × ByteArray)) (x : ByteArray) : okB ⟨4, n, l, x⟩ = (n.toList.isEmpty && (l.isEmpty && (!x.toList.isEmpty && textB x))) := rfl
theorem okB5 (n : ByteArray) (l : List (ByteArray × ByteArray)) (x : ByteArray) : okB ⟨5, n, l, x⟩ = (n.toList.isEmpty && (l.isEmpty && comB x)) := rfl
theorem okB6 (n : ByteArray) (l : List (ByteArray × ByteArray)) (x : ByteArray) : okB ⟨6, n, l, x⟩ = (l.isEmpty && (tarB n && insB x)) := rfl
set_option maxRecDepth 100000 in
set_option maxHeartbeats 8000000 in
theorem isToken_any (t : BTok) (v : Value) (w : World) (hv : PairsArg w v t.attrs) (hs : Small t) (B : Nat) (hB : B ≤ w.heap.size) (hE : XEnv B w) :
    Calls Tryz.prog 25 #[.agg #[.int .i64 t.kind, .string t.name, v, .string t.text]] w fun e w' => e = .returned (.bool (okB t)) ∧ Below w.heap.size w w' := by
  have HV := hide hv
  have HS := hide hs
  have HE := hide hE
  obtain ⟨a, cap, rfl, _⟩ := hv
  have HB0 : Hid (TokBox w t (.slice a t.attrs.length cap) (w.alloc (.cells (tokV t (.slice a t.attrs.length cap)) 37 (0, 0)))) := hide (by
    unfold tokV
    refine ⟨(Below.refl _ _).alloc (Nat.le_refl _) _, by simp, ?_, ?_, ?_, ?_⟩
    all_goals simp [go_sem])
  obtain ⟨k, n, l, x⟩ := t
  simp only at *
  clear hs hE
  go_enter Tryz.func25, Tryz.ntmps25
  go_wp2_with fail
  go_quiet (fail)
  have HB1 : Hid (TokBox w ⟨k, n, l, x⟩ (.slice a l.length cap) _) := hide ((unhide HB0).on (below_drewN _ nq))
  unfold tokV at HB1
  simp only at HB1
  generalize (w.alloc (.cells #[.int .i64 k, .string n, .slice a l.length cap, .string x] 37 (0, 0))).drewN nq = W at *
  clear HB0
  have hbW := (unhide HB1).bel
  have c0 := (unhide HB1).c0
  have c1 := (unhide HB1).c1
  have c2 := (unhide HB1).c2
  have c3 := (unhide HB1).c3
  simp only at c0 c1 c2 c3
  have HEW := hide ((unhide HE).low (hbW.mono hB))
  have hBW : B ≤ W.heap.size := Nat.le_trans hB hbW.size
  by_cases k2 : k = 2
  · subst k2
    have HOK := hide (okB2 n l x)
    cases hx0 : x.toList.isEmpty
    · have HR : Hid (okB ⟨2, n, l, x⟩ = false) := hide (by rw [unhide HOK, hx0]; rfl)
      clear HOK
      go_wp2
      go_ret
      exact ⟨ret_bool (unhide HR).symm, hbW⟩
    · rw [hx0, Bool.true_and] at HOK
      go_wp2_with fail
      refine (isQName_any n _ (unhide HS).n (unhide HEW).env).mono ?_
      rintro e w1 ⟨rfl, hb1⟩
      have hbW1 := Below.then hbW hb1
      have d2 := keptC hb1 c2
      cases hq : qB n
      · have HR : Hid (okB ⟨2, n, l, x⟩ = false) := hide (by rw [unhide HOK, hq]; rfl)
        clear HOK hq
        go_wp2
        go_ret
        exact ⟨ret_bool (unhide HR).symm, hbW1⟩
      · have HR : Hid (okB ⟨2, n, l, x⟩ = attrsB [] l) := hide (by rw [unhide HOK, hq, Bool.true_and])
        clear HOK hq
        go_wp2_with fail
        refine (areAttributes_any l _ _ ((unhide HV).below hbW1) (unhide HS).l (unhide HS).a B (Nat.le_trans hBW hb1.size) ((unhide HEW).on hBW hb1)).mono ?_
        rintro e w2 ⟨rfl, hb2⟩
        go_wp2
        go_ret
        exact ⟨ret_bool (unhide HR).symm, Below.then hbW1 hb2⟩
  · have g2 : (k == 2) = false := by simpa using k2
    by_cases k7 : k = 7
    · subst k7
      have HOK := hide (okB7 n l x)
      cases hx0 : x.toList.isEmpty
      · have HR : Hid (okB ⟨7, n, l, x⟩ = false) := hide (by rw [unhide HOK, hx0]; rfl)
        clear HOK
        go_wp2
        go_ret
        exact ⟨ret_bool (unhide HR).symm, hbW⟩
      · rw [hx0, Bool.true_and] at HOK
        cases hl0 : l.isEmpty
        · have HR : Hid (okB ⟨7, n, l, x⟩ = false) := hide (by rw [unhide HOK, hl0]; rfl)
          have hl1 : 0 < l.length := by cases l with | nil => cases hl0 | cons _ _ => simp
          clear HOK hl0
          go_wp2
          go_ret
          exact ⟨ret_bool (unhide HR).symm, hbW⟩
        · have HR : Hid (okB ⟨7, n, l, x⟩ = qB n) := hide (by rw [unhide HOK, hl0, Bool.true_and])
          have hl1 : ¬ 0 < l.length := by cases l with | nil => simp | cons _ _ => cases hl0
          clear HOK hl0
          go_wp2_with fail
          refine (isQName_any n _ (unhide HS).n (unhide HEW).env).mono ?_
          rintro e w1 ⟨rfl, hb1⟩
          go_wp2
          go_ret
          exact ⟨ret_bool (unhide HR).symm, Below.then hbW hb1⟩
    · have g7 : (k == 7) = false := by simpa using k7
      by_cases k4 : k = 4
      · subst k4
        have HOK := hide (okB4 n l x)
        cases hn0 : n.toList.isEmpty
        · have HR : Hid (okB ⟨4, n, l, x⟩ = false) := hide (by rw [unhide HOK, hn0]; rfl)
          clear HOK
          go_wp2
          go_ret
          exact ⟨ret_bool (unhide HR).symm, hbW⟩
        · rw [hn0, Bool.true_and] at HOK
          cases hl0 : l.isEmpty
          · have HR : Hid (okB ⟨4, n, l, x⟩ = false) := hide (by rw [unhide HOK, hl0]; rfl)
            have hl1 : 0 < l.length := by cases l with | nil => cases hl0 | cons _ _ => simp
            clear HOK hl0
            go_wp2
            go_ret
            exact ⟨ret_bool (unhide HR).symm, hbW⟩
          · rw [hl0, Bool.true_and] at HOK
            have hl1 : ¬ 0 < l.length := by cases l with | nil => simp | cons _ _ => cases hl0
            clear hl0
            cases hx0 : x.toList.isEmpty
            · have HR : Hid (okB ⟨4, n, l, x⟩ = textB x) := hide (by rw [unhide HOK, hx0]; rfl)
              clear HOK
              go_wp2_with fail
              refine (isText_any x _).mono ?_
              rintro e w1 ⟨rfl, hb1⟩
              go_wp2
              go_ret
              exact ⟨ret_bool (unhide HR).symm, Below.then hbW hb1⟩
            · have HR : Hid (okB ⟨4, n, l, x⟩ = false) := hide (by rw [unhide HOK, hx0]; rfl)
              clear HOK
              go_wp2
              go_ret
              exact ⟨ret_bool (unhide HR).symm, hbW⟩
      · have g4 : (k == 4) = false := by simpa using k4
        by_cases k5 : k = 5
        · subst k5
          have HOK := hide (okB5 n l x)
          cases hn0 : n.toList.isEmpty
          · have HR : Hid (okB ⟨5, n, l, x⟩ = false) := hide (by rw [unhide HOK, hn0]; rfl)
            clear HOK
            go_wp2
            go_ret
            exact ⟨ret_bool (unhide HR).symm, hbW⟩
          · rw [hn0, Bool.true_and] at HOK
            cases hl0 : l.isEmpty
            · have HR : Hid (okB ⟨5, n, l, x⟩ = false) := hide (by rw [unhide HOK, hl0]; rfl)
              have hl1 : 0 < l.length := by cases l with | nil => cases hl0 | cons _ _ => simp
              clear HOK hl0
              go_wp2
              go_ret
              exact ⟨ret_bool (unhide HR).symm, hbW⟩
            · have HR : Hid (okB ⟨5, n, l, x⟩ = comB x) := hide (by rw [unhide HOK, hl0, Bool.true_and])
              have hl1 : ¬ 0 < l.length := by cases l with | nil => simp | cons _ _ => cases hl0
              clear HOK hl0
              go_wp2_with fail
              refine (isComment_any x _ (unhide HS).x B hBW (unhide HEW)).mono ?_
              rintro e w1 ⟨rfl, hb1⟩
              go_wp2
              go_ret
              exact ⟨ret_bool (unhide HR).symm, Below.then hbW hb1⟩
        · have g5 : (k == 5) = false := by simpa using k5
          by_cases k6 : k = 6
          · subst k6
            have HOK := hide (okB6 n l x)
            cases hl0 : l.isEmpty
            · have HR : Hid (okB ⟨6, n, l, x⟩ = false) := hide (by rw [unhide HOK, hl0]; rfl)
              have hl1 : 0 < l.length := by cases l with | nil => cases hl0 | cons _ _ => simp
              clear HOK hl0
              go_wp2
              go_ret
              exact ⟨ret_bool (unhide HR).symm, hbW⟩
            · rw [hl0, Bool.true_and] at HOK
              have hl1 : ¬ 0 < l.length := by cases l with | nil => simp | cons _ _ => cases hl0
              clear hl0
              go_wp2_with fail
              refine (isTargetB_any n _ (unhide HS).n B hBW (unhide HEW)).mono ?_
              rintro e w1 ⟨rfl, hb1⟩
              have hbW1 := Below.then hbW hb1
              have d3 := keptC hb1 c3
              cases hq : tarB n
              · have HR : Hid (okB ⟨6, n, l, x⟩ = false) := hide (by rw [unhide HOK, hq]; rfl)
                clear HOK hq
                go_wp2
                go_ret
                exact ⟨ret_bool (unhide HR).symm, hbW1⟩
              · have HR : Hid (okB ⟨6, n, l, x⟩ = insB x) := hide (by rw [unhide HOK, hq, Bool.true_and])
                clear HOK hq
                go_wp2_with fail
                refine (isInstruction_any x _ (unhide HS).x B (Nat.le_trans hBW hb1.size) ((unhide HEW).on hBW hb1)).mono ?_
                rintro e w2 ⟨rfl, hb2⟩
                go_wp2
                go_ret
                exact ⟨ret_bool (unhide HR).symm, Below.then hbW1 hb2⟩
          · have g6 : (k == 6) = false := by simpa using k6
            have HR : Hid (okB ⟨k, n, l, x⟩ = false) := hide (by unfold okB; simp only [if_neg k2, if_neg k7, if_neg k4, if_neg k5, if_neg k6])
            clear k2 k7 k4 k5 k6
            go_wp2
            go_ret
            exact ⟨ret_bool (unhide HR).symm, hbW⟩
end Go.Proofs.YtkklapoceknbcaaGreatDoor
