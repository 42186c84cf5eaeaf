/- Names and prefixes of what is built: xbuild's mayStandFor, isElementName, isAttributeName. -/
import Derived.Test.YtllhajjceecjdaaDoorGaz
namespace Go.Proofs.YtllhajjceecjdaaDoor
open Go.RowKit
/-- May a prefix stand for a Uri? -/
def standB (p u : List Nat) : Bool := if p = [] then !(u == xmlUriL) else if p = xmlnsL then false else if p = xmlL then u == xmlUriL else isNm p && (!(u == []) && !(u == xmlUriL))
def elemB (n : Nm) : Bool := isNm n.loc && standB n.pre n.uri
def attrB (n : Nm) : Bool := if n.pre = [] ∧ (n.uri ≠ [] ∨ n.loc = xmlnsL) then false else elemB n
theorem textT {l : List Nat} (h : okL l) : textB (T l) = true := (textB_txt _).2 (T_txt h)
theorem isText_T (l : List Nat) (hl : okL l) (w : World) :
    Calls Tryd.prog 9 #[.string (T l)] w fun e w' => e = .returned (.bool true) ∧ Below w.heap.size w w' := by
  rw [← textT hl]
  exact isText_any (T l) w
theorem isNameT (l : List Nat) (hl : okL l) (hs : (T l).size ≤ 1048576) (w : World) (hE : Env w) :
    Calls Tryd.prog 33 #[.string (T l)] w fun e w' => e = .returned (.bool (isNm l)) ∧ Below w.heap.size w w' := by
  rw [← nameB_T hl]
  exact isName_any (T l) w (by unfold maxLen; omega) hE
set_option maxRecDepth 100000 in
set_option maxHeartbeats 4000000 in
theorem mayStandFor_any (p u : List Nat) (w : World) (hp : okL p) (hu : okL u) (hz : (T p).size ≤ 1048576) (hE : Env w) :
    Calls Tryd.prog 34 #[.string (T p), .string (T u)] w fun e w' => e = .returned (.bool (standB p u)) ∧ Below w.heap.size w w' := by
  have h1 := is_xmlns hp
  have h2 := is_xml hp
  have h3 := is_empty hp
  have h4 := is_uri hu
  have h5 := is_empty hu
  have HT := hide (isText_T u hu)
  have HN := hide (fun w hE => isNameT p hp hz w hE)
  have HE := hide hE
  obtain ⟨b6, e6⟩ : ∃ b, isNm p = b := ⟨_, rfl⟩
  obtain ⟨b1, e1⟩ : ∃ b, (p == xmlnsL) = b := ⟨_, rfl⟩
  obtain ⟨b2, e2⟩ : ∃ b, (p == xmlL) = b := ⟨_, rfl⟩
  obtain ⟨b3, e3⟩ : ∃ b, (p == []) = b := ⟨_, rfl⟩
  obtain ⟨b4, e4⟩ : ∃ b, (u == xmlUriL) = b := ⟨_, rfl⟩
  obtain ⟨b5, e5⟩ : ∃ b, (u == []) = b := ⟨_, rfl⟩
  have HM : Hid (standB p u = if b3 = true then !b4 else if b1 = true then false else if b2 = true then b4 else b6 && (!b5 && !b4)) := hide (by
    unfold standB
    rw [← e1, ← e2, ← e3, ← e4, ← e5, ← e6]
    simp only [beq_iff_eq])
  rw [e1] at h1
  rw [e2] at h2
  rw [e3] at h3
  rw [e4] at h4
  rw [e5] at h5
  rw [e6] at HN
  clear e1 e2 e3 e4 e5 e6 hE hp hu hz
  rw [unhide HM]
  clear HM
  cases b1 <;> cases b2 <;> cases b3 <;> cases b4 <;> cases b5 <;> cases b6
  all_goals
    go_enter Tryd.func34, Tryd.ntmps34
    go_wp2_with (first
      | (go_at_call 33; refine (unhide HN _ (unhide HE)).mono ?_; rintro e w1 ⟨rfl, hb1⟩)
      | (go_at_call 9; refine (unhide HT _).mono ?_; rintro e w2 ⟨rfl, hb2⟩))
    go_returns
    first
      | exact ⟨rfl, Below.refl _ _⟩
      | exact ⟨rfl, by assumption⟩
      | exact ⟨rfl, Below.then hb1 hb2⟩
set_option maxRecDepth 100000 in
set_option maxHeartbeats 2000000 in
theorem isElementName_any (n : Nm) (w : World) (h0 : okL n.uri) (h1 : okL n.pre) (h2 : okL n.loc) (z1 : (T n.pre).size ≤ 1048576) (z2 : (T n.loc).size ≤ 1048576) (hE : Env w) :
    Calls Tryd.prog 25 #[.agg #[.string (T n.uri), .string (T n.pre), .string (T n.loc)]] w fun e w' => e = .returned (.bool (elemB n)) ∧ Below w.heap.size w w' := by
  have HN := hide (fun w hE => isNameT n.loc h2 z2 w hE)
  have HM := hide (fun w hE => mayStandFor_any n.pre n.uri w h1 h0 z1 hE)
  have HE := hide hE
  have HR : Hid (elemB n = (isNm n.loc && standB n.pre n.uri)) := hide rfl
  rw [unhide HR]
  clear HR hE h0 h1 h2 z1 z2
  generalize standB n.pre n.uri = b2 at *
  obtain ⟨b1, e1⟩ : ∃ b, isNm n.loc = b := ⟨_, rfl⟩
  rw [e1] at HN ⊢
  clear e1
  generalize T n.uri = tu at *
  generalize T n.pre = tp at *
  generalize T n.loc = tl at *
  have hb0 : Below w.heap.size w (w.alloc (.cells #[.string tu, .string tp, .string tl] 61)) := (Below.refl _ _).alloc (Nat.le_refl _) _
  have HE1 := hide ((unhide HE).below hb0)
  cases b1
  · go_enter Tryd.func25, Tryd.ntmps25
    go_wp2_with fail
    refine (unhide HN _ (unhide HE1)).mono ?_
    rintro e w1 ⟨rfl, hb1⟩
    go_wp2
    go_returns
    exact ⟨rfl, Below.then hb0 hb1⟩
  · go_enter Tryd.func25, Tryd.ntmps25
    go_wp2_with fail
    refine (unhide HN _ (unhide HE1)).mono ?_
    rintro e w1 ⟨rfl, hb1⟩
    have hE1 := hide ((unhide HE1).below hb1)
    have c0 : w1.cell? ⟨w.heap.size, 0, none⟩ = some (.string tu) := by rw [hb1.cell (by simp)]; simp [go_sem]
    have c1 : w1.cell? ⟨w.heap.size, 1, none⟩ = some (.string tp) := by rw [hb1.cell (by simp)]; simp [go_sem]
    have hb := hide (Below.then hb0 hb1)
    clear hb0 hb1 HE1
    go_wp2_with fail
    refine (unhide HM _ (unhide hE1)).mono ?_
    rintro e w2 ⟨rfl, hb2⟩
    go_wp2
    go_returns
    exact ⟨rfl, Below.then (unhide hb) hb2⟩
set_option maxRecDepth 100000 in
set_option maxHeartbeats 2000000 in
theorem isAttributeName_any (n : Nm) (w : World) (h0 : okL n.uri) (h1 : okL n.pre) (h2 : okL n.loc) (z1 : (T n.pre).size ≤ 1048576) (z2 : (T n.loc).size ≤ 1048576) (hE : Env w) :
    Calls Tryd.prog 27 #[.agg #[.string (T n.uri), .string (T n.pre), .string (T n.loc)]] w fun e w' => e = .returned (.bool (attrB n)) ∧ Below w.heap.size w w' := by
  have HI := hide (fun w hE => isElementName_any n w h0 h1 h2 z1 z2 hE)
  have HE := hide hE
  have g1 := is_empty h1
  have g0 := is_empty h0
  have g2 := is_xmlns h2
  obtain ⟨b1, e1⟩ : ∃ b, (n.pre == []) = b := ⟨_, rfl⟩
  obtain ⟨b0, e0⟩ : ∃ b, (n.uri == []) = b := ⟨_, rfl⟩
  obtain ⟨b2, e2⟩ : ∃ b, (n.loc == xmlnsL) = b := ⟨_, rfl⟩
  have HR : Hid (attrB n = if b1 && (!b0 || b2) then false else elemB n) := hide (by
    unfold attrB
    rw [← e0, ← e1, ← e2]
    simp only [Bool.and_eq_true, Bool.or_eq_true, Bool.not_eq_true', beq_iff_eq, beq_eq_false_iff_ne])
  rw [unhide HR]
  rw [e1] at g1
  rw [e0] at g0
  rw [e2] at g2
  clear HR hE h0 h1 h2 z1 z2 e0 e1 e2
  generalize elemB n = b3 at *
  generalize T n.uri = tu at *
  generalize T n.pre = tp at *
  generalize T n.loc = tl at *
  have hb0 : Below w.heap.size w (w.alloc (.cells #[.string tu, .string tp, .string tl] 61)) := (Below.refl _ _).alloc (Nat.le_refl _) _
  have HE1 := hide ((unhide HE).below hb0)
  cases b1 <;> cases b0 <;> cases b2
  all_goals
    go_enter Tryd.func27, Tryd.ntmps27
    go_wp2_with (go_at_call 25; refine (unhide HI _ (unhide HE1)).mono ?_; rintro e w1 ⟨rfl, hb1⟩)
    go_returns
    first
      | exact ⟨rfl, hb0⟩
      | exact ⟨rfl, Below.then hb0 hb1⟩
end Go.Proofs.YtllhajjceecjdaaDoor
