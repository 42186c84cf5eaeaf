/- Several texts, laid as one. -/
import Derived.Test.YtefjfjieoiegnaaGreatDoorGbk
import Derived.Test.YtefjfjieoiegnaaGreatDoorGbd
import Derived.Test.YtefjfjieoiegnaaGreatDoorXmlDoc
import Derived.Test.YtefjfjieoiegnaaGreatDoorGaz
import Derived.Test.YtefjfjieoiegnaaGreatDoorGah
/- Which way a method writes: by. -/
namespace Go.Proofs.YtefjfjieoiegnaaGreatDoor
open Go.RowKit
set_option maxRecDepth 100000 in
set_option maxHeartbeats 2000000 in
theorem by_any (b : Nat) (m : Int) (w : World) :
    Calls Tryz.prog 26 #[.pointer (some ⟨b, 0, none⟩), .int .i64 m] w fun e w' => e = .returned (.func (.func (if m = 1 then 42 else if m = 2 then 43 else 44)) #[.pointer (some ⟨b, 0, none⟩)] #[]) ∧ w' = w := by
  by_cases h1 : m = 1
  · subst h1
    go_enter Tryz.func26, Tryz.ntmps26
    go_wp2_with fail
    go_returns
    exact ⟨rfl, rfl⟩
  by_cases h2 : m = 2
  · subst h2
    go_enter Tryz.func26, Tryz.ntmps26
    go_wp2_with fail
    go_returns
    exact ⟨rfl, rfl⟩
  · rw [if_neg h1, if_neg h2]
    go_enter Tryz.func26, Tryz.ntmps26
    go_wp2_with fail
    go_returns
    exact ⟨rfl, rfl⟩
end Go.Proofs.YtefjfjieoiegnaaGreatDoor
/- Whether tokens are past a tree's limits: xout's pastLimits. -/
namespace Go.Proofs.YtefjfjieoiegnaaGreatDoor
open Go.RowKit
def pastGo : Int → Bool → List BTok → Bool
  | _, p, [] => p
  | d, p, t :: ts => if t.kind = 2 then pastGo (d + 1) (p || (decide (32 < d + 1) || decide (64 < t.attrs.length))) ts else if t.kind = 7 then pastGo (d - 1) p ts else pastGo d p ts
def pastD (ts : List BTok) : Bool := pastGo 0 (decide (4096 < ts.length)) ts
theorem pastGo_cons (d : Int) (p : Bool) (t : BTok) (ts : List BTok) : pastGo d p (t :: ts) = if t.kind = 2 then pastGo (d + 1) (p || (decide (32 < d + 1) || decide (64 < t.attrs.length))) ts else if t.kind = 7 then pastGo (d - 1) p ts else pastGo d p ts := rfl
structure PstSt (w : World) (ts : List BTok) (k : Nat) (d : Int) (p : Bool) (w' : World) : Prop where
  le : k ≤ ts.length
  bel : Below w.heap.size w w'
  d1 : -(k : Int) ≤ d
  d2 : d ≤ k
  spec : pastD ts = pastGo d p (ts.drop k)
set_option maxRecDepth 100000 in
set_option maxHeartbeats 4000000 in
theorem outPast_any (ts : List BTok) (a : Option Addr) (cap : Nat) (w : World) (hv : ToksArg w a ts) (hn : ts.length ≤ 1048576) :
    Calls Tryz.prog 39 #[.slice a ts.length cap] w fun e w' => e = .returned (.bool (pastD ts)) ∧ Below w.heap.size w w' := by
  have HV := hide hv
  have HI0 : Hid (PstSt w ts 0 0 (decide (4096 < ts.length)) w) := hide ⟨Nat.zero_le _, Below.refl _ _, by omega, by omega, rfl⟩
  clear hv
  go_enter Tryz.func39, Tryz.ntmps39
  go_wp2_with fail
  go_loopw [3, 4, 12] (fun s3 s4 i wr => ∃ (k : Nat) (d : Int) (p : Bool), i = .int .i64 (k : Nat) ∧ s3 = .int .i64 d ∧ s4 = .bool p ∧ PstSt w ts k d p wr) (fun _ _ i _ => ts.length - (intOf i).toNat)
  case atStart =>
    refine ⟨0, 0, decide (4096 < ts.length), rfl, rfl, ?_, unhide HI0⟩
    congr 1
    exact decide_eq_decide.2 (by omega)
  case round =>
    clear HI0
    obtain ⟨k, d, p, rfl, rfl, rfl, hI⟩ := hrel
    have hk := hI.le
    have hbr := hI.bel
    have d1 := hI.d1
    have d2 := hI.d2
    by_cases hlt : k < ts.length
    · obtain ⟨t, ht⟩ : ∃ t, ts[k]? = some t := ⟨ts[k], List.getElem?_eq_getElem hlt⟩
      obtain ⟨g, oo, ha, hc⟩ := ((unhide HV).below hbr) (by intro h0; rw [h0] at hlt; cases hlt)
      subst ha
      obtain ⟨c0, c1, ⟨v, c2, hpv⟩, c3⟩ := hc k t ht
      obtain ⟨va, vc, hve, _⟩ := id hpv
      subst hve
      have n1 : (0 : Int) ≤ (k : Int) := by omega
      have n2 : (k : Int) < (ts.length : Int) := by omega
      have hdr : ts.drop k = t :: ts.drop (k + 1) := by
        rw [← List.getElem_cons_drop hlt]
        congr 1
        exact (List.getElem?_eq_some_iff.1 ht).2
      have hspec := hI.spec
      rw [hdr, pastGo_cons] at hspec
      have hbA : Below wr.heap.size wr (wr.alloc (.cells #[.int .i64 t.kind, .string t.name, .slice va t.attrs.length vc, .string t.text] 37 (0, 0))) := (Below.refl _ _).alloc (Nat.le_refl _) _
      have hb0 := Below.then hbr hbA
      obtain ⟨kd, nm, ats, tx'⟩ := t
      simp only at *
      clear hI hc hdr ht hpv hbA
      by_cases k2 : kd = 2
      · subst k2
        rw [if_pos rfl] at hspec
        have HI2 : Hid (PstSt w ts (k + 1) (d + 1) (p || (decide (32 < d + 1) || decide (64 < ats.length))) (wr.alloc (.cells #[.int .i64 2, .string nm, .slice va ats.length vc, .string tx'] 37 (0, 0)))) := hide ⟨by omega, hb0, by omega, by omega, hspec⟩
        have e1 : wrap64 (d + 1) = d + 1 := by unfold wrap64; omega
        clear hspec
        cases p
        · by_cases hd : 32 < d + 1
          · rw [decide_eq_true hd, Bool.true_or, Bool.false_or] at HI2
            go_wp2_with fail
            go_round
            case measure => simp [intOf]; omega
            case rel => exact ⟨k + 1, d + 1, true, by simp, rfl, rfl, unhide HI2⟩
          · rw [decide_eq_false hd, Bool.false_or, Bool.false_or] at HI2
            by_cases hl : 64 < ats.length
            · have hl' : (64 : Int) < (ats.length : Int) := by omega
              rw [decide_eq_true hl] at HI2
              go_wp2_with fail
              go_round
              case measure => simp [intOf]; omega
              case rel => exact ⟨k + 1, d + 1, true, by simp, rfl, rfl, unhide HI2⟩
            · have hl' : ¬ (64 : Int) < (ats.length : Int) := by omega
              rw [decide_eq_false hl] at HI2
              go_wp2_with fail
              go_round
              case measure => simp [intOf]; omega
              case rel => exact ⟨k + 1, d + 1, false, by simp, rfl, rfl, unhide HI2⟩
        · rw [Bool.true_or] at HI2
          go_wp2_with fail
          go_round
          case measure => simp [intOf]; omega
          case rel => exact ⟨k + 1, d + 1, true, by simp, rfl, rfl, unhide HI2⟩
      · rw [if_neg k2] at hspec
        have g2 : (kd == 2) = false := by simpa using k2
        by_cases k7 : kd = 7
        · subst k7
          rw [if_pos rfl] at hspec
          have HI2 : Hid (PstSt w ts (k + 1) (d - 1) p (wr.alloc (.cells #[.int .i64 7, .string nm, .slice va ats.length vc, .string tx'] 37 (0, 0)))) := hide ⟨by omega, hb0, by omega, by omega, hspec⟩
          have e1 : wrap64 (d - 1) = d - 1 := by unfold wrap64; omega
          clear hspec
          go_wp2_with fail
          go_round
          case measure => simp [intOf]; omega
          case rel => exact ⟨k + 1, d - 1, p, by simp, rfl, rfl, unhide HI2⟩
        · have g7 : (kd == 7) = false := by simpa using k7
          rw [if_neg k7] at hspec
          have HI2 : Hid (PstSt w ts (k + 1) d p (wr.alloc (.cells #[.int .i64 kd, .string nm, .slice va ats.length vc, .string tx'] 37 (0, 0)))) := hide ⟨by omega, hb0, by omega, by omega, hspec⟩
          clear hspec k2 k7
          go_wp2_with fail
          go_round
          case measure => simp [intOf]; omega
          case rel => exact ⟨k + 1, d, p, by simp, rfl, rfl, unhide HI2⟩
    · have n2 : ¬ (k : Int) < (ts.length : Int) := by omega
      have hkl : k = ts.length := by omega
      have hsp := hI.spec
      rw [hkl, List.drop_length] at hsp
      have HSP : Hid (pastD ts = p) := hide hsp
      clear hI hsp
      go_wp2
      go_ret
      exact ⟨ret_bool (unhide HSP).symm, hbr⟩
end Go.Proofs.YtefjfjieoiegnaaGreatDoor
/- Tokens within the limits: how long what is written of them can be. -/
namespace Go.Proofs.YtefjfjieoiegnaaGreatDoor
open Go.RowKit
theorem pastGo_true : ∀ (ts : List BTok) (d : Int), pastGo d true ts = true
  | [], _ => rfl
  | t :: ts, d => by
    rw [pastGo_cons, Bool.true_or]
    split
    · exact pastGo_true ts _
    · split
      · exact pastGo_true ts _
      · exact pastGo_true ts _
theorem pastGo_few : ∀ (ts : List BTok) (d : Int) (p : Bool), pastGo d p ts = false → p = false ∧ ∀ t ∈ ts, t.kind = 2 → t.attrs.length ≤ 64
  | [], d, p, h => ⟨h, fun t ht => by cases ht⟩
  | t :: ts, d, p, h => by
    rw [pastGo_cons] at h
    split at h
    · obtain ⟨h1, h2⟩ := pastGo_few ts _ _ h
      rw [Bool.or_eq_false_iff, Bool.or_eq_false_iff] at h1
      refine ⟨h1.1, fun x hx hk => ?_⟩
      rcases List.mem_cons.1 hx with rfl | hx
      · have := of_decide_eq_false h1.2.2
        omega
      · exact h2 x hx hk
    · rename_i hk2
      have h' : pastGo (if t.kind = 7 then d - 1 else d) p ts = false := by
        split at h
        · rename_i h7; rw [if_pos h7]; exact h
        · rename_i h7; rw [if_neg h7]; exact h
      obtain ⟨h1, h2⟩ := pastGo_few ts _ _ h'
      refine ⟨h1, fun x hx hk => ?_⟩
      rcases List.mem_cons.1 hx with rfl | hx
      · exact absurd hk hk2
      · exact h2 x hx hk
/-- Tokens that are not past the limits are few, and have few attributes. -/
theorem past_few {ts : List BTok} (h : pastD ts = false) : ts.length ≤ 4096 ∧ ∀ t ∈ ts, t.kind = 2 → t.attrs.length ≤ 64 := by
  obtain ⟨h1, h2⟩ := pastGo_few ts _ _ h
  have := of_decide_eq_false h1
  exact ⟨by omega, h2⟩
theorem right_few {ts : List BTok} (h : pastD ts = false) (x : Nat) (hk : (tkAt ts x).kind = 2) : (tkAt ts x).attrs.length ≤ 64 := by
  unfold tkAt at *
  cases hx : ts[x]? with
  | none => rw [hx] at hk; cases hk
  | some t => rw [hx] at hk; exact (past_few h).2 t (List.mem_of_getElem? hx) hk
end Go.Proofs.YtefjfjieoiegnaaGreatDoor
/- A CDATA section, in plain terms: what is scanned of it. -/
namespace Go.Proofs.YtefjfjieoiegnaaGreatDoor
/-- Signs that stand nowhere in a text. -/
def noSign (a l : List Nat) : Prop := ∀ x y, l ≠ x ++ a ++ y
theorem noSign.tail {a l : List Nat} {c : Nat} (h : noSign a (c :: l)) : noSign a l := fun x y e => h (c :: x) y (by rw [e]; rfl)
theorem cut_section : ∀ (l r : List Nat), noSign [93, 93, 62] l → cutL [93, 93, 62] (l ++ 93 :: 93 :: 62 :: r) = some (l, r)
  | [], r, _ => by
    show cutL [93, 93, 62] (93 :: 93 :: 62 :: r) = _
    rfl
  | c :: l, r, h => by
    have ih := cut_section l r h.tail
    show cutL [93, 93, 62] (c :: (l ++ 93 :: 93 :: 62 :: r)) = _
    rw [cutL, ih]
    have hn : [93, 93, 62].isPrefixOf (c :: (l ++ 93 :: 93 :: 62 :: r)) = false := by
      cases hh : [93, 93, 62].isPrefixOf (c :: (l ++ 93 :: 93 :: 62 :: r))
      · rfl
      · exfalso
        match l, h, hh with
        | [], _, hh =>
          simp [List.isPrefixOf] at hh
        | [d], _, hh =>
          simp [List.isPrefixOf] at hh
        | d :: e :: l, h, hh =>
          simp [List.isPrefixOf] at hh
          obtain ⟨rfl, rfl, rfl⟩ := hh
          exact h [] l rfl
    rw [hn, if_neg (by decide)]
    rfl
theorem cd_start (R : List Nat) : (RS.start (60 :: 97 :: 62 :: 60 :: 33 :: 91 :: 67 :: 68 :: 65 :: 84 :: 65 :: 91 :: R)).startTag =
    .ok ⟨[60, 97, 62], 60 :: 33 :: 91 :: 67 :: 68 :: 65 :: 84 :: 65 :: 91 :: R, [], 0, [[97]], [⟨2, [97], [], []⟩], [], 3⟩ := by rfl
theorem cd_section (P l r : List Nat) (h : noSign [93, 93, 62] l) (n : Nat) :
    ∃ P', (⟨P, 60 :: 33 :: 91 :: 67 :: 68 :: 65 :: 84 :: 65 :: 91 :: (l ++ 93 :: 93 :: 62 :: r), [], 0, [[97]], [⟨2, [97], [], []⟩], [], n⟩ : RS).contentOne = .ok ⟨P', r, [], 0, [[97]], [⟨2, [97], [], []⟩], l, n⟩ := by
  have e : (⟨P, 60 :: 33 :: 91 :: 67 :: 68 :: 65 :: 84 :: 65 :: 91 :: (l ++ 93 :: 93 :: 62 :: r), [], 0, [[97]], [⟨2, [97], [], []⟩], [], n⟩ : RS).contentOne = (⟨P, 60 :: 33 :: 91 :: 67 :: 68 :: 65 :: 84 :: 65 :: 91 :: (l ++ 93 :: 93 :: 62 :: r), [], 0, [[97]], [⟨2, [97], [], []⟩], [], n⟩ : RS).section' := by rfl
  have e2 : (⟨P, 60 :: 33 :: 91 :: 67 :: 68 :: 65 :: 84 :: 65 :: 91 :: (l ++ 93 :: 93 :: 62 :: r), [], 0, [[97]], [⟨2, [97], [], []⟩], [], n⟩ : RS).take [60, 33, 91, 67, 68, 65, 84, 65, 91] = ⟨P ++ [60, 33, 91, 67, 68, 65, 84, 65, 91], l ++ 93 :: 93 :: 62 :: r, [], 0, [[97]], [⟨2, [97], [], []⟩], [], n⟩ := by rfl
  have e3 : (l ++ 93 :: 93 :: 62 :: r).drop (l.length + 3) = r := by
    rw [← List.drop_drop, List.drop_left]
    rfl
  rw [e]
  unfold RS.section'
  rw [e2]
  unfold RS.takeTo
  rw [cut_section l r h]
  simp only [Option.map_some]
  unfold RS.adv
  simp only [List.length_cons, List.length_nil, Nat.zero_add, Nat.reduceAdd, e3]
  unfold RS.room
  simp only [List.nil_append]
  exact ⟨_, by rw [if_neg (by simp)]⟩
theorem cd_end (P l : List Nat) (n : Nat) :
    ∃ P' n', (⟨P, [60, 47, 97, 62], [], 0, [[97]], [⟨2, [97], [], []⟩], l, n⟩ : RS).contentOne = .ok ⟨P', [], [], 0, [], ⟨2, [97], [], []⟩ :: (if l = [] then [] else [⟨4, [], [], l⟩]) ++ [⟨7, [97], [], []⟩], [], n'⟩ := by
  cases l with
  | nil => exact ⟨_, _, rfl⟩
  | cons c l => exact ⟨_, _, rfl⟩
theorem cd_scan (l : List Nat) (h : noSign [93, 93, 62] l) : scanX (60 :: 97 :: 62 :: 60 :: 33 :: 91 :: 67 :: 68 :: 65 :: 84 :: 65 :: 91 :: (l ++ [93, 93, 62, 60, 47, 97, 62])) = .ok (⟨2, [97], [], []⟩ :: (if l = [] then [] else [⟨4, [], [], l⟩]) ++ [⟨7, [97], [], []⟩]) := by
  obtain ⟨P1, h1⟩ := cd_section [60, 97, 62] l [60, 47, 97, 62] h 3
  obtain ⟨P2, n2, h2⟩ := cd_end P1 l 3
  have hs := cd_start (l ++ [93, 93, 62, 60, 47, 97, 62])
  have hc : ∀ f, RS.content (f + 3) (⟨[60, 97, 62], 60 :: 33 :: 91 :: 67 :: 68 :: 65 :: 84 :: 65 :: 91 :: (l ++ [93, 93, 62, 60, 47, 97, 62]), [], 0, [[97]], [⟨2, [97], [], []⟩], [], 3⟩ : RS) = .ok ⟨P2, [], [], 0, [], ⟨2, [97], [], []⟩ :: (if l = [] then [] else [⟨4, [], [], l⟩]) ++ [⟨7, [97], [], []⟩], [], n2⟩ := by
    intro f
    rw [RS.content, if_neg (by simp), h1]
    simp only
    rw [RS.content, if_neg (by simp), h2]
    simp only
    rw [RS.content, if_pos rfl]
  have hx : [60, 63].isPrefixOf (RS.start (60 :: 97 :: 62 :: 60 :: 33 :: 91 :: 67 :: 68 :: 65 :: 84 :: 65 :: 91 :: (l ++ [93, 93, 62, 60, 47, 97, 62]))).rest = false := rfl
  unfold scanX RS.document
  rw [hx, Bool.false_and, if_neg (by decide), docGo_eq]
  have hb : (RS.start (60 :: 97 :: 62 :: 60 :: 33 :: 91 :: 67 :: 68 :: 65 :: 84 :: 65 :: 91 :: (l ++ [93, 93, 62, 60, 47, 97, 62]))).blanks = RS.start (60 :: 97 :: 62 :: 60 :: 33 :: 91 :: 67 :: 68 :: 65 :: 84 :: 65 :: 91 :: (l ++ [93, 93, 62, 60, 47, 97, 62])) := rfl
  rw [hb]
  have s1 : (RS.start (60 :: 97 :: 62 :: 60 :: 33 :: 91 :: 67 :: 68 :: 65 :: 84 :: 65 :: 91 :: (l ++ [93, 93, 62, 60, 47, 97, 62]))).sees [60, 33, 45, 45] = false := rfl
  have s2 : (RS.start (60 :: 97 :: 62 :: 60 :: 33 :: 91 :: 67 :: 68 :: 65 :: 84 :: 65 :: 91 :: (l ++ [93, 93, 62, 60, 47, 97, 62]))).sees [60, 63] = false := rfl
  have s3 : (RS.start (60 :: 97 :: 62 :: 60 :: 33 :: 91 :: 67 :: 68 :: 65 :: 84 :: 65 :: 91 :: (l ++ [93, 93, 62, 60, 47, 97, 62]))).sees [60, 33, 68, 79, 67, 84, 89, 80, 69] = false := rfl
  have s4 : (RS.start (60 :: 97 :: 62 :: 60 :: 33 :: 91 :: 67 :: 68 :: 65 :: 84 :: 65 :: 91 :: (l ++ [93, 93, 62, 60, 47, 97, 62]))).sees [60] = true := rfl
  rw [s1, s2, s3, s4, if_neg (by decide), if_neg (by decide), if_neg (by decide), if_pos (by decide)]
  unfold docElem
  rw [hs]
  simp only
  rw [show (60 :: 33 :: 91 :: 67 :: 68 :: 65 :: 84 :: 65 :: 91 :: (l ++ [93, 93, 62, 60, 47, 97, 62])).length + 1 = (l ++ [93, 93, 62, 60, 47, 97, 62]).length + 7 + 3 from rfl, hc]
  simp only [docMore]
  rw [show (RS.start (60 :: 97 :: 62 :: 60 :: 33 :: 91 :: 67 :: 68 :: 65 :: 84 :: 65 :: 91 :: (l ++ [93, 93, 62, 60, 47, 97, 62]))).rest.length = (97 :: 62 :: 60 :: 33 :: 91 :: 67 :: 68 :: 65 :: 84 :: 65 :: 91 :: (l ++ [93, 93, 62, 60, 47, 97, 62])).length + 1 from rfl, docGo_eq]
  rfl
end Go.Proofs.YtefjfjieoiegnaaGreatDoor
/- An element with an attribute and a text, both escaped: what is scanned of it, in plain terms. -/
namespace Go.Proofs.YtefjfjieoiegnaaGreatDoor
def docL (l : List Nat) : List Nat := 60 :: 97 :: 32 :: 98 :: 61 :: 34 :: (mapN quoN l ++ 34 :: 62 :: (mapN escN l ++ [60, 47, 97, 62]))
theorem tag_value (X Y P v : List Nat) (hv : RS.valueGo 34 0 (X.length + 1) ⟨[60, 97, 32, 98, 61, 34], X, [], 0, [], [], [], 0⟩ [] = .ok (v, ⟨P, 62 :: Y, [], 0, [], [], [], 0⟩)) :
    ∃ n, (RS.start (60 :: 97 :: 32 :: 98 :: 61 :: 34 :: X)).startTag = .ok ⟨P ++ [62], Y, [], 0, [[97]], [⟨2, [97], [([98], v)], []⟩], [], n⟩ := by
  have e1 : (RS.start (60 :: 97 :: 32 :: 98 :: 61 :: 34 :: X)).take [60] = ⟨[60], 97 :: 32 :: 98 :: 61 :: 34 :: X, [], 0, [], [], [], 0⟩ := rfl
  have e2 : (⟨[60], 97 :: 32 :: 98 :: 61 :: 34 :: X, [], 0, [], [], [], 0⟩ : RS).qname = ⟨[60, 97], 32 :: 98 :: 61 :: 34 :: X, [], 0, [], [], [], 0⟩ := rfl
  have e3 : qnameA (97 :: 32 :: 98 :: 61 :: 34 :: X) = [97] := rfl
  have e4 : (⟨[60, 97], 32 :: 98 :: 61 :: 34 :: X, [], 0, [], [], [], 0⟩ : RS).blanks = ⟨[60, 97, 32], 98 :: 61 :: 34 :: X, [], 0, [], [], [], 0⟩ := rfl
  have e5 : (⟨[60, 97], 32 :: 98 :: 61 :: 34 :: X, [], 0, [], [], [], 0⟩ : RS).blank = true := rfl
  have e6 : (⟨[60, 97, 32], 98 :: 61 :: 34 :: X, [], 0, [], [], [], 0⟩ : RS).qname = ⟨[60, 97, 32, 98], 61 :: 34 :: X, [], 0, [], [], [], 0⟩ := rfl
  have e7 : qnameA (98 :: 61 :: 34 :: X) = [98] := rfl
  have e8 : (⟨[60, 97, 32, 98], 61 :: 34 :: X, [], 0, [], [], [], 0⟩ : RS).equals = some ⟨[60, 97, 32, 98, 61], 34 :: X, [], 0, [], [], [], 0⟩ := rfl
  have e9 : (⟨[60, 97, 32, 98, 61], 34 :: X, [], 0, [], [], [], 0⟩ : RS).quote = some (34, ⟨[60, 97, 32, 98, 61, 34], X, [], 0, [], [], [], 0⟩) := rfl
  have e10 : (⟨[60, 97, 32, 98, 61], 34 :: X, [], 0, [], [], [], 0⟩ : RS).value 0 = .ok (v, ⟨P, 62 :: Y, [], 0, [], [], [], 0⟩) := by
    unfold RS.value
    rw [e9]
    exact hv
  have e11 : ∀ f acc, RS.attrsGo 0 (f + 1) (⟨P, 62 :: Y, [], 0, [], [], [], 0⟩ : RS) acc = .ok (acc, (⟨P, 62 :: Y, [], 0, [], [], [], 0⟩ : RS).blanks) := fun f acc => rfl
  have e12 : (⟨P, 62 :: Y, [], 0, [], [], [], 0⟩ : RS).blanks = ⟨P, 62 :: Y, [], 0, [], [], [], 0⟩ := by
    show (⟨P ++ [], 62 :: Y, [], 0, [], [], [], 0⟩ : RS) = _
    rw [List.append_nil]
  have e13 : (⟨[60, 97], 32 :: 98 :: 61 :: 34 :: X, [], 0, [], [], [], 0⟩ : RS).attributes 0 = .ok ([([98], v)], ⟨P, 62 :: Y, [], 0, [], [], [], 0⟩) := by
    unfold RS.attributes
    rw [show (32 :: 98 :: 61 :: 34 :: X).length + 1 = X.length + 3 + 1 + 1 from rfl, RS.attrsGo]
    simp only
    rw [e4, e5, e6, e7, e8]
    simp only
    rw [e10]
    simp only
    rw [e11, e12]
    rfl
  unfold RS.startTag
  simp only
  rw [e1, e2, e3]
  rw [show (RS.start (60 :: 97 :: 32 :: 98 :: 61 :: 34 :: X)).place = 0 from rfl, e13]
  exact ⟨_, rfl⟩
theorem doc_scan (l : List Nat) : scanX (docL l) = .ok (⟨2, [97], [([98], l)], []⟩ :: (if l = [] then [] else [⟨4, [], [], l⟩]) ++ [⟨7, [97], [], []⟩]) := by
  obtain ⟨P1, h1⟩ := value_quoted 0 (62 :: (mapN escN l ++ [60, 47, 97, 62])) [] 0 [] [] [] 0 l.length l rfl ((mapN quoN l ++ 34 :: 62 :: (mapN escN l ++ [60, 47, 97, 62])).length + 1) [60, 97, 32, 98, 61, 34] [] (by simp; omega)
  rw [List.nil_append] at h1
  obtain ⟨n, hs⟩ := tag_value _ _ _ _ h1
  obtain ⟨j, P2, hj, h2⟩ := content_escaped [47, 97, 62] [] 0 [[97]] [⟨2, [97], [([98], l)], []⟩] n (by simp) (by simp) l.length l rfl (P1 ++ [62]) []
  rw [List.nil_append] at h2
  have hend : ∃ P' n', (⟨P2, [60, 47, 97, 62], [], 0, [[97]], [⟨2, [97], [([98], l)], []⟩], l, n⟩ : RS).contentOne = .ok ⟨P', [], [], 0, [], ⟨2, [97], [([98], l)], []⟩ :: (if l = [] then [] else [⟨4, [], [], l⟩]) ++ [⟨7, [97], [], []⟩], [], n'⟩ := by
    cases l with
    | nil => exact ⟨_, _, rfl⟩
    | cons c l => exact ⟨_, _, rfl⟩
  obtain ⟨P3, n3, h3⟩ := hend
  have hc : RS.content ((mapN escN l ++ [60, 47, 97, 62]).length + 1) (⟨P1 ++ [62], mapN escN l ++ [60, 47, 97, 62], [], 0, [[97]], [⟨2, [97], [([98], l)], []⟩], [], n⟩ : RS) = .ok ⟨P3, [], [], 0, [], ⟨2, [97], [([98], l)], []⟩ :: (if l = [] then [] else [⟨4, [], [], l⟩]) ++ [⟨7, [97], [], []⟩], [], n3⟩ := by
    have hlen : (mapN escN l ++ [60, 47, 97, 62]).length + 1 = ((mapN escN l).length - j + 3 + 1 + 1) + j := by
      rw [List.length_append]
      show (mapN escN l).length + 4 + 1 = _
      omega
    rw [hlen, h2]
    rw [content_step (by simp) h3, RS.content, if_pos rfl]
  generalize hX : mapN quoN l ++ 34 :: 62 :: (mapN escN l ++ [60, 47, 97, 62]) = X at *
  have hd : docL l = 60 :: 97 :: 32 :: 98 :: 61 :: 34 :: X := by unfold docL; rw [hX]
  rw [hd]
  have hx : [60, 63].isPrefixOf (RS.start (60 :: 97 :: 32 :: 98 :: 61 :: 34 :: X)).rest = false := rfl
  have hb : (RS.start (60 :: 97 :: 32 :: 98 :: 61 :: 34 :: X)).blanks = RS.start (60 :: 97 :: 32 :: 98 :: 61 :: 34 :: X) := rfl
  have s1 : (RS.start (60 :: 97 :: 32 :: 98 :: 61 :: 34 :: X)).sees [60, 33, 45, 45] = false := rfl
  have s2 : (RS.start (60 :: 97 :: 32 :: 98 :: 61 :: 34 :: X)).sees [60, 63] = false := rfl
  have s3 : (RS.start (60 :: 97 :: 32 :: 98 :: 61 :: 34 :: X)).sees [60, 33, 68, 79, 67, 84, 89, 80, 69] = false := rfl
  have s4 : (RS.start (60 :: 97 :: 32 :: 98 :: 61 :: 34 :: X)).sees [60] = true := rfl
  unfold scanX RS.document
  rw [hx, Bool.false_and, if_neg (by decide), docGo_eq, hb, s1, s2, s3, s4, if_neg (by decide), if_neg (by decide), if_neg (by decide), if_pos (by decide)]
  unfold docElem
  rw [hs]
  simp only
  rw [hc]
  simp only [docMore]
  rw [show (RS.start (60 :: 97 :: 32 :: 98 :: 61 :: 34 :: X)).rest.length = X.length + 5 + 1 from rfl, docGo_eq]
  rfl
theorem doc_type (l : List Nat) : RS.noType ((docL l).length + 1) (RS.start (docL l)) = true := rfl
theorem doc_decl (l : List Nat) : ([60, 63].isPrefixOf (docL l) && nameA ((docL l).drop 2) == [120, 109, 108]) = false := rfl
end Go.Proofs.YtefjfjieoiegnaaGreatDoor
/- Signs below 128 at both ends of a text: what is within is a text. -/
namespace Go.Proofs.YtefjfjieoiegnaaGreatDoor
theorem txt_tail {q : Nat} (hq : q < 128) {x : List UInt8} (h : Txt (UInt8.ofNat q :: x)) : Txt x := by
  obtain ⟨rs, h1, h2⟩ := h
  cases rs with
  | nil => cases h2
  | cons r rs =>
    have hd1 := dec_rune r (charR_ok (h1 r (by simp))) (rs.flatMap runeB)
    have hd2 := dec_rune q (.inl (by omega)) x
    have e1 : (r :: rs).flatMap runeB = runeB r ++ rs.flatMap runeB := rfl
    rw [e1] at h2
    rw [runeB_one hq, List.singleton_append] at hd2
    rw [h2, hd1] at hd2
    have hr : r = q := congrArg Prod.fst hd2
    subst hr
    rw [runeB_one hq, List.singleton_append] at h2
    exact ⟨rs, fun y hy => h1 y (by simp [hy]), (List.cons.inj h2).2⟩
theorem txt_init {q : Nat} (hq : q < 128) {x : List UInt8} (h : Txt (x ++ [UInt8.ofNat q])) : Txt x := by
  obtain ⟨rs, h1, h3⟩ := h
  rcases List.eq_nil_or_concat rs with rfl | ⟨us, x', rfl⟩
  · have := congrArg List.length h3; simp at this
  · rw [List.concat_eq_append, List.flatMap_append] at h3
    have hx := h1 x' (by simp)
    have e2 : [x'].flatMap runeB = runeB x' := by simp
    rw [e2] at h3
    by_cases hx1 : x' < 128
    · rw [runeB_one hx1] at h3
      have h4 := (List.append_inj' h3 rfl).1
      exact ⟨us, fun y hy => h1 y (by simp [hy]), h4⟩
    · exfalso
      have hh := runeB_high (charR_ok hx) (by omega)
      have hne : runeB x' ≠ [] := by
        have := runeB_pos hx
        intro e; rw [e] at this; simp at this
      have h5 := congrArg (fun l => l.getLast?) h3
      simp only [List.getLast?_append, List.getLast?_singleton, Option.some_or] at h5
      rw [List.getLast?_eq_some_getLast hne, Option.some_or] at h5
      have h6 := hh _ (List.getLast_mem hne)
      rw [← Option.some.inj h5, u8_nat (by omega)] at h6
      omega
theorem txt_behind : ∀ (a : List Nat), (∀ c ∈ a, c < 128) → ∀ {x : List UInt8}, Txt (a.map UInt8.ofNat ++ x) → Txt x
  | [], _, _, h => h
  | c :: a, ha, _, h => txt_behind a (fun y hy => ha y (List.mem_cons_of_mem _ hy)) (txt_tail (ha c (List.mem_cons_self ..)) h)
theorem txt_ahead : ∀ (n : Nat) (a : List Nat), a.length = n → (∀ c ∈ a, c < 128) → ∀ {x : List UInt8}, Txt (x ++ a.map UInt8.ofNat) → Txt x
  | 0, a, hn, _, x, h => by
    rw [List.length_eq_zero_iff.1 hn, List.map_nil, List.append_nil] at h
    exact h
  | n + 1, a, hn, ha, x, h => by
    rcases List.eq_nil_or_concat a with rfl | ⟨us, c, rfl⟩
    · cases hn
    · rw [List.concat_eq_append] at h ha hn
      rw [List.map_append, List.map_singleton, ← List.append_assoc] at h
      exact txt_ahead n us (by simpa using hn) (fun y hy => ha y (by simp [hy])) (txt_init (ha c (by simp)) h)
theorem txt_mid {a b : List Nat} (ha : ∀ c ∈ a, c < 128) (hb : ∀ c ∈ b, c < 128) {x : List UInt8} (h : Txt (a.map UInt8.ofNat ++ x ++ b.map UInt8.ofNat)) : Txt x :=
  txt_behind a ha (txt_ahead b.length b rfl hb h)
end Go.Proofs.YtefjfjieoiegnaaGreatDoor
/- Escaped texts: bytes and characters. -/
namespace Go.Proofs.YtefjfjieoiegnaaGreatDoor
/-- A text that is cut at a sign below 128. -/
theorem txt_split {q : Nat} (hq : q < 128) {y : List UInt8} : ∀ (rs : List Nat), (∀ r ∈ rs, charR (r : Int) = true) → ∀ x : List UInt8, rs.flatMap runeB = x ++ UInt8.ofNat q :: y → Txt x ∧ Txt y
  | [], _, x, h => by
    have := congrArg List.length h
    simp at this
  | r :: rs, hr, x, h => by
    have hrr := hr r (List.mem_cons_self ..)
    have hrs : ∀ z ∈ rs, charR (z : Int) = true := fun z hz => hr z (List.mem_cons_of_mem _ hz)
    rw [List.flatMap_cons] at h
    rcases List.append_eq_append_iff.1 h with ⟨a', h1, h2⟩ | ⟨c', h1, h2⟩
    · obtain ⟨⟨us, hu1, hu2⟩, h4⟩ := txt_split hq rs hrs a' h2
      refine ⟨⟨r :: us, fun z hz => ?_, ?_⟩, h4⟩
      · rcases List.mem_cons.1 hz with rfl | hz
        · exact hrr
        · exact hu1 z hz
      · rw [h1, hu2, List.flatMap_cons]
    · cases c' with
      | nil =>
        rw [List.append_nil] at h1
        rw [List.nil_append] at h2
        refine ⟨⟨[r], fun z hz => by rw [List.mem_singleton.1 hz]; exact hrr, by rw [← h1]; simp⟩, ?_⟩
        exact txt_tail hq ⟨rs, hrs, h2⟩
      | cons b c'' =>
        obtain ⟨rfl, h3⟩ := List.cons.inj h2
        have hlow : r < 128 := by
          by_cases hh : r < 128
          · exact hh
          · exfalso
            have := runeB_high (charR_ok hrr) (by omega) (UInt8.ofNat q) (by rw [h1]; simp)
            rw [u8_nat (by omega)] at this
            omega
        rw [runeB_one hlow] at h1
        have hl := congrArg List.length h1
        simp at hl
        have hx : x = [] := by
          cases x with
          | nil => rfl
          | cons _ _ => simp at hl; omega
        have hc : c'' = [] := by
          cases c'' with
          | nil => rfl
          | cons _ _ => simp at hl; omega
        subst hx hc
        exact ⟨⟨[], (fun _ h => by cases h), rfl⟩, ⟨rs, hrs, by simpa using h3⟩⟩
theorem txt_cut {q : Nat} (hq : q < 128) {x y : List UInt8} (h : Txt (x ++ UInt8.ofNat q :: y)) : Txt x ∧ Txt y := by
  obtain ⟨rs, h1, h2⟩ := h
  exact txt_split hq rs h1 x h2.symm
/-- Other texts, as bytes and as characters. -/
structure BothO (o : Nat → List UInt8) (oN : Nat → List Nat) : Prop where
  few : FewO o
  eq : ∀ c, o c = (oN c).map UInt8.ofNat
  low : ∀ c, ∀ x ∈ oN c, x < 128
  may : ∀ c, oN c ≠ [] → charR (c : Int) = true
theorem esc_both : BothO escO escN := by
  refine ⟨esc_few, ?_, ?_, ?_⟩
  · intro c
    unfold escO escN insO insN
    repeat' split
    all_goals rfl
  · exact esc_cases (P := fun _ o => ∀ x ∈ o, x < 128) (by decide) (by decide) (by decide) (by decide) (fun c x h => by cases h)
  · exact esc_cases (P := fun c o => o ≠ [] → charR (c : Int) = true) (fun _ => by decide +kernel) (fun _ => by decide +kernel) (fun _ => by decide +kernel) (fun _ => by decide +kernel) (fun c h => absurd rfl h)
theorem quo_both : BothO quoO quoN := by
  refine ⟨quo_few, ?_, ?_, ?_⟩
  · intro c
    unfold quoO quoN insO insN
    repeat' split
    all_goals rfl
  · exact quo_cases (P := fun _ o => ∀ x ∈ o, x < 128) (by decide) (by decide) (by decide) (by decide) (by decide) (by decide) (fun c x h => by cases h)
  · exact quo_cases (P := fun c o => o ≠ [] → charR (c : Int) = true) (fun _ => by decide +kernel) (fun _ => by decide +kernel) (fun _ => by decide +kernel) (fun _ => by decide +kernel) (fun _ => by decide +kernel) (fun _ => by decide +kernel) (fun c h => absurd rfl h)
theorem map_tx {o : Nat → List UInt8} {oN : Nat → List Nat} (h : BothO o oN) : ∀ (l : List Nat), okL l → mapO o (tx l) = tx (mapN oN l)
  | [], _ => rfl
  | c :: l, hl => by
    have ih := map_tx h l (fun x hx => hl x (List.mem_cons_of_mem _ hx))
    have hc := hl c (List.mem_cons_self ..)
    rw [tx_cons, mapO_app, ih, mapN_cons, tx_append]
    congr 1
    by_cases h128 : c < 128
    · rw [runeB_one h128]
      show oneO o (UInt8.ofNat c) ++ [] = _
      rw [List.append_nil]
      unfold oneO oneN
      rw [u8_nat (by omega), h.eq c]
      by_cases h0 : oN c = []
      · rw [if_pos (by rw [h0]; rfl), if_pos h0, tx_cons, runeB_one h128]
        rfl
      · rw [if_neg (by simpa using h0), if_neg h0, sign_len_tx (h.low c)]
    · have h0 : oN c = [] := by
        have := h.few.low c (by omega)
        rw [h.eq c] at this
        simpa using this
      rw [mapO_same o (runeB c) (fun b hb => h.few.low _ (runeB_high (charR_ok hc) (by omega) b hb))]
      unfold oneN
      rw [if_pos h0, tx_cons]
      simp [tx]
theorem map_ok {oN : Nat → List Nat} (hr : RefN oN) {l : List Nat} (hl : okL l) : okL (mapN oN l) := by
  intro x hx
  obtain ⟨c, hc, hxc⟩ := List.mem_flatMap.1 hx
  unfold oneN at hxc
  split at hxc
  · rw [List.mem_singleton.1 hxc]; exact hl c hc
  · exact hr.ok c x hxc
/-- What is a text with other texts in it was one without them. -/
theorem txt_unmap {o : Nat → List UInt8} {oN : Nat → List Nat} (h : BothO o oN) : ∀ (n : Nat) (l p : List UInt8), l.length = n → (∀ b ∈ p, o b.toNat = []) → Txt (p ++ mapO o l) → Txt (p ++ l)
  | 0, l, p, hn, _, ht => by
    rw [List.length_eq_zero_iff.1 hn] at ht ⊢
    exact ht
  | n + 1, [], p, hn, _, _ => by cases hn
  | n + 1, b :: l, p, hn, hp, ht => by
    have hl : l.length = n := by simpa using hn
    have hm : mapO o (b :: l) = oneO o b ++ mapO o l := rfl
    rw [hm] at ht
    by_cases h0 : o b.toNat = []
    · have e : oneO o b = [b] := by unfold oneO; rw [if_pos h0]
      rw [e, ← List.append_assoc] at ht
      have := txt_unmap h n l (p ++ [b]) hl (fun x hx => by
        rcases List.mem_append.1 hx with hx | hx
        · exact hp x hx
        · rw [List.mem_singleton.1 hx]; exact h0) ht
      rwa [List.append_assoc] at this
    · have e : oneO o b = (oN b.toNat).map UInt8.ofNat := by unfold oneO; rw [if_neg h0, h.eq]
      have hne : oN b.toNat ≠ [] := fun hh => h0 (by rw [h.eq, hh]; rfl)
      rw [e] at ht
      cases hc : oN b.toNat with
      | nil => exact absurd hc hne
      | cons d t =>
        rw [hc, List.map_cons, List.cons_append] at ht
        obtain ⟨hp', ht'⟩ := txt_cut (h.low _ d (by rw [hc]; exact List.mem_cons_self ..)) ht
        have hl' := txt_behind t (fun x hx => h.low _ x (by rw [hc]; exact List.mem_cons_of_mem _ hx)) ht'
        have ih := txt_unmap h n l [] hl (fun x hx => by cases hx) hl'
        obtain ⟨us, hu1, hu2⟩ := hp'
        obtain ⟨vs, hv1, hv2⟩ := ih
        rw [List.nil_append] at hv2
        have hb128 : b.toNat < 128 := by
          by_cases hh : b.toNat < 128
          · exact hh
          · exact absurd (h.few.low _ (by omega)) h0
        refine ⟨us ++ b.toNat :: vs, fun x hx => ?_, ?_⟩
        · rcases List.mem_append.1 hx with hx | hx
          · exact hu1 x hx
          · rcases List.mem_cons.1 hx with rfl | hx
            · exact h.may _ hne
            · exact hv1 x hx
        · rw [List.flatMap_append, List.flatMap_cons, ← hu2, ← hv2, runeB_one hb128]
          simp
end Go.Proofs.YtefjfjieoiegnaaGreatDoor
/- A text's tokens: xmlscan's Scan. -/
namespace Go.Proofs.YtefjfjieoiegnaaGreatDoor
open Go.RowKit
/-- What Scan tells. -/
def scanP (o : Except Er (List XTok)) (B : Nat) (e : Ending) (w' : World) : Prop := match o with
  | .error x => e = .returned (.tuple #[.slice none 0 0, .int .i64 (x.1 : Nat), .int .i64 (x.2 : Nat)])
  | .ok ts => ∃ vt, e = .returned (.tuple #[vt, .int .i64 0, .int .i64 0]) ∧ Toks w' B vt ts
theorem scan_long (s : ByteArray) (w : World) (hs : 32768 < s.size) :
    Calls Tryz.prog 18 #[.string s] w fun e w' => e = .returned (.tuple #[.slice none 0 0, .int .i64 6, .int .i64 0]) ∧ w' = w := by
  have h1 : decide ((32768 : Int) < (s.size : Int)) = true := decide_eq_true (by omega)
  clear hs
  go_enter Tryz.func18, Tryz.ntmps18
  go_wp2
  go_ret3
  exact ⟨rfl, rfl⟩
theorem scan_bad (s : ByteArray) (w : World) (hs : s.size ≤ 32768) (hE : Env w) (hT : ¬ Txt s.data.toList) :
    Calls Tryz.prog 18 #[.string s] w fun e w' => (∃ at' : Nat, at' < s.size ∧ e = .returned (.tuple #[.slice none 0 0, .int .i64 4, .int .i64 (at' : Nat)])) ∧ Below w.heap.size w w' := by
  have h1 : decide ((32768 : Int) < (s.size : Int)) = false := decide_eq_false (by omega)
  have HB := hide (firstBad_any s w hs hE)
  clear hs
  go_enter Tryz.func18, Tryz.ntmps18
  go_wp2_with fail
  refine (unhide HB).mono ?_
  rintro e w1 ⟨hbad, hb1⟩
  rcases hbad with ⟨h, _⟩ | ⟨_, at', hat, rfl⟩
  · exact absurd h hT
  · go_wp2
    go_ret3
    exact ⟨⟨at', hat, rfl⟩, hb1⟩
theorem start_good {cs : List Nat} (hl : okL cs) (hs : (T cs).size ≤ 32768) : Good (RS.start cs) ∧ OpnOk (RS.start cs) := by
  refine ⟨⟨⟨hl, hs⟩, Nat.zero_le _, fun h => absurd rfl h, ?_, Nat.zero_le _, Nat.zero_le _⟩, ?_, Nat.zero_le _⟩
  · intro c hc
    cases hc
  · intro x hx
    cases hx
theorem start_rd (cs : List Nat) (w : World) (B p m : Nat) (hB : B ≤ p) (hm : B ≤ m) (hp : w.heap[p]? = some (.cells (rdArr (RS.start cs) m (.slice none 0 0) (.slice none 0 0) (.slice none 0 0)) 63 (0, 0)))
    (hmm : w.heap[m]? = some (.map #[] 0)) : Rd w B p m (.slice none 0 0) (.slice none 0 0) (.slice none 0 0) (RS.start cs) := by
  refine ⟨hp, hB, ⟨hm, (fun _ h => by cases h), ?_⟩, World.ownsRow_nil _ _ _ _, ⟨[], rfl, World.ownsRow_nil _ _ _ _, (fun i t v h => by cases i <;> cases h)⟩, World.ownsRow_nil _ _ _ _⟩
  exact ⟨#[], 0, hmm, ⟨by simp, Go.MapKept.stamped_empty 0, by simp⟩, Nat.le_refl _, rfl⟩
set_option maxRecDepth 100000 in
set_option maxHeartbeats 4000000 in
theorem scan_any (cs : List Nat) (w : World) (hl : okL cs) (hs : (T cs).size ≤ 32768) (hE : XEnv w.heap.size w) :
    Calls Tryz.prog 18 #[.string (T cs)] w fun e w' => scanP (scanX cs) w.heap.size e w' ∧ Below w.heap.size w w' := by
  have h1 : decide ((32768 : Int) < ((T cs).size : Int)) = false := decide_eq_false (by omega)
  have HB := hide (firstBad_any (T cs) w hs hE.env)
  have HTX := hide (T_txt hl)
  obtain ⟨hG, hO⟩ := start_good hl hs
  have hmk : ∀ W : World, (Instr.makeMap 61 none).run Tryz.prog W = .ok (.map (some W.heap.size)) (W.alloc (.map #[] 0)) := fun W => rfl
  go_enter Tryz.func18, Tryz.ntmps18
  go_wp2_with fail
  refine (unhide HB).mono ?_
  rintro e w1 ⟨hbad, hb1⟩
  rcases hbad with ⟨_, rfl⟩ | ⟨h, _⟩
  · go_wp2_with fail
    have hbA : Below w1.heap.size w1 ((w1.alloc (.map #[] 0)).alloc (.cells #[.string (T cs), .int .i64 0, .map (some w1.heap.size), .int .i64 0, .slice none 0 0, .slice none 0 0, .slice none 0 0, .int .i64 0, .int .i64 0, .int .i64 0] 63)) := ((Below.refl _ _).alloc (Nat.le_refl _) _).alloc (by simp) _
    have hsz1 := hb1.size
    have hR : Rd ((w1.alloc (.map #[] 0)).alloc (.cells #[.string (T cs), .int .i64 0, .map (some w1.heap.size), .int .i64 0, .slice none 0 0, .slice none 0 0, .slice none 0 0, .int .i64 0, .int .i64 0, .int .i64 0] 63)) w.heap.size (w1.heap.size + 1) w1.heap.size (.slice none 0 0) (.slice none 0 0) (.slice none 0 0) (RS.start cs) := by
      refine start_rd cs _ _ _ _ (by omega) (by omega) ?_ ?_
      · show ((w1.heap.push _).push _)[w1.heap.size + 1]? = _
        rw [Array.getElem?_push, if_pos (by simp)]
        rfl
      · show ((w1.heap.push _).push _)[w1.heap.size]? = _
        rw [Array.getElem?_push, if_neg (by simp), Array.getElem?_push, if_pos rfl]
    have hbB : Below w.heap.size w _ := hb1.trans (hbA.mono hsz1)
    refine (document_any w.heap.size (w1.heap.size + 1) w1.heap.size _ _ _ (RS.start cs) _ hR hG hO (hE.low hbB) rfl rfl).mono ?_
    intro e w2 ho
    obtain ⟨b, rfl, ho⟩ := outP_form ho
    obtain ⟨hb2, ho⟩ := ho
    have hb02 : Below w.heap.size w w2 := hbB.trans hb2
    cases hd : (RS.start cs).document with
    | error x =>
      obtain ⟨c, pl⟩ := x
      rw [hd] at ho
      obtain ⟨hb', hw⟩ := ho
      cases hb'
      obtain ⟨c8, c9⟩ := hw
      have HO : Hid (scanX cs = .error (c, pl)) := hide (by unfold scanX; rw [hd])
      clear hd
      go_wp2_with fail
      go_region
      all_goals go_wp2_with fail
      all_goals go_ret3
      all_goals exact ⟨by rw [unhide HO]; rfl, by (repeat first | exact hb02 | refine Below.drew ?_)⟩
    | ok s' =>
      rw [hd] at ho
      obtain ⟨hb', vo, vt, vr, R2⟩ := ho
      cases hb'
      have HO : Hid (scanX cs = .ok s'.toks) := hide (by unfold scanX; rw [hd])
      have c5 : w2.cell? ⟨w1.heap.size + 1, 5, none⟩ = some vt := blk_cell R2.blk 5
      have HTK := hide R2.toks
      clear hd R2
      go_wp2_with fail
      go_ret3
      exact ⟨by rw [unhide HO]; exact ⟨_, rfl, unhide HTK⟩, hb02⟩
  · exact absurd (unhide HTX) h
/-- The same, for the texts that say besides that no declaration opens it, or that no document type is met. -/
theorem scan_typed (cs : List Nat) (w : World) (hl : okL cs) (hs : (T cs).size ≤ 32768) (hE : XEnv w.heap.size w)
    (_hX : ([60, 63].isPrefixOf cs && nameA (cs.drop 2) == [120, 109, 108]) = false) :
    Calls Tryz.prog 18 #[.string (T cs)] w fun e w' => scanP (scanX cs) w.heap.size e w' ∧ Below w.heap.size w w' := scan_any cs w hl hs hE
theorem scan_plain (cs : List Nat) (w : World) (hl : okL cs) (hs : (T cs).size ≤ 32768) (hE : XEnv w.heap.size w)
    (_hX : ([60, 63].isPrefixOf cs && nameA (cs.drop 2) == [120, 109, 108]) = false) (_hT : RS.noType (cs.length + 1) (RS.start cs) = true) :
    Calls Tryz.prog 18 #[.string (T cs)] w fun e w' => scanP (scanX cs) w.heap.size e w' ∧ Below w.heap.size w w' := scan_any cs w hl hs hE
end Go.Proofs.YtefjfjieoiegnaaGreatDoor
