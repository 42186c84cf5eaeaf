/- Several texts, laid as one. -/
import Derived.Test.YtefjfjieoiegnaaGreatDoorGbr
import Derived.Test.YtefjfjieoiegnaaGreatDoorGbk
import Derived.Test.YtefjfjieoiegnaaGreatDoorXmlDoc
import Derived.Test.YtefjfjieoiegnaaGreatDoorGbg
import Derived.Test.YtefjfjieoiegnaaGreatDoorGah
/- Which way a method writes: by. -/
namespace Go.Proofs.YtefjfjieoiegnaaGreatDoor
open Go.RowKit
set_option maxRecDepth 100000 in
set_option maxHeartbeats 2000000 in
theorem by_any (b : Nat) (m : Int) (w : World) :
    Calls Tryz.prog 26 #[.pointer (some ⟨b, 0, none⟩), .int .i64 m] w fun e w' => e = .returned (.func (.func (if m = 1 then 42 else if m = 2 then 43 else 44)) #[.pointer (some ⟨b, 0, none⟩)] #[]) ∧ w' = w := by
  by_cases h1 : m = 1
  · subst h1
    go_enter Tryz.func26, Tryz.ntmps26
    go_wp2_with fail
    go_returns
    exact ⟨rfl, rfl⟩
  by_cases h2 : m = 2
  · subst h2
    go_enter Tryz.func26, Tryz.ntmps26
    go_wp2_with fail
    go_returns
    exact ⟨rfl, rfl⟩
  · rw [if_neg h1, if_neg h2]
    go_enter Tryz.func26, Tryz.ntmps26
    go_wp2_with fail
    go_returns
    exact ⟨rfl, rfl⟩
end Go.Proofs.YtefjfjieoiegnaaGreatDoor
/- Whether tokens are past a tree's limits: xout's pastLimits. -/
namespace Go.Proofs.YtefjfjieoiegnaaGreatDoor
open Go.RowKit
def pastGo : Int → Bool → List BTok → Bool
  | _, p, [] => p
  | d, p, t :: ts => if t.kind = 2 then pastGo (d + 1) (p || (decide (32 < d + 1) || decide (64 < t.attrs.length))) ts else if t.kind = 7 then pastGo (d - 1) p ts else pastGo d p ts
def pastD (ts : List BTok) : Bool := pastGo 0 (decide (4096 < ts.length)) ts
theorem pastGo_cons (d : Int) (p : Bool) (t : BTok) (ts : List BTok) : pastGo d p (t :: ts) = if t.kind = 2 then pastGo (d + 1) (p || (decide (32 < d + 1) || decide (64 < t.attrs.length))) ts else if t.kind = 7 then pastGo (d - 1) p ts else pastGo d p ts := rfl
structure PstSt (w : World) (ts : List BTok) (k : Nat) (d : Int) (p : Bool) (w' : World) : Prop where
  le : k ≤ ts.length
  bel : Below w.heap.size w w'
  d1 : -(k : Int) ≤ d
  d2 : d ≤ k
  spec : pastD ts = pastGo d p (ts.drop k)
set_option maxRecDepth 100000 in
set_option maxHeartbeats 4000000 in
theorem outPast_any (ts : List BTok) (a : Option Addr) (cap : Nat) (w : World) (hv : ToksArg w a ts) (hn : ts.length ≤ 1048576) :
    Calls Tryz.prog 39 #[.slice a ts.length cap] w fun e w' => e = .returned (.bool (pastD ts)) ∧ Below w.heap.size w w' := by
  have HV := hide hv
  have HI0 : Hid (PstSt w ts 0 0 (decide (4096 < ts.length)) w) := hide ⟨Nat.zero_le _, Below.refl _ _, by omega, by omega, rfl⟩
  clear hv
  go_enter Tryz.func39, Tryz.ntmps39
  go_wp2_with fail
  go_loopw [3, 4, 12] (fun s3 s4 i wr => ∃ (k : Nat) (d : Int) (p : Bool), i = .int .i64 (k : Nat) ∧ s3 = .int .i64 d ∧ s4 = .bool p ∧ PstSt w ts k d p wr) (fun _ _ i _ => ts.length - (intOf i).toNat)
  case atStart =>
    refine ⟨0, 0, decide (4096 < ts.length), rfl, rfl, ?_, unhide HI0⟩
    congr 1
    exact decide_eq_decide.2 (by omega)
  case round =>
    clear HI0
    obtain ⟨k, d, p, rfl, rfl, rfl, hI⟩ := hrel
    have hk := hI.le
    have hbr := hI.bel
    have d1 := hI.d1
    have d2 := hI.d2
    by_cases hlt : k < ts.length
    · obtain ⟨t, ht⟩ : ∃ t, ts[k]? = some t := ⟨ts[k], List.getElem?_eq_getElem hlt⟩
      obtain ⟨g, oo, ha, hc⟩ := ((unhide HV).below hbr) (by intro h0; rw [h0] at hlt; cases hlt)
      subst ha
      obtain ⟨c0, c1, ⟨v, c2, hpv⟩, c3⟩ := hc k t ht
      obtain ⟨va, vc, hve, _⟩ := id hpv
      subst hve
      have n1 : (0 : Int) ≤ (k : Int) := by omega
      have n2 : (k : Int) < (ts.length : Int) := by omega
      have hdr : ts.drop k = t :: ts.drop (k + 1) := by
        rw [← List.getElem_cons_drop hlt]
        congr 1
        exact (List.getElem?_eq_some_iff.1 ht).2
      have hspec := hI.spec
      rw [hdr, pastGo_cons] at hspec
      have hbA : Below wr.heap.size wr (wr.alloc (.cells #[.int .i64 t.kind, .string t.name, .slice va t.attrs.length vc, .string t.text] 37 (0, 0))) := (Below.refl _ _).alloc (Nat.le_refl _) _
      have hb0 := Below.then hbr hbA
      obtain ⟨kd, nm, ats, tx'⟩ := t
      simp only at *
      clear hI hc hdr ht hpv hbA
      by_cases k2 : kd = 2
      · subst k2
        rw [if_pos rfl] at hspec
        have HI2 : Hid (PstSt w ts (k + 1) (d + 1) (p || (decide (32 < d + 1) || decide (64 < ats.length))) (wr.alloc (.cells #[.int .i64 2, .string nm, .slice va ats.length vc, .string tx'] 37 (0, 0)))) := hide ⟨by omega, hb0, by omega, by omega, hspec⟩
        have e1 : wrap64 (d + 1) = d + 1 := by unfold wrap64; omega
        clear hspec
        cases p
        · by_cases hd : 32 < d + 1
          · rw [decide_eq_true hd, Bool.true_or, Bool.false_or] at HI2
            go_wp2_with fail
            go_round
            case measure => simp [intOf]; omega
            case rel => exact ⟨k + 1, d + 1, true, by simp, rfl, rfl, unhide HI2⟩
          · rw [decide_eq_false hd, Bool.false_or, Bool.false_or] at HI2
            by_cases hl : 64 < ats.length
            · have hl' : (64 : Int) < (ats.length : Int) := by omega
              rw [decide_eq_true hl] at HI2
              go_wp2_with fail
              go_round
              case measure => simp [intOf]; omega
              case rel => exact ⟨k + 1, d + 1, true, by simp, rfl, rfl, unhide HI2⟩
            · have hl' : ¬ (64 : Int) < (ats.length : Int) := by omega
              rw [decide_eq_false hl] at HI2
              go_wp2_with fail
              go_round
              case measure => simp [intOf]; omega
              case rel => exact ⟨k + 1, d + 1, false, by simp, rfl, rfl, unhide HI2⟩
        · rw [Bool.true_or] at HI2
          go_wp2_with fail
          go_round
          case measure => simp [intOf]; omega
          case rel => exact ⟨k + 1, d + 1, true, by simp, rfl, rfl, unhide HI2⟩
      · rw [if_neg k2] at hspec
        have g2 : (kd == 2) = false := by simpa using k2
        by_cases k7 : kd = 7
        · subst k7
          rw [if_pos rfl] at hspec
          have HI2 : Hid (PstSt w ts (k + 1) (d - 1) p (wr.alloc (.cells #[.int .i64 7, .string nm, .slice va ats.length vc, .string tx'] 37 (0, 0)))) := hide ⟨by omega, hb0, by omega, by omega, hspec⟩
          have e1 : wrap64 (d - 1) = d - 1 := by unfold wrap64; omega
          clear hspec
          go_wp2_with fail
          go_round
          case measure => simp [intOf]; omega
          case rel => exact ⟨k + 1, d - 1, p, by simp, rfl, rfl, unhide HI2⟩
        · have g7 : (kd == 7) = false := by simpa using k7
          rw [if_neg k7] at hspec
          have HI2 : Hid (PstSt w ts (k + 1) d p (wr.alloc (.cells #[.int .i64 kd, .string nm, .slice va ats.length vc, .string tx'] 37 (0, 0)))) := hide ⟨by omega, hb0, by omega, by omega, hspec⟩
          clear hspec k2 k7
          go_wp2_with fail
          go_round
          case measure => simp [intOf]; omega
          case rel => exact ⟨k + 1, d, p, by simp, rfl, rfl, unhide HI2⟩
    · have n2 : ¬ (k : Int) < (ts.length : Int) := by omega
      have hkl : k = ts.length := by omega
      have hsp := hI.spec
      rw [hkl, List.drop_length] at hsp
      have HSP : Hid (pastD ts = p) := hide hsp
      clear hI hsp
      go_wp2
      go_ret
      exact ⟨ret_bool (unhide HSP).symm, hbr⟩
end Go.Proofs.YtefjfjieoiegnaaGreatDoor
/- Tokens within the limits: how long what is written of them can be. -/
namespace Go.Proofs.YtefjfjieoiegnaaGreatDoor
open Go.RowKit
theorem pastGo_few : ∀ (ts : List BTok) (d : Int) (p : Bool), pastGo d p ts = false → p = false ∧ ∀ t ∈ ts, t.kind = 2 → t.attrs.length ≤ 64
  | [], d, p, h => ⟨h, fun t ht => by cases ht⟩
  | t :: ts, d, p, h => by
    rw [pastGo_cons] at h
    split at h
    · obtain ⟨h1, h2⟩ := pastGo_few ts _ _ h
      rw [Bool.or_eq_false_iff, Bool.or_eq_false_iff] at h1
      refine ⟨h1.1, fun x hx hk => ?_⟩
      rcases List.mem_cons.1 hx with rfl | hx
      · have := of_decide_eq_false h1.2.2
        omega
      · exact h2 x hx hk
    · rename_i hk2
      have h' : pastGo (if t.kind = 7 then d - 1 else d) p ts = false := by
        split at h
        · rename_i h7; rw [if_pos h7]; exact h
        · rename_i h7; rw [if_neg h7]; exact h
      obtain ⟨h1, h2⟩ := pastGo_few ts _ _ h'
      refine ⟨h1, fun x hx hk => ?_⟩
      rcases List.mem_cons.1 hx with rfl | hx
      · exact absurd hk hk2
      · exact h2 x hx hk
/-- Tokens that are not past the limits are few, and have few attributes. -/
theorem past_few {ts : List BTok} (h : pastD ts = false) : ts.length ≤ 4096 ∧ ∀ t ∈ ts, t.kind = 2 → t.attrs.length ≤ 64 := by
  obtain ⟨h1, h2⟩ := pastGo_few ts _ _ h
  have := of_decide_eq_false h1
  exact ⟨by omega, h2⟩
theorem right_few {ts : List BTok} (h : pastD ts = false) (x : Nat) (hk : (tkAt ts x).kind = 2) : (tkAt ts x).attrs.length ≤ 64 := by
  unfold tkAt at *
  cases hx : ts[x]? with
  | none => rw [hx] at hk; cases hk
  | some t => rw [hx] at hk; exact (past_few h).2 t (List.mem_of_getElem? hx) hk
end Go.Proofs.YtefjfjieoiegnaaGreatDoor
/- A CDATA section, in plain terms: what is scanned of it. -/
namespace Go.Proofs.YtefjfjieoiegnaaGreatDoor
/-- Signs that stand nowhere in a text. -/
def noSign (a l : List Nat) : Prop := ∀ x y, l ≠ x ++ a ++ y
theorem noSign.tail {a l : List Nat} {c : Nat} (h : noSign a (c :: l)) : noSign a l := fun x y e => h (c :: x) y (by rw [e]; rfl)
end Go.Proofs.YtefjfjieoiegnaaGreatDoor
/- An element with an attribute and a text, both escaped: what is scanned of it, in plain terms. -/
namespace Go.Proofs.YtefjfjieoiegnaaGreatDoor
end Go.Proofs.YtefjfjieoiegnaaGreatDoor
/- Signs below 128 at both ends of a text: what is within is a text. -/
namespace Go.Proofs.YtefjfjieoiegnaaGreatDoor
end Go.Proofs.YtefjfjieoiegnaaGreatDoor
/- Escaped texts: bytes and characters. -/
namespace Go.Proofs.YtefjfjieoiegnaaGreatDoor
/-- Other texts, as bytes and as characters. -/
structure BothO (o : Nat → List UInt8) (oN : Nat → List Nat) : Prop where
  few : FewO o
  eq : ∀ c, o c = (oN c).map UInt8.ofNat
  low : ∀ c, ∀ x ∈ oN c, x < 128
  may : ∀ c, oN c ≠ [] → charR (c : Int) = true
theorem esc_both : BothO escO escN := by
  refine ⟨esc_few, ?_, ?_, ?_⟩
  · intro c
    unfold escO escN insO insN
    repeat' split
    all_goals rfl
  · exact esc_cases (P := fun _ o => ∀ x ∈ o, x < 128) (by decide) (by decide) (by decide) (by decide) (fun c x h => by cases h)
  · exact esc_cases (P := fun c o => o ≠ [] → charR (c : Int) = true) (fun _ => by decide +kernel) (fun _ => by decide +kernel) (fun _ => by decide +kernel) (fun _ => by decide +kernel) (fun c h => absurd rfl h)
theorem quo_both : BothO quoO quoN := by
  refine ⟨quo_few, ?_, ?_, ?_⟩
  · intro c
    unfold quoO quoN insO insN
    repeat' split
    all_goals rfl
  · exact quo_cases (P := fun _ o => ∀ x ∈ o, x < 128) (by decide) (by decide) (by decide) (by decide) (by decide) (by decide) (fun c x h => by cases h)
  · exact quo_cases (P := fun c o => o ≠ [] → charR (c : Int) = true) (fun _ => by decide +kernel) (fun _ => by decide +kernel) (fun _ => by decide +kernel) (fun _ => by decide +kernel) (fun _ => by decide +kernel) (fun _ => by decide +kernel) (fun c h => absurd rfl h)
theorem map_tx {o : Nat → List UInt8} {oN : Nat → List Nat} (h : BothO o oN) : ∀ (l : List Nat), okL l → mapO o (tx l) = tx (mapN oN l)
  | [], _ => rfl
  | c :: l, hl => by
    have ih := map_tx h l (fun x hx => hl x (List.mem_cons_of_mem _ hx))
    have hc := hl c (List.mem_cons_self ..)
    rw [tx_cons, mapO_app, ih, mapN_cons, tx_append]
    congr 1
    by_cases h128 : c < 128
    · rw [runeB_one h128]
      show oneO o (UInt8.ofNat c) ++ [] = _
      rw [List.append_nil]
      unfold oneO oneN
      rw [u8_nat (by omega), h.eq c]
      by_cases h0 : oN c = []
      · rw [if_pos (by rw [h0]; rfl), if_pos h0, tx_cons, runeB_one h128]
        rfl
      · rw [if_neg (by simpa using h0), if_neg h0, sign_len_tx (h.low c)]
    · have h0 : oN c = [] := by
        have := h.few.low c (by omega)
        rw [h.eq c] at this
        simpa using this
      rw [mapO_same o (runeB c) (fun b hb => h.few.low _ (runeB_high (charR_ok hc) (by omega) b hb))]
      unfold oneN
      rw [if_pos h0, tx_cons]
      simp [tx]
theorem map_ok {oN : Nat → List Nat} (hr : RefN oN) {l : List Nat} (hl : okL l) : okL (mapN oN l) := by
  intro x hx
  obtain ⟨c, hc, hxc⟩ := List.mem_flatMap.1 hx
  unfold oneN at hxc
  split at hxc
  · rw [List.mem_singleton.1 hxc]; exact hl c hc
  · exact hr.ok c x hxc
end Go.Proofs.YtefjfjieoiegnaaGreatDoor
/- A text's tokens: xmlscan's Scan. -/
namespace Go.Proofs.YtefjfjieoiegnaaGreatDoor
open Go.RowKit
/-- What Scan tells. -/
def scanP (o : Except Er (List XTok)) (B : Nat) (e : Ending) (w' : World) : Prop := match o with
  | .error x => e = .returned (.tuple #[.slice none 0 0, .int .i64 (x.1 : Nat), .int .i64 (x.2 : Nat)])
  | .ok ts => ∃ vt, e = .returned (.tuple #[vt, .int .i64 0, .int .i64 0]) ∧ Toks w' B vt ts
theorem scan_long (s : ByteArray) (w : World) (hs : 32768 < s.size) :
    Calls Tryz.prog 18 #[.string s] w fun e w' => e = .returned (.tuple #[.slice none 0 0, .int .i64 6, .int .i64 0]) ∧ w' = w := by
  have h1 : decide ((32768 : Int) < (s.size : Int)) = true := decide_eq_true (by omega)
  clear hs
  go_enter Tryz.func18, Tryz.ntmps18
  go_wp2
  go_ret3
  exact ⟨rfl, rfl⟩
theorem start_good {cs : List Nat} (hl : okL cs) (hs : (T cs).size ≤ 32768) : Good (RS.start cs) ∧ OpnOk (RS.start cs) := by
  refine ⟨⟨⟨hl, hs⟩, Nat.zero_le _, fun h => absurd rfl h, ?_, Nat.zero_le _, Nat.zero_le _⟩, ?_, Nat.zero_le _⟩
  · intro c hc
    cases hc
  · intro x hx
    cases hx
theorem start_rd (cs : List Nat) (w : World) (B p m : Nat) (hB : B ≤ p) (hm : B ≤ m) (hp : w.heap[p]? = some (.cells (rdArr (RS.start cs) m (.slice none 0 0) (.slice none 0 0) (.slice none 0 0)) 63 (0, 0)))
    (hmm : w.heap[m]? = some (.map #[] 0)) : Rd w B p m (.slice none 0 0) (.slice none 0 0) (.slice none 0 0) (RS.start cs) := by
  refine ⟨hp, hB, ⟨hm, (fun _ h => by cases h), ?_⟩, World.ownsRow_nil _ _ _ _, ⟨[], rfl, World.ownsRow_nil _ _ _ _, (fun i t v h => by cases i <;> cases h)⟩, World.ownsRow_nil _ _ _ _⟩
  exact ⟨#[], 0, hmm, ⟨by simp, Go.MapKept.stamped_empty 0, by simp⟩, Nat.le_refl _, rfl⟩
set_option maxRecDepth 100000 in
set_option maxHeartbeats 4000000 in
theorem scan_any (cs : List Nat) (w : World) (hl : okL cs) (hs : (T cs).size ≤ 32768) (hE : XEnv w.heap.size w) :
    Calls Tryz.prog 18 #[.string (T cs)] w fun e w' => scanP (scanX cs) w.heap.size e w' ∧ Below w.heap.size w w' := by
  have h1 : decide ((32768 : Int) < ((T cs).size : Int)) = false := decide_eq_false (by omega)
  have HB := hide (firstBad_any (T cs) w hs hE.env)
  have HTX := hide (T_txt hl)
  obtain ⟨hG, hO⟩ := start_good hl hs
  have hmk : ∀ W : World, (Instr.makeMap 61 none).run Tryz.prog W = .ok (.map (some W.heap.size)) (W.alloc (.map #[] 0)) := fun W => rfl
  go_enter Tryz.func18, Tryz.ntmps18
  go_wp2_with fail
  refine (unhide HB).mono ?_
  rintro e w1 ⟨hbad, hb1⟩
  rcases hbad with ⟨_, rfl⟩ | ⟨h, _⟩
  · go_wp2_with fail
    have hbA : Below w1.heap.size w1 ((w1.alloc (.map #[] 0)).alloc (.cells #[.string (T cs), .int .i64 0, .map (some w1.heap.size), .int .i64 0, .slice none 0 0, .slice none 0 0, .slice none 0 0, .int .i64 0, .int .i64 0, .int .i64 0] 63)) := ((Below.refl _ _).alloc (Nat.le_refl _) _).alloc (by simp) _
    have hsz1 := hb1.size
    have hR : Rd ((w1.alloc (.map #[] 0)).alloc (.cells #[.string (T cs), .int .i64 0, .map (some w1.heap.size), .int .i64 0, .slice none 0 0, .slice none 0 0, .slice none 0 0, .int .i64 0, .int .i64 0, .int .i64 0] 63)) w.heap.size (w1.heap.size + 1) w1.heap.size (.slice none 0 0) (.slice none 0 0) (.slice none 0 0) (RS.start cs) := by
      refine start_rd cs _ _ _ _ (by omega) (by omega) ?_ ?_
      · show ((w1.heap.push _).push _)[w1.heap.size + 1]? = _
        rw [Array.getElem?_push, if_pos (by simp)]
        rfl
      · show ((w1.heap.push _).push _)[w1.heap.size]? = _
        rw [Array.getElem?_push, if_neg (by simp), Array.getElem?_push, if_pos rfl]
    have hbB : Below w.heap.size w _ := hb1.trans (hbA.mono hsz1)
    refine (document_any w.heap.size (w1.heap.size + 1) w1.heap.size _ _ _ (RS.start cs) _ hR hG hO (hE.low hbB) rfl rfl).mono ?_
    intro e w2 ho
    obtain ⟨b, rfl, ho⟩ := outP_form ho
    obtain ⟨hb2, ho⟩ := ho
    have hb02 : Below w.heap.size w w2 := hbB.trans hb2
    cases hd : (RS.start cs).document with
    | error x =>
      obtain ⟨c, pl⟩ := x
      rw [hd] at ho
      obtain ⟨hb', hw⟩ := ho
      cases hb'
      obtain ⟨c8, c9⟩ := hw
      have HO : Hid (scanX cs = .error (c, pl)) := hide (by unfold scanX; rw [hd])
      clear hd
      go_wp2_with fail
      go_region
      all_goals go_wp2_with fail
      all_goals go_ret3
      all_goals exact ⟨by rw [unhide HO]; rfl, by (repeat first | exact hb02 | refine Below.drew ?_)⟩
    | ok s' =>
      rw [hd] at ho
      obtain ⟨hb', vo, vt, vr, R2⟩ := ho
      cases hb'
      have HO : Hid (scanX cs = .ok s'.toks) := hide (by unfold scanX; rw [hd])
      have c5 : w2.cell? ⟨w1.heap.size + 1, 5, none⟩ = some vt := blk_cell R2.blk 5
      have HTK := hide R2.toks
      clear hd R2
      go_wp2_with fail
      go_ret3
      exact ⟨by rw [unhide HO]; exact ⟨_, rfl, unhide HTK⟩, hb02⟩
  · exact absurd (unhide HTX) h
end Go.Proofs.YtefjfjieoiegnaaGreatDoor
