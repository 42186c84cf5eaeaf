/- A text's tokens, where no declaration opens it: xmlscan's Scan. -/
import Derived.Test.YtkklapoceknbcaaGreatDoorXmlDoc
import Derived.Test.YtkklapoceknbcaaGreatDoorXmlBad
namespace Go.Proofs.YtkklapoceknbcaaGreatDoor
open Go.RowKit
/-- What Scan tells. -/
def scanP (o : Except Er (List XTok)) (B : Nat) (e : Ending) (w' : World) : Prop := match o with
  | .error x => e = .returned (.tuple #[.slice none 0 0, .int .i64 (x.1 : Nat), .int .i64 (x.2 : Nat)])
  | .ok ts => ∃ vt, e = .returned (.tuple #[vt, .int .i64 0, .int .i64 0]) ∧ Toks w' B vt ts
theorem scan_long (s : ByteArray) (w : World) (hs : 32768 < s.size) :
    Calls Tryz.prog 11 #[.string s] w fun e w' => e = .returned (.tuple #[.slice none 0 0, .int .i64 6, .int .i64 0]) ∧ w' = w := by
  have h1 : decide ((32768 : Int) < (s.size : Int)) = true := decide_eq_true (by omega)
  clear hs
  go_enter Tryz.func11, Tryz.ntmps11
  go_wp2
  go_ret3
  exact ⟨rfl, rfl⟩
theorem scan_bad (s : ByteArray) (w : World) (hs : s.size ≤ 32768) (hE : Env w) (hT : ¬ Txt s.data.toList) :
    Calls Tryz.prog 11 #[.string s] w fun e w' => (∃ at' : Nat, at' < s.size ∧ e = .returned (.tuple #[.slice none 0 0, .int .i64 4, .int .i64 (at' : Nat)])) ∧ Below w.heap.size w w' := by
  have h1 : decide ((32768 : Int) < (s.size : Int)) = false := decide_eq_false (by omega)
  have HB := hide (firstBad_any s w hs hE)
  clear hs
  go_enter Tryz.func11, Tryz.ntmps11
  go_wp2_with fail
  refine (unhide HB).mono ?_
  rintro e w1 ⟨hbad, hb1⟩
  rcases hbad with ⟨h, _⟩ | ⟨_, at', hat, rfl⟩
  · exact absurd h hT
  · go_wp2
    go_ret3
    exact ⟨⟨at', hat, rfl⟩, hb1⟩
theorem start_good {cs : List Nat} (hl : okL cs) (hs : (T cs).size ≤ 32768) : Good (RS.start cs) ∧ OpnOk (RS.start cs) := by
  refine ⟨⟨⟨hl, hs⟩, Nat.zero_le _, fun h => absurd rfl h, ?_, Nat.zero_le _, Nat.zero_le _⟩, ?_, Nat.zero_le _⟩
  · intro c hc
    cases hc
  · intro x hx
    cases hx
theorem start_rd (cs : List Nat) (w : World) (B p m : Nat) (hB : B ≤ p) (hm : B ≤ m) (hp : w.heap[p]? = some (.cells (rdArr (RS.start cs) m (.slice none 0 0) (.slice none 0 0) (.slice none 0 0)) 56 (0, 0)))
    (hmm : w.heap[m]? = some (.map #[] 0)) : Rd w B p m (.slice none 0 0) (.slice none 0 0) (.slice none 0 0) (RS.start cs) := by
  refine ⟨hp, hB, ⟨hm, (fun _ h => by cases h), ?_⟩, World.ownsRow_nil _ _ _ _, ⟨[], rfl, World.ownsRow_nil _ _ _ _, (fun i t v h => by cases i <;> cases h)⟩, World.ownsRow_nil _ _ _ _⟩
  exact ⟨#[], 0, hmm, ⟨by simp, Go.MapKept.stamped_empty 0, by simp⟩, Nat.le_refl _, rfl⟩
set_option maxRecDepth 100000 in
set_option maxHeartbeats 4000000 in
theorem scan_typed (cs : List Nat) (w : World) (hl : okL cs) (hs : (T cs).size ≤ 32768) (hE : XEnv w.heap.size w)
    (hX : ([60, 63].isPrefixOf cs && nameA (cs.drop 2) == [120, 109, 108]) = false) :
    Calls Tryz.prog 11 #[.string (T cs)] w fun e w' => scanP (scanX cs) w.heap.size e w' ∧ Below w.heap.size w w' := by
  have h1 : decide ((32768 : Int) < ((T cs).size : Int)) = false := decide_eq_false (by omega)
  have HB := hide (firstBad_any (T cs) w hs hE.env)
  have HTX := hide (T_txt hl)
  obtain ⟨hG, hO⟩ := start_good hl hs
  have hmk : ∀ W : World, (Instr.makeMap 53 none).run Tryz.prog W = .ok (.map (some W.heap.size)) (W.alloc (.map #[] 0)) := fun W => rfl
  go_enter Tryz.func11, Tryz.ntmps11
  go_wp2_with fail
  refine (unhide HB).mono ?_
  rintro e w1 ⟨hbad, hb1⟩
  rcases hbad with ⟨_, rfl⟩ | ⟨h, _⟩
  · go_wp2_with fail
    have hbA : Below w1.heap.size w1 ((w1.alloc (.map #[] 0)).alloc (.cells #[.string (T cs), .int .i64 0, .map (some w1.heap.size), .int .i64 0, .slice none 0 0, .slice none 0 0, .slice none 0 0, .int .i64 0, .int .i64 0, .int .i64 0] 56)) := ((Below.refl _ _).alloc (Nat.le_refl _) _).alloc (by simp) _
    have hsz1 := hb1.size
    have hR : Rd ((w1.alloc (.map #[] 0)).alloc (.cells #[.string (T cs), .int .i64 0, .map (some w1.heap.size), .int .i64 0, .slice none 0 0, .slice none 0 0, .slice none 0 0, .int .i64 0, .int .i64 0, .int .i64 0] 56)) w.heap.size (w1.heap.size + 1) w1.heap.size (.slice none 0 0) (.slice none 0 0) (.slice none 0 0) (RS.start cs) := by
      refine start_rd cs _ _ _ _ (by omega) (by omega) ?_ ?_
      · show ((w1.heap.push _).push _)[w1.heap.size + 1]? = _
        rw [Array.getElem?_push, if_pos (by simp)]
        rfl
      · show ((w1.heap.push _).push _)[w1.heap.size]? = _
        rw [Array.getElem?_push, if_neg (by simp), Array.getElem?_push, if_pos rfl]
    have hbB : Below w.heap.size w _ := hb1.trans (hbA.mono hsz1)
    refine (document_plain w.heap.size (w1.heap.size + 1) w1.heap.size _ _ _ (RS.start cs) _ hR hG hO (hE.low hbB) rfl rfl hX).mono ?_
    intro e w2 ho
    obtain ⟨b, rfl, ho⟩ := outP_form ho
    obtain ⟨hb2, ho⟩ := ho
    have hb02 : Below w.heap.size w w2 := hbB.trans hb2
    cases hd : (RS.start cs).document with
    | error x =>
      obtain ⟨c, pl⟩ := x
      rw [hd] at ho
      obtain ⟨hb', hw⟩ := ho
      cases hb'
      obtain ⟨c8, c9⟩ := hw
      have HO : Hid (scanX cs = .error (c, pl)) := hide (by unfold scanX; rw [hd])
      clear hd
      go_wp2_with fail
      go_region
      all_goals go_wp2_with fail
      all_goals go_ret3
      all_goals exact ⟨by rw [unhide HO]; rfl, by (repeat first | exact hb02 | refine Below.drew ?_)⟩
    | ok s' =>
      rw [hd] at ho
      obtain ⟨hb', vo, vt, vr, R2⟩ := ho
      cases hb'
      have HO : Hid (scanX cs = .ok s'.toks) := hide (by unfold scanX; rw [hd])
      have c5 : w2.cell? ⟨w1.heap.size + 1, 5, none⟩ = some vt := blk_cell R2.blk 5
      have HTK := hide R2.toks
      clear hd R2
      go_wp2_with fail
      go_ret3
      exact ⟨by rw [unhide HO]; exact ⟨_, rfl, unhide HTK⟩, hb02⟩
  · exact absurd (unhide HTX) h
/-- The same, for the texts that say besides that no document type is met. -/
theorem scan_plain (cs : List Nat) (w : World) (hl : okL cs) (hs : (T cs).size ≤ 32768) (hE : XEnv w.heap.size w)
    (hX : ([60, 63].isPrefixOf cs && nameA (cs.drop 2) == [120, 109, 108]) = false) (_hT : RS.noType (cs.length + 1) (RS.start cs) = true) :
    Calls Tryz.prog 11 #[.string (T cs)] w fun e w' => scanP (scanX cs) w.heap.size e w' ∧ Below w.heap.size w w' := scan_typed cs w hl hs hE hX
end Go.Proofs.YtkklapoceknbcaaGreatDoor
