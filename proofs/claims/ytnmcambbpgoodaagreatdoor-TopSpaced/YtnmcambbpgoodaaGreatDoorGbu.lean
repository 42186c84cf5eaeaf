/- Several texts, laid as one. -/
import Derived.Test.YtnmcambbpgoodaaGreatDoorGbt
import Derived.Test.YtnmcambbpgoodaaGreatDoorGaz
/- What xparse's Parse tells of any text. -/
namespace Go.Proofs.YtnmcambbpgoodaaGreatDoor
open Go.RowKit Go.Maps
/-- Whether the judge takes an expression. -/
def okJ (x : Ex) : Bool := match jRight flX (wt x) 0 0 x with
  | some (b, _) => b
  | none => false
/-- What Parse tells of tokens: the expression, or its fault. -/
def saysP (l : List (Nat × List Nat)) : Except Int Ex := match exprP numP (30 * l.length + 26) 0 ⟨l, 0, 0⟩ with
  | .ok x s => if s.left = [] then (if s.dp ≤ 32 ∧ okJ x = true then .ok x else .error 6) else .error 9
  | _ => .error 9
def saysT (cs : List Nat) : Except Int Ex := match scanOf cs with
  | .ok ts => saysP (ts.map fun t => (t.1.kind, t.1.text))
  | .error _ => .error 9
def outP (w : World) (r : Except Int Ex) (e : Ending) (w' : World) : Prop := match r with
  | .ok x => outP6 w x e w'
  | .error f => outPN w f e w'
/-- Parse of a text tells r. -/
def ParseIs (s : ByteArray) (r : Except Int Ex) : Prop := ∀ w : World, EnvG w → Calls Tryz.prog 6 #[.string s] w (outP w r)
theorem okJ_true {x : Ex} (h : okJ x = true) : ∃ c, jRight flX (wt x) 0 0 x = some (true, c) := by
  obtain ⟨b, c, hj⟩ := jright_ends flX x
  unfold okJ at h
  rw [hj] at h
  exact ⟨c, by rw [hj, show b = true from h]⟩
theorem okJ_false {x : Ex} (h : okJ x = false) : ∃ c, jRight flX (wt x) 0 0 x = some (false, c) := by
  obtain ⟨b, c, hj⟩ := jright_ends flX x
  unfold okJ at h
  rw [hj] at h
  exact ⟨c, by rw [hj, show b = false from h]⟩
theorem tk_scan {cs : List Nat} {ts : List (Tok × Nat)} (hl : okL cs) (hz : (T cs).size ≤ 512) (hs : scanOf cs = .ok ts) : Tk (ps0 ts) := by
  intro t ht
  obtain ⟨x, hx, rfl⟩ := List.mem_map.1 ht
  obtain ⟨h1, h2⟩ := scan_formed6 hl hs x hx
  have h3 := tx_len_ge h1
  rw [T_size] at h2
  show x.1.text.length ≤ 1000
  omega
theorem scan_count {cs : List Nat} {ts : List (Tok × Nat)} (hl : okL cs) (hz : (T cs).size ≤ 512) (hs : scanOf cs = .ok ts) : ts.length ≤ 512 := by
  have h1 := laid_count _ _ _ _ (scan_laid_all hs)
  have h2 := tx_len_ge hl
  rw [T_size] at hz
  omega
theorem parse_T (cs : List Nat) (hl : okL cs) (hz : (T cs).size ≤ 512) : ParseIs (T cs) (saysT cs) := by
  intro w hG
  unfold saysT
  cases hs : scanOf cs with
  | error p =>
    refine parse_noscan (T cs) 9 w rfl fun W hW => ?_
    have h := scan_any cs W hl hz (hG.below hW).lex
    rw [hs] at h
    exact h.mono fun _ _ hh => ⟨⟨_, hh.1⟩, hh.2⟩
  | ok ts =>
    have hc := scan_count hl hz hs
    have hlen : (ps0 ts).left.length = ts.length := by unfold ps0; simp
    have hlv := (live_all numP (30 * ts.length + 26)).1 0 (ps0 ts) (by omega) (by rw [hlen]; omega)
    have hn : 30 * ts.length + 26 ≤ 90001 := by omega
    show Calls _ _ _ w (outP w (saysP (ps0 ts).left))
    unfold saysP
    rw [hlen]
    cases hp : exprP numP (30 * ts.length + 26) 0 (ps0 ts) with
    | out => exact absurd hp hlv
    | fail =>
      rw [show (⟨(ps0 ts).left, 0, 0⟩ : PS) = ps0 ts from rfl, hp]
      exact parse_word cs ts w hG hl hz hs hc fun p W hQ => pwhole_fail w hG _ hn p (ps0 ts) W hQ hp
    | ok x s' =>
      rw [show (⟨(ps0 ts).left, 0, 0⟩ : PS) = ps0 ts from rfl, hp]
      have hsm := ((small_all numP (30 * ts.length + 26)).1 0 (ps0 ts) (tk_scan hl hz hs) x s' hp).1
      show Calls _ _ _ w (outP w (if s'.left = [] then (if s'.dp ≤ 32 ∧ okJ x = true then .ok x else .error 6) else .error 9))
      by_cases hl' : s'.left = []
      · rw [if_pos hl']
        by_cases hd : s'.dp ≤ 32
        · cases hj : okJ x with
          | true =>
            obtain ⟨c, hr⟩ := okJ_true hj
            rw [if_pos ⟨hd, rfl⟩]
            have hne : ts ≠ [] := fun e => by
              subst e
              have he : exprP numP (30 * ([] : List (Tok × Nat)).length + 26) 0 (ps0 []) = .fail := by kernel_rfl
              rw [he] at hp
              cases hp
            exact parse_ok6 cs ts _ _ c x s' w hG hl hz hs hne hc hn hp hl' hd hsm hr
          | false =>
            obtain ⟨c, hr⟩ := okJ_false hj
            rw [if_neg (fun h => by cases h.2)]
            exact parse_unright cs ts _ _ c x s' w hG hl hz hs hc hn hp hl' hd hsm hr
        · rw [if_neg (fun h => hd h.1)]
          exact parse_deep cs ts _ x s' w hG hl hz hs hc hn hp hl' (by omega)
      · rw [if_neg hl']
        exact parse_word cs ts w hG hl hz hs hc fun p W hQ => pwhole_left w hG _ hn p (ps0 ts) W hQ x s' hp hl'
theorem parse_long (s : ByteArray) (h : 512 < s.size) : ParseIs s (.error 6) := fun w _ =>
  parse_noscan s 6 w rfl fun W _ => (scan_long s W h).mono fun _ _ hh => ⟨⟨_, hh.1⟩, hh.2⟩
theorem parse_ill (s : ByteArray) (h : s.size ≤ 512) (hf : (fault s).1 ≠ 0) : ParseIs s (.error 4) := fun w _ =>
  parse_noscan s 4 w rfl fun W _ => (scan_bad s W h hf).mono fun _ _ hh => hh
end Go.Proofs.YtnmcambbpgoodaaGreatDoor
/- A token as a text; tokens as a text: xplex's textOf and Join. -/
namespace Go.Proofs.YtnmcambbpgoodaaGreatDoor
open Go.RowKit
/-- A token's text as it is written. -/
def txtOf (k : Int) (x : ByteArray) : ByteArray := if k = 2 then (match litQ x.data.toList with | some q => quoted q x | none => quoted 34 x) else if k = 7 then ⟨#[36]⟩ ++ x else x
set_option maxHeartbeats 1000000 in
theorem textOf_any (k a : Int) (x : ByteArray) (w : World) (hx : x.size ≤ 2000000) :
    Calls Tryz.prog 16 #[.agg #[.int .i64 k, .string x, .int .i64 a]] w fun e w' => e = .returned (.string (txtOf k x)) ∧ Below w.heap.size w w' := by
  have hq : ∀ q : UInt8, (⟨#[q]⟩ : ByteArray).size = 1 := fun _ => rfl
  by_cases h2 : k = 2
  · subst h2
    cases hl : litQ x.data.toList with
    | none =>
      have hv : litV x = .tuple #[.string ⟨#[]⟩, .int .i64 9] := by unfold litV; rw [hl]
      have ht : txtOf 2 x = quoted 34 x := by unfold txtOf; rw [if_pos rfl, hl]
      have HV := hide hv
      have HT := hide ht
      clear hv ht hl
      go_enter Tryz.func16, Tryz.ntmps16
      go_wp2_with fail
      refine (literal_any x _ hx).mono ?_
      rintro e w1 ⟨rfl, rfl⟩
      rw [unhide HV]
      go_wp2
      go_ret
      exact ⟨ret_str (unhide HT).symm, (Below.refl _ _).alloc (Nat.le_refl _) _⟩
    | some q =>
      have hv : litV x = .tuple #[.string (quoted q x), .int .i64 0] := by unfold litV; rw [hl]
      have ht : txtOf 2 x = quoted q x := by unfold txtOf; rw [if_pos rfl, hl]
      have HV := hide hv
      have HT := hide ht
      clear hv ht hl
      go_enter Tryz.func16, Tryz.ntmps16
      go_wp2_with fail
      refine (literal_any x _ hx).mono ?_
      rintro e w1 ⟨rfl, rfl⟩
      rw [unhide HV]
      go_wp2
      go_ret
      exact ⟨ret_str (unhide HT).symm, (Below.refl _ _).alloc (Nat.le_refl _) _⟩
  · by_cases h7 : k = 7
    · subst h7
      have ht : txtOf 7 x = ⟨#[36]⟩ ++ x := rfl
      have HT := hide ht
      clear ht
      go_enter Tryz.func16, Tryz.ntmps16
      go_wp2
      go_ret
      exact ⟨ret_str (unhide HT).symm, (Below.refl _ _).alloc (Nat.le_refl _) _⟩
    · have ht : txtOf k x = x := by unfold txtOf; rw [if_neg h2, if_neg h7]
      have g2 : (k == 2) = false := by simpa using h2
      have g7 : (k == 7) = false := by simpa using h7
      have HT := hide ht
      clear ht
      go_enter Tryz.func16, Tryz.ntmps16
      go_wp2
      go_ret
      exact ⟨ret_str (unhide HT).symm, (Below.refl _ _).alloc (Nat.le_refl _) _⟩
/-- Tokens as they may be handed in: kind, text, place. -/
abbrev Lexs := List (Int × ByteArray × Int)
/-- They lie in memory from a place on. -/
def LexsAt (w : World) (g o : Nat) (ls : Lexs) : Prop := ∀ i x, ls[i]? = some x → w.cell? ⟨g, o + i * 3, none⟩ = some (.int .i64 x.1) ∧ w.cell? ⟨g, o + i * 3 + 1, none⟩ = some (.string x.2.1) ∧ w.cell? ⟨g, o + i * 3 + 2, none⟩ = some (.int .i64 x.2.2)
theorem LexsAt.below {w w' : World} {g o : Nat} {ls : Lexs} (h : LexsAt w g o ls) (hb : Below w.heap.size w w') : LexsAt w' g o ls := fun i x hx =>
  ⟨kept_cell hb (h i x hx).1, kept_cell hb (h i x hx).2.1, kept_cell hb (h i x hx).2.2⟩
def joinP (ls : Lexs) : List UInt8 := Lib.join (ls.map fun x => (txtOf x.1 x.2.1).data.toList) [32]
def strsK (ls : Lexs) (k : Nat) : List Value := (ls.take k).map (fun x => .string (txtOf x.1 x.2.1)) ++ List.replicate (ls.length - k) (.string ⟨#[]⟩)
theorem strsK_zero (ls : Lexs) : strsK ls 0 = List.replicate ls.length (.string ⟨#[]⟩) := by unfold strsK; simp
theorem strsK_set (ls : Lexs) (k : Nat) (x : Int × ByteArray × Int) (h : ls[k]? = some x) : (strsK ls k).set k (.string (txtOf x.1 x.2.1)) = strsK ls (k + 1) := by
  have hk : k < ls.length := (List.getElem?_eq_some_iff.1 h).1
  have hx : ls[k] = x := (List.getElem?_eq_some_iff.1 h).2
  unfold strsK
  rw [List.set_append_right _ _ (by simp; omega)]
  rw [List.take_succ_eq_append_getElem hk, List.map_append, hx]
  obtain ⟨m, hm⟩ : ∃ m, ls.length - k = m + 1 := ⟨ls.length - k - 1, by omega⟩
  rw [hm, show ls.length - (k + 1) = m by omega, List.replicate_succ]
  simp [List.length_take, Nat.min_eq_left (Nat.le_of_lt hk)]
theorem strsK_at (ls : Lexs) (k : Nat) (h : k < ls.length) : (strsK ls k)[k]? = some (.string ⟨#[]⟩) := by
  unfold strsK
  rw [List.getElem?_append_right (by simp; omega), List.length_map, List.length_take, Nat.min_eq_left (Nat.le_of_lt h), Nat.sub_self, List.getElem?_replicate, if_pos (by omega)]
theorem strsK_all (ls : Lexs) : strsK ls ls.length = (ls.map fun x => txtOf x.1 x.2.1).map Value.string := by
  unfold strsK; simp
theorem infoStr : (Tryz.prog.info? 9).map (fun i => (i.zero, i.size, i.bytes)) = some (some (.string ⟨#[]⟩), 1, 16) := by kernel_rfl
set_option maxRecDepth 100000 in
set_option maxHeartbeats 2000000 in
theorem join_none (a : Option Addr) (c : Nat) (w : World) :
    Calls Tryz.prog 7 #[.slice a 0 c] w fun e w' => e = .returned (.string ⟨#[]⟩) ∧ Below w.heap.size w w' := by
  obtain ⟨i0, hi, hz0, hz1, hz2⟩ := info_parts infoStr
  go_enter Tryz.func7, Tryz.ntmps7
  go_wp2_with (refine wpList_make_full _ rfl _ _ 59 rfl w.heap.size 9 i0 _ 1 Tryz.underlying59 hi hz0 hz1 _ _ _ _ 0 rfl rfl rfl rfl (by omega) (by decide) (Nat.le_refl _) ?_; intro w1 hown hgrow)
  refine wp_loop_rounds 1 ?_
  rw [rounds_succ]
  go_wp2_with fail
  refine (Tryz.strings_Join_none _ _ _ _).mono ?_
  rintro e w2 ⟨rfl, rfl⟩
  go_wp2
  go_ret
  exact ⟨rfl, (Below.refl _ _).grown hgrow (Nat.le_refl _) (fun k h => by cases h)⟩
set_option maxRecDepth 100000 in
set_option maxHeartbeats 2000000 in
theorem join_any (ls : Lexs) (g o cap : Nat) (w : World) (hat : LexsAt w g o ls) (hn : ls.length ≤ 2000000) (hx : ∀ x ∈ ls, x.2.1.size ≤ 2000000) (hj : (joinP ls).length ≤ 140737488355328) :
    Calls Tryz.prog 7 #[.slice (some ⟨g, o, none⟩) ls.length cap] w fun e w' => e = .returned (.string ⟨(joinP ls).toArray⟩) ∧ Below w.heap.size w w' := by
  obtain ⟨i0, hi, hz0, hz1, hz2⟩ := info_parts infoStr
  have HA := hide hat
  have HX := hide hx
  have HJ := hide hj
  clear hat hx hj
  go_enter Tryz.func7, Tryz.ntmps7
  go_wp2_with (refine wpList_make_full _ rfl _ _ 59 rfl w.heap.size 9 i0 _ 1 Tryz.underlying59 hi hz0 hz1 _ _ _ _ ls.length rfl rfl rfl rfl (by rw [hz2]; omega) (by unfold maxLen; omega) (Nat.le_refl _) ?_; intro w1 hown hgrow)
  have hb1 : Below w.heap.size w w1 := (Below.refl _ _).grown hgrow (Nat.le_refl _) (fun k h => by cases h)
  rw [Nat.mul_one, show (Value.string ⟨#[]⟩).cells = #[.string ⟨#[]⟩] from rfl, toList_madeCells_one, ← strsK_zero] at hown
  clear hi hz0 hz1 hz2 hgrow
  go_loopw [11] (fun i wr => ∃ k : Nat, i = .int .i64 (k : Nat) ∧ k ≤ ls.length ∧ wr.ownsRow w.heap.size 9 1 (.slice (some ⟨w.heap.size, 0, none⟩) ls.length ls.length) ls.length (strsK ls k) ∧ Below w.heap.size w wr) (fun i _ => ls.length - (intOf i).toNat)
  case atStart => exact ⟨0, rfl, Nat.zero_le _, hown, hb1⟩
  case round =>
    clear hown hb1
    obtain ⟨k, rfl, hk, hown, hbr⟩ := hrel
    by_cases hlt : k < ls.length
    · obtain ⟨x, hx⟩ : ∃ x, ls[k]? = some x := ⟨ls[k], List.getElem?_eq_getElem hlt⟩
      have hxs := unhide HX x (List.mem_of_getElem? hx)
      obtain ⟨c0, c1, c2⟩ := (unhide HA).below hbr k x hx
      have HS := hide (strsK_set ls k x hx)
      have HT := hide (fun W => textOf_any x.1 x.2.2 x.2.1 W hxs)
      have HO := hide hown
      clear hx hown
      obtain ⟨xk, xx, xa⟩ := x
      simp only at c0 c1 c2
      have n1 : (0 : Int) ≤ (k : Int) := by omega
      have n2 : (k : Int) < (ls.length : Int) := by omega
      go_wp2_with fail
      refine (unhide HT _).mono ?_
      rintro e w2 ⟨rfl, hb2⟩
      have hbA : Below wr.heap.size wr w2 := Below.then ((Below.refl _ _).alloc (Nat.le_refl _) _) hb2
      have hown2 := owns_below (unhide HO) hbA
      have hce := hown2.cellAt k (by omega)
      have hlen : (strsK ls k)[k]? = some (.string ⟨#[]⟩) := strsK_at ls k hlt
      rw [hlen] at hce
      have hfr := hown2.frozenAt k
      have hst := hown2.stored k (.string (txtOf xk xx))
      have HST := hide hst
      have hbb2 := Below.then hbr hbA
      clear hst hown2 hlen
      go_wp2
      refine ⟨⟨k + 1, by go_num, by omega, ?_, hbb2.setCell (Nat.le_refl _) _⟩, by simp [intOf]; omega⟩
      have := (unhide HST).1
      rw [unhide HS] at this
      exact this
    · obtain rfl : k = ls.length := by omega
      rw [strsK_all] at hown
      have hjn := Tryz.strings_Join w.heap.size 0 ls.length (ls.map fun x => txtOf x.1 x.2.1) ⟨#[32]⟩ wr (fun j x hx => by
        have hj : j < ls.length := by
          have := (List.getElem?_eq_some_iff.1 hx).1
          rwa [List.length_map] at this
        rw [Nat.zero_add, hown.cellAt j (by omega), List.getElem?_map, hx]
        rfl) (by
        rcases hown.2 with ⟨h, _⟩ | ⟨g', c', cur, h, _, hg, _⟩
        · simp at h
        · simp at h
          rw [h.1]; exact (Array.getElem?_eq_some_iff.1 hg).1) (by rw [List.length_map]; omega) (by rw [List.length_map]; exact Nat.le_refl _) (by
        rw [List.map_map]; exact unhide HJ)
      rw [List.length_map, List.map_map] at hjn
      have HJN := hide hjn
      clear hjn hown
      go_wp2_with fail
      refine (unhide HJN).mono ?_
      rintro e w2 ⟨rfl, hb2⟩
      go_wp2
      go_ret
      exact ⟨rfl, Below.then hbr hb2⟩
end Go.Proofs.YtnmcambbpgoodaaGreatDoor
