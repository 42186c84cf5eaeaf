/- The token that a text begins with: xplex's tokenAhead. -/
import Derived.Test.YtnmcambbpgoodaaGreatDoorGan
import Derived.Deep.MidRow
namespace Go.Proofs.YtnmcambbpgoodaaGreatDoor
open Go.RowKit
/-- The signs, as they lie in memory. -/
def signCells : List Value := signL.flatMap fun x => [.int .i64 (x.1 : Nat), .string (T x.2), .int .i64 0]
structure Env5 (w : World) : Prop where
  env : Env w
  signs : w.rangeAt 0 0 signCells
theorem Env5.below {w w' : World} (h : Env5 w) (hb : Below w.heap.size w w') : Env5 w' :=
  ⟨h.env.below hb, fun j v hv => kept_cell hb (h.signs j v hv)⟩
def signAt (i : Nat) : Nat × List Nat := signL.getD i (0, [])
theorem sign_index (i : Nat) (h : i < 20) (w : World) : (Instr.index 71 (.agg signCells.toArray) (.int .i64 (i : Nat))).run Tryz.prog w = .ok (.agg #[.int .i64 ((signAt i).1 : Nat), .string (T (signAt i).2), .int .i64 0]) w := by
  rcases (show i = 0 ∨ i = 1 ∨ i = 2 ∨ i = 3 ∨ i = 4 ∨ i = 5 ∨ i = 6 ∨ i = 7 ∨ i = 8 ∨ i = 9 ∨ i = 10 ∨ i = 11 ∨ i = 12 ∨ i = 13 ∨ i = 14 ∨ i = 15 ∨ i = 16 ∨ i = 17 ∨ i = 18 ∨ i = 19 by omega) with rfl | rfl | rfl | rfl | rfl | rfl | rfl | rfl | rfl | rfl | rfl | rfl | rfl | rfl | rfl | rfl | rfl | rfl | rfl | rfl
  all_goals kernel_rfl
/-- What tokenAhead tells. -/
def tokV (o : Option Tok) : Value := match o with
  | some t => .tuple #[.agg #[.int .i64 (t.kind : Nat), .string (T t.text), .int .i64 0], .int .i64 ((T t.raw).size : Nat)]
  | none => .tuple #[.agg #[.int .i64 0, .string ⟨#[]⟩, .int .i64 0], .int .i64 0]
theorem ret_tok {o p : Option Tok} {v : Value} (h : o = p) (hv : v = tokV p) : Ending.returned v = .returned (tokV o) := by rw [h, hv]
theorem tok_str {l t : List Nat} (pl : Bool) (hn : numA l = []) (h : strAny l = some t) : ∃ q, q < 128 ∧ tokA l pl = some ⟨2, t, q :: t ++ [q]⟩ := by
  unfold strAny at h
  split at h
  · rename_i x hx
    cases h
    exact ⟨34, by decide, tokA_str34 pl hn hx⟩
  · rename_i hx
    exact ⟨39, by decide, tokA_str39 pl hn hx h⟩
theorem str_none {l : List Nat} (h : strAny l = none) : strAt 34 l = none ∧ strAt 39 l = none := by
  unfold strAny at h
  split at h
  · cases h
  · rename_i hx; exact ⟨hx, h⟩
theorem sz_quoted {q : Nat} (hq : q < 128) (t : List Nat) : (T (q :: t ++ [q])).size = (T t).size + 2 := by
  rw [List.cons_append, sz_cons hq, sz_app, sz_cons hq]
  have : (T []).size = 0 := rfl
  omega
theorem str_size {l t : List Nat} (h : strAny l = some t) : (T t).size + 2 ≤ (T l).size := by
  have key : ∀ q, q < 128 → strAt q l = some t → (T t).size + 2 ≤ (T l).size := by
    intro q hq h
    have := size_pre (strAt_some h).2
    rw [sz_quoted hq] at this
    exact this
  unfold strAny at h
  split at h
  · rename_i x hx
    cases h
    exact key 34 (by decide) hx
  · exact key 39 (by decide) h
theorem var_size {l t : List Nat} (h : varA l = some t) : (T t).size + 1 ≤ (T l).size ∧ okL t ∨ ¬ okL l := by
  by_cases hl : okL l
  · left
    unfold varA at h
    split at h
    · rename_i hh
      rw [Bool.and_eq_true] at hh
      cases h
      have h1 : (T l).size = 1 + (T l.tail).size := by
        conv => lhs; rw [heads_true hh.1]
        exact sz_cons (by decide) _
      have h2 := size_pre (qnameA_pre l.tail)
      exact ⟨by omega, okL_pre (okL_tl hl) (qnameA_pre _)⟩
    · cases h
  · exact .inr hl
theorem sign_len : signL.length = 20 := by decide
theorem sign_get {k : Nat} (h : k < 20) : signL[k]'(by rw [sign_len]; exact h) = signAt k := by
  unfold signAt
  rw [List.getD_eq_getElem?_getD, List.getElem?_eq_getElem (by rw [sign_len]; exact h)]
  rfl
theorem sign_find {l : List Nat} {k : Nat} (h : k < 20) (hno : ∀ j, j < k → (signAt j).2.isPrefixOf l = false) (hk : (signAt k).2.isPrefixOf l = true) : signA l = some (signAt k) := by
  unfold signA
  rw [List.find?_eq_some_iff_append]
  refine ⟨hk, signL.take k, signL.drop (k + 1), ?_, ?_⟩
  · have := List.take_append_drop k signL
    conv => lhs; rw [← this]
    rw [List.drop_eq_getElem_cons (by rw [sign_len]; exact h), sign_get h]
  · intro x hx
    obtain ⟨j, hj, rfl⟩ := List.getElem_of_mem hx
    rw [List.length_take, sign_len] at hj
    rw [List.getElem_take, sign_get (by omega), hno j (by omega)]
    rfl
theorem sign_none {l : List Nat} (hno : ∀ j, j < 20 → (signAt j).2.isPrefixOf l = false) : signA l = none := by
  unfold signA
  rw [List.find?_eq_none]
  intro x hx
  obtain ⟨j, hj, rfl⟩ := List.getElem_of_mem hx
  rw [sign_len] at hj
  rw [sign_get hj, hno j hj]
  decide
theorem sign_asc {k : Nat} (h : k < 20) : (∀ c ∈ (signAt k).2, c < 128) ∧ (T (signAt k).2).data.toList = (signAt k).2.map UInt8.ofNat ∧ (T (signAt k).2).size ≤ 2 := by
  have hm : ∀ x ∈ signL, (∀ c ∈ x.2, c < 128) ∧ tx x.2 = x.2.map UInt8.ofNat ∧ (tx x.2).length ≤ 2 := by decide +kernel
  have := hm _ (List.getElem_mem (by rw [sign_len]; exact h) : signL[k]'(by rw [sign_len]; exact h) ∈ signL)
  rw [sign_get h] at this
  exact ⟨this.1, by rw [T_data]; exact this.2.1, this.2.2⟩
set_option maxRecDepth 100000 in
set_option maxHeartbeats 4000000 in
theorem tokenAhead_any (l : List Nat) (pl : Bool) (w : World) (hl : okL l) (hs : (T l).size ≤ 512) (hE : Env5 w) :
    Calls Tryz.prog 13 #[.string (T l), plV pl] w fun e w' => e = .returned (tokV (tokA l pl)) ∧ Below w.heap.size w w' := by
  have hw1 : Below w.heap.size w (w.alloc (.cells #[.int .i64 0, .string .empty, .int .i64 0] 48)) := (Below.refl _ _).alloc (Nat.le_refl _) _
  have hn1 := LexAt.new w 0 0 ⟨#[]⟩ 48
  have HN1 := hide hn1
  have HE := hide hE
  clear hn1 hE
  go_enter Tryz.func13, Tryz.ntmps13
  go_wp2_with fail
  refine (numberAhead_any l _ hl hs).mono ?_
  rintro e w2 ⟨rfl, hb2⟩
  have hbb2 := Below.then hw1 hb2
  have hn2 := (unhide HN1).below hb2
  have HN2 := hide hn2
  obtain ⟨c0, c1, c2, o0, o1, o2⟩ := hn2
  by_cases hn : numA l = []
  · have h1 := nil_T hn
    have HN := hide hn
    clear hn
    go_wp2_with fail
    refine (stringAhead_any l _ hl hs ((unhide HE).env.below hbb2)).mono ?_
    rintro e w3 ⟨⟨x, b, rfl, hx⟩, hb3⟩
    have hbb3 := Below.then hbb2 hb3
    have hn3 := (unhide HN2).below hb3
    have HN3 := hide hn3
    clear c0 c1 c2 o0 o1 o2
    obtain ⟨c0, c1, c2, o0, o1, o2⟩ := hn3
    rcases hx with ⟨t, ho, rfl, rfl⟩ | ⟨ho, rfl⟩
    · obtain ⟨q, hq, htk⟩ := tok_str pl (unhide HN) ho
      have hsz := str_size ho
      have HT := hide htk
      have HQ := hide (sz_quoted hq t)
      clear ho htk
      go_wp2
      refine bodyPost_ret (v := tokV (some ⟨2, t, q :: t ++ [q]⟩)) (by simp [results, Tryz.results13, go_sem, tokV, c0, c1, c2]; rw [← List.cons_append, unhide HQ]; rfl) rfl ?_
      exact ⟨ret_tok (unhide HT) rfl, ((hbb3.setCell (Nat.le_refl _) _).setCell (Nat.le_refl _) _).setCell (Nat.le_refl _) _⟩
    · obtain ⟨hs34, hs39⟩ := str_none ho
      have HS34 := hide hs34
      have HS39 := hide hs39
      clear ho hs34 hs39
      go_wp2_with fail
      refine (variableAhead_any l _ hl hs).mono ?_
      rintro e w4 ⟨⟨x, b, rfl, hx⟩, hb4⟩
      have hbb4 := Below.then hbb3 hb4
      have hn4 := (unhide HN3).below hb4
      have HN4 := hide hn4
      clear c0 c1 c2 o0 o1 o2
      obtain ⟨c0, c1, c2, o0, o1, o2⟩ := hn4
      rcases hx with ⟨t, ho, rfl, rfl⟩ | ⟨ho, rfl⟩
      · have hsz : (T t).size + 1 ≤ (T l).size := by
          rcases var_size ho with h | h
          · exact h.1
          · exact absurd hl h
        have HT := hide (tokA_var pl (unhide HN) (unhide HS34) (unhide HS39) ho)
        have HQ := hide (sz_cons (c := 36) (by decide) t)
        clear ho
        go_wp2
        refine bodyPost_ret (v := tokV (some ⟨7, t, 36 :: t⟩)) (by simp [results, Tryz.results13, go_sem, tokV, c0, c1, c2]; rw [unhide HQ]; omega) rfl ?_
        exact ⟨ret_tok (unhide HT) rfl, ((hbb4.setCell (Nat.le_refl _) _).setCell (Nat.le_refl _) _).setCell (Nat.le_refl _) _⟩
      · have HV := hide ho
        clear ho
        have hzw := size_pre (wordA_pre l)
        have HSF := hide (suf_drop (wordA_pre l))
        have how := okL_pre hl (wordA_pre l)
        go_wp2_with fail
        refine (wordAhead_any l _ hl hs ((unhide HE).env.below hbb4)).mono ?_
        rintro e w5 ⟨rfl, hb5⟩
        have hbb5 := Below.then hbb4 hb5
        have hn5 := (unhide HN4).below hb5
        have HN5 := hide hn5
        clear c0 c1 c2 o0 o1 o2
        obtain ⟨c0, c1, c2, o0, o1, o2⟩ := hn5
        by_cases hw : wordA l = []
        · have h2 := nil_T hw
          have HW := hide (tokA_sign pl (unhide HN) (unhide HS34) (unhide HS39) (unhide HV) hw)
          have HSG := hide ((unhide HE).below hbb5).signs
          clear hw
          go_wp2_with (refine wpList_load_mid rfl 71 _ rfl 0 0 rfl signCells _ (unhide HSG) Tryz.underlying71 rfl (by kernel_rfl) ?_)
          have hix := sign_index
          generalize signCells.toArray = sv at *
          go_loopw [58] (fun v wr => ∃ k : Nat, v = .int .i64 (k : Nat) ∧ k ≤ 20 ∧ (∀ j, j < k → (signAt j).2.isPrefixOf l = false) ∧ LexAt wr w.heap.size 0 ⟨#[]⟩ 0 ∧ Below w.heap.size w wr) (fun v _ => 20 - (intOf v).toNat)
          case atStart => exact ⟨0, rfl, by omega, (fun j hj => absurd hj (by omega)), unhide HN5, hbb5⟩
          case round =>
            clear c0 c1 c2 o0 o1 o2
            obtain ⟨k, rfl, hk, hno, hlx, hbr⟩ := hrel
            have HNO := hide hno
            have HLX := hide hlx
            clear hno hlx
            by_cases hk20 : k < 20
            · have hi := hix k hk20
              obtain ⟨ha1, ha2, ha3⟩ := sign_asc hk20
              have HA1 := hide ha1
              have HA2 := hide ha2
              clear ha1 ha2 hix
              have HF := hide (fun h => sign_find hk20 (unhide HNO) h)
              have HSN : Hid (∀ j, j < k + 1 → (signAt k).2.isPrefixOf l = false → (signAt j).2.isPrefixOf l = false) := hide fun j hj h => by
                by_cases hjk : j = k
                · rw [hjk]; exact h
                · exact unhide HNO j (by omega)
              generalize signAt k = sg at *
              obtain ⟨kk, xx⟩ := sg
              simp only at hi ha3
              have hba : Below wr.heap.size wr (wr.alloc (.cells #[.int .i64 (kk : Nat), .string (T xx), .int .i64 0] 48)) := (Below.refl _ _).alloc (Nat.le_refl _) _
              have hlx := (unhide HLX).below hba
              have hbr2 := Below.then hbr hba
              have HLA := hide hlx
              obtain ⟨c0, c1, c2, o0, o1, o2⟩ := hlx
              go_wp2_with fail
              refine (hasPrefix_T xx _ (unhide HA2) (unhide HA1) l hl _).mono ?_
              rintro e w6 ⟨rfl, rfl⟩
              cases hp : xx.isPrefixOf l
              · have HP := hide hp
                clear hp
                go_wp2
                refine ⟨⟨k + 1, by go_num, by omega, fun j hj => unhide HSN j hj (unhide HP), unhide HLA, hbr2⟩, by simp [intOf]; omega⟩
              · have HP := hide hp
                clear hp
                go_wp2_with fail
                have hlt : w.heap.size < wr.heap.size := block_lt_of_cell (unhide HLX).c0
                clear c0 c1 c2 o0 o1 o2
                obtain ⟨c0, c1, c2, o0, o1, o2⟩ := unhide HLX
                go_region
                all_goals (try go_wp2)
                refine bodyPost_ret (v := tokV (some ⟨kk, xx, xx⟩)) (by simp [results, Tryz.results13, go_sem, tokV, c0, c1, c2, hlt]) rfl ?_
                exact ⟨ret_tok (by rw [unhide HW, unhide HF (unhide HP)]; rfl) rfl, ((((hbr.setCell (Nat.le_refl _) _).setCell (Nat.le_refl _) _).setCell (Nat.le_refl _) _).alloc (by simp; omega) _).drew⟩
            · obtain rfl : k = 20 := by omega
              obtain ⟨c0, c1, c2, o0, o1, o2⟩ := unhide HLX
              go_wp2
              refine bodyPost_ret (v := tokV none) (by simp [results, Tryz.results13, go_sem, tokV, c0, c1, c2]) rfl ?_
              exact ⟨ret_tok (by rw [unhide HW, sign_none (unhide HNO)]; rfl) rfl, ((hbr.setCell (Nat.le_refl _) _).setCell (Nat.le_refl _) _).setCell (Nat.le_refl _) _⟩
        · have h2 := ne_T how hw
          have HW := hide (tokA_word pl (unhide HN) (unhide HS34) (unhide HS39) (unhide HV) hw)
          have hod := okL_drop hl (wordA l).length
          have hsd : (T (l.drop (wordA l).length)).size ≤ 512 := by
            have := sz_app (wordA l) (l.drop (wordA l).length)
            rw [pre_drop (wordA_pre l)] at this
            omega
          clear hw
          generalize wordA l = x at *
          generalize l.drop x.length = d at *
          go_wp2_with fail
          rw [unhide HSF]
          refine (wordToken_any x d pl _ how hod (by omega) hsd ((unhide HE).env.below hbb5)).mono ?_
          rintro e w6 ⟨rfl, hb6⟩
          have hbb6 := Below.then hbb5 hb6
          clear c0 c1 c2 o0 o1 o2
          obtain ⟨c0, c1, c2, o0, o1, o2⟩ := (unhide HN5).below hb6
          cases hk : wordK x d pl with
          | none =>
            have HK := hide hk
            clear hk
            rw [show wordV none x = .tuple #[.agg #[.int .i64 0, .string ⟨#[]⟩, .int .i64 0], .int .i64 0] from rfl]
            go_wp2
            refine bodyPost_ret (v := tokV none) (by simp [results, Tryz.results13, go_sem, tokV, c0, c1, c2]) rfl ?_
            exact ⟨ret_tok (by rw [unhide HW, unhide HK]; rfl) rfl, ((hbb6.setCell (Nat.le_refl _) _).setCell (Nat.le_refl _) _).setCell (Nat.le_refl _) _⟩
          | some k =>
            have HK := hide hk
            clear hk
            rw [show wordV (some k) x = .tuple #[.agg #[.int .i64 (k : Nat), .string (T x), .int .i64 0], .int .i64 ((T x).size : Nat)] from rfl]
            go_wp2
            refine bodyPost_ret (v := tokV (some ⟨k, x, x⟩)) (by simp [results, Tryz.results13, go_sem, tokV, c0, c1, c2]) rfl ?_
            exact ⟨ret_tok (by rw [unhide HW, unhide HK]; rfl) rfl, ((hbb6.setCell (Nat.le_refl _) _).setCell (Nat.le_refl _) _).setCell (Nat.le_refl _) _⟩
  · have h1 := ne_T (okL_pre hl (numA_pre l)) hn
    have HT := hide (tokA_num pl hn)
    clear hn
    go_wp2
    refine bodyPost_ret (v := tokV (some ⟨1, numA l, numA l⟩)) (by simp [results, Tryz.results13, go_sem, tokV, c0, c1, c2]) rfl ?_
    exact ⟨ret_tok (unhide HT) rfl, ((hbb2.setCell (Nat.le_refl _) _).setCell (Nat.le_refl _) _).setCell (Nat.le_refl _) _⟩
end Go.Proofs.YtnmcambbpgoodaaGreatDoor
