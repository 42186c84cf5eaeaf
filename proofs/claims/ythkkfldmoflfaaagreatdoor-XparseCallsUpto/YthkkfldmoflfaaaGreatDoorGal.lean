/- Several texts, laid as one. -/
import Derived.Test.YthkkfldmoflfaaaGreatDoorGak
import Derived.Deep.MidRow
import Derived.Test.YthkkfldmoflfaaaGreatDoorGaf
import Derived.Test.YthkkfldmoflfaaaGreatDoorLexScan
/- The token that a text begins with: xplex's tokenAhead. -/
namespace Go.Proofs.YthkkfldmoflfaaaGreatDoor
open Go.RowKit
/-- The signs, as they lie in memory. -/
def signCells : List Value := signL.flatMap fun x => [.int .i64 (x.1 : Nat), .string (T x.2), .int .i64 0]
structure Env5 (w : World) : Prop where
  env : Env w
  signs : w.rangeAt 0 0 signCells
theorem Env5.below {w w' : World} (h : Env5 w) (hb : Below w.heap.size w w') : Env5 w' :=
  ⟨h.env.below hb, fun j v hv => kept_cell hb (h.signs j v hv)⟩
def signAt (i : Nat) : Nat × List Nat := signL.getD i (0, [])
theorem sign_index (i : Nat) (h : i < 20) (w : World) : (Instr.index 89 (.agg signCells.toArray) (.int .i64 (i : Nat))).run Tryz.prog w = .ok (.agg #[.int .i64 ((signAt i).1 : Nat), .string (T (signAt i).2), .int .i64 0]) w := by
  rcases (show i = 0 ∨ i = 1 ∨ i = 2 ∨ i = 3 ∨ i = 4 ∨ i = 5 ∨ i = 6 ∨ i = 7 ∨ i = 8 ∨ i = 9 ∨ i = 10 ∨ i = 11 ∨ i = 12 ∨ i = 13 ∨ i = 14 ∨ i = 15 ∨ i = 16 ∨ i = 17 ∨ i = 18 ∨ i = 19 by omega) with rfl | rfl | rfl | rfl | rfl | rfl | rfl | rfl | rfl | rfl | rfl | rfl | rfl | rfl | rfl | rfl | rfl | rfl | rfl | rfl
  all_goals kernel_rfl
/-- What tokenAhead tells. -/
def tokV (o : Option Tok) : Value := match o with
  | some t => .tuple #[.agg #[.int .i64 (t.kind : Nat), .string (T t.text), .int .i64 0], .int .i64 ((T t.raw).size : Nat)]
  | none => .tuple #[.agg #[.int .i64 0, .string ⟨#[]⟩, .int .i64 0], .int .i64 0]
theorem ret_tok {o p : Option Tok} {v : Value} (h : o = p) (hv : v = tokV p) : Ending.returned v = .returned (tokV o) := by rw [h, hv]
theorem tok_str {l t : List Nat} (pl : Bool) (hn : numA l = []) (h : strAny l = some t) : ∃ q, q < 128 ∧ tokA l pl = some ⟨2, t, q :: t ++ [q]⟩ := by
  unfold strAny at h
  split at h
  · rename_i x hx
    cases h
    exact ⟨34, by decide, tokA_str34 pl hn hx⟩
  · rename_i hx
    exact ⟨39, by decide, tokA_str39 pl hn hx h⟩
theorem str_none {l : List Nat} (h : strAny l = none) : strAt 34 l = none ∧ strAt 39 l = none := by
  unfold strAny at h
  split at h
  · cases h
  · rename_i hx; exact ⟨hx, h⟩
theorem sz_quoted {q : Nat} (hq : q < 128) (t : List Nat) : (T (q :: t ++ [q])).size = (T t).size + 2 := by
  rw [List.cons_append, sz_cons hq, sz_app, sz_cons hq]
  have : (T []).size = 0 := rfl
  omega
theorem str_size {l t : List Nat} (h : strAny l = some t) : (T t).size + 2 ≤ (T l).size := by
  have key : ∀ q, q < 128 → strAt q l = some t → (T t).size + 2 ≤ (T l).size := by
    intro q hq h
    have := size_pre (strAt_some h).2
    rw [sz_quoted hq] at this
    exact this
  unfold strAny at h
  split at h
  · rename_i x hx
    cases h
    exact key 34 (by decide) hx
  · exact key 39 (by decide) h
theorem var_size {l t : List Nat} (h : varA l = some t) : (T t).size + 1 ≤ (T l).size ∧ okL t ∨ ¬ okL l := by
  by_cases hl : okL l
  · left
    unfold varA at h
    split at h
    · rename_i hh
      rw [Bool.and_eq_true] at hh
      cases h
      have h1 : (T l).size = 1 + (T l.tail).size := by
        conv => lhs; rw [heads_true hh.1]
        exact sz_cons (by decide) _
      have h2 := size_pre (qnameA_pre l.tail)
      exact ⟨by omega, okL_pre (okL_tl hl) (qnameA_pre _)⟩
    · cases h
  · exact .inr hl
theorem sign_len : signL.length = 20 := by decide
theorem sign_get {k : Nat} (h : k < 20) : signL[k]'(by rw [sign_len]; exact h) = signAt k := by
  unfold signAt
  rw [List.getD_eq_getElem?_getD, List.getElem?_eq_getElem (by rw [sign_len]; exact h)]
  rfl
theorem sign_find {l : List Nat} {k : Nat} (h : k < 20) (hno : ∀ j, j < k → (signAt j).2.isPrefixOf l = false) (hk : (signAt k).2.isPrefixOf l = true) : signA l = some (signAt k) := by
  unfold signA
  rw [List.find?_eq_some_iff_append]
  refine ⟨hk, signL.take k, signL.drop (k + 1), ?_, ?_⟩
  · have := List.take_append_drop k signL
    conv => lhs; rw [← this]
    rw [List.drop_eq_getElem_cons (by rw [sign_len]; exact h), sign_get h]
  · intro x hx
    obtain ⟨j, hj, rfl⟩ := List.getElem_of_mem hx
    rw [List.length_take, sign_len] at hj
    rw [List.getElem_take, sign_get (by omega), hno j (by omega)]
    rfl
theorem sign_none {l : List Nat} (hno : ∀ j, j < 20 → (signAt j).2.isPrefixOf l = false) : signA l = none := by
  unfold signA
  rw [List.find?_eq_none]
  intro x hx
  obtain ⟨j, hj, rfl⟩ := List.getElem_of_mem hx
  rw [sign_len] at hj
  rw [sign_get hj, hno j hj]
  decide
theorem sign_asc {k : Nat} (h : k < 20) : (∀ c ∈ (signAt k).2, c < 128) ∧ (T (signAt k).2).data.toList = (signAt k).2.map UInt8.ofNat ∧ (T (signAt k).2).size ≤ 2 := by
  have hm : ∀ x ∈ signL, (∀ c ∈ x.2, c < 128) ∧ tx x.2 = x.2.map UInt8.ofNat ∧ (tx x.2).length ≤ 2 := by decide +kernel
  have := hm _ (List.getElem_mem (by rw [sign_len]; exact h) : signL[k]'(by rw [sign_len]; exact h) ∈ signL)
  rw [sign_get h] at this
  exact ⟨this.1, by rw [T_data]; exact this.2.1, this.2.2⟩
set_option maxRecDepth 100000 in
set_option maxHeartbeats 4000000 in
theorem tokenAhead_any (l : List Nat) (pl : Bool) (w : World) (hl : okL l) (hs : (T l).size ≤ 512) (hE : Env5 w) :
    Calls Tryz.prog 23 #[.string (T l), plV pl] w fun e w' => e = .returned (tokV (tokA l pl)) ∧ Below w.heap.size w w' := by
  have hw1 : Below w.heap.size w (w.alloc (.cells #[.int .i64 0, .string .empty, .int .i64 0] 62)) := (Below.refl _ _).alloc (Nat.le_refl _) _
  have hn1 := LexAt.new w 0 0 ⟨#[]⟩ 62
  have HN1 := hide hn1
  have HE := hide hE
  clear hn1 hE
  go_enter Tryz.func23, Tryz.ntmps23
  go_wp2_with fail
  refine (numberAhead_any l _ hl hs).mono ?_
  rintro e w2 ⟨rfl, hb2⟩
  have hbb2 := Below.then hw1 hb2
  have hn2 := (unhide HN1).below hb2
  have HN2 := hide hn2
  obtain ⟨c0, c1, c2, o0, o1, o2⟩ := hn2
  by_cases hn : numA l = []
  · have h1 := nil_T hn
    have HN := hide hn
    clear hn
    go_wp2_with fail
    refine (stringAhead_any l _ hl hs ((unhide HE).env.below hbb2)).mono ?_
    rintro e w3 ⟨⟨x, b, rfl, hx⟩, hb3⟩
    have hbb3 := Below.then hbb2 hb3
    have hn3 := (unhide HN2).below hb3
    have HN3 := hide hn3
    clear c0 c1 c2 o0 o1 o2
    obtain ⟨c0, c1, c2, o0, o1, o2⟩ := hn3
    rcases hx with ⟨t, ho, rfl, rfl⟩ | ⟨ho, rfl⟩
    · obtain ⟨q, hq, htk⟩ := tok_str pl (unhide HN) ho
      have hsz := str_size ho
      have HT := hide htk
      have HQ := hide (sz_quoted hq t)
      clear ho htk
      go_wp2
      refine bodyPost_ret (v := tokV (some ⟨2, t, q :: t ++ [q]⟩)) (by simp [results, Tryz.results23, go_sem, tokV, c0, c1, c2]; rw [← List.cons_append, unhide HQ]; rfl) rfl ?_
      exact ⟨ret_tok (unhide HT) rfl, ((hbb3.setCell (Nat.le_refl _) _).setCell (Nat.le_refl _) _).setCell (Nat.le_refl _) _⟩
    · obtain ⟨hs34, hs39⟩ := str_none ho
      have HS34 := hide hs34
      have HS39 := hide hs39
      clear ho hs34 hs39
      go_wp2_with fail
      refine (variableAhead_any l _ hl hs).mono ?_
      rintro e w4 ⟨⟨x, b, rfl, hx⟩, hb4⟩
      have hbb4 := Below.then hbb3 hb4
      have hn4 := (unhide HN3).below hb4
      have HN4 := hide hn4
      clear c0 c1 c2 o0 o1 o2
      obtain ⟨c0, c1, c2, o0, o1, o2⟩ := hn4
      rcases hx with ⟨t, ho, rfl, rfl⟩ | ⟨ho, rfl⟩
      · have hsz : (T t).size + 1 ≤ (T l).size := by
          rcases var_size ho with h | h
          · exact h.1
          · exact absurd hl h
        have HT := hide (tokA_var pl (unhide HN) (unhide HS34) (unhide HS39) ho)
        have HQ := hide (sz_cons (c := 36) (by decide) t)
        clear ho
        go_wp2
        refine bodyPost_ret (v := tokV (some ⟨7, t, 36 :: t⟩)) (by simp [results, Tryz.results23, go_sem, tokV, c0, c1, c2]; rw [unhide HQ]; omega) rfl ?_
        exact ⟨ret_tok (unhide HT) rfl, ((hbb4.setCell (Nat.le_refl _) _).setCell (Nat.le_refl _) _).setCell (Nat.le_refl _) _⟩
      · have HV := hide ho
        clear ho
        have hzw := size_pre (wordA_pre l)
        have HSF := hide (suf_drop (wordA_pre l))
        have how := okL_pre hl (wordA_pre l)
        go_wp2_with fail
        refine (wordAhead_any l _ hl hs ((unhide HE).env.below hbb4)).mono ?_
        rintro e w5 ⟨rfl, hb5⟩
        have hbb5 := Below.then hbb4 hb5
        have hn5 := (unhide HN4).below hb5
        have HN5 := hide hn5
        clear c0 c1 c2 o0 o1 o2
        obtain ⟨c0, c1, c2, o0, o1, o2⟩ := hn5
        by_cases hw : wordA l = []
        · have h2 := nil_T hw
          have HW := hide (tokA_sign pl (unhide HN) (unhide HS34) (unhide HS39) (unhide HV) hw)
          have HSG := hide ((unhide HE).below hbb5).signs
          clear hw
          go_wp2_with (refine wpList_load_mid rfl 89 _ rfl 0 0 rfl signCells _ (unhide HSG) Tryz.underlying89 rfl (by kernel_rfl) ?_)
          have hix := sign_index
          generalize signCells.toArray = sv at *
          go_loopw [58] (fun v wr => ∃ k : Nat, v = .int .i64 (k : Nat) ∧ k ≤ 20 ∧ (∀ j, j < k → (signAt j).2.isPrefixOf l = false) ∧ LexAt wr w.heap.size 0 ⟨#[]⟩ 0 ∧ Below w.heap.size w wr) (fun v _ => 20 - (intOf v).toNat)
          case atStart => exact ⟨0, rfl, by omega, (fun j hj => absurd hj (by omega)), unhide HN5, hbb5⟩
          case round =>
            clear c0 c1 c2 o0 o1 o2
            obtain ⟨k, rfl, hk, hno, hlx, hbr⟩ := hrel
            have HNO := hide hno
            have HLX := hide hlx
            clear hno hlx
            by_cases hk20 : k < 20
            · have hi := hix k hk20
              obtain ⟨ha1, ha2, ha3⟩ := sign_asc hk20
              have HA1 := hide ha1
              have HA2 := hide ha2
              clear ha1 ha2 hix
              have HF := hide (fun h => sign_find hk20 (unhide HNO) h)
              have HSN : Hid (∀ j, j < k + 1 → (signAt k).2.isPrefixOf l = false → (signAt j).2.isPrefixOf l = false) := hide fun j hj h => by
                by_cases hjk : j = k
                · rw [hjk]; exact h
                · exact unhide HNO j (by omega)
              generalize signAt k = sg at *
              obtain ⟨kk, xx⟩ := sg
              simp only at hi ha3
              have hba : Below wr.heap.size wr (wr.alloc (.cells #[.int .i64 (kk : Nat), .string (T xx), .int .i64 0] 62)) := (Below.refl _ _).alloc (Nat.le_refl _) _
              have hlx := (unhide HLX).below hba
              have hbr2 := Below.then hbr hba
              have HLA := hide hlx
              obtain ⟨c0, c1, c2, o0, o1, o2⟩ := hlx
              go_wp2_with fail
              refine (hasPrefix_T xx _ (unhide HA2) (unhide HA1) l hl _).mono ?_
              rintro e w6 ⟨rfl, rfl⟩
              cases hp : xx.isPrefixOf l
              · have HP := hide hp
                clear hp
                go_wp2
                refine ⟨⟨k + 1, by go_num, by omega, fun j hj => unhide HSN j hj (unhide HP), unhide HLA, hbr2⟩, by simp [intOf]; omega⟩
              · have HP := hide hp
                clear hp
                go_wp2_with fail
                have hlt : w.heap.size < wr.heap.size := block_lt_of_cell (unhide HLX).c0
                clear c0 c1 c2 o0 o1 o2
                obtain ⟨c0, c1, c2, o0, o1, o2⟩ := unhide HLX
                go_region
                all_goals (try go_wp2)
                refine bodyPost_ret (v := tokV (some ⟨kk, xx, xx⟩)) (by simp [results, Tryz.results23, go_sem, tokV, c0, c1, c2, hlt]) rfl ?_
                exact ⟨ret_tok (by rw [unhide HW, unhide HF (unhide HP)]; rfl) rfl, ((((hbr.setCell (Nat.le_refl _) _).setCell (Nat.le_refl _) _).setCell (Nat.le_refl _) _).alloc (by simp; omega) _).drew⟩
            · obtain rfl : k = 20 := by omega
              obtain ⟨c0, c1, c2, o0, o1, o2⟩ := unhide HLX
              go_wp2
              refine bodyPost_ret (v := tokV none) (by simp [results, Tryz.results23, go_sem, tokV, c0, c1, c2]) rfl ?_
              exact ⟨ret_tok (by rw [unhide HW, sign_none (unhide HNO)]; rfl) rfl, ((hbr.setCell (Nat.le_refl _) _).setCell (Nat.le_refl _) _).setCell (Nat.le_refl _) _⟩
        · have h2 := ne_T how hw
          have HW := hide (tokA_word pl (unhide HN) (unhide HS34) (unhide HS39) (unhide HV) hw)
          have hod := okL_drop hl (wordA l).length
          have hsd : (T (l.drop (wordA l).length)).size ≤ 512 := by
            have := sz_app (wordA l) (l.drop (wordA l).length)
            rw [pre_drop (wordA_pre l)] at this
            omega
          clear hw
          generalize wordA l = x at *
          generalize l.drop x.length = d at *
          go_wp2_with fail
          rw [unhide HSF]
          refine (wordToken_any x d pl _ how hod (by omega) hsd ((unhide HE).env.below hbb5)).mono ?_
          rintro e w6 ⟨rfl, hb6⟩
          have hbb6 := Below.then hbb5 hb6
          clear c0 c1 c2 o0 o1 o2
          obtain ⟨c0, c1, c2, o0, o1, o2⟩ := (unhide HN5).below hb6
          cases hk : wordK x d pl with
          | none =>
            have HK := hide hk
            clear hk
            rw [show wordV none x = .tuple #[.agg #[.int .i64 0, .string ⟨#[]⟩, .int .i64 0], .int .i64 0] from rfl]
            go_wp2
            refine bodyPost_ret (v := tokV none) (by simp [results, Tryz.results23, go_sem, tokV, c0, c1, c2]) rfl ?_
            exact ⟨ret_tok (by rw [unhide HW, unhide HK]; rfl) rfl, ((hbb6.setCell (Nat.le_refl _) _).setCell (Nat.le_refl _) _).setCell (Nat.le_refl _) _⟩
          | some k =>
            have HK := hide hk
            clear hk
            rw [show wordV (some k) x = .tuple #[.agg #[.int .i64 (k : Nat), .string (T x), .int .i64 0], .int .i64 ((T x).size : Nat)] from rfl]
            go_wp2
            refine bodyPost_ret (v := tokV (some ⟨k, x, x⟩)) (by simp [results, Tryz.results23, go_sem, tokV, c0, c1, c2]) rfl ?_
            exact ⟨ret_tok (by rw [unhide HW, unhide HK]; rfl) rfl, ((hbb6.setCell (Nat.le_refl _) _).setCell (Nat.le_refl _) _).setCell (Nat.le_refl _) _⟩
  · have h1 := ne_T (okL_pre hl (numA_pre l)) hn
    have HT := hide (tokA_num pl hn)
    clear hn
    go_wp2
    refine bodyPost_ret (v := tokV (some ⟨1, numA l, numA l⟩)) (by simp [results, Tryz.results23, go_sem, tokV, c0, c1, c2]) rfl ?_
    exact ⟨ret_tok (unhide HT) rfl, ((hbb2.setCell (Nat.le_refl _) _).setCell (Nat.le_refl _) _).setCell (Nat.le_refl _) _⟩
end Go.Proofs.YthkkfldmoflfaaaGreatDoor
/- What may stand behind the tokens that were read, and the first character that may not be: xplex's placeBehind and firstBad. -/
namespace Go.Proofs.YthkkfldmoflfaaaGreatDoor
open Go.RowKit
theorem placeBehind_nil (a : Option Addr) (c : Nat) (w : World) :
    Calls Tryz.prog 24 #[.slice a 0 c] w fun e w' => e = .returned (plV false) ∧ w' = w := by
  go_enter Tryz.func24, Tryz.ntmps24
  go_wp2
  go_ret
  exact ⟨rfl, rfl⟩
set_option maxHeartbeats 1000000 in
theorem placeBehind_last (g n cap : Nat) (k : Nat) (x : List Nat) (at' : Int) (w : World) (hx : okL x) (hn : n < 100000) (hk : k ≤ 9)
    (c0 : w.cell? ⟨g, n * 3, none⟩ = some (.int .i64 (k : Nat))) (c1 : w.cell? ⟨g, n * 3 + 1, none⟩ = some (.string (T x))) (c2 : w.cell? ⟨g, n * 3 + 2, none⟩ = some (.int .i64 at')) :
    Calls Tryz.prog 24 #[.slice (some ⟨g, 0, none⟩) (n + 1) cap] w fun e w' => e = .returned (plV (behindOp ⟨k, x, []⟩)) ∧ Below w.heap.size w w' := by
  have h1 := eq_asc hx [64] [64] rfl (by decide +kernel)
  have h2 := eq_asc hx [58, 58] [58, 58] rfl (by decide +kernel)
  have h3 := eq_asc hx [40] [40] rfl (by decide +kernel)
  have h4 := eq_asc hx [91] [91] rfl (by decide +kernel)
  have h5 := eq_asc hx [44] [44] rfl (by decide +kernel)
  have hO : behindOp ⟨k, x, []⟩ = !(k == 8 || (k == 9 && (x == [64] || x == [58, 58] || x == [40] || x == [91] || x == [44]))) := rfl
  have HO := hide hO
  clear hO
  generalize (x == [64]) = b1 at *
  generalize (x == [58, 58]) = b2 at *
  generalize (x == [40]) = b3 at *
  generalize (x == [91]) = b4 at *
  generalize (x == [44]) = b5 at *
  by_cases h8 : k = 8
  · subst h8
    go_enter Tryz.func24, Tryz.ntmps24
    go_wp2
    go_ret
    exact ⟨ret_int (by rw [unhide HO]; rfl), (Below.refl _ _).alloc (Nat.le_refl _) _⟩
  · by_cases h9 : k = 9
    · subst h9
      go_enter Tryz.func24, Tryz.ntmps24
      cases b1
      · cases b2
        · cases b3
          · cases b4
            · cases b5
              all_goals
                go_wp2
                go_ret
                exact ⟨ret_int (by rw [unhide HO]; rfl), (Below.refl _ _).alloc (Nat.le_refl _) _⟩
            · go_wp2
              go_ret
              exact ⟨ret_int (by rw [unhide HO]; rfl), (Below.refl _ _).alloc (Nat.le_refl _) _⟩
          · go_wp2
            go_ret
            exact ⟨ret_int (by rw [unhide HO]; rfl), (Below.refl _ _).alloc (Nat.le_refl _) _⟩
        · go_wp2
          go_ret
          exact ⟨ret_int (by rw [unhide HO]; rfl), (Below.refl _ _).alloc (Nat.le_refl _) _⟩
      · go_wp2
        go_ret
        exact ⟨ret_int (by rw [unhide HO]; rfl), (Below.refl _ _).alloc (Nat.le_refl _) _⟩
    · have g8 : ((k : Int) == 8) = false := by simp; omega
      have g9 : ((k : Int) == 9) = false := by simp; omega
      have f8 : (k == 8) = false := by simpa using h8
      have f9 : (k == 9) = false := by simpa using h9
      have F8 := hide f8
      have F9 := hide f9
      clear f8 f9
      go_enter Tryz.func24, Tryz.ntmps24
      go_wp2
      go_ret
      exact ⟨ret_int (by rw [unhide HO, unhide F8, unhide F9]; rfl), (Below.refl _ _).alloc (Nat.le_refl _) _⟩
set_option maxHeartbeats 1000000 in
theorem firstBad_any (s : ByteArray) (w : World) :
    Calls Tryz.prog 21 #[.string s] w fun e w' => (∃ k b, e = .returned (.tuple #[.int .i64 k, .bool b]) ∧ (b = false ↔ (fault s).1 = 0)) ∧ Below w.heap.size w w' := by
  go_enter Tryz.func21, Tryz.ntmps21
  go_wp2_with fail
  go_loopw [] (fun w' => ∃ (pos f : Nat), w' = w.iter s pos ∧ fault s = faultFrom s f pos ∧ s.size < pos + f) (fun w' => s.size - w'.iterPos w.heap.size)
  case atStart => exact ⟨0, s.size + 1, rfl, rfl, by omega⟩
  case round =>
    obtain ⟨pos, f, rfl, hf, hb⟩ := hrel
    by_cases hp : pos < s.size
    · have hnx : ∀ ty, (Instr.next (.pointer (some ⟨w.heap.size, 0, none⟩)) true ty).run Tryz.prog (w.iter s pos) = _ := fun ty => run_next_any w s pos ty hp
      have hwd := width_pos s pos hp
      obtain ⟨g, rfl, hg⟩ := faultFrom_step s f pos hp hb
      have HF := hide (hf.trans hg)
      clear hf hg
      go_wp2_with (first | (go_at_call 37; refine (hasMark_any s pos _).mono ?_; rintro e w' ⟨rfl, rfl⟩) | (go_at_call 38; refine (isChar_any _ _).mono ?_; rintro e w' ⟨rfl, rfl⟩))
      all_goals first
        | (go_ret2
           refine ⟨⟨_, _, rfl, ?_⟩, (Below.refl _ _).alloc (Nat.le_refl _) _⟩
           rw [unhide HF]
           simp_all; done)
        | (refine ⟨⟨_, g, rfl, ?_, by omega⟩, by simp; omega⟩
           rw [unhide HF]
           simp_all; done)
    · have hnx : ∀ ty, (Instr.next (.pointer (some ⟨w.heap.size, 0, none⟩)) true ty).run Tryz.prog (w.iter s pos) = _ := fun ty => run_next_end w s pos ty hp
      have HF := hide (hf.trans (faultFrom_end s f pos hp))
      clear hf
      go_wp2
      go_ret2
      exact ⟨⟨_, _, rfl, by rw [unhide HF]; simp⟩, (Below.refl _ _).alloc (Nat.le_refl _) _⟩
end Go.Proofs.YthkkfldmoflfaaaGreatDoor
/- Tokens in memory, one behind the other. -/
namespace Go.Proofs.YthkkfldmoflfaaaGreatDoor
open Go.RowKit
def lexRow (ts : List (Tok × Nat)) : List Value := ts.flatMap fun x => [.int .i64 (x.1.kind : Nat), .string (T x.1.text), .int .i64 (x.2 : Nat)]
abbrev OwnL (w : World) (B : Nat) (v : Value) (ts : List (Tok × Nat)) : Prop := w.ownsRow B 62 3 v ts.length (lexRow ts)
theorem lexRow_snoc (ts : List (Tok × Nat)) (x : Tok × Nat) : lexRow (ts ++ [x]) = lexRow ts ++ [.int .i64 (x.1.kind : Nat), .string (T x.1.text), .int .i64 (x.2 : Nat)] := by
  unfold lexRow; rw [List.flatMap_append]; simp
theorem lexRow_at : ∀ (ts : List (Tok × Nat)) (i : Nat) (x : Tok × Nat), ts[i]? = some x → (lexRow ts)[i * 3]? = some (.int .i64 (x.1.kind : Nat)) ∧ (lexRow ts)[i * 3 + 1]? = some (.string (T x.1.text)) ∧ (lexRow ts)[i * 3 + 2]? = some (.int .i64 (x.2 : Nat))
  | [], i, x, h => by simp at h
  | y :: ts, 0, x, h => by
    simp at h; subst h
    exact ⟨rfl, rfl, rfl⟩
  | y :: ts, i + 1, x, h => by
    have := lexRow_at ts i x (by simpa using h)
    have e : ∀ j, (lexRow (y :: ts))[(i + 1) * 3 + j]? = (lexRow ts)[i * 3 + j]? := by
      intro j
      rw [show (i + 1) * 3 + j = (i * 3 + j) + 3 by omega]
      rfl
    have e0 := e 0
    rw [Nat.add_zero, Nat.add_zero] at e0
    rw [e0, e 1, e 2]
    exact this
theorem own_cells {w : World} {B : Nat} {v : Value} {ts : List (Tok × Nat)} (h : OwnL w B v ts) : (ts = [] ∧ ∃ a c, v = .slice a 0 c) ∨ ∃ g cap, v = .slice (some ⟨g, 0, none⟩) ts.length cap ∧ B ≤ g ∧ g < w.heap.size ∧ ts.length ≤ cap ∧
    ∀ i x, ts[i]? = some x → w.cell? ⟨g, i * 3, none⟩ = some (.int .i64 (x.1.kind : Nat)) ∧ w.cell? ⟨g, i * 3 + 1, none⟩ = some (.string (T x.1.text)) ∧ w.cell? ⟨g, i * 3 + 2, none⟩ = some (.int .i64 (x.2 : Nat)) := by
  have hc := @World.ownsRow.cells _ _ _ _ _ _ _ h
  rcases h.2 with ⟨rfl, h0⟩ | ⟨g, cap, cur, rfl, h2, h3, h4⟩
  · exact .inl ⟨List.length_eq_zero_iff.1 h0, none, 0, rfl⟩
  · refine .inr ⟨g, cap, rfl, h2, (Array.getElem?_eq_some_iff.1 h3).1, by omega, fun i x hx => ?_⟩
    obtain ⟨r0, r1, r2⟩ := lexRow_at ts i x hx
    have a0 := hc (g := g) rfl _ _ r0
    have a1 := hc (g := g) rfl _ _ r1
    have a2 := hc (g := g) rfl _ _ r2
    rw [Addr.add_mid, Nat.zero_add] at a0 a1 a2
    exact ⟨a0, a1, a2⟩
def okToks (ts : List (Tok × Nat)) : Prop := ∀ x ∈ ts, okL x.1.text ∧ x.1.kind ≤ 9
theorem placeBehind_own (B : Nat) (v : Value) (ts : List (Tok × Nat)) (w : World) (h : OwnL w B v ts) (hk : okToks ts) (hn : ts.length ≤ 10000) :
    Calls Tryz.prog 24 #[v] w fun e w' => e = .returned (plV (plOf ts)) ∧ Below w.heap.size w w' := by
  rcases own_cells h with ⟨rfl, a, c, rfl⟩ | ⟨g, cap, rfl, _, _, _, hc⟩
  · refine (placeBehind_nil a c w).mono ?_
    rintro e w' ⟨rfl, rfl⟩
    exact ⟨rfl, Below.refl _ _⟩
  · rcases List.eq_nil_or_concat ts with rfl | ⟨us, x, rfl⟩
    · refine (placeBehind_nil (some ⟨g, 0, none⟩) cap w).mono ?_
      rintro e w' ⟨rfl, rfl⟩
      exact ⟨rfl, Below.refl _ _⟩
    · have hx := hk x (by simp)
      obtain ⟨c0, c1, c2⟩ := hc us.length x (by simp)
      have hl : (us.concat x).length = us.length + 1 := by simp
      rw [hl] at hn ⊢
      rw [show us.concat x = us ++ [x] by simp, plOf_snoc]
      exact placeBehind_last g us.length cap x.1.kind x.1.text x.2 w hx.1 (by omega) hx.2 c0 c1 c2
/-- A text's tokens: all of them, or the place of what is none. -/
def scanOf (cs : List Nat) : Except Nat (List (Tok × Nat)) := scanA (fun l => (tx l).length) (cs.length + 1) [] [] cs
theorem dropWhile_twice (l : List Nat) : (l.dropWhile blankC).dropWhile blankC = l.dropWhile blankC ∧ (l.dropWhile blankC).takeWhile blankC = [] := by
  have := drop_blanks (b := []) (x := l.dropWhile blankC) (fun _ h => by cases h) (blanks_ahead l)
  simpa using this
theorem scan_skip (n : List Nat → Nat) (f : Nat) (acc : List (Tok × Nat)) (pre l : List Nat) : scanA n (f + 1) acc pre l = scanA n (f + 1) acc (pre ++ l.takeWhile blankC) (l.dropWhile blankC) := by
  rw [scanA, scanA, (dropWhile_twice l).1, (dropWhile_twice l).2, List.append_nil]
theorem tok_kind {l : List Nat} {pl : Bool} {t : Tok} (h : tokA l pl = some t) : t.kind ≤ 9 := by
  rcases tokA_cases h with ⟨hn, rfl⟩ | ⟨q, x, hq, hs, rfl⟩ | ⟨x, hv, rfl⟩ | ⟨k, hw, hk, rfl⟩ | ⟨k, x, hn, hw, hk, rfl⟩
  · show 1 ≤ 9; omega
  · show 2 ≤ 9; omega
  · show 7 ≤ 9; omega
  · show k ≤ 9
    unfold wordK at hk
    repeat' split at hk
    all_goals first | (cases hk; omega) | cases hk
  · show k ≤ 9
    have := (signA_mem hk).1
    simp [signL] at this
    omega
theorem tok_ok {l : List Nat} {pl : Bool} {t : Tok} (hl : okL l) (h : tokA l pl = some t) : okL t.text ∧ okL t.raw := by
  obtain ⟨hf, hp⟩ := tokA_formed h
  have hr := okL_pre hl hp
  refine ⟨?_, hr⟩
  rcases hf with ⟨_, q, _, _, e⟩ | ⟨_, e, _⟩ | ⟨_, _, e, _⟩
  · intro c hc; exact hr c (by rw [e]; simp [hc])
  · intro c hc; exact hr c (by rw [e]; simp [hc])
  · rw [e] at hr; exact hr
end Go.Proofs.YthkkfldmoflfaaaGreatDoor
/- Tokens ahead of a ')' or a ',' are scanned as they stand alone. -/
namespace Go.Proofs.YthkkfldmoflfaaaGreatDoor
/-- What is empty, or begins with ')' or ','. -/
def ends4 (R : List Nat) : Prop := ∀ c, R.head? = some c → c = 41 ∨ c = 44
theorem ends4_41 (R : List Nat) : ends4 (41 :: R) := fun c h => by cases h; exact .inl rfl
theorem ends4_44 (R : List Nat) : ends4 (44 :: R) := fun c h => by cases h; exact .inr rfl
theorem takeWhile_ext (p : Nat → Bool) (m R : List Nat) (h : ∀ c, R.head? = some c → p c = false) : (m ++ R).takeWhile p = m.takeWhile p := by
  induction m with
  | nil =>
    cases R with
    | nil => rfl
    | cons c r => rw [List.nil_append, List.takeWhile_cons_of_neg (by rw [h c rfl]; decide)]; rfl
  | cons a m ih =>
    rw [List.cons_append]
    cases ha : p a with
    | true => rw [List.takeWhile_cons_of_pos ha, List.takeWhile_cons_of_pos ha, ih]
    | false => rw [List.takeWhile_cons_of_neg (by rw [ha]; decide), List.takeWhile_cons_of_neg (by rw [ha]; decide)]
theorem ends4_not {R : List Nat} (h : ends4 R) {p : Nat → Bool} (h1 : p 41 = false) (h2 : p 44 = false) : ∀ c, R.head? = some c → p c = false := fun c hc => by
  rcases h c hc with rfl | rfl
  · exact h1
  · exact h2
theorem heads_ext {R : List Nat} (h : ends4 R) {c : Nat} (h1 : c ≠ 41) (h2 : c ≠ 44) (x : List Nat) : heads c (x ++ R) = heads c x := by
  cases x with
  | nil =>
    rw [List.nil_append, heads_nil]
    cases R with
    | nil => rfl
    | cons d r =>
      rw [heads_cons]
      rcases h d rfl with rfl | rfl <;> simp <;> omega
  | cons d x => rw [List.cons_append, heads_cons, heads_cons]
theorem drop_ext {m R a : List Nat} (h : a <+: m) : (m ++ R).drop a.length = m.drop a.length ++ R := List.drop_append_of_le_length h.length_le
theorem tail_ext {x R : List Nat} (h : x ≠ []) : (x ++ R).tail = x.tail ++ R := by
  cases x with
  | nil => exact absurd rfl h
  | cons d x => rfl
theorem heads_ne {c : Nat} {x : List Nat} (h : heads c x = true) : x ≠ [] := fun e => by rw [e] at h; cases h
theorem digsA_ext {R : List Nat} (h : ends4 R) (m : List Nat) : digsA (m ++ R) = digsA m := takeWhile_ext digC m R (ends4_not h rfl rfl)
theorem digsA_prefix (l : List Nat) : digsA l <+: l := List.takeWhile_prefix _
theorem numA_ext {R : List Nat} (h : ends4 R) (m : List Nat) : numA (m ++ R) = numA m := by
  unfold numA
  rw [digsA_ext h, drop_ext (digsA_prefix m), heads_ext h (by decide) (by decide)]
  cases hh : heads 46 (m.drop (digsA m).length) with
  | false => rfl
  | true => rw [tail_ext (heads_ne hh), digsA_ext h]
theorem beg41 : begC 41 = false := by decide
theorem beg44 : begC 44 = false := by decide
theorem nameA_ext {R : List Nat} (h : ends4 R) (m : List Nat) : nameA (m ++ R) = nameA m := by
  cases m with
  | nil =>
    cases R with
    | nil => rfl
    | cons c r =>
      rcases h c rfl with rfl | rfl
      · exact nameA_no beg41 r
      · exact nameA_no beg44 r
  | cons a m => rw [List.cons_append, nameA, nameA, takeWhile_ext goC m R (ends4_not h (by decide) (by decide))]
theorem qnameA_ext {R : List Nat} (h : ends4 R) (m : List Nat) : qnameA (m ++ R) = qnameA m := by
  unfold qnameA
  rw [nameA_ext h, drop_ext (nameA_pre m), heads_ext h (by decide) (by decide)]
  cases hh : heads 58 (m.drop (nameA m).length) with
  | false => simp
  | true => rw [tail_ext (heads_ne hh), nameA_ext h]
theorem pre2_ext {R : List Nat} (h : ends4 R) {a b : Nat} (ha : a ≠ 41 ∧ a ≠ 44) (hb : b ≠ 41 ∧ b ≠ 44) (x : List Nat) : [a, b].isPrefixOf (x ++ R) = [a, b].isPrefixOf x := by
  have hd : ∀ c, c ≠ 41 ∧ c ≠ 44 → ∀ d r, R = d :: r → (c == d) = false := fun c hc d r e => by
    rcases h d (by rw [e]; rfl) with rfl | rfl <;> simp <;> omega
  cases x with
  | nil =>
    cases hR : R with
    | nil => rfl
    | cons d r =>
      show ((a == d) && [b].isPrefixOf r) = false
      rw [hd a ha d r hR, Bool.false_and]
  | cons c x =>
    cases x with
    | nil =>
      cases hR : R with
      | nil => rfl
      | cons d r =>
        show ((a == c) && ((b == d) && [].isPrefixOf r)) = ((a == c) && false)
        rw [hd b hb d r hR, Bool.false_and]
    | cons c2 x => rfl
theorem wordA_ext {R : List Nat} (h : ends4 R) (m : List Nat) : wordA (m ++ R) = wordA m := by
  unfold wordA
  rw [heads_ext h (by decide) (by decide), qnameA_ext h, drop_ext (qnameA_pre m), pre2_ext h (by decide) (by decide)]
theorem varA_ext {R : List Nat} (h : ends4 R) (m : List Nat) : varA (m ++ R) = varA m := by
  unfold varA
  rw [heads_ext h (by decide) (by decide)]
  cases hh : heads 36 m with
  | false => rfl
  | true => rw [tail_ext (heads_ne hh), qnameA_ext h]
theorem dropB_ext {R : List Nat} (h : ends4 R) (b : List Nat) : (b ++ R).dropWhile blankC = b.dropWhile blankC ++ R := by
  induction b with
  | nil =>
    cases R with
    | nil => rfl
    | cons c r =>
      rw [List.nil_append, List.dropWhile_cons_of_neg (by rcases h c rfl with rfl | rfl <;> decide)]
      rfl
  | cons a b ih =>
    rw [List.cons_append]
    cases ha : blankC a with
    | true => rw [List.dropWhile_cons_of_pos ha, List.dropWhile_cons_of_pos ha, ih]
    | false => rw [List.dropWhile_cons_of_neg (by rw [ha]; decide), List.dropWhile_cons_of_neg (by rw [ha]; decide)]; rfl
theorem wordK_ext {R : List Nat} (h : ends4 R) (w b : List Nat) (pl : Bool) : wordK w (b ++ R) pl = wordK w b pl := by
  unfold wordK
  rw [dropB_ext h, heads_ext h (by decide) (by decide), pre2_ext h (by decide) (by decide)]
theorem find_cong {α : Type} {p q : α → Bool} : ∀ {l : List α}, (∀ x ∈ l, p x = q x) → l.find? p = l.find? q
  | [], _ => rfl
  | a :: l, h => by
    rw [List.find?_cons, List.find?_cons, h a (by simp), find_cong (l := l) fun x hx => h x (List.mem_cons_of_mem _ hx)]
theorem signA_ext {R : List Nat} (h : ends4 R) {m : List Nat} (hm : m ≠ []) : signA (m ++ R) = signA m := by
  unfold signA
  have h1 : ∀ a, [a].isPrefixOf (m ++ R) = [a].isPrefixOf m := fun a => by
    cases m with
    | nil => exact absurd rfl hm
    | cons c m => rfl
  refine find_cong fun x hx => ?_
  simp only [signL, List.mem_cons, List.not_mem_nil, or_false] at hx
  rcases hx with rfl | rfl | rfl | rfl | rfl | rfl | rfl | rfl | rfl | rfl | rfl | rfl | rfl | rfl | rfl | rfl | rfl | rfl | rfl | rfl <;> first | exact h1 _ | exact pre2_ext h (by decide) (by decide) m
theorem strAt_ext {R m t : List Nat} {q : Nat} (h : strAt q m = some t) : strAt q (m ++ R) = some t := by
  unfold strAt at h ⊢
  split at h
  · rename_i hh
    rw [Bool.and_eq_true] at hh
    obtain ⟨h1, h2⟩ := hh
    have hq : q ∈ m.tail := by simpa using h2
    rw [tail_ext (heads_ne h1), heads_app (heads_ne h1), h1, show (m.tail ++ R).contains q = true from by simp [hq]]
    have e : (m.tail ++ R).takeWhile (· != q) = m.tail.takeWhile (· != q) := by
      generalize m.tail = u at hq
      clear h h1 h2
      induction u with
      | nil => cases hq
      | cons a u ih =>
        rw [List.cons_append]
        by_cases ha : a = q
        · subst ha
          rw [List.takeWhile_cons_of_neg (by simp), List.takeWhile_cons_of_neg (by simp)]
        · rw [List.takeWhile_cons_of_pos (by simpa using ha), List.takeWhile_cons_of_pos (by simpa using ha), ih (by
            rcases List.mem_cons.1 hq with rfl | h
            · exact absurd rfl ha
            · exact h)]
    rw [e]
    exact h
  · cases h
theorem strAt_no {q : Nat} {l : List Nat} (h : heads q l = false) : strAt q l = none := by
  unfold strAt
  rw [h, Bool.false_and, if_neg (by decide)]
/-- A token is the same ahead of what ends it. -/
theorem tokA_ext {R : List Nat} (h : ends4 R) {m : List Nat} {pl : Bool} {t : Tok} (ht : tokA m pl = some t) : tokA (m ++ R) pl = some t := by
  have hm : m ≠ [] := fun e => by
    obtain ⟨hf, hp⟩ := tokA_formed ht
    rw [e] at hp
    exact formed_ne hf (List.prefix_nil.1 hp)
  have hq : ∀ q, q ≠ 41 → q ≠ 44 → heads q m = false → strAt q (m ++ R) = none := fun q h1 h2 hh => strAt_no (by rw [heads_ext h h1 h2, hh])
  have hs : ∀ q, q = 34 ∨ q = 39 → numA m = [] → (∀ x, strAt q m ≠ some x) → (∀ x, strAt (73 - q) m ≠ some x) → heads q m = false := by
    intro q hqq hn h1 h2
    cases hh : heads q m with
    | false => rfl
    | true =>
      exfalso
      have e := heads_true hh
      rcases tokA_cases ht with ⟨hn', _⟩ | ⟨q', x, hq', hs', _⟩ | ⟨x, hv, _⟩ | ⟨k, hw, _, _⟩ | ⟨k, x, _, _, hk, _⟩
      · exact hn' hn
      · have : q' = q ∨ q' = 73 - q := by omega
        rcases this with rfl | rfl
        · exact h1 x hs'
        · exact h2 x hs'
      · rw [e, varA_other (by omega)] at hv; cases hv
      · rcases hqq with rfl | rfl
        · rw [e, wordA_no (by decide) (by decide)] at hw; exact hw rfl
        · rw [e, wordA_no (by decide) (by decide)] at hw; exact hw rfl
      · obtain ⟨hm2, hp⟩ := signA_mem hk
        rw [e] at hp
        rcases hqq with rfl | rfl <;> (simp only [signL, List.mem_cons, List.not_mem_nil, or_false, Prod.mk.injEq] at hm2; rcases hm2 with ⟨_, rfl⟩ | ⟨_, rfl⟩ | ⟨_, rfl⟩ | ⟨_, rfl⟩ | ⟨_, rfl⟩ | ⟨_, rfl⟩ | ⟨_, rfl⟩ | ⟨_, rfl⟩ | ⟨_, rfl⟩ | ⟨_, rfl⟩ | ⟨_, rfl⟩ | ⟨_, rfl⟩ | ⟨_, rfl⟩ | ⟨_, rfl⟩ | ⟨_, rfl⟩ | ⟨_, rfl⟩ | ⟨_, rfl⟩ | ⟨_, rfl⟩ | ⟨_, rfl⟩ | ⟨_, rfl⟩ <;> exact absurd (List.cons_prefix_cons.1 hp).1 (by decide))
  have hpre : wordA m <+: m := wordA_pre m
  have hT := ht
  unfold tokA at ht ⊢
  rw [numA_ext h]
  cases hn : numA m with
  | cons a l => rw [hn] at ht; exact ht
  | nil =>
    rw [hn] at ht
    rw [if_neg (by simp)] at ht ⊢
    cases h34 : strAt 34 m with
    | some x => rw [h34] at ht; rw [strAt_ext h34]; exact ht
    | none =>
      rw [h34] at ht
      cases h39 : strAt 39 m with
      | some x =>
        have h1 : heads 34 m = false := by
          cases hh : heads 34 m with
          | false => rfl
          | true =>
            have e := heads_true hh
            rw [e] at h39
            rw [strAt_other (by decide)] at h39
            cases h39
        rw [hq 34 (by decide) (by decide) h1, strAt_ext h39]
        rw [h39] at ht
        exact ht
      | none =>
        have h1 := hs 34 (.inl rfl) hn (fun x e => by rw [h34] at e; cases e) (fun x e => by rw [show 73 - 34 = 39 from rfl, h39] at e; cases e)
        have h2 := hs 39 (.inr rfl) hn (fun x e => by rw [h39] at e; cases e) (fun x e => by rw [show 73 - 39 = 34 from rfl, h34] at e; cases e)
        rw [hq 34 (by decide) (by decide) h1, hq 39 (by decide) (by decide) h2, varA_ext h, wordA_ext h, drop_ext hpre, wordK_ext h, signA_ext h hm]
        rw [h39] at ht
        exact ht
end Go.Proofs.YthkkfldmoflfaaaGreatDoor
