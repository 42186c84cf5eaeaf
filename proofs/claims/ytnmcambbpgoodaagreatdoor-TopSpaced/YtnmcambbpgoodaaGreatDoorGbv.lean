/- Several texts, laid as one. -/
import Derived.Test.YtnmcambbpgoodaaGreatDoorGbu
import Derived.Test.YtnmcambbpgoodaaGreatDoorGbr
import Derived.Deep.QuietTactic
import Derived.BigQuiet
import Derived.Test.YtnmcambbpgoodaaGreatDoorGbb
import Derived.Test.YtnmcambbpgoodaaGreatDoorGad
/- Tokens joined with blanks are scanned as they were: plain lemmas. -/
namespace Go.Proofs.YtnmcambbpgoodaaGreatDoor
open Go.RowKit
/-- A token's characters as it is written. -/
def reraw (t : Tok) : List Nat := if t.kind = 2 then (if t.text.contains 34 then 39 :: t.text ++ [39] else 34 :: t.text ++ [34]) else if t.kind = 7 then 36 :: t.text else t.text
def retok (t : Tok) : Tok := ⟨t.kind, t.text, reraw t⟩
theorem retok_alike {t : Tok} (h : formed t) : alike t (retok t) := by
  refine ⟨rfl, rfl, ?_⟩
  rcases h with ⟨hk, q, hq, hx, e⟩ | ⟨hk, e, _⟩ | ⟨h2, h7, e, _⟩
  · right
    refine ⟨hk, ?_⟩
    unfold retok reraw
    simp only
    rw [if_pos hk]
    by_cases h34 : t.text.contains 34 = true
    · rw [if_pos h34]
      refine ⟨39, .inr rfl, ?_, rfl⟩
      rcases hq with rfl | rfl
      · exact absurd (List.contains_iff_mem.1 h34) hx
      · exact hx
    · rw [if_neg h34]
      exact ⟨34, .inl rfl, fun hm => h34 (List.contains_iff_mem.2 hm), rfl⟩
  · left
    unfold retok reraw
    simp only
    rw [if_neg (by omega), if_pos hk, e]
  · left
    unfold retok reraw
    simp only
    rw [if_neg h2, if_neg h7, e]
theorem txtOf_T {t : Tok} (h : formed t) (hl : okL t.text) : txtOf (t.kind : Nat) (T t.text) = T (reraw t) := by
  unfold txtOf reraw
  rcases h with ⟨hk, q, hq, hx, e⟩ | ⟨hk, e, _⟩ | ⟨h2, h7, e, _⟩
  · rw [if_pos (by omega), if_pos hk]
    have c34 : (T t.text).data.toList.contains 34 = t.text.contains 34 := by
      rw [T_data, Bool.eq_iff_iff, List.contains_iff_mem, List.contains_iff_mem]
      exact mem_tx (q := 34) (by decide) hl
    have c39 : (T t.text).data.toList.contains 39 = t.text.contains 39 := by
      rw [T_data, Bool.eq_iff_iff, List.contains_iff_mem, List.contains_iff_mem]
      exact mem_tx (q := 39) (by decide) hl
    unfold litQ
    rw [c34, c39]
    cases h34 : t.text.contains 34
    · exact quoted_T (q := 34) (by decide) t.text
    · cases h39 : t.text.contains 39
      · exact quoted_T (q := 39) (by decide) t.text
      · exfalso
        rcases hq with rfl | rfl
        · exact hx (List.contains_iff_mem.1 h34)
        · exact hx (List.contains_iff_mem.1 h39)
  · rw [if_neg (by omega), if_pos (by omega), if_neg (by omega), if_pos hk]
    rw [show (36 :: t.text) = [36] ++ t.text from rfl, ← T_app]
    rfl
  · rw [if_neg (by omega), if_neg (by omega), if_neg h2, if_neg h7]
def joinC : List Tok → List Nat
  | [] => []
  | [t] => reraw t
  | t :: u :: ts => reraw t ++ 32 :: joinC (u :: ts)
theorem resp_blank {ts ts' : List Tok} {N : List Nat} (h : Resp ts ts' N) : Resp ts ts' (32 :: N) := by
  cases h with
  | nil b hb => exact Resp.nil _ (fun c hc => by rcases List.mem_cons.1 hc with rfl | hc; rfl; exact hb c hc)
  | cons b t t' ts ts' N hb ha hR hp =>
    have := Resp.cons (32 :: b) t t' ts ts' N (fun c hc => by rcases List.mem_cons.1 hc with rfl | hc; rfl; exact hb c hc) ha hR hp
    exact this
theorem join_resp : ∀ ts : List Tok, (∀ t ∈ ts, formed t) → Resp ts (ts.map retok) (joinC ts)
  | [], _ => Resp.nil [] (fun _ h => by cases h)
  | [t], h => by
    have := Resp.cons [] t (retok t) [] [] [] (fun _ h => by cases h) (retok_alike (h t (by simp))) (Resp.nil [] (fun _ h => by cases h)) parted_nil
    simpa [joinC, retok] using this
  | t :: u :: ts, h => by
    have ih := join_resp (u :: ts) (fun x hx => h x (by simp at hx ⊢; exact .inr hx))
    have := Resp.cons [] t (retok t) _ _ _ (fun _ h => by cases h) (retok_alike (h t (by simp))) (resp_blank ih) (parted_cons rfl)
    simpa [joinC, retok] using this
def lexsOf (ts : List (Tok × Nat)) : Lexs := ts.map fun x => ((x.1.kind : Nat), T x.1.text, (x.2 : Nat))
theorem lexs_at {w : World} {g : Nat} {ts : List (Tok × Nat)} (h : ∀ i x, ts[i]? = some x → w.cell? ⟨g, i * 3, none⟩ = some (.int .i64 (x.1.kind : Nat)) ∧ w.cell? ⟨g, i * 3 + 1, none⟩ = some (.string (T x.1.text)) ∧ w.cell? ⟨g, i * 3 + 2, none⟩ = some (.int .i64 (x.2 : Nat))) : LexsAt w g 0 (lexsOf ts) := by
  intro i x hx
  unfold lexsOf at hx
  rw [List.getElem?_map] at hx
  obtain ⟨y, hy, rfl⟩ := Option.map_eq_some_iff.1 hx
  have := h i y hy
  simpa using this
theorem tx_space (a b : List Nat) : tx (a ++ 32 :: b) = tx a ++ 32 :: tx b := by
  rw [tx_append, tx_cons, runeB_one (by decide)]; rfl
theorem joinP_T : ∀ ts : List (Tok × Nat), (∀ x ∈ ts, formed x.1 ∧ okL x.1.text) → joinP (lexsOf ts) = tx (joinC (ts.map (·.1)))
  | [], _ => rfl
  | [x], h => by
    obtain ⟨h1, h2⟩ := h x (by simp)
    show Lib.join [(txtOf (x.1.kind : Nat) (T x.1.text)).data.toList] [32] = tx (reraw x.1)
    rw [txtOf_T h1 h2, T_data, Lib.join_one]
  | x :: y :: ts, h => by
    obtain ⟨h1, h2⟩ := h x (by simp)
    have ih := joinP_T (y :: ts) (fun z hz => h z (by simp at hz ⊢; exact .inr hz))
    show Lib.join ((txtOf (x.1.kind : Nat) (T x.1.text)).data.toList :: (lexsOf (y :: ts)).map (fun x => (txtOf x.1 x.2.1).data.toList)) [32] = tx (reraw x.1 ++ 32 :: joinC ((y :: ts).map (·.1)))
    rw [txtOf_T h1 h2, T_data, tx_space, ← ih]
    unfold joinP
    cases hq : (lexsOf (y :: ts)).map (fun x => (txtOf x.1 x.2.1).data.toList) with
    | nil => simp [lexsOf] at hq
    | cons a r => simp [Lib.join, List.intercalate]
theorem scan_formed {cs : List Nat} {ts : List (Tok × Nat)} (hl : okL cs) (h : scanOf cs = .ok ts) : ∀ x ∈ ts, formed x.1 ∧ okL x.1.text ∧ okL x.1.raw ∧ (T x.1.text).size ≤ (T cs).size := by
  intro x hx
  obtain ⟨i, hi, e⟩ := List.getElem_of_mem hx
  have hx' : ts[i]? = some x := by rw [List.getElem?_eq_getElem hi, e]
  obtain ⟨hf, p, b, r, e, _⟩ := laid_at _ ts [] cs (scan_laid_all h) i x hx'
  rw [List.nil_append] at e
  have hr : okL x.1.raw := by rw [e] at hl; exact okL_right (okL_left (okL_left hl))
  refine ⟨hf, ?_, hr, by have := (place_at h hx').1; omega⟩
  obtain ⟨a, c, e2, _⟩ := off_raw hf
  rw [e2] at hr
  exact okL_right (okL_left hr)
theorem reraw_ok {t : Tok} (hl : okL t.text) : okL (reraw t) := by
  have hq : okL [34] ∧ okL [39] ∧ okL [36] := ⟨fun c hc => by rw [List.mem_singleton.1 hc]; decide, fun c hc => by rw [List.mem_singleton.1 hc]; decide, fun c hc => by rw [List.mem_singleton.1 hc]; decide⟩
  unfold reraw
  split
  · split
    · exact okL_app (okL_app hq.2.1 hl) hq.2.1
    · exact okL_app (okL_app hq.1 hl) hq.1
  · split
    · exact okL_app hq.2.2 hl
    · exact hl
theorem joinC_ok : ∀ ts : List Tok, (∀ t ∈ ts, okL t.text) → okL (joinC ts)
  | [], _ => fun _ h => by cases h
  | [t], h => reraw_ok (h t (by simp))
  | t :: u :: ts, h => by
    have ih := joinC_ok (u :: ts) (fun x hx => h x (by simp at hx ⊢; exact .inr hx))
    refine okL_app (reraw_ok (h t (by simp))) (fun c hc => ?_)
    rcases List.mem_cons.1 hc with rfl | hc
    · decide
    · exact ih c hc
theorem reraw_len (t : Tok) : (tx (reraw t)).length ≤ (T t.text).size + 2 := by
  have h34 : (tx [34]).length = 1 := rfl
  have h39 : (tx [39]).length = 1 := rfl
  have h36 : (tx [36]).length = 1 := rfl
  unfold reraw
  split
  · split
    · rw [tx_len_app, show (39 :: t.text) = [39] ++ t.text from rfl, tx_len_app, T_size]; omega
    · rw [tx_len_app, show (34 :: t.text) = [34] ++ t.text from rfl, tx_len_app, T_size]; omega
  · split
    · rw [show (36 :: t.text) = [36] ++ t.text from rfl, tx_len_app, T_size]; omega
    · rw [T_size]; omega
theorem joinC_len : ∀ ts : List Tok, (∀ t ∈ ts, (T t.text).size ≤ 512) → (tx (joinC ts)).length ≤ ts.length * 515
  | [], _ => Nat.zero_le _
  | [t], h => by
    have h1 := reraw_len t
    have h2 := h t (by simp)
    show (tx (reraw t)).length ≤ 1 * 515
    omega
  | t :: u :: ts, h => by
    have ih := joinC_len (u :: ts) (fun x hx => h x (by simp at hx ⊢; exact .inr hx))
    have h1 := reraw_len t
    have h2 := h t (by simp)
    show (tx (reraw t ++ 32 :: joinC (u :: ts))).length ≤ _
    rw [tx_space, List.length_append, List.length_cons]
    simp only [List.length_cons] at ih ⊢
    omega
/-- Scanned again it is the same, but for places. -/
theorem back_scan {cs : List Nat} {ts : List (Tok × Nat)} (hl : okL cs) (h : scanOf cs = .ok ts) : ∃ res, scanOf (joinC (ts.map (·.1))) = .ok res ∧ res.map (·.1) = (ts.map (·.1)).map retok := by
  have hf := scan_formed hl h
  have hR := join_resp (ts.map (·.1)) (fun t ht => by
    obtain ⟨x, hx, rfl⟩ := List.mem_map.1 ht
    exact (hf x hx).1)
  obtain ⟨res, e1, e2⟩ := respace (fun l => (tx l).length) (fun l => (tx l).length) (cs.length + 1) [] [] cs ts [] [] ((joinC (ts.map (·.1))).length + 1) _ _ (by rw [List.nil_append]; exact h) (by omega) hR (by omega) rfl
  exact ⟨res, by unfold scanOf; rw [e1, List.nil_append], e2⟩
end Go.Proofs.YtnmcambbpgoodaaGreatDoor
/- Are tokens the same: the law's Same. -/
namespace Go.Proofs.YtnmcambbpgoodaaGreatDoor
open Go.RowKit
end Go.Proofs.YtnmcambbpgoodaaGreatDoor
/- XplexBack: what Scan told, joined and scanned again, has the same kinds and texts. -/
namespace Go.Proofs.YtnmcambbpgoodaaGreatDoor
open Go.RowKit
theorem lexs_len (ts : List (Tok × Nat)) : (lexsOf ts).length = ts.length := by unfold lexsOf; rw [List.length_map]
/-- Join of tokens that were scanned. -/
theorem join_own (B : Nat) (v : Value) (ts : List (Tok × Nat)) (w : World) (h : OwnL w B v ts) (hf : ∀ x ∈ ts, formed x.1 ∧ okL x.1.text ∧ (T x.1.text).size ≤ 512) (hn : ts.length ≤ 512) :
    Calls Tryz.prog 7 #[v] w fun e w' => e = .returned (.string (T (joinC (ts.map (·.1))))) ∧ Below w.heap.size w w' := by
  rcases own_cells h with ⟨rfl, a, c, rfl⟩ | ⟨g, cap, rfl, _, _, _, hc⟩
  · exact join_none a c w
  · have hj : joinP (lexsOf ts) = tx (joinC (ts.map (·.1))) := joinP_T ts (fun x hx => ⟨(hf x hx).1, (hf x hx).2.1⟩)
    have hl := joinC_len (ts.map (·.1)) (fun t ht => by obtain ⟨x, hx, rfl⟩ := List.mem_map.1 ht; exact (hf x hx).2.2)
    rw [List.length_map] at hl
    have := join_any (lexsOf ts) g 0 cap w (lexs_at hc) (by rw [lexs_len]; omega) (fun x hx => by
      unfold lexsOf at hx
      obtain ⟨y, hy, rfl⟩ := List.mem_map.1 hx
      have := (hf y hy).2.2
      show (T y.1.text).size ≤ 2000000
      omega) (by rw [hj]; omega)
    rw [lexs_len, hj] at this
    exact this
end Go.Proofs.YtnmcambbpgoodaaGreatDoor
/- TopSpaced: an expression whose tokens are joined with blanks is the same expression. -/
namespace Go.Proofs.YtnmcambbpgoodaaGreatDoor
open Go.RowKit Go.Maps
/-- Parse of what was joined tells what Parse told. -/
theorem joined_says {cs : List Nat} {ts : List (Tok × Nat)} (hl : okL cs) (hs : scanOf cs = .ok ts) : saysT (joinC (ts.map (·.1))) = saysT cs := by
  obtain ⟨res, h1, h2⟩ := back_scan hl hs
  unfold saysT
  rw [h1, hs]
  show saysP (res.map fun t => (t.1.kind, t.1.text)) = saysP (ts.map fun t => (t.1.kind, t.1.text))
  have e1 : res.map (fun t => (t.1.kind, t.1.text)) = (res.map (·.1)).map (fun t => (t.kind, t.text)) := by rw [List.map_map]; rfl
  have e2 : ts.map (fun t => (t.1.kind, t.1.text)) = (ts.map (·.1)).map (fun t => (t.kind, t.text)) := by rw [List.map_map]; rfl
  rw [e1, e2, h2, List.map_map]
  rfl
/-- What Parse tells is right. -/
theorem says_ok {cs : List Nat} {x : Ex} (hl : okL cs) (hz : (T cs).size ≤ 512) (h : saysT cs = .ok x) : smallX x = true ∧ ∃ c, jRight flX (wt x) 0 0 x = some (true, c) := by
  unfold saysT at h
  cases hs : scanOf cs with
  | error p => rw [hs] at h; cases h
  | ok ts =>
    rw [hs] at h
    simp only at h
    unfold saysP at h
    split at h
    · rename_i x' s' hp
      split at h
      · split at h
        · rename_i hd
          cases h
          exact ⟨((small_all numP _).1 0 _ (tk_scan hl hz hs) x s' hp).1, okJ_true hd.2⟩
        · cases h
      · cases h
    · cases h
theorem says_err {cs : List Nat} {f : Int} (h : saysT cs = .error f) : f = 6 ∨ f = 9 := by
  unfold saysT at h
  split at h
  · unfold saysP at h
    split at h
    · split at h
      · split at h
        · cases h
        · cases h; exact .inl rfl
      · cases h; exact .inr rfl
    · cases h; exact .inr rfl
  · cases h; exact .inr rfl
set_option maxRecDepth 100000 in
set_option maxHeartbeats 2000000 in
theorem spaced_no (s : ByteArray) (f : Int) (w : World) (hE : EnvG w) (hf : (f != 0) = true) (hS : Calls Tryz.prog 5 #[.string s] w fun e w' => (∃ k, e = .returned (.tuple #[.slice none 0 0, .int .i64 f, .int .i64 k])) ∧ Below w.heap.size w w') (hP : ParseIs s (.error f)) :
    Calls Tryz.prog 3 #[.string s] w fun e w' => e = .returned (.bool true) ∧ Below w.heap.size w w' := by
  have HE := hide hE
  have HS := hide hS
  have HP := hide hP
  clear hE hS hP
  go_enter Tryz.func3, Tryz.ntmps3
  go_wp2_with fail
  refine (unhide HS).mono ?_
  rintro e w1 ⟨⟨k, rfl⟩, hb1⟩
  have HB1 := hide hb1
  have HC := hide (unhide HP w1 ((unhide HE).below hb1))
  clear hb1
  go_wp2_with fail
  refine (unhide HC).mono ?_
  rintro e w2 ⟨rfl, hb2⟩
  have HB2 := hide (Below.then (unhide HB1) hb2)
  clear hb2 HC
  go_wp2_with fail
  go_returns
  exact ⟨rfl, (unhide HB2).alloc (unhide HB2).size _⟩
set_option maxRecDepth 100000 in
set_option maxHeartbeats 2000000 in
theorem spaced_yes (cs : List Nat) (ts : List (Tok × Nat)) (w : World) (hE : EnvG w) (hl : okL cs) (hz : (T cs).size ≤ 512) (hs : scanOf cs = .ok ts) :
    Calls Tryz.prog 3 #[.string (T cs)] w fun e w' => e = .returned (.bool true) ∧ Below w.heap.size w w' := by
  have hS := scan_any cs w hl hz hE.lex
  rw [hs] at hS
  have hcn := scan_count hl hz hs
  have hfm : ∀ x ∈ ts, formed x.1 ∧ okL x.1.text ∧ (T x.1.text).size ≤ 512 := fun x hx => by
    obtain ⟨h1, h2, _, h4⟩ := scan_formed hl hs x hx
    exact ⟨h1, h2, by omega⟩
  have hjo : okL (joinC (ts.map (·.1))) := joinC_ok _ fun t ht => by
    obtain ⟨x, hx, rfl⟩ := List.mem_map.1 ht
    exact (hfm x hx).2.1
  have hP1 : ParseIs (T cs) (saysT cs) := parse_T cs hl hz
  have hP2 : ∃ r2, ParseIs (T (joinC (ts.map (·.1)))) r2 ∧ (r2 = .error 6 ∨ r2 = saysT cs) := by
    by_cases h : (T (joinC (ts.map (·.1)))).size ≤ 512
    · exact ⟨_, parse_T _ hjo h, .inr (joined_says hl hs)⟩
    · exact ⟨_, parse_long _ (by omega), .inl rfl⟩
  have hJ := fun (w1 : World) (v : Value) (h : OwnL w1 w.heap.size v ts) => join_own w.heap.size v ts w1 h hfm hcn
  have hok := fun (x : Ex) (h : saysT cs = .ok x) => says_ok hl hz h
  have her := fun (f : Int) (h : saysT cs = .error f) => says_err h
  obtain ⟨r2, hP2, hr2⟩ := hP2
  obtain ⟨jt, hjt⟩ : ∃ jt, T (joinC (ts.map (·.1))) = jt := ⟨_, rfl⟩
  rw [hjt] at hP2
  simp only [hjt] at hJ
  obtain ⟨r, hr⟩ : ∃ r, saysT cs = r := ⟨_, rfl⟩
  rw [hr] at hP1 hr2 hok her
  have HE := hide hE
  have HS := hide hS
  have HJ := hide hJ
  have HP1 := hide hP1
  have HP2 := hide hP2
  clear hE hS hJ hP1 hP2 hfm hjo hcn hs hl hz hr hjt
  go_enter Tryz.func3, Tryz.ntmps3
  go_wp2_with fail
  refine (unhide HS).mono ?_
  rintro e w1 ⟨⟨v, rfl, hown⟩, hb1⟩
  have HB1 := hide hb1
  have HOWN := hide hown
  have HC := hide (unhide HP1 w1 ((unhide HE).below hb1))
  clear hb1 hown
  go_wp2_with fail
  cases r with
  | error f =>
    have hf := her f rfl
    refine (unhide HC).mono ?_
    rintro e w2 ⟨rfl, hb2⟩
    have hb3 : Below w2.heap.size w2 (w2.alloc (oneB noX (.slice none 0 0))) := (Below.refl _ _).alloc (Nat.le_refl _) _
    have HB3 := hide (Below.then (unhide HB1) (Below.then hb2 hb3))
    have HC3 := hide (unhide HJ _ v (owns_below (unhide HOWN) (Below.then hb2 hb3)))
    clear hb2 hb3 HC
    go_wp2_with fail
    refine (unhide HC3).mono ?_
    rintro e w4 ⟨rfl, hb4⟩
    have HB4 := hide (Below.then (unhide HB3) hb4)
    have HC5 := hide (unhide HP2 w4 ((unhide HE).below (unhide HB4)))
    clear hb4 HC3 HB3
    go_wp2_with fail
    rcases hr2 with rfl | rfl
    · refine (unhide HC5).mono ?_
      rintro e w5 ⟨rfl, hb5⟩
      have HB5 := hide (Below.then (unhide HB4) hb5)
      clear hb5 HC5
      go_wp2_with fail
      go_returns
      exact ⟨rfl, (unhide HB5).alloc (unhide HB5).size _⟩
    · rcases hf with rfl | rfl
      · refine (unhide HC5).mono ?_
        rintro e w5 ⟨rfl, hb5⟩
        have HB5 := hide (Below.then (unhide HB4) hb5)
        clear hb5 HC5
        go_wp2_with fail
        go_returns
        exact ⟨rfl, (unhide HB5).alloc (unhide HB5).size _⟩
      · refine (unhide HC5).mono ?_
        rintro e w5 ⟨rfl, hb5⟩
        have HB5 := hide (Below.then (unhide HB4) hb5)
        clear hb5 HC5
        go_wp2_with fail
        go_returns
        exact ⟨rfl, (unhide HB5).alloc (unhide HB5).size _⟩
  | ok x =>
    obtain ⟨hsm, c, hj⟩ := hok x rfl
    have HSM := hide (And.intro hsm hj)
    refine (unhide HC).mono ?_
    rintro e w2 ⟨al, cc, rfl, hx2, hb2⟩
    have hb3 : Below w2.heap.size w2 (w2.alloc (oneB x (.slice al x.kids.length cc))) := (Below.refl _ _).alloc (Nat.le_refl _) _
    have hq3 := palloc_new w2 (oneB x (.slice al x.kids.length cc))
    have HQ3 := hide hq3
    have HX3 := hide (hx2.belowC hb3)
    have HB3 := hide (Below.then (unhide HB1) (Below.then hb2 hb3))
    have HC3 := hide (unhide HJ _ v (owns_below (unhide HOWN) (Below.then hb2 hb3)))
    clear hb2 hb3 hx2 hq3 hsm hj hok her HC
    go_wp2_with fail
    refine (unhide HC3).mono ?_
    rintro e w4 ⟨rfl, hb4⟩
    have HB4 := hide (Below.then (unhide HB3) hb4)
    have HQ4 := hide (blockC (unhide HQ3) hb4)
    have HX4 := hide ((unhide HX3).belowC hb4)
    have HC5 := hide (unhide HP2 w4 ((unhide HE).below (unhide HB4)))
    clear hb4 HC3 HB3 HQ3 HX3
    go_wp2_with fail
    rcases hr2 with rfl | rfl
    · refine (unhide HC5).mono ?_
      rintro e w5 ⟨rfl, hb5⟩
      have HB5 := hide (Below.then (unhide HB4) hb5)
      clear hb5 HC5
      go_wp2_with fail
      go_returns
      exact ⟨rfl, (unhide HB5).alloc (unhide HB5).size _⟩
    · refine (unhide HC5).mono ?_
      rintro e w5 ⟨al2, cc2, rfl, hy5, hb5⟩
      obtain ⟨W6, e6⟩ : ∃ W6, w5.alloc (oneB x (.slice al2 x.kids.length cc2)) = W6 := ⟨_, rfl⟩
      have hb6 : Below w5.heap.size w5 W6 := by rw [← e6]; exact (Below.refl _ _).alloc (Nat.le_refl _) _
      have hp6 : W6.heap[w5.heap.size]? = some (oneB x (.slice al2 x.kids.length cc2)) := by rw [← e6]; exact palloc_new _ _
      have hq6 := blockC (unhide HQ4) (Below.then hb5 hb6)
      have HB6 := hide (Below.then (unhide HB4) (Below.then hb5 hb6))
      have hx6 := (unhide HX4).belowC (Below.then hb5 hb6)
      have HQ6 := hide hq6
      have HX6 := hide hx6
      have HS6 := hide (psame_ok w (unhide HE) (wt x) c x al al2 cc cc2 W6 _ _ (unhide HB6) (unhide HSM).1 hx6 (hy5.belowC hb6) (unhide HSM).2)
      obtain ⟨a0, a1, a2, a3, a4, a5, a6⟩ := var_cells hq6
      obtain ⟨c0, c1, c2, c3, c4, c5, c6⟩ := var_cells hp6
      subst e6
      clear hb5 hb6 hp6 hq6 hx6 hy5 HC5 HB4 HQ4 HX4
      go_wp2_with fail
      refine (unhide HS6).mono ?_
      rintro e w7 ⟨rfl, hb7⟩
      have HB7 := hide (Below.then (unhide HB6) hb7)
      have hq7 := blockC (unhide HQ6) hb7
      have HR7 := hide (pright_ok w (unhide HE) (wt x) c x al cc w7 _ (unhide HB7) (unhide HSM).1 ((unhide HX6).belowC hb7) (unhide HSM).2)
      clear hb7 HS6 HB6 HQ6 HX6 a0 a1 a2 a3 a4 a5 a6 c0 c1 c2 c3 c4 c5 c6
      obtain ⟨a0, a1, a2, a3, a4, a5, a6⟩ := var_cells hq7
      clear hq7
      go_wp2_with fail
      refine (unhide HR7).mono ?_
      rintro e w8 ⟨rfl, hb8⟩
      have HB8 := hide (Below.then (unhide HB7) hb8)
      clear hb8 HR7 a0 a1 a2 a3 a4 a5 a6
      go_wp2_with fail
      go_returns
      exact ⟨rfl, unhide HB8⟩
/-- For every text the law answers true. -/
theorem spaced_walk (s : ByteArray) (w : World) (hE : EnvG w) :
    Calls Tryz.prog 3 #[.string s] w fun e w' => e = .returned (.bool true) ∧ Below w.heap.size w w' := by
  rcases text_cases s with h | ⟨h, hf⟩ | ⟨h, cs, hl, rfl⟩
  · exact spaced_no s 6 w hE rfl ((scan_long s w h).mono fun _ _ hh => ⟨⟨_, hh.1⟩, hh.2⟩) (parse_long s h)
  · exact spaced_no s 4 w hE rfl (scan_bad s w h hf) (parse_ill s h hf)
  · cases hs : scanOf cs with
    | error p =>
      refine spaced_no (T cs) 9 w hE rfl ?_ ?_
      · have h2 := scan_any cs w hl h hE.lex
        rw [hs] at h2
        exact h2.mono fun _ _ hh => ⟨⟨_, hh.1⟩, hh.2⟩
      · have h3 := parse_T cs hl h
        unfold saysT at h3
        rw [hs] at h3
        exact h3
    | ok ts => exact spaced_yes cs ts w hE hl h hs
end Go.Proofs.YtnmcambbpgoodaaGreatDoor
