/- Tokens joined with blanks are scanned as they were: plain lemmas. -/
import Derived.Test.YtgabgeadeeaihaaDoorLexJoin
import Derived.Test.YtgabgeadeeaihaaDoorLexPlaces
namespace Go.Proofs.YtgabgeadeeaihaaDoor
open Go.RowKit
/-- A token's characters as it is written. -/
def reraw (t : Tok) : List Nat := if t.kind = 2 then (if t.text.contains 34 then 39 :: t.text ++ [39] else 34 :: t.text ++ [34]) else if t.kind = 7 then 36 :: t.text else t.text
def retok (t : Tok) : Tok := ⟨t.kind, t.text, reraw t⟩
theorem retok_alike {t : Tok} (h : formed t) : alike t (retok t) := by
  refine ⟨rfl, rfl, ?_⟩
  rcases h with ⟨hk, q, hq, hx, e⟩ | ⟨hk, e, _⟩ | ⟨h2, h7, e, _⟩
  · right
    refine ⟨hk, ?_⟩
    unfold retok reraw
    simp only
    rw [if_pos hk]
    by_cases h34 : t.text.contains 34 = true
    · rw [if_pos h34]
      refine ⟨39, .inr rfl, ?_, rfl⟩
      rcases hq with rfl | rfl
      · exact absurd (List.contains_iff_mem.1 h34) hx
      · exact hx
    · rw [if_neg h34]
      exact ⟨34, .inl rfl, fun hm => h34 (List.contains_iff_mem.2 hm), rfl⟩
  · left
    unfold retok reraw
    simp only
    rw [if_neg (by omega), if_pos hk, e]
  · left
    unfold retok reraw
    simp only
    rw [if_neg h2, if_neg h7, e]
theorem txtOf_T {t : Tok} (h : formed t) (hl : okL t.text) : txtOf (t.kind : Nat) (T t.text) = T (reraw t) := by
  unfold txtOf reraw
  rcases h with ⟨hk, q, hq, hx, e⟩ | ⟨hk, e, _⟩ | ⟨h2, h7, e, _⟩
  · rw [if_pos (by omega), if_pos hk]
    have c34 : (T t.text).data.toList.contains 34 = t.text.contains 34 := by
      rw [T_data, Bool.eq_iff_iff, List.contains_iff_mem, List.contains_iff_mem]
      exact mem_tx (q := 34) (by decide) hl
    have c39 : (T t.text).data.toList.contains 39 = t.text.contains 39 := by
      rw [T_data, Bool.eq_iff_iff, List.contains_iff_mem, List.contains_iff_mem]
      exact mem_tx (q := 39) (by decide) hl
    unfold litQ
    rw [c34, c39]
    cases h34 : t.text.contains 34
    · exact quoted_T (q := 34) (by decide) t.text
    · cases h39 : t.text.contains 39
      · exact quoted_T (q := 39) (by decide) t.text
      · exfalso
        rcases hq with rfl | rfl
        · exact hx (List.contains_iff_mem.1 h34)
        · exact hx (List.contains_iff_mem.1 h39)
  · rw [if_neg (by omega), if_pos (by omega), if_neg (by omega), if_pos hk]
    rw [show (36 :: t.text) = [36] ++ t.text from rfl, ← T_app]
    rfl
  · rw [if_neg (by omega), if_neg (by omega), if_neg h2, if_neg h7]
def joinC : List Tok → List Nat
  | [] => []
  | [t] => reraw t
  | t :: u :: ts => reraw t ++ 32 :: joinC (u :: ts)
theorem resp_blank {ts ts' : List Tok} {N : List Nat} (h : Resp ts ts' N) : Resp ts ts' (32 :: N) := by
  cases h with
  | nil b hb => exact Resp.nil _ (fun c hc => by rcases List.mem_cons.1 hc with rfl | hc; rfl; exact hb c hc)
  | cons b t t' ts ts' N hb ha hR hp =>
    have := Resp.cons (32 :: b) t t' ts ts' N (fun c hc => by rcases List.mem_cons.1 hc with rfl | hc; rfl; exact hb c hc) ha hR hp
    exact this
theorem join_resp : ∀ ts : List Tok, (∀ t ∈ ts, formed t) → Resp ts (ts.map retok) (joinC ts)
  | [], _ => Resp.nil [] (fun _ h => by cases h)
  | [t], h => by
    have := Resp.cons [] t (retok t) [] [] [] (fun _ h => by cases h) (retok_alike (h t (by simp))) (Resp.nil [] (fun _ h => by cases h)) parted_nil
    simpa [joinC, retok] using this
  | t :: u :: ts, h => by
    have ih := join_resp (u :: ts) (fun x hx => h x (by simp at hx ⊢; exact .inr hx))
    have := Resp.cons [] t (retok t) _ _ _ (fun _ h => by cases h) (retok_alike (h t (by simp))) (resp_blank ih) (parted_cons rfl)
    simpa [joinC, retok] using this
def lexsOf (ts : List (Tok × Nat)) : Lexs := ts.map fun x => ((x.1.kind : Nat), T x.1.text, (x.2 : Nat))
theorem lexs_at {w : World} {g : Nat} {ts : List (Tok × Nat)} (h : ∀ i x, ts[i]? = some x → w.cell? ⟨g, i * 3, none⟩ = some (.int .i64 (x.1.kind : Nat)) ∧ w.cell? ⟨g, i * 3 + 1, none⟩ = some (.string (T x.1.text)) ∧ w.cell? ⟨g, i * 3 + 2, none⟩ = some (.int .i64 (x.2 : Nat))) : LexsAt w g 0 (lexsOf ts) := by
  intro i x hx
  unfold lexsOf at hx
  rw [List.getElem?_map] at hx
  obtain ⟨y, hy, rfl⟩ := Option.map_eq_some_iff.1 hx
  have := h i y hy
  simpa using this
theorem tx_space (a b : List Nat) : tx (a ++ 32 :: b) = tx a ++ 32 :: tx b := by
  rw [tx_append, tx_cons, runeB_one (by decide)]; rfl
theorem joinP_T : ∀ ts : List (Tok × Nat), (∀ x ∈ ts, formed x.1 ∧ okL x.1.text) → joinP (lexsOf ts) = tx (joinC (ts.map (·.1)))
  | [], _ => rfl
  | [x], h => by
    obtain ⟨h1, h2⟩ := h x (by simp)
    show Lib.join [(txtOf (x.1.kind : Nat) (T x.1.text)).data.toList] [32] = tx (reraw x.1)
    rw [txtOf_T h1 h2, T_data, Lib.join_one]
  | x :: y :: ts, h => by
    obtain ⟨h1, h2⟩ := h x (by simp)
    have ih := joinP_T (y :: ts) (fun z hz => h z (by simp at hz ⊢; exact .inr hz))
    show Lib.join ((txtOf (x.1.kind : Nat) (T x.1.text)).data.toList :: (lexsOf (y :: ts)).map (fun x => (txtOf x.1 x.2.1).data.toList)) [32] = tx (reraw x.1 ++ 32 :: joinC ((y :: ts).map (·.1)))
    rw [txtOf_T h1 h2, T_data, tx_space, ← ih]
    unfold joinP
    cases hq : (lexsOf (y :: ts)).map (fun x => (txtOf x.1 x.2.1).data.toList) with
    | nil => simp [lexsOf] at hq
    | cons a r => simp [Lib.join, List.intercalate]
theorem scan_formed {cs : List Nat} {ts : List (Tok × Nat)} (hl : okL cs) (h : scanOf cs = .ok ts) : ∀ x ∈ ts, formed x.1 ∧ okL x.1.text ∧ okL x.1.raw ∧ (T x.1.text).size ≤ (T cs).size := by
  intro x hx
  obtain ⟨i, hi, e⟩ := List.getElem_of_mem hx
  have hx' : ts[i]? = some x := by rw [List.getElem?_eq_getElem hi, e]
  obtain ⟨hf, p, b, r, e, _⟩ := laid_at _ ts [] cs (scan_laid_all h) i x hx'
  rw [List.nil_append] at e
  have hr : okL x.1.raw := by rw [e] at hl; exact okL_right (okL_left (okL_left hl))
  refine ⟨hf, ?_, hr, by have := (place_at h hx').1; omega⟩
  obtain ⟨a, c, e2, _⟩ := off_raw hf
  rw [e2] at hr
  exact okL_right (okL_left hr)
theorem reraw_ok {t : Tok} (hl : okL t.text) : okL (reraw t) := by
  have hq : okL [34] ∧ okL [39] ∧ okL [36] := ⟨fun c hc => by rw [List.mem_singleton.1 hc]; decide, fun c hc => by rw [List.mem_singleton.1 hc]; decide, fun c hc => by rw [List.mem_singleton.1 hc]; decide⟩
  unfold reraw
  split
  · split
    · exact okL_app (okL_app hq.2.1 hl) hq.2.1
    · exact okL_app (okL_app hq.1 hl) hq.1
  · split
    · exact okL_app hq.2.2 hl
    · exact hl
theorem joinC_ok : ∀ ts : List Tok, (∀ t ∈ ts, okL t.text) → okL (joinC ts)
  | [], _ => fun _ h => by cases h
  | [t], h => reraw_ok (h t (by simp))
  | t :: u :: ts, h => by
    have ih := joinC_ok (u :: ts) (fun x hx => h x (by simp at hx ⊢; exact .inr hx))
    refine okL_app (reraw_ok (h t (by simp))) (fun c hc => ?_)
    rcases List.mem_cons.1 hc with rfl | hc
    · decide
    · exact ih c hc
theorem reraw_len (t : Tok) : (tx (reraw t)).length ≤ (T t.text).size + 2 := by
  have h34 : (tx [34]).length = 1 := rfl
  have h39 : (tx [39]).length = 1 := rfl
  have h36 : (tx [36]).length = 1 := rfl
  unfold reraw
  split
  · split
    · rw [tx_len_app, show (39 :: t.text) = [39] ++ t.text from rfl, tx_len_app, T_size]; omega
    · rw [tx_len_app, show (34 :: t.text) = [34] ++ t.text from rfl, tx_len_app, T_size]; omega
  · split
    · rw [show (36 :: t.text) = [36] ++ t.text from rfl, tx_len_app, T_size]; omega
    · rw [T_size]; omega
theorem joinC_len : ∀ ts : List Tok, (∀ t ∈ ts, (T t.text).size ≤ 512) → (tx (joinC ts)).length ≤ ts.length * 515
  | [], _ => Nat.zero_le _
  | [t], h => by
    have h1 := reraw_len t
    have h2 := h t (by simp)
    show (tx (reraw t)).length ≤ 1 * 515
    omega
  | t :: u :: ts, h => by
    have ih := joinC_len (u :: ts) (fun x hx => h x (by simp at hx ⊢; exact .inr hx))
    have h1 := reraw_len t
    have h2 := h t (by simp)
    show (tx (reraw t ++ 32 :: joinC (u :: ts))).length ≤ _
    rw [tx_space, List.length_append, List.length_cons]
    simp only [List.length_cons] at ih ⊢
    omega
/-- Scanned again it is the same, but for places. -/
theorem back_scan {cs : List Nat} {ts : List (Tok × Nat)} (hl : okL cs) (h : scanOf cs = .ok ts) : ∃ res, scanOf (joinC (ts.map (·.1))) = .ok res ∧ res.map (·.1) = (ts.map (·.1)).map retok := by
  have hf := scan_formed hl h
  have hR := join_resp (ts.map (·.1)) (fun t ht => by
    obtain ⟨x, hx, rfl⟩ := List.mem_map.1 ht
    exact (hf x hx).1)
  obtain ⟨res, e1, e2⟩ := respace (fun l => (tx l).length) (fun l => (tx l).length) (cs.length + 1) [] [] cs ts [] [] ((joinC (ts.map (·.1))).length + 1) _ _ (by rw [List.nil_append]; exact h) (by omega) hR (by omega) rfl
  exact ⟨res, by unfold scanOf; rw [e1, List.nil_append], e2⟩
theorem same_lexs {ts res : List (Tok × Nat)} (f : Tok → Tok) (hk : ∀ t, (f t).kind = t.kind ∧ (f t).text = t.text) (h : res.map (·.1) = (ts.map (·.1)).map f) : (lexsOf res).length = (lexsOf ts).length ∧
    ∀ (i : Nat) (x y : Int × ByteArray × Int), (lexsOf ts)[i]? = some x → (lexsOf res)[i]? = some y → x.1 = y.1 ∧ x.2.1 = y.2.1 := by
  refine ⟨?_, fun i x y hx hy => ?_⟩
  · have := congrArg List.length h
    simp only [List.length_map] at this
    unfold lexsOf
    rw [List.length_map, List.length_map]; exact this
  · unfold lexsOf at hx hy
    rw [List.getElem?_map] at hx hy
    obtain ⟨a, ha, rfl⟩ := Option.map_eq_some_iff.1 hx
    obtain ⟨b, hb, rfl⟩ := Option.map_eq_some_iff.1 hy
    have := congrArg (·[i]?) h
    simp only [List.getElem?_map, ha, hb, Option.map_some, Option.some.injEq] at this
    rw [this]
    exact ⟨by rw [(hk a.1).1], by rw [(hk a.1).2]⟩
end Go.Proofs.YtgabgeadeeaihaaDoor
