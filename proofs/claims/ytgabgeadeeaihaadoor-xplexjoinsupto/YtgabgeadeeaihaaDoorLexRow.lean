/- Tokens in memory, one behind the other. -/
import Derived.Test.YtgabgeadeeaihaaDoorLexPlace
import Derived.Test.YtgabgeadeeaihaaDoorOwnBytes
import Derived.Test.YtgabgeadeeaihaaDoorLexScan
namespace Go.Proofs.YtgabgeadeeaihaaDoor
open Go.RowKit
def lexRow (ts : List (Tok × Nat)) : List Value := ts.flatMap fun x => [.int .i64 (x.1.kind : Nat), .string (T x.1.text), .int .i64 (x.2 : Nat)]
abbrev OwnL (w : World) (B : Nat) (v : Value) (ts : List (Tok × Nat)) : Prop := w.ownsRow B 37 3 v ts.length (lexRow ts)
theorem lexRow_snoc (ts : List (Tok × Nat)) (x : Tok × Nat) : lexRow (ts ++ [x]) = lexRow ts ++ [.int .i64 (x.1.kind : Nat), .string (T x.1.text), .int .i64 (x.2 : Nat)] := by
  unfold lexRow; rw [List.flatMap_append]; simp
theorem lexRow_at : ∀ (ts : List (Tok × Nat)) (i : Nat) (x : Tok × Nat), ts[i]? = some x → (lexRow ts)[i * 3]? = some (.int .i64 (x.1.kind : Nat)) ∧ (lexRow ts)[i * 3 + 1]? = some (.string (T x.1.text)) ∧ (lexRow ts)[i * 3 + 2]? = some (.int .i64 (x.2 : Nat))
  | [], i, x, h => by simp at h
  | y :: ts, 0, x, h => by
    simp at h; subst h
    exact ⟨rfl, rfl, rfl⟩
  | y :: ts, i + 1, x, h => by
    have := lexRow_at ts i x (by simpa using h)
    have e : ∀ j, (lexRow (y :: ts))[(i + 1) * 3 + j]? = (lexRow ts)[i * 3 + j]? := by
      intro j
      rw [show (i + 1) * 3 + j = (i * 3 + j) + 3 by omega]
      rfl
    have e0 := e 0
    rw [Nat.add_zero, Nat.add_zero] at e0
    rw [e0, e 1, e 2]
    exact this
theorem own_cells {w : World} {B : Nat} {v : Value} {ts : List (Tok × Nat)} (h : OwnL w B v ts) : (ts = [] ∧ ∃ a c, v = .slice a 0 c) ∨ ∃ g cap, v = .slice (some ⟨g, 0, none⟩) ts.length cap ∧ B ≤ g ∧ g < w.heap.size ∧ ts.length ≤ cap ∧
    ∀ i x, ts[i]? = some x → w.cell? ⟨g, i * 3, none⟩ = some (.int .i64 (x.1.kind : Nat)) ∧ w.cell? ⟨g, i * 3 + 1, none⟩ = some (.string (T x.1.text)) ∧ w.cell? ⟨g, i * 3 + 2, none⟩ = some (.int .i64 (x.2 : Nat)) := by
  have hc := @World.ownsRow.cells _ _ _ _ _ _ _ h
  rcases h.2 with ⟨rfl, h0⟩ | ⟨g, cap, cur, rfl, h2, h3, h4⟩
  · exact .inl ⟨List.length_eq_zero_iff.1 h0, none, 0, rfl⟩
  · refine .inr ⟨g, cap, rfl, h2, (Array.getElem?_eq_some_iff.1 h3).1, by omega, fun i x hx => ?_⟩
    obtain ⟨r0, r1, r2⟩ := lexRow_at ts i x hx
    have a0 := hc (g := g) rfl _ _ r0
    have a1 := hc (g := g) rfl _ _ r1
    have a2 := hc (g := g) rfl _ _ r2
    rw [Addr.add_mid, Nat.zero_add] at a0 a1 a2
    exact ⟨a0, a1, a2⟩
def okToks (ts : List (Tok × Nat)) : Prop := ∀ x ∈ ts, okL x.1.text ∧ x.1.kind ≤ 9
theorem placeBehind_own (B : Nat) (v : Value) (ts : List (Tok × Nat)) (w : World) (h : OwnL w B v ts) (hk : okToks ts) (hn : ts.length ≤ 10000) :
    Calls Tryd.prog 26 #[v] w fun e w' => e = .returned (plV (plOf ts)) ∧ Below w.heap.size w w' := by
  rcases own_cells h with ⟨rfl, a, c, rfl⟩ | ⟨g, cap, rfl, _, _, _, hc⟩
  · refine (placeBehind_nil a c w).mono ?_
    rintro e w' ⟨rfl, rfl⟩
    exact ⟨rfl, Below.refl _ _⟩
  · rcases List.eq_nil_or_concat ts with rfl | ⟨us, x, rfl⟩
    · refine (placeBehind_nil (some ⟨g, 0, none⟩) cap w).mono ?_
      rintro e w' ⟨rfl, rfl⟩
      exact ⟨rfl, Below.refl _ _⟩
    · have hx := hk x (by simp)
      obtain ⟨c0, c1, c2⟩ := hc us.length x (by simp)
      have hl : (us.concat x).length = us.length + 1 := by simp
      rw [hl] at hn ⊢
      rw [show us.concat x = us ++ [x] by simp, plOf_snoc]
      exact placeBehind_last g us.length cap x.1.kind x.1.text x.2 w hx.1 (by omega) hx.2 c0 c1 c2
/-- A text's tokens: all of them, or the place of what is none. -/
def scanOf (cs : List Nat) : Except Nat (List (Tok × Nat)) := scanA (fun l => (tx l).length) (cs.length + 1) [] [] cs
theorem dropWhile_twice (l : List Nat) : (l.dropWhile blankC).dropWhile blankC = l.dropWhile blankC ∧ (l.dropWhile blankC).takeWhile blankC = [] := by
  have := drop_blanks (b := []) (x := l.dropWhile blankC) (fun _ h => by cases h) (blanks_ahead l)
  simpa using this
theorem scan_skip (n : List Nat → Nat) (f : Nat) (acc : List (Tok × Nat)) (pre l : List Nat) : scanA n (f + 1) acc pre l = scanA n (f + 1) acc (pre ++ l.takeWhile blankC) (l.dropWhile blankC) := by
  rw [scanA, scanA, (dropWhile_twice l).1, (dropWhile_twice l).2, List.append_nil]
theorem tok_kind {l : List Nat} {pl : Bool} {t : Tok} (h : tokA l pl = some t) : t.kind ≤ 9 := by
  rcases tokA_cases h with ⟨hn, rfl⟩ | ⟨q, x, hq, hs, rfl⟩ | ⟨x, hv, rfl⟩ | ⟨k, hw, hk, rfl⟩ | ⟨k, x, hn, hw, hk, rfl⟩
  · show 1 ≤ 9; omega
  · show 2 ≤ 9; omega
  · show 7 ≤ 9; omega
  · show k ≤ 9
    unfold wordK at hk
    repeat' split at hk
    all_goals first | (cases hk; omega) | cases hk
  · show k ≤ 9
    have := (signA_mem hk).1
    simp [signL] at this
    omega
theorem tok_ok {l : List Nat} {pl : Bool} {t : Tok} (hl : okL l) (h : tokA l pl = some t) : okL t.text ∧ okL t.raw := by
  obtain ⟨hf, hp⟩ := tokA_formed h
  have hr := okL_pre hl hp
  refine ⟨?_, hr⟩
  rcases hf with ⟨_, q, _, _, e⟩ | ⟨_, e, _⟩ | ⟨_, _, e, _⟩
  · intro c hc; exact hr c (by rw [e]; simp [hc])
  · intro c hc; exact hr c (by rw [e]; simp [hc])
  · rw [e] at hr; exact hr
end Go.Proofs.YtgabgeadeeaihaaDoor
