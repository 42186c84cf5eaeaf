/- Several texts, laid as one. -/
import Derived.Test.YtnmcambbpgoodaaGreatDoorGah
import Derived.Test.YtnmcambbpgoodaaGreatDoorLexTok
import Derived.Test.YtnmcambbpgoodaaGreatDoorGad
import Derived.Test.YtnmcambbpgoodaaGreatDoorGaj
/- Numbers that are right: the reference's Right and the law's right. -/
namespace Go.Proofs.YtnmcambbpgoodaaGreatDoor
open Go.RowKit
def rightB (k v : Int) : Bool := if k = 0 then decide (-1000000000000000000 ≤ v) && decide (v ≤ 1000000000000000000) else if k = 1 ∨ k = 2 ∨ k = 3 then v == 0 else false
end Go.Proofs.YtnmcambbpgoodaaGreatDoor
/- Whether a number is right: xnum's Right. -/
namespace Go.Proofs.YtnmcambbpgoodaaGreatDoor
open Go.RowKit
set_option maxHeartbeats 1000000 in
theorem xright_any (k v : Int) (w : World) :
    Calls Tryz.prog 73 #[.agg #[.int .i64 k, .int .i64 v]] w fun e w' => e = .returned (.bool (rightB k v)) ∧ Below w.heap.size w w' := by
  by_cases h0 : k = 0
  · subst h0
    go_enter Tryz.func73, Tryz.ntmps73
    go_wp2
    all_goals
      go_ret
      exact ⟨ret_bool (by first | (simp [rightB, *]; done) | (simp [rightB, *]; omega)), by (repeat first | exact Below.refl _ _ | assumption | refine Below.drew ?_ | refine Below.alloc ?_ (by simp <;> omega) _ | refine Below.setCell ?_ (by simp <;> omega) _)⟩
  · by_cases h1 : k = 1 ∨ k = 2 ∨ k = 3
    · have HR := hide (show rightB k v = (v == 0) by unfold rightB; rw [if_neg h0, if_pos h1])
      rcases h1 with rfl | rfl | rfl
      all_goals
        go_enter Tryz.func73, Tryz.ntmps73
        go_wp2
        go_ret
        exact ⟨ret_bool (unhide HR).symm, by (repeat first | exact Below.refl _ _ | assumption | refine Below.drew ?_ | refine Below.alloc ?_ (by simp <;> omega) _ | refine Below.setCell ?_ (by simp <;> omega) _)⟩
    · have HR := hide (show rightB k v = false by unfold rightB; rw [if_neg h0, if_neg h1])
      have e0 : (k == 0) = false := by simpa using h0
      have e1 : (k == 1) = false := by simpa using fun h => h1 (.inl h)
      have e2 : (k == 2) = false := by simpa using fun h => h1 (.inr (.inl h))
      have e3 : (k == 3) = false := by simpa using fun h => h1 (.inr (.inr h))
      clear h0 h1
      go_enter Tryz.func73, Tryz.ntmps73
      go_wp2
      go_ret
      exact ⟨ret_bool (unhide HR).symm, by (repeat first | exact Below.refl _ _ | assumption | refine Below.drew ?_ | refine Below.alloc ?_ (by simp <;> omega) _ | refine Below.setCell ?_ (by simp <;> omega) _)⟩
end Go.Proofs.YtnmcambbpgoodaaGreatDoor
/- What may stand behind the tokens that were read, and the first character that may not be: xplex's placeBehind and firstBad. -/
namespace Go.Proofs.YtnmcambbpgoodaaGreatDoor
open Go.RowKit
theorem placeBehind_nil (a : Option Addr) (c : Nat) (w : World) :
    Calls Tryz.prog 14 #[.slice a 0 c] w fun e w' => e = .returned (plV false) ∧ w' = w := by
  go_enter Tryz.func14, Tryz.ntmps14
  go_wp2
  go_ret
  exact ⟨rfl, rfl⟩
set_option maxHeartbeats 1000000 in
theorem placeBehind_last (g n cap : Nat) (k : Nat) (x : List Nat) (at' : Int) (w : World) (hx : okL x) (hn : n < 100000) (hk : k ≤ 9)
    (c0 : w.cell? ⟨g, n * 3, none⟩ = some (.int .i64 (k : Nat))) (c1 : w.cell? ⟨g, n * 3 + 1, none⟩ = some (.string (T x))) (c2 : w.cell? ⟨g, n * 3 + 2, none⟩ = some (.int .i64 at')) :
    Calls Tryz.prog 14 #[.slice (some ⟨g, 0, none⟩) (n + 1) cap] w fun e w' => e = .returned (plV (behindOp ⟨k, x, []⟩)) ∧ Below w.heap.size w w' := by
  have h1 := eq_asc hx [64] [64] rfl (by decide +kernel)
  have h2 := eq_asc hx [58, 58] [58, 58] rfl (by decide +kernel)
  have h3 := eq_asc hx [40] [40] rfl (by decide +kernel)
  have h4 := eq_asc hx [91] [91] rfl (by decide +kernel)
  have h5 := eq_asc hx [44] [44] rfl (by decide +kernel)
  have hO : behindOp ⟨k, x, []⟩ = !(k == 8 || (k == 9 && (x == [64] || x == [58, 58] || x == [40] || x == [91] || x == [44]))) := rfl
  have HO := hide hO
  clear hO
  generalize (x == [64]) = b1 at *
  generalize (x == [58, 58]) = b2 at *
  generalize (x == [40]) = b3 at *
  generalize (x == [91]) = b4 at *
  generalize (x == [44]) = b5 at *
  by_cases h8 : k = 8
  · subst h8
    go_enter Tryz.func14, Tryz.ntmps14
    go_wp2
    go_ret
    exact ⟨ret_int (by rw [unhide HO]; rfl), (Below.refl _ _).alloc (Nat.le_refl _) _⟩
  · by_cases h9 : k = 9
    · subst h9
      go_enter Tryz.func14, Tryz.ntmps14
      cases b1
      · cases b2
        · cases b3
          · cases b4
            · cases b5
              all_goals
                go_wp2
                go_ret
                exact ⟨ret_int (by rw [unhide HO]; rfl), (Below.refl _ _).alloc (Nat.le_refl _) _⟩
            · go_wp2
              go_ret
              exact ⟨ret_int (by rw [unhide HO]; rfl), (Below.refl _ _).alloc (Nat.le_refl _) _⟩
          · go_wp2
            go_ret
            exact ⟨ret_int (by rw [unhide HO]; rfl), (Below.refl _ _).alloc (Nat.le_refl _) _⟩
        · go_wp2
          go_ret
          exact ⟨ret_int (by rw [unhide HO]; rfl), (Below.refl _ _).alloc (Nat.le_refl _) _⟩
      · go_wp2
        go_ret
        exact ⟨ret_int (by rw [unhide HO]; rfl), (Below.refl _ _).alloc (Nat.le_refl _) _⟩
    · have g8 : ((k : Int) == 8) = false := by simp; omega
      have g9 : ((k : Int) == 9) = false := by simp; omega
      have f8 : (k == 8) = false := by simpa using h8
      have f9 : (k == 9) = false := by simpa using h9
      have F8 := hide f8
      have F9 := hide f9
      clear f8 f9
      go_enter Tryz.func14, Tryz.ntmps14
      go_wp2
      go_ret
      exact ⟨ret_int (by rw [unhide HO, unhide F8, unhide F9]; rfl), (Below.refl _ _).alloc (Nat.le_refl _) _⟩
set_option maxHeartbeats 1000000 in
theorem firstBad_any (s : ByteArray) (w : World) :
    Calls Tryz.prog 11 #[.string s] w fun e w' => (∃ k b, e = .returned (.tuple #[.int .i64 k, .bool b]) ∧ (b = false ↔ (fault s).1 = 0)) ∧ Below w.heap.size w w' := by
  go_enter Tryz.func11, Tryz.ntmps11
  go_wp2_with fail
  go_loopw [] (fun w' => ∃ (pos f : Nat), w' = w.iter s pos ∧ fault s = faultFrom s f pos ∧ s.size < pos + f) (fun w' => s.size - w'.iterPos w.heap.size)
  case atStart => exact ⟨0, s.size + 1, rfl, rfl, by omega⟩
  case round =>
    obtain ⟨pos, f, rfl, hf, hb⟩ := hrel
    by_cases hp : pos < s.size
    · have hnx : ∀ ty, (Instr.next (.pointer (some ⟨w.heap.size, 0, none⟩)) true ty).run Tryz.prog (w.iter s pos) = _ := fun ty => run_next_any w s pos ty hp
      have hwd := width_pos s pos hp
      obtain ⟨g, rfl, hg⟩ := faultFrom_step s f pos hp hb
      have HF := hide (hf.trans hg)
      clear hf hg
      go_wp2_with (first | (go_at_call 20; refine (hasMark_any s pos _).mono ?_; rintro e w' ⟨rfl, rfl⟩) | (go_at_call 21; refine (isChar_any _ _).mono ?_; rintro e w' ⟨rfl, rfl⟩))
      all_goals first
        | (go_ret2
           refine ⟨⟨_, _, rfl, ?_⟩, (Below.refl _ _).alloc (Nat.le_refl _) _⟩
           rw [unhide HF]
           simp_all; done)
        | (refine ⟨⟨_, g, rfl, ?_, by omega⟩, by simp; omega⟩
           rw [unhide HF]
           simp_all; done)
    · have hnx : ∀ ty, (Instr.next (.pointer (some ⟨w.heap.size, 0, none⟩)) true ty).run Tryz.prog (w.iter s pos) = _ := fun ty => run_next_end w s pos ty hp
      have HF := hide (hf.trans (faultFrom_end s f pos hp))
      clear hf
      go_wp2
      go_ret2
      exact ⟨⟨_, _, rfl, by rw [unhide HF]; simp⟩, (Below.refl _ _).alloc (Nat.le_refl _) _⟩
end Go.Proofs.YtnmcambbpgoodaaGreatDoor
/- Tokens in memory, one behind the other. -/
namespace Go.Proofs.YtnmcambbpgoodaaGreatDoor
open Go.RowKit
def lexRow (ts : List (Tok × Nat)) : List Value := ts.flatMap fun x => [.int .i64 (x.1.kind : Nat), .string (T x.1.text), .int .i64 (x.2 : Nat)]
abbrev OwnL (w : World) (B : Nat) (v : Value) (ts : List (Tok × Nat)) : Prop := w.ownsRow B 48 3 v ts.length (lexRow ts)
theorem lexRow_snoc (ts : List (Tok × Nat)) (x : Tok × Nat) : lexRow (ts ++ [x]) = lexRow ts ++ [.int .i64 (x.1.kind : Nat), .string (T x.1.text), .int .i64 (x.2 : Nat)] := by
  unfold lexRow; rw [List.flatMap_append]; simp
theorem lexRow_at : ∀ (ts : List (Tok × Nat)) (i : Nat) (x : Tok × Nat), ts[i]? = some x → (lexRow ts)[i * 3]? = some (.int .i64 (x.1.kind : Nat)) ∧ (lexRow ts)[i * 3 + 1]? = some (.string (T x.1.text)) ∧ (lexRow ts)[i * 3 + 2]? = some (.int .i64 (x.2 : Nat))
  | [], i, x, h => by simp at h
  | y :: ts, 0, x, h => by
    simp at h; subst h
    exact ⟨rfl, rfl, rfl⟩
  | y :: ts, i + 1, x, h => by
    have := lexRow_at ts i x (by simpa using h)
    have e : ∀ j, (lexRow (y :: ts))[(i + 1) * 3 + j]? = (lexRow ts)[i * 3 + j]? := by
      intro j
      rw [show (i + 1) * 3 + j = (i * 3 + j) + 3 by omega]
      rfl
    have e0 := e 0
    rw [Nat.add_zero, Nat.add_zero] at e0
    rw [e0, e 1, e 2]
    exact this
theorem own_cells {w : World} {B : Nat} {v : Value} {ts : List (Tok × Nat)} (h : OwnL w B v ts) : (ts = [] ∧ ∃ a c, v = .slice a 0 c) ∨ ∃ g cap, v = .slice (some ⟨g, 0, none⟩) ts.length cap ∧ B ≤ g ∧ g < w.heap.size ∧ ts.length ≤ cap ∧
    ∀ i x, ts[i]? = some x → w.cell? ⟨g, i * 3, none⟩ = some (.int .i64 (x.1.kind : Nat)) ∧ w.cell? ⟨g, i * 3 + 1, none⟩ = some (.string (T x.1.text)) ∧ w.cell? ⟨g, i * 3 + 2, none⟩ = some (.int .i64 (x.2 : Nat)) := by
  have hc := @World.ownsRow.cells _ _ _ _ _ _ _ h
  rcases h.2 with ⟨rfl, h0⟩ | ⟨g, cap, cur, rfl, h2, h3, h4⟩
  · exact .inl ⟨List.length_eq_zero_iff.1 h0, none, 0, rfl⟩
  · refine .inr ⟨g, cap, rfl, h2, (Array.getElem?_eq_some_iff.1 h3).1, by omega, fun i x hx => ?_⟩
    obtain ⟨r0, r1, r2⟩ := lexRow_at ts i x hx
    have a0 := hc (g := g) rfl _ _ r0
    have a1 := hc (g := g) rfl _ _ r1
    have a2 := hc (g := g) rfl _ _ r2
    rw [Addr.add_mid, Nat.zero_add] at a0 a1 a2
    exact ⟨a0, a1, a2⟩
def okToks (ts : List (Tok × Nat)) : Prop := ∀ x ∈ ts, okL x.1.text ∧ x.1.kind ≤ 9
theorem placeBehind_own (B : Nat) (v : Value) (ts : List (Tok × Nat)) (w : World) (h : OwnL w B v ts) (hk : okToks ts) (hn : ts.length ≤ 10000) :
    Calls Tryz.prog 14 #[v] w fun e w' => e = .returned (plV (plOf ts)) ∧ Below w.heap.size w w' := by
  rcases own_cells h with ⟨rfl, a, c, rfl⟩ | ⟨g, cap, rfl, _, _, _, hc⟩
  · refine (placeBehind_nil a c w).mono ?_
    rintro e w' ⟨rfl, rfl⟩
    exact ⟨rfl, Below.refl _ _⟩
  · rcases List.eq_nil_or_concat ts with rfl | ⟨us, x, rfl⟩
    · refine (placeBehind_nil (some ⟨g, 0, none⟩) cap w).mono ?_
      rintro e w' ⟨rfl, rfl⟩
      exact ⟨rfl, Below.refl _ _⟩
    · have hx := hk x (by simp)
      obtain ⟨c0, c1, c2⟩ := hc us.length x (by simp)
      have hl : (us.concat x).length = us.length + 1 := by simp
      rw [hl] at hn ⊢
      rw [show us.concat x = us ++ [x] by simp, plOf_snoc]
      exact placeBehind_last g us.length cap x.1.kind x.1.text x.2 w hx.1 (by omega) hx.2 c0 c1 c2
/-- A text's tokens: all of them, or the place of what is none. -/
def scanOf (cs : List Nat) : Except Nat (List (Tok × Nat)) := scanA (fun l => (tx l).length) (cs.length + 1) [] [] cs
theorem dropWhile_twice (l : List Nat) : (l.dropWhile blankC).dropWhile blankC = l.dropWhile blankC ∧ (l.dropWhile blankC).takeWhile blankC = [] := by
  have := drop_blanks (b := []) (x := l.dropWhile blankC) (fun _ h => by cases h) (blanks_ahead l)
  simpa using this
theorem scan_skip (n : List Nat → Nat) (f : Nat) (acc : List (Tok × Nat)) (pre l : List Nat) : scanA n (f + 1) acc pre l = scanA n (f + 1) acc (pre ++ l.takeWhile blankC) (l.dropWhile blankC) := by
  rw [scanA, scanA, (dropWhile_twice l).1, (dropWhile_twice l).2, List.append_nil]
theorem tok_kind {l : List Nat} {pl : Bool} {t : Tok} (h : tokA l pl = some t) : t.kind ≤ 9 := by
  rcases tokA_cases h with ⟨hn, rfl⟩ | ⟨q, x, hq, hs, rfl⟩ | ⟨x, hv, rfl⟩ | ⟨k, hw, hk, rfl⟩ | ⟨k, x, hn, hw, hk, rfl⟩
  · show 1 ≤ 9; omega
  · show 2 ≤ 9; omega
  · show 7 ≤ 9; omega
  · show k ≤ 9
    unfold wordK at hk
    repeat' split at hk
    all_goals first | (cases hk; omega) | cases hk
  · show k ≤ 9
    have := (signA_mem hk).1
    simp [signL] at this
    omega
theorem tok_ok {l : List Nat} {pl : Bool} {t : Tok} (hl : okL l) (h : tokA l pl = some t) : okL t.text ∧ okL t.raw := by
  obtain ⟨hf, hp⟩ := tokA_formed h
  have hr := okL_pre hl hp
  refine ⟨?_, hr⟩
  rcases hf with ⟨_, q, _, _, e⟩ | ⟨_, e, _⟩ | ⟨_, _, e, _⟩
  · intro c hc; exact hr c (by rw [e]; simp [hc])
  · intro c hc; exact hr c (by rw [e]; simp [hc])
  · rw [e] at hr; exact hr
end Go.Proofs.YtnmcambbpgoodaaGreatDoor
