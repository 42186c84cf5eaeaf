/- What is scanned of a name, alone, behind a number, behind a sign, ahead of one: plain lemmas. -/
import Derived.Test.YtgabgeadeeaihaaDoorLexLit
namespace Go.Proofs.YtgabgeadeeaihaaDoor
open Go.RowKit
theorem nm_head {cs : List Nat} (h : isNm cs = true) : ∃ c t, cs = c :: t ∧ begC c = true := by
  obtain ⟨h1, h2⟩ := isNm_name h
  exact nameA_beg (by rw [h2]; exact h1)
theorem nm_go {cs : List Nat} (h : isNm cs = true) : ∀ c ∈ cs, goC c = true := by
  have := nameA_all cs
  rw [(isNm_name h).2] at this
  exact this
theorem nm_colon {cs : List Nat} (h : isNm cs = true) : 58 ∉ cs := fun hm => by
  have := nm_go h 58 hm
  rw [go58] at this; cases this
theorem nm_q {cs : List Nat} (h : isNm cs = true) : isQ cs = true := by
  unfold isQ
  have : cs.contains 58 = false := by
    cases hx : cs.contains 58
    · rfl
    · exact absurd (List.contains_iff_mem.1 hx) (nm_colon h)
  rw [this, if_neg (by decide)]; exact h
theorem nm_blank {cs : List Nat} (h : isNm cs = true) : ∀ c ∈ cs, blankC c = false := fun c hc => go_blank (nm_go h c hc)
theorem nm_drop {cs : List Nat} (h : isNm cs = true) (r : List Nat) : (cs ++ r).dropWhile blankC = cs ++ r ∧ cs ++ r ≠ [] := by
  obtain ⟨c, t, rfl, hb⟩ := nm_head h
  refine ⟨?_, by simp⟩
  rw [List.cons_append, List.dropWhile_cons_of_neg (by rw [nm_blank h c (by simp)]; decide)]
/-- A name that is parted from what follows is one word. -/
theorem nm_tok {cs : List Nat} (h : isNm cs = true) (r : List Nat) (hr : parted r) (pl : Bool) : tokA (cs ++ r) pl = (wordK cs r pl).map (fun k => ⟨k, cs, cs⟩) := by
  obtain ⟨c, t, e, hb⟩ := nm_head h
  have hge := begC_ge hb
  have hn := (isNm_name h).2
  have h0 := (isNm_name h).1
  have e2 : cs ++ r = c :: (t ++ r) := by rw [e]; rfl
  have hna : nameA (cs ++ r) = cs := nameA_run cs r (parted_go hr) hn h0
  have hq : qnameA (cs ++ r) = cs := by
    rw [qnameA_eq, hna, List.drop_left, heads_parted hr rfl, Bool.false_and, Bool.and_false, if_neg (by decide)]
  have hw : wordA (cs ++ r) = cs := by
    unfold wordA
    rw [hq, e2, heads_cons, if_neg (by simp; omega), ← e2, List.drop_left, if_neg]
    rw [Bool.and_eq_true]
    rintro ⟨_, h2⟩
    cases r with
    | nil => cases h2
    | cons x y =>
      rw [List.isPrefixOf_iff_prefix] at h2
      have := (List.cons_prefix_cons.1 h2).1
      subst this
      cases hr 58 rfl
  have hd : digC c = false := by simp [digC]; omega
  rw [tokA_word pl (by rw [e2]; exact numA_no c _ hd (fun e => by omega)) (by rw [e2]; exact strAt_other (by omega)) (by rw [e2]; exact strAt_other (by omega)) (by rw [e2]; exact varA_other (by omega)) (by rw [hw]; exact h0), hw, List.drop_left]
theorem nm_end {cs : List Nat} (h : isNm cs = true) (f : Nat) (acc : List (Tok × Nat)) (pre : List Nat) (hf : 1 ≤ f) : scanA (fun l => (tx l).length) (f + 1) acc pre cs = match wordK cs [] (plOf acc) with
    | none => .error (tx pre).length | some k => .ok (acc ++ [(⟨k, cs, cs⟩, (tx pre).length)]) := by
  have hd := nm_drop h []
  rw [List.append_nil] at hd
  have ht := nm_tok h [] parted_nil (plOf acc)
  rw [List.append_nil] at ht
  rw [scan_head _ _ _ _ _ hd.2 hd.1, ht]
  cases hk : wordK cs [] (plOf acc) with
  | none => rfl
  | some k =>
    simp only [Option.map_some]
    rw [List.drop_length]
    obtain ⟨g, rfl⟩ : ∃ g, f = g + 1 := ⟨f - 1, by omega⟩
    rfl
theorem wordK_alone (cs : List Nat) : wordK cs [] false = some 3 := by
  unfold wordK
  rw [if_neg (by decide)]
  rfl
theorem scan_name {cs : List Nat} (h : isNm cs = true) : scanOf cs = .ok [(⟨3, cs, cs⟩, 0)] := by
  have hl : 1 ≤ cs.length := List.length_pos_iff.2 (isNm_name h).1
  unfold scanOf
  rw [nm_end h cs.length [] [] hl]
  rw [show plOf [] = false from rfl, wordK_alone]
  rfl
theorem scan_at_name {cs : List Nat} (h : isNm cs = true) : scanOf (64 :: cs) = .ok [(⟨9, [64], [64]⟩, 0), (⟨3, cs, cs⟩, 1)] := by
  have hl : 1 ≤ cs.length := List.length_pos_iff.2 (isNm_name h).1
  have ht : tokA (64 :: cs) (plOf []) = some ⟨9, [64], [64]⟩ := by
    rw [tokA_sign _ (numA_no 64 _ rfl (fun e => by cases e)) (strAt_other (by decide)) (strAt_other (by decide)) (varA_other (by decide)) (wordA_no (by decide) (by decide) _)]
    have : signA (64 :: cs) = some (9, [64]) := rfl
    rw [this]; rfl
  unfold scanOf
  rw [scan_head _ _ _ _ _ (by simp) (List.dropWhile_cons_of_neg (by decide)), ht]
  simp only [List.length_cons, List.length_nil, List.drop_succ_cons, List.drop_zero]
  rw [nm_end h cs.length _ _ hl]
  rw [show plOf ([] ++ [((⟨9, [64], [64]⟩ : Tok), (tx []).length)]) = false from rfl, wordK_alone]
  rfl
theorem scan_one_name {cs : List Nat} (h : isNm cs = true) : scanOf (49 :: 32 :: cs) = if opWord cs then .ok [(⟨1, [49], [49]⟩, 0), (⟨8, cs, cs⟩, 2)] else .error 2 := by
  have hl : 1 ≤ cs.length := List.length_pos_iff.2 (isNm_name h).1
  have hn : numA (49 :: 32 :: cs) = [49] := rfl
  have ht : tokA (49 :: 32 :: cs) (plOf []) = some ⟨1, [49], [49]⟩ := by
    rw [tokA_num _ (by rw [hn]; simp), hn]
  have hd := nm_drop h []
  rw [List.append_nil] at hd
  have hdb : (32 :: cs).dropWhile blankC = cs := by rw [List.dropWhile_cons_of_pos rfl]; exact hd.1
  have htb : (32 :: cs).takeWhile blankC = [32] := by
    rw [List.takeWhile_cons_of_pos rfl]
    obtain ⟨c, t, e, hb⟩ := nm_head h
    rw [e, List.takeWhile_cons_of_neg (by rw [nm_blank h c (by rw [e]; simp)]; decide)]
  unfold scanOf
  rw [scan_head _ _ _ _ _ (by simp) (List.dropWhile_cons_of_neg (by decide)), ht]
  simp only [List.length_cons, List.length_nil, List.drop_succ_cons, List.drop_zero]
  rw [scan_skip, hdb, htb, nm_end h _ _ _ (by omega)]
  rw [show plOf ([] ++ [((⟨1, [49], [49]⟩ : Tok), (tx []).length)]) = true from rfl]
  cases ho : opWord cs
  · rw [wordK_no ho]
    rfl
  · rw [wordK_op ho]
    rfl
theorem scan_call_name {cs : List Nat} (h : isNm cs = true) : ∃ n, scanOf (cs ++ [32, 40]) = .ok [(⟨if typeWord cs then 5 else 4, cs, cs⟩, 0), (⟨9, [40], [40]⟩, n)] := by
  have hl : 1 ≤ cs.length := List.length_pos_iff.2 (isNm_name h).1
  have hd := nm_drop h [32, 40]
  have ht := nm_tok h [32, 40] (parted_cons rfl) (plOf [])
  have hk : wordK cs [32, 40] (plOf []) = some (if typeWord cs then 5 else 4) := by
    unfold wordK
    rw [show plOf [] = false from rfl, if_neg (by decide), show heads 40 ([32, 40].dropWhile blankC) = true from rfl, Bool.true_and, Bool.true_and, nm_q h]
    cases typeWord cs <;> rfl
  rw [hk] at ht
  refine ⟨(tx (cs ++ [32])).length, ?_⟩
  unfold scanOf
  rw [scan_head _ _ _ _ _ hd.2 hd.1, ht]
  simp only [Option.map_some]
  rw [List.drop_left]
  obtain ⟨g, hg⟩ : ∃ g, (cs ++ [32, 40]).length = g + 2 := ⟨cs.length, by simp⟩
  rw [hg, scan_skip, show [32, 40].dropWhile blankC = [40] from rfl, show [32, 40].takeWhile blankC = [32] from rfl]
  rw [scan_head _ _ _ _ _ (by simp) rfl]
  have hs : ∀ pl, tokA [40] pl = some ⟨9, [40], [40]⟩ := fun pl => by
    rw [tokA_sign _ (numA_no 40 _ rfl (fun e => by cases e)) (strAt_other (by decide)) (strAt_other (by decide)) (varA_other (by decide)) (wordA_no (by decide) (by decide) _)]
    rfl
  rw [hs]
  cases g with
  | zero => rfl
  | succ g => rfl
theorem name_T {s : ByteArray} (h : nameB s = true) : ∃ cs, okL cs ∧ s = T cs ∧ isNm cs = true := by
  have ht : textR s = true := by
    rw [nameB_eq] at h
    simp only [Bool.and_eq_true] at h
    exact h.1.1
  have hf : (fault s).1 = 0 := by
    have := text_eq s (s.size + 1) 0
    rw [show decide ((badFrom s (s.size + 1) 0).1 < 0) = textR s from rfl, ht] at this
    exact beq_iff_eq.1 this
  obtain ⟨cs, hl, rfl⟩ := txt_T ((fault_txt s (s.size + 1) 0 (by omega)).1 hf)
  exact ⟨cs, hl, rfl, by rw [← nameB_T hl]; exact h⟩
end Go.Proofs.YtgabgeadeeaihaaDoor
