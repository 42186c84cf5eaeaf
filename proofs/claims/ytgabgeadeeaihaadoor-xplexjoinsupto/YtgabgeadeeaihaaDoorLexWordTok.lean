/- What a word is, by what stands behind it: xplex's wordToken. -/
import Derived.Test.YtgabgeadeeaihaaDoorLexMem
namespace Go.Proofs.YtgabgeadeeaihaaDoor
open Go.RowKit
theorem okL_dropWhile {l : List Nat} (h : okL l) (p : Nat → Bool) : okL (l.dropWhile p) := fun c hc => h c ((List.dropWhile_sublist _).subset hc)
theorem wordK_op {x b : List Nat} (h : opWord x = true) : wordK x b true = some 8 := by unfold wordK; rw [if_pos rfl, if_pos h]
theorem wordK_no {x b : List Nat} (h : opWord x = false) : wordK x b true = none := by unfold wordK; rw [if_pos rfl, if_neg (by rw [h]; decide)]
theorem wordK_type {x b : List Nat} (h : heads 40 (b.dropWhile blankC) = true) (ht : typeWord x = true) : wordK x b false = some 5 := by
  unfold wordK; rw [if_neg (by decide), h, ht, Bool.and_self, if_pos rfl]
theorem wordK_fun {x b : List Nat} (h : heads 40 (b.dropWhile blankC) = true) (ht : typeWord x = false) (hq : isQ x = true) : wordK x b false = some 4 := by
  unfold wordK; rw [if_neg (by decide), h, ht, hq, Bool.and_false, if_neg (by decide), Bool.and_self, if_pos rfl]
theorem wordK_rest {x b : List Nat} (h : heads 40 (b.dropWhile blankC) = true → typeWord x = false ∧ isQ x = false) : wordK x b false = if [58, 58].isPrefixOf (b.dropWhile blankC) && isNm x then some 6 else some 3 := by
  unfold wordK
  rw [if_neg (by decide)]
  cases hh : heads 40 (b.dropWhile blankC)
  · rw [Bool.false_and, if_neg (by decide), Bool.false_and, if_neg (by decide)]
  · obtain ⟨h1, h2⟩ := h hh
    rw [h1, h2, Bool.and_false, if_neg (by decide), if_neg (by decide)]
theorem pre_heads {l : List Nat} (h : heads 40 l = true) : [58, 58].isPrefixOf l = false := by rw [heads_true h]; rfl
/-- Where wordToken jumps to: a token of none is told. -/
abbrev jumpsW (w : World) (a : Act) (w' : World) : Prop := ∃ (u0 u1 u2 u8 u9 u10 u11 u12 u13 u14 u15 u16 u17 u18 u19 u20 : Value), a = { tmps := #[u0, u1, u2, undef, undef, undef, .pointer (some ⟨w.heap.size, 0, none⟩), .int .i64 0, u8, u9, u10, u11, u12, u13, u14, u15, u16, u17, u18, u19, u20,
  undef, undef, undef, undef, undef, undef, undef, undef, undef, undef, undef, undef, undef, undef, undef, undef, undef, undef, undef, undef, undef, undef, undef, undef, undef, undef, undef, undef, undef, undef], defers := [] } ∧ LexAt w' w.heap.size 0 ⟨#[]⟩ 0 ∧ Below w.heap.size w w'
set_option maxHeartbeats 4000000 in
theorem wordToken_any (x b : List Nat) (pl : Bool) (w : World) (hx : okL x) (hb : okL b) (hsx : (T x).size ≤ 512) (hsb : (T b).size ≤ 512) (hE : Env w) :
    Calls Tryd.prog 44 #[.string (T x), .string (T b), plV pl] w fun e w' => e = .returned (wordV (wordK x b pl) x) ∧ Below w.heap.size w w' := by
  have HE := hide hE
  clear hE
  have hod := okL_dropWhile hb blankC
  have HD : Hid ((T b).extract (tx (b.takeWhile blankC)).length (T b).size = T (b.dropWhile blankC)) := hide (suf_at (List.takeWhile_append_dropWhile).symm)
  have hz : (tx (b.takeWhile blankC)).length ≤ (T b).size := size_pre (List.takeWhile_prefix _)
  have hw1 : Below w.heap.size w (w.alloc (.cells #[.int .i64 0, .string .empty, .int .i64 0] 37)) := (Below.refl _ _).alloc (Nat.le_refl _) _
  have hpb := fun W => pastBlanks_any b [] b W rfl hb (by omega)
  have HPB := hide hpb
  clear hpb
  have hn1 := LexAt.new w 0 0 ⟨#[]⟩ 37
  have HN1 := hide hn1
  clear hn1
  go_enter Tryd.func44, Tryd.ntmps44
  cases pl
  · unfold plV
    rw [if_neg (by decide)]
    go_wp2_with fail
    go_step3
    go_wp2_with fail
    refine (unhide HPB _).mono ?_
    rintro e w2 ⟨rfl, hb2⟩
    rw [List.nil_append]
    have hbb := Below.then hw1 hb2
    have hn2 := (unhide HN1).below hb2
    have HN2 := hide hn2
    obtain ⟨c0, c1, c2, o0, o1, o2⟩ := hn2
    cases h4 : heads 40 (b.dropWhile blankC)
    · have H4 := hide h4
      clear h4
      go_wp2_with fail
      rw [unhide HD]
      refine (hasPrefix_T [40] _ rfl (by decide) _ hod _).mono ?_
      rintro e w3 ⟨rfl, rfl⟩
      rw [isPre_one, unhide H4]
      go_wp2_with fail
      refine (hasPrefix_T [40] _ rfl (by decide) _ hod _).mono ?_
      rintro e w3 ⟨rfl, rfl⟩
      rw [isPre_one, unhide H4]
      cases hc : [58, 58].isPrefixOf (b.dropWhile blankC)
      · have HC := hide hc
        clear hc
        go_wp2_with fail
        refine (hasPrefix_T [58, 58] _ rfl (by decide) _ hod _).mono ?_
        rintro e w3 ⟨rfl, rfl⟩
        rw [unhide HC]
        go_wp2
        rw [Exit.noGoto_ret]
        refine bodyPost_ret (v := wordV (some 3) x) (by simp [results, Tryd.results44, go_sem, wordV, c0, c1, c2]) rfl ?_
        exact ⟨ret_word (by rw [wordK_rest (fun h => by rw [unhide H4] at h; cases h), unhide HC, Bool.false_and, if_neg (by decide)]) rfl, ((hbb.setCell (Nat.le_refl _) _).setCell (Nat.le_refl _) _).setCell (Nat.le_refl _) _⟩
      · have HC := hide hc
        clear hc
        cases hn : isNm x
        all_goals
          have HN := hide hn
          clear hn
          go_wp2_with fail
          refine (hasPrefix_T [58, 58] _ rfl (by decide) _ hod _).mono ?_
          rintro e w3 ⟨rfl, rfl⟩
          rw [unhide HC]
          go_wp2_with fail
          refine (isName_T x hx (by omega) _ ((unhide HE).below hbb)).mono ?_
          rintro e w4 ⟨rfl, hb4⟩
          rw [unhide HN]
          have hbb4 := Below.then hbb hb4
          clear c0 c1 c2 o0 o1 o2
          obtain ⟨c0, c1, c2, o0, o1, o2⟩ := (unhide HN2).below hb4
        · go_wp2
          rw [Exit.noGoto_ret]
          refine bodyPost_ret (v := wordV (some 3) x) (by simp [results, Tryd.results44, go_sem, wordV, c0, c1, c2]) rfl ?_
          exact ⟨ret_word (by rw [wordK_rest (fun h => by rw [unhide H4] at h; cases h), unhide HC, unhide HN, Bool.and_false, if_neg (by decide)]) rfl, ((hbb4.setCell (Nat.le_refl _) _).setCell (Nat.le_refl _) _).setCell (Nat.le_refl _) _⟩
        · go_wp2
          rw [Exit.noGoto_ret]
          refine bodyPost_ret (v := wordV (some 6) x) (by simp [results, Tryd.results44, go_sem, wordV, c0, c1, c2]) rfl ?_
          exact ⟨ret_word (by rw [wordK_rest (fun h => by rw [unhide H4] at h; cases h), unhide HC, unhide HN, Bool.and_self, if_pos rfl]) rfl, ((hbb4.setCell (Nat.le_refl _) _).setCell (Nat.le_refl _) _).setCell (Nat.le_refl _) _⟩
    · have H4 := hide h4
      have HC := hide (pre_heads h4)
      clear h4
      go_wp2_with fail
      rw [unhide HD]
      refine (hasPrefix_T [40] _ rfl (by decide) _ hod _).mono ?_
      rintro e w3 ⟨rfl, rfl⟩
      rw [isPre_one, unhide H4]
      cases ht : typeWord x
      · have HT := hide ht
        clear ht
        go_wp2_with fail
        refine (isType_any x _ hx).mono ?_
        rintro e w3 ⟨rfl, rfl⟩
        rw [unhide HT]
        go_wp2_with fail
        refine (hasPrefix_T [40] _ rfl (by decide) _ hod _).mono ?_
        rintro e w3 ⟨rfl, rfl⟩
        rw [isPre_one, unhide H4]
        cases hq : isQ x
        all_goals
          have HQ := hide hq
          clear hq
          go_wp2_with fail
          refine (isQName_any x _ hx (by omega) ((unhide HE).below hbb)).mono ?_
          rintro e w4 ⟨rfl, hb4⟩
          rw [unhide HQ]
          have hbb4 := Below.then hbb hb4
          clear c0 c1 c2 o0 o1 o2
          obtain ⟨c0, c1, c2, o0, o1, o2⟩ := (unhide HN2).below hb4
        · go_wp2_with fail
          refine (hasPrefix_T [58, 58] _ rfl (by decide) _ hod _).mono ?_
          rintro e w3 ⟨rfl, rfl⟩
          rw [unhide HC]
          go_wp2
          rw [Exit.noGoto_ret]
          refine bodyPost_ret (v := wordV (some 3) x) (by simp [results, Tryd.results44, go_sem, wordV, c0, c1, c2]) rfl ?_
          exact ⟨ret_word (by rw [wordK_rest (fun _ => ⟨unhide HT, unhide HQ⟩), unhide HC, Bool.false_and, if_neg (by decide)]) rfl, ((hbb4.setCell (Nat.le_refl _) _).setCell (Nat.le_refl _) _).setCell (Nat.le_refl _) _⟩
        · go_wp2
          rw [Exit.noGoto_ret]
          refine bodyPost_ret (v := wordV (some 4) x) (by simp [results, Tryd.results44, go_sem, wordV, c0, c1, c2]) rfl ?_
          exact ⟨ret_word (wordK_fun (unhide H4) (unhide HT) (unhide HQ)) rfl, ((hbb4.setCell (Nat.le_refl _) _).setCell (Nat.le_refl _) _).setCell (Nat.le_refl _) _⟩
      · have HT := hide ht
        clear ht
        go_wp2_with fail
        refine (isType_any x _ hx).mono ?_
        rintro e w3 ⟨rfl, rfl⟩
        rw [unhide HT]
        go_wp2
        rw [Exit.noGoto_ret]
        refine bodyPost_ret (v := wordV (some 5) x) (by simp [results, Tryd.results44, go_sem, wordV, c0, c1, c2]) rfl ?_
        exact ⟨ret_word (wordK_type (unhide H4) (unhide HT)) rfl, ((hbb.setCell (Nat.le_refl _) _).setCell (Nat.le_refl _) _).setCell (Nat.le_refl _) _⟩
  · unfold plV
    rw [if_pos rfl]
    cases ho : opWord x
    · have HO := hide ho
      clear ho
      go_wp2_with fail
      refine wp_scope_jumps 0 (jumpsW w) (fun _ _ => 0) rfl ?_ ?_
      · go_wp2_with fail
        refine (unhide HPB _).mono ?_
        rintro e w2 ⟨rfl, hb2⟩
        rw [List.nil_append]
        have hbb := Below.then hw1 hb2
        go_wp2_with fail
        refine (isOperator_any x _ hx).mono ?_
        rintro e w3 ⟨rfl, rfl⟩
        rw [unhide HO]
        go_wp2_with fail
        go_step3
        exact ⟨rfl, _, _, _, _, _, _, _, _, _, _, _, _, _, _, _, _, rfl, (unhide HN1).below hb2, hbb⟩
      · rintro a w' ⟨u0, u1, u2, u8, u9, u10, u11, u12, u13, u14, u15, u16, u17, u18, u19, u20, rfl, hlx, hbb⟩
        obtain ⟨c0, c1, c2, o0, o1, o2⟩ := hlx
        go_wp2_with fail
        change bodyPost Tryd.prog Tryd.f44 (fun e w2 => e = Ending.returned (wordV (wordK x b true) x) ∧ Below w.heap.size w w2) Exit.ret _ _
        refine bodyPost_ret (v := wordV none x) (by simp [results, Tryd.results44, go_sem, wordV, c0, c1, c2]) rfl ?_
        exact ⟨ret_word (wordK_no (unhide HO)) rfl, ((hbb.setCell (Nat.le_refl _) _).setCell (Nat.le_refl _) _).setCell (Nat.le_refl _) _⟩
    · have HO := hide ho
      clear ho
      go_wp2_with fail
      go_step3
      go_wp2_with fail
      refine (unhide HPB _).mono ?_
      rintro e w2 ⟨rfl, hb2⟩
      rw [List.nil_append]
      have hbb := Below.then hw1 hb2
      have hn2 := (unhide HN1).below hb2
      have HN2 := hide hn2
      obtain ⟨c0, c1, c2, o0, o1, o2⟩ := hn2
      go_wp2_with fail
      refine (isOperator_any x _ hx).mono ?_
      rintro e w3 ⟨rfl, rfl⟩
      rw [unhide HO]
      go_wp2
      rw [Exit.noGoto_ret]
      refine bodyPost_ret (v := wordV (some 8) x) (by simp [results, Tryd.results44, go_sem, wordV, c0, c1, c2]) rfl ?_
      exact ⟨ret_word (wordK_op (unhide HO)) rfl, ((hbb.setCell (Nat.le_refl _) _).setCell (Nat.le_refl _) _).setCell (Nat.le_refl _) _⟩
end Go.Proofs.YtgabgeadeeaihaaDoor
