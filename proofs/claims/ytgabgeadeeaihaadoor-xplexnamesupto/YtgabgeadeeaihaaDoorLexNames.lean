/- XplexNames: a name behind an operand is an operator, or none; elsewhere it is a name. -/
import Derived.Test.YtgabgeadeeaihaaDoorLexNamesPlain
import Derived.Deep.QuietTactic
import Derived.BigQuiet
namespace Go.Proofs.YtgabgeadeeaihaaDoor
open Go.RowKit
theorem wp_region_cls {P : Program} {id : Nat} {Q : Exit → Act → World → Prop} {a : Act} {w : World} {l : List Oper} (C : World → Prop) (hm : P.follows .mixedOrders = true) (hB : Region.lexB .any l.toArray = true) (hC : C w.drew)
    (h : wpQuiet P l.toArray C (fun a' => ∀ w', C w' → Q .normal a' w') l a) : (Code.region id l.toArray true).wp P Q a w :=
  wp_region_quiet (C := C) hm hB hC (by simpa using h)
structure ClsK (X : World) (g : Nat) (k : Int) (w' : World) : Prop where
  bel : Below X.heap.size X w'
  c0 : w'.cell? ⟨g, 0, none⟩ = some (.int .i64 k)
theorem ClsK.below {X w w' : World} {g : Nat} {k : Int} (h : ClsK X g k w) (hb : Below w.heap.size w w') : ClsK X g k w' := ⟨Below.then h.bel hb, kept_cell hb h.c0⟩
set_option maxHeartbeats 1000000 in
theorem refTypes_any (l : List Nat) (w : World) (hl : okL l) :
    Calls Tryd.prog 19 #[.string (T l)] w fun e w' => e = .returned (.bool (typeWord l)) ∧ w' = w := by
  have h1 := eq_asc hl [99, 111, 109, 109, 101, 110, 116] [99, 111, 109, 109, 101, 110, 116] rfl (by decide +kernel)
  have h2 := eq_asc hl [116, 101, 120, 116] [116, 101, 120, 116] rfl (by decide +kernel)
  have h3 := eq_asc hl [112, 114, 111, 99, 101, 115, 115, 105, 110, 103, 45, 105, 110, 115, 116, 114, 117, 99, 116, 105, 111, 110] [112, 114, 111, 99, 101, 115, 115, 105, 110, 103, 45, 105, 110, 115, 116, 114, 117, 99, 116, 105, 111, 110] rfl (by decide +kernel)
  have h4 := eq_asc hl [110, 111, 100, 101] [110, 111, 100, 101] rfl (by decide +kernel)
  have hO : typeWord l = (l == [99, 111, 109, 109, 101, 110, 116] || l == [116, 101, 120, 116] || l == [112, 114, 111, 99, 101, 115, 115, 105, 110, 103, 45, 105, 110, 115, 116, 114, 117, 99, 116, 105, 111, 110] || l == [110, 111, 100, 101]) := rfl
  have HO := hide hO
  clear hO
  generalize (l == [99, 111, 109, 109, 101, 110, 116]) = b1 at *
  generalize (l == [116, 101, 120, 116]) = b2 at *
  generalize (l == [112, 114, 111, 99, 101, 115, 115, 105, 110, 103, 45, 105, 110, 115, 116, 114, 117, 99, 116, 105, 111, 110]) = b3 at *
  generalize (l == [110, 111, 100, 101]) = b4 at *
  go_enter Tryd.func19, Tryd.ntmps19
  cases b1 <;> cases b2 <;> cases b3 <;> cases b4
  all_goals
    go_wp2
    go_ret
    exact ⟨ret_bool (by rw [unhide HO]; rfl), rfl⟩
set_option maxRecDepth 100000 in
set_option maxHeartbeats 4000000 in
theorem names_skip (s : ByteArray) (w : World) (hs : s.size ≤ 1048576) (hE : Env5 w) (h : nameB s = false ∨ 400 < s.size) :
    Calls Tryd.prog 7 #[.string s] w fun e w' => e = .returned (.bool true) ∧ Below w.heap.size w w' := by
  have HE := hide hE
  clear hE
  cases hn : nameB s
  · have HN := hide hn
    clear hn h
    go_enter Tryd.func7, Tryd.ntmps7
    go_wp2_with fail
    refine (refIsName_any s _ (by omega) (unhide HE).env).mono ?_
    rintro e w1 ⟨rfl, hb1⟩
    rw [unhide HN]
    go_wp2_with fail
    refine (live_any _ ((unhide HE).below hb1)).mono ?_
    rintro e w2 ⟨rfl, hb2⟩
    go_wp2
    go_ret
    exact ⟨rfl, Below.then hb1 hb2⟩
  · have h4 : 400 < s.size := by
      rcases h with h | h
      · rw [hn] at h; cases h
      · exact h
    have h4' : (400 : Int) < (s.size : Int) := by omega
    have HN := hide hn
    clear hn h
    go_enter Tryd.func7, Tryd.ntmps7
    go_wp2_with fail
    refine (refIsName_any s _ (by omega) (unhide HE).env).mono ?_
    rintro e w1 ⟨rfl, hb1⟩
    rw [unhide HN]
    go_wp2_with fail
    refine (live_any _ ((unhide HE).below hb1)).mono ?_
    rintro e w2 ⟨rfl, hb2⟩
    go_wp2
    go_ret
    exact ⟨rfl, Below.then hb1 hb2⟩
theorem T_one : (⟨#[49, 32]⟩ : ByteArray) = T [49, 32] ∧ (⟨#[64]⟩ : ByteArray) = T [64] ∧ (⟨#[32, 40]⟩ : ByteArray) = T [32, 40] := ⟨rfl, rfl, rfl⟩
theorem okL_asc {l : List Nat} (h : l.all (fun c => decide (32 ≤ c) && decide (c < 128)) = true) : okL l := fun c hc => by
  have := List.all_eq_true.1 h c hc
  simp at this
  simp [charR]
  omega
set_option maxRecDepth 100000 in
set_option maxHeartbeats 4000000 in
theorem names_walk5 (s : ByteArray) (w : World) (hs : s.size ≤ 1048576) (hE : Env5 w) :
    Calls Tryd.prog 7 #[.string s] w fun e w' => e = .returned (.bool true) ∧ Below w.heap.size w w' := by
  by_cases hsk : nameB s = false ∨ 400 < s.size
  · exact names_skip s w hs hE hsk
  have hnb : nameB s = true := by
    cases hx : nameB s
    · exact absurd (.inl hx) hsk
    · rfl
  have h400 : s.size ≤ 400 := by
    by_cases hx : 400 < s.size
    · exact absurd (.inr hx) hsk
    · omega
  obtain ⟨cs, hl, rfl, hnm⟩ := name_T hnb
  have h4' : ¬ (400 : Int) < ((T cs).size : Int) := by omega
  have HE := hide hE
  have HN := hide hnb
  have s1 := fun W hW => scan_any cs W hl (by omega) hW
  rw [scan_name hnm] at s1
  have o2 : okL ([49, 32] ++ cs) := okL_app (okL_asc rfl) hl
  have s2 := fun W hW => scan_any ([49, 32] ++ cs) W o2 (by rw [sz_app]; have : (T [49, 32]).size = 2 := rfl; omega) hW
  rw [show ([49, 32] ++ cs : List Nat) = 49 :: 32 :: cs from rfl, scan_one_name hnm, show (49 :: 32 :: cs : List Nat) = [49, 32] ++ cs from rfl, ← T_app, ← T_one.1] at s2
  have o3 : okL ([64] ++ cs) := okL_app (okL_asc rfl) hl
  have s3 := fun W hW => scan_any ([64] ++ cs) W o3 (by rw [sz_app]; have : (T [64]).size = 1 := rfl; omega) hW
  rw [show ([64] ++ cs : List Nat) = 64 :: cs from rfl, scan_at_name hnm, show (64 :: cs : List Nat) = [64] ++ cs from rfl, ← T_app, ← T_one.2.1] at s3
  have o4 : okL (cs ++ [32, 40]) := okL_app hl (okL_asc rfl)
  have s4 := fun W hW => scan_any (cs ++ [32, 40]) W o4 (by rw [sz_app]; have : (T [32, 40]).size = 2 := rfl; omega) hW
  obtain ⟨n4, e4⟩ := scan_call_name hnm
  rw [e4, ← T_app, ← T_one.2.2] at s4
  have h1 := eq_asc hl [97, 110, 100] [97, 110, 100] rfl (by decide +kernel)
  have h2 := eq_asc hl [111, 114] [111, 114] rfl (by decide +kernel)
  have h3 := eq_asc hl [109, 111, 100] [109, 111, 100] rfl (by decide +kernel)
  have h4 := eq_asc hl [100, 105, 118] [100, 105, 118] rfl (by decide +kernel)
  have h5 : (cs == [42]) = false := by
    obtain ⟨c, t, e, hb⟩ := nm_head hnm
    have := begC_ge hb
    rw [e]
    simp
    omega
  have hO : opWord cs = (cs == [97, 110, 100] || cs == [111, 114] || cs == [109, 111, 100] || cs == [100, 105, 118] || cs == [42]) := rfl
  rw [h5, Bool.or_false] at hO
  have HO := hide hO
  have S1 := hide s1
  have S2 := hide s2
  have S3 := hide s3
  have S4 := hide s4
  clear s1 s2 s3 s4 o2 o3 o4 e4 hO h5 hE hnb hsk hnm
  cases hop : opWord cs
  · rw [hop] at HO
    have h' := (unhide HO).symm
    simp only [Bool.or_eq_false_iff] at h'
    obtain ⟨⟨⟨q1, q2⟩, q3⟩, q4⟩ := h'
    rw [q1] at h1
    rw [q2] at h2
    rw [q3] at h3
    rw [q4] at h4
    have s2 := unhide S2
    rw [hop, if_neg (by decide)] at s2
    clear S2
    have S2 := hide s2
    clear s2 q1 q2 q3 q4 hop HO
    go_enter Tryd.func7, Tryd.ntmps7
    go_wp2_with fail
    refine (refIsName_any (T cs) _ (by omega) (unhide HE).env).mono ?_
    rintro e w1 ⟨rfl, hb1⟩
    rw [unhide HN]
    go_wp2_with fail
    refine (unhide S1 _ ((unhide HE).below hb1)).mono ?_
    rintro e w2 ⟨⟨v1, rfl, own1⟩, hb2⟩
    have hbb2 := Below.then hb1 hb2
    rcases own_cells own1 with ⟨h0, _⟩ | ⟨g1, cap1, rfl, _, _, hg1, hc1⟩
    · cases h0
    obtain ⟨a0, _, _⟩ := hc1 0 _ rfl
    simp only [Nat.zero_mul, List.length_cons, List.length_nil, Nat.zero_add] at a0 hg1 ⊢
    clear hc1 own1
    go_wp2_with fail
    refine (unhide S2 _ ((unhide HE).below hbb2)).mono ?_
    rintro e w3 ⟨rfl, hb3⟩
    have hbb3 := Below.then hbb2 hb3
    replace a0 := kept_cell hb3 a0
    go_wp2_with fail
    refine (unhide S3 _ ((unhide HE).below hbb3)).mono ?_
    rintro e w4 ⟨⟨v3, rfl, own3⟩, hb4⟩
    have hbb4 := Below.then hbb3 hb4
    rcases own_cells own3 with ⟨h0, _⟩ | ⟨g3, cap3, rfl, _, _, hg3, hc3⟩
    · cases h0
    obtain ⟨c0, _, _⟩ := hc3 1 _ rfl
    simp only [Nat.one_mul, List.length_cons, List.length_nil, Nat.zero_add, Nat.reduceAdd] at c0 hg3 ⊢
    clear hc3 own3
    replace a0 := kept_cell hb4 a0
    go_wp2_with fail
    refine (unhide S4 _ ((unhide HE).below hbb4)).mono ?_
    rintro e w5 ⟨⟨v4, rfl, own4⟩, hb5⟩
    have hbb5 := Below.then hbb4 hb5
    rcases own_cells own4 with ⟨h0, _⟩ | ⟨g4, cap4, rfl, _, _, hg4, hc4⟩
    · cases h0
    obtain ⟨d0, _, _⟩ := hc4 0 _ rfl
    simp only [Nat.zero_mul, List.length_cons, List.length_nil, Nat.zero_add, Nat.reduceAdd] at d0 hg4 ⊢
    clear hc4 own4
    replace a0 := kept_cell hb5 a0
    replace c0 := kept_cell hb5 c0
    go_wp2_with fail
    cases htw : typeWord cs
    all_goals
      rw [htw] at d0
      have HTW := hide htw
      clear htw h1 h2 h3 h4 a0 c0
      have hC : ClsK w5 g4 _ w5.drew := ⟨(Below.refl _ _).drew, d0⟩
      refine wp_region_cls (ClsK w5 g4 _) (by kernel_rfl) (by kernel_rfl) hC ?_
      repeat
        (first
          | go_big_quiet_skip
          | (go_big_quiet_want
             go_big_quiet_op
             first
               | go_big_quiet_on
               | (apply Exists.intro
                  refine ⟨fun w' hC => ?_, ?_⟩
                  · (first
                      | (go_at_call 11; refine (live_any _ ((unhide HE).below (Below.then hbb5 hC.bel))).mono ?_; rintro e w7 ⟨rfl, hb7⟩; exact ⟨rfl, hC.below hb7⟩)
                      | (go_at_call 19; refine (refTypes_any cs _ hl).mono ?_; rintro e w7 ⟨rfl, rfl⟩; rw [unhide HTW]; exact ⟨rfl, hC⟩)
                      | (have c0 := hC.c0; go_simp; first | done | rfl))
                  go_big_quiet_on)))
      refine wpQuiet_nil ?_
      intro w8 hC8
      have hb8 := Below.then hbb5 hC8.bel
      clear hC hC8
      go_wp2
      go_ret
      exact ⟨rfl, hb8⟩
  · rw [hop] at HO
    have s2 := unhide S2
    rw [hop, if_pos rfl] at s2
    clear S2
    have S2 := hide s2
    clear s2 hop
    have h' := (unhide HO).symm
    clear HO
    cases q1 : (cs == [97, 110, 100])
    · rw [q1] at h1
      cases q2 : (cs == [111, 114])
      · rw [q2] at h2
        cases q4 : (cs == [100, 105, 118])
        · rw [q4] at h4
          have q3 : (cs == [109, 111, 100]) = true := by rw [q1, q2, q4] at h'; simpa using h'
          rw [q3] at h3
          clear q1 q2 q3 q4 h'
          go_enter Tryd.func7, Tryd.ntmps7
          go_wp2_with fail
          refine (refIsName_any (T cs) _ (by omega) (unhide HE).env).mono ?_
          rintro e w1 ⟨rfl, hb1⟩
          rw [unhide HN]
          go_wp2_with fail
          refine (unhide S1 _ ((unhide HE).below hb1)).mono ?_
          rintro e w2 ⟨⟨v1, rfl, own1⟩, hb2⟩
          have hbb2 := Below.then hb1 hb2
          rcases own_cells own1 with ⟨h0, _⟩ | ⟨g1, cap1, rfl, _, _, hg1, hc1⟩
          · cases h0
          obtain ⟨a0, _, _⟩ := hc1 0 _ rfl
          simp only [Nat.zero_mul, List.length_cons, List.length_nil, Nat.zero_add] at a0 hg1 ⊢
          clear hc1 own1
          go_wp2_with fail
          refine (unhide S2 _ ((unhide HE).below hbb2)).mono ?_
          rintro e w3 ⟨⟨v2, rfl, own2⟩, hb3⟩
          rcases own_cells own2 with ⟨h0, _⟩ | ⟨g2, cap2, rfl, _, _, hg2, hc2⟩
          · cases h0
          obtain ⟨b0, _, _⟩ := hc2 1 _ rfl
          simp only [Nat.one_mul, List.length_cons, List.length_nil, Nat.zero_add, Nat.reduceAdd] at b0 hg2 ⊢
          clear hc2 own2
          have hbb3 := Below.then hbb2 hb3
          replace a0 := kept_cell hb3 a0
          go_wp2_with fail
          refine (unhide S3 _ ((unhide HE).below hbb3)).mono ?_
          rintro e w4 ⟨⟨v3, rfl, own3⟩, hb4⟩
          have hbb4 := Below.then hbb3 hb4
          rcases own_cells own3 with ⟨h0, _⟩ | ⟨g3, cap3, rfl, _, _, hg3, hc3⟩
          · cases h0
          obtain ⟨c0, _, _⟩ := hc3 1 _ rfl
          simp only [Nat.one_mul, List.length_cons, List.length_nil, Nat.zero_add, Nat.reduceAdd] at c0 hg3 ⊢
          clear hc3 own3
          replace a0 := kept_cell hb4 a0
          replace b0 := kept_cell hb4 b0
          go_wp2_with fail
          refine (unhide S4 _ ((unhide HE).below hbb4)).mono ?_
          rintro e w5 ⟨⟨v4, rfl, own4⟩, hb5⟩
          have hbb5 := Below.then hbb4 hb5
          rcases own_cells own4 with ⟨h0, _⟩ | ⟨g4, cap4, rfl, _, _, hg4, hc4⟩
          · cases h0
          obtain ⟨d0, _, _⟩ := hc4 0 _ rfl
          simp only [Nat.zero_mul, List.length_cons, List.length_nil, Nat.zero_add, Nat.reduceAdd] at d0 hg4 ⊢
          clear hc4 own4
          replace a0 := kept_cell hb5 a0
          replace c0 := kept_cell hb5 c0
          replace b0 := kept_cell hb5 b0
          go_wp2_with fail
          refine (live_any _ ((unhide HE).below hbb5)).mono ?_
          rintro e w6 ⟨rfl, hb6⟩
          replace b0 := kept_cell hb6 b0
          go_wp2
          go_ret
          exact ⟨rfl, Below.then hbb5 hb6⟩
        · rw [q4] at h4
          clear q1 q2 q4 h' h3
          go_enter Tryd.func7, Tryd.ntmps7
          go_wp2_with fail
          refine (refIsName_any (T cs) _ (by omega) (unhide HE).env).mono ?_
          rintro e w1 ⟨rfl, hb1⟩
          rw [unhide HN]
          go_wp2_with fail
          refine (unhide S1 _ ((unhide HE).below hb1)).mono ?_
          rintro e w2 ⟨⟨v1, rfl, own1⟩, hb2⟩
          have hbb2 := Below.then hb1 hb2
          rcases own_cells own1 with ⟨h0, _⟩ | ⟨g1, cap1, rfl, _, _, hg1, hc1⟩
          · cases h0
          obtain ⟨a0, _, _⟩ := hc1 0 _ rfl
          simp only [Nat.zero_mul, List.length_cons, List.length_nil, Nat.zero_add] at a0 hg1 ⊢
          clear hc1 own1
          go_wp2_with fail
          refine (unhide S2 _ ((unhide HE).below hbb2)).mono ?_
          rintro e w3 ⟨⟨v2, rfl, own2⟩, hb3⟩
          rcases own_cells own2 with ⟨h0, _⟩ | ⟨g2, cap2, rfl, _, _, hg2, hc2⟩
          · cases h0
          obtain ⟨b0, _, _⟩ := hc2 1 _ rfl
          simp only [Nat.one_mul, List.length_cons, List.length_nil, Nat.zero_add, Nat.reduceAdd] at b0 hg2 ⊢
          clear hc2 own2
          have hbb3 := Below.then hbb2 hb3
          replace a0 := kept_cell hb3 a0
          go_wp2_with fail
          refine (unhide S3 _ ((unhide HE).below hbb3)).mono ?_
          rintro e w4 ⟨⟨v3, rfl, own3⟩, hb4⟩
          have hbb4 := Below.then hbb3 hb4
          rcases own_cells own3 with ⟨h0, _⟩ | ⟨g3, cap3, rfl, _, _, hg3, hc3⟩
          · cases h0
          obtain ⟨c0, _, _⟩ := hc3 1 _ rfl
          simp only [Nat.one_mul, List.length_cons, List.length_nil, Nat.zero_add, Nat.reduceAdd] at c0 hg3 ⊢
          clear hc3 own3
          replace a0 := kept_cell hb4 a0
          replace b0 := kept_cell hb4 b0
          go_wp2_with fail
          refine (unhide S4 _ ((unhide HE).below hbb4)).mono ?_
          rintro e w5 ⟨⟨v4, rfl, own4⟩, hb5⟩
          have hbb5 := Below.then hbb4 hb5
          rcases own_cells own4 with ⟨h0, _⟩ | ⟨g4, cap4, rfl, _, _, hg4, hc4⟩
          · cases h0
          obtain ⟨d0, _, _⟩ := hc4 0 _ rfl
          simp only [Nat.zero_mul, List.length_cons, List.length_nil, Nat.zero_add, Nat.reduceAdd] at d0 hg4 ⊢
          clear hc4 own4
          replace a0 := kept_cell hb5 a0
          replace c0 := kept_cell hb5 c0
          replace b0 := kept_cell hb5 b0
          go_wp2_with fail
          refine (live_any _ ((unhide HE).below hbb5)).mono ?_
          rintro e w6 ⟨rfl, hb6⟩
          replace b0 := kept_cell hb6 b0
          go_wp2
          go_ret
          exact ⟨rfl, Below.then hbb5 hb6⟩
      · rw [q2] at h2
        clear q1 q2 h' h3 h4
        go_enter Tryd.func7, Tryd.ntmps7
        go_wp2_with fail
        refine (refIsName_any (T cs) _ (by omega) (unhide HE).env).mono ?_
        rintro e w1 ⟨rfl, hb1⟩
        rw [unhide HN]
        go_wp2_with fail
        refine (unhide S1 _ ((unhide HE).below hb1)).mono ?_
        rintro e w2 ⟨⟨v1, rfl, own1⟩, hb2⟩
        have hbb2 := Below.then hb1 hb2
        rcases own_cells own1 with ⟨h0, _⟩ | ⟨g1, cap1, rfl, _, _, hg1, hc1⟩
        · cases h0
        obtain ⟨a0, _, _⟩ := hc1 0 _ rfl
        simp only [Nat.zero_mul, List.length_cons, List.length_nil, Nat.zero_add] at a0 hg1 ⊢
        clear hc1 own1
        go_wp2_with fail
        refine (unhide S2 _ ((unhide HE).below hbb2)).mono ?_
        rintro e w3 ⟨⟨v2, rfl, own2⟩, hb3⟩
        rcases own_cells own2 with ⟨h0, _⟩ | ⟨g2, cap2, rfl, _, _, hg2, hc2⟩
        · cases h0
        obtain ⟨b0, _, _⟩ := hc2 1 _ rfl
        simp only [Nat.one_mul, List.length_cons, List.length_nil, Nat.zero_add, Nat.reduceAdd] at b0 hg2 ⊢
        clear hc2 own2
        have hbb3 := Below.then hbb2 hb3
        replace a0 := kept_cell hb3 a0
        go_wp2_with fail
        refine (unhide S3 _ ((unhide HE).below hbb3)).mono ?_
        rintro e w4 ⟨⟨v3, rfl, own3⟩, hb4⟩
        have hbb4 := Below.then hbb3 hb4
        rcases own_cells own3 with ⟨h0, _⟩ | ⟨g3, cap3, rfl, _, _, hg3, hc3⟩
        · cases h0
        obtain ⟨c0, _, _⟩ := hc3 1 _ rfl
        simp only [Nat.one_mul, List.length_cons, List.length_nil, Nat.zero_add, Nat.reduceAdd] at c0 hg3 ⊢
        clear hc3 own3
        replace a0 := kept_cell hb4 a0
        replace b0 := kept_cell hb4 b0
        go_wp2_with fail
        refine (unhide S4 _ ((unhide HE).below hbb4)).mono ?_
        rintro e w5 ⟨⟨v4, rfl, own4⟩, hb5⟩
        have hbb5 := Below.then hbb4 hb5
        rcases own_cells own4 with ⟨h0, _⟩ | ⟨g4, cap4, rfl, _, _, hg4, hc4⟩
        · cases h0
        obtain ⟨d0, _, _⟩ := hc4 0 _ rfl
        simp only [Nat.zero_mul, List.length_cons, List.length_nil, Nat.zero_add, Nat.reduceAdd] at d0 hg4 ⊢
        clear hc4 own4
        replace a0 := kept_cell hb5 a0
        replace c0 := kept_cell hb5 c0
        replace b0 := kept_cell hb5 b0
        go_wp2_with fail
        refine (live_any _ ((unhide HE).below hbb5)).mono ?_
        rintro e w6 ⟨rfl, hb6⟩
        replace b0 := kept_cell hb6 b0
        go_wp2
        go_ret
        exact ⟨rfl, Below.then hbb5 hb6⟩
    · rw [q1] at h1
      clear q1 h' h2 h3 h4
      go_enter Tryd.func7, Tryd.ntmps7
      go_wp2_with fail
      refine (refIsName_any (T cs) _ (by omega) (unhide HE).env).mono ?_
      rintro e w1 ⟨rfl, hb1⟩
      rw [unhide HN]
      go_wp2_with fail
      refine (unhide S1 _ ((unhide HE).below hb1)).mono ?_
      rintro e w2 ⟨⟨v1, rfl, own1⟩, hb2⟩
      have hbb2 := Below.then hb1 hb2
      rcases own_cells own1 with ⟨h0, _⟩ | ⟨g1, cap1, rfl, _, _, hg1, hc1⟩
      · cases h0
      obtain ⟨a0, _, _⟩ := hc1 0 _ rfl
      simp only [Nat.zero_mul, List.length_cons, List.length_nil, Nat.zero_add] at a0 hg1 ⊢
      clear hc1 own1
      go_wp2_with fail
      refine (unhide S2 _ ((unhide HE).below hbb2)).mono ?_
      rintro e w3 ⟨⟨v2, rfl, own2⟩, hb3⟩
      rcases own_cells own2 with ⟨h0, _⟩ | ⟨g2, cap2, rfl, _, _, hg2, hc2⟩
      · cases h0
      obtain ⟨b0, _, _⟩ := hc2 1 _ rfl
      simp only [Nat.one_mul, List.length_cons, List.length_nil, Nat.zero_add, Nat.reduceAdd] at b0 hg2 ⊢
      clear hc2 own2
      have hbb3 := Below.then hbb2 hb3
      replace a0 := kept_cell hb3 a0
      go_wp2_with fail
      refine (unhide S3 _ ((unhide HE).below hbb3)).mono ?_
      rintro e w4 ⟨⟨v3, rfl, own3⟩, hb4⟩
      have hbb4 := Below.then hbb3 hb4
      rcases own_cells own3 with ⟨h0, _⟩ | ⟨g3, cap3, rfl, _, _, hg3, hc3⟩
      · cases h0
      obtain ⟨c0, _, _⟩ := hc3 1 _ rfl
      simp only [Nat.one_mul, List.length_cons, List.length_nil, Nat.zero_add, Nat.reduceAdd] at c0 hg3 ⊢
      clear hc3 own3
      replace a0 := kept_cell hb4 a0
      replace b0 := kept_cell hb4 b0
      go_wp2_with fail
      refine (unhide S4 _ ((unhide HE).below hbb4)).mono ?_
      rintro e w5 ⟨⟨v4, rfl, own4⟩, hb5⟩
      have hbb5 := Below.then hbb4 hb5
      rcases own_cells own4 with ⟨h0, _⟩ | ⟨g4, cap4, rfl, _, _, hg4, hc4⟩
      · cases h0
      obtain ⟨d0, _, _⟩ := hc4 0 _ rfl
      simp only [Nat.zero_mul, List.length_cons, List.length_nil, Nat.zero_add, Nat.reduceAdd] at d0 hg4 ⊢
      clear hc4 own4
      replace a0 := kept_cell hb5 a0
      replace c0 := kept_cell hb5 c0
      replace b0 := kept_cell hb5 b0
      go_wp2_with fail
      refine (live_any _ ((unhide HE).below hbb5)).mono ?_
      rintro e w6 ⟨rfl, hb6⟩
      replace b0 := kept_cell hb6 b0
      go_wp2
      go_ret
      exact ⟨rfl, Below.then hbb5 hb6⟩
end Go.Proofs.YtgabgeadeeaihaaDoor
