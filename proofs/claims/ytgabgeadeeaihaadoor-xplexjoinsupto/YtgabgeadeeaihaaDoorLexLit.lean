/- XplexLiterals: a string is read as itself; one with both signs is none. -/
import Derived.Test.YtgabgeadeeaihaaDoorLexLive
import Derived.Test.YtgabgeadeeaihaaDoorRefNames
namespace Go.Proofs.YtgabgeadeeaihaaDoor
open Go.RowKit
/-- A text with a sign at both ends. -/
def quoted (q : UInt8) (s : ByteArray) : ByteArray := ⟨#[q]⟩ ++ s ++ ⟨#[q]⟩
theorem quoted_data (q : UInt8) (s : ByteArray) : (quoted q s).data.toList = q :: (s.data.toList ++ [q]) := by
  unfold quoted; rw [ByteArray.data_append, ByteArray.data_append]; simp
theorem quoted_size (q : UInt8) (s : ByteArray) : (quoted q s).size = s.size + 2 := by
  unfold quoted; rw [ByteArray.size_append, ByteArray.size_append]
  have : (⟨#[q]⟩ : ByteArray).size = 1 := rfl
  omega
theorem contains_bytes (s : ByteArray) (c : UInt8) : decide (0 ≤ Lib.indexByte s.data.toList c) = s.data.toList.contains c := by
  by_cases hm : c ∈ s.data.toList
  · obtain ⟨a, b, e, hn⟩ := List.eq_append_cons_of_mem hm
    have : 0 ≤ Lib.indexByte s.data.toList c := by rw [e, indexByte_first _ _ _ hn]; omega
    rw [decide_eq_true this]
    exact (List.contains_iff_mem.2 hm).symm
  · rw [indexByte_none _ _ hm]
    have : s.data.toList.contains c = false := by
      cases hx : s.data.toList.contains c
      · rfl
      · exact absurd (List.contains_iff_mem.1 hx) hm
    rw [this]; rfl
/-- The sign that a text is written with; none: it holds both. -/
def litQ (l : List UInt8) : Option UInt8 := if l.contains 34 then (if l.contains 39 then none else some 39) else some 34
def litV (s : ByteArray) : Value := match litQ s.data.toList with
  | some q => .tuple #[.string (quoted q s), .int .i64 0]
  | none => .tuple #[.string ⟨#[]⟩, .int .i64 9]
set_option maxHeartbeats 1000000 in
theorem literal_any (s : ByteArray) (w : World) (hs : s.size ≤ 2000000) :
    Calls Tryd.prog 9 #[.string s] w fun e w' => e = .returned (litV s) ∧ w' = w := by
  have i0 : ∀ w, (Instr.index 40 (.agg #[.string ⟨#[34]⟩, .string ⟨#[39]⟩]) (.int .i64 0)).run Tryd.prog w = .ok (.string ⟨#[34]⟩) w := fun _ => by kernel_rfl
  have i1 : ∀ w, (Instr.index 40 (.agg #[.string ⟨#[34]⟩, .string ⟨#[39]⟩]) (.int .i64 1)).run Tryd.prog w = .ok (.string ⟨#[39]⟩) w := fun _ => by kernel_rfl
  have hq : ∀ q : UInt8, (⟨#[q]⟩ : ByteArray).size = 1 := fun _ => rfl
  have HV : Hid (litV s = match (if s.data.toList.contains 34 then (if s.data.toList.contains 39 then none else some 39) else some 34 : Option UInt8) with
    | some q => .tuple #[.string (quoted q s), .int .i64 0] | none => .tuple #[.string ⟨#[]⟩, .int .i64 9]) := hide rfl
  go_enter Tryd.func9, Tryd.ntmps9
  go_wp2_with fail
  refine wp_loop_rounds 3 ?_
  rw [rounds_succ]
  go_wp2_with fail
  refine (Tryd.strings_Contains_one s 34 _).mono ?_
  rintro e w1 ⟨rfl, rfl⟩
  rw [contains_bytes]
  cases h1 : s.data.toList.contains 34
  · have H1 := hide h1
    clear h1
    go_wp2
    go_ret2
    refine ⟨?_, rfl⟩
    rw [unhide HV, unhide H1, if_neg (by decide)]
    rfl
  · have H1 := hide h1
    clear h1
    go_wp2_with fail
    rw [rounds_succ]
    go_wp2_with fail
    refine (Tryd.strings_Contains_one s 39 _).mono ?_
    rintro e w1 ⟨rfl, rfl⟩
    rw [contains_bytes]
    cases h2 : s.data.toList.contains 39
    · have H2 := hide h2
      clear h2
      go_wp2
      go_ret2
      refine ⟨?_, rfl⟩
      rw [unhide HV, unhide H1, unhide H2, if_pos rfl, if_neg (by decide)]
      rfl
    · have H2 := hide h2
      clear h2
      go_wp2_with fail
      rw [rounds_succ]
      go_wp2
      go_ret2
      refine ⟨?_, rfl⟩
      rw [unhide HV, unhide H1, unhide H2, if_pos rfl, if_pos rfl]
      rfl
/-- Signs at both ends of a text: it is a text just if what is within is one. -/
theorem txt_quoted {q : Nat} (hq : q = 34 ∨ q = 39) {s : ByteArray} (h : Txt (quoted (UInt8.ofNat q) s).data.toList) : Txt s.data.toList := by
  rw [quoted_data] at h
  have hq' : q < 128 := by omega
  obtain ⟨rs, h1, h2⟩ := h
  cases rs with
  | nil => cases h2
  | cons r rs =>
    have hd1 := dec_rune r (charR_ok (h1 r (by simp))) (rs.flatMap runeB)
    have hd2 := dec_rune q (.inl (by omega)) (s.data.toList ++ [UInt8.ofNat q])
    have e1 : (r :: rs).flatMap runeB = runeB r ++ rs.flatMap runeB := rfl
    rw [e1] at h2
    rw [runeB_one hq', List.singleton_append] at hd2
    rw [h2, hd1] at hd2
    have hr : r = q := congrArg Prod.fst hd2
    subst hr
    rw [runeB_one hq', List.singleton_append] at h2
    have h3 : s.data.toList ++ [UInt8.ofNat r] = rs.flatMap runeB := (List.cons.inj h2).2
    rcases List.eq_nil_or_concat rs with rfl | ⟨us, x, rfl⟩
    · have := congrArg List.length h3; simp at this
    · rw [List.concat_eq_append, List.flatMap_append] at h3
      have hx := h1 x (by simp)
      have e2 : [x].flatMap runeB = runeB x := by simp
      rw [e2] at h3
      by_cases hx1 : x < 128
      · rw [runeB_one hx1] at h3
        have h4 := (List.append_inj' h3 rfl).1
        exact ⟨us, fun y hy => h1 y (by simp [hy]), h4⟩
      · exfalso
        have hh := runeB_high (charR_ok hx) (by omega)
        have hne : runeB x ≠ [] := by
          have := runeB_pos hx
          intro e; rw [e] at this; simp at this
        have h5 := congrArg (fun l => l.getLast?) h3
        simp only [List.getLast?_append, List.getLast?_singleton, Option.some_or] at h5
        rw [List.getLast?_eq_some_getLast hne, Option.some_or] at h5
        have h6 := hh _ (List.getLast_mem hne)
        rw [← Option.some.inj h5, u8_nat (by omega)] at h6
        omega
theorem lit_scan {q : Nat} (hq : q = 34 ∨ q = 39) (cs : List Nat) (h : q ∉ cs) : scanOf (q :: cs ++ [q]) = .ok [(⟨2, cs, q :: cs ++ [q]⟩, 0)] := by
  have hb : blankC q = false := by rcases hq with rfl | rfl <;> rfl
  have hd : (q :: cs ++ [q]).dropWhile blankC = q :: cs ++ [q] := by rw [List.cons_append, List.dropWhile_cons_of_neg (by rw [hb]; decide)]
  unfold scanOf
  rw [scan_head _ _ _ _ _ (by simp) hd]
  have ht := tokA_quoted q hq cs [] (plOf []) h
  rw [List.append_nil] at ht
  rw [ht]
  simp only
  rw [List.drop_length]
  rfl
theorem quoted_T {q : Nat} (hq : q < 128) (cs : List Nat) : quoted (UInt8.ofNat q) (T cs) = T (q :: cs ++ [q]) := by
  unfold quoted
  rw [List.cons_append, show (q :: (cs ++ [q])) = [q] ++ (cs ++ [q]) from rfl, ← T_app, ← T_app, ← ByteArray.append_assoc]
  have : T [q] = ⟨#[UInt8.ofNat q]⟩ := by unfold T; rw [tx_cons, runeB_one hq]; rfl
  rw [this]
theorem lit_cases (s : ByteArray) : (litV s = .tuple #[.string ⟨#[]⟩, .int .i64 9]) ∨ ∃ q, (q = 34 ∨ q = 39) ∧ litV s = .tuple #[.string (quoted (UInt8.ofNat q) s), .int .i64 0] ∧ UInt8.ofNat q ∉ s.data.toList := by
  unfold litV litQ
  cases h1 : s.data.toList.contains 34
  · refine .inr ⟨34, .inl rfl, rfl, fun h => ?_⟩
    have := List.contains_iff_mem.2 h
    rw [show UInt8.ofNat 34 = 34 from rfl, h1] at this
    cases this
  · cases h2 : s.data.toList.contains 39
    · refine .inr ⟨39, .inr rfl, rfl, fun h => ?_⟩
      have := List.contains_iff_mem.2 h
      rw [show UInt8.ofNat 39 = 39 from rfl, h2] at this
      cases this
    · exact .inl rfl
theorem refIsText_fault (s : ByteArray) (w : World) (hs : s.size ≤ 4294967280) (hE : Env w) :
    Calls Tryd.prog 17 #[.string s] w fun e w' => e = .returned (.bool ((fault s).1 == 0)) ∧ Below w.heap.size w w' := by
  refine (refIsText_any s w hs hE).mono ?_
  rintro e w' ⟨rfl, hb⟩
  refine ⟨ret_bool ?_, hb⟩
  exact (text_eq s (s.size + 1) 0).symm
theorem ne_quoted (q : UInt8) (s : ByteArray) : (quoted q s).toList ≠ [] := by
  rw [toList_data, quoted_data]; simp
set_option maxRecDepth 100000 in
set_option maxHeartbeats 4000000 in
theorem literals_walk (s : ByteArray) (w : World) (hs : s.size ≤ 1048576) (hE : Env5 w) :
    Calls Tryd.prog 6 #[.string s] w fun e w' => e = .returned (.bool true) ∧ Below w.heap.size w w' := by
  have HE := hide hE
  clear hE
  rcases lit_cases s with hv | ⟨q, hq, hv, hno⟩
  · have HV := hide hv
    clear hv
    go_enter Tryd.func6, Tryd.ntmps6
    go_wp2_with fail
    refine (literal_any s _ (by omega)).mono ?_
    rintro e w1 ⟨rfl, rfl⟩
    rw [unhide HV]
    go_wp2_with fail
    refine (live_any _ (unhide HE)).mono ?_
    rintro e w2 ⟨rfl, hb2⟩
    go_wp2
    go_ret
    exact ⟨rfl, hb2⟩
  · have HV := hide hv
    have hzq := quoted_size (UInt8.ofNat q) s
    have HQ := hide hzq
    clear hv
    by_cases h512 : 512 < (quoted (UInt8.ofNat q) s).size
    · have h512' : (512 : Int) < ((quoted (UInt8.ofNat q) s).size : Int) := by omega
      have HSC := hide (fun W => scan_long (quoted (UInt8.ofNat q) s) W h512)
      clear hzq
      generalize hG : quoted (UInt8.ofNat q) s = G at *
      clear hG
      cases hft : ((fault s).1 == 0)
      all_goals
        have HFT := hide hft
        clear hft
        go_enter Tryd.func6, Tryd.ntmps6
        go_wp2_with fail
        refine (literal_any s _ (by omega)).mono ?_
        rintro e w1 ⟨rfl, rfl⟩
        rw [unhide HV]
        go_wp2_with fail
        refine (unhide HSC _).mono ?_
        rintro e w2 ⟨rfl, hb2⟩
        go_wp2_with fail
        refine (refIsText_fault s _ (by omega) ((unhide HE).env.below hb2)).mono ?_
        rintro e w3 ⟨rfl, hb3⟩
        rw [unhide HFT]
        go_wp2_with fail
        refine (live_any _ ((unhide HE).below (Below.then hb2 hb3))).mono ?_
        rintro e w4 ⟨rfl, hb4⟩
        go_wp2
        go_ret
        exact ⟨rfl, Below.then hb2 (Below.then hb3 hb4)⟩
    · by_cases hf : (fault s).1 = 0
      · obtain ⟨cs, hl, rfl⟩ := txt_T ((fault_txt s (s.size + 1) 0 (by omega)).1 hf)
        have hnc : q ∉ cs := fun h => hno (by rw [T_data]; exact (mem_tx (by omega) hl).2 h)
        have hol : okL (q :: cs ++ [q]) := by
          intro c hc
          rw [List.cons_append] at hc
          rcases List.mem_cons.1 hc with rfl | hc
          · rcases hq with rfl | rfl <;> decide
          · rcases List.mem_append.1 hc with hc | hc
            · exact hl c hc
            · rw [List.mem_singleton.1 hc]; rcases hq with rfl | rfl <;> decide
        have hTq := quoted_T (show q < 128 by omega) cs
        have hcon := fun W hW => scan_any (q :: cs ++ [q]) W hol (by rw [← hTq]; omega) hW
        rw [lit_scan hq cs hnc, ← hTq] at hcon
        have HSC := hide hcon
        have HF : Hid (((fault (T cs)).1 == 0) = true) := hide (by rw [hf]; rfl)
        clear hcon hTq hol hno hf hzq
        generalize quoted (UInt8.ofNat q) (T cs) = G at *
        have h512' : ¬ (512 : Int) < (G.size : Int) := by omega
        go_enter Tryd.func6, Tryd.ntmps6
        go_wp2_with fail
        refine (literal_any (T cs) _ (by omega)).mono ?_
        rintro e w1 ⟨rfl, rfl⟩
        rw [unhide HV]
        go_wp2_with fail
        refine (unhide HSC _ (unhide HE)).mono ?_
        rintro e w2 ⟨⟨v, rfl, hown⟩, hb2⟩
        rcases own_cells hown with ⟨h0, _⟩ | ⟨g, cap, rfl, hg1, hg2, hg3, hc⟩
        · cases h0
        obtain ⟨a0, a1, a2⟩ := hc 0 _ rfl
        simp only [Nat.zero_mul, List.length_cons, List.length_nil, Nat.zero_add] at a0 a1 a2 hg3 ⊢
        clear hc hown
        go_wp2_with fail
        refine (refIsText_fault (T cs) _ (by omega) ((unhide HE).env.below hb2)).mono ?_
        rintro e w3 ⟨rfl, hb3⟩
        rw [unhide HF]
        replace a0 := kept_cell hb3 a0
        replace a1 := kept_cell hb3 a1
        replace a2 := kept_cell hb3 a2
        go_wp2_with fail
        refine (live_any _ ((unhide HE).below (Below.then hb2 hb3))).mono ?_
        rintro e w4 ⟨rfl, hb4⟩
        replace a0 := kept_cell hb4 a0
        replace a1 := kept_cell hb4 a1
        replace a2 := kept_cell hb4 a2
        go_wp2
        go_ret
        exact ⟨rfl, Below.then hb2 (Below.then hb3 hb4)⟩
      · have hfq : (fault (quoted (UInt8.ofNat q) s)).1 ≠ 0 := fun h0 => hf ((fault_txt s (s.size + 1) 0 (by omega)).2 (txt_quoted hq ((fault_txt _ ((quoted (UInt8.ofNat q) s).size + 1) 0 (by omega)).1 h0)))
        have HSC := hide (fun W => scan_bad (quoted (UInt8.ofNat q) s) W (by omega) hfq)
        have HF : Hid (((fault s).1 == 0) = false) := hide (by simpa using hf)
        clear hfq hzq
        generalize quoted (UInt8.ofNat q) s = G at *
        go_enter Tryd.func6, Tryd.ntmps6
        go_wp2_with fail
        refine (literal_any s _ (by omega)).mono ?_
        rintro e w1 ⟨rfl, rfl⟩
        rw [unhide HV]
        go_wp2_with fail
        refine (unhide HSC _).mono ?_
        rintro e w2 ⟨⟨k, rfl⟩, hb2⟩
        go_wp2_with fail
        refine (refIsText_fault s _ (by omega) ((unhide HE).env.below hb2)).mono ?_
        rintro e w3 ⟨rfl, hb3⟩
        rw [unhide HF]
        go_wp2_with fail
        refine (live_any _ ((unhide HE).below (Below.then hb2 hb3))).mono ?_
        rintro e w4 ⟨rfl, hb4⟩
        go_wp2
        go_ret
        exact ⟨rfl, Below.then hb2 (Below.then hb3 hb4)⟩
end Go.Proofs.YtgabgeadeeaihaaDoor
