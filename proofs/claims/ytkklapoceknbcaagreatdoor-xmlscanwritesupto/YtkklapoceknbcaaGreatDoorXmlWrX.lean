/- Tokens as a text: xmlscan's Write. -/
import Derived.Test.YtkklapoceknbcaaGreatDoorXmlWrW
import Derived.Test.YtkklapoceknbcaaGreatDoorXw
namespace Go.Proofs.YtkklapoceknbcaaGreatDoor
open Go.RowKit
theorem tokB_len {t : BTok} (h : Small t) (hl : t.attrs.length ≤ 64) : (tokB t).length ≤ 500000000 := by
  have h1 := h.n
  have h2 := h.x
  have h3 := attrsB_len h.a
  have h4 := mapO_len esc_few t.text.data.toList
  have e1 : t.name.data.toList.length = t.name.size := rfl
  have e2 : t.text.data.toList.length = t.text.size := rfl
  have h5 : t.attrs.length * 7340036 ≤ 469762304 := by omega
  unfold tokB
  split
  · simp only [List.length_cons, List.length_append, List.length_nil]
    omega
  · split
    · simp only [List.length_cons, List.length_append, List.length_nil]
      omega
    · split
      · omega
      · split
        · simp only [List.length_cons, List.length_append, List.length_nil]
          omega
        · split
          · simp only [List.length_cons, List.length_append, List.length_nil]
            split
            · simp only [List.length_nil]
              omega
            · simp only [List.length_cons]
              omega
          · simp only [List.length_nil]
            omega
theorem writeB_len : ∀ {ts : List BTok}, (∀ t ∈ ts, Small t ∧ t.attrs.length ≤ 64) → (writeB ts).length ≤ ts.length * 500000000
  | [], _ => Nat.le_refl _
  | t :: ts, h => by
    have h1 := tokB_len (h t (List.mem_cons_self ..)).1 (h t (List.mem_cons_self ..)).2
    have h2 := writeB_len (fun y hy => h y (List.mem_cons_of_mem _ hy))
    show (tokB t ++ writeB ts).length ≤ _
    rw [List.length_append, List.length_cons]
    omega
theorem writeB_take {ts : List BTok} {k : Nat} {t : BTok} (h : ts[k]? = some t) : writeB (ts.take (k + 1)) = writeB (ts.take k) ++ tokB t := by
  obtain ⟨hk, hx⟩ := List.getElem?_eq_some_iff.1 h
  unfold writeB
  rw [List.take_succ_eq_append_getElem hk, List.flatMap_append, hx]
  simp
structure WrSt (w0 : World) (ts : List BTok) (k : Nat) (w' : World) : Prop where
  le : k ≤ ts.length
  bel : Below w0.heap.size w0 w'
  bld : IsB w0.heap.size w0.heap.size (Lib.byteCells (writeB (ts.take k))) w'
set_option maxRecDepth 100000 in
set_option maxHeartbeats 8000000 in
theorem write_any (ts : List BTok) (a : Option Addr) (cap : Nat) (w : World) (hv : ToksArg w a ts) (hn : ts.length ≤ 1048576) (hs : ∀ t ∈ ts, Small t) (B : Nat) (hB : B ≤ w.heap.size) (hE : XEnv B w) :
    Calls Tryz.prog 8 #[.slice a ts.length cap] w fun e w' => e = .returned (.tuple #[.string (writeR ts).1, .int .i64 ((writeR ts).2 : Nat)]) ∧ Below w.heap.size w w' := by
  have HV := hide hv
  have HS := hide hs
  have HD := hide (isDocument_any ts a cap w hv hn hs B hB hE)
  clear hv hs hE
  go_enter Tryz.func8, Tryz.ntmps8
  go_wp2_with fail
  refine (unhide HD).mono ?_
  rintro e w1 ⟨rfl, hb1⟩
  have HV1 := hide ((unhide HV).below hb1)
  have HP := hide (pastLimits_any ts a cap w1 (unhide HV1) hn)
  clear HD
  cases hd : docB [] false 0 ts
  · have HR : Hid (writeR ts = (⟨#[]⟩, 5)) := hide (by unfold writeR; rw [if_pos hd])
    clear hd
    go_wp2
    go_ret2
    rw [unhide HR]
    exact ⟨rfl, hb1⟩
  · have HDT := hide hd
    clear hd
    go_wp2_with fail
    refine (unhide HP).mono ?_
    rintro e w2 ⟨rfl, hb2⟩
    have hb02 := Below.then hb1 hb2
    have HV2 := hide ((unhide HV1).below hb2)
    cases hp : pastB ts
    · have HPT := hide hp
      unfold pastB at hp
      simp only [Bool.or_eq_false_iff, decide_eq_false_iff_not, List.any_eq_false, decide_eq_true_eq] at hp
      obtain ⟨p1, _, p3⟩ := hp
      have HL : Hid (∀ t ∈ ts, Small t ∧ t.attrs.length ≤ 64) := hide fun t ht => ⟨unhide HS t ht, by have := p3 t ht; omega⟩
      have hn4 : ts.length ≤ 4096 := by omega
      have HI0 : Hid (WrSt w2 ts 0 (w2.alloc (.cells #[.pointer none, .slice none 0 0] 45 (0, 0)))) := hide ⟨Nat.zero_le _, (Below.refl _ _).alloc (Nat.le_refl _) _, Lib.IsBuilderF.of (.inl ⟨Nat.le_refl _, .slice none 0 0, alloc_blk0 _ _, World.ownsRow_nil _ _ _ _, (by intro h; cases h)⟩)⟩
      clear p1 p3 HP HV HV1
      go_wp2_with fail
      go_loopw [14] (fun i wr => ∃ k : Nat, i = .int .i64 (k : Nat) ∧ WrSt w2 ts k wr) (fun i _ => ts.length - (intOf i).toNat)
      case atStart => exact ⟨0, rfl, unhide HI0⟩
      case round =>
        clear HI0
        obtain ⟨k, rfl, hI⟩ := hrel
        have hk := hI.le
        by_cases hlt : k < ts.length
        · obtain ⟨t, ht⟩ : ∃ t, ts[k]? = some t := ⟨ts[k], List.getElem?_eq_getElem hlt⟩
          obtain ⟨hts, htl⟩ := unhide HL t (List.mem_of_getElem? ht)
          obtain ⟨g, oo, ha, hc⟩ := (unhide HV2) (by intro h0; rw [h0] at hlt; cases hlt)
          obtain ⟨c0', c1', ⟨v, c2', hpv⟩, c3'⟩ := hc k t ht
          obtain ⟨va, vc, hve, _⟩ := id hpv
          subst hve
          subst ha
          have c0 := keptC hI.bel c0'
          have c1 := keptC hI.bel c1'
          have c2 := keptC hI.bel c2'
          have c3 := keptC hI.bel c3'
          have n1 : (0 : Int) ≤ (k : Int) := by omega
          have n2 : (k : Int) < (ts.length : Int) := by omega
          have hbx : Below wr.heap.size wr (wr.alloc (.cells #[.int .i64 t.kind, .string t.name, .slice va t.attrs.length vc, .string t.text] 37 (0, 0))) := (Below.refl _ _).alloc (Nat.le_refl _) _
          have hbz := hI.bel.size
          have hb3 := Below.then hI.bel hbx
          have hlen : (writeB (ts.take k)).length ≤ 100000000000000 := by
            have h1 := writeB_len (ts := ts.take k) (fun t ht => unhide HL t (List.mem_of_mem_take ht))
            have h2 : (ts.take k).length ≤ 4096 := by rw [List.length_take]; omega
            omega
          have HW := hide (writeToken_any w2 w2.heap.size (writeB (ts.take k)) t _ _ hpv hb3 (Lib.IsBuilderF.below hI.bld hbx) hts htl hlen)
          have HTK := hide (writeB_take ht)
          clear hc hI ht hpv c0' c1' c2' c3' hlen
          go_wp2_with fail
          refine (unhide HW).mono ?_
          rintro e w4 ⟨rfl, hB4, hb4⟩
          have HI2 : Hid (WrSt w2 ts (k + 1) w4) := hide ⟨by omega, hb3.trans hb4, by rw [unhide HTK]; exact hB4⟩
          clear hB4 hb4
          go_wp2_with fail
          go_round
          case measure => simp [intOf]; omega
          case rel => exact ⟨k + 1, by simp, unhide HI2⟩
        · have n2 : ¬ (k : Int) < (ts.length : Int) := by omega
          have hkl : k = ts.length := by omega
          have hbd := hI.bld
          rw [hkl, List.take_length] at hbd
          have hbI := hI.bel
          have HLn := hide (Tryz.Builder_Len_f w2.heap.size w2.heap.size _ wr hbd)
          have HSt := hide (Tryz.Builder_String_any_k w2.heap.size w2.heap.size _ wr hbd hbI.size)
          rw [Lib.byteCells_length] at HLn
          clear hI hbd
          go_wp2_with fail
          refine (unhide HLn).mono ?_
          rintro e w3 ⟨rfl, rfl⟩
          by_cases hz : 32768 < (writeB ts).length
          · have HR : Hid (writeR ts = (⟨#[]⟩, 6)) := hide (by unfold writeR; rw [if_neg (by rw [unhide HDT]; decide), if_neg (by rw [unhide HPT]; decide), if_pos hz])
            have hz' : (32768 : Int) < ((writeB ts).length : Int) := by omega
            clear hz
            go_wp2
            go_ret2
            rw [unhide HR]
            exact ⟨rfl, Below.then hb02 hbI⟩
          · have HR : Hid (writeR ts = (⟨(writeB ts).toArray⟩, 0)) := hide (by unfold writeR; rw [if_neg (by rw [unhide HDT]; decide), if_neg (by rw [unhide HPT]; decide), if_neg hz])
            have hz' : ¬ (32768 : Int) < ((writeB ts).length : Int) := by omega
            clear hz
            go_wp2_with fail
            refine (unhide HSt).mono ?_
            rintro e w4 ⟨rfl, _, hb4, _⟩
            go_wp2
            go_ret2
            rw [unhide HR]
            exact ⟨rfl, Below.then hb02 (hbI.trans hb4)⟩
    · have HR : Hid (writeR ts = (⟨#[]⟩, 6)) := hide (by unfold writeR; rw [if_neg (by rw [unhide HDT]; decide), if_pos hp])
      clear hp
      go_wp2
      go_ret2
      rw [unhide HR]
      exact ⟨rfl, hb02⟩
end Go.Proofs.YtkklapoceknbcaaGreatDoor
