/- Several texts, laid as one. -/
import Derived.Test.YtekjiagjgopnjaaGreatDoorXmlWrW
import Derived.Test.YtekjiagjgopnjaaGreatDoorGbu
import Derived.Test.YtekjiagjgopnjaaGreatDoorGbq
import Derived.BigQuiet
import Derived.Test.YtekjiagjgopnjaaGreatDoorXmlWrB
import Derived.Test.YtekjiagjgopnjaaGreatDoorXmlCuR
import Derived.Test.YtekjiagjgopnjaaGreatDoorGbo
/- Tokens as a text: xmlscan's Write. -/
namespace Go.Proofs.YtekjiagjgopnjaaGreatDoor
open Go.RowKit
theorem tokB_len {t : BTok} (h : Small t) (hl : t.attrs.length ≤ 64) : (tokB t).length ≤ 500000000 := by
  have h1 := h.n
  have h2 := h.x
  have h3 := attrsB_len h.a
  have h4 := mapO_len esc_few t.text.data.toList
  have e1 : t.name.data.toList.length = t.name.size := rfl
  have e2 : t.text.data.toList.length = t.text.size := rfl
  have h5 : t.attrs.length * 7340036 ≤ 469762304 := by omega
  unfold tokB
  split
  · simp only [List.length_cons, List.length_append, List.length_nil]
    omega
  · split
    · simp only [List.length_cons, List.length_append, List.length_nil]
      omega
    · split
      · omega
      · split
        · simp only [List.length_cons, List.length_append, List.length_nil]
          omega
        · split
          · simp only [List.length_cons, List.length_append, List.length_nil]
            split
            · simp only [List.length_nil]
              omega
            · simp only [List.length_cons]
              omega
          · simp only [List.length_nil]
            omega
theorem writeB_len : ∀ {ts : List BTok}, (∀ t ∈ ts, Small t ∧ t.attrs.length ≤ 64) → (writeB ts).length ≤ ts.length * 500000000
  | [], _ => Nat.le_refl _
  | t :: ts, h => by
    have h1 := tokB_len (h t (List.mem_cons_self ..)).1 (h t (List.mem_cons_self ..)).2
    have h2 := writeB_len (fun y hy => h y (List.mem_cons_of_mem _ hy))
    show (tokB t ++ writeB ts).length ≤ _
    rw [List.length_append, List.length_cons]
    omega
theorem writeB_take {ts : List BTok} {k : Nat} {t : BTok} (h : ts[k]? = some t) : writeB (ts.take (k + 1)) = writeB (ts.take k) ++ tokB t := by
  obtain ⟨hk, hx⟩ := List.getElem?_eq_some_iff.1 h
  unfold writeB
  rw [List.take_succ_eq_append_getElem hk, List.flatMap_append, hx]
  simp
structure WrSt (w0 : World) (ts : List BTok) (k : Nat) (w' : World) : Prop where
  le : k ≤ ts.length
  bel : Below w0.heap.size w0 w'
  bld : IsB w0.heap.size w0.heap.size (Lib.byteCells (writeB (ts.take k))) w'
set_option maxRecDepth 100000 in
set_option maxHeartbeats 8000000 in
theorem write_any (ts : List BTok) (a : Option Addr) (cap : Nat) (w : World) (hv : ToksArg w a ts) (hn : ts.length ≤ 1048576) (hs : ∀ t ∈ ts, Small t) (B : Nat) (hB : B ≤ w.heap.size) (hE : XEnv B w) :
    Calls Tryz.prog 7 #[.slice a ts.length cap] w fun e w' => e = .returned (.tuple #[.string (writeR ts).1, .int .i64 ((writeR ts).2 : Nat)]) ∧ Below w.heap.size w w' := by
  have HV := hide hv
  have HS := hide hs
  have HD := hide (isDocument_any ts a cap w hv hn hs B hB hE)
  clear hv hs hE
  go_enter Tryz.func7, Tryz.ntmps7
  go_wp2_with fail
  refine (unhide HD).mono ?_
  rintro e w1 ⟨rfl, hb1⟩
  have HV1 := hide ((unhide HV).below hb1)
  have HP := hide (pastLimits_any ts a cap w1 (unhide HV1) hn)
  clear HD
  cases hd : docB [] false 0 ts
  · have HR : Hid (writeR ts = (⟨#[]⟩, 5)) := hide (by unfold writeR; rw [if_pos hd])
    clear hd
    go_wp2
    go_ret2
    rw [unhide HR]
    exact ⟨rfl, hb1⟩
  · have HDT := hide hd
    clear hd
    go_wp2_with fail
    refine (unhide HP).mono ?_
    rintro e w2 ⟨rfl, hb2⟩
    have hb02 := Below.then hb1 hb2
    have HV2 := hide ((unhide HV1).below hb2)
    cases hp : pastB ts
    · have HPT := hide hp
      unfold pastB at hp
      simp only [Bool.or_eq_false_iff, decide_eq_false_iff_not, List.any_eq_false, decide_eq_true_eq] at hp
      obtain ⟨p1, _, p3⟩ := hp
      have HL : Hid (∀ t ∈ ts, Small t ∧ t.attrs.length ≤ 64) := hide fun t ht => ⟨unhide HS t ht, by have := p3 t ht; omega⟩
      have hn4 : ts.length ≤ 4096 := by omega
      have HI0 : Hid (WrSt w2 ts 0 (w2.alloc (.cells #[.pointer none, .slice none 0 0] 49 (0, 0)))) := hide ⟨Nat.zero_le _, (Below.refl _ _).alloc (Nat.le_refl _) _, Lib.IsBuilderF.of (.inl ⟨Nat.le_refl _, .slice none 0 0, alloc_blk0 _ _, World.ownsRow_nil _ _ _ _, (by intro h; cases h)⟩)⟩
      clear p1 p3 HP HV HV1
      go_wp2_with fail
      go_loopw [14] (fun i wr => ∃ k : Nat, i = .int .i64 (k : Nat) ∧ WrSt w2 ts k wr) (fun i _ => ts.length - (intOf i).toNat)
      case atStart => exact ⟨0, rfl, unhide HI0⟩
      case round =>
        clear HI0
        obtain ⟨k, rfl, hI⟩ := hrel
        have hk := hI.le
        by_cases hlt : k < ts.length
        · obtain ⟨t, ht⟩ : ∃ t, ts[k]? = some t := ⟨ts[k], List.getElem?_eq_getElem hlt⟩
          obtain ⟨hts, htl⟩ := unhide HL t (List.mem_of_getElem? ht)
          obtain ⟨g, oo, ha, hc⟩ := (unhide HV2) (by intro h0; rw [h0] at hlt; cases hlt)
          obtain ⟨c0', c1', ⟨v, c2', hpv⟩, c3'⟩ := hc k t ht
          obtain ⟨va, vc, hve, _⟩ := id hpv
          subst hve
          subst ha
          have c0 := keptC hI.bel c0'
          have c1 := keptC hI.bel c1'
          have c2 := keptC hI.bel c2'
          have c3 := keptC hI.bel c3'
          have n1 : (0 : Int) ≤ (k : Int) := by omega
          have n2 : (k : Int) < (ts.length : Int) := by omega
          have hbx : Below wr.heap.size wr (wr.alloc (.cells #[.int .i64 t.kind, .string t.name, .slice va t.attrs.length vc, .string t.text] 35 (0, 0))) := (Below.refl _ _).alloc (Nat.le_refl _) _
          have hbz := hI.bel.size
          have hb3 := Below.then hI.bel hbx
          have hlen : (writeB (ts.take k)).length ≤ 100000000000000 := by
            have h1 := writeB_len (ts := ts.take k) (fun t ht => unhide HL t (List.mem_of_mem_take ht))
            have h2 : (ts.take k).length ≤ 4096 := by rw [List.length_take]; omega
            omega
          have HW := hide (writeToken_any w2 w2.heap.size (writeB (ts.take k)) t _ _ hpv hb3 (Lib.IsBuilderF.below hI.bld hbx) hts htl hlen)
          have HTK := hide (writeB_take ht)
          clear hc hI ht hpv c0' c1' c2' c3' hlen
          go_wp2_with fail
          refine (unhide HW).mono ?_
          rintro e w4 ⟨rfl, hB4, hb4⟩
          have HI2 : Hid (WrSt w2 ts (k + 1) w4) := hide ⟨by omega, hb3.trans hb4, by rw [unhide HTK]; exact hB4⟩
          clear hB4 hb4
          go_wp2_with fail
          go_round
          case measure => simp [intOf]; omega
          case rel => exact ⟨k + 1, by simp, unhide HI2⟩
        · have n2 : ¬ (k : Int) < (ts.length : Int) := by omega
          have hkl : k = ts.length := by omega
          have hbd := hI.bld
          rw [hkl, List.take_length] at hbd
          have hbI := hI.bel
          have HLn := hide (Tryz.Builder_Len_f w2.heap.size w2.heap.size _ wr hbd)
          have HSt := hide (Tryz.Builder_String_any_k w2.heap.size w2.heap.size _ wr hbd hbI.size)
          rw [Lib.byteCells_length] at HLn
          clear hI hbd
          go_wp2_with fail
          refine (unhide HLn).mono ?_
          rintro e w3 ⟨rfl, rfl⟩
          by_cases hz : 32768 < (writeB ts).length
          · have HR : Hid (writeR ts = (⟨#[]⟩, 6)) := hide (by unfold writeR; rw [if_neg (by rw [unhide HDT]; decide), if_neg (by rw [unhide HPT]; decide), if_pos hz])
            have hz' : (32768 : Int) < ((writeB ts).length : Int) := by omega
            clear hz
            go_wp2
            go_ret2
            rw [unhide HR]
            exact ⟨rfl, Below.then hb02 hbI⟩
          · have HR : Hid (writeR ts = (⟨(writeB ts).toArray⟩, 0)) := hide (by unfold writeR; rw [if_neg (by rw [unhide HDT]; decide), if_neg (by rw [unhide HPT]; decide), if_neg hz])
            have hz' : ¬ (32768 : Int) < ((writeB ts).length : Int) := by omega
            clear hz
            go_wp2_with fail
            refine (unhide HSt).mono ?_
            rintro e w4 ⟨rfl, _, hb4, _⟩
            go_wp2
            go_ret2
            rw [unhide HR]
            exact ⟨rfl, Below.then hb02 (hbI.trans hb4)⟩
    · have HR : Hid (writeR ts = (⟨#[]⟩, 6)) := hide (by unfold writeR; rw [if_neg (by rw [unhide HDT]; decide), if_pos hp])
      clear hp
      go_wp2
      go_ret2
      rw [unhide HR]
      exact ⟨rfl, hb02⟩
end Go.Proofs.YtekjiagjgopnjaaGreatDoor
/- Tokens that are the same: the reference's SameTokens. -/
namespace Go.Proofs.YtekjiagjgopnjaaGreatDoor
open Go.RowKit
set_option maxRecDepth 100000 in
set_option maxHeartbeats 8000000 in
theorem sameTokens_any (ts : List BTok) (a a' : Option Addr) (cap cap' : Nat) (w : World) (hv : ToksArg w a ts) (hv' : ToksArg w a' ts) (hn : ts.length ≤ 1048576) (hs : ∀ t ∈ ts, t.attrs.length ≤ 1048576) :
    Calls Tryz.prog 8 #[.slice a ts.length cap, .slice a' ts.length cap'] w fun e w' => e = .returned (.bool true) ∧ Below w.heap.size w w' := by
  have HV := hide hv
  have HV' := hide hv'
  have HS := hide hs
  clear hv hv' hs
  go_enter Tryz.func8, Tryz.ntmps8
  go_wp2_with fail
  go_loopw [5] (fun i wr => ∃ k : Nat, i = .int .i64 (k : Nat) ∧ k ≤ ts.length ∧ Below w.heap.size w wr) (fun i _ => ts.length - (intOf i).toNat)
  case atStart => exact ⟨0, rfl, Nat.zero_le _, Below.refl _ _⟩
  case round =>
    rename_i W0 _
    obtain ⟨k, rfl, hk, hbr⟩ := hrel
    by_cases hlt : k < ts.length
    · obtain ⟨t, ht⟩ : ∃ t, ts[k]? = some t := ⟨ts[k], List.getElem?_eq_getElem hlt⟩
      have hts := unhide HS t (List.mem_of_getElem? ht)
      obtain ⟨g, o, ha, hc⟩ := ((unhide HV).below hbr) (by intro h0; rw [h0] at hlt; cases hlt)
      obtain ⟨g', o', ha', hc'⟩ := ((unhide HV').below hbr) (by intro h0; rw [h0] at hlt; cases hlt)
      subst ha ha'
      have T1 := hc k t ht
      have T2 := hc' k t ht
      have HT1 := hide T1
      have HT2 := hide T2
      obtain ⟨c0, c1, ⟨v, c2, hpv⟩, c3⟩ := T1
      obtain ⟨d0, d1, ⟨v', d2, hpv'⟩, d3⟩ := T2
      obtain ⟨va, vc, hve, _⟩ := id hpv
      obtain ⟨va', vc', hve', _⟩ := id hpv'
      subst hve hve'
      have HP := hide hpv
      have HP' := hide hpv'
      have HC2 := hide c2
      have HD2 := hide d2
      have n1 : (0 : Int) ≤ (k : Int) := by omega
      have n2 : (k : Int) < (ts.length : Int) := by omega
      have e1 : (t.name.toList == t.name.toList) = true := by simp
      have e2 : (t.text.toList == t.text.toList) = true := by simp
      clear hc hc' ht hpv hpv'
      go_wp2_with fail
      go_quiet (fail)
      have hbq := below_drewN wr nq
      have hb1 := Below.then hbr hbq
      have HP1 := hide ((unhide HP).below hbq)
      have HP2 := hide ((unhide HP').below hbq)
      have HC := hide (keptC hbq (unhide HC2))
      have HD := hide (keptC hbq (unhide HD2))
      clear HP HP' HC2 HD2 c0 c1 c2 c3 d0 d1 d2 d3 HT1 HT2 e1 e2 hbq
      generalize wr.drewN nq = W at *
      go_wp2_with fail
      go_loopw [6] (fun i wx => ∃ j : Nat, i = .int .i64 (j : Nat) ∧ j ≤ t.attrs.length ∧ Below W.heap.size W wx) (fun i _ => t.attrs.length - (intOf i).toNat)
      case atStart => exact ⟨0, rfl, Nat.zero_le _, Below.refl _ _⟩
      case round =>
        obtain ⟨j, rfl, hj, hbx⟩ := hrel
        have c2 := keptC hbx (unhide HC)
        have d2 := keptC hbx (unhide HD)
        by_cases hlj : j < t.attrs.length
        · obtain ⟨y, hy⟩ : ∃ y, t.attrs[j]? = some y := ⟨t.attrs[j], List.getElem?_eq_getElem hlj⟩
          obtain ⟨q1, q2, hq, hcells⟩ := (unhide HP1).below hbx
          obtain ⟨g3, o3, ha3, hc3⟩ := hcells (by intro h0; rw [h0] at hlj; cases hlj)
          obtain ⟨q3, q4, hq', hcells'⟩ := (unhide HP2).below hbx
          obtain ⟨g4, o4, ha4, hc4⟩ := hcells' (by intro h0; rw [h0] at hlj; cases hlj)
          cases hq
          cases hq'
          subst ha3 ha4
          obtain ⟨x0, x1⟩ := hc3 j y hy
          obtain ⟨y0, y1⟩ := hc4 j y hy
          have m1 : (0 : Int) ≤ (j : Int) := by omega
          have m2 : (j : Int) < (t.attrs.length : Int) := by omega
          have e1 : (y.1.toList == y.1.toList) = true := by simp
          have e2 : (y.2.toList == y.2.toList) = true := by simp
          clear hc3 hc4 hcells hcells' hy
          go_wp2_with fail
          go_quiet (fail)
          have hbz := Below.then hbx (below_drewN _ nq)
          clear x0 x1 y0 y1 c2 d2
          go_wp2_with fail
          go_round
          case measure => simp [intOf]; omega
          case rel => exact ⟨j + 1, by simp, by omega, hbz⟩
        · have m2 : ¬ (j : Int) < (t.attrs.length : Int) := by omega
          go_wp2_with fail
          go_round
          case measure => simp [intOf]; omega
          case rel => exact ⟨k + 1, by simp, by omega, Below.then hb1 hbx⟩
    · have n2 : ¬ (k : Int) < (ts.length : Int) := by omega
      go_wp2
      go_ret
      exact ⟨rfl, hbr⟩
end Go.Proofs.YtekjiagjgopnjaaGreatDoor
/- What is written is scanned as it was: the law XmlscanBack. -/
namespace Go.Proofs.YtekjiagjgopnjaaGreatDoor
open Go.RowKit
theorem pairRow_get : ∀ (l : List (List Nat × List Nat)) (i : Nat) (x : List Nat × List Nat), l[i]? = some x → (pairRow l)[i * 2]? = some (.string (T x.1)) ∧ (pairRow l)[i * 2 + 1]? = some (.string (T x.2))
  | [], i, _, h => by cases h
  | y :: l, 0, x, h => by
    cases h
    exact ⟨rfl, rfl⟩
  | y :: l, i + 1, x, h => by
    have ih := pairRow_get l i x h
    have e : pairRow (y :: l) = .string (T y.1) :: .string (T y.2) :: pairRow l := rfl
    rw [e, show (i + 1) * 2 = i * 2 + 1 + 1 by omega]
    exact ih
theorem attrs_arg {w : World} {B : Nat} {v : Value} {l : List (List Nat × List Nat)} (h : AttrsAt w B v l) : PairsArg w v (l.map fun x => (T x.1, T x.2)) := by
  obtain ⟨a, c, rfl⟩ := owns_slice h
  refine ⟨a, c, by rw [List.length_map], fun hl => ?_⟩
  have hl0 : 0 < l.length := by
    cases l with
    | nil => exact absurd rfl hl
    | cons _ _ => simp
  obtain ⟨g, cap, he, _, _, _, hc⟩ := owns_at h hl0
  cases he
  refine ⟨g, 0, rfl, fun i x hx => ?_⟩
  rw [List.getElem?_map] at hx
  obtain ⟨y, hy, rfl⟩ := Option.map_eq_some_iff.1 hx
  obtain ⟨h1, h2⟩ := pairRow_get l i y hy
  rw [Nat.zero_add]
  exact ⟨hc _ _ h1, hc _ _ h2⟩
theorem tok_arg {w : World} {B g i : Nat} {t : XTok} (h : TokAt w B g i t) : TokArg w g (0 + i * 4) t.b := by
  rw [Nat.zero_add]
  obtain ⟨v, h1, h2⟩ := h.a
  exact ⟨h.k, h.n, ⟨v, h1, attrs_arg h2⟩, h.x⟩
theorem toks_arg {w : World} {B : Nat} {vt : Value} {xs : List XTok} (h : Toks w B vt xs) (hn : 0 < xs.length) : ∃ a cap, vt = .slice a (xs.map XTok.b).length cap ∧ ToksArg w a (xs.map XTok.b) := by
  obtain ⟨g, cap, rfl, _, _, _, ht⟩ := toks_at h hn
  refine ⟨some ⟨g, 0, none⟩, cap, by rw [List.length_map], fun _ => ⟨g, 0, rfl, fun i t hi => ?_⟩⟩
  rw [List.getElem?_map] at hi
  obtain ⟨x, hx, rfl⟩ := Option.map_eq_some_iff.1 hi
  exact tok_arg (ht i x hx)
theorem doc_pos {o : List (List Nat)} {k : Nat} {xs : List XTok} (h : DocT o false k xs) : 0 < xs.length := by
  cases h <;> simp
end Go.Proofs.YtekjiagjgopnjaaGreatDoor
/- A document that is cut short ahead of its element's end is none: the law XmlscanCuts. -/
namespace Go.Proofs.YtekjiagjgopnjaaGreatDoor
open Go.RowKit
theorem tx_pre : ∀ {a b : List Nat} {r : List UInt8}, okL a → okL b → tx a ++ r = tx b → ∃ z, a ++ z = b ∧ tx z = r
  | [], b, r, _, _, e => ⟨b, rfl, e.symm⟩
  | x :: a, [], r, ha, _, e => by
    have h0 : tx (x :: a) = [] := (List.append_eq_nil_iff.1 e).1
    have := tx_len_zero ha (by rw [h0]; rfl)
    cases this
  | x :: a, y :: b, r, ha, hb, e => by
    have h1 := dec_rune x (charR_ok (ha x (by simp))) (tx a ++ r)
    have h2 := dec_rune y (charR_ok (hb y (by simp))) (tx b)
    rw [tx_cons, tx_cons, List.append_assoc] at e
    rw [e, h2] at h1
    have hxy : y = x := congrArg Prod.fst h1
    subst hxy
    obtain ⟨z, h3, h4⟩ := tx_pre (okL_tail ha) (okL_tail hb) (List.append_cancel_left e)
    exact ⟨z, by rw [← h3]; rfl, h4⟩
theorem u16_low {a : Int} (h : (Lit.int .u16 a).wf = true) : 0 ≤ a := by
  simp [Lit.wf, IntKind.min, IntKind.max, IntKind.signed, IntKind.bits] at h
  omega
theorem u16_high {a : Int} (h : (Lit.int .u16 a).wf = true) : a ≤ 65535 := by
  simp [Lit.wf, IntKind.min, IntKind.max, IntKind.signed, IntKind.bits] at h
  omega
/-- What Scan tells of a text that is cut short. -/
def CutOut (c : ByteArray) (er pl : Nat) : Prop := (textB c = false ∧ er = 4) ∨ (textB c = true ∧ er = 5 ∧ pl ≤ c.size)
theorem cut_scan (xs : List XTok) (k : Nat) (w : World) (hE : XEnv w.heap.size w) (hD : DocT [] false 0 xs) (hn : xs.length ≤ 4096) (hEn : EndsE xs) (h6 : okL (writeX xs)) (h7 : (T (writeX xs)).size ≤ 32768) (hk : k < (T (writeX xs)).size) :
    Calls Tryz.prog 5 #[.string ((T (writeX xs)).extract 0 k)] w fun e w' => ∃ (er pl : Nat), e = .returned (.tuple #[.slice none 0 0, .int .i64 (er : Nat), .int .i64 (pl : Nat)]) ∧ Below w.heap.size w w' ∧ CutOut ((T (writeX xs)).extract 0 k) er pl := by
  have hsz : ((T (writeX xs)).extract 0 k).size = k := by rw [ByteArray.size_extract]; omega
  have hdt : ((T (writeX xs)).extract 0 k).data.toList = (tx (writeX xs)).take k := by
    rw [ByteArray.data_extract, Array.toList_extract, List.extract_eq_take_drop, T_data]
    simp
  by_cases ht : Txt ((T (writeX xs)).extract 0 k).data.toList
  · obtain ⟨p, hp, e⟩ := txt_T ht
    have e1 : tx p ++ (tx (writeX xs)).drop k = tx (writeX xs) := by
      have this : ((T (writeX xs)).extract 0 k).data.toList = (T p).data.toList := congrArg (fun x : ByteArray => x.data.toList) e
      rw [T_data, hdt] at this
      rw [← this, List.take_append_drop]
    obtain ⟨z, hz, hz2⟩ := tx_pre hp h6 e1
    have hz0 : z ≠ [] := fun h0 => by
      rw [h0, tx_nil] at hz2
      have := congrArg List.length hz2
      rw [List.length_drop] at this
      rw [T_size] at hk
      rw [List.length_nil] at this
      omega
    obtain ⟨pl, h5⟩ := cut_plain hD hn hEn hz0 hz
    have hps : (T p).size ≤ 32768 := by rw [← e, hsz]; omega
    have her := scan_er hp hps h5
    have htb : textB ((T (writeX xs)).extract 0 k) = true := (textB_txt _).2 ht
    rw [e] at htb ⊢
    refine (scan_any p w hp hps hE).mono ?_
    rintro e2 w' ⟨hsp, hb⟩
    rw [h5] at hsp
    exact ⟨5, pl, hsp, hb, .inr ⟨htb, rfl, her.2⟩⟩
  · have htb : textB ((T (writeX xs)).extract 0 k) = false := by
      cases hh : textB ((T (writeX xs)).extract 0 k)
      · rfl
      · exact absurd ((textB_txt _).1 hh) ht
    refine (scan_bad _ w (by rw [hsz]; omega) hE.env ht).mono ?_
    rintro e w' ⟨⟨at', _, rfl⟩, hb⟩
    exact ⟨4, at', rfl, hb, .inl ⟨htb, rfl⟩⟩
theorem ends_of {xs : List XTok} {t : BTok} (h : (xs.map XTok.b)[xs.length - 1]? = some t) (hk : t.kind = 7) : EndsE xs := fun x hx => by
  have h1 : (xs.map XTok.b)[xs.length - 1]? = some x.b := by
    rw [List.getElem?_map, ← List.getLast?_eq_getElem?, hx]
    rfl
  rw [h1] at h
  cases h
  have : ((x.kind : Nat) : Int) = 7 := hk
  omega
set_option maxRecDepth 100000 in
set_option maxHeartbeats 4000000 in
theorem cuts_walk (ts : List BTok) (a : Option Addr) (cap : Nat) (k : Int) (w : World) (hv : ToksArg w a ts) (hn : ts.length ≤ 1048576) (hs : ∀ t ∈ ts, Small t) (hk0 : 0 ≤ k) (hk1 : k ≤ 65535) (hE : XEnv w.heap.size w) :
    Calls Tryz.prog 4 #[.slice a ts.length cap, .int .u16 k] w fun e w' => e = .returned (.bool true) ∧ Below w.heap.size w w' := by
  obtain ⟨K, rfl⟩ : ∃ K : Nat, k = K := ⟨k.toNat, by omega⟩
  have HV := hide hv
  have HS := hide hs
  have HE := hide hE
  have HW := hide (write_any ts a cap w hv hn hs w.heap.size (Nat.le_refl _) hE)
  clear hv hs hE
  rcases write_cases ts with ⟨h1, h2⟩ | ⟨xs, h1, h2, h3, h4, h5, h6, h7⟩
  · obtain ⟨S, c, hR⟩ : ∃ S c, writeR ts = (S, c) := ⟨_, _, rfl⟩
    rw [hR] at HW h1 h2
    simp only at HW h1 h2
    subst h1
    clear hR
    go_enter Tryz.func4, Tryz.ntmps4
    go_wp2_with fail
    refine (unhide HW).mono ?_
    rintro e w1 ⟨rfl, hb1⟩
    have HL := hide (live_any w1 ((unhide HE).at hb1))
    rcases h2 with rfl | rfl
    all_goals
      go_wp2_with fail
      refine (unhide HL).mono ?_
      rintro e w2 ⟨rfl, hb2⟩
      go_wp2
      go_ret
      exact ⟨rfl, Below.then hb1 hb2⟩
  · rw [h5] at HW
    simp only at HW
    have hpos := doc_pos h3
    have hlen : ts.length = xs.length := by rw [h1, List.length_map]
    have hlp : 0 < ts.length := by omega
    have hdl := doc_len h3
    have hD0 : 0 < (T (writeX xs)).size := by
      have : writeX xs ≠ [] := fun h0 => by rw [h0, List.length_nil] at hdl; omega
      have h8 := ne_T h6 this
      rw [T_size]
      rw [T_toList] at h8
      cases hx : tx (writeX xs) with
      | nil => rw [hx] at h8; cases h8
      | cons _ _ => simp
    have HNE := hide (show (T (writeX xs)).toList.isEmpty = false from ne_T h6 (fun h0 => by rw [h0, List.length_nil] at hdl; omega))
    obtain ⟨t, ht⟩ : ∃ t, ts[ts.length - 1]? = some t := ⟨ts[ts.length - 1], List.getElem?_eq_getElem (by omega)⟩
    have hmod : K % (T (writeX xs)).size < (T (writeX xs)).size := Nat.mod_lt _ hD0
    have HSC : Hid (t.kind = 7 → ∀ W, XEnv W.heap.size W → Calls Tryz.prog 5 #[.string ((T (writeX xs)).extract 0 (K % (T (writeX xs)).size))] W fun e w' => ∃ (er pl : Nat), e = .returned (.tuple #[.slice none 0 0, .int .i64 (er : Nat), .int .i64 (pl : Nat)]) ∧ Below W.heap.size W w' ∧ CutOut ((T (writeX xs)).extract 0 (K % (T (writeX xs)).size)) er pl) :=
      hide (fun h7' W hEW => cut_scan xs _ W hEW h3 h4 (ends_of (by rw [← h1, ← hlen]; exact ht) h7') h6 h7 hmod)
    generalize T (writeX xs) = D at *
    clear h1 h2 h3 h4 h5 h6 hdl hpos hlen
    generalize hM : K % D.size = M at *
    have hrem : Int.tmod (K : Int) (D.size : Int) = (M : Nat) := by rw [Int.tmod_eq_emod_of_nonneg (by omega), ← hM]; simp
    obtain ⟨g, o, rfl, hcells⟩ := unhide HV (by intro h0; rw [h0] at hlp; cases hlp)
    have hc := (hcells _ t ht).k
    have HC := hide hc
    clear hcells hc ht
    go_enter Tryz.func4, Tryz.ntmps4
    go_wp2_with fail
    refine (unhide HW).mono ?_
    rintro e w1 ⟨rfl, hb1⟩
    have HE1 := hide ((unhide HE).at hb1)
    have hc1 := keptC hb1 (unhide HC)
    have hne := unhide HNE
    have hl0 : ((ts.length : Int) == 0) = false := by simpa using (by omega : ¬ (ts.length : Int) = 0)
    have m1 : (0 : Int) ≤ (ts.length : Int) - 1 := by omega
    have m2 : wrap64 ((ts.length : Int) - 1) = ((ts.length - 1 : Nat) : Int) := by unfold wrap64; omega
    by_cases h7k : t.kind = 7
    · have hk7 : (t.kind != 7) = false := by simp [h7k]
      have HSC2 := hide (unhide HSC h7k)
      clear HSC h7k
      go_wp2_with fail
      refine (unhide HSC2 _ (unhide HE1)).mono ?_
      rintro e w2 ⟨er, pl, rfl, hb2, hO⟩
      have HE2 := hide ((unhide HE1).at hb2)
      have hcs : (D.extract 0 M).size = M := by rw [ByteArray.size_extract]; omega
      have HCS := hide hcs
      have HTX := hide (fun W hEW => refIsText_same (D.extract 0 M) W (by rw [hcs]; omega) hEW)
      have hb02 := Below.then hb1 hb2
      clear hcs
      generalize D.extract 0 M = C at *
      go_wp2_with fail
      refine (unhide HTX _ (unhide HE2).env).mono ?_
      rintro e w3 ⟨rfl, hb3⟩
      have hb03 := Below.then hb02 hb3
      have HL := hide (live_any w3 ((unhide HE2).at hb3))
      rcases hO with ⟨ht, rfl⟩ | ⟨ht, rfl, hpl⟩
      · go_wp2_with fail
        refine (unhide HL).mono ?_
        rintro e w4 ⟨rfl, hb4⟩
        go_wp2
        go_ret
        exact ⟨rfl, Below.then hb03 hb4⟩
      · have hpl' : decide (pl ≤ M) = true := decide_eq_true (by rw [unhide HCS] at hpl; omega)
        clear hpl
        go_wp2_with fail
        refine (unhide HL).mono ?_
        rintro e w4 ⟨rfl, hb4⟩
        go_wp2
        go_ret
        exact ⟨rfl, Below.then hb03 hb4⟩
    · have hk7 : (t.kind != 7) = true := by simp [h7k]
      clear h7k HSC
      have HL := hide (live_any w1 (unhide HE1))
      go_wp2_with fail
      refine (unhide HL).mono ?_
      rintro e w2 ⟨rfl, hb2⟩
      go_wp2
      go_ret
      exact ⟨rfl, Below.then hb1 hb2⟩
end Go.Proofs.YtekjiagjgopnjaaGreatDoor
