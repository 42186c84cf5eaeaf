/- Several texts, laid as one. -/
import Derived.Test.YtekjiagjgopnjaaGreatDoorXmlWrW
import Derived.Test.YtekjiagjgopnjaaGreatDoorGbv
import Derived.Test.YtekjiagjgopnjaaGreatDoorGbn
import Derived.BigQuiet
import Derived.Test.YtekjiagjgopnjaaGreatDoorGbt
import Derived.Test.YtekjiagjgopnjaaGreatDoorXmlWrB
import Derived.Test.YtekjiagjgopnjaaGreatDoorGbs
import Derived.Test.YtekjiagjgopnjaaGreatDoorGan
import Derived.Lib.LaidU8
import Derived.HandedShaped
import Derived.WalkKit
import Derived.ProofKit
import Derived.OpenShut
import Derived.ShutString
import Derived.Deep.DeepHandedRow
import Derived.Lib.LaidTab
/- Tokens as a text: xmlscan's Write. -/
namespace Go.Proofs.YtekjiagjgopnjaaGreatDoor
open Go.RowKit
theorem tokB_len {t : BTok} (h : Small t) (hl : t.attrs.length ≤ 64) : (tokB t).length ≤ 500000000 := by
  have h1 := h.n
  have h2 := h.x
  have h3 := attrsB_len h.a
  have h4 := mapO_len esc_few t.text.data.toList
  have e1 : t.name.data.toList.length = t.name.size := rfl
  have e2 : t.text.data.toList.length = t.text.size := rfl
  have h5 : t.attrs.length * 7340036 ≤ 469762304 := by omega
  unfold tokB
  split
  · simp only [List.length_cons, List.length_append, List.length_nil]
    omega
  · split
    · simp only [List.length_cons, List.length_append, List.length_nil]
      omega
    · split
      · omega
      · split
        · simp only [List.length_cons, List.length_append, List.length_nil]
          omega
        · split
          · simp only [List.length_cons, List.length_append, List.length_nil]
            split
            · simp only [List.length_nil]
              omega
            · simp only [List.length_cons]
              omega
          · simp only [List.length_nil]
            omega
theorem writeB_len : ∀ {ts : List BTok}, (∀ t ∈ ts, Small t ∧ t.attrs.length ≤ 64) → (writeB ts).length ≤ ts.length * 500000000
  | [], _ => Nat.le_refl _
  | t :: ts, h => by
    have h1 := tokB_len (h t (List.mem_cons_self ..)).1 (h t (List.mem_cons_self ..)).2
    have h2 := writeB_len (fun y hy => h y (List.mem_cons_of_mem _ hy))
    show (tokB t ++ writeB ts).length ≤ _
    rw [List.length_append, List.length_cons]
    omega
theorem writeB_take {ts : List BTok} {k : Nat} {t : BTok} (h : ts[k]? = some t) : writeB (ts.take (k + 1)) = writeB (ts.take k) ++ tokB t := by
  obtain ⟨hk, hx⟩ := List.getElem?_eq_some_iff.1 h
  unfold writeB
  rw [List.take_succ_eq_append_getElem hk, List.flatMap_append, hx]
  simp
structure WrSt (w0 : World) (ts : List BTok) (k : Nat) (w' : World) : Prop where
  le : k ≤ ts.length
  bel : Below w0.heap.size w0 w'
  bld : IsB w0.heap.size w0.heap.size (Lib.byteCells (writeB (ts.take k))) w'
set_option maxRecDepth 100000 in
set_option maxHeartbeats 8000000 in
theorem write_any (ts : List BTok) (a : Option Addr) (cap : Nat) (w : World) (hv : ToksArg w a ts) (hn : ts.length ≤ 1048576) (hs : ∀ t ∈ ts, Small t) (B : Nat) (hB : B ≤ w.heap.size) (hE : XEnv B w) :
    Calls Tryz.prog 7 #[.slice a ts.length cap] w fun e w' => e = .returned (.tuple #[.string (writeR ts).1, .int .i64 ((writeR ts).2 : Nat)]) ∧ Below w.heap.size w w' := by
  have HV := hide hv
  have HS := hide hs
  have HD := hide (isDocument_any ts a cap w hv hn hs B hB hE)
  clear hv hs hE
  go_enter Tryz.func7, Tryz.ntmps7
  go_wp2_with fail
  refine (unhide HD).mono ?_
  rintro e w1 ⟨rfl, hb1⟩
  have HV1 := hide ((unhide HV).below hb1)
  have HP := hide (pastLimits_any ts a cap w1 (unhide HV1) hn)
  clear HD
  cases hd : docB [] false 0 ts
  · have HR : Hid (writeR ts = (⟨#[]⟩, 5)) := hide (by unfold writeR; rw [if_pos hd])
    clear hd
    go_wp2
    go_ret2
    rw [unhide HR]
    exact ⟨rfl, hb1⟩
  · have HDT := hide hd
    clear hd
    go_wp2_with fail
    refine (unhide HP).mono ?_
    rintro e w2 ⟨rfl, hb2⟩
    have hb02 := Below.then hb1 hb2
    have HV2 := hide ((unhide HV1).below hb2)
    cases hp : pastB ts
    · have HPT := hide hp
      unfold pastB at hp
      simp only [Bool.or_eq_false_iff, decide_eq_false_iff_not, List.any_eq_false, decide_eq_true_eq] at hp
      obtain ⟨p1, _, p3⟩ := hp
      have HL : Hid (∀ t ∈ ts, Small t ∧ t.attrs.length ≤ 64) := hide fun t ht => ⟨unhide HS t ht, by have := p3 t ht; omega⟩
      have hn4 : ts.length ≤ 4096 := by omega
      have HI0 : Hid (WrSt w2 ts 0 (w2.alloc (.cells #[.pointer none, .slice none 0 0] 49 (0, 0)))) := hide ⟨Nat.zero_le _, (Below.refl _ _).alloc (Nat.le_refl _) _, Lib.IsBuilderF.of (.inl ⟨Nat.le_refl _, .slice none 0 0, alloc_blk0 _ _, World.ownsRow_nil _ _ _ _, (by intro h; cases h)⟩)⟩
      clear p1 p3 HP HV HV1
      go_wp2_with fail
      go_loopw [14] (fun i wr => ∃ k : Nat, i = .int .i64 (k : Nat) ∧ WrSt w2 ts k wr) (fun i _ => ts.length - (intOf i).toNat)
      case atStart => exact ⟨0, rfl, unhide HI0⟩
      case round =>
        clear HI0
        obtain ⟨k, rfl, hI⟩ := hrel
        have hk := hI.le
        by_cases hlt : k < ts.length
        · obtain ⟨t, ht⟩ : ∃ t, ts[k]? = some t := ⟨ts[k], List.getElem?_eq_getElem hlt⟩
          obtain ⟨hts, htl⟩ := unhide HL t (List.mem_of_getElem? ht)
          obtain ⟨g, oo, ha, hc⟩ := (unhide HV2) (by intro h0; rw [h0] at hlt; cases hlt)
          obtain ⟨c0', c1', ⟨v, c2', hpv⟩, c3'⟩ := hc k t ht
          obtain ⟨va, vc, hve, _⟩ := id hpv
          subst hve
          subst ha
          have c0 := keptC hI.bel c0'
          have c1 := keptC hI.bel c1'
          have c2 := keptC hI.bel c2'
          have c3 := keptC hI.bel c3'
          have n1 : (0 : Int) ≤ (k : Int) := by omega
          have n2 : (k : Int) < (ts.length : Int) := by omega
          have hbx : Below wr.heap.size wr (wr.alloc (.cells #[.int .i64 t.kind, .string t.name, .slice va t.attrs.length vc, .string t.text] 35 (0, 0))) := (Below.refl _ _).alloc (Nat.le_refl _) _
          have hbz := hI.bel.size
          have hb3 := Below.then hI.bel hbx
          have hlen : (writeB (ts.take k)).length ≤ 100000000000000 := by
            have h1 := writeB_len (ts := ts.take k) (fun t ht => unhide HL t (List.mem_of_mem_take ht))
            have h2 : (ts.take k).length ≤ 4096 := by rw [List.length_take]; omega
            omega
          have HW := hide (writeToken_any w2 w2.heap.size (writeB (ts.take k)) t _ _ hpv hb3 (Lib.IsBuilderF.below hI.bld hbx) hts htl hlen)
          have HTK := hide (writeB_take ht)
          clear hc hI ht hpv c0' c1' c2' c3' hlen
          go_wp2_with fail
          refine (unhide HW).mono ?_
          rintro e w4 ⟨rfl, hB4, hb4⟩
          have HI2 : Hid (WrSt w2 ts (k + 1) w4) := hide ⟨by omega, hb3.trans hb4, by rw [unhide HTK]; exact hB4⟩
          clear hB4 hb4
          go_wp2_with fail
          go_round
          case measure => simp [intOf]; omega
          case rel => exact ⟨k + 1, by simp, unhide HI2⟩
        · have n2 : ¬ (k : Int) < (ts.length : Int) := by omega
          have hkl : k = ts.length := by omega
          have hbd := hI.bld
          rw [hkl, List.take_length] at hbd
          have hbI := hI.bel
          have HLn := hide (Tryz.Builder_Len_f w2.heap.size w2.heap.size _ wr hbd)
          have HSt := hide (Tryz.Builder_String_any_k w2.heap.size w2.heap.size _ wr hbd hbI.size)
          rw [Lib.byteCells_length] at HLn
          clear hI hbd
          go_wp2_with fail
          refine (unhide HLn).mono ?_
          rintro e w3 ⟨rfl, rfl⟩
          by_cases hz : 32768 < (writeB ts).length
          · have HR : Hid (writeR ts = (⟨#[]⟩, 6)) := hide (by unfold writeR; rw [if_neg (by rw [unhide HDT]; decide), if_neg (by rw [unhide HPT]; decide), if_pos hz])
            have hz' : (32768 : Int) < ((writeB ts).length : Int) := by omega
            clear hz
            go_wp2
            go_ret2
            rw [unhide HR]
            exact ⟨rfl, Below.then hb02 hbI⟩
          · have HR : Hid (writeR ts = (⟨(writeB ts).toArray⟩, 0)) := hide (by unfold writeR; rw [if_neg (by rw [unhide HDT]; decide), if_neg (by rw [unhide HPT]; decide), if_neg hz])
            have hz' : ¬ (32768 : Int) < ((writeB ts).length : Int) := by omega
            clear hz
            go_wp2_with fail
            refine (unhide HSt).mono ?_
            rintro e w4 ⟨rfl, _, hb4, _⟩
            go_wp2
            go_ret2
            rw [unhide HR]
            exact ⟨rfl, Below.then hb02 (hbI.trans hb4)⟩
    · have HR : Hid (writeR ts = (⟨#[]⟩, 6)) := hide (by unfold writeR; rw [if_neg (by rw [unhide HDT]; decide), if_pos hp])
      clear hp
      go_wp2
      go_ret2
      rw [unhide HR]
      exact ⟨rfl, hb02⟩
end Go.Proofs.YtekjiagjgopnjaaGreatDoor
/- Tokens that are the same: the reference's SameTokens. -/
namespace Go.Proofs.YtekjiagjgopnjaaGreatDoor
open Go.RowKit
set_option maxRecDepth 100000 in
set_option maxHeartbeats 8000000 in
theorem sameTokens_any (ts : List BTok) (a a' : Option Addr) (cap cap' : Nat) (w : World) (hv : ToksArg w a ts) (hv' : ToksArg w a' ts) (hn : ts.length ≤ 1048576) (hs : ∀ t ∈ ts, t.attrs.length ≤ 1048576) :
    Calls Tryz.prog 8 #[.slice a ts.length cap, .slice a' ts.length cap'] w fun e w' => e = .returned (.bool true) ∧ Below w.heap.size w w' := by
  have HV := hide hv
  have HV' := hide hv'
  have HS := hide hs
  clear hv hv' hs
  go_enter Tryz.func8, Tryz.ntmps8
  go_wp2_with fail
  go_loopw [5] (fun i wr => ∃ k : Nat, i = .int .i64 (k : Nat) ∧ k ≤ ts.length ∧ Below w.heap.size w wr) (fun i _ => ts.length - (intOf i).toNat)
  case atStart => exact ⟨0, rfl, Nat.zero_le _, Below.refl _ _⟩
  case round =>
    rename_i W0 _
    obtain ⟨k, rfl, hk, hbr⟩ := hrel
    by_cases hlt : k < ts.length
    · obtain ⟨t, ht⟩ : ∃ t, ts[k]? = some t := ⟨ts[k], List.getElem?_eq_getElem hlt⟩
      have hts := unhide HS t (List.mem_of_getElem? ht)
      obtain ⟨g, o, ha, hc⟩ := ((unhide HV).below hbr) (by intro h0; rw [h0] at hlt; cases hlt)
      obtain ⟨g', o', ha', hc'⟩ := ((unhide HV').below hbr) (by intro h0; rw [h0] at hlt; cases hlt)
      subst ha ha'
      have T1 := hc k t ht
      have T2 := hc' k t ht
      have HT1 := hide T1
      have HT2 := hide T2
      obtain ⟨c0, c1, ⟨v, c2, hpv⟩, c3⟩ := T1
      obtain ⟨d0, d1, ⟨v', d2, hpv'⟩, d3⟩ := T2
      obtain ⟨va, vc, hve, _⟩ := id hpv
      obtain ⟨va', vc', hve', _⟩ := id hpv'
      subst hve hve'
      have HP := hide hpv
      have HP' := hide hpv'
      have HC2 := hide c2
      have HD2 := hide d2
      have n1 : (0 : Int) ≤ (k : Int) := by omega
      have n2 : (k : Int) < (ts.length : Int) := by omega
      have e1 : (t.name.toList == t.name.toList) = true := by simp
      have e2 : (t.text.toList == t.text.toList) = true := by simp
      clear hc hc' ht hpv hpv'
      go_wp2_with fail
      go_quiet (fail)
      have hbq := below_drewN wr nq
      have hb1 := Below.then hbr hbq
      have HP1 := hide ((unhide HP).below hbq)
      have HP2 := hide ((unhide HP').below hbq)
      have HC := hide (keptC hbq (unhide HC2))
      have HD := hide (keptC hbq (unhide HD2))
      clear HP HP' HC2 HD2 c0 c1 c2 c3 d0 d1 d2 d3 HT1 HT2 e1 e2 hbq
      generalize wr.drewN nq = W at *
      go_wp2_with fail
      go_loopw [6] (fun i wx => ∃ j : Nat, i = .int .i64 (j : Nat) ∧ j ≤ t.attrs.length ∧ Below W.heap.size W wx) (fun i _ => t.attrs.length - (intOf i).toNat)
      case atStart => exact ⟨0, rfl, Nat.zero_le _, Below.refl _ _⟩
      case round =>
        obtain ⟨j, rfl, hj, hbx⟩ := hrel
        have c2 := keptC hbx (unhide HC)
        have d2 := keptC hbx (unhide HD)
        by_cases hlj : j < t.attrs.length
        · obtain ⟨y, hy⟩ : ∃ y, t.attrs[j]? = some y := ⟨t.attrs[j], List.getElem?_eq_getElem hlj⟩
          obtain ⟨q1, q2, hq, hcells⟩ := (unhide HP1).below hbx
          obtain ⟨g3, o3, ha3, hc3⟩ := hcells (by intro h0; rw [h0] at hlj; cases hlj)
          obtain ⟨q3, q4, hq', hcells'⟩ := (unhide HP2).below hbx
          obtain ⟨g4, o4, ha4, hc4⟩ := hcells' (by intro h0; rw [h0] at hlj; cases hlj)
          cases hq
          cases hq'
          subst ha3 ha4
          obtain ⟨x0, x1⟩ := hc3 j y hy
          obtain ⟨y0, y1⟩ := hc4 j y hy
          have m1 : (0 : Int) ≤ (j : Int) := by omega
          have m2 : (j : Int) < (t.attrs.length : Int) := by omega
          have e1 : (y.1.toList == y.1.toList) = true := by simp
          have e2 : (y.2.toList == y.2.toList) = true := by simp
          clear hc3 hc4 hcells hcells' hy
          go_wp2_with fail
          go_quiet (fail)
          have hbz := Below.then hbx (below_drewN _ nq)
          clear x0 x1 y0 y1 c2 d2
          go_wp2_with fail
          go_round
          case measure => simp [intOf]; omega
          case rel => exact ⟨j + 1, by simp, by omega, hbz⟩
        · have m2 : ¬ (j : Int) < (t.attrs.length : Int) := by omega
          go_wp2_with fail
          go_round
          case measure => simp [intOf]; omega
          case rel => exact ⟨k + 1, by simp, by omega, Below.then hb1 hbx⟩
    · have n2 : ¬ (k : Int) < (ts.length : Int) := by omega
      go_wp2
      go_ret
      exact ⟨rfl, hbr⟩
end Go.Proofs.YtekjiagjgopnjaaGreatDoor
/- What is written is scanned as it was: the law XmlscanBack. -/
namespace Go.Proofs.YtekjiagjgopnjaaGreatDoor
open Go.RowKit
theorem pairRow_get : ∀ (l : List (List Nat × List Nat)) (i : Nat) (x : List Nat × List Nat), l[i]? = some x → (pairRow l)[i * 2]? = some (.string (T x.1)) ∧ (pairRow l)[i * 2 + 1]? = some (.string (T x.2))
  | [], i, _, h => by cases h
  | y :: l, 0, x, h => by
    cases h
    exact ⟨rfl, rfl⟩
  | y :: l, i + 1, x, h => by
    have ih := pairRow_get l i x h
    have e : pairRow (y :: l) = .string (T y.1) :: .string (T y.2) :: pairRow l := rfl
    rw [e, show (i + 1) * 2 = i * 2 + 1 + 1 by omega]
    exact ih
theorem attrs_arg {w : World} {B : Nat} {v : Value} {l : List (List Nat × List Nat)} (h : AttrsAt w B v l) : PairsArg w v (l.map fun x => (T x.1, T x.2)) := by
  obtain ⟨a, c, rfl⟩ := owns_slice h
  refine ⟨a, c, by rw [List.length_map], fun hl => ?_⟩
  have hl0 : 0 < l.length := by
    cases l with
    | nil => exact absurd rfl hl
    | cons _ _ => simp
  obtain ⟨g, cap, he, _, _, _, hc⟩ := owns_at h hl0
  cases he
  refine ⟨g, 0, rfl, fun i x hx => ?_⟩
  rw [List.getElem?_map] at hx
  obtain ⟨y, hy, rfl⟩ := Option.map_eq_some_iff.1 hx
  obtain ⟨h1, h2⟩ := pairRow_get l i y hy
  rw [Nat.zero_add]
  exact ⟨hc _ _ h1, hc _ _ h2⟩
theorem tok_arg {w : World} {B g i : Nat} {t : XTok} (h : TokAt w B g i t) : TokArg w g (0 + i * 4) t.b := by
  rw [Nat.zero_add]
  obtain ⟨v, h1, h2⟩ := h.a
  exact ⟨h.k, h.n, ⟨v, h1, attrs_arg h2⟩, h.x⟩
theorem toks_arg {w : World} {B : Nat} {vt : Value} {xs : List XTok} (h : Toks w B vt xs) (hn : 0 < xs.length) : ∃ a cap, vt = .slice a (xs.map XTok.b).length cap ∧ ToksArg w a (xs.map XTok.b) := by
  obtain ⟨g, cap, rfl, _, _, _, ht⟩ := toks_at h hn
  refine ⟨some ⟨g, 0, none⟩, cap, by rw [List.length_map], fun _ => ⟨g, 0, rfl, fun i t hi => ?_⟩⟩
  rw [List.getElem?_map] at hi
  obtain ⟨x, hx, rfl⟩ := Option.map_eq_some_iff.1 hi
  exact tok_arg (ht i x hx)
theorem doc_pos {o : List (List Nat)} {k : Nat} {xs : List XTok} (h : DocT o false k xs) : 0 < xs.length := by
  cases h <;> simp
end Go.Proofs.YtekjiagjgopnjaaGreatDoor
/- What is scanned is written, if there is room, and scanned again as the same: the law XmlscanAgain. -/
namespace Go.Proofs.YtekjiagjgopnjaaGreatDoor
open Go.RowKit
/-- What Scan tells of any text: an error and nothing, or a text's tokens. -/
def ScanOut (w w' : World) (vt : Value) (er : Nat) : Prop := ((er = 4 ∨ er = 5 ∨ er = 6) ∧ vt = .slice none 0 0) ∨ (er = 0 ∧ ∃ cs ts, okL cs ∧ (T cs).size ≤ 32768 ∧ scanX cs = .ok ts ∧ Toks w' w.heap.size vt ts)
theorem scan_out (s : ByteArray) (w : World) (hE : XEnv w.heap.size w) :
    Calls Tryz.prog 5 #[.string s] w fun e w' => ∃ (vt : Value) (er pl : Nat), e = .returned (.tuple #[vt, .int .i64 (er : Nat), .int .i64 (pl : Nat)]) ∧ Below w.heap.size w w' ∧ ScanOut w w' vt er := by
  by_cases hz : 32768 < s.size
  · refine (scan_long _ w hz).mono ?_
    rintro e w' ⟨rfl, rfl⟩
    exact ⟨_, 6, 0, rfl, Below.refl _ _, .inl ⟨.inr (.inr rfl), rfl⟩⟩
  · by_cases ht : Txt s.data.toList
    · obtain ⟨l, hl, rfl⟩ := txt_T ht
      refine (scan_any l w hl (by omega) hE).mono ?_
      rintro e w' ⟨hp, hb⟩
      cases hs : scanX l with
      | error x =>
        rw [hs] at hp
        have := scan_er hl (by omega) hs
        exact ⟨_, x.1, x.2, hp, hb, .inl ⟨.inr this.1, rfl⟩⟩
      | ok ts =>
        rw [hs] at hp
        obtain ⟨vt, rfl, hT⟩ := hp
        exact ⟨vt, 0, 0, rfl, hb, .inr ⟨rfl, l, ts, hl, by omega, hs, hT⟩⟩
    · refine (scan_bad _ w (by omega) hE.env ht).mono ?_
      rintro e w' ⟨⟨at', _, rfl⟩, hb⟩
      exact ⟨_, 4, at', rfl, hb, .inl ⟨.inl rfl, rfl⟩⟩
set_option maxRecDepth 100000 in
set_option maxHeartbeats 4000000 in
theorem again_walk (s : ByteArray) (w : World) (hE : XEnv w.heap.size w) :
    Calls Tryz.prog 3 #[.string s] w fun e w' => e = .returned (.bool true) ∧ Below w.heap.size w w' := by
  have HE := hide hE
  have HW := hide (scan_out s w hE)
  clear hE
  go_enter Tryz.func3, Tryz.ntmps3
  go_wp2_with fail
  refine (unhide HW).mono ?_
  rintro e w1 ⟨vt, er, pl, rfl, hb1, hO⟩
  have HE1 := hide ((unhide HE).at hb1)
  clear HW HE
  rcases hO with ⟨he, rfl⟩ | ⟨rfl, cs, xs, hl, hs, hsc, hT⟩
  · have HL := hide (live_any w1 (unhide HE1))
    rcases he with rfl | rfl | rfl
    all_goals
      go_wp2_with fail
      refine (unhide HL).mono ?_
      rintro e w2 ⟨rfl, hb2⟩
      go_wp2
      go_ret
      exact ⟨rfl, Below.then hb1 hb2⟩
  · obtain ⟨hD, hn, hsm, hR⟩ := write_told hl hs hsc
    have hpos := doc_pos hD
    obtain ⟨a, cap, rfl, hA⟩ := toks_arg hT hpos
    have hln : (xs.map XTok.b).length ≤ 1048576 := by rw [List.length_map]; omega
    have HV := hide hA
    have HS := hide hsm
    have HW := hide (write_any (xs.map XTok.b) a cap w1 hA hln hsm w1.heap.size (Nat.le_refl _) (unhide HE1))
    obtain ⟨k1, k2, k3⟩ := back_plain hD hn
    clear hsc hT hl hs hsm hA
    rcases hR with hR | ⟨hR, h6, h7⟩
    · rw [hR] at HW
      simp only at HW
      clear hD hn hpos k1 k2 k3 hR HS HV
      generalize xs.map XTok.b = ts at *
      go_wp2_with fail
      refine (unhide HW).mono ?_
      rintro e w2 ⟨rfl, hb2⟩
      have hb02 := Below.then hb1 hb2
      have HL := hide (live_any w2 ((unhide HE1).at hb2))
      go_wp2_with fail
      refine (unhide HL).mono ?_
      rintro e w3 ⟨rfl, hb3⟩
      go_wp2
      go_ret
      exact ⟨rfl, Below.then hb02 hb3⟩
    · rw [hR] at HW
      simp only at HW
      have HSC := hide (fun W hEW => scan_told (writeX xs) xs W h6 h7 hEW k3 k2 k1)
      have HX : Hid (∀ {W : World} {B : Nat} {v : Value}, Toks W B v xs → ∃ a2 cap2, v = .slice a2 (xs.map XTok.b).length cap2 ∧ ToksArg W a2 (xs.map XTok.b)) := hide (fun h => toks_arg h hpos)
      generalize T (writeX xs) = D at *
      clear hD hn k1 k2 k3 hR h6 h7
      generalize xs.map XTok.b = ts at *
      go_wp2_with fail
      refine (unhide HW).mono ?_
      rintro e w2 ⟨rfl, hb2⟩
      have hb02 := Below.then hb1 hb2
      have HE2 := hide ((unhide HE1).at hb2)
      have HV2 := hide ((unhide HV).below hb2)
      go_wp2_with fail
      refine (unhide HSC _ (unhide HE2)).mono ?_
      rintro e w3 ⟨vt, rfl, hT, hb3⟩
      have hb03 := Below.then hb02 hb3
      have HL := hide (live_any w3 ((unhide HE2).at hb3))
      obtain ⟨a2, cap2, hvt, hA⟩ := unhide HX hT
      subst hvt
      have HA := hide hA
      have HV3 := hide ((unhide HV2).below hb3)
      clear hT hA HW HSC HX
      go_wp2_with fail
      refine (unhide HL).mono ?_
      rintro e w4 ⟨rfl, hb4⟩
      have hb04 := Below.then hb03 hb4
      have HSM := hide (sameTokens_any ts a a2 cap cap2 w4 ((unhide HV3).below hb4) ((unhide HA).below hb4) hln (fun t ht => (unhide HS t ht).l))
      go_wp2_with fail
      refine (unhide HSM).mono ?_
      rintro e w5 ⟨rfl, hb5⟩
      go_wp2
      go_ret
      exact ⟨rfl, Below.then hb04 hb5⟩
end Go.Proofs.YtekjiagjgopnjaaGreatDoor
/- From what a row lists of the library's tables, and from the world's shape, to what the walks of layer 3 ask. -/
namespace Go.Proofs.YtekjiagjgopnjaaGreatDoor
open Go.ChangeShapes Go.WideShapes Go.ChangeAt Go.RowKit
theorem u8extra : U8Extra Tryz.prog Tryz.lays260_ren where
  n3 := by kernel_rfl
  n4 := by kernel_rfl
  y3 := by kernel_rfl
  y4 := by kernel_rfl
  c5 := by kernel_rfl
  c119 := by kernel_rfl
  c138 := by kernel_rfl
theorem first_data : Rows.laid_unicode_utf8_first = Lib.firstData := by kernel_rfl
theorem accept_data : Rows.laid_unicode_utf8_acceptRanges = Lib.acceptData := by kernel_rfl
def foldTab : List Int := [0, 1, 2, 3, 4, 5, 6, 7, 8, 9, 10, 11, 12, 13, 14, 15, 16, 17, 18, 19, 20, 21, 22, 23, 24, 25, 26, 27, 28, 29, 30, 31, 32, 33, 34, 35, 36, 37, 38, 39, 40, 41, 42, 43, 44, 45, 46, 47, 48, 49, 50, 51, 52, 53, 54, 55, 56, 57, 58, 59, 60, 61, 62, 63, 64, 97, 98, 99, 100, 101, 102, 103, 104, 105, 106, 107, 108, 109, 110, 111, 112, 113, 114, 115, 116, 117, 118, 119, 120, 121, 122, 91, 92, 93, 94, 95, 96, 65, 66, 67, 68, 69, 70, 71, 72, 73, 74, 8490, 76, 77, 78, 79, 80, 81, 82, 383, 84, 85, 86, 87, 88, 89, 90, 123, 124, 125, 126, 127]
theorem fold_data : (Rows.laid_unicode_asciiFold : DataW Unit) = Lib.tabData .u16 foldTab := by kernel_rfl
theorem xTab_of {P : Program} {W : World} {name : String} {k : IntKind} {zs : List Int} {g : Nat} {t e : TypeId} {n : Nat} (hg : P.globalNamed name = some g) (hty : (P.globals[g]?).map (·.type) = some t) (ht : P.underlying t = some (.array n e)) (he : P.underlying e = some (.int k)) (hce : P.cellsOf e = 1) (hct : P.cellsOf t = n) (h : Lib.VarReads P W name (Lib.tabData k zs)) (j : Nat) : W.cell? ⟨g, j, none⟩ = (zs.map fun z => Value.int k z)[j]? := by
  obtain ⟨g', t', cs, fuel, p, hg', ht', hvar, hd⟩ := h
  obtain rfl := Option.some.inj (hg.symm.trans hg')
  obtain rfl := Option.some.inj (hty.symm.trans ht')
  rw [World.var?_cell hg hvar j, ← Lib.cells_of_tab ht he hce hct hd]
  simp
theorem env_of {W : World} (hM : laidMet Tryz.prog [("unicode/utf8.acceptRanges", Rows.laid_unicode_utf8_acceptRanges), ("unicode.asciiFold", Rows.laid_unicode_asciiFold), ("unicode.caseOrbit", Rows.laid_unicode_caseOrbit), ("unicode.CaseRanges", Rows.laid_unicode_CaseRanges), ("unicode/utf8.first", Rows.laid_unicode_utf8_first)] W) (hs : W.ShapedOpen Tryz.prog) : XEnv W.heap.size W := by
  have h3 := Lib.laidMet.reads hM (n := "unicode/utf8.first") (d := Rows.laid_unicode_utf8_first) (by simp)
  have h4 := Lib.laidMet.reads hM (n := "unicode/utf8.acceptRanges") (d := Rows.laid_unicode_utf8_acceptRanges) (by simp)
  have h5 := Lib.laidMet.reads hM (n := "unicode.asciiFold") (d := Rows.laid_unicode_asciiFold) (by simp)
  rw [first_data] at h3
  rw [accept_data] at h4
  rw [fold_data] at h5
  have ht := utf8Tabs_of_reads Tryz.lays260 u8extra h3 h4
  have hf := xTab_of (g := 2) (t := 135) (e := 31) (n := 128) (by kernel_rfl) (by kernel_rfl) (by kernel_rfl) Tryz.underlying31 (by kernel_rfl) (by kernel_rfl) h5
  obtain ⟨m, hm⟩ : ∃ m, W.cell? ⟨5, 0, none⟩ = some (.int .i64 m) := cell_of_shapedOpen_int (zero := #[.int .i64 0]) (t := 3) hs (of_decide_eq_true (by kernel_rfl)) (by kernel_rfl) rfl (by kernel_rfl) (by kernel_rfl) Tryz.underlying3
  have fx : W.cell? ⟨2, 120, none⟩ = some (.int .u16 88) := (hf 120).trans rfl
  refine ⟨⟨⟨m, hm⟩, ht⟩, fx, (hf 109).trans rfl, (hf 108).trans rfl, (hf 88).trans rfl, (hf 77).trans rfl, (hf 76).trans rfl, block_lt_of_cell hm, ?_, ?_, block_lt_of_cell fx⟩
  · exact block_lt_of_cell (ht.1 0 (by decide))
  · exact block_lt_of_cell (ht.2 0 (by decide)).1
theorem own : ownKnob Tryz.prog.godebug = none := by kernel_rfl
end Go.Proofs.YtekjiagjgopnjaaGreatDoor
