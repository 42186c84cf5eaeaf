/- Several texts, laid as one. -/
import Derived.Test.YtefjfjieoiegnaaGreatDoorGba
import Derived.Test.YtefjfjieoiegnaaGreatDoorGam
import Derived.Test.YtefjfjieoiegnaaGreatDoorGaw
import Derived.Test.YtefjfjieoiegnaaGreatDoorGal
import Derived.Test.YtefjfjieoiegnaaGreatDoorGau
import Derived.Maps.AppendAt
/- Which way a method writes: by. -/
namespace Go.Proofs.YtefjfjieoiegnaaGreatDoor
open Go.RowKit
set_option maxRecDepth 100000 in
set_option maxHeartbeats 2000000 in
theorem by_any (b : Nat) (m : Int) (w : World) :
    Calls Tryz.prog 26 #[.pointer (some ⟨b, 0, none⟩), .int .i64 m] w fun e w' => e = .returned (.func (.func (if m = 1 then 42 else if m = 2 then 43 else 44)) #[.pointer (some ⟨b, 0, none⟩)] #[]) ∧ w' = w := by
  by_cases h1 : m = 1
  · subst h1
    go_enter Tryz.func26, Tryz.ntmps26
    go_wp2_with fail
    go_returns
    exact ⟨rfl, rfl⟩
  by_cases h2 : m = 2
  · subst h2
    go_enter Tryz.func26, Tryz.ntmps26
    go_wp2_with fail
    go_returns
    exact ⟨rfl, rfl⟩
  · rw [if_neg h1, if_neg h2]
    go_enter Tryz.func26, Tryz.ntmps26
    go_wp2_with fail
    go_returns
    exact ⟨rfl, rfl⟩
end Go.Proofs.YtefjfjieoiegnaaGreatDoor
/- Whether tokens are past a tree's limits: xout's pastLimits. -/
namespace Go.Proofs.YtefjfjieoiegnaaGreatDoor
open Go.RowKit
def pastGo : Int → Bool → List BTok → Bool
  | _, p, [] => p
  | d, p, t :: ts => if t.kind = 2 then pastGo (d + 1) (p || (decide (32 < d + 1) || decide (64 < t.attrs.length))) ts else if t.kind = 7 then pastGo (d - 1) p ts else pastGo d p ts
def pastD (ts : List BTok) : Bool := pastGo 0 (decide (4096 < ts.length)) ts
theorem pastGo_cons (d : Int) (p : Bool) (t : BTok) (ts : List BTok) : pastGo d p (t :: ts) = if t.kind = 2 then pastGo (d + 1) (p || (decide (32 < d + 1) || decide (64 < t.attrs.length))) ts else if t.kind = 7 then pastGo (d - 1) p ts else pastGo d p ts := rfl
structure PstSt (w : World) (ts : List BTok) (k : Nat) (d : Int) (p : Bool) (w' : World) : Prop where
  le : k ≤ ts.length
  bel : Below w.heap.size w w'
  d1 : -(k : Int) ≤ d
  d2 : d ≤ k
  spec : pastD ts = pastGo d p (ts.drop k)
set_option maxRecDepth 100000 in
set_option maxHeartbeats 4000000 in
theorem outPast_any (ts : List BTok) (a : Option Addr) (cap : Nat) (w : World) (hv : ToksArg w a ts) (hn : ts.length ≤ 1048576) :
    Calls Tryz.prog 39 #[.slice a ts.length cap] w fun e w' => e = .returned (.bool (pastD ts)) ∧ Below w.heap.size w w' := by
  have HV := hide hv
  have HI0 : Hid (PstSt w ts 0 0 (decide (4096 < ts.length)) w) := hide ⟨Nat.zero_le _, Below.refl _ _, by omega, by omega, rfl⟩
  clear hv
  go_enter Tryz.func39, Tryz.ntmps39
  go_wp2_with fail
  go_loopw [3, 4, 12] (fun s3 s4 i wr => ∃ (k : Nat) (d : Int) (p : Bool), i = .int .i64 (k : Nat) ∧ s3 = .int .i64 d ∧ s4 = .bool p ∧ PstSt w ts k d p wr) (fun _ _ i _ => ts.length - (intOf i).toNat)
  case atStart =>
    refine ⟨0, 0, decide (4096 < ts.length), rfl, rfl, ?_, unhide HI0⟩
    congr 1
    exact decide_eq_decide.2 (by omega)
  case round =>
    clear HI0
    obtain ⟨k, d, p, rfl, rfl, rfl, hI⟩ := hrel
    have hk := hI.le
    have hbr := hI.bel
    have d1 := hI.d1
    have d2 := hI.d2
    by_cases hlt : k < ts.length
    · obtain ⟨t, ht⟩ : ∃ t, ts[k]? = some t := ⟨ts[k], List.getElem?_eq_getElem hlt⟩
      obtain ⟨g, oo, ha, hc⟩ := ((unhide HV).below hbr) (by intro h0; rw [h0] at hlt; cases hlt)
      subst ha
      obtain ⟨c0, c1, ⟨v, c2, hpv⟩, c3⟩ := hc k t ht
      obtain ⟨va, vc, hve, _⟩ := id hpv
      subst hve
      have n1 : (0 : Int) ≤ (k : Int) := by omega
      have n2 : (k : Int) < (ts.length : Int) := by omega
      have hdr : ts.drop k = t :: ts.drop (k + 1) := by
        rw [← List.getElem_cons_drop hlt]
        congr 1
        exact (List.getElem?_eq_some_iff.1 ht).2
      have hspec := hI.spec
      rw [hdr, pastGo_cons] at hspec
      have hbA : Below wr.heap.size wr (wr.alloc (.cells #[.int .i64 t.kind, .string t.name, .slice va t.attrs.length vc, .string t.text] 37 (0, 0))) := (Below.refl _ _).alloc (Nat.le_refl _) _
      have hb0 := Below.then hbr hbA
      obtain ⟨kd, nm, ats, tx'⟩ := t
      simp only at *
      clear hI hc hdr ht hpv hbA
      by_cases k2 : kd = 2
      · subst k2
        rw [if_pos rfl] at hspec
        have HI2 : Hid (PstSt w ts (k + 1) (d + 1) (p || (decide (32 < d + 1) || decide (64 < ats.length))) (wr.alloc (.cells #[.int .i64 2, .string nm, .slice va ats.length vc, .string tx'] 37 (0, 0)))) := hide ⟨by omega, hb0, by omega, by omega, hspec⟩
        have e1 : wrap64 (d + 1) = d + 1 := by unfold wrap64; omega
        clear hspec
        cases p
        · by_cases hd : 32 < d + 1
          · rw [decide_eq_true hd, Bool.true_or, Bool.false_or] at HI2
            go_wp2_with fail
            go_round
            case measure => simp [intOf]; omega
            case rel => exact ⟨k + 1, d + 1, true, by simp, rfl, rfl, unhide HI2⟩
          · rw [decide_eq_false hd, Bool.false_or, Bool.false_or] at HI2
            by_cases hl : 64 < ats.length
            · have hl' : (64 : Int) < (ats.length : Int) := by omega
              rw [decide_eq_true hl] at HI2
              go_wp2_with fail
              go_round
              case measure => simp [intOf]; omega
              case rel => exact ⟨k + 1, d + 1, true, by simp, rfl, rfl, unhide HI2⟩
            · have hl' : ¬ (64 : Int) < (ats.length : Int) := by omega
              rw [decide_eq_false hl] at HI2
              go_wp2_with fail
              go_round
              case measure => simp [intOf]; omega
              case rel => exact ⟨k + 1, d + 1, false, by simp, rfl, rfl, unhide HI2⟩
        · rw [Bool.true_or] at HI2
          go_wp2_with fail
          go_round
          case measure => simp [intOf]; omega
          case rel => exact ⟨k + 1, d + 1, true, by simp, rfl, rfl, unhide HI2⟩
      · rw [if_neg k2] at hspec
        have g2 : (kd == 2) = false := by simpa using k2
        by_cases k7 : kd = 7
        · subst k7
          rw [if_pos rfl] at hspec
          have HI2 : Hid (PstSt w ts (k + 1) (d - 1) p (wr.alloc (.cells #[.int .i64 7, .string nm, .slice va ats.length vc, .string tx'] 37 (0, 0)))) := hide ⟨by omega, hb0, by omega, by omega, hspec⟩
          have e1 : wrap64 (d - 1) = d - 1 := by unfold wrap64; omega
          clear hspec
          go_wp2_with fail
          go_round
          case measure => simp [intOf]; omega
          case rel => exact ⟨k + 1, d - 1, p, by simp, rfl, rfl, unhide HI2⟩
        · have g7 : (kd == 7) = false := by simpa using k7
          rw [if_neg k7] at hspec
          have HI2 : Hid (PstSt w ts (k + 1) d p (wr.alloc (.cells #[.int .i64 kd, .string nm, .slice va ats.length vc, .string tx'] 37 (0, 0)))) := hide ⟨by omega, hb0, by omega, by omega, hspec⟩
          clear hspec k2 k7
          go_wp2_with fail
          go_round
          case measure => simp [intOf]; omega
          case rel => exact ⟨k + 1, d, p, by simp, rfl, rfl, unhide HI2⟩
    · have n2 : ¬ (k : Int) < (ts.length : Int) := by omega
      have hkl : k = ts.length := by omega
      have hsp := hI.spec
      rw [hkl, List.drop_length] at hsp
      have HSP : Hid (pastD ts = p) := hide hsp
      clear hI hsp
      go_wp2
      go_ret
      exact ⟨ret_bool (unhide HSP).symm, hbr⟩
end Go.Proofs.YtefjfjieoiegnaaGreatDoor
/- Tokens within the limits: how long what is written of them can be. -/
namespace Go.Proofs.YtefjfjieoiegnaaGreatDoor
open Go.RowKit
theorem pastGo_true : ∀ (ts : List BTok) (d : Int), pastGo d true ts = true
  | [], _ => rfl
  | t :: ts, d => by
    rw [pastGo_cons, Bool.true_or]
    split
    · exact pastGo_true ts _
    · split
      · exact pastGo_true ts _
      · exact pastGo_true ts _
theorem pastGo_few : ∀ (ts : List BTok) (d : Int) (p : Bool), pastGo d p ts = false → p = false ∧ ∀ t ∈ ts, t.kind = 2 → t.attrs.length ≤ 64
  | [], d, p, h => ⟨h, fun t ht => by cases ht⟩
  | t :: ts, d, p, h => by
    rw [pastGo_cons] at h
    split at h
    · obtain ⟨h1, h2⟩ := pastGo_few ts _ _ h
      rw [Bool.or_eq_false_iff, Bool.or_eq_false_iff] at h1
      refine ⟨h1.1, fun x hx hk => ?_⟩
      rcases List.mem_cons.1 hx with rfl | hx
      · have := of_decide_eq_false h1.2.2
        omega
      · exact h2 x hx hk
    · rename_i hk2
      have h' : pastGo (if t.kind = 7 then d - 1 else d) p ts = false := by
        split at h
        · rename_i h7; rw [if_pos h7]; exact h
        · rename_i h7; rw [if_neg h7]; exact h
      obtain ⟨h1, h2⟩ := pastGo_few ts _ _ h'
      refine ⟨h1, fun x hx hk => ?_⟩
      rcases List.mem_cons.1 hx with rfl | hx
      · exact absurd hk hk2
      · exact h2 x hx hk
/-- Tokens that are not past the limits are few, and have few attributes. -/
theorem past_few {ts : List BTok} (h : pastD ts = false) : ts.length ≤ 4096 ∧ ∀ t ∈ ts, t.kind = 2 → t.attrs.length ≤ 64 := by
  obtain ⟨h1, h2⟩ := pastGo_few ts _ _ h
  have := of_decide_eq_false h1
  exact ⟨by omega, h2⟩
theorem right_few {ts : List BTok} (h : pastD ts = false) (x : Nat) (hk : (tkAt ts x).kind = 2) : (tkAt ts x).attrs.length ≤ 64 := by
  unfold tkAt at *
  cases hx : ts[x]? with
  | none => rw [hx] at hk; cases hk
  | some t => rw [hx] at hk; exact (past_few h).2 t (List.mem_of_getElem? hx) hk
end Go.Proofs.YtefjfjieoiegnaaGreatDoor
/- Where an attribute's text comes to a sign: strings.IndexAny. -/
namespace Go.Proofs.YtefjfjieoiegnaaGreatDoor
open Go.RowKit
/-- Where signs stand: the place of the first of < & and a quote. -/
def anyX (q : Nat) (l : List Nat) : Int := if l.takeWhile (plainC q) = l then -1 else ((T (l.takeWhile (plainC q))).size : Nat)
theorem mem_tw {f : Nat → Bool} : ∀ {l : List Nat} {x : Nat}, x ∈ l.takeWhile f → f x = true
  | [], _, h => by cases h
  | a :: t, x, h => by
    rw [List.takeWhile_cons] at h
    split at h
    · rename_i ha
      rcases List.mem_cons.1 h with rfl | h
      · exact ha
      · exact mem_tw h
    · cases h
theorem anyX_none {q : Nat} {l : List Nat} (h : ∀ x ∈ l, plainC q x = true) : anyX q l = -1 := by
  unfold anyX
  rw [if_pos (by have := List.takeWhile_append_of_pos (l₂ := []) h; simpa using this)]
theorem anyX_hit {q : Nat} {p t : List Nat} {c : Nat} (h : ∀ x ∈ p, plainC q x = true) (hc : plainC q c = false) : anyX q (p ++ c :: t) = (tx p).length := by
  have e : (p ++ c :: t).takeWhile (plainC q) = p := by
    rw [List.takeWhile_append_of_pos h, List.takeWhile_cons_of_neg (by rw [hc]; decide), List.append_nil]
  unfold anyX
  rw [e, if_neg (by simp), T_size]
theorem signs_T (q : Nat) : (⟨#[60, 38]⟩ : ByteArray) ++ T [q] = T [60, 38, q] := by
  apply ByteArray.ext
  apply Array.toList_inj.1
  rw [show ((⟨#[60, 38]⟩ : ByteArray) ++ T [q]).data.toList = (⟨#[60, 38]⟩ : ByteArray).data.toList ++ (T [q]).data.toList by rw [ByteArray.data_append, Array.toList_append], T_data, T_data]
  rfl
theorem sign_in {q : Nat} (hq : q = 34 ∨ q = 39) : ∀ c, c < 128 → decide (0 ≤ Lib.indexByte [60, 38, UInt8.ofNat q] (UInt8.ofNat c)) = !plainC q c := by
  rcases hq with rfl | rfl
  · decide +kernel
  · decide +kernel
theorem runeIn_any (q : Nat) (hq : q = 34 ∨ q = 39) (c : Nat) (hc : charR (c : Int) = true) (w : World) :
    Calls Tryz.prog 186 #[.string (T [60, 38, q]), .int .i32 (c : Int)] w fun e w' => ∃ v : Int, e = .returned (.int .i64 v) ∧ decide (0 ≤ v) = !plainC q c ∧ Below w.heap.size w w' := by
  have hT : (T [60, 38, q]).data.toList = [60, 38, UInt8.ofNat q] := by
    rw [T_data]
    rcases hq with rfl | rfl <;> decide +kernel
  by_cases h : c < 128
  · refine (Tryz.strings_IndexRune_ascii _ (c : Int) w (by omega) (by omega)).mono ?_
    rintro e w' ⟨rfl, rfl⟩
    refine ⟨_, rfl, ?_, Below.refl _ _⟩
    rw [hT, ← sign_in hq c h]
    rfl
  · refine (indexRune_high [60, 38, q] ?_ ?_ (by simp) c (charR_ok hc) (by omega) w).mono ?_
    · unfold okL; rcases hq with rfl | rfl <;> decide +kernel
    · rcases hq with rfl | rfl <;> decide
    rintro e w' ⟨rfl, hb⟩
    refine ⟨_, rfl, ?_, hb⟩
    have : plainC q c = true := by
      unfold plainC
      simp
      omega
    rw [this]
    rfl
set_option maxRecDepth 100000 in
set_option maxHeartbeats 2000000 in
theorem indexAny_few (q : Nat) (hq : q = 34 ∨ q = 39) (l : List Nat) (w : World) (hl : okL l) (hs : (T l).size ≤ 8) :
    Calls Tryz.prog 161 #[.string (T l), .string (T [60, 38, q])] w fun e w' => e = .returned (.int .i64 (anyX q l)) ∧ Below w.heap.size w w' := by
  have hz : (T [60, 38, q]).size = 3 := by
    rw [T_size]
    rcases hq with rfl | rfl <;> decide +kernel
  have hem : (T [60, 38, q]).toList.isEmpty = false := by
    rw [T_toList]
    rcases hq with rfl | rfl <;> decide +kernel
  have h8 : decide ((8 : Int) < ((T l).size : Int)) = false := decide_eq_false (by omega)
  have HR := hide (runeIn_any q hq)
  generalize hX : T [60, 38, q] = X at *
  clear hX
  go_enter Tryz.func161, Tryz.ntmps161
  go_wp2_with (go_at_call 190; refine (Tryz.strings_shouldUseASCIISet _ _).mono ?_; rintro e w' ⟨rfl, hw⟩; rw [hw, h8])
  go_loopw [] (fun wr => ∃ p t : List Nat, l = p ++ t ∧ (∀ x ∈ p, plainC q x = true) ∧ wr.heap[w.heap.size]? = some (.stringIter (T l) (tx p).length) ∧ Below w.heap.size w wr) (fun wr => (T l).size - wr.iterPos w.heap.size)
  case atStart =>
    refine ⟨[], l, rfl, (fun _ h => by cases h), ?_, ?_⟩
    · simpa [tx_nil] using World.iter_heap w (T l) 0
    · exact (Below.refl _ _).alloc (Nat.le_refl _) _
  case round =>
    obtain ⟨p, t, hpt, hp, hk, hbr⟩ := hrel
    cases t with
    | nil =>
      have hnx := fun ty => Lib.run_next_end_at (P := Tryz.prog) wr w.heap.size (T l) (tx p).length ty hk (end_at hpt)
      have HA := hide (show anyX q l = -1 from by rw [hpt, List.append_nil]; exact anyX_none hp)
      clear hpt hk
      go_wp2
      go_ret
      exact ⟨ret_int (unhide HA).symm, hbr⟩
    | cons c t =>
      obtain ⟨hd, hlt, hc, hpos⟩ := dec_at hpt hl
      have hnx := fun ty => Lib.run_next_any_at (P := Tryz.prog) wr w.heap.size (T l) (tx p).length ty hk hlt
      rw [hd] at hnx
      simp only at hnx
      have HS := hide (tx_snoc p c)
      have HPT := hide hpt
      have HK := hide hk
      have hbl : w.heap.size < wr.heap.size := (Array.getElem?_eq_some_iff.1 hk).1
      have hbI : Below w.heap.size w (wr.iterAt w.heap.size (T l) ((tx p).length + (runeB c).length)) := Lib.below_iterAt hbr (by omega) _ _
      have hszI : w.heap.size ≤ (wr.iterAt w.heap.size (T l) ((tx p).length + (runeB c).length)).heap.size := by rw [Lib.iterAt_size]; omega
      have HKI : Hid ((wr.iterAt w.heap.size (T l) ((tx p).length + (runeB c).length)).heap[w.heap.size]? = some (.stringIter (T l) ((tx p).length + (runeB c).length))) := hide (Lib.iterAt_heap wr _ _ _ _ (unhide HK))
      clear hd hpt hk
      cases hpc : plainC q c
      · have HA := hide (show anyX q l = (tx p).length from by rw [unhide HPT]; exact anyX_hit hp hpc)
        go_wp2_with (go_at_call 186; refine (unhide HR c hc _).mono ?_; rintro e w1 ⟨v, rfl, hv, hb1⟩; rw [hpc] at hv)
        go_ret
        exact ⟨ret_int (unhide HA).symm, hbI.trans (hb1.mono hszI)⟩
      · go_wp2_with (go_at_call 186; refine (unhide HR c hc _).mono ?_; rintro e w1 ⟨v, rfl, hv, hb1⟩; rw [hpc] at hv)
        refine ⟨⟨p ++ [c], t, by rw [unhide HPT]; simp, ?_, ?_, hbI.trans (hb1.mono hszI)⟩, ?_⟩
        · intro x hx
          rcases List.mem_append.1 hx with hx | hx
          · exact hp x hx
          · rw [List.mem_singleton.1 hx]; exact hpc
        · rw [unhide HS]; exact block_below (unhide HKI) hb1
        · rw [iterPos_of (block_below (unhide HKI) hb1), iterPos_of (unhide HK)]
          omega
theorem plain_bytes {q x : Nat} (hq : q = 34 ∨ q = 39) (hx : charR (x : Int) = true) (hp : plainC q x = true) (b : UInt8) (hb : b ∈ runeB x) : [60, 38, UInt8.ofNat q].contains b = false := by
  by_cases h : x < 128
  · rw [runeB_one h] at hb
    obtain rfl := List.mem_singleton.1 hb
    have h1 := sign_in hq x h
    rw [← Lib.contains_iff_indexByte, hp] at h1
    exact h1
  · have h1 := runeB_high (charR_ok hx) (by omega) b hb
    cases hc : [60, 38, UInt8.ofNat q].contains b
    · rfl
    · have h2 := List.contains_iff_mem.1 hc
      have : b.toNat < 128 := by
        rcases hq with rfl | rfl
        · simp at h2
          rcases h2 with rfl | rfl | rfl <;> decide
        · simp at h2
          rcases h2 with rfl | rfl | rfl <;> decide
      omega
theorem plain_tx {q : Nat} (hq : q = 34 ∨ q = 39) {p : List Nat} (hl : okL p) (hp : ∀ x ∈ p, plainC q x = true) (b : UInt8) (hb : b ∈ tx p) : [60, 38, UInt8.ofNat q].contains b = false := by
  obtain ⟨x, hx, hbx⟩ := List.mem_flatMap.1 (by simpa [tx] using hb)
  exact plain_bytes hq (hl x hx) (hp x hx) b hbx
theorem no_any {q : Nat} (hq : q = 34 ∨ q = 39) {p : List Nat} (hl : okL p) (hp : ∀ x ∈ p, plainC q x = true) (t : List UInt8) : Lib.NoAny (tx p ++ t) [60, 38, UInt8.ofNat q] (tx p).length := by
  intro j b hj hb
  rw [List.getElem?_append_left hj] at hb
  exact plain_tx hq hl hp b (List.mem_of_getElem? hb)
theorem indexAny_bytes {q : Nat} (hq : q = 34 ∨ q = 39) {l : List Nat} (hl : okL l) : Lib.indexAny (tx l) [60, 38, UInt8.ofNat q] = anyX q l := by
  by_cases h : ∀ x ∈ l, plainC q x = true
  · rw [anyX_none h]
    have := no_any hq hl h []
    rw [List.append_nil] at this
    exact Lib.indexAny_none this
  · have e := List.takeWhile_append_dropWhile (p := plainC q) (l := l)
    cases hd : l.dropWhile (plainC q) with
    | nil =>
      rw [hd, List.append_nil] at e
      exact absurd (fun x hx => by rw [← e] at hx; exact mem_tw hx) h
    | cons c t =>
      rw [hd] at e
      have hc : plainC q c = false := by
        have := List.head_dropWhile_not (plainC q) (l := l) (by rw [hd]; simp)
        simpa [hd] using this
      have hp : ∀ x ∈ l.takeWhile (plainC q), plainC q x = true := fun x hx => mem_tw hx
      generalize l.takeWhile (plainC q) = p at *
      subst e
      rw [anyX_hit hp hc]
      have hlp : okL p := fun x hx => hl x (List.mem_append_left _ hx)
      have hcc := hl c (by simp)
      have h128 : c < 128 := by
        unfold plainC at hc
        simp at hc
        omega
      refine Lib.indexAny_hit (i := (tx p).length) (x := UInt8.ofNat c) ?_ ?_ ?_
      · rw [tx_append]; exact no_any hq hlp hp _
      · rw [tx_append, List.getElem?_append_right (Nat.le_refl _), Nat.sub_self, tx_cons, runeB_one h128]
        rfl
      · rw [Lib.contains_iff_indexByte, sign_in hq c h128, hc]
        rfl
theorem indexAny_any (q : Nat) (hq : q = 34 ∨ q = 39) (l : List Nat) (w : World) (hl : okL l) (hs : (T l).size ≤ 32768) :
    Calls Tryz.prog 161 #[.string (T l), .string ((⟨#[60, 38]⟩ : ByteArray) ++ T [q])] w fun e w' => e = .returned (.int .i64 (anyX q l)) ∧ Below w.heap.size w w' := by
  rw [signs_T]
  by_cases h8 : (T l).size ≤ 8
  · exact indexAny_few q hq l w hl h8
  · have hT : (T [60, 38, q]).data.toList = [60, 38, UInt8.ofNat q] := by
      rw [T_data]
      rcases hq with rfl | rfl <;> decide +kernel
    have hz : (T [60, 38, q]).size = 3 := by
      rw [T_size]
      rcases hq with rfl | rfl <;> decide +kernel
    refine (Tryz.strings_IndexAny_long (zero_of_info (v := .agg (Array.replicate 256 (.bool false))) (n := 256) (by kernel_rfl)).1 (T l) (T [60, 38, q]) w (by omega) (by omega) (by omega) (by omega) ?_).mono ?_
    · rw [hT]
      intro j b hb
      have := List.mem_of_getElem? hb
      rcases hq with rfl | rfl
      · simp at this
        rcases this with rfl | rfl | rfl <;> decide
      · simp at this
        rcases this with rfl | rfl | rfl <;> decide
    · rintro e w' ⟨rfl, rfl⟩
      refine ⟨?_, ((Below.refl _ _).alloc (Nat.le_refl _) _).alloc (by simp) _⟩
      rw [T_data, hT, indexAny_bytes hq hl]
end Go.Proofs.YtefjfjieoiegnaaGreatDoor
/- Where a row lies behind an append: append as one step of a region that draws its order, with that. -/
namespace Go.Proofs.YtefjfjieoiegnaaGreatDoor
open Go.RowKit
/-- A text that is appended: the row lies where it lay, or in the next new block. -/
theorem append_where {P : Program} {w w' : World} {v v' : Value} {base : Nat} {t u ty e : TypeId} {i : TypeInfo} (ht : P.underlying t = some (.slice e)) (hu : P.underlying u = some .string) (hi : P.info? e = some i) (hz : i.zero = some (.int .u8 0)) (hsize : i.size = 1) (hby : i.bytes = 1)
    {n : Nat} {xs : List Value} (hown : w.ownsRow base e 1 v n xs) (s : ByteArray) (hl : n + s.size ≤ 140737488355328) (hrun : (Builtin.append_ #[t, u] ty #[v, .string s]).run P w = .ok v' w') : v'.ownBlock = v.ownBlock ∨ v'.ownBlock = some w.heap.size := by
  have hxl : xs.length = n := by simpa using hown.1
  rcases hown.2 with ⟨rfl, rfl⟩ | ⟨g, cap, cur, rfl, hbg, hg, hnc, hcm, hcs, htake⟩
  · by_cases hm : s.size = 0
    · left
      have hf := Lib.run_firstCells_string (P := P) w 1 s
      rw [hm] at hf
      have hr : (Builtin.append_ #[t, u] ty #[.slice none 0 0, .string s]).run P w = .ok (.slice none 0 0) w := by
        simp [Builtin.append_, run_underlying ht, run_underlying hu, sizeOf, typeInfo, hi, hsize, Builtin.lenOf, hm, hf]
      rw [hr] at hrun
      cases hrun
      rfl
    · right
      have hr := run_append_nil_string (P := P) w t u ty e i (.int .u8 0) ht hu hi hz s (by omega) (by omega) (by rw [hby]; omega)
      rw [hr] at hrun
      cases hrun
      rfl
  · by_cases hroom : n + s.size ≤ cap
    · left
      have hr := Lib.run_append_room_string (P := P) w t u ty e i ht hu hi hsize g n cap cur hg s hroom (by omega)
      rw [hr] at hrun
      cases hrun
      rfl
    · right
      have holds : ∀ j u, xs[j]? = some u → w.cell? ((⟨g, 0, none⟩ : Addr).add j) = some u := hown.cells (g := g) rfl
      have hr := Lib.run_append_grow_string (P := P) w t u ty e i (.int .u8 0) ht hu hi hz ⟨g, 0, none⟩ n cap xs (by rw [hsize]; simpa using hxl) holds s (by omega) (by omega) (by rw [hby]; exact growslice_fits (by omega) (by omega))
      rw [hr] at hrun
      cases hrun
      rfl
theorem step_append_string_at {P : Program} {ops : Array Oper} {o : Oper} {a : Act} {w : World} {K : Act → World → Prop} {Q : Exit → Act → World → Prop} {E : Prop}
    (hg : o.guard = none) (sl x : Operand) (t u : TypeId) (hop : o.op = Op.call { callee := Callee.builtin Builtin.append, args := #[sl, x], argTypes := #[t, u] })
    (base : Nat) (e : TypeId) (i : TypeInfo) (ht : P.underlying t = some (.slice e)) (hu : P.underlying u = some .string) (hi : P.info? e = some i) (hz : i.zero = some (.int .u8 0)) (hsize : i.size = 1) (hby : i.bytes = 1)
    (v : Value) (n : Nat) (xs : List Value) (hs : a.eval sl = v) (hown : w.ownsRow base e 1 v n xs) (s : ByteArray) (hx : a.eval x = .string s)
    (hbytes : n + s.size ≤ 140737488355328) (hb : base ≤ w.heap.size)
    (hK : ∀ v' w', w'.ownsRow base e 1 v' (n + s.size) (xs ++ Lib.strCells s) → w.grownBy w' v.ownBlock → (v'.ownBlock = v.ownBlock ∨ v'.ownBlock = some w.heap.size) → K (a.put o.dst v') w') :
    if Region.wanted o (yielded ops a.tmps) = true then Oper.wp P o a w K Q else E := by
  have hw : Region.wanted o (yielded ops a.tmps) = true := by simp [Region.wanted, hg]
  rw [if_pos hw]
  obtain ⟨v', w', hrun, r1, r2, _⟩ := Lib.run_append_own_string (P := P) w base t u o.type e i ht hu hi hz hsize hby v n xs hown s (by unfold maxLen; omega) hbytes hb
  have r3 := append_where ht hu hi hz hsize hby hown s hbytes hrun
  unfold Oper.wp
  simp [execOp, hop, resolve, invoke, builtin, hs, hx, hrun, Result.andThen]
  exact hK v' w' r1 r2 r3
theorem step_append_own_at {P : Program} {ops : Array Oper} {o : Oper} {a : Act} {w : World} {K : Act → World → Prop} {Q : Exit → Act → World → Prop} {E : Prop}
    (hg : o.guard = none) (s x : Operand) (t : TypeId) (hop : o.op = Op.call { callee := Callee.builtin Builtin.append, args := #[s, x], argTypes := #[t, t] })
    (base : Nat) (e : TypeId) (i : TypeInfo) (z : Value) (size bytes : Nat) (h1 : P.underlying t = some (.slice e)) (h2 : P.info? e = some i) (h3 : i.zero = some z) (h4 : i.size = size) (h5 : i.bytes = bytes) (h6 : z.cells.size = size) (h7 : 0 < size)
    (v : Value) (n : Nat) (xs : List Value) (hs : a.eval s = v) (hown : w.ownsRow base e size v n xs)
    (ad : Addr) (m c : Nat) (news : List Value) (hx : a.eval x = .slice (some ad) m c) (hn : news.length = m * size) (hc : ∀ j u, news[j]? = some u → w.cell? (ad.add j) = some u) (h1c : ∀ u ∈ news, u.oneCell' = true)
    (b1 : n + m ≤ maxLen) (b2 : (n + m) * bytes ≤ 140737488355328) (hb : base ≤ w.heap.size)
    (hK : ∀ v' w', w'.ownsRow base e size v' (n + m) (xs ++ news) → w.grownBy w' v.ownBlock → (v'.ownBlock = v.ownBlock ∨ v'.ownBlock = some w.heap.size) → K (a.put o.dst v') w') :
    if Region.wanted o (yielded ops a.tmps) = true then Oper.wp P o a w K Q else E := by
  have hw : Region.wanted o (yielded ops a.tmps) = true := by simp [Region.wanted, hg]
  rw [if_pos hw]
  obtain ⟨v', w', hrun, r1, r2, _, r3⟩ := run_append_own_at (P := P) w base t o.type e i z size bytes h1 h2 h3 h4 h5 h6 h7 v n xs hown ad m c news hn hc h1c b1 b2 hb
  unfold Oper.wp
  simp [execOp, hop, resolve, invoke, builtin, hs, hx, hrun, Result.andThen]
  exact hK v' w' r1 r2 r3
end Go.Proofs.YtefjfjieoiegnaaGreatDoor
