/- Several texts, laid as one. -/
import Derived.Test.YtefjfjieoiegnaaGreatDoorGaq
import Derived.Test.YtefjfjieoiegnaaGreatDoorGap
/- Where an entity's text comes to a sign that it may not have: strings.IndexAny, ContainsAny. -/
namespace Go.Proofs.YtefjfjieoiegnaaGreatDoor
open Go.RowKit
def plainE (c : Nat) : Bool := c != 60 && c != 37
def anyE (l : List Nat) : Int := if l.takeWhile (plainE) = l then -1 else ((T (l.takeWhile (plainE))).size : Nat)
theorem anyE_none {l : List Nat} (h : ∀ x ∈ l, plainE x = true) : anyE l = -1 := by
  unfold anyE
  rw [if_pos (by have := List.takeWhile_append_of_pos (l₂ := []) h; simpa using this)]
theorem anyE_hit {p t : List Nat} {c : Nat} (h : ∀ x ∈ p, plainE x = true) (hc : plainE c = false) : anyE (p ++ c :: t) = (tx p).length := by
  have e : (p ++ c :: t).takeWhile (plainE) = p := by
    rw [List.takeWhile_append_of_pos h, List.takeWhile_cons_of_neg (by rw [hc]; decide), List.append_nil]
  unfold anyE
  rw [e, if_neg (by simp), T_size]
theorem signE_in : ∀ c, c < 128 → decide (0 ≤ Lib.indexByte [60, 37] (UInt8.ofNat c)) = !plainE c := by
  decide +kernel
theorem runeInE_any (c : Nat) (hc : charR (c : Int) = true) (w : World) :
    Calls Tryz.prog 186 #[.string (T [60, 37]), .int .i32 (c : Int)] w fun e w' => ∃ v : Int, e = .returned (.int .i64 v) ∧ decide (0 ≤ v) = !plainE c ∧ Below w.heap.size w w' := by
  have hT : (T [60, 37]).data.toList = [60, 37] := by
    rw [T_data]
    decide +kernel
  by_cases h : c < 128
  · refine (Tryz.strings_IndexRune_ascii _ (c : Int) w (by omega) (by omega)).mono ?_
    rintro e w' ⟨rfl, rfl⟩
    refine ⟨_, rfl, ?_, Below.refl _ _⟩
    rw [hT, ← signE_in c h]
    rfl
  · refine (indexRune_high [60, 37] ?_ ?_ (by simp) c (charR_ok hc) (by omega) w).mono ?_
    · unfold okL; decide +kernel
    · decide
    rintro e w' ⟨rfl, hb⟩
    refine ⟨_, rfl, ?_, hb⟩
    have : plainE c = true := by
      unfold plainE
      simp
      omega
    rw [this]
    rfl
set_option maxRecDepth 100000 in
set_option maxHeartbeats 2000000 in
theorem indexAnyE_few (l : List Nat) (w : World) (hl : okL l) (hs : (T l).size ≤ 8) :
    Calls Tryz.prog 161 #[.string (T l), .string (T [60, 37])] w fun e w' => e = .returned (.int .i64 (anyE l)) ∧ Below w.heap.size w w' := by
  have hz : (T [60, 37]).size = 2 := by
    rw [T_size]
    decide +kernel
  have hem : (T [60, 37]).toList.isEmpty = false := by
    rw [T_toList]
    decide +kernel
  have h8 : decide ((8 : Int) < ((T l).size : Int)) = false := decide_eq_false (by omega)
  have HR := hide (runeInE_any)
  generalize hX : T [60, 37] = X at *
  clear hX
  go_enter Tryz.func161, Tryz.ntmps161
  go_wp2_with (go_at_call 190; refine (Tryz.strings_shouldUseASCIISet _ _).mono ?_; rintro e w' ⟨rfl, hw⟩; rw [hw, h8])
  go_loopw [] (fun wr => ∃ p t : List Nat, l = p ++ t ∧ (∀ x ∈ p, plainE x = true) ∧ wr.heap[w.heap.size]? = some (.stringIter (T l) (tx p).length) ∧ Below w.heap.size w wr) (fun wr => (T l).size - wr.iterPos w.heap.size)
  case atStart =>
    refine ⟨[], l, rfl, (fun _ h => by cases h), ?_, ?_⟩
    · simpa [tx_nil] using World.iter_heap w (T l) 0
    · exact (Below.refl _ _).alloc (Nat.le_refl _) _
  case round =>
    obtain ⟨p, t, hpt, hp, hk, hbr⟩ := hrel
    cases t with
    | nil =>
      have hnx := fun ty => Lib.run_next_end_at (P := Tryz.prog) wr w.heap.size (T l) (tx p).length ty hk (end_at hpt)
      have HA := hide (show anyE l = -1 from by rw [hpt, List.append_nil]; exact anyE_none hp)
      clear hpt hk
      go_wp2
      go_ret
      exact ⟨ret_int (unhide HA).symm, hbr⟩
    | cons c t =>
      obtain ⟨hd, hlt, hc, hpos⟩ := dec_at hpt hl
      have hnx := fun ty => Lib.run_next_any_at (P := Tryz.prog) wr w.heap.size (T l) (tx p).length ty hk hlt
      rw [hd] at hnx
      simp only at hnx
      have HS := hide (tx_snoc p c)
      have HPT := hide hpt
      have HK := hide hk
      have hbl : w.heap.size < wr.heap.size := (Array.getElem?_eq_some_iff.1 hk).1
      have hbI : Below w.heap.size w (wr.iterAt w.heap.size (T l) ((tx p).length + (runeB c).length)) := Lib.below_iterAt hbr (by omega) _ _
      have hszI : w.heap.size ≤ (wr.iterAt w.heap.size (T l) ((tx p).length + (runeB c).length)).heap.size := by rw [Lib.iterAt_size]; omega
      have HKI : Hid ((wr.iterAt w.heap.size (T l) ((tx p).length + (runeB c).length)).heap[w.heap.size]? = some (.stringIter (T l) ((tx p).length + (runeB c).length))) := hide (Lib.iterAt_heap wr _ _ _ _ (unhide HK))
      clear hd hpt hk
      cases hpc : plainE c
      · have HA := hide (show anyE l = (tx p).length from by rw [unhide HPT]; exact anyE_hit hp hpc)
        go_wp2_with (go_at_call 186; refine (unhide HR c hc _).mono ?_; rintro e w1 ⟨v, rfl, hv, hb1⟩; rw [hpc] at hv)
        go_ret
        exact ⟨ret_int (unhide HA).symm, hbI.trans (hb1.mono hszI)⟩
      · go_wp2_with (go_at_call 186; refine (unhide HR c hc _).mono ?_; rintro e w1 ⟨v, rfl, hv, hb1⟩; rw [hpc] at hv)
        refine ⟨⟨p ++ [c], t, by rw [unhide HPT]; simp, ?_, ?_, hbI.trans (hb1.mono hszI)⟩, ?_⟩
        · intro x hx
          rcases List.mem_append.1 hx with hx | hx
          · exact hp x hx
          · rw [List.mem_singleton.1 hx]; exact hpc
        · rw [unhide HS]; exact block_below (unhide HKI) hb1
        · rw [iterPos_of (block_below (unhide HKI) hb1), iterPos_of (unhide HK)]
          omega
theorem plainE_bytes {x : Nat} (hx : charR (x : Int) = true) (hp : plainE x = true) (b : UInt8) (hb : b ∈ runeB x) : [60, 37].contains b = false := by
  by_cases h : x < 128
  · rw [runeB_one h] at hb
    obtain rfl := List.mem_singleton.1 hb
    have h1 := signE_in x h
    rw [← Lib.contains_iff_indexByte, hp] at h1
    exact h1
  · have h1 := runeB_high (charR_ok hx) (by omega) b hb
    cases hc : [60, 37].contains b
    · rfl
    · have h2 := List.contains_iff_mem.1 hc
      have : b.toNat < 128 := by
        simp at h2
        rcases h2 with rfl | rfl <;> decide
      omega
theorem plainE_tx {p : List Nat} (hl : okL p) (hp : ∀ x ∈ p, plainE x = true) (b : UInt8) (hb : b ∈ tx p) : [60, 37].contains b = false := by
  obtain ⟨x, hx, hbx⟩ := List.mem_flatMap.1 (by simpa [tx] using hb)
  exact plainE_bytes (hl x hx) (hp x hx) b hbx
theorem noE_any {p : List Nat} (hl : okL p) (hp : ∀ x ∈ p, plainE x = true) (t : List UInt8) : Lib.NoAny (tx p ++ t) [60, 37] (tx p).length := by
  intro j b hj hb
  rw [List.getElem?_append_left hj] at hb
  exact plainE_tx hl hp b (List.mem_of_getElem? hb)
theorem indexAnyE_bytes {l : List Nat} (hl : okL l) : Lib.indexAny (tx l) [60, 37] = anyE l := by
  by_cases h : ∀ x ∈ l, plainE x = true
  · rw [anyE_none h]
    have := noE_any hl h []
    rw [List.append_nil] at this
    exact Lib.indexAny_none this
  · have e := List.takeWhile_append_dropWhile (p := plainE) (l := l)
    cases hd : l.dropWhile (plainE) with
    | nil =>
      rw [hd, List.append_nil] at e
      exact absurd (fun x hx => by rw [← e] at hx; exact mem_tw hx) h
    | cons c t =>
      rw [hd] at e
      have hc : plainE c = false := by
        have := List.head_dropWhile_not (plainE) (l := l) (by rw [hd]; simp)
        simpa [hd] using this
      have hp : ∀ x ∈ l.takeWhile (plainE), plainE x = true := fun x hx => mem_tw hx
      generalize l.takeWhile (plainE) = p at *
      subst e
      rw [anyE_hit hp hc]
      have hlp : okL p := fun x hx => hl x (List.mem_append_left _ hx)
      have hcc := hl c (by simp)
      have h128 : c < 128 := by
        unfold plainE at hc
        simp at hc
        omega
      refine Lib.indexAny_hit (i := (tx p).length) (x := UInt8.ofNat c) ?_ ?_ ?_
      · rw [tx_append]; exact noE_any hlp hp _
      · rw [tx_append, List.getElem?_append_right (Nat.le_refl _), Nat.sub_self, tx_cons, runeB_one h128]
        rfl
      · rw [Lib.contains_iff_indexByte, signE_in c h128, hc]
        rfl
theorem indexAnyE_any (l : List Nat) (w : World) (hl : okL l) (hs : (T l).size ≤ 32768) :
    Calls Tryz.prog 161 #[.string (T l), .string (⟨#[60, 37]⟩ : ByteArray)] w fun e w' => e = .returned (.int .i64 (anyE l)) ∧ Below w.heap.size w w' := by
  rw [show (⟨#[60, 37]⟩ : ByteArray) = T [60, 37] by decide +kernel]
  by_cases h8 : (T l).size ≤ 8
  · exact indexAnyE_few l w hl h8
  · have hT : (T [60, 37]).data.toList = [60, 37] := by
      rw [T_data]
      decide +kernel
    have hz : (T [60, 37]).size = 2 := by
      rw [T_size]
      decide +kernel
    refine (Tryz.strings_IndexAny_long (zero_of_info (v := .agg (Array.replicate 256 (.bool false))) (n := 256) (by kernel_rfl)).1 (T l) (T [60, 37]) w (by omega) (by omega) (by omega) (by omega) ?_).mono ?_
    · rw [hT]
      intro j b hb
      have := List.mem_of_getElem? hb
      simp at this
      rcases this with rfl | rfl <;> decide
    · rintro e w' ⟨rfl, rfl⟩
      refine ⟨?_, ((Below.refl _ _).alloc (Nat.le_refl _) _).alloc (by simp) _⟩
      rw [T_data, hT, indexAnyE_bytes hl]
theorem anyE_neg {l : List Nat} : decide (0 ≤ anyE l) = !l.all plainE := by
  unfold anyE
  by_cases h : l.takeWhile plainE = l
  · rw [if_pos h]
    have : l.all plainE = true := List.all_eq_true.2 fun x hx => by rw [← h] at hx; exact mem_tw hx
    rw [this]
    rfl
  · rw [if_neg h]
    have : l.all plainE = false := by
      cases hh : l.all plainE with
      | false => rfl
      | true =>
        have h2 := List.all_eq_true.1 hh
        have h3 := List.takeWhile_append_of_pos (l₂ := []) h2
        rw [List.append_nil, List.takeWhile_nil, List.append_nil] at h3
        exact absurd h3 h
    rw [this]
    simp
set_option maxHeartbeats 1000000 in
theorem containsAnyE_any (l : List Nat) (w : World) (hl : okL l) (hs : (T l).size ≤ 32768) :
    Calls Tryz.prog 189 #[.string (T l), .string (⟨#[60, 37]⟩ : ByteArray)] w fun e w' => e = .returned (.bool (!l.all plainE)) ∧ Below w.heap.size w w' := by
  have HI := hide (indexAnyE_any l w hl hs)
  have HN := hide (anyE_neg (l := l))
  generalize anyE l = v at *
  go_enter Tryz.func189, Tryz.ntmps189
  go_wp2_with fail
  refine (unhide HI).mono ?_
  rintro e w1 ⟨rfl, hb1⟩
  go_wp2
  go_ret
  exact ⟨ret_bool (unhide HN), hb1⟩
end Go.Proofs.YtefjfjieoiegnaaGreatDoor
/- An entity's text: xmlscan's isEntityText. -/
namespace Go.Proofs.YtefjfjieoiegnaaGreatDoor
open Go.RowKit
theorem refsOk_cons (c : Nat) (t : List Nat) : refsOk (c :: t) = ((c != 38 || (readRef (c :: t)).isSome) && refsOk t) := rfl
theorem isEnt_eq (l : List Nat) : isEntText l = (l.all plainE && refsOk l) := rfl
set_option maxRecDepth 100000 in
set_option maxHeartbeats 2000000 in
theorem isEntityText_any (l : List Nat) (w : World) (hl : okL l) (hs : (T l).size ≤ 32768) :
    Calls Tryz.prog 159 #[.string (T l)] w fun e w' => e = .returned (.bool (isEntText l)) ∧ Below w.heap.size w w' := by
  have HC := hide (containsAnyE_any l w hl hs)
  have HD := hide (isEnt_eq l)
  have hfd : ∀ (x y : ByteArray) (n : Int) (W : World), (Instr.field 135 (.agg #[.string x, .string y, .int .i64 n]) 2).run Tryz.prog W = .ok (.int .i64 n) W := fun _ _ _ _ => by kernel_rfl
  go_enter Tryz.func159, Tryz.ntmps159
  go_wp2_with fail
  refine (unhide HC).mono ?_
  rintro e w1 ⟨rfl, hb1⟩
  cases hall : l.all plainE
  · have HR : Hid (isEntText l = false) := hide (by rw [unhide HD, hall]; rfl)
    clear hall HD
    go_wp2
    go_ret
    exact ⟨ret_bool (unhide HR).symm, hb1⟩
  · have HR : Hid (isEntText l = refsOk l) := hide (by rw [unhide HD, hall]; rfl)
    clear hall HD HC
    go_wp2_with fail
    go_loopw [] (fun wr => ∃ p t : List Nat, l = p ++ t ∧ refsOk l = refsOk t ∧ wr.heap[w1.heap.size]? = some (.stringIter (T l) (tx p).length) ∧ Below w1.heap.size w1 wr) (fun wr => (T l).size - wr.iterPos w1.heap.size)
    case atStart => exact ⟨[], l, rfl, rfl, World.iter_heap _ _ _, (Below.refl _ _).alloc (Nat.le_refl _) _⟩
    case round =>
      obtain ⟨p, t, hpt, hro, hk, hbr⟩ := hrel
      cases t with
      | nil =>
        have hnx := fun ty => Lib.run_next_end_at (P := Tryz.prog) wr w1.heap.size (T l) (tx p).length ty hk (end_at hpt)
        have HRO : Hid (refsOk l = true) := hide (by rw [hro]; rfl)
        clear hpt hro hk
        go_wp2
        go_ret
        exact ⟨ret_bool (by rw [unhide HR, unhide HRO]), Below.then hb1 hbr⟩
      | cons c t =>
        obtain ⟨hd, hlt, hc, hpos⟩ := dec_at hpt hl
        have hnx := fun ty => Lib.run_next_any_at (P := Tryz.prog) wr w1.heap.size (T l) (tx p).length ty hk hlt
        rw [hd] at hnx
        simp only at hnx
        have HS := hide (tx_snoc p c)
        have HX := hide (suf_at hpt)
        have HPT := hide hpt
        have HK := hide hk
        rw [refsOk_cons] at hro
        have hbl : w1.heap.size < wr.heap.size := (Array.getElem?_eq_some_iff.1 hk).1
        have hbI : Below w1.heap.size w1 (wr.iterAt w1.heap.size (T l) ((tx p).length + (runeB c).length)) := Lib.below_iterAt hbr (by omega) _ _
        have hszI : w1.heap.size ≤ (wr.iterAt w1.heap.size (T l) ((tx p).length + (runeB c).length)).heap.size := by rw [Lib.iterAt_size]; omega
        have HKI : Hid ((wr.iterAt w1.heap.size (T l) ((tx p).length + (runeB c).length)).heap[w1.heap.size]? = some (.stringIter (T l) ((tx p).length + (runeB c).length))) := hide (Lib.iterAt_heap wr _ _ _ _ (unhide HK))
        have hokc : okL (c :: t) := okL_right (hpt ▸ hl)
        have hszc : (T (c :: t)).size ≤ 32768 := by
          have h1 : (T l).size = (tx p).length + (T (c :: t)).size := by rw [hpt, T_size, T_size, tx_len_app]
          omega
        have i1 : (0 : Int) ≤ ((tx p).length : Int) := by omega
        have i2 : ((tx p).length : Int) ≤ ((T l).size : Int) := by omega
        by_cases h38 : c = 38
        · subst h38
          have HRR := hide (fun W => readReference_any (38 :: t) W hokc hszc rfl)
          cases hr : readRef (38 :: t) with
          | none =>
            rw [hr] at hro HRR
            have HF : Hid (refsOk l = false) := hide (by rw [hro]; rfl)
            clear hd hpt hk hro hr
            go_wp2_with fail
            rw [unhide HX]
            refine (unhide HRR _).mono ?_
            rintro e w2 ⟨rfl, hb2⟩
            rw [show refV (38 :: t) none = .agg #[.string ⟨#[]⟩, .string ⟨#[]⟩, .int .i64 0] from rfl]
            go_wp2
            go_ret
            exact ⟨ret_bool (by rw [unhide HR, unhide HF]), Below.then hb1 (hbI.trans (hb2.mono hszI))⟩
          | some r =>
            rw [hr] at hro HRR
            have HO : Hid (refsOk l = refsOk t) := hide (by rw [hro]; rfl)
            obtain ⟨f1, f2, f3, f4, f5, f6, f7⟩ := readRef_facts hokc hr
            have hsz : 1 ≤ (T ((38 :: t).take r.size)).size := by
              rw [show r.size = (r.size - 1) + 1 by omega, List.take_succ_cons, sz_cons (by decide)]
              omega
            have hvr : refV (38 :: t) (some r) = .agg #[.string (T r.said), .string (T r.name), .int .i64 ((T ((38 :: t).take r.size)).size : Nat)] := rfl
            rw [hvr] at HRR
            generalize (T ((38 :: t).take r.size)).size = n at *
            have hn0 : ((n : Int) == 0) = false := beq_eq_false_iff_ne.2 (by omega)
            clear hd hpt hk hro hr hvr f1 f2 f3 f4 f5 f6 f7
            go_wp2_with fail
            rw [unhide HX]
            refine (unhide HRR _).mono ?_
            rintro e w2 ⟨rfl, hb2⟩
            go_wp2_with fail
            have hki := block_below (unhide HKI) hb2
            refine ⟨⟨p ++ [38], t, by rw [unhide HPT]; simp, unhide HO, by rw [unhide HS]; exact hki, hbI.trans (hb2.mono hszI)⟩, ?_⟩
            rw [iterPos_of hki, iterPos_of (unhide HK)]
            omega
        · have g38 : ((c : Int) == 38) = false := beq_eq_false_iff_ne.2 (by omega)
          have HO : Hid (refsOk l = refsOk t) := hide (by
            rw [hro]
            have : (c != 38) = true := by simpa using h38
            rw [this]
            rfl)
          clear hd hpt hk hro h38
          go_wp2_with fail
          refine ⟨⟨p ++ [c], t, by rw [unhide HPT]; simp, unhide HO, by rw [unhide HS]; exact unhide HKI, hbI⟩, ?_⟩
          rw [iterPos_of (unhide HKI), iterPos_of (unhide HK)]
          omega
end Go.Proofs.YtefjfjieoiegnaaGreatDoor
