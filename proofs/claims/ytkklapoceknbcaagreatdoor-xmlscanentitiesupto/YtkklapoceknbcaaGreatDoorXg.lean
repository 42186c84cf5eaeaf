/- Several texts, laid as one. -/
import Derived.Test.YtkklapoceknbcaaGreatDoorXmlJump
import Derived.Test.YtkklapoceknbcaaGreatDoorXmlRefGo
import Derived.Test.YtkklapoceknbcaaGreatDoorXmlRefs
import Derived.Test.YtkklapoceknbcaaGreatDoorXr
import Derived.Test.YtkklapoceknbcaaGreatDoorXmlAttrs
/- Where an entity's text comes to a sign that it may not have: strings.IndexAny, ContainsAny. -/
namespace Go.Proofs.YtkklapoceknbcaaGreatDoor
open Go.RowKit
def plainE (c : Nat) : Bool := c != 60 && c != 37
def anyE (l : List Nat) : Int := if l.takeWhile (plainE) = l then -1 else ((T (l.takeWhile (plainE))).size : Nat)
theorem anyE_none {l : List Nat} (h : ∀ x ∈ l, plainE x = true) : anyE l = -1 := by
  unfold anyE
  rw [if_pos (by have := List.takeWhile_append_of_pos (l₂ := []) h; simpa using this)]
theorem anyE_hit {p t : List Nat} {c : Nat} (h : ∀ x ∈ p, plainE x = true) (hc : plainE c = false) : anyE (p ++ c :: t) = (tx p).length := by
  have e : (p ++ c :: t).takeWhile (plainE) = p := by
    rw [List.takeWhile_append_of_pos h, List.takeWhile_cons_of_neg (by rw [hc]; decide), List.append_nil]
  unfold anyE
  rw [e, if_neg (by simp), T_size]
theorem signE_in : ∀ c, c < 128 → decide (0 ≤ Lib.indexByte [60, 37] (UInt8.ofNat c)) = !plainE c := by
  decide +kernel
theorem runeInE_any (c : Nat) (hc : charR (c : Int) = true) (w : World) :
    Calls Tryz.prog 138 #[.string (T [60, 37]), .int .i32 (c : Int)] w fun e w' => ∃ v : Int, e = .returned (.int .i64 v) ∧ decide (0 ≤ v) = !plainE c ∧ Below w.heap.size w w' := by
  have hT : (T [60, 37]).data.toList = [60, 37] := by
    rw [T_data]
    decide +kernel
  by_cases h : c < 128
  · refine (Tryz.strings_IndexRune_ascii _ (c : Int) w (by omega) (by omega)).mono ?_
    rintro e w' ⟨rfl, rfl⟩
    refine ⟨_, rfl, ?_, Below.refl _ _⟩
    rw [hT, ← signE_in c h]
    rfl
  · refine (indexRune_high [60, 37] ?_ ?_ (by simp) c (charR_ok hc) (by omega) w).mono ?_
    · unfold okL; decide +kernel
    · decide
    rintro e w' ⟨rfl, hb⟩
    refine ⟨_, rfl, ?_, hb⟩
    have : plainE c = true := by
      unfold plainE
      simp
      omega
    rw [this]
    rfl
set_option maxRecDepth 100000 in
set_option maxHeartbeats 2000000 in
theorem indexAnyE_few (l : List Nat) (w : World) (hl : okL l) (hs : (T l).size ≤ 8) :
    Calls Tryz.prog 119 #[.string (T l), .string (T [60, 37])] w fun e w' => e = .returned (.int .i64 (anyE l)) ∧ Below w.heap.size w w' := by
  have hz : (T [60, 37]).size = 2 := by
    rw [T_size]
    decide +kernel
  have hem : (T [60, 37]).toList.isEmpty = false := by
    rw [T_toList]
    decide +kernel
  have h8 : decide ((8 : Int) < ((T l).size : Int)) = false := decide_eq_false (by omega)
  have HR := hide (runeInE_any)
  generalize hX : T [60, 37] = X at *
  clear hX
  go_enter Tryz.func119, Tryz.ntmps119
  go_wp2_with (go_at_call 140; refine (Tryz.strings_shouldUseASCIISet _ _).mono ?_; rintro e w' ⟨rfl, hw⟩; rw [hw, h8])
  go_loopw [] (fun wr => ∃ p t : List Nat, l = p ++ t ∧ (∀ x ∈ p, plainE x = true) ∧ wr.heap[w.heap.size]? = some (.stringIter (T l) (tx p).length) ∧ Below w.heap.size w wr) (fun wr => (T l).size - wr.iterPos w.heap.size)
  case atStart =>
    refine ⟨[], l, rfl, (fun _ h => by cases h), ?_, ?_⟩
    · simpa [tx_nil] using World.iter_heap w (T l) 0
    · exact (Below.refl _ _).alloc (Nat.le_refl _) _
  case round =>
    obtain ⟨p, t, hpt, hp, hk, hbr⟩ := hrel
    cases t with
    | nil =>
      have hnx := fun ty => Lib.run_next_end_at (P := Tryz.prog) wr w.heap.size (T l) (tx p).length ty hk (end_at hpt)
      have HA := hide (show anyE l = -1 from by rw [hpt, List.append_nil]; exact anyE_none hp)
      clear hpt hk
      go_wp2
      go_ret
      exact ⟨ret_int (unhide HA).symm, hbr⟩
    | cons c t =>
      obtain ⟨hd, hlt, hc, hpos⟩ := dec_at hpt hl
      have hnx := fun ty => Lib.run_next_any_at (P := Tryz.prog) wr w.heap.size (T l) (tx p).length ty hk hlt
      rw [hd] at hnx
      simp only at hnx
      have HS := hide (tx_snoc p c)
      have HPT := hide hpt
      have HK := hide hk
      have hbl : w.heap.size < wr.heap.size := (Array.getElem?_eq_some_iff.1 hk).1
      have hbI : Below w.heap.size w (wr.iterAt w.heap.size (T l) ((tx p).length + (runeB c).length)) := Lib.below_iterAt hbr (by omega) _ _
      have hszI : w.heap.size ≤ (wr.iterAt w.heap.size (T l) ((tx p).length + (runeB c).length)).heap.size := by rw [Lib.iterAt_size]; omega
      have HKI : Hid ((wr.iterAt w.heap.size (T l) ((tx p).length + (runeB c).length)).heap[w.heap.size]? = some (.stringIter (T l) ((tx p).length + (runeB c).length))) := hide (Lib.iterAt_heap wr _ _ _ _ (unhide HK))
      clear hd hpt hk
      cases hpc : plainE c
      · have HA := hide (show anyE l = (tx p).length from by rw [unhide HPT]; exact anyE_hit hp hpc)
        go_wp2_with (go_at_call 138; refine (unhide HR c hc _).mono ?_; rintro e w1 ⟨v, rfl, hv, hb1⟩; rw [hpc] at hv)
        go_ret
        exact ⟨ret_int (unhide HA).symm, hbI.trans (hb1.mono hszI)⟩
      · go_wp2_with (go_at_call 138; refine (unhide HR c hc _).mono ?_; rintro e w1 ⟨v, rfl, hv, hb1⟩; rw [hpc] at hv)
        refine ⟨⟨p ++ [c], t, by rw [unhide HPT]; simp, ?_, ?_, hbI.trans (hb1.mono hszI)⟩, ?_⟩
        · intro x hx
          rcases List.mem_append.1 hx with hx | hx
          · exact hp x hx
          · rw [List.mem_singleton.1 hx]; exact hpc
        · rw [unhide HS]; exact block_below (unhide HKI) hb1
        · rw [iterPos_of (block_below (unhide HKI) hb1), iterPos_of (unhide HK)]
          omega
theorem plainE_bytes {x : Nat} (hx : charR (x : Int) = true) (hp : plainE x = true) (b : UInt8) (hb : b ∈ runeB x) : [60, 37].contains b = false := by
  by_cases h : x < 128
  · rw [runeB_one h] at hb
    obtain rfl := List.mem_singleton.1 hb
    have h1 := signE_in x h
    rw [← Lib.contains_iff_indexByte, hp] at h1
    exact h1
  · have h1 := runeB_high (charR_ok hx) (by omega) b hb
    cases hc : [60, 37].contains b
    · rfl
    · have h2 := List.contains_iff_mem.1 hc
      have : b.toNat < 128 := by
        simp at h2
        rcases h2 with rfl | rfl <;> decide
      omega
theorem plainE_tx {p : List Nat} (hl : okL p) (hp : ∀ x ∈ p, plainE x = true) (b : UInt8) (hb : b ∈ tx p) : [60, 37].contains b = false := by
  obtain ⟨x, hx, hbx⟩ := List.mem_flatMap.1 (by simpa [tx] using hb)
  exact plainE_bytes (hl x hx) (hp x hx) b hbx
theorem noE_any {p : List Nat} (hl : okL p) (hp : ∀ x ∈ p, plainE x = true) (t : List UInt8) : Lib.NoAny (tx p ++ t) [60, 37] (tx p).length := by
  intro j b hj hb
  rw [List.getElem?_append_left hj] at hb
  exact plainE_tx hl hp b (List.mem_of_getElem? hb)
theorem indexAnyE_bytes {l : List Nat} (hl : okL l) : Lib.indexAny (tx l) [60, 37] = anyE l := by
  by_cases h : ∀ x ∈ l, plainE x = true
  · rw [anyE_none h]
    have := noE_any hl h []
    rw [List.append_nil] at this
    exact Lib.indexAny_none this
  · have e := List.takeWhile_append_dropWhile (p := plainE) (l := l)
    cases hd : l.dropWhile (plainE) with
    | nil =>
      rw [hd, List.append_nil] at e
      exact absurd (fun x hx => by rw [← e] at hx; exact mem_tw hx) h
    | cons c t =>
      rw [hd] at e
      have hc : plainE c = false := by
        have := List.head_dropWhile_not (plainE) (l := l) (by rw [hd]; simp)
        simpa [hd] using this
      have hp : ∀ x ∈ l.takeWhile (plainE), plainE x = true := fun x hx => mem_tw hx
      generalize l.takeWhile (plainE) = p at *
      subst e
      rw [anyE_hit hp hc]
      have hlp : okL p := fun x hx => hl x (List.mem_append_left _ hx)
      have hcc := hl c (by simp)
      have h128 : c < 128 := by
        unfold plainE at hc
        simp at hc
        omega
      refine Lib.indexAny_hit (i := (tx p).length) (x := UInt8.ofNat c) ?_ ?_ ?_
      · rw [tx_append]; exact noE_any hlp hp _
      · rw [tx_append, List.getElem?_append_right (Nat.le_refl _), Nat.sub_self, tx_cons, runeB_one h128]
        rfl
      · rw [Lib.contains_iff_indexByte, signE_in c h128, hc]
        rfl
theorem indexAnyE_any (l : List Nat) (w : World) (hl : okL l) (hs : (T l).size ≤ 32768) :
    Calls Tryz.prog 119 #[.string (T l), .string (⟨#[60, 37]⟩ : ByteArray)] w fun e w' => e = .returned (.int .i64 (anyE l)) ∧ Below w.heap.size w w' := by
  rw [show (⟨#[60, 37]⟩ : ByteArray) = T [60, 37] by decide +kernel]
  by_cases h8 : (T l).size ≤ 8
  · exact indexAnyE_few l w hl h8
  · have hT : (T [60, 37]).data.toList = [60, 37] := by
      rw [T_data]
      decide +kernel
    have hz : (T [60, 37]).size = 2 := by
      rw [T_size]
      decide +kernel
    refine (Tryz.strings_IndexAny_long (zero_of_info (v := .agg (Array.replicate 256 (.bool false))) (n := 256) (by kernel_rfl)).1 (T l) (T [60, 37]) w (by omega) (by omega) (by omega) (by omega) ?_).mono ?_
    · rw [hT]
      intro j b hb
      have := List.mem_of_getElem? hb
      simp at this
      rcases this with rfl | rfl <;> decide
    · rintro e w' ⟨rfl, rfl⟩
      refine ⟨?_, ((Below.refl _ _).alloc (Nat.le_refl _) _).alloc (by simp) _⟩
      rw [T_data, hT, indexAnyE_bytes hl]
theorem anyE_neg {l : List Nat} : decide (0 ≤ anyE l) = !l.all plainE := by
  unfold anyE
  by_cases h : l.takeWhile plainE = l
  · rw [if_pos h]
    have : l.all plainE = true := List.all_eq_true.2 fun x hx => by rw [← h] at hx; exact mem_tw hx
    rw [this]
    rfl
  · rw [if_neg h]
    have : l.all plainE = false := by
      cases hh : l.all plainE with
      | false => rfl
      | true =>
        have h2 := List.all_eq_true.1 hh
        have h3 := List.takeWhile_append_of_pos (l₂ := []) h2
        rw [List.append_nil, List.takeWhile_nil, List.append_nil] at h3
        exact absurd h3 h
    rw [this]
    simp
set_option maxHeartbeats 1000000 in
theorem containsAnyE_any (l : List Nat) (w : World) (hl : okL l) (hs : (T l).size ≤ 32768) :
    Calls Tryz.prog 139 #[.string (T l), .string (⟨#[60, 37]⟩ : ByteArray)] w fun e w' => e = .returned (.bool (!l.all plainE)) ∧ Below w.heap.size w w' := by
  have HI := hide (indexAnyE_any l w hl hs)
  have HN := hide (anyE_neg (l := l))
  generalize anyE l = v at *
  go_enter Tryz.func139, Tryz.ntmps139
  go_wp2_with fail
  refine (unhide HI).mono ?_
  rintro e w1 ⟨rfl, hb1⟩
  go_wp2
  go_ret
  exact ⟨ret_bool (unhide HN), hb1⟩
end Go.Proofs.YtkklapoceknbcaaGreatDoor
/- An entity's text: xmlscan's isEntityText. -/
namespace Go.Proofs.YtkklapoceknbcaaGreatDoor
open Go.RowKit
theorem refsOk_cons (c : Nat) (t : List Nat) : refsOk (c :: t) = ((c != 38 || (readRef (c :: t)).isSome) && refsOk t) := rfl
theorem isEnt_eq (l : List Nat) : isEntText l = (l.all plainE && refsOk l) := rfl
set_option maxRecDepth 100000 in
set_option maxHeartbeats 2000000 in
theorem isEntityText_any (l : List Nat) (w : World) (hl : okL l) (hs : (T l).size ≤ 32768) :
    Calls Tryz.prog 117 #[.string (T l)] w fun e w' => e = .returned (.bool (isEntText l)) ∧ Below w.heap.size w w' := by
  have HC := hide (containsAnyE_any l w hl hs)
  have HD := hide (isEnt_eq l)
  have hfd : ∀ (x y : ByteArray) (n : Int) (W : World), (Instr.field 105 (.agg #[.string x, .string y, .int .i64 n]) 2).run Tryz.prog W = .ok (.int .i64 n) W := fun _ _ _ _ => by kernel_rfl
  go_enter Tryz.func117, Tryz.ntmps117
  go_wp2_with fail
  refine (unhide HC).mono ?_
  rintro e w1 ⟨rfl, hb1⟩
  cases hall : l.all plainE
  · have HR : Hid (isEntText l = false) := hide (by rw [unhide HD, hall]; rfl)
    clear hall HD
    go_wp2
    go_ret
    exact ⟨ret_bool (unhide HR).symm, hb1⟩
  · have HR : Hid (isEntText l = refsOk l) := hide (by rw [unhide HD, hall]; rfl)
    clear hall HD HC
    go_wp2_with fail
    go_loopw [] (fun wr => ∃ p t : List Nat, l = p ++ t ∧ refsOk l = refsOk t ∧ wr.heap[w1.heap.size]? = some (.stringIter (T l) (tx p).length) ∧ Below w1.heap.size w1 wr) (fun wr => (T l).size - wr.iterPos w1.heap.size)
    case atStart => exact ⟨[], l, rfl, rfl, World.iter_heap _ _ _, (Below.refl _ _).alloc (Nat.le_refl _) _⟩
    case round =>
      obtain ⟨p, t, hpt, hro, hk, hbr⟩ := hrel
      cases t with
      | nil =>
        have hnx := fun ty => Lib.run_next_end_at (P := Tryz.prog) wr w1.heap.size (T l) (tx p).length ty hk (end_at hpt)
        have HRO : Hid (refsOk l = true) := hide (by rw [hro]; rfl)
        clear hpt hro hk
        go_wp2
        go_ret
        exact ⟨ret_bool (by rw [unhide HR, unhide HRO]), Below.then hb1 hbr⟩
      | cons c t =>
        obtain ⟨hd, hlt, hc, hpos⟩ := dec_at hpt hl
        have hnx := fun ty => Lib.run_next_any_at (P := Tryz.prog) wr w1.heap.size (T l) (tx p).length ty hk hlt
        rw [hd] at hnx
        simp only at hnx
        have HS := hide (tx_snoc p c)
        have HX := hide (suf_at hpt)
        have HPT := hide hpt
        have HK := hide hk
        rw [refsOk_cons] at hro
        have hbl : w1.heap.size < wr.heap.size := (Array.getElem?_eq_some_iff.1 hk).1
        have hbI : Below w1.heap.size w1 (wr.iterAt w1.heap.size (T l) ((tx p).length + (runeB c).length)) := Lib.below_iterAt hbr (by omega) _ _
        have hszI : w1.heap.size ≤ (wr.iterAt w1.heap.size (T l) ((tx p).length + (runeB c).length)).heap.size := by rw [Lib.iterAt_size]; omega
        have HKI : Hid ((wr.iterAt w1.heap.size (T l) ((tx p).length + (runeB c).length)).heap[w1.heap.size]? = some (.stringIter (T l) ((tx p).length + (runeB c).length))) := hide (Lib.iterAt_heap wr _ _ _ _ (unhide HK))
        have hokc : okL (c :: t) := okL_right (hpt ▸ hl)
        have hszc : (T (c :: t)).size ≤ 32768 := by
          have h1 : (T l).size = (tx p).length + (T (c :: t)).size := by rw [hpt, T_size, T_size, tx_len_app]
          omega
        have i1 : (0 : Int) ≤ ((tx p).length : Int) := by omega
        have i2 : ((tx p).length : Int) ≤ ((T l).size : Int) := by omega
        by_cases h38 : c = 38
        · subst h38
          have HRR := hide (fun W => readReference_any (38 :: t) W hokc hszc rfl)
          cases hr : readRef (38 :: t) with
          | none =>
            rw [hr] at hro HRR
            have HF : Hid (refsOk l = false) := hide (by rw [hro]; rfl)
            clear hd hpt hk hro hr
            go_wp2_with fail
            rw [unhide HX]
            refine (unhide HRR _).mono ?_
            rintro e w2 ⟨rfl, hb2⟩
            rw [show refV (38 :: t) none = .agg #[.string ⟨#[]⟩, .string ⟨#[]⟩, .int .i64 0] from rfl]
            go_wp2
            go_ret
            exact ⟨ret_bool (by rw [unhide HR, unhide HF]), Below.then hb1 (hbI.trans (hb2.mono hszI))⟩
          | some r =>
            rw [hr] at hro HRR
            have HO : Hid (refsOk l = refsOk t) := hide (by rw [hro]; rfl)
            obtain ⟨f1, f2, f3, f4, f5, f6, f7⟩ := readRef_facts hokc hr
            have hsz : 1 ≤ (T ((38 :: t).take r.size)).size := by
              rw [show r.size = (r.size - 1) + 1 by omega, List.take_succ_cons, sz_cons (by decide)]
              omega
            have hvr : refV (38 :: t) (some r) = .agg #[.string (T r.said), .string (T r.name), .int .i64 ((T ((38 :: t).take r.size)).size : Nat)] := rfl
            rw [hvr] at HRR
            generalize (T ((38 :: t).take r.size)).size = n at *
            have hn0 : ((n : Int) == 0) = false := beq_eq_false_iff_ne.2 (by omega)
            clear hd hpt hk hro hr hvr f1 f2 f3 f4 f5 f6 f7
            go_wp2_with fail
            rw [unhide HX]
            refine (unhide HRR _).mono ?_
            rintro e w2 ⟨rfl, hb2⟩
            go_wp2_with fail
            have hki := block_below (unhide HKI) hb2
            refine ⟨⟨p ++ [38], t, by rw [unhide HPT]; simp, unhide HO, by rw [unhide HS]; exact hki, hbI.trans (hb2.mono hszI)⟩, ?_⟩
            rw [iterPos_of hki, iterPos_of (unhide HK)]
            omega
        · have g38 : ((c : Int) == 38) = false := beq_eq_false_iff_ne.2 (by omega)
          have HO : Hid (refsOk l = refsOk t) := hide (by
            rw [hro]
            have : (c != 38) = true := by simpa using h38
            rw [this]
            rfl)
          clear hd hpt hk hro h38
          go_wp2_with fail
          refine ⟨⟨p ++ [c], t, by rw [unhide HPT]; simp, unhide HO, by rw [unhide HS]; exact unhide HKI, hbI⟩, ?_⟩
          rw [iterPos_of (unhide HKI), iterPos_of (unhide HK)]
          omega
end Go.Proofs.YtkklapoceknbcaaGreatDoor
/- A declaration of an entity: xmlscan's entity. -/
namespace Go.Proofs.YtkklapoceknbcaaGreatDoor
open Go.RowKit
/-- What reading a declaration leaves: it was none, or the reader behind it, maybe with an entity more. -/
def entP (o : Option RS) (B p m : Nat) (vo vt vr : Value) (e : Ending) (w w' : World) : Prop := Below B w w' ∧ match o with
  | none => e = .returned (.bool false) ∧ ∃ c, w'.heap[p]? = some (.cells c 56 (0, 0)) ∧ c.size = 10
  | some s' => e = .returned (.bool true) ∧ Rd w' B p m vo vt vr s'
theorem entity_eq (s : RS) : s.entity = if !s.blank then none else
    if (nameA s.blanks.rest).isEmpty || !s.blanks.name.blank then none else
    match s.blanks.name.blanks.quoted with
    | none => none
    | some (t, s3) =>
      if !isEntText t then none else
      if !heads 62 s3.blanks.rest then none else
      some (if (entX s.ents (nameA s.blanks.rest)).isSome then s3.blanks.adv 1 else { s3.blanks.adv 1 with ents := s.ents ++ [(nameA s.blanks.rest, t)] }) := rfl
theorem quoted_ok {s s' : RS} {t : List Nat} (hf : Fine s) (h : s.quoted = some (t, s')) : okL t ∧ (T t).size ≤ 32768 := by
  have hd : s.quoted = match s.quote with | none => none | some (q, s1) => s1.takeTo [q] := rfl
  rw [hd] at h
  split at h
  · cases h
  · rename_i q s1 hq
    obtain ⟨e1, _, hqs⟩ := quote_some hq
    have hqa : ∀ c ∈ [q], c < 128 := by
      rcases hqs with rfl | ⟨rfl, _⟩ <;> decide
    obtain ⟨_, y, hc, _⟩ := Adv.takeTo h
    have f1 : Fine s1 := by rw [e1]; exact hf.adv 1
    have h2 := cut_place hqa (by simp) f1 hc
    have h3 := f1.lt
    exact ⟨okL_left (okL_left ((cutL_app hqa (by simp) f1.okR hc) ▸ f1.okR)), by omega⟩
/-- An entity more, in the map. -/
theorem Rd.declared {w w' : World} {B p m : Nat} {vo vt vr : Value} {s : RS} (R : Rd w B p m vo vt vr s) {n t : List Nat} (hn : okL n) (ht : okL t) (hg : w.grownBy w' (some m)) (hown : w'.ownsMap Tryz.prog 9 entElem m (s.ents.length + 1) ((entsD s.ents).put (.string (tx n)) (.agg [.lit (.string (tx t))]))) :
    Rd w' B p m vo vt vr { s with ents := s.ents ++ [(n, t)] } := by
  obtain ⟨es, ck, hm⟩ := R.ents.map
  have hk : ∀ k o, w.heap[k]? = some o → ¬ (k = m) → w'.heap[k]? = some o := fun k o ho hs => by
    rw [hg.block k (Array.getElem?_eq_some_iff.1 ho).1 (fun e => hs (by cases e; rfl))]; exact ho
  have hrow : ∀ {base : Nat} {e : TypeId} {size : Nat} {v : Value} {n : Nat} {xs : List Value}, w.ownsRow base e size v n xs → w'.ownsRow base e size v n xs := fun ho =>
    owns_kept (S := (· = m)) ho hk fun k hk' hs => by
      subst hs
      obtain ⟨c, hc⟩ := owns_type ho hk'
      rw [hm] at hc
      cases hc
  refine ⟨?_, R.low, ⟨R.ents.1, fun x hx => ?_, by rw [List.length_append, entsD_snoc]; exact hown⟩, hrow R.opn, ?_, hrow R.run⟩
  · rw [hg.block p R.lt (fun e => R.ents.ne R.blk (by cases e; rfl))]; exact R.blk
  · rcases List.mem_append.1 hx with hx | hx
    · exact R.ents.2.1 x hx
    · rw [List.mem_singleton.1 hx]; exact ⟨hn, ht⟩
  · refine R.toks.kept (· = m) hk fun k c hs => ?_
    subst hs
    rw [hm]
    exact ⟨fun e => (by cases e), fun e => (by cases e)⟩
set_option maxRecDepth 100000 in
set_option maxHeartbeats 4000000 in
theorem entity_any (B p m : Nat) (vo vt vr : Value) (s : RS) (w : World) (R : Rd w B p m vo vt vr s) (hG : Good s) (hE : XEnv B w) (hN : EOk s.ents) (hle : s.ents.length ≤ 100000) :
    Calls Tryz.prog 103 #[.pointer (some ⟨p, 0, none⟩)] w fun e w' => entP s.entity B p m vo vt vr e w w' := by
  have hlow := R.low
  have hlt := R.lt
  have hBw : B ≤ w.heap.size := by omega
  have HD := hide (entity_eq s)
  go_enter Tryz.func103, Tryz.ntmps103
  go_wp2_with fail
  refine (blanks_any p s _ R.at hG.fine).mono ?_
  rintro e w1 ⟨rfl, hm1⟩
  have R1 := R.moved hm1 (Adv.blanks s)
  have G1 := hG.to (Adv.blanks s)
  have hb1 := hm1.low hlow hBw
  have hen1 : s.blanks.ents = s.ents := rfl
  cases hbl : s.blank
  · have HEQ : Hid (s.entity = none) := hide (by rw [unhide HD, hbl]; rfl)
    clear HD hbl
    go_wp2
    go_ret
    rw [unhide HEQ]
    exact ⟨hb1, rfl, _, R1.blk, rfl⟩
  · have hd := unhide HD
    rw [hbl, if_neg (by decide)] at hd
    clear HD hbl hm1
    generalize hg1 : s.blanks = s1 at *
    clear hg1
    go_wp2_with fail
    refine (name_any p s1 _ R1.at G1.fine).mono ?_
    rintro e w2 ⟨rfl, hm2⟩
    have R2 := R1.moved hm2 (Adv.name s1)
    have G2 := G1.to (Adv.name s1)
    have hb2 := hb1.trans (hm2.low hlow (by have := R1.lt; omega))
    have hon := okL_pre G1.fine.okR (nameA_pre s1.rest)
    have hsn := size_pre (nameA_pre s1.rest)
    have hz1 := G1.fine.lt
    have hen2 : s1.name.ents = s.ents := hen1
    clear hm2
    generalize hgn : nameA s1.rest = n at *
    generalize hg2 : s1.name = s2 at *
    clear hgn hg2
    by_cases hn0 : n = []
    · have e1 := nil_T hn0
      have HEQ : Hid (s.entity = none) := hide (by rw [hd, hn0]; rfl)
      clear hd hn0
      go_wp2
      go_ret
      rw [unhide HEQ]
      exact ⟨hb2, rfl, _, R2.blk, rfl⟩
    · have e1 := ne_T hon hn0
      have hne : n.isEmpty = false := by cases n with | nil => exact absurd rfl hn0 | cons _ _ => rfl
      rw [hne, Bool.false_or] at hd
      have HN0 := hide hn0
      clear hn0
      go_wp2_with fail
      refine (blanks_any p s2 _ R2.at G2.fine).mono ?_
      rintro e w3 ⟨rfl, hm3⟩
      have R3 := R2.moved hm3 (Adv.blanks s2)
      have G3 := G2.to (Adv.blanks s2)
      have hb3 := hb2.trans (hm3.low hlow (by have := R2.lt; omega))
      have hen3 : s2.blanks.ents = s.ents := hen2
      cases hbl2 : s2.blank
      · have HEQ : Hid (s.entity = none) := hide (by rw [hd, hbl2]; rfl)
        clear hd hbl2
        go_wp2
        go_ret
        rw [unhide HEQ]
        exact ⟨hb3, rfl, _, R3.blk, rfl⟩
      · rw [hbl2, if_neg (by decide)] at hd
        clear hbl2 hm3
        generalize hg3 : s2.blanks = s3 at *
        clear hg3
        have HD := hide hd
        clear hd
        go_wp2_with fail
        refine (quoted_any B p s3 _ R3.at G3.fine (hE.low hb3) hlow).mono ?_
        intro e w4 hq
        cases hqu : s3.quoted with
        | none =>
          rw [hqu] at hq
          obtain ⟨y, k, rfl, hm4⟩ := hq
          have HEQ : Hid (s.entity = none) := hide (by rw [unhide HD, hqu])
          obtain ⟨cc, hcc, hcs⟩ := moved_blk R3 hm4
          have hb4 := hb3.trans (hm4.low hlow (by have := R3.lt; omega))
          clear HD hqu hm4
          go_wp2
          go_ret
          rw [unhide HEQ]
          exact ⟨hb4, rfl, cc, hcc, hcs⟩
        | some x =>
          obtain ⟨t, s4⟩ := x
          rw [hqu] at hq
          obtain ⟨rfl, hm4⟩ := hq
          have hd := unhide HD
          rw [hqu] at hd
          simp only at hd
          have R4 := R3.moved hm4 (Adv.quoted hqu)
          have G4 := G3.to (Adv.quoted hqu)
          have hb4 := hb3.trans (hm4.low hlow (by have := R3.lt; omega))
          have hen4 : s4.ents = s.ents := (Adv.quoted hqu).t.same.1.trans hen3
          obtain ⟨hot, hts⟩ := quoted_ok G3.fine hqu
          clear HD hqu hm4
          go_wp2_with fail
          refine (isEntityText_any t _ hot (by omega)).mono ?_
          rintro e w5 ⟨rfl, hb5⟩
          have R5 := R4.on hb5
          have hb05 := hb4.trans (hb5.mono (by have := R4.lt; omega))
          cases hit : isEntText t
          · have HEQ : Hid (s.entity = none) := hide (by rw [hd, hit]; rfl)
            clear hd hit
            go_wp2
            go_ret
            rw [unhide HEQ]
            exact ⟨hb05, rfl, _, R5.blk, rfl⟩
          · rw [hit, Bool.not_true, if_neg (by decide)] at hd
            have HD := hide hd
            clear hd hit
            go_wp2_with fail
            refine (blanks_any p s4 _ R5.at G4.fine).mono ?_
            rintro e w6 ⟨rfl, hm6⟩
            have R6 := R5.moved hm6 (Adv.blanks s4)
            have G6 := G4.to (Adv.blanks s4)
            have hb6 := hb05.trans (hm6.low hlow (by have := R5.lt; omega))
            have hen6 : s4.blanks.ents = s.ents := hen4
            have hd := unhide HD
            clear HD hm6
            generalize hg6 : s4.blanks = s6 at *
            clear hg6
            go_wp2_with fail
            cases h62 : heads 62 s6.rest
            · have HEQ : Hid (s.entity = none) := hide (by rw [hd, h62]; rfl)
              refine (take_no [62] ⟨#[62]⟩ rfl (by decide) p s6 _ R6.at G6.fine (by rw [isPre_one]; exact h62)).mono ?_
              rintro e w7 ⟨rfl, hb7⟩
              have R7 := R6.on hb7
              clear hd h62
              go_wp2
              go_ret
              rw [unhide HEQ]
              exact ⟨hb6.trans (hb7.mono (by have := R6.lt; omega)), rfl, _, R7.blk, rfl⟩
            · refine (take_yes [62] ⟨#[62]⟩ rfl (by decide) p s6 _ R6.at G6.fine (by rw [isPre_one]; exact h62)).mono ?_
              rintro e w7 ⟨rfl, hm7⟩
              rw [h62, Bool.not_true, if_neg (by decide)] at hd
              have R7 := R6.moved hm7 (Adv.by s6 1)
              have hb7 := hb6.trans (hm7.low hlow (by have := R6.lt; omega))
              have hen7 : (s6.adv 1).ents = s.ents := hen6
              generalize hg7 : s6.adv 1 = s7 at *
              clear hm7 h62 hg7
              have c2 : w7.cell? ⟨p, 2, none⟩ = some (.map (some m)) := blk_cell R7.blk 2
              have hlk := look_any R7.ents (by rw [hen7]; exact hN.u) hon (by omega)
              rw [hen7] at hlk
              have HR7 := hide R7
              have HD := hide hd
              clear hd R6 R7
              cases hk : (entX s.ents n).isSome
              · rw [hk] at hlk
                have HEQ : Hid (s.entity = some { s7 with ents := s.ents ++ [(n, t)] }) := hide (by rw [unhide HD, hk]; rfl)
                have hbA : Below w7.heap.size w7 (w7.alloc (.cells #[.string (T (entTxt s.ents n))] 120 (0, 0))) := (Below.refl _ _).alloc (Nat.le_refl _) _
                have R8 := (unhide HR7).on hbA
                have d2 := keptC hbA c2
                have HKY : Hid (keyOf Tryz.prog 9 (.string (T n)) = some (.string (tx n))) := hide (by rw [← T_data]; exact Go.WideMaps.keyOf_string_mk Tryz.underlying9 (by unfold maxLen; omega : (T n).size ≤ maxLen))
                have HPE : Hid (entElem (.agg #[.string (T t)]) = some (.agg [.lit (.string (tx t))], [])) := hide (by show some (DataW.agg [DataW.lit (Lit.string (T t).data.toList)], []) = _; rw [T_data])
                have HM : Hid ((w7.alloc (.cells #[.string (T (entTxt s.ents n))] 120 (0, 0))).ownsMap Tryz.prog 9 entElem m s.ents.length (entsD s.ents)) := hide (by have := R8.ents.2.2; rw [hen7] at this; exact this)
                have hlen : s.ents.length < maxLen := by unfold maxLen; omega
                have HR8 := hide R8
                have hb8 := hb7.trans (hbA.mono (by have := (unhide HR7).lt; omega))
                clear HD hk R8
                go_wp2_with (at_mapUpdate; refine wpList_mapUpdate_own _ rfl _ _ _ 53 rfl 9 120 (Maps.string_keyed Tryz.underlying9) Tryz.underlying53 entElem m s.ents.length (entsD s.ents) rfl (unhide HM) hlen _ _ (.string (tx n)) rfl rfl (unhide HKY) (.agg [.lit (.string (tx t))]) [] (unhide HPE) ?_; intro w9 hown9 hgrow9)
                have hR9 := (unhide HR8).declared hon hot hgrow9 (by rw [hen7]; exact hown9)
                rw [hen7] at hR9
                have hb9 : Below B w w9 := hb8.grown hgrow9 (by have := (unhide HR8).lt; omega) (fun k hk => by cases hk; exact (unhide HR8).ents.1)
                go_ret
                rw [unhide HEQ]
                exact ⟨hb9, rfl, hR9⟩
              · rw [hk] at hlk
                have HEQ : Hid (s.entity = some s7) := hide (by rw [unhide HD, hk]; rfl)
                clear HD hk
                go_wp2
                go_ret
                rw [unhide HEQ]
                exact ⟨hb7.trans ((Below.refl _ _).alloc (by have := (unhide HR7).lt; omega) _), rfl, (unhide HR7).on ((Below.refl _ _).alloc (Nat.le_refl _) _)⟩
end Go.Proofs.YtkklapoceknbcaaGreatDoor
