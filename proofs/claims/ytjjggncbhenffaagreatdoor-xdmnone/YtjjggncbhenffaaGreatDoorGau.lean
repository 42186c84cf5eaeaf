/- Several texts, laid as one. -/
import Derived.Test.YtjjggncbhenffaaGreatDoorGat
/- References by numbers: xmlscan's readNumber and ofTheFive. -/
namespace Go.Proofs.YtjjggncbhenffaaGreatDoor
open Go.RowKit
/-- What a character is among the digits of base 16, small letters alone. -/
def hexI (c : Nat) : Int := if 48 ≤ c ∧ c ≤ 57 then (c : Int) - 48 else if 97 ≤ c ∧ c ≤ 102 then (c : Int) - 87 else -1
theorem hex_table : ∀ c, c < 128 → Lib.indexByte [48, 49, 50, 51, 52, 53, 54, 55, 56, 57, 97, 98, 99, 100, 101, 102] (UInt8.ofNat c) = hexI c := by decide +kernel
theorem indexHex_any (c : Nat) (hc : charR (c : Int) = true) (w : World) :
    Calls Tryz.prog 238 #[.string ⟨#[48, 49, 50, 51, 52, 53, 54, 55, 56, 57, 97, 98, 99, 100, 101, 102]⟩, .int .i32 (c : Int)] w fun e w' => e = .returned (.int .i64 (hexI c)) ∧ Below w.heap.size w w' := by
  by_cases h : c < 128
  · refine (Tryz.strings_IndexRune_ascii _ (c : Int) w (by omega) (by omega)).mono ?_
    rintro e w' ⟨rfl, rfl⟩
    refine ⟨ret_int ?_, Below.refl _ _⟩
    rw [← hex_table c h]
    rfl
  · rw [show (⟨#[48, 49, 50, 51, 52, 53, 54, 55, 56, 57, 97, 98, 99, 100, 101, 102]⟩ : ByteArray) = T [48, 49, 50, 51, 52, 53, 54, 55, 56, 57, 97, 98, 99, 100, 101, 102] from by decide +kernel]
    refine (indexRune_high _ (by unfold okL; decide +kernel) (by decide) (by decide) c (charR_ok hc) (by omega) w).mono ?_
    rintro e w' ⟨rfl, hb⟩
    refine ⟨ret_int ?_, hb⟩
    unfold hexI
    rw [if_neg (by omega), if_neg (by omega)]
/-- A reference as a value. -/
def refV (l : List Nat) (o : Option Ref) : Value := match o with
  | some r => .agg #[.string (T r.said), .string (T r.name), .int .i64 ((T (l.take r.size)).size : Nat)]
  | none => .agg #[.string ⟨#[]⟩, .string ⟨#[]⟩, .int .i64 0]
/-- A reference's number as a value; ahead: how many bytes stand ahead of the digits. -/
def numV (ahead : Nat) (o : Option (Nat × Nat)) : Value := match o with
  | some x => .agg #[.string (T [x.1]), .string ⟨#[]⟩, .int .i64 ((ahead + x.2 : Nat) : Int)]
  | none => .agg #[.string ⟨#[]⟩, .string ⟨#[]⟩, .int .i64 0]
structure RefAt (w : World) (b : Nat) (x y : ByteArray) (n : Int) : Prop where
  c0 : w.cell? ⟨b, 0, none⟩ = some (.string x)
  c1 : w.cell? ⟨b, 1, none⟩ = some (.string y)
  c2 : w.cell? ⟨b, 2, none⟩ = some (.int .i64 n)
  o0 : w.frozen? ⟨b, 0, none⟩ = false
  o1 : w.frozen? ⟨b, 1, none⟩ = false
  o2 : w.frozen? ⟨b, 2, none⟩ = false
theorem RefAt.below {w w' : World} {b : Nat} {x y : ByteArray} {n : Int} (h : RefAt w b x y n) (hb : Below w.heap.size w w') : RefAt w' b x y n :=
  ⟨keptC hb h.c0, keptC hb h.c1, keptC hb h.c2, keptO hb h.c0 h.o0, keptO hb h.c1 h.o1, keptO hb h.c2 h.o2⟩
theorem RefAt.new (w : World) (x y : ByteArray) (n : Int) (t : TypeId) : RefAt (w.alloc (.cells #[.string x, .string y, .int .i64 n] t)) w.heap.size x y n := by
  refine ⟨?_, ?_, ?_, ?_, ?_, ?_⟩
  all_goals simp [go_sem]
theorem RefAt.iterAt {w : World} {b : Nat} {x y : ByteArray} {n : Int} (h : RefAt w b x y n) {k : Nat} (hk : b ≠ k) (s : ByteArray) (pos : Nat) : RefAt (w.iterAt k s pos) b x y n := by
  have e := Lib.iterAt_other w k b s pos hk
  obtain ⟨c0, c1, c2, o0, o1, o2⟩ := h
  refine ⟨?_, ?_, ?_, ?_, ?_, ?_⟩
  all_goals (first | (unfold World.cell? at *; rw [e]; assumption) | (unfold World.frozen? at *; rw [e]; assumption))
theorem asc_len {p : List Nat} (h : ∀ x ∈ p, x < 128) : (tx p).length = p.length := by rw [sign_len_tx h, List.length_map]
theorem digit_hex {c : Nat} : (digitX c = none → hexI c = -1 ∧ ¬ (65 ≤ c ∧ c ≤ 70)) ∧ ∀ d, digitX c = some d → c < 128 ∧ d < 16 ∧ ((hexI c = (d : Int) ∧ ¬ (65 ≤ c ∧ c ≤ 70)) ∨ (65 ≤ c ∧ c ≤ 70 ∧ d = c - 55)) := by
  unfold digitX hexI
  refine ⟨fun h => ?_, fun d h => ?_⟩
  · split at h
    · cases h
    · split at h
      · cases h
      · split at h
        · cases h
        · rename_i h1 h2 h3
          exact ⟨by rw [if_neg h1, if_neg h2], h3⟩
  · split at h
    · rename_i h1
      cases h
      exact ⟨by omega, by omega, .inl ⟨by rw [if_pos h1]; omega, by omega⟩⟩
    · split at h
      · rename_i h1 h2
        cases h
        exact ⟨by omega, by omega, .inl ⟨by rw [if_neg h1, if_pos h2]; omega, by omega⟩⟩
      · split at h
        · rename_i h3
          cases h
          exact ⟨by omega, by omega, .inr ⟨h3.1, h3.2, rfl⟩⟩
        · cases h
theorem numX_cons (base n k c : Nat) (t : List Nat) : numX base n k (c :: t) = if c = 59 ∧ charR (n : Int) = true then some (n, k + 1) else
    match digitX c with
    | none => none
    | some d => if base ≤ d then none else numX base (min (n * base + d) 1114112) (k + 1) t := rfl
theorem ret_num {a : Nat} {o p : Option (Nat × Nat)} {v : Value} (h : o = p) (hv : v = numV a p) : Ending.returned v = .returned (numV a o) := by rw [h, hv]
set_option maxRecDepth 100000 in
set_option maxHeartbeats 4000000 in
theorem readNumber_any (l : List Nat) (base ah : Nat) (w : World) (hl : okL l) (hs : (T l).size ≤ 32768) (hbs : base ≤ 16) (hah : ah ≤ 3) :
    Calls Tryz.prog 220 #[.string (T l), .int .i64 (base : Nat), .int .i64 (ah : Nat)] w fun e w' => e = .returned (numV ah (numX base 0 0 l)) ∧ Below w.heap.size w w' := by
  go_enter Tryz.func220, Tryz.ntmps220
  go_wp2_with fail
  go_loopw [7] (fun v wr => ∃ (p t : List Nat) (n : Nat), l = p ++ t ∧ v = .int .i64 (n : Nat) ∧ (∀ x ∈ p, x < 128) ∧ numX base 0 0 l = numX base n p.length t ∧ n ≤ 1114112 ∧ wr.heap[w.heap.size + 1]? = some (.stringIter (T l) (tx p).length) ∧ RefAt wr w.heap.size ⟨#[]⟩ ⟨#[]⟩ 0 ∧ Below w.heap.size w wr) (fun _ wr => (T l).size - wr.iterPos (w.heap.size + 1))
  case atStart =>
    refine ⟨[], l, 0, rfl, rfl, (fun _ h => by cases h), rfl, by omega, ?_, ?_, ?_⟩
    · have := World.iter_heap (w.alloc (.cells #[.string ⟨#[]⟩, .string ⟨#[]⟩, .int .i64 0] 203)) (T l) 0
      simpa [tx_nil] using this
    · exact (RefAt.new w ⟨#[]⟩ ⟨#[]⟩ 0 203).below ((Below.refl _ _).alloc (Nat.le_refl _) _)
    · exact ((Below.refl _ _).alloc (Nat.le_refl _) _).alloc (by simp) _
  case round =>
    obtain ⟨p, t, n, hpt, rfl, hp, hN, hn, hk, hR, hbr⟩ := hrel
    have HR := hide hR
    obtain ⟨c0, c1, c2, o0, o1, o2⟩ := hR
    have hbl : w.heap.size < wr.heap.size := block_lt_of_cell c0
    cases t with
    | nil =>
      have hnx := fun ty => Lib.run_next_end_at (P := Tryz.prog) wr (w.heap.size + 1) (T l) (tx p).length ty hk (end_at hpt)
      have HN := hide hN
      clear hpt hN hk
      go_wp2
      refine bodyPost_ret (v := numV ah none) (by simp [results, Tryz.results220, go_sem, numV, c0, c1, c2]) rfl ?_
      exact ⟨ret_num ((unhide HN).trans rfl) rfl, ((hbr.setCell (Nat.le_refl _) _).setCell (Nat.le_refl _) _).setCell (Nat.le_refl _) _⟩
    | cons c t =>
      obtain ⟨hd, hlt, hc, hpos⟩ := dec_at hpt hl
      have hnx := fun ty => Lib.run_next_any_at (P := Tryz.prog) wr (w.heap.size + 1) (T l) (tx p).length ty hk hlt
      rw [hd] at hnx
      simp only at hnx
      have hpl := asc_len hp
      have HS := hide (tx_snoc p c)
      have HPT := hide hpt
      have HK := hide hk
      have hst := hN.trans (numX_cons base n p.length c t)
      have hpz : p.length ≤ 32768 := by omega
      rw [hpl] at hnx hlt HK HS
      have hcm : (c : Int) ≤ 1114111 := by
        have := charR_ok hc
        unfold okR at this
        omega
      have hRI := (unhide HR).iterAt (k := w.heap.size + 1) (by omega) (T l) (p.length + (runeB c).length)
      have HRI := hide hRI
      have hbI : Below w.heap.size w (wr.iterAt (w.heap.size + 1) (T l) (p.length + (runeB c).length)) := Lib.below_iterAt hbr (by omega) _ _
      have hszI : w.heap.size ≤ (wr.iterAt (w.heap.size + 1) (T l) (p.length + (runeB c).length)).heap.size := by rw [Lib.iterAt_size]; omega
      have HKI : Hid ((wr.iterAt (w.heap.size + 1) (T l) (p.length + (runeB c).length)).heap[w.heap.size + 1]? = some (.stringIter (T l) (p.length + (runeB c).length))) := hide (Lib.iterAt_heap wr _ _ _ _ (unhide HK))
      clear hd hpt hk hN hRI c0 c1 c2 o0 o1 o2
      have hdh := digit_hex (c := c)
      cases hdg : digitX c with
      | none =>
        obtain ⟨hx, hA⟩ := hdh.1 hdg
        rw [hdg] at hst
        have HX := hide hx
        clear hdh hdg hx
        by_cases h59 : c = 59 ∧ charR (n : Int) = true
        · rw [if_pos h59] at hst
          have HST := hide hst
          have hcr := conv_rune n (charR_ok h59.2)
          have hcb : charB (n : Int) = true := by rw [charB_eq _ (by omega)]; exact h59.2
          have hr32 : IntKind.i32.wrap (n : Int) = (n : Int) := by rw [IntKind.wrap_i32]; omega
          have hc59 := h59.1
          subst hc59
          clear hst h59 hA
          go_wp2_with (first
            | (go_at_call 238; refine (indexHex_any 59 hc _).mono ?_; rintro e w1 ⟨rfl, hb1⟩; rw [unhide HX]; have hR1 := (unhide HRI).below hb1; have c0' := hR1.c0; have c1' := hR1.c1; have c2' := hR1.c2; have o0' := hR1.o0; have o1' := hR1.o1; have o2' := hR1.o2; clear hR1)
            | (go_at_call 186; refine (isChar_any _ _).mono ?_; rintro e w2 ⟨rfl, rfl⟩; rw [hcb]))
          refine bodyPost_ret (v := numV ah (some (n, p.length + 1))) (by simp [results, Tryz.results220, go_sem, numV, c0', c1', c2']; omega) rfl ?_
          exact ⟨ret_num (unhide HST) rfl, (((hbI.trans (hb1.mono hszI)).setCell (Nat.le_refl _) _).setCell (Nat.le_refl _) _).setCell (Nat.le_refl _) _⟩
        · rw [if_neg h59] at hst
          have HST := hide hst
          clear hst
          by_cases hc59 : c = 59
          · subst hc59
            have hcb : charB (n : Int) = false := by
              rw [charB_eq _ (by omega)]
              cases hx : charR (n : Int)
              · rfl
              · exact absurd ⟨rfl, hx⟩ h59
            have hr32 : IntKind.i32.wrap (n : Int) = (n : Int) := by rw [IntKind.wrap_i32]; omega
            clear h59 hA
            go_wp2_with (first
              | (go_at_call 238; refine (indexHex_any 59 hc _).mono ?_; rintro e w1 ⟨rfl, hb1⟩; rw [unhide HX]; have hR1 := (unhide HRI).below hb1; have c0' := hR1.c0; have c1' := hR1.c1; have c2' := hR1.c2; have o0' := hR1.o0; have o1' := hR1.o1; have o2' := hR1.o2; clear hR1)
              | (go_at_call 186; refine (isChar_any _ _).mono ?_; rintro e w2 ⟨rfl, rfl⟩; rw [hcb]))
            refine bodyPost_ret (v := numV ah none) (by simp [results, Tryz.results220, go_sem, numV, c0', c1', c2']) rfl ?_
            exact ⟨ret_num (unhide HST) rfl, (((hbI.trans (hb1.mono hszI)).setCell (Nat.le_refl _) _).setCell (Nat.le_refl _) _).setCell (Nat.le_refl _) _⟩
          · have h2 : ((c : Int) == 59) = false := by simpa using (by omega : ¬ (c : Int) = 59)
            have hA' : ¬ (65 ≤ c ∧ c ≤ 70) := hA
            clear h59 hA hc59
            by_cases hlo : 65 ≤ c
            · have hhi : ¬ c ≤ 70 := fun h => hA' ⟨hlo, h⟩
              go_wp2_with (go_at_call 238; refine (indexHex_any c hc _).mono ?_; rintro e w1 ⟨rfl, hb1⟩; rw [unhide HX]; have hR1 := (unhide HRI).below hb1; have c0' := hR1.c0; have c1' := hR1.c1; have c2' := hR1.c2; have o0' := hR1.o0; have o1' := hR1.o1; have o2' := hR1.o2; clear hR1)
              refine bodyPost_ret (v := numV ah none) (by simp [results, Tryz.results220, go_sem, numV, c0', c1', c2']) rfl ?_
              exact ⟨ret_num (unhide HST) rfl, (((hbI.trans (hb1.mono hszI)).setCell (Nat.le_refl _) _).setCell (Nat.le_refl _) _).setCell (Nat.le_refl _) _⟩
            · go_wp2_with (go_at_call 238; refine (indexHex_any c hc _).mono ?_; rintro e w1 ⟨rfl, hb1⟩; rw [unhide HX]; have hR1 := (unhide HRI).below hb1; have c0' := hR1.c0; have c1' := hR1.c1; have c2' := hR1.c2; have o0' := hR1.o0; have o1' := hR1.o1; have o2' := hR1.o2; clear hR1)
              refine bodyPost_ret (v := numV ah none) (by simp [results, Tryz.results220, go_sem, numV, c0', c1', c2']) rfl ?_
              exact ⟨ret_num (unhide HST) rfl, (((hbI.trans (hb1.mono hszI)).setCell (Nat.le_refl _) _).setCell (Nat.le_refl _) _).setCell (Nat.le_refl _) _⟩
      | some d =>
        obtain ⟨hc128, hd16, hcase⟩ := hdh.2 d hdg
        rw [hdg, if_neg (by rintro ⟨rfl, _⟩; unfold digitX at hdg; simp at hdg)] at hst
        have hn59 : ((c : Int) == 59) = false := by
          have : c ≠ 59 := by rintro rfl; unfold digitX at hdg; simp at hdg
          simpa using (by omega : ¬ (c : Int) = 59)
        simp only at hst
        have HRC : Hid ((runeB c).length = 1) := hide (by rw [runeB_one hc128]; rfl)
        have hnb : n * base ≤ 17825792 := by
          have := Nat.mul_le_mul hn hbs
          omega
        have hmin : min (n * base + d) 1114112 ≤ 1114112 := Nat.min_le_right _ _
        clear hdh hdg
        have hnd : ¬ (d : Int) < 0 := by omega
        rcases hcase with ⟨hx, hA⟩ | ⟨hlo, hhi, hdd⟩
        · have HX := hide hx
          clear hx
          by_cases hbd : base ≤ d
          · rw [if_pos hbd] at hst
            have HST := hide hst
            clear hst
            by_cases hlo : 65 ≤ c
            · have hhi : ¬ c ≤ 70 := fun h => hA ⟨hlo, h⟩
              clear hA
              go_wp2_with (go_at_call 238; refine (indexHex_any c hc _).mono ?_; rintro e w1 ⟨rfl, hb1⟩; rw [unhide HX]; have hR1 := (unhide HRI).below hb1; have c0' := hR1.c0; have c1' := hR1.c1; have c2' := hR1.c2; have o0' := hR1.o0; have o1' := hR1.o1; have o2' := hR1.o2; clear hR1)
              refine bodyPost_ret (v := numV ah none) (by simp [results, Tryz.results220, go_sem, numV, c0', c1', c2']) rfl ?_
              exact ⟨ret_num (unhide HST) rfl, (((hbI.trans (hb1.mono hszI)).setCell (Nat.le_refl _) _).setCell (Nat.le_refl _) _).setCell (Nat.le_refl _) _⟩
            · clear hA
              go_wp2_with (go_at_call 238; refine (indexHex_any c hc _).mono ?_; rintro e w1 ⟨rfl, hb1⟩; rw [unhide HX]; have hR1 := (unhide HRI).below hb1; have c0' := hR1.c0; have c1' := hR1.c1; have c2' := hR1.c2; have o0' := hR1.o0; have o1' := hR1.o1; have o2' := hR1.o2; clear hR1)
              refine bodyPost_ret (v := numV ah none) (by simp [results, Tryz.results220, go_sem, numV, c0', c1', c2']) rfl ?_
              exact ⟨ret_num (unhide HST) rfl, (((hbI.trans (hb1.mono hszI)).setCell (Nat.le_refl _) _).setCell (Nat.le_refl _) _).setCell (Nat.le_refl _) _⟩
          · rw [if_neg hbd] at hst
            have HST := hide hst
            clear hst
            have hbd' : ¬ (base : Int) ≤ (d : Int) := by omega
            by_cases hlo : 65 ≤ c
            · have hhi : ¬ c ≤ 70 := fun h => hA ⟨hlo, h⟩
              clear hA
              go_wp2_with (go_at_call 238; refine (indexHex_any c hc _).mono ?_; rintro e w1 ⟨rfl, hb1⟩; rw [unhide HX]; have hR1 := (unhide HRI).below hb1; have c0' := hR1.c0; have c1' := hR1.c1; have c2' := hR1.c2; have o0' := hR1.o0; have o1' := hR1.o1; have o2' := hR1.o2; clear hR1)
              refine ⟨⟨p ++ [c], t, min (n * base + d) 1114112, by rw [unhide HPT]; simp, by go_num, ?_, by rw [unhide HST]; simp, hmin, ?_, (unhide HRI).below hb1, hbI.trans (hb1.mono hszI)⟩, ?_⟩
              · intro x hx
                rcases List.mem_append.1 hx with hx | hx
                · exact hp x hx
                · rw [List.mem_singleton.1 hx]; exact hc128
              · rw [unhide HS]
                exact block_below (unhide HKI) hb1
              · rw [iterPos_of (block_below (unhide HKI) hb1), iterPos_of (unhide HK), unhide HRC]
                omega
            · clear hA
              go_wp2_with (go_at_call 238; refine (indexHex_any c hc _).mono ?_; rintro e w1 ⟨rfl, hb1⟩; rw [unhide HX]; have hR1 := (unhide HRI).below hb1; have c0' := hR1.c0; have c1' := hR1.c1; have c2' := hR1.c2; have o0' := hR1.o0; have o1' := hR1.o1; have o2' := hR1.o2; clear hR1)
              refine ⟨⟨p ++ [c], t, min (n * base + d) 1114112, by rw [unhide HPT]; simp, by go_num, ?_, by rw [unhide HST]; simp, hmin, ?_, (unhide HRI).below hb1, hbI.trans (hb1.mono hszI)⟩, ?_⟩
              · intro x hx
                rcases List.mem_append.1 hx with hx | hx
                · exact hp x hx
                · rw [List.mem_singleton.1 hx]; exact hc128
              · rw [unhide HS]
                exact block_below (unhide HKI) hb1
              · rw [iterPos_of (block_below (unhide HKI) hb1), iterPos_of (unhide HK), unhide HRC]
                omega
        · have hxc : hexI c = -1 := by unfold hexI; rw [if_neg (by omega), if_neg (by omega)]
          have HX := hide hxc
          have hdc : (d : Int) = (c : Int) - 55 := by omega
          have hr32 : IntKind.i32.wrap ((c : Int) - 65) = (c : Int) - 65 := by rw [IntKind.wrap_i32]; omega
          have HDC := hide hdc
          clear hxc hdc
          by_cases hbd : base ≤ d
          · rw [if_pos hbd] at hst
            have HST := hide hst
            have hbd' : (base : Int) ≤ (c : Int) - 65 + 10 := by have := unhide HDC; omega
            clear hst
            go_wp2_with (go_at_call 238; refine (indexHex_any c hc _).mono ?_; rintro e w1 ⟨rfl, hb1⟩; rw [unhide HX]; have hR1 := (unhide HRI).below hb1; have c0' := hR1.c0; have c1' := hR1.c1; have c2' := hR1.c2; have o0' := hR1.o0; have o1' := hR1.o1; have o2' := hR1.o2; clear hR1)
            refine bodyPost_ret (v := numV ah none) (by simp [results, Tryz.results220, go_sem, numV, c0', c1', c2']) rfl ?_
            exact ⟨ret_num (unhide HST) rfl, (((hbI.trans (hb1.mono hszI)).setCell (Nat.le_refl _) _).setCell (Nat.le_refl _) _).setCell (Nat.le_refl _) _⟩
          · rw [if_neg hbd] at hst
            have HST := hide hst
            have hbd' : ¬ (base : Int) ≤ (c : Int) - 65 + 10 := by have := unhide HDC; omega
            clear hst
            go_wp2_with (go_at_call 238; refine (indexHex_any c hc _).mono ?_; rintro e w1 ⟨rfl, hb1⟩; rw [unhide HX]; have hR1 := (unhide HRI).below hb1; have c0' := hR1.c0; have c1' := hR1.c1; have c2' := hR1.c2; have o0' := hR1.o0; have o1' := hR1.o1; have o2' := hR1.o2; clear hR1)
            refine ⟨⟨p ++ [c], t, min (n * base + d) 1114112, by rw [unhide HPT]; simp, by go_num, ?_, by rw [unhide HST]; simp, hmin, ?_, (unhide HRI).below hb1, hbI.trans (hb1.mono hszI)⟩, ?_⟩
            · intro x hx
              rcases List.mem_append.1 hx with hx | hx
              · exact hp x hx
              · rw [List.mem_singleton.1 hx]; exact hc128
            · rw [unhide HS]
              exact block_below (unhide HKI) hb1
            · rw [iterPos_of (block_below (unhide HKI) hb1), iterPos_of (unhide HK), unhide HRC]
              omega
end Go.Proofs.YtjjggncbhenffaaGreatDoor
/- References: xmlscan's ofTheFive and readReference. -/
namespace Go.Proofs.YtjjggncbhenffaaGreatDoor
open Go.RowKit
theorem five_T {l a : List Nat} {b : List UInt8} (hl : okL l) (ha : a.all (fun c => decide (32 ≤ c) && decide (c < 128)) = true) (hb : tx a = b) : ((T l).toList == b) = (l == a) := by
  rw [← hb]
  refine eq_T hl (fun c hc => ?_)
  have := List.all_eq_true.1 ha c hc
  simp at this
  simp [charR]
  omega
set_option maxHeartbeats 1000000 in
theorem ofTheFive_any (l : List Nat) (hl : okL l) (w : World) :
    Calls Tryz.prog 221 #[.string (T l)] w fun e w' => e = .returned (.string (T (five l))) ∧ w' = w := by
  have e1 := five_T (a := [108, 116]) (b := [108, 116]) hl (by decide) (by decide +kernel)
  have e2 := five_T (a := [103, 116]) (b := [103, 116]) hl (by decide) (by decide +kernel)
  have e3 := five_T (a := [97, 109, 112]) (b := [97, 109, 112]) hl (by decide) (by decide +kernel)
  have e4 := five_T (a := [97, 112, 111, 115]) (b := [97, 112, 111, 115]) hl (by decide) (by decide +kernel)
  have e5 := five_T (a := [113, 117, 111, 116]) (b := [113, 117, 111, 116]) hl (by decide) (by decide +kernel)
  have HD : Hid (five l = if l = [108, 116] then [60] else if l = [103, 116] then [62] else if l = [97, 109, 112] then [38] else if l = [97, 112, 111, 115] then [39] else if l = [113, 117, 111, 116] then [34] else []) := hide rfl
  by_cases h1 : l = [108, 116]
  · subst h1
    go_enter Tryz.func221, Tryz.ntmps221
    go_wp2
    go_ret
    exact ⟨rfl, rfl⟩
  · by_cases h2 : l = [103, 116]
    · subst h2
      go_enter Tryz.func221, Tryz.ntmps221
      go_wp2
      go_ret
      exact ⟨rfl, rfl⟩
    · by_cases h3 : l = [97, 109, 112]
      · subst h3
        go_enter Tryz.func221, Tryz.ntmps221
        go_wp2
        go_ret
        exact ⟨rfl, rfl⟩
      · by_cases h4 : l = [97, 112, 111, 115]
        · subst h4
          go_enter Tryz.func221, Tryz.ntmps221
          go_wp2
          go_ret
          exact ⟨rfl, rfl⟩
        · by_cases h5 : l = [113, 117, 111, 116]
          · subst h5
            go_enter Tryz.func221, Tryz.ntmps221
            go_wp2
            go_ret
            exact ⟨rfl, rfl⟩
          · have f1 : (l == [108, 116]) = false := by simpa using h1
            have f2 : (l == [103, 116]) = false := by simpa using h2
            have f3 : (l == [97, 109, 112]) = false := by simpa using h3
            have f4 : (l == [97, 112, 111, 115]) = false := by simpa using h4
            have f5 : (l == [113, 117, 111, 116]) = false := by simpa using h5
            rw [f1] at e1
            rw [f2] at e2
            rw [f3] at e3
            rw [f4] at e4
            rw [f5] at e5
            have HE : Hid (five l = []) := hide (by rw [unhide HD, if_neg h1, if_neg h2, if_neg h3, if_neg h4, if_neg h5])
            clear h1 h2 h3 h4 h5 f1 f2 f3 f4 f5
            go_enter Tryz.func221, Tryz.ntmps221
            go_wp2
            go_ret
            rw [unhide HE]
            exact ⟨rfl, rfl⟩
theorem cutPrefix_T (a : List Nat) (u : ByteArray) (hu : u.data.toList = a.map UInt8.ofNat) (ha : ∀ c ∈ a, c < 128) (l : List Nat) (hl : okL l) (w : World) :
    Calls Tryz.prog 113 #[.string (T l), .string u] w fun e w' => e = .returned (.tuple #[.string (T (if a.isPrefixOf l then l.drop a.length else l)), .bool (a.isPrefixOf l)]) ∧ w' = w := by
  refine (Tryz.strings_CutPrefix (T l) u w).mono ?_
  rintro e w' ⟨rfl, rfl⟩
  refine ⟨?_, rfl⟩
  have hp := pre_tx a l ha hl
  have ht : (⟨(Lib.trimPrefix (tx l) (a.map UInt8.ofNat)).toArray⟩ : ByteArray) = T (if a.isPrefixOf l then l.drop a.length else l) := by
    unfold Lib.trimPrefix
    rw [hp]
    by_cases h : a.isPrefixOf l = true
    · rw [if_pos h, if_pos h]
      obtain ⟨t, rfl⟩ := List.isPrefixOf_iff_prefix.1 h
      rw [List.drop_left, tx_append, sign_len_tx ha, List.drop_left]
      rfl
    · rw [if_neg h, if_neg h]
      rfl
  rw [T_data, hu, hp, ht]
theorem numX_take (base : Nat) : ∀ (t : List Nat) (n k0 m k : Nat), n ≤ 1114112 → numX base n k0 t = some (m, k) → k0 < k ∧ k - k0 ≤ t.length ∧ (∀ x ∈ t.take (k - k0), x < 128) ∧ charR (m : Int) = true
  | [], _, _, _, _, _, h => by cases h
  | c :: t, n, k0, m, k, hn, h => by
    rw [numX_cons] at h
    split at h
    · rename_i h1
      cases h
      refine ⟨by omega, by simp, ?_, h1.2⟩
      rw [show k0 + 1 - k0 = 1 by omega]
      intro x hx
      simp at hx
      rw [hx, h1.1]; omega
    · split at h
      · cases h
      · rename_i d hd
        split at h
        · cases h
        · obtain ⟨a1, a2, a3, a4⟩ := numX_take base t _ (k0 + 1) m k (Nat.min_le_right _ _) h
          refine ⟨by omega, by simp; omega, ?_, a4⟩
          rw [show k - k0 = (k - (k0 + 1)) + 1 by omega, List.take_succ_cons]
          intro x hx
          rcases List.mem_cons.1 hx with rfl | hx
          · exact (digit_hex.2 d hd).1
          · exact a3 x hx
theorem num_ref {a l : List Nat} (ha : ∀ c ∈ a, c < 128) (hp : a.isPrefixOf l = true) (base : Nat) (ah : Nat) (hah : ah = a.length) : numV ah (numX base 0 0 (l.drop a.length)) = refV l (readNum base ah (l.drop a.length)) := by
  unfold readNum
  cases h : numX base 0 0 (l.drop a.length) with
  | none => rfl
  | some mk =>
    obtain ⟨m, k⟩ := mk
    obtain ⟨a1, a2, a3, a4⟩ := numX_take base _ 0 0 m k (by omega) h
    rw [Nat.sub_zero] at a2 a3
    show Value.agg #[.string (T [m]), .string ⟨#[]⟩, .int .i64 ((ah + k : Nat) : Int)] = .agg #[.string (T [m]), .string (T []), .int .i64 ((T (l.take (ah + k))).size : Nat)]
    have e : l.take (ah + k) = a ++ (l.drop a.length).take k := by
      obtain ⟨t, rfl⟩ := List.isPrefixOf_iff_prefix.1 hp
      rw [List.drop_left, hah, List.take_length_add_append]
    have e2 : (T (l.take (ah + k))).size = ah + k := by
      rw [e, sz_app, T_size, T_size, asc_len ha, asc_len a3, List.length_take, hah]
      omega
    rw [e2]
    rfl
theorem ret_ref {l : List Nat} {o p : Option Ref} {v : Value} (h : o = p) (hv : v = refV l p) : Ending.returned v = .returned (refV l o) := by rw [h, hv]
theorem refV_form (l : List Nat) (o : Option Ref) : ∃ x y n, refV l o = .agg #[.string x, .string y, .int .i64 n] := by
  cases o with
  | none => exact ⟨_, _, _, rfl⟩
  | some r => exact ⟨_, _, _, rfl⟩
set_option maxRecDepth 100000 in
set_option maxHeartbeats 2000000 in
theorem readReference_any (l : List Nat) (w : World) (hl : okL l) (hs : (T l).size ≤ 32768) (hh : heads 38 l = true) :
    Calls Tryz.prog 199 #[.string (T l)] w fun e w' => e = .returned (refV l (readRef l)) ∧ Below w.heap.size w w' := by
  have hR0 := RefAt.new w ⟨#[]⟩ ⟨#[]⟩ 0 203
  have hb0 : Below w.heap.size w (w.alloc (.cells #[.string ⟨#[]⟩, .string ⟨#[]⟩, .int .i64 0] 203)) := (Below.refl _ _).alloc (Nat.le_refl _) _
  have HR0 := hide hR0
  have HB0 := hide hb0
  have HD : Hid (readRef l = if [38, 35, 120].isPrefixOf l then readNum 16 3 (l.drop 3) else if [38, 35].isPrefixOf l then readNum 10 2 (l.drop 2) else if !(nameA (l.drop 1)).isEmpty && heads 59 (l.drop ((nameA (l.drop 1)).length + 1)) then some ⟨five (nameA (l.drop 1)), nameA (l.drop 1), (nameA (l.drop 1)).length + 2⟩ else none) := hide rfl
  have hdz : ∀ k, (T (l.drop k)).size ≤ 32768 := fun k => by
    have := sz_app (l.take k) (l.drop k)
    rw [List.take_append_drop] at this
    omega
  have HC1 := hide (fun W => cutPrefix_T [38, 35, 120] ⟨#[38, 35, 120]⟩ rfl (by decide) l hl W)
  have HC2 := hide (fun W => cutPrefix_T [38, 35] ⟨#[38, 35]⟩ rfl (by decide) l hl W)
  clear hR0 hb0
  go_enter Tryz.func199, Tryz.ntmps199
  go_wp2_with fail
  refine (unhide HC1 _).mono ?_
  rintro e w1 ⟨rfl, rfl⟩
  cases h1 : [38, 35, 120].isPrefixOf l
  · rw [if_neg (by decide)]
    have hd := unhide HD
    rw [h1, if_neg (by decide)] at hd
    clear h1
    go_wp2_with fail
    refine (unhide HC2 _).mono ?_
    rintro e w1 ⟨rfl, rfl⟩
    cases h2 : [38, 35].isPrefixOf l
    · rw [if_neg (by decide)]
      rw [h2, if_neg (by decide)] at hd
      clear h2
      have hot := okL_drop hl 1
      have hl1 := heads_true hh
      have hsuf : (T l).extract 1 (T l).size = T (l.drop 1) := by
        have := T_suf [38] l.tail
        rw [show [38] ++ l.tail = l from hl1.symm] at this
        rw [List.drop_one]
        exact this
      have h1z : 1 ≤ (T l).size := by
        have : (T (38 :: l.tail)).size = 1 + (T l.tail).size := sz_cons (by decide) _
        rw [← hl1] at this
        omega
      have HSUF := hide hsuf
      have hlz : (T l).size = 1 + (T (l.drop 1)).size := by
        rw [List.drop_one]
        have : (T (38 :: l.tail)).size = 1 + (T l.tail).size := sz_cons (by decide) _
        rwa [← hl1] at this
      have hnz := size_pre (nameA_pre (l.drop 1))
      have hon := okL_pre hot (nameA_pre (l.drop 1))
      have hnp : 38 :: nameA (l.drop 1) <+: l := by
        have : 38 :: nameA l.tail <+: 38 :: l.tail := List.cons_prefix_cons.2 ⟨rfl, nameA_pre _⟩
        rw [← hl1] at this
        rw [List.drop_one]
        exact this
      have HSD := hide (suf_drop hnp)
      have HLZ : Hid (1 + (T (nameA (l.drop 1))).size ≤ (T l).size) := hide (by omega)
      have hod := okL_drop hl ((nameA (l.drop 1)).length + 1)
      have HNA := hide (fun W => xNameAhead_any (l.drop 1) W hot)
      have HTK : Hid (heads 59 (l.drop ((nameA (l.drop 1)).length + 1)) = true → (T (l.take ((nameA (l.drop 1)).length + 2))).size = (T (nameA (l.drop 1))).size + 2) := by
        refine hide fun h => ?_
        have e := heads_true h
        have h3 : l = (38 :: nameA (l.drop 1) ++ [59]) ++ (l.drop ((nameA (l.drop 1)).length + 1)).tail := by
          have h4 := pre_drop hnp
          rw [show (38 :: nameA (l.drop 1)).length = (nameA (l.drop 1)).length + 1 from rfl, e] at h4
          rw [List.append_assoc]
          exact h4.symm
        have h5 : l.take ((nameA (l.drop 1)).length + 2) = 38 :: nameA (l.drop 1) ++ [59] := by
          have h6 := List.take_left' (l₁ := 38 :: nameA (l.drop 1) ++ [59]) (l₂ := (l.drop ((nameA (l.drop 1)).length + 1)).tail) (i := (nameA (l.drop 1)).length + 2) (by simp)
          rwa [← h3] at h6
        rw [h5, List.cons_append, sz_cons (by decide), sz_app]
        have : (T [59]).size = 1 := rfl
        omega
      clear hsuf hl1 hnp hlz
      have hlz' : 1 + (T (nameA (l.drop 1))).size ≤ (T l).size := unhide HLZ
      generalize hgn : nameA (l.drop 1) = n at *
      clear hgn
      rw [show (38 :: n).length = n.length + 1 from rfl] at HSD
      generalize hgd : l.drop (n.length + 1) = d at *
      clear hgd
      have hsz1 : (T (38 :: n)).size = 1 + (T n).size := sz_cons (by decide) _
      rw [hsz1] at HSD
      clear hsz1
      go_wp2_with fail
      rw [unhide HSUF]
      refine (unhide HNA _).mono ?_
      rintro e w2 ⟨rfl, hb2⟩
      have hR2 := (unhide HR0).below hb2
      have HR2 := hide hR2
      obtain ⟨c0, c1, c2, o0, o1, o2⟩ := hR2
      have hbb2 := Below.then (unhide HB0) hb2
      by_cases hn : n = []
      · have e1 := nil_T hn
        have HEQ : Hid (readRef l = none) := hide (by rw [hd, hn]; rfl)
        clear hd hn
        go_wp2
        refine bodyPost_ret (v := refV l none) (by simp [results, Tryz.results199, go_sem, refV, c0, c1, c2]) rfl ?_
        exact ⟨ret_ref (unhide HEQ) rfl, ((hbb2.setCell (Nat.le_refl _) _).setCell (Nat.le_refl _) _).setCell (Nat.le_refl _) _⟩
      · have e1 := ne_T hon hn
        rw [empty_not hn, Bool.true_and] at hd
        have hHP := fun W => hasPrefix_T [59] ⟨#[59]⟩ rfl (by decide) d hod W
        have HHP := hide hHP
        clear hHP
        cases h59 : heads 59 d
        · rw [h59, if_neg (by decide)] at hd
          have HEQ := hide hd
          have H59 := hide h59
          clear hd h59 hn
          go_wp2_with (go_at_call 155; rw [unhide HSD]; refine (unhide HHP _).mono ?_; rintro e w3 ⟨rfl, rfl⟩; rw [isPre_one, unhide H59])
          refine bodyPost_ret (v := refV l none) (by simp [results, Tryz.results199, go_sem, refV, c0, c1, c2]) rfl ?_
          exact ⟨ret_ref (unhide HEQ) rfl, ((hbb2.setCell (Nat.le_refl _) _).setCell (Nat.le_refl _) _).setCell (Nat.le_refl _) _⟩
        · have htk := unhide HTK h59
          rw [h59, if_pos rfl] at hd
          have HEQ := hide hd
          have H59 := hide h59
          have HTKS := hide htk
          clear hd h59 hn htk
          go_wp2_with (first
            | (go_at_call 155; rw [unhide HSD]; refine (unhide HHP _).mono ?_; rintro e w3 ⟨rfl, rfl⟩; rw [isPre_one, unhide H59])
            | (go_at_call 221; refine (ofTheFive_any n hon _).mono ?_; rintro e w4 ⟨rfl, rfl⟩))
          refine bodyPost_ret (v := refV l (some ⟨five n, n, n.length + 2⟩)) (by simp [results, Tryz.results199, go_sem, refV, c0, c1, c2, unhide HTKS]; omega) rfl ?_
          exact ⟨ret_ref (unhide HEQ) rfl, ((hbb2.setCell (Nat.le_refl _) _).setCell (Nat.le_refl _) _).setCell (Nat.le_refl _) _⟩
    · rw [if_pos rfl]
      rw [h2, if_pos rfl] at hd
      have HEQ := hide hd
      have HNV : Hid (numV 2 (numX 10 0 0 (l.drop 2)) = refV l (readNum 10 2 (l.drop 2))) := hide (num_ref (a := [38, 35]) (l := l) (by decide) h2 10 2 rfl)
      have hod := okL_drop hl 2
      clear h2 hd
      go_wp2_with fail
      refine (readNumber_any (l.drop 2) 10 2 _ hod (hdz 2) (by omega) (by omega)).mono ?_
      rintro e w2 ⟨rfl, hb2⟩
      have hR2 := (unhide HR0).below hb2
      obtain ⟨c0, c1, c2, o0, o1, o2⟩ := hR2
      rw [show numV 2 (numX 10 0 0 (l.drop 2)) = _ from unhide HNV]
      obtain ⟨x, y, n, hf⟩ := refV_form l (readNum 10 2 (l.drop 2))
      have HF := hide hf
      rw [hf]
      clear hf
      go_wp2
      refine bodyPost_ret (v := .agg #[.string x, .string y, .int .i64 n]) (by simp [results, Tryz.results199, go_sem, c0, c1, c2]) rfl ?_
      exact ⟨by rw [unhide HEQ, unhide HF], (((Below.then (unhide HB0) hb2).setCell (Nat.le_refl _) _).setCell (Nat.le_refl _) _).setCell (Nat.le_refl _) _⟩
  · rw [if_pos rfl]
    have hd := unhide HD
    rw [h1, if_pos rfl] at hd
    have HEQ := hide hd
    have HNV : Hid (numV 3 (numX 16 0 0 (l.drop 3)) = refV l (readNum 16 3 (l.drop 3))) := hide (num_ref (a := [38, 35, 120]) (l := l) (by decide) h1 16 3 rfl)
    have hod := okL_drop hl 3
    clear h1 hd
    go_wp2_with fail
    refine (readNumber_any (l.drop 3) 16 3 _ hod (hdz 3) (by omega) (by omega)).mono ?_
    rintro e w2 ⟨rfl, hb2⟩
    have hR2 := (unhide HR0).below hb2
    obtain ⟨c0, c1, c2, o0, o1, o2⟩ := hR2
    rw [show numV 3 (numX 16 0 0 (l.drop 3)) = _ from unhide HNV]
    obtain ⟨x, y, n, hf⟩ := refV_form l (readNum 16 3 (l.drop 3))
    have HF := hide hf
    rw [hf]
    clear hf
    go_wp2
    refine bodyPost_ret (v := .agg #[.string x, .string y, .int .i64 n]) (by simp [results, Tryz.results199, go_sem, c0, c1, c2]) rfl ?_
    exact ⟨by rw [unhide HEQ, unhide HF], (((Below.then (unhide HB0) hb2).setCell (Nat.le_refl _) _).setCell (Nat.le_refl _) _).setCell (Nat.le_refl _) _⟩
end Go.Proofs.YtjjggncbhenffaaGreatDoor
/- What a reference comes to where no entity is declared: xmlscan's spend and add. -/
namespace Go.Proofs.YtjjggncbhenffaaGreatDoor
open Go.RowKit
theorem step_append_own_string {P : Program} {ops : Array Oper} {o : Oper} {a : Act} {w : World} {K : Act → World → Prop} {Q : Exit → Act → World → Prop} {E : Prop}
    (hg : o.guard = none) (sl x : Operand) (t u : TypeId) (hop : o.op = Op.call { callee := Callee.builtin Builtin.append, args := #[sl, x], argTypes := #[t, u] })
    (base : Nat) (e : TypeId) (i : TypeInfo) (ht : P.underlying t = some (.slice e)) (hu : P.underlying u = some .string) (hi : P.info? e = some i) (hz : i.zero = some (.int .u8 0)) (hsize : i.size = 1) (hby : i.bytes = 1)
    (v : Value) (n : Nat) (xs : List Value) (hs : a.eval sl = v) (hown : w.ownsRow base e 1 v n xs) (s : ByteArray) (hx : a.eval x = .string s)
    (h63 : n + s.size ≤ maxLen) (hbytes : n + s.size ≤ 140737488355328) (hb : base ≤ w.heap.size)
    (hK : ∀ v' w', w'.ownsRow base e 1 v' (n + s.size) (xs ++ Lib.strCells s) → w.grownBy w' v.ownBlock → K (a.put o.dst v') w') :
    if Region.wanted o (yielded ops a.tmps) = true then Oper.wp P o a w K Q else E := by
  have hw : Region.wanted o (yielded ops a.tmps) = true := by simp [Region.wanted, hg]
  rw [if_pos hw]
  obtain ⟨v', w', hrun, r1, r2, _⟩ := Lib.run_append_own_string (P := P) w base t u o.type e i ht hu hi hz hsize hby v n xs hown s h63 hbytes hb
  unfold Oper.wp
  simp [execOp, hop, resolve, invoke, builtin, hs, hx, hrun, Result.andThen]
  exact hK v' w' r1 r2
/-- An expansion's block. -/
def expArr (p : Nat) (flat : Bool) (vt vo : Value) : Array Value := #[.pointer (some ⟨p, 0, none⟩), .bool flat, vt, vo]
abbrev ExpAt (w : World) (q p : Nat) (flat : Bool) (vt vo : Value) : Prop := w.heap[q]? = some (.cells (expArr p flat vt vo) 206 (0, 0))
/-- Where an expansion's text was written, and all else stands. -/
structure Grew (q p : Nat) (vt : Value) (w w' : World) : Prop where
  os : w'.os = w.os
  tape : w'.tape = w.tape
  output : w'.output = w.output
  size : w.heap.size ≤ w'.heap.size
  block : ∀ k, k < w.heap.size → k ≠ q → vt.ownBlock ≠ some k → w'.heap[k]? = w.heap[k]?
theorem Grew.low {q p B : Nat} {vt : Value} {w w' : World} (h : Grew q p vt w w') (hB : B ≤ w.heap.size) (hq : B ≤ q) (hv : ∀ k, vt.ownBlock = some k → B ≤ k) : Below B w w' :=
  ⟨h.os, h.tape, h.output, h.size, fun k hk => h.block k (by omega) (by omega) (fun e => by have := hv k e; omega)⟩
end Go.Proofs.YtjjggncbhenffaaGreatDoor
