/- References by numbers: xmlscan's readNumber and ofTheFive. -/
import Derived.Test.YtefjfjieoiegnaaGreatDoorGan
namespace Go.Proofs.YtefjfjieoiegnaaGreatDoor
open Go.RowKit
/-- What a character is among the digits of base 16, small letters alone. -/
def hexI (c : Nat) : Int := if 48 ≤ c ∧ c ≤ 57 then (c : Int) - 48 else if 97 ≤ c ∧ c ≤ 102 then (c : Int) - 87 else -1
theorem hex_table : ∀ c, c < 128 → Lib.indexByte [48, 49, 50, 51, 52, 53, 54, 55, 56, 57, 97, 98, 99, 100, 101, 102] (UInt8.ofNat c) = hexI c := by decide +kernel
theorem indexHex_any (c : Nat) (hc : charR (c : Int) = true) (w : World) :
    Calls Tryz.prog 186 #[.string ⟨#[48, 49, 50, 51, 52, 53, 54, 55, 56, 57, 97, 98, 99, 100, 101, 102]⟩, .int .i32 (c : Int)] w fun e w' => e = .returned (.int .i64 (hexI c)) ∧ Below w.heap.size w w' := by
  by_cases h : c < 128
  · refine (Tryz.strings_IndexRune_ascii _ (c : Int) w (by omega) (by omega)).mono ?_
    rintro e w' ⟨rfl, rfl⟩
    refine ⟨ret_int ?_, Below.refl _ _⟩
    rw [← hex_table c h]
    rfl
  · rw [show (⟨#[48, 49, 50, 51, 52, 53, 54, 55, 56, 57, 97, 98, 99, 100, 101, 102]⟩ : ByteArray) = T [48, 49, 50, 51, 52, 53, 54, 55, 56, 57, 97, 98, 99, 100, 101, 102] from by decide +kernel]
    refine (indexRune_high _ (by unfold okL; decide +kernel) (by decide) (by decide) c (charR_ok hc) (by omega) w).mono ?_
    rintro e w' ⟨rfl, hb⟩
    refine ⟨ret_int ?_, hb⟩
    unfold hexI
    rw [if_neg (by omega), if_neg (by omega)]
/-- A reference as a value. -/
def refV (l : List Nat) (o : Option Ref) : Value := match o with
  | some r => .agg #[.string (T r.said), .string (T r.name), .int .i64 ((T (l.take r.size)).size : Nat)]
  | none => .agg #[.string ⟨#[]⟩, .string ⟨#[]⟩, .int .i64 0]
/-- A reference's number as a value; ahead: how many bytes stand ahead of the digits. -/
def numV (ahead : Nat) (o : Option (Nat × Nat)) : Value := match o with
  | some x => .agg #[.string (T [x.1]), .string ⟨#[]⟩, .int .i64 ((ahead + x.2 : Nat) : Int)]
  | none => .agg #[.string ⟨#[]⟩, .string ⟨#[]⟩, .int .i64 0]
structure RefAt (w : World) (b : Nat) (x y : ByteArray) (n : Int) : Prop where
  c0 : w.cell? ⟨b, 0, none⟩ = some (.string x)
  c1 : w.cell? ⟨b, 1, none⟩ = some (.string y)
  c2 : w.cell? ⟨b, 2, none⟩ = some (.int .i64 n)
  o0 : w.frozen? ⟨b, 0, none⟩ = false
  o1 : w.frozen? ⟨b, 1, none⟩ = false
  o2 : w.frozen? ⟨b, 2, none⟩ = false
theorem RefAt.below {w w' : World} {b : Nat} {x y : ByteArray} {n : Int} (h : RefAt w b x y n) (hb : Below w.heap.size w w') : RefAt w' b x y n :=
  ⟨keptC hb h.c0, keptC hb h.c1, keptC hb h.c2, keptO hb h.c0 h.o0, keptO hb h.c1 h.o1, keptO hb h.c2 h.o2⟩
theorem RefAt.new (w : World) (x y : ByteArray) (n : Int) (t : TypeId) : RefAt (w.alloc (.cells #[.string x, .string y, .int .i64 n] t)) w.heap.size x y n := by
  refine ⟨?_, ?_, ?_, ?_, ?_, ?_⟩
  all_goals simp [go_sem]
theorem RefAt.iterAt {w : World} {b : Nat} {x y : ByteArray} {n : Int} (h : RefAt w b x y n) {k : Nat} (hk : b ≠ k) (s : ByteArray) (pos : Nat) : RefAt (w.iterAt k s pos) b x y n := by
  have e := Lib.iterAt_other w k b s pos hk
  obtain ⟨c0, c1, c2, o0, o1, o2⟩ := h
  refine ⟨?_, ?_, ?_, ?_, ?_, ?_⟩
  all_goals (first | (unfold World.cell? at *; rw [e]; assumption) | (unfold World.frozen? at *; rw [e]; assumption))
theorem asc_len {p : List Nat} (h : ∀ x ∈ p, x < 128) : (tx p).length = p.length := by rw [sign_len_tx h, List.length_map]
theorem digit_hex {c : Nat} : (digitX c = none → hexI c = -1 ∧ ¬ (65 ≤ c ∧ c ≤ 70)) ∧ ∀ d, digitX c = some d → c < 128 ∧ d < 16 ∧ ((hexI c = (d : Int) ∧ ¬ (65 ≤ c ∧ c ≤ 70)) ∨ (65 ≤ c ∧ c ≤ 70 ∧ d = c - 55)) := by
  unfold digitX hexI
  refine ⟨fun h => ?_, fun d h => ?_⟩
  · split at h
    · cases h
    · split at h
      · cases h
      · split at h
        · cases h
        · rename_i h1 h2 h3
          exact ⟨by rw [if_neg h1, if_neg h2], h3⟩
  · split at h
    · rename_i h1
      cases h
      exact ⟨by omega, by omega, .inl ⟨by rw [if_pos h1]; omega, by omega⟩⟩
    · split at h
      · rename_i h1 h2
        cases h
        exact ⟨by omega, by omega, .inl ⟨by rw [if_neg h1, if_pos h2]; omega, by omega⟩⟩
      · split at h
        · rename_i h3
          cases h
          exact ⟨by omega, by omega, .inr ⟨h3.1, h3.2, rfl⟩⟩
        · cases h
theorem numX_cons (base n k c : Nat) (t : List Nat) : numX base n k (c :: t) = if c = 59 ∧ charR (n : Int) = true then some (n, k + 1) else
    match digitX c with
    | none => none
    | some d => if base ≤ d then none else numX base (min (n * base + d) 1114112) (k + 1) t := rfl
theorem ret_num {a : Nat} {o p : Option (Nat × Nat)} {v : Value} (h : o = p) (hv : v = numV a p) : Ending.returned v = .returned (numV a o) := by rw [h, hv]
set_option maxRecDepth 100000 in
set_option maxHeartbeats 4000000 in
theorem readNumber_any (l : List Nat) (base ah : Nat) (w : World) (hl : okL l) (hs : (T l).size ≤ 32768) (hbs : base ≤ 16) (hah : ah ≤ 3) :
    Calls Tryz.prog 163 #[.string (T l), .int .i64 (base : Nat), .int .i64 (ah : Nat)] w fun e w' => e = .returned (numV ah (numX base 0 0 l)) ∧ Below w.heap.size w w' := by
  go_enter Tryz.func163, Tryz.ntmps163
  go_wp2_with fail
  go_loopw [7] (fun v wr => ∃ (p t : List Nat) (n : Nat), l = p ++ t ∧ v = .int .i64 (n : Nat) ∧ (∀ x ∈ p, x < 128) ∧ numX base 0 0 l = numX base n p.length t ∧ n ≤ 1114112 ∧ wr.heap[w.heap.size + 1]? = some (.stringIter (T l) (tx p).length) ∧ RefAt wr w.heap.size ⟨#[]⟩ ⟨#[]⟩ 0 ∧ Below w.heap.size w wr) (fun _ wr => (T l).size - wr.iterPos (w.heap.size + 1))
  case atStart =>
    refine ⟨[], l, 0, rfl, rfl, (fun _ h => by cases h), rfl, by omega, ?_, ?_, ?_⟩
    · have := World.iter_heap (w.alloc (.cells #[.string ⟨#[]⟩, .string ⟨#[]⟩, .int .i64 0] 135)) (T l) 0
      simpa [tx_nil] using this
    · exact (RefAt.new w ⟨#[]⟩ ⟨#[]⟩ 0 135).below ((Below.refl _ _).alloc (Nat.le_refl _) _)
    · exact ((Below.refl _ _).alloc (Nat.le_refl _) _).alloc (by simp) _
  case round =>
    obtain ⟨p, t, n, hpt, rfl, hp, hN, hn, hk, hR, hbr⟩ := hrel
    have HR := hide hR
    obtain ⟨c0, c1, c2, o0, o1, o2⟩ := hR
    have hbl : w.heap.size < wr.heap.size := block_lt_of_cell c0
    cases t with
    | nil =>
      have hnx := fun ty => Lib.run_next_end_at (P := Tryz.prog) wr (w.heap.size + 1) (T l) (tx p).length ty hk (end_at hpt)
      have HN := hide hN
      clear hpt hN hk
      go_wp2
      refine bodyPost_ret (v := numV ah none) (by simp [results, Tryz.results163, go_sem, numV, c0, c1, c2]) rfl ?_
      exact ⟨ret_num ((unhide HN).trans rfl) rfl, ((hbr.setCell (Nat.le_refl _) _).setCell (Nat.le_refl _) _).setCell (Nat.le_refl _) _⟩
    | cons c t =>
      obtain ⟨hd, hlt, hc, hpos⟩ := dec_at hpt hl
      have hnx := fun ty => Lib.run_next_any_at (P := Tryz.prog) wr (w.heap.size + 1) (T l) (tx p).length ty hk hlt
      rw [hd] at hnx
      simp only at hnx
      have hpl := asc_len hp
      have HS := hide (tx_snoc p c)
      have HPT := hide hpt
      have HK := hide hk
      have hst := hN.trans (numX_cons base n p.length c t)
      have hpz : p.length ≤ 32768 := by omega
      rw [hpl] at hnx hlt HK HS
      have hcm : (c : Int) ≤ 1114111 := by
        have := charR_ok hc
        unfold okR at this
        omega
      have hRI := (unhide HR).iterAt (k := w.heap.size + 1) (by omega) (T l) (p.length + (runeB c).length)
      have HRI := hide hRI
      have hbI : Below w.heap.size w (wr.iterAt (w.heap.size + 1) (T l) (p.length + (runeB c).length)) := Lib.below_iterAt hbr (by omega) _ _
      have hszI : w.heap.size ≤ (wr.iterAt (w.heap.size + 1) (T l) (p.length + (runeB c).length)).heap.size := by rw [Lib.iterAt_size]; omega
      have HKI : Hid ((wr.iterAt (w.heap.size + 1) (T l) (p.length + (runeB c).length)).heap[w.heap.size + 1]? = some (.stringIter (T l) (p.length + (runeB c).length))) := hide (Lib.iterAt_heap wr _ _ _ _ (unhide HK))
      clear hd hpt hk hN hRI c0 c1 c2 o0 o1 o2
      have hdh := digit_hex (c := c)
      cases hdg : digitX c with
      | none =>
        obtain ⟨hx, hA⟩ := hdh.1 hdg
        rw [hdg] at hst
        have HX := hide hx
        clear hdh hdg hx
        by_cases h59 : c = 59 ∧ charR (n : Int) = true
        · rw [if_pos h59] at hst
          have HST := hide hst
          have hcr := conv_rune n (charR_ok h59.2)
          have hcb : charB (n : Int) = true := by rw [charB_eq _ (by omega)]; exact h59.2
          have hr32 : IntKind.i32.wrap (n : Int) = (n : Int) := by rw [IntKind.wrap_i32]; omega
          have hc59 := h59.1
          subst hc59
          clear hst h59 hA
          go_wp2_with (first
            | (go_at_call 186; refine (indexHex_any 59 hc _).mono ?_; rintro e w1 ⟨rfl, hb1⟩; rw [unhide HX]; have hR1 := (unhide HRI).below hb1; have c0' := hR1.c0; have c1' := hR1.c1; have c2' := hR1.c2; have o0' := hR1.o0; have o1' := hR1.o1; have o2' := hR1.o2; clear hR1)
            | (go_at_call 125; refine (isChar_any _ _).mono ?_; rintro e w2 ⟨rfl, rfl⟩; rw [hcb]))
          refine bodyPost_ret (v := numV ah (some (n, p.length + 1))) (by simp [results, Tryz.results163, go_sem, numV, c0', c1', c2']; omega) rfl ?_
          exact ⟨ret_num (unhide HST) rfl, (((hbI.trans (hb1.mono hszI)).setCell (Nat.le_refl _) _).setCell (Nat.le_refl _) _).setCell (Nat.le_refl _) _⟩
        · rw [if_neg h59] at hst
          have HST := hide hst
          clear hst
          by_cases hc59 : c = 59
          · subst hc59
            have hcb : charB (n : Int) = false := by
              rw [charB_eq _ (by omega)]
              cases hx : charR (n : Int)
              · rfl
              · exact absurd ⟨rfl, hx⟩ h59
            have hr32 : IntKind.i32.wrap (n : Int) = (n : Int) := by rw [IntKind.wrap_i32]; omega
            clear h59 hA
            go_wp2_with (first
              | (go_at_call 186; refine (indexHex_any 59 hc _).mono ?_; rintro e w1 ⟨rfl, hb1⟩; rw [unhide HX]; have hR1 := (unhide HRI).below hb1; have c0' := hR1.c0; have c1' := hR1.c1; have c2' := hR1.c2; have o0' := hR1.o0; have o1' := hR1.o1; have o2' := hR1.o2; clear hR1)
              | (go_at_call 125; refine (isChar_any _ _).mono ?_; rintro e w2 ⟨rfl, rfl⟩; rw [hcb]))
            refine bodyPost_ret (v := numV ah none) (by simp [results, Tryz.results163, go_sem, numV, c0', c1', c2']) rfl ?_
            exact ⟨ret_num (unhide HST) rfl, (((hbI.trans (hb1.mono hszI)).setCell (Nat.le_refl _) _).setCell (Nat.le_refl _) _).setCell (Nat.le_refl _) _⟩
          · have h2 : ((c : Int) == 59) = false := by simpa using (by omega : ¬ (c : Int) = 59)
            have hA' : ¬ (65 ≤ c ∧ c ≤ 70) := hA
            clear h59 hA hc59
            by_cases hlo : 65 ≤ c
            · have hhi : ¬ c ≤ 70 := fun h => hA' ⟨hlo, h⟩
              go_wp2_with (go_at_call 186; refine (indexHex_any c hc _).mono ?_; rintro e w1 ⟨rfl, hb1⟩; rw [unhide HX]; have hR1 := (unhide HRI).below hb1; have c0' := hR1.c0; have c1' := hR1.c1; have c2' := hR1.c2; have o0' := hR1.o0; have o1' := hR1.o1; have o2' := hR1.o2; clear hR1)
              refine bodyPost_ret (v := numV ah none) (by simp [results, Tryz.results163, go_sem, numV, c0', c1', c2']) rfl ?_
              exact ⟨ret_num (unhide HST) rfl, (((hbI.trans (hb1.mono hszI)).setCell (Nat.le_refl _) _).setCell (Nat.le_refl _) _).setCell (Nat.le_refl _) _⟩
            · go_wp2_with (go_at_call 186; refine (indexHex_any c hc _).mono ?_; rintro e w1 ⟨rfl, hb1⟩; rw [unhide HX]; have hR1 := (unhide HRI).below hb1; have c0' := hR1.c0; have c1' := hR1.c1; have c2' := hR1.c2; have o0' := hR1.o0; have o1' := hR1.o1; have o2' := hR1.o2; clear hR1)
              refine bodyPost_ret (v := numV ah none) (by simp [results, Tryz.results163, go_sem, numV, c0', c1', c2']) rfl ?_
              exact ⟨ret_num (unhide HST) rfl, (((hbI.trans (hb1.mono hszI)).setCell (Nat.le_refl _) _).setCell (Nat.le_refl _) _).setCell (Nat.le_refl _) _⟩
      | some d =>
        obtain ⟨hc128, hd16, hcase⟩ := hdh.2 d hdg
        rw [hdg, if_neg (by rintro ⟨rfl, _⟩; unfold digitX at hdg; simp at hdg)] at hst
        have hn59 : ((c : Int) == 59) = false := by
          have : c ≠ 59 := by rintro rfl; unfold digitX at hdg; simp at hdg
          simpa using (by omega : ¬ (c : Int) = 59)
        simp only at hst
        have HRC : Hid ((runeB c).length = 1) := hide (by rw [runeB_one hc128]; rfl)
        have hnb : n * base ≤ 17825792 := by
          have := Nat.mul_le_mul hn hbs
          omega
        have hmin : min (n * base + d) 1114112 ≤ 1114112 := Nat.min_le_right _ _
        clear hdh hdg
        have hnd : ¬ (d : Int) < 0 := by omega
        rcases hcase with ⟨hx, hA⟩ | ⟨hlo, hhi, hdd⟩
        · have HX := hide hx
          clear hx
          by_cases hbd : base ≤ d
          · rw [if_pos hbd] at hst
            have HST := hide hst
            clear hst
            by_cases hlo : 65 ≤ c
            · have hhi : ¬ c ≤ 70 := fun h => hA ⟨hlo, h⟩
              clear hA
              go_wp2_with (go_at_call 186; refine (indexHex_any c hc _).mono ?_; rintro e w1 ⟨rfl, hb1⟩; rw [unhide HX]; have hR1 := (unhide HRI).below hb1; have c0' := hR1.c0; have c1' := hR1.c1; have c2' := hR1.c2; have o0' := hR1.o0; have o1' := hR1.o1; have o2' := hR1.o2; clear hR1)
              refine bodyPost_ret (v := numV ah none) (by simp [results, Tryz.results163, go_sem, numV, c0', c1', c2']) rfl ?_
              exact ⟨ret_num (unhide HST) rfl, (((hbI.trans (hb1.mono hszI)).setCell (Nat.le_refl _) _).setCell (Nat.le_refl _) _).setCell (Nat.le_refl _) _⟩
            · clear hA
              go_wp2_with (go_at_call 186; refine (indexHex_any c hc _).mono ?_; rintro e w1 ⟨rfl, hb1⟩; rw [unhide HX]; have hR1 := (unhide HRI).below hb1; have c0' := hR1.c0; have c1' := hR1.c1; have c2' := hR1.c2; have o0' := hR1.o0; have o1' := hR1.o1; have o2' := hR1.o2; clear hR1)
              refine bodyPost_ret (v := numV ah none) (by simp [results, Tryz.results163, go_sem, numV, c0', c1', c2']) rfl ?_
              exact ⟨ret_num (unhide HST) rfl, (((hbI.trans (hb1.mono hszI)).setCell (Nat.le_refl _) _).setCell (Nat.le_refl _) _).setCell (Nat.le_refl _) _⟩
          · rw [if_neg hbd] at hst
            have HST := hide hst
            clear hst
            have hbd' : ¬ (base : Int) ≤ (d : Int) := by omega
            by_cases hlo : 65 ≤ c
            · have hhi : ¬ c ≤ 70 := fun h => hA ⟨hlo, h⟩
              clear hA
              go_wp2_with (go_at_call 186; refine (indexHex_any c hc _).mono ?_; rintro e w1 ⟨rfl, hb1⟩; rw [unhide HX]; have hR1 := (unhide HRI).below hb1; have c0' := hR1.c0; have c1' := hR1.c1; have c2' := hR1.c2; have o0' := hR1.o0; have o1' := hR1.o1; have o2' := hR1.o2; clear hR1)
              refine ⟨⟨p ++ [c], t, min (n * base + d) 1114112, by rw [unhide HPT]; simp, by go_num, ?_, by rw [unhide HST]; simp, hmin, ?_, (unhide HRI).below hb1, hbI.trans (hb1.mono hszI)⟩, ?_⟩
              · intro x hx
                rcases List.mem_append.1 hx with hx | hx
                · exact hp x hx
                · rw [List.mem_singleton.1 hx]; exact hc128
              · rw [unhide HS]
                exact block_below (unhide HKI) hb1
              · rw [iterPos_of (block_below (unhide HKI) hb1), iterPos_of (unhide HK), unhide HRC]
                omega
            · clear hA
              go_wp2_with (go_at_call 186; refine (indexHex_any c hc _).mono ?_; rintro e w1 ⟨rfl, hb1⟩; rw [unhide HX]; have hR1 := (unhide HRI).below hb1; have c0' := hR1.c0; have c1' := hR1.c1; have c2' := hR1.c2; have o0' := hR1.o0; have o1' := hR1.o1; have o2' := hR1.o2; clear hR1)
              refine ⟨⟨p ++ [c], t, min (n * base + d) 1114112, by rw [unhide HPT]; simp, by go_num, ?_, by rw [unhide HST]; simp, hmin, ?_, (unhide HRI).below hb1, hbI.trans (hb1.mono hszI)⟩, ?_⟩
              · intro x hx
                rcases List.mem_append.1 hx with hx | hx
                · exact hp x hx
                · rw [List.mem_singleton.1 hx]; exact hc128
              · rw [unhide HS]
                exact block_below (unhide HKI) hb1
              · rw [iterPos_of (block_below (unhide HKI) hb1), iterPos_of (unhide HK), unhide HRC]
                omega
        · have hxc : hexI c = -1 := by unfold hexI; rw [if_neg (by omega), if_neg (by omega)]
          have HX := hide hxc
          have hdc : (d : Int) = (c : Int) - 55 := by omega
          have hr32 : IntKind.i32.wrap ((c : Int) - 65) = (c : Int) - 65 := by rw [IntKind.wrap_i32]; omega
          have HDC := hide hdc
          clear hxc hdc
          by_cases hbd : base ≤ d
          · rw [if_pos hbd] at hst
            have HST := hide hst
            have hbd' : (base : Int) ≤ (c : Int) - 65 + 10 := by have := unhide HDC; omega
            clear hst
            go_wp2_with (go_at_call 186; refine (indexHex_any c hc _).mono ?_; rintro e w1 ⟨rfl, hb1⟩; rw [unhide HX]; have hR1 := (unhide HRI).below hb1; have c0' := hR1.c0; have c1' := hR1.c1; have c2' := hR1.c2; have o0' := hR1.o0; have o1' := hR1.o1; have o2' := hR1.o2; clear hR1)
            refine bodyPost_ret (v := numV ah none) (by simp [results, Tryz.results163, go_sem, numV, c0', c1', c2']) rfl ?_
            exact ⟨ret_num (unhide HST) rfl, (((hbI.trans (hb1.mono hszI)).setCell (Nat.le_refl _) _).setCell (Nat.le_refl _) _).setCell (Nat.le_refl _) _⟩
          · rw [if_neg hbd] at hst
            have HST := hide hst
            have hbd' : ¬ (base : Int) ≤ (c : Int) - 65 + 10 := by have := unhide HDC; omega
            clear hst
            go_wp2_with (go_at_call 186; refine (indexHex_any c hc _).mono ?_; rintro e w1 ⟨rfl, hb1⟩; rw [unhide HX]; have hR1 := (unhide HRI).below hb1; have c0' := hR1.c0; have c1' := hR1.c1; have c2' := hR1.c2; have o0' := hR1.o0; have o1' := hR1.o1; have o2' := hR1.o2; clear hR1)
            refine ⟨⟨p ++ [c], t, min (n * base + d) 1114112, by rw [unhide HPT]; simp, by go_num, ?_, by rw [unhide HST]; simp, hmin, ?_, (unhide HRI).below hb1, hbI.trans (hb1.mono hszI)⟩, ?_⟩
            · intro x hx
              rcases List.mem_append.1 hx with hx | hx
              · exact hp x hx
              · rw [List.mem_singleton.1 hx]; exact hc128
            · rw [unhide HS]
              exact block_below (unhide HKI) hb1
            · rw [iterPos_of (block_below (unhide HKI) hb1), iterPos_of (unhide HK), unhide HRC]
              omega
end Go.Proofs.YtefjfjieoiegnaaGreatDoor
