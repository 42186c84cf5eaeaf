/- Several texts, laid as one. -/
import Derived.Test.YtefjfjieoiegnaaGreatDoorGbb
import Derived.Test.YtefjfjieoiegnaaGreatDoorGaz
import Derived.Test.YtefjfjieoiegnaaGreatDoorGan
import Derived.Test.YtefjfjieoiegnaaGreatDoorGba
/- An encoding's name: xmlscan's isEncoding. -/
namespace Go.Proofs.YtefjfjieoiegnaaGreatDoor
open Go.RowKit
def signC (c : Nat) : Bool := digC c || (c == 46 || (c == 95 || c == 45))
def encP (l : List Nat) : Bool := match l with | [] => true | c :: t => letterC c && t.all encC
theorem encP_on {p : List Nat} {c : Nat} (h : encP p = true) (he : encC c = true) (hl : p = [] → letterC c = true) : encP (p ++ [c]) = true := by
  cases p with
  | nil => show (letterC c && true) = true; rw [hl rfl]; rfl
  | cons d t =>
    have h' : (letterC d && t.all encC) = true := h
    rw [Bool.and_eq_true] at h'
    show (letterC d && (t ++ [c]).all encC) = true
    rw [List.all_append, h'.1, h'.2]
    simp [he]
theorem encP_bad {l p t : List Nat} {c : Nat} (h : l = p ++ c :: t) (hp : p ≠ []) (h1 : letterC c = false) (h2 : signC c = false) : isEncoding l = false := by
  cases p with
  | nil => exact absurd rfl hp
  | cons d u =>
    rw [h]
    show (letterC d && (u ++ c :: t).all encC) = false
    have : encC c = false := by
      unfold encC
      rw [h1, show (digC c || (c == 46 || (c == 95 || c == 45))) = false from h2]
      rfl
    rw [List.all_append, List.all_cons, this, Bool.false_and, Bool.and_false, Bool.and_false]
theorem sign_enc : ∀ c, c < 128 → decide (0 ≤ Lib.indexByte [48, 49, 50, 51, 52, 53, 54, 55, 56, 57, 46, 95, 45] (UInt8.ofNat c)) = signC c := by decide +kernel
theorem encRune_any (c : Nat) (hc : charR (c : Int) = true) (w : World) :
    Calls Tryz.prog 156 #[.string ⟨#[48, 49, 50, 51, 52, 53, 54, 55, 56, 57, 46, 95, 45]⟩, .int .i32 (c : Int)] w fun e w' => e = .returned (.bool (signC c)) ∧ Below w.heap.size w w' := by
  by_cases h : c < 128
  · refine (Tryz.strings_ContainsRune_ascii _ (c : Int) w (by omega) (by omega)).mono ?_
    rintro e w' ⟨rfl, rfl⟩
    refine ⟨?_, Below.refl _ _⟩
    rw [← sign_enc c h]
    rfl
  · have hT : (⟨#[48, 49, 50, 51, 52, 53, 54, 55, 56, 57, 46, 95, 45]⟩ : ByteArray) = T [48, 49, 50, 51, 52, 53, 54, 55, 56, 57, 46, 95, 45] := by decide +kernel
    have hs : signC c = false := by unfold signC digC; simp; omega
    have HI := hide (fun W => indexRune_high [48, 49, 50, 51, 52, 53, 54, 55, 56, 57, 46, 95, 45] (by unfold okL; decide +kernel) (by decide) (by decide) c (charR_ok hc) (by omega) W)
    rw [hs, hT]
    clear hT hs
    generalize T [48, 49, 50, 51, 52, 53, 54, 55, 56, 57, 46, 95, 45] = X at *
    go_enter Tryz.func156, Tryz.ntmps156
    go_wp2_with fail
    refine (unhide HI _).mono ?_
    rintro e w1 ⟨rfl, hb1⟩
    go_wp2
    go_ret
    exact ⟨rfl, hb1⟩
set_option maxRecDepth 100000 in
set_option maxHeartbeats 4000000 in
theorem isEncoding_any (l : List Nat) (w : World) (hl : okL l) (hs : (T l).size ≤ 32768) :
    Calls Tryz.prog 130 #[.string (T l)] w fun e w' => e = .returned (.bool (isEncoding l)) ∧ Below w.heap.size w w' := by
  go_enter Tryz.func130, Tryz.ntmps130
  go_wp2_with fail
  go_loopw [] (fun wr => ∃ p t : List Nat, l = p ++ t ∧ encP p = true ∧ wr.heap[w.heap.size]? = some (.stringIter (T l) (tx p).length) ∧ Below w.heap.size w wr) (fun wr => (T l).size - wr.iterPos w.heap.size)
  case atStart => exact ⟨[], l, rfl, rfl, World.iter_heap _ _ _, (Below.refl _ _).alloc (Nat.le_refl _) _⟩
  case round =>
    obtain ⟨p, t, hpt, hpe, hk, hbr⟩ := hrel
    cases t with
    | nil =>
      have hnx := fun ty => Lib.run_next_end_at (P := Tryz.prog) wr w.heap.size (T l) (tx p).length ty hk (end_at hpt)
      rw [List.append_nil] at hpt
      subst hpt
      by_cases hm : l = []
      · have e1 := nil_T hm
        have HF : Hid (isEncoding l = false) := hide (by rw [hm]; rfl)
        clear hk hpe hm
        go_wp2
        go_ret
        exact ⟨ret_bool (unhide HF).symm, hbr⟩
      · have e1 := ne_T hl hm
        have HF : Hid (isEncoding l = true) := hide (by cases l with | nil => exact absurd rfl hm | cons d u => exact hpe)
        clear hk hpe hm
        go_wp2
        go_ret
        exact ⟨ret_bool (unhide HF).symm, hbr⟩
    | cons c t =>
      obtain ⟨hd, hlt, hc, hpos⟩ := dec_at hpt hl
      have hc' : charR (c : Int) = true := (okL_right (hpt ▸ hl)) c (by simp)
      have hnx := fun ty => Lib.run_next_any_at (P := Tryz.prog) wr w.heap.size (T l) (tx p).length ty hk hlt
      rw [hd] at hnx
      simp only at hnx
      have HS := hide (tx_snoc p c)
      have HPT := hide hpt
      have HK := hide hk
      have hbl : w.heap.size < wr.heap.size := (Array.getElem?_eq_some_iff.1 hk).1
      have hbI : Below w.heap.size w (wr.iterAt w.heap.size (T l) ((tx p).length + (runeB c).length)) := Lib.below_iterAt hbr (by omega) _ _
      have hszI : w.heap.size ≤ (wr.iterAt w.heap.size (T l) ((tx p).length + (runeB c).length)).heap.size := by rw [Lib.iterAt_size]; omega
      have HKI : Hid ((wr.iterAt w.heap.size (T l) ((tx p).length + (runeB c).length)).heap[w.heap.size]? = some (.stringIter (T l) ((tx p).length + (runeB c).length))) := hide (Lib.iterAt_heap wr _ _ _ _ (unhide HK))
      by_cases q1 : 97 ≤ c
      · by_cases q2 : c ≤ 122
        · have d1 : decide ((97 : Int) ≤ (c : Int)) = true := by simp; omega
          have d2 : decide ((c : Int) ≤ 122) = true := by simp; omega
          have d3 : decide ((65 : Int) ≤ (c : Int)) = true := by simp; omega
          have d4 : decide ((c : Int) ≤ 90) = false := by simp; omega
          have HO : Hid (encP (p ++ [c]) = true) := hide (encP_on hpe (by unfold encC letterC; simp; omega) (fun _ => by unfold letterC; simp; omega))
          clear hd hpt hk hpe
          go_wp2_with fail
          refine ⟨⟨p ++ [c], t, by rw [unhide HPT]; simp, unhide HO, by rw [unhide HS]; exact unhide HKI, hbI⟩, ?_⟩
          rw [iterPos_of (unhide HKI), iterPos_of (unhide HK)]
          omega
        · have d1 : decide ((97 : Int) ≤ (c : Int)) = true := by simp; omega
          have d2 : decide ((c : Int) ≤ 122) = false := by simp; omega
          have d3 : decide ((65 : Int) ≤ (c : Int)) = true := by simp; omega
          have d4 : decide ((c : Int) ≤ 90) = false := by simp; omega
          have hlc : letterC c = false := by unfold letterC; simp; omega
          by_cases hp0 : p = []
          · have hz0 : (((tx p).length : Nat) : Int) = 0 := by rw [hp0]; rfl
            have HF : Hid (isEncoding l = false) := hide (by rw [hpt, hp0]; show (letterC c && _) = false; rw [hlc, Bool.false_and])
            rw [hz0] at hnx
            clear hd hpt hk hpe hp0
            go_wp2
            go_ret
            exact ⟨ret_bool (unhide HF).symm, hbI⟩
          · have hz0 : ((((tx p).length : Nat) : Int) == 0) = false := beq_eq_false_iff_ne.2 (by
              have := tx_len_zero (okL_left (hpt ▸ hl))
              intro h0
              exact hp0 (this (by omega)))
            have HCR := hide (fun W => encRune_any c hc' W)
            cases hsc : signC c
            · have HF : Hid (isEncoding l = false) := hide (encP_bad hpt hp0 hlc hsc)
              rw [hsc] at HCR
              clear hd hpt hk hpe hp0 hsc hlc
              go_wp2_with fail
              refine (unhide HCR _).mono ?_
              rintro e w2 ⟨rfl, hb2⟩
              go_wp2
              go_ret
              exact ⟨ret_bool (unhide HF).symm, hbI.trans (hb2.mono hszI)⟩
            · have HO : Hid (encP (p ++ [c]) = true) := hide (encP_on hpe (by unfold encC; rw [show (digC c || (c == 46 || (c == 95 || c == 45))) = true from hsc, Bool.or_true]) (fun h => absurd h hp0))
              rw [hsc] at HCR
              clear hd hpt hk hpe hp0 hsc hlc
              go_wp2_with fail
              refine (unhide HCR _).mono ?_
              rintro e w2 ⟨rfl, hb2⟩
              go_wp2_with fail
              have hki := block_below (unhide HKI) hb2
              refine ⟨⟨p ++ [c], t, by rw [unhide HPT]; simp, unhide HO, by rw [unhide HS]; exact hki, hbI.trans (hb2.mono hszI)⟩, ?_⟩
              rw [iterPos_of hki, iterPos_of (unhide HK)]
              omega
      · by_cases q2 : 65 ≤ c
        · by_cases q3 : c ≤ 90
          · have d1 : decide ((97 : Int) ≤ (c : Int)) = false := by simp; omega
            have d2 : decide ((c : Int) ≤ 122) = true := by simp; omega
            have d3 : decide ((65 : Int) ≤ (c : Int)) = true := by simp; omega
            have d4 : decide ((c : Int) ≤ 90) = true := by simp; omega
            have HO : Hid (encP (p ++ [c]) = true) := hide (encP_on hpe (by unfold encC letterC; simp; omega) (fun _ => by unfold letterC; simp; omega))
            clear hd hpt hk hpe
            go_wp2_with fail
            refine ⟨⟨p ++ [c], t, by rw [unhide HPT]; simp, unhide HO, by rw [unhide HS]; exact unhide HKI, hbI⟩, ?_⟩
            rw [iterPos_of (unhide HKI), iterPos_of (unhide HK)]
            omega
          · have d1 : decide ((97 : Int) ≤ (c : Int)) = false := by simp; omega
            have d2 : decide ((c : Int) ≤ 122) = true := by simp; omega
            have d3 : decide ((65 : Int) ≤ (c : Int)) = true := by simp; omega
            have d4 : decide ((c : Int) ≤ 90) = false := by simp; omega
            have hlc : letterC c = false := by unfold letterC; simp; omega
            by_cases hp0 : p = []
            · have hz0 : (((tx p).length : Nat) : Int) = 0 := by rw [hp0]; rfl
              have HF : Hid (isEncoding l = false) := hide (by rw [hpt, hp0]; show (letterC c && _) = false; rw [hlc, Bool.false_and])
              rw [hz0] at hnx
              clear hd hpt hk hpe hp0
              go_wp2
              go_ret
              exact ⟨ret_bool (unhide HF).symm, hbI⟩
            · have hz0 : ((((tx p).length : Nat) : Int) == 0) = false := beq_eq_false_iff_ne.2 (by
                have := tx_len_zero (okL_left (hpt ▸ hl))
                intro h0
                exact hp0 (this (by omega)))
              have HCR := hide (fun W => encRune_any c hc' W)
              cases hsc : signC c
              · have HF : Hid (isEncoding l = false) := hide (encP_bad hpt hp0 hlc hsc)
                rw [hsc] at HCR
                clear hd hpt hk hpe hp0 hsc hlc
                go_wp2_with fail
                refine (unhide HCR _).mono ?_
                rintro e w2 ⟨rfl, hb2⟩
                go_wp2
                go_ret
                exact ⟨ret_bool (unhide HF).symm, hbI.trans (hb2.mono hszI)⟩
              · have HO : Hid (encP (p ++ [c]) = true) := hide (encP_on hpe (by unfold encC; rw [show (digC c || (c == 46 || (c == 95 || c == 45))) = true from hsc, Bool.or_true]) (fun h => absurd h hp0))
                rw [hsc] at HCR
                clear hd hpt hk hpe hp0 hsc hlc
                go_wp2_with fail
                refine (unhide HCR _).mono ?_
                rintro e w2 ⟨rfl, hb2⟩
                go_wp2_with fail
                have hki := block_below (unhide HKI) hb2
                refine ⟨⟨p ++ [c], t, by rw [unhide HPT]; simp, unhide HO, by rw [unhide HS]; exact hki, hbI.trans (hb2.mono hszI)⟩, ?_⟩
                rw [iterPos_of hki, iterPos_of (unhide HK)]
                omega
        · have d1 : decide ((97 : Int) ≤ (c : Int)) = false := by simp; omega
          have d2 : decide ((c : Int) ≤ 122) = true := by simp; omega
          have d3 : decide ((65 : Int) ≤ (c : Int)) = false := by simp; omega
          have d4 : decide ((c : Int) ≤ 90) = true := by simp; omega
          have hlc : letterC c = false := by unfold letterC; simp; omega
          by_cases hp0 : p = []
          · have hz0 : (((tx p).length : Nat) : Int) = 0 := by rw [hp0]; rfl
            have HF : Hid (isEncoding l = false) := hide (by rw [hpt, hp0]; show (letterC c && _) = false; rw [hlc, Bool.false_and])
            rw [hz0] at hnx
            clear hd hpt hk hpe hp0
            go_wp2
            go_ret
            exact ⟨ret_bool (unhide HF).symm, hbI⟩
          · have hz0 : ((((tx p).length : Nat) : Int) == 0) = false := beq_eq_false_iff_ne.2 (by
              have := tx_len_zero (okL_left (hpt ▸ hl))
              intro h0
              exact hp0 (this (by omega)))
            have HCR := hide (fun W => encRune_any c hc' W)
            cases hsc : signC c
            · have HF : Hid (isEncoding l = false) := hide (encP_bad hpt hp0 hlc hsc)
              rw [hsc] at HCR
              clear hd hpt hk hpe hp0 hsc hlc
              go_wp2_with fail
              refine (unhide HCR _).mono ?_
              rintro e w2 ⟨rfl, hb2⟩
              go_wp2
              go_ret
              exact ⟨ret_bool (unhide HF).symm, hbI.trans (hb2.mono hszI)⟩
            · have HO : Hid (encP (p ++ [c]) = true) := hide (encP_on hpe (by unfold encC; rw [show (digC c || (c == 46 || (c == 95 || c == 45))) = true from hsc, Bool.or_true]) (fun h => absurd h hp0))
              rw [hsc] at HCR
              clear hd hpt hk hpe hp0 hsc hlc
              go_wp2_with fail
              refine (unhide HCR _).mono ?_
              rintro e w2 ⟨rfl, hb2⟩
              go_wp2_with fail
              have hki := block_below (unhide HKI) hb2
              refine ⟨⟨p ++ [c], t, by rw [unhide HPT]; simp, unhide HO, by rw [unhide HS]; exact hki, hbI.trans (hb2.mono hszI)⟩, ?_⟩
              rw [iterPos_of hki, iterPos_of (unhide HK)]
              omega
end Go.Proofs.YtefjfjieoiegnaaGreatDoor
/- A setting of the declaration, and all of them: xmlscan's setting. -/
namespace Go.Proofs.YtefjfjieoiegnaaGreatDoor
open Go.RowKit
theorem isChoice_low (l : List Nat) (w : World) (hl : okL l) :
    Calls Tryz.prog 131 #[.string (T l)] w fun e w' => e = .returned (.bool (isChoice l)) ∧ Below w.heap.size w w' :=
  (isChoice_any l w hl).mono fun _ _ h => ⟨h.1, h.2 ▸ Below.refl _ _⟩
theorem setting_eq (s : RS) (n : List Nat) (right : List Nat → Bool) : s.setting n right = if !s.sees n then none else match (s.adv n.length).equals with
  | none => none
  | some s1 => match s1.quoted with
    | none => none
    | some (v, s2) => if right v then some s2 else none := rfl
theorem setting_adv {s s' : RS} {n : List Nat} {right : List Nat → Bool} (h : s.setting n right = some s') : Adv s s' := by
  rw [setting_eq] at h
  split at h
  · cases h
  · split at h
    · cases h
    · rename_i s1 h1
      split at h
      · cases h
      · rename_i v s2 h2
        split at h
        · cases h
          exact ((Adv.by s _).then (Adv.equals h1)).then (Adv.quoted h2)
        · cases h
set_option maxRecDepth 100000 in
set_option maxHeartbeats 2000000 in
theorem settingV_any (B p m : Nat) (vo vt vr : Value) (s : RS) (w : World) (R : Rd w B p m vo vt vr s) (hG : Good s) (hE : XEnv B w) :
    Calls Tryz.prog 128 #[.pointer (some ⟨p, 0, none⟩), .string ⟨#[118, 101, 114, 115, 105, 111, 110]⟩, .func (.func 129) #[] #[]] w fun e w' => entP (s.setting [118, 101, 114, 115, 105, 111, 110] isVersion) B p m vo vt vr e w w' := by
  have hlow := R.low
  have hlt := R.lt
  have HD := hide (setting_eq s [118, 101, 114, 115, 105, 111, 110] isVersion)
  go_enter Tryz.func128, Tryz.ntmps128
  go_wp2_with fail
  cases h1 : s.sees [118, 101, 114, 115, 105, 111, 110]
  · refine (take_no [118, 101, 114, 115, 105, 111, 110] ⟨#[118, 101, 114, 115, 105, 111, 110]⟩ rfl (by decide) p s _ R.at hG.fine h1).mono ?_
    rintro e w1 ⟨rfl, hb1⟩
    have HEQ : Hid (s.setting [118, 101, 114, 115, 105, 111, 110] isVersion = none) := hide (by rw [unhide HD, h1]; rfl)
    have R1 := R.on hb1
    clear HD h1
    go_wp2
    go_ret
    rw [unhide HEQ]
    exact ⟨hb1.mono (by omega), rfl, _, R1.blk, rfl⟩
  · refine (take_yes [118, 101, 114, 115, 105, 111, 110] ⟨#[118, 101, 114, 115, 105, 111, 110]⟩ rfl (by decide) p s _ R.at hG.fine h1).mono ?_
    rintro e w1 ⟨rfl, hm1⟩
    have hd := unhide HD
    rw [h1, Bool.not_true, if_neg (by decide)] at hd
    have R1 := R.moved hm1 (Adv.by s _)
    have G1 := hG.adv ([118, 101, 114, 115, 105, 111, 110] : List Nat).length
    have hb1 := hm1.low hlow (show B ≤ w.heap.size by omega)
    generalize hg1 : s.adv ([118, 101, 114, 115, 105, 111, 110] : List Nat).length = s1 at *
    clear HD h1 hg1 hm1
    have HD := hide hd
    clear hd
    go_wp2_with fail
    refine (equals_any p s1 _ R1.at G1.fine).mono ?_
    intro e w2 hq
    cases heq : s1.equals with
    | none =>
      rw [heq] at hq
      obtain ⟨k, rfl, hm2⟩ := hq
      have HEQ : Hid (s.setting [118, 101, 114, 115, 105, 111, 110] isVersion = none) := hide (by rw [unhide HD, heq])
      obtain ⟨cc, hcc, hcs⟩ := moved_blk R1 hm2
      have hb2 := hb1.trans (hm2.low hlow (by have := R1.lt; omega))
      clear HD heq hm2
      go_wp2
      go_ret
      rw [unhide HEQ]
      exact ⟨hb2, rfl, cc, hcc, hcs⟩
    | some s2 =>
      rw [heq] at hq
      obtain ⟨rfl, hm2⟩ := hq
      have R2 := R1.moved hm2 (Adv.equals heq)
      have G2 := G1.to (Adv.equals heq)
      have hb2 := hb1.trans (hm2.low hlow (by have := R1.lt; omega))
      have hd := unhide HD
      rw [heq] at hd
      simp only at hd
      clear HD heq hm2
      have HD := hide hd
      clear hd
      go_wp2_with fail
      refine (quoted_any B p s2 _ R2.at G2.fine (hE.low hb2) hlow).mono ?_
      intro e w3 hq
      cases hqu : s2.quoted with
      | none =>
        rw [hqu] at hq
        obtain ⟨y, k, rfl, hm3⟩ := hq
        have HEQ : Hid (s.setting [118, 101, 114, 115, 105, 111, 110] isVersion = none) := hide (by rw [unhide HD, hqu])
        obtain ⟨cc, hcc, hcs⟩ := moved_blk R2 hm3
        have hb3 := hb2.trans (hm3.low hlow (by have := R2.lt; omega))
        clear HD hqu hm3
        go_wp2
        go_ret
        rw [unhide HEQ]
        exact ⟨hb3, rfl, cc, hcc, hcs⟩
      | some x =>
        obtain ⟨v, s3⟩ := x
        rw [hqu] at hq
        obtain ⟨rfl, hm3⟩ := hq
        have R3 := R2.moved hm3 (Adv.quoted hqu)
        have hb3 := hb2.trans (hm3.low hlow (by have := R2.lt; omega))
        obtain ⟨hv, hz⟩ := quoted_ok G2.fine hqu
        have HX := hide (fun (W : World) => (isVersion_any v W hv hz))
        have hd := unhide HD
        rw [hqu] at hd
        simp only at hd
        clear HD hqu hm3
        cases hr : isVersion v
        · have HEQ : Hid (s.setting [118, 101, 114, 115, 105, 111, 110] isVersion = none) := hide (by rw [hd, hr]; rfl)
          rw [hr] at HX
          clear hd hr
          go_wp2_with fail
          refine (unhide HX _).mono ?_
          rintro e w4 ⟨rfl, hb4⟩
          have R4 := R3.on hb4
          have hb04 := hb3.trans (hb4.mono (by have := R3.lt; omega))
          go_wp2
          go_ret
          rw [unhide HEQ]
          exact ⟨hb04, rfl, _, R4.blk, rfl⟩
        · have HEQ : Hid (s.setting [118, 101, 114, 115, 105, 111, 110] isVersion = some s3) := hide (by rw [hd, hr]; rfl)
          rw [hr] at HX
          clear hd hr
          go_wp2_with fail
          refine (unhide HX _).mono ?_
          rintro e w4 ⟨rfl, hb4⟩
          have HR4 := hide (R3.on hb4)
          have hb04 := hb3.trans (hb4.mono (by have := R3.lt; omega))
          clear R3
          go_wp2
          go_ret
          rw [unhide HEQ]
          exact ⟨hb04, rfl, unhide HR4⟩
set_option maxRecDepth 100000 in
set_option maxHeartbeats 2000000 in
theorem settingE_any (B p m : Nat) (vo vt vr : Value) (s : RS) (w : World) (R : Rd w B p m vo vt vr s) (hG : Good s) (hE : XEnv B w) :
    Calls Tryz.prog 128 #[.pointer (some ⟨p, 0, none⟩), .string ⟨#[101, 110, 99, 111, 100, 105, 110, 103]⟩, .func (.func 130) #[] #[]] w fun e w' => entP (s.setting [101, 110, 99, 111, 100, 105, 110, 103] isEncoding) B p m vo vt vr e w w' := by
  have hlow := R.low
  have hlt := R.lt
  have HD := hide (setting_eq s [101, 110, 99, 111, 100, 105, 110, 103] isEncoding)
  go_enter Tryz.func128, Tryz.ntmps128
  go_wp2_with fail
  cases h1 : s.sees [101, 110, 99, 111, 100, 105, 110, 103]
  · refine (take_no [101, 110, 99, 111, 100, 105, 110, 103] ⟨#[101, 110, 99, 111, 100, 105, 110, 103]⟩ rfl (by decide) p s _ R.at hG.fine h1).mono ?_
    rintro e w1 ⟨rfl, hb1⟩
    have HEQ : Hid (s.setting [101, 110, 99, 111, 100, 105, 110, 103] isEncoding = none) := hide (by rw [unhide HD, h1]; rfl)
    have R1 := R.on hb1
    clear HD h1
    go_wp2
    go_ret
    rw [unhide HEQ]
    exact ⟨hb1.mono (by omega), rfl, _, R1.blk, rfl⟩
  · refine (take_yes [101, 110, 99, 111, 100, 105, 110, 103] ⟨#[101, 110, 99, 111, 100, 105, 110, 103]⟩ rfl (by decide) p s _ R.at hG.fine h1).mono ?_
    rintro e w1 ⟨rfl, hm1⟩
    have hd := unhide HD
    rw [h1, Bool.not_true, if_neg (by decide)] at hd
    have R1 := R.moved hm1 (Adv.by s _)
    have G1 := hG.adv ([101, 110, 99, 111, 100, 105, 110, 103] : List Nat).length
    have hb1 := hm1.low hlow (show B ≤ w.heap.size by omega)
    generalize hg1 : s.adv ([101, 110, 99, 111, 100, 105, 110, 103] : List Nat).length = s1 at *
    clear HD h1 hg1 hm1
    have HD := hide hd
    clear hd
    go_wp2_with fail
    refine (equals_any p s1 _ R1.at G1.fine).mono ?_
    intro e w2 hq
    cases heq : s1.equals with
    | none =>
      rw [heq] at hq
      obtain ⟨k, rfl, hm2⟩ := hq
      have HEQ : Hid (s.setting [101, 110, 99, 111, 100, 105, 110, 103] isEncoding = none) := hide (by rw [unhide HD, heq])
      obtain ⟨cc, hcc, hcs⟩ := moved_blk R1 hm2
      have hb2 := hb1.trans (hm2.low hlow (by have := R1.lt; omega))
      clear HD heq hm2
      go_wp2
      go_ret
      rw [unhide HEQ]
      exact ⟨hb2, rfl, cc, hcc, hcs⟩
    | some s2 =>
      rw [heq] at hq
      obtain ⟨rfl, hm2⟩ := hq
      have R2 := R1.moved hm2 (Adv.equals heq)
      have G2 := G1.to (Adv.equals heq)
      have hb2 := hb1.trans (hm2.low hlow (by have := R1.lt; omega))
      have hd := unhide HD
      rw [heq] at hd
      simp only at hd
      clear HD heq hm2
      have HD := hide hd
      clear hd
      go_wp2_with fail
      refine (quoted_any B p s2 _ R2.at G2.fine (hE.low hb2) hlow).mono ?_
      intro e w3 hq
      cases hqu : s2.quoted with
      | none =>
        rw [hqu] at hq
        obtain ⟨y, k, rfl, hm3⟩ := hq
        have HEQ : Hid (s.setting [101, 110, 99, 111, 100, 105, 110, 103] isEncoding = none) := hide (by rw [unhide HD, hqu])
        obtain ⟨cc, hcc, hcs⟩ := moved_blk R2 hm3
        have hb3 := hb2.trans (hm3.low hlow (by have := R2.lt; omega))
        clear HD hqu hm3
        go_wp2
        go_ret
        rw [unhide HEQ]
        exact ⟨hb3, rfl, cc, hcc, hcs⟩
      | some x =>
        obtain ⟨v, s3⟩ := x
        rw [hqu] at hq
        obtain ⟨rfl, hm3⟩ := hq
        have R3 := R2.moved hm3 (Adv.quoted hqu)
        have hb3 := hb2.trans (hm3.low hlow (by have := R2.lt; omega))
        obtain ⟨hv, hz⟩ := quoted_ok G2.fine hqu
        have HX := hide (fun (W : World) => (isEncoding_any v W hv hz))
        have hd := unhide HD
        rw [hqu] at hd
        simp only at hd
        clear HD hqu hm3
        cases hr : isEncoding v
        · have HEQ : Hid (s.setting [101, 110, 99, 111, 100, 105, 110, 103] isEncoding = none) := hide (by rw [hd, hr]; rfl)
          rw [hr] at HX
          clear hd hr
          go_wp2_with fail
          refine (unhide HX _).mono ?_
          rintro e w4 ⟨rfl, hb4⟩
          have R4 := R3.on hb4
          have hb04 := hb3.trans (hb4.mono (by have := R3.lt; omega))
          go_wp2
          go_ret
          rw [unhide HEQ]
          exact ⟨hb04, rfl, _, R4.blk, rfl⟩
        · have HEQ : Hid (s.setting [101, 110, 99, 111, 100, 105, 110, 103] isEncoding = some s3) := hide (by rw [hd, hr]; rfl)
          rw [hr] at HX
          clear hd hr
          go_wp2_with fail
          refine (unhide HX _).mono ?_
          rintro e w4 ⟨rfl, hb4⟩
          have HR4 := hide (R3.on hb4)
          have hb04 := hb3.trans (hb4.mono (by have := R3.lt; omega))
          clear R3
          go_wp2
          go_ret
          rw [unhide HEQ]
          exact ⟨hb04, rfl, unhide HR4⟩
set_option maxRecDepth 100000 in
set_option maxHeartbeats 2000000 in
theorem settingC_any (B p m : Nat) (vo vt vr : Value) (s : RS) (w : World) (R : Rd w B p m vo vt vr s) (hG : Good s) (hE : XEnv B w) :
    Calls Tryz.prog 128 #[.pointer (some ⟨p, 0, none⟩), .string ⟨#[115, 116, 97, 110, 100, 97, 108, 111, 110, 101]⟩, .func (.func 131) #[] #[]] w fun e w' => entP (s.setting [115, 116, 97, 110, 100, 97, 108, 111, 110, 101] isChoice) B p m vo vt vr e w w' := by
  have hlow := R.low
  have hlt := R.lt
  have HD := hide (setting_eq s [115, 116, 97, 110, 100, 97, 108, 111, 110, 101] isChoice)
  go_enter Tryz.func128, Tryz.ntmps128
  go_wp2_with fail
  cases h1 : s.sees [115, 116, 97, 110, 100, 97, 108, 111, 110, 101]
  · refine (take_no [115, 116, 97, 110, 100, 97, 108, 111, 110, 101] ⟨#[115, 116, 97, 110, 100, 97, 108, 111, 110, 101]⟩ rfl (by decide) p s _ R.at hG.fine h1).mono ?_
    rintro e w1 ⟨rfl, hb1⟩
    have HEQ : Hid (s.setting [115, 116, 97, 110, 100, 97, 108, 111, 110, 101] isChoice = none) := hide (by rw [unhide HD, h1]; rfl)
    have R1 := R.on hb1
    clear HD h1
    go_wp2
    go_ret
    rw [unhide HEQ]
    exact ⟨hb1.mono (by omega), rfl, _, R1.blk, rfl⟩
  · refine (take_yes [115, 116, 97, 110, 100, 97, 108, 111, 110, 101] ⟨#[115, 116, 97, 110, 100, 97, 108, 111, 110, 101]⟩ rfl (by decide) p s _ R.at hG.fine h1).mono ?_
    rintro e w1 ⟨rfl, hm1⟩
    have hd := unhide HD
    rw [h1, Bool.not_true, if_neg (by decide)] at hd
    have R1 := R.moved hm1 (Adv.by s _)
    have G1 := hG.adv ([115, 116, 97, 110, 100, 97, 108, 111, 110, 101] : List Nat).length
    have hb1 := hm1.low hlow (show B ≤ w.heap.size by omega)
    generalize hg1 : s.adv ([115, 116, 97, 110, 100, 97, 108, 111, 110, 101] : List Nat).length = s1 at *
    clear HD h1 hg1 hm1
    have HD := hide hd
    clear hd
    go_wp2_with fail
    refine (equals_any p s1 _ R1.at G1.fine).mono ?_
    intro e w2 hq
    cases heq : s1.equals with
    | none =>
      rw [heq] at hq
      obtain ⟨k, rfl, hm2⟩ := hq
      have HEQ : Hid (s.setting [115, 116, 97, 110, 100, 97, 108, 111, 110, 101] isChoice = none) := hide (by rw [unhide HD, heq])
      obtain ⟨cc, hcc, hcs⟩ := moved_blk R1 hm2
      have hb2 := hb1.trans (hm2.low hlow (by have := R1.lt; omega))
      clear HD heq hm2
      go_wp2
      go_ret
      rw [unhide HEQ]
      exact ⟨hb2, rfl, cc, hcc, hcs⟩
    | some s2 =>
      rw [heq] at hq
      obtain ⟨rfl, hm2⟩ := hq
      have R2 := R1.moved hm2 (Adv.equals heq)
      have G2 := G1.to (Adv.equals heq)
      have hb2 := hb1.trans (hm2.low hlow (by have := R1.lt; omega))
      have hd := unhide HD
      rw [heq] at hd
      simp only at hd
      clear HD heq hm2
      have HD := hide hd
      clear hd
      go_wp2_with fail
      refine (quoted_any B p s2 _ R2.at G2.fine (hE.low hb2) hlow).mono ?_
      intro e w3 hq
      cases hqu : s2.quoted with
      | none =>
        rw [hqu] at hq
        obtain ⟨y, k, rfl, hm3⟩ := hq
        have HEQ : Hid (s.setting [115, 116, 97, 110, 100, 97, 108, 111, 110, 101] isChoice = none) := hide (by rw [unhide HD, hqu])
        obtain ⟨cc, hcc, hcs⟩ := moved_blk R2 hm3
        have hb3 := hb2.trans (hm3.low hlow (by have := R2.lt; omega))
        clear HD hqu hm3
        go_wp2
        go_ret
        rw [unhide HEQ]
        exact ⟨hb3, rfl, cc, hcc, hcs⟩
      | some x =>
        obtain ⟨v, s3⟩ := x
        rw [hqu] at hq
        obtain ⟨rfl, hm3⟩ := hq
        have R3 := R2.moved hm3 (Adv.quoted hqu)
        have hb3 := hb2.trans (hm3.low hlow (by have := R2.lt; omega))
        obtain ⟨hv, hz⟩ := quoted_ok G2.fine hqu
        have HX := hide (fun (W : World) => (isChoice_low v W hv))
        have hd := unhide HD
        rw [hqu] at hd
        simp only at hd
        clear HD hqu hm3
        cases hr : isChoice v
        · have HEQ : Hid (s.setting [115, 116, 97, 110, 100, 97, 108, 111, 110, 101] isChoice = none) := hide (by rw [hd, hr]; rfl)
          rw [hr] at HX
          clear hd hr
          go_wp2_with fail
          refine (unhide HX _).mono ?_
          rintro e w4 ⟨rfl, hb4⟩
          have R4 := R3.on hb4
          have hb04 := hb3.trans (hb4.mono (by have := R3.lt; omega))
          go_wp2
          go_ret
          rw [unhide HEQ]
          exact ⟨hb04, rfl, _, R4.blk, rfl⟩
        · have HEQ : Hid (s.setting [115, 116, 97, 110, 100, 97, 108, 111, 110, 101] isChoice = some s3) := hide (by rw [hd, hr]; rfl)
          rw [hr] at HX
          clear hd hr
          go_wp2_with fail
          refine (unhide HX _).mono ?_
          rintro e w4 ⟨rfl, hb4⟩
          have HR4 := hide (R3.on hb4)
          have hb04 := hb3.trans (hb4.mono (by have := R3.lt; omega))
          clear R3
          go_wp2
          go_ret
          rw [unhide HEQ]
          exact ⟨hb04, rfl, unhide HR4⟩
end Go.Proofs.YtefjfjieoiegnaaGreatDoor
