/- UTF-16 as the reference reads it: its wide. -/
import Derived.Test.YtdoobohdddghbaaDoorRefDec
import Derived.Test.YtdoobohdddghbaaDoorRunePlain
import Derived.Lib.AppendStr
namespace Go.Proofs.YtdoobohdddghbaaDoor
open Go.RowKit
theorem encode_eq (r : Nat) (ho : okR r) : (Utf8.encode (r : Int)).data.toList = runeB r := by
  have ho' := ho
  unfold okR at ho'
  have hv : Utf8.valid (r : Int) = true := by
    unfold Utf8.valid
    simp
    omega
  unfold Utf8.encode
  simp only [hv, if_true, Int.toNat_natCast]
  by_cases h1 : r < 128
  · rw [if_pos h1, runeB_one h1]
  · rw [if_neg h1]
    by_cases h2 : r < 2048
    · rw [if_pos h2, runeB_two (by omega) h2]
    · rw [if_neg h2]
      by_cases h3 : r < 65536
      · rw [if_pos h3, runeB_three (by omega) h3 ho]
      · rw [if_neg h3, runeB_four (by omega) (by omega)]
theorem or_unit (x y : Nat) (b0 : x < 256) (b1 : y < 256) : bits .or .i32 ((x : Int) * 256) (y : Int) = ((x * 256 + y : Nat) : Int) := by
  have := bits_join .i32 31 (by decide) wraps_i32 8 ((x : Int) * 256) (y : Int) (by omega) (by omega) (by omega) (by omega) (by omega) (by omega)
  rw [this]
  omega
theorem wideAt_end (t : ByteArray) (pos : Nat) (h : Bool) (hp : t.size < pos + 2) : wideAt t pos h = (0, 0) := by
  unfold wideAt; rw [if_pos hp]
theorem wideAt_plain (t : ByteArray) (pos : Nat) (h : Bool) (hp : ¬ t.size < pos + 2) (hu : unitN t pos h < 55296 ∨ 57343 < unitN t pos h) : wideAt t pos h = (unitN t pos h, 2) := by
  unfold wideAt; rw [if_neg hp, if_pos (by simp; omega)]
theorem wideAt_trail (t : ByteArray) (pos : Nat) (h : Bool) (hu : 56320 ≤ unitN t pos h) (hu' : unitN t pos h ≤ 57343) : wideAt t pos h = (0, 0) := by
  unfold wideAt
  by_cases hp : t.size < pos + 2
  · rw [if_pos hp]
  · rw [if_neg hp, if_neg (by simp; omega)]
    by_cases hq : t.size < pos + 4
    · rw [if_pos hq]
    · rw [if_neg hq, if_pos (by simp [pairB]; omega)]
theorem wideAt_cut (t : ByteArray) (pos : Nat) (h : Bool) (hu : 55296 ≤ unitN t pos h) (hu' : unitN t pos h ≤ 57343) (hq : t.size < pos + 4) : wideAt t pos h = (0, 0) := by
  unfold wideAt
  by_cases hp : t.size < pos + 2
  · rw [if_pos hp]
  · rw [if_neg hp, if_neg (by simp; omega), if_pos hq]
theorem wideAt_bad (t : ByteArray) (pos : Nat) (h : Bool) (hq : ¬ t.size < pos + 4) (hu : 55296 ≤ unitN t pos h) (hu' : unitN t pos h ≤ 57343) (hv : unitN t (pos + 2) h < 56320 ∨ 57343 < unitN t (pos + 2) h) : wideAt t pos h = (0, 0) := by
  unfold wideAt
  rw [if_neg (by omega), if_neg (by simp; omega), if_neg hq, if_pos (by simp [pairB]; omega)]
theorem wideAt_pair (t : ByteArray) (pos : Nat) (h : Bool) (hq : ¬ t.size < pos + 4) (hu : 55296 ≤ unitN t pos h) (hu' : unitN t pos h ≤ 56319) (hv : 56320 ≤ unitN t (pos + 2) h) (hv' : unitN t (pos + 2) h ≤ 57343) :
    wideAt t pos h = (65536 + (unitN t pos h - 55296) * 1024 + (unitN t (pos + 2) h - 56320), 4) := by
  unfold wideAt
  rw [if_neg (by omega), if_neg (by simp; omega), if_neg hq, if_neg (by simp [pairB]; omega)]
theorem strCells_eq (r : Nat) (ho : okR r) : Lib.strCells (Utf8.encode (r : Int)) = byteCells (runeB r) := by
  rw [← encode_eq r ho]
  rfl
theorem size_len (E : ByteArray) : E.size = E.data.toList.length := rfl
theorem encode_size (r : Nat) (ho : okR r) : (Utf8.encode (r : Int)).size = (runeB r).length :=
  (size_len _).trans (congrArg List.length (encode_eq r ho))
/-- A character as a text, kept shut. -/
theorem encode_shut (r : Nat) (ho : okR r) : ∃ E : ByteArray, (∀ w, (convert 21 9 (.int .i32 (r : Int))).run Tryd.prog w = .ok (.string E) w) ∧ E.size = (runeB r).length ∧ Lib.strCells E = byteCells (runeB r) :=
  ⟨Utf8.encode (r : Int), fun w => run_convert_int_string w 21 9 .i32 (r : Int) (by rw [Tryd.underlying21]; rfl) Tryd.underlying9, encode_size r ho, strCells_eq r ho⟩
theorem ret_decEnd {x : List UInt8 × Int × Int} {n p : Int} (h : x = ([], n, p)) (hn : n ≠ 0) : Ending.returned (.tuple #[.string ⟨#[]⟩, .int .i64 n, .int .i64 p]) = .returned (decEnd x) := by
  rw [h]; unfold decEnd; rw [if_neg hn]
theorem ret_decOk {x : List UInt8 × Int × Int} {l : List UInt8} (h : x = (l, 0, 0)) : Ending.returned (.tuple #[.string ⟨(endsR l).toArray⟩, .int .i64 0, .int .i64 0]) = .returned (decEnd x) := by
  rw [h]; unfold decEnd; rw [if_pos rfl, endsL_eq l.length l (Nat.le_refl _)]
set_option maxRecDepth 100000 in
set_option maxHeartbeats 2000000 in
theorem refWide_false (b off c : Nat) (t : ByteArray) (w : World) (hs : t.size ≤ 32768) (hc1 : t.size ≤ c) (hc2 : c ≤ maxLen)
    (hc : ∀ i, i < t.size → w.cell? ⟨b, off + i, none⟩ = some (.int .u8 ((t.get! i).toNat : Int))) :
    Calls Tryd.prog 14 #[.slice (some ⟨b, off, none⟩) t.size c, .int .i64 0] w fun e w' => e = .returned (decEnd (decW t false)) ∧ Below w.heap.size w w' := by
  obtain ⟨i0, hi, hz0, hz1, hz2⟩ := info_parts (show (Tryd.prog.info? 5).map (fun i => (i.zero, i.size, i.bytes)) = some (some (.int .u8 0), 1, 1) by kernel_rfl)
  have HC := hide hc
  clear hc
  unfold maxLen at hc2
  go_enter Tryd.func14, Tryd.ntmps14
  go_wp2_with fail
  go_loopw [8, 7] (fun i v wr => ∃ (pos f : Nat) (l : List UInt8), i = .int .i64 pos ∧ wr.ownsRow w.heap.size 5 1 v l.length (byteCells l) ∧ Below w.heap.size w wr ∧ decW t false = decFrom t false f pos l ∧ t.size < pos + f ∧ l.length ≤ 4 * pos ∧ pos ≤ t.size + 2) (fun i _ _ => t.size + 2 - (intOf i).toNat)
  case atStart => exact ⟨2, t.size + 1, [], rfl, World.ownsRow_nil _ _ _ _, Below.refl _ _, rfl, by omega, by simp, by omega⟩
  case round =>
    obtain ⟨pos, f, l, rfl, hown, hbr, he, hfu, hll, hpt⟩ := hrel
    by_cases hp : pos < t.size
    · obtain ⟨g, rfl, hg⟩ := decFrom_step t false f pos l hp hfu
      have HF := hide (he.trans hg)
      clear he hg
      have hcl := argCells_below (unhide HC) hbr
      obtain ⟨ad, cp, rfl⟩ := owns_slice hown
      by_cases hp1 : pos + 1 < t.size
      · have hp1' : (pos : Int) + 1 < (t.size : Int) := by omega
        have hcA : wr.drew.cell? ⟨b, off + pos, none⟩ = _ := hcl pos hp
        have hcB : wr.drew.cell? ⟨b, off + (pos + 1), none⟩ = _ := hcl (pos + 1) hp1
        have HCL := hide hcl
        clear hcl
        have bA := (t.get! pos).toNat_lt
        have bB := (t.get! (pos + 1)).toNat_lt
        have hu : unitN t pos false = (t.get! pos).toNat * 256 + (t.get! (pos + 1)).toNat := by unfold unitN; simp
        have hor := or_unit (t.get! pos).toNat (t.get! (pos + 1)).toNat (by omega) (by omega)
        rw [← hu] at hor
        have hul := unitN_lt t pos false
        have hpr : True := trivial
        have WP := hide (wideAt_plain t pos false (by omega))
        have WT := hide (wideAt_trail t pos false)
        have WC := hide (wideAt_cut t pos false)
        have WB := hide (wideAt_bad t pos false)
        have WQ := hide (wideAt_pair t pos false)
        clear hu
        generalize unitN t pos false = u at *
        generalize (t.get! pos).toNat = x0 at *
        generalize (t.get! (pos + 1)).toNat = x1 at *
        go_wp2_with fail
        go_region
        clear hor hcA hcB
        by_cases hT : 56320 ≤ u ∧ u ≤ 57343
        · have hT1 : (56320 : Int) ≤ (u : Int) := by omega
          have hT2 : (u : Int) ≤ 57343 := by omega
          have HW := hide (unhide WT hT.1 hT.2)
          clear hpr
          go_wp2
          go_ret3
          exact ⟨ret_decEnd (by rw [unhide HF, unhide HW, if_pos rfl]) (by decide), hbr.drew⟩
        · by_cases hL : 55296 ≤ u ∧ u ≤ 56319
          · have hT1 : ¬ (56320 : Int) ≤ (u : Int) := by omega
            have hL1 : (55296 : Int) ≤ (u : Int) := by omega
            have hL2 : (u : Int) ≤ 56319 := by omega
            by_cases hp3 : pos + 3 < t.size
            · have hp3' : (pos : Int) + 3 < (t.size : Int) := by omega
              have hcA : wr.drew.drew.cell? ⟨b, off + (pos + 2), none⟩ = _ := unhide HCL (pos + 2) (by omega)
              have hcB : wr.drew.drew.cell? ⟨b, off + (pos + 3), none⟩ = _ := unhide HCL (pos + 3) (by omega)
              have bC := (t.get! (pos + 2)).toNat_lt
              have bD := (t.get! (pos + 3)).toNat_lt
              have hv : unitN t (pos + 2) false = (t.get! (pos + 2)).toNat * 256 + (t.get! (pos + 3)).toNat := by unfold unitN; simp
              have hor := or_unit (t.get! (pos + 2)).toNat (t.get! (pos + 3)).toNat (by omega) (by omega)
              rw [← hv] at hor
              have hvl := unitN_lt t (pos + 2) false
              clear hv
              generalize unitN t (pos + 2) false = v at *
              generalize (t.get! (pos + 2)).toNat = x2 at *
              generalize (t.get! (pos + 3)).toNat = x3 at *
              go_wp2_with fail
              go_region
              clear hor hcA hcB
              by_cases hV1 : v < 56320
              · have hV1' : (v : Int) < 56320 := by omega
                have HW := hide (unhide WB (by omega) hL.1 (by omega) (.inl hV1))
                clear hpr
                go_wp2
                go_ret3
                exact ⟨ret_decEnd (by rw [unhide HF, unhide HW, if_pos rfl]) (by decide), hbr.drew.drew⟩
              · by_cases hV2 : 57343 < v
                · have hV1' : ¬ (v : Int) < 56320 := by omega
                  have hV2' : (57343 : Int) < (v : Int) := by omega
                  have HW := hide (unhide WB (by omega) hL.1 (by omega) (.inr hV2))
                  clear hpr
                  go_wp2
                  go_ret3
                  exact ⟨ret_decEnd (by rw [unhide HF, unhide HW, if_pos rfl]) (by decide), hbr.drew.drew⟩
                · have hV1' : ¬ (v : Int) < 56320 := by omega
                  have hV2' : ¬ (57343 : Int) < (v : Int) := by omega
                  obtain ⟨r, hr⟩ : ∃ r, r = 65536 + (u - 55296) * 1024 + (v - 56320) := ⟨_, rfl⟩
                  have hri : (65536 : Int) + ((u : Int) - 55296) * 1024 + ((v : Int) - 56320) = (r : Int) := by omega
                  have hwq := unhide WQ (by omega) hL.1 hL.2 (by omega) (by omega)
                  rw [← hr] at hwq
                  have hrl : r ≤ 1114111 := by omega
                  clear hr
                  have HW := hide hwq
                  clear hpr
                  cases hcb : charB ((r : Nat) : Int)
                  · have HCB := hide hcb
                    have hcr := hcb
                    rw [charB_eq _ (by omega)] at hcr
                    clear hcb
                    go_wp2_with (go_at_call 26; refine (refIsChar_any _ _).mono ?_; rintro e w' ⟨rfl, rfl⟩; rw [hcr])
                    go_ret3
                    exact ⟨ret_decEnd (by rw [unhide HF, unhide HW]; simp only; rw [if_neg (by decide), if_pos (unhide HCB)]) (by decide), hbr.drew.drew⟩
                  · have HCB := hide hcb
                    have hcr := hcb
                    rw [charB_eq _ (by omega)] at hcr
                    have hok := charR_ok hcr
                    obtain ⟨E, hEc, hEs, hEb⟩ := encode_shut _ hok
                    have HSZ := hide hEs
                    have HSC := hide hEb
                    clear hEs hEb
                    have hrb := runeB_len (r)
                    clear hcb hok
                    have hownW : (wr.drew.drew).ownsRow w.heap.size 5 1 (.slice ad l.length cp) l.length (byteCells l) := hown
                    have hszW : w.heap.size ≤ (wr.drew.drew).heap.size := hbr.size
                    have HGE := hide (owns_ge hown)
                    go_wp2_with (first
                      | (go_at_call 26; refine (refIsChar_any _ _).mono ?_; rintro e w' ⟨rfl, rfl⟩; rw [hcr])
                      | (at_builtin; refine Lib.wpList_append_own_string _ rfl _ _ 22 9 rfl w.heap.size 5 i0 Tryd.underlying22 Tryd.underlying9 hi hz0 hz1 hz2 _ l.length (byteCells l) rfl hownW E rfl (by rw [unhide HSZ]; unfold maxLen; omega) (by rw [unhide HSZ]; omega) hszW ?_; intro v3 w3 hown3 hgrow3 hnil3))
                    have hb3 := Below.grown (hbr.drew.drew) hgrow3 hszW (unhide HGE)
                    rw [unhide HSZ, unhide HSC, ← byteCells_append, ← List.length_append] at hown3
                    refine ⟨⟨pos + 4, g, l ++ runeB (r), by go_num, hown3, hb3, ?_, by omega, by rw [List.length_append]; omega, by omega⟩, by simp [intOf]; omega⟩
                    rw [unhide HF, unhide HW]
                    simp only
                    rw [if_neg (by decide), if_neg (by rw [unhide HCB]; decide)]
            · have hp3' : ¬ (pos : Int) + 3 < (t.size : Int) := by omega
              have HW := hide (unhide WC hL.1 (by omega) (by omega))
              clear hpr
              go_wp2
              go_ret3
              exact ⟨ret_decEnd (by rw [unhide HF, unhide HW, if_pos rfl]) (by decide), hbr.drew⟩
          · have hT1 : ((decide ((56320 : Int) ≤ (u : Int))) && decide ((u : Int) ≤ 57343)) = false := by simp; omega
            have hL1 : ((decide ((55296 : Int) ≤ (u : Int))) && decide ((u : Int) ≤ 56319)) = false := by simp; omega
            have hwp := unhide WP (by omega)
            have HW := hide hwp
            clear hpr
            cases hcb : charB ((u : Nat) : Int)
            · have HCB := hide hcb
              have hcr := hcb
              rw [charB_eq _ (by omega)] at hcr
              clear hcb
              go_wp2_with (go_at_call 26; refine (refIsChar_any _ _).mono ?_; rintro e w' ⟨rfl, rfl⟩; rw [hcr])
              all_goals
                go_ret3
                exact ⟨ret_decEnd (by rw [unhide HF, unhide HW]; simp only; rw [if_neg (by decide), if_pos (unhide HCB)]) (by decide), hbr.drew⟩
            · have HCB := hide hcb
              have hcr := hcb
              rw [charB_eq _ (by omega)] at hcr
              have hok := charR_ok hcr
              obtain ⟨E, hEc, hEs, hEb⟩ := encode_shut _ hok
              have HSZ := hide hEs
              have HSC := hide hEb
              clear hEs hEb
              have hrb := runeB_len (u)
              clear hcb hok
              have hownW : (wr.drew).ownsRow w.heap.size 5 1 (.slice ad l.length cp) l.length (byteCells l) := hown
              have hszW : w.heap.size ≤ (wr.drew).heap.size := hbr.size
              have HGE := hide (owns_ge hown)
              go_wp2_with (first
                | (go_at_call 26; refine (refIsChar_any _ _).mono ?_; rintro e w' ⟨rfl, rfl⟩; rw [hcr])
                | (at_builtin; refine Lib.wpList_append_own_string _ rfl _ _ 22 9 rfl w.heap.size 5 i0 Tryd.underlying22 Tryd.underlying9 hi hz0 hz1 hz2 _ l.length (byteCells l) rfl hownW E rfl (by rw [unhide HSZ]; unfold maxLen; omega) (by rw [unhide HSZ]; omega) hszW ?_; intro v3 w3 hown3 hgrow3 hnil3))
              all_goals
                have hb3 := Below.grown (hbr.drew) hgrow3 hszW (unhide HGE)
                rw [unhide HSZ, unhide HSC, ← byteCells_append, ← List.length_append] at hown3
                refine ⟨⟨pos + 2, g, l ++ runeB (u), by go_num, hown3, hb3, ?_, by omega, by rw [List.length_append]; omega, by omega⟩, by simp [intOf]; omega⟩
                rw [unhide HF, unhide HW]
                simp only
                rw [if_neg (by decide), if_neg (by rw [unhide HCB]; decide)]
      · have hp1' : ¬ (pos : Int) + 1 < (t.size : Int) := by omega
        have HW := hide (wideAt_end t pos false (by omega))
        clear hcl
        go_wp2
        go_ret3
        exact ⟨ret_decEnd (by rw [unhide HF, unhide HW, if_pos rfl]) (by decide), hbr⟩
    · have HF := hide (he.trans (decFrom_end t false f pos l hp))
      have hcv := conv_owned hown
      have hlen : (⟨l.toArray⟩ : ByteArray).size ≤ 1000000000 := by rw [size_mk]; omega
      clear he hown
      go_wp2_with fail
      refine (refEnds_any ⟨l.toArray⟩ _ hlen).mono ?_
      rintro e w2 ⟨rfl, hb2⟩
      go_wp2
      go_ret3
      exact ⟨ret_decOk (unhide HF), Below.then hbr hb2⟩
set_option maxRecDepth 100000 in
set_option maxHeartbeats 2000000 in
theorem refWide_true (b off c : Nat) (t : ByteArray) (w : World) (hs : t.size ≤ 32768) (hc1 : t.size ≤ c) (hc2 : c ≤ maxLen)
    (hc : ∀ i, i < t.size → w.cell? ⟨b, off + i, none⟩ = some (.int .u8 ((t.get! i).toNat : Int))) :
    Calls Tryd.prog 14 #[.slice (some ⟨b, off, none⟩) t.size c, .int .i64 1] w fun e w' => e = .returned (decEnd (decW t true)) ∧ Below w.heap.size w w' := by
  obtain ⟨i0, hi, hz0, hz1, hz2⟩ := info_parts (show (Tryd.prog.info? 5).map (fun i => (i.zero, i.size, i.bytes)) = some (some (.int .u8 0), 1, 1) by kernel_rfl)
  have HC := hide hc
  clear hc
  unfold maxLen at hc2
  go_enter Tryd.func14, Tryd.ntmps14
  go_wp2_with fail
  go_loopw [8, 7] (fun i v wr => ∃ (pos f : Nat) (l : List UInt8), i = .int .i64 pos ∧ wr.ownsRow w.heap.size 5 1 v l.length (byteCells l) ∧ Below w.heap.size w wr ∧ decW t true = decFrom t true f pos l ∧ t.size < pos + f ∧ l.length ≤ 4 * pos ∧ pos ≤ t.size + 2) (fun i _ _ => t.size + 2 - (intOf i).toNat)
  case atStart => exact ⟨2, t.size + 1, [], rfl, World.ownsRow_nil _ _ _ _, Below.refl _ _, rfl, by omega, by simp, by omega⟩
  case round =>
    obtain ⟨pos, f, l, rfl, hown, hbr, he, hfu, hll, hpt⟩ := hrel
    by_cases hp : pos < t.size
    · obtain ⟨g, rfl, hg⟩ := decFrom_step t true f pos l hp hfu
      have HF := hide (he.trans hg)
      clear he hg
      have hcl := argCells_below (unhide HC) hbr
      obtain ⟨ad, cp, rfl⟩ := owns_slice hown
      by_cases hp1 : pos + 1 < t.size
      · have hp1' : (pos : Int) + 1 < (t.size : Int) := by omega
        have hcA : wr.drew.cell? ⟨b, off + pos, none⟩ = _ := hcl pos hp
        have hcB : wr.drew.cell? ⟨b, off + (pos + 1), none⟩ = _ := hcl (pos + 1) hp1
        have HCL := hide hcl
        clear hcl
        have bA := (t.get! pos).toNat_lt
        have bB := (t.get! (pos + 1)).toNat_lt
        have hu : unitN t pos true = (t.get! (pos + 1)).toNat * 256 + (t.get! pos).toNat := by unfold unitN; simp
        have hor := or_unit (t.get! (pos + 1)).toNat (t.get! pos).toNat (by omega) (by omega)
        rw [← hu] at hor
        have hul := unitN_lt t pos true
        have hpr : True := trivial
        have WP := hide (wideAt_plain t pos true (by omega))
        have WT := hide (wideAt_trail t pos true)
        have WC := hide (wideAt_cut t pos true)
        have WB := hide (wideAt_bad t pos true)
        have WQ := hide (wideAt_pair t pos true)
        clear hu
        generalize unitN t pos true = u at *
        generalize (t.get! pos).toNat = x0 at *
        generalize (t.get! (pos + 1)).toNat = x1 at *
        go_wp2_with fail
        go_region
        clear hor hcA hcB
        by_cases hT : 56320 ≤ u ∧ u ≤ 57343
        · have hT1 : (56320 : Int) ≤ (u : Int) := by omega
          have hT2 : (u : Int) ≤ 57343 := by omega
          have HW := hide (unhide WT hT.1 hT.2)
          clear hpr
          go_wp2
          go_ret3
          exact ⟨ret_decEnd (by rw [unhide HF, unhide HW, if_pos rfl]) (by decide), hbr.drew⟩
        · by_cases hL : 55296 ≤ u ∧ u ≤ 56319
          · have hT1 : ¬ (56320 : Int) ≤ (u : Int) := by omega
            have hL1 : (55296 : Int) ≤ (u : Int) := by omega
            have hL2 : (u : Int) ≤ 56319 := by omega
            by_cases hp3 : pos + 3 < t.size
            · have hp3' : (pos : Int) + 3 < (t.size : Int) := by omega
              have hcA : wr.drew.drew.cell? ⟨b, off + (pos + 2), none⟩ = _ := unhide HCL (pos + 2) (by omega)
              have hcB : wr.drew.drew.cell? ⟨b, off + (pos + 3), none⟩ = _ := unhide HCL (pos + 3) (by omega)
              have bC := (t.get! (pos + 2)).toNat_lt
              have bD := (t.get! (pos + 3)).toNat_lt
              have hv : unitN t (pos + 2) true = (t.get! (pos + 3)).toNat * 256 + (t.get! (pos + 2)).toNat := by unfold unitN; simp
              have hor := or_unit (t.get! (pos + 3)).toNat (t.get! (pos + 2)).toNat (by omega) (by omega)
              rw [← hv] at hor
              have hvl := unitN_lt t (pos + 2) true
              clear hv
              generalize unitN t (pos + 2) true = v at *
              generalize (t.get! (pos + 2)).toNat = x2 at *
              generalize (t.get! (pos + 3)).toNat = x3 at *
              go_wp2_with fail
              go_region
              clear hor hcA hcB
              by_cases hV1 : v < 56320
              · have hV1' : (v : Int) < 56320 := by omega
                have HW := hide (unhide WB (by omega) hL.1 (by omega) (.inl hV1))
                clear hpr
                go_wp2
                go_ret3
                exact ⟨ret_decEnd (by rw [unhide HF, unhide HW, if_pos rfl]) (by decide), hbr.drew.drew⟩
              · by_cases hV2 : 57343 < v
                · have hV1' : ¬ (v : Int) < 56320 := by omega
                  have hV2' : (57343 : Int) < (v : Int) := by omega
                  have HW := hide (unhide WB (by omega) hL.1 (by omega) (.inr hV2))
                  clear hpr
                  go_wp2
                  go_ret3
                  exact ⟨ret_decEnd (by rw [unhide HF, unhide HW, if_pos rfl]) (by decide), hbr.drew.drew⟩
                · have hV1' : ¬ (v : Int) < 56320 := by omega
                  have hV2' : ¬ (57343 : Int) < (v : Int) := by omega
                  obtain ⟨r, hr⟩ : ∃ r, r = 65536 + (u - 55296) * 1024 + (v - 56320) := ⟨_, rfl⟩
                  have hri : (65536 : Int) + ((u : Int) - 55296) * 1024 + ((v : Int) - 56320) = (r : Int) := by omega
                  have hwq := unhide WQ (by omega) hL.1 hL.2 (by omega) (by omega)
                  rw [← hr] at hwq
                  have hrl : r ≤ 1114111 := by omega
                  clear hr
                  have HW := hide hwq
                  clear hpr
                  cases hcb : charB ((r : Nat) : Int)
                  · have HCB := hide hcb
                    have hcr := hcb
                    rw [charB_eq _ (by omega)] at hcr
                    clear hcb
                    go_wp2_with (go_at_call 26; refine (refIsChar_any _ _).mono ?_; rintro e w' ⟨rfl, rfl⟩; rw [hcr])
                    go_ret3
                    exact ⟨ret_decEnd (by rw [unhide HF, unhide HW]; simp only; rw [if_neg (by decide), if_pos (unhide HCB)]) (by decide), hbr.drew.drew⟩
                  · have HCB := hide hcb
                    have hcr := hcb
                    rw [charB_eq _ (by omega)] at hcr
                    have hok := charR_ok hcr
                    obtain ⟨E, hEc, hEs, hEb⟩ := encode_shut _ hok
                    have HSZ := hide hEs
                    have HSC := hide hEb
                    clear hEs hEb
                    have hrb := runeB_len (r)
                    clear hcb hok
                    have hownW : (wr.drew.drew).ownsRow w.heap.size 5 1 (.slice ad l.length cp) l.length (byteCells l) := hown
                    have hszW : w.heap.size ≤ (wr.drew.drew).heap.size := hbr.size
                    have HGE := hide (owns_ge hown)
                    go_wp2_with (first
                      | (go_at_call 26; refine (refIsChar_any _ _).mono ?_; rintro e w' ⟨rfl, rfl⟩; rw [hcr])
                      | (at_builtin; refine Lib.wpList_append_own_string _ rfl _ _ 22 9 rfl w.heap.size 5 i0 Tryd.underlying22 Tryd.underlying9 hi hz0 hz1 hz2 _ l.length (byteCells l) rfl hownW E rfl (by rw [unhide HSZ]; unfold maxLen; omega) (by rw [unhide HSZ]; omega) hszW ?_; intro v3 w3 hown3 hgrow3 hnil3))
                    have hb3 := Below.grown (hbr.drew.drew) hgrow3 hszW (unhide HGE)
                    rw [unhide HSZ, unhide HSC, ← byteCells_append, ← List.length_append] at hown3
                    refine ⟨⟨pos + 4, g, l ++ runeB (r), by go_num, hown3, hb3, ?_, by omega, by rw [List.length_append]; omega, by omega⟩, by simp [intOf]; omega⟩
                    rw [unhide HF, unhide HW]
                    simp only
                    rw [if_neg (by decide), if_neg (by rw [unhide HCB]; decide)]
            · have hp3' : ¬ (pos : Int) + 3 < (t.size : Int) := by omega
              have HW := hide (unhide WC hL.1 (by omega) (by omega))
              clear hpr
              go_wp2
              go_ret3
              exact ⟨ret_decEnd (by rw [unhide HF, unhide HW, if_pos rfl]) (by decide), hbr.drew⟩
          · have hT1 : ((decide ((56320 : Int) ≤ (u : Int))) && decide ((u : Int) ≤ 57343)) = false := by simp; omega
            have hL1 : ((decide ((55296 : Int) ≤ (u : Int))) && decide ((u : Int) ≤ 56319)) = false := by simp; omega
            have hwp := unhide WP (by omega)
            have HW := hide hwp
            clear hpr
            cases hcb : charB ((u : Nat) : Int)
            · have HCB := hide hcb
              have hcr := hcb
              rw [charB_eq _ (by omega)] at hcr
              clear hcb
              go_wp2_with (go_at_call 26; refine (refIsChar_any _ _).mono ?_; rintro e w' ⟨rfl, rfl⟩; rw [hcr])
              all_goals
                go_ret3
                exact ⟨ret_decEnd (by rw [unhide HF, unhide HW]; simp only; rw [if_neg (by decide), if_pos (unhide HCB)]) (by decide), hbr.drew⟩
            · have HCB := hide hcb
              have hcr := hcb
              rw [charB_eq _ (by omega)] at hcr
              have hok := charR_ok hcr
              obtain ⟨E, hEc, hEs, hEb⟩ := encode_shut _ hok
              have HSZ := hide hEs
              have HSC := hide hEb
              clear hEs hEb
              have hrb := runeB_len (u)
              clear hcb hok
              have hownW : (wr.drew).ownsRow w.heap.size 5 1 (.slice ad l.length cp) l.length (byteCells l) := hown
              have hszW : w.heap.size ≤ (wr.drew).heap.size := hbr.size
              have HGE := hide (owns_ge hown)
              go_wp2_with (first
                | (go_at_call 26; refine (refIsChar_any _ _).mono ?_; rintro e w' ⟨rfl, rfl⟩; rw [hcr])
                | (at_builtin; refine Lib.wpList_append_own_string _ rfl _ _ 22 9 rfl w.heap.size 5 i0 Tryd.underlying22 Tryd.underlying9 hi hz0 hz1 hz2 _ l.length (byteCells l) rfl hownW E rfl (by rw [unhide HSZ]; unfold maxLen; omega) (by rw [unhide HSZ]; omega) hszW ?_; intro v3 w3 hown3 hgrow3 hnil3))
              all_goals
                have hb3 := Below.grown (hbr.drew) hgrow3 hszW (unhide HGE)
                rw [unhide HSZ, unhide HSC, ← byteCells_append, ← List.length_append] at hown3
                refine ⟨⟨pos + 2, g, l ++ runeB (u), by go_num, hown3, hb3, ?_, by omega, by rw [List.length_append]; omega, by omega⟩, by simp [intOf]; omega⟩
                rw [unhide HF, unhide HW]
                simp only
                rw [if_neg (by decide), if_neg (by rw [unhide HCB]; decide)]
      · have hp1' : ¬ (pos : Int) + 1 < (t.size : Int) := by omega
        have HW := hide (wideAt_end t pos true (by omega))
        clear hcl
        go_wp2
        go_ret3
        exact ⟨ret_decEnd (by rw [unhide HF, unhide HW, if_pos rfl]) (by decide), hbr⟩
    · have HF := hide (he.trans (decFrom_end t true f pos l hp))
      have hcv := conv_owned hown
      have hlen : (⟨l.toArray⟩ : ByteArray).size ≤ 1000000000 := by rw [size_mk]; omega
      clear he hown
      go_wp2_with fail
      refine (refEnds_any ⟨l.toArray⟩ _ hlen).mono ?_
      rintro e w2 ⟨rfl, hb2⟩
      go_wp2
      go_ret3
      exact ⟨ret_decOk (unhide HF), Below.then hbr hb2⟩
end Go.Proofs.YtdoobohdddghbaaDoor
