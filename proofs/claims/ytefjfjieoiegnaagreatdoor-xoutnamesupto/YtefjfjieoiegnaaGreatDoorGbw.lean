/- Several texts, laid as one. -/
import Derived.Test.YtefjfjieoiegnaaGreatDoorGax
import Derived.Test.YtefjfjieoiegnaaGreatDoorGbv
import Derived.Lib.MapLaws
import Derived.Test.YtefjfjieoiegnaaGreatDoorGak
import Derived.Lib.LaidU8
import Derived.HandedShaped
import Derived.WalkKit
import Derived.ProofKit
import Derived.OpenShut
import Derived.ShutString
import Derived.Deep.DeepHandedRow
import Derived.Lib.LaidTab
/- Which names are void, raw, short, by the reference: stencilref10's lower, among, Void, Raw, Short. -/
namespace Go.Proofs.YtefjfjieoiegnaaGreatDoor
open Go.RowKit
theorem low_one (c : UInt8) (h : c.toNat < 128) : Lib.encodeRune (lowZ c.toNat) = [lowU c] := by
  have h1 := lowU_nat c
  unfold lowC at h1
  have h0 : 0 ≤ lowZ c.toNat ∧ lowZ c.toNat ≤ 127 ∧ lowZ c.toNat = ((lowU c).toNat : Int) := by
    unfold lowZ
    rw [h1]
    split <;> split <;> omega
  unfold Lib.encodeRune
  rw [Lib.encodeRuneZ_one h0.1 h0.2.1, List.map_cons, List.map_nil, Lib.toByte _ (lowU c) h0.2.2]
theorem low_high (l : List UInt8) (h : ¬ (l.getD 0 0).toNat < 128) : 128 ≤ (Lib.decodeL l).1 := by
  rw [Lib.decodeL_N]
  rcases Lib.decodeN_shape l.length (l.getD 0 0).toNat (l.getD 1 0).toNat (l.getD 2 0).toNat (l.getD 3 0).toNat with ⟨c, e⟩ | ⟨c1, c2, c3, cv, e⟩ | ⟨c1, c2, c3, c4, cv, cs, e⟩ | ⟨c1, c2, c3, c4, c5, cv, cw, e⟩ | e
  · exact absurd c h
  all_goals (rw [e]; dsimp only; omega)
theorem enc_high (r : Nat) (h : 128 ≤ r) : ∃ c t, Lib.encodeRune (r : Int) = c :: t ∧ 128 ≤ c.toNat := by
  unfold Lib.encodeRune Lib.encodeRuneZ
  have ho : ∀ z : Int, 128 ≤ z → z ≤ 255 → 128 ≤ z.toNat.toUInt8.toNat := fun z h1 h2 => by
    have e : z.toNat.toUInt8.toNat = z.toNat % 256 := rfl
    rw [e]; omega
  rw [if_neg (by omega)]
  split
  · exact ⟨_, _, rfl, ho _ (by omega) (by omega)⟩
  · split
    · exact ⟨_, _, rfl, ho _ (by omega) (by omega)⟩
    · split
      · exact ⟨_, _, rfl, ho _ (by omega) (by omega)⟩
      · exact ⟨_, _, rfl, ho _ (by decide) (by decide)⟩
/-- A word of small letters: the library's way to it and the reference's are one. -/
theorem mapD_low : ∀ (n : Nat) (l w : List UInt8), l.length ≤ n → (∀ c ∈ w, c.toNat < 128) → (Lib.mapD lowZ l = w ↔ l.map lowU = w)
  | 0, l, w, hn, _ => by
    have : l = [] := List.eq_nil_of_length_eq_zero (by omega)
    subst this
    exact Iff.rfl
  | n + 1, [], w, _, _ => Iff.rfl
  | n + 1, c :: r, w, hn, hw => by
    have hne : c :: r ≠ [] := by simp
    by_cases hc : c.toNat < 128
    · have hd : Lib.decodeL (c :: r) = (c.toNat, 1) := by
        rw [Lib.decodeL_N]
        unfold Lib.decodeN
        show (if c.toNat < 128 then _ else _) = _
        rw [if_pos hc]
        rfl
      have hm : Lib.mapD lowZ (c :: r) = lowU c :: Lib.mapD lowZ r := by
        rw [Lib.mapD_step lowZ _ hne, hd]
        dsimp only
        rw [if_pos (by unfold lowZ; split <;> omega), low_one c hc]
        rfl
      rw [hm, List.map_cons]
      cases w with
      | nil => exact ⟨(fun h => by cases h), (fun h => by cases h)⟩
      | cons y w =>
        have ih := mapD_low n r w (by simpa using hn) (fun x hx => hw x (List.mem_cons_of_mem _ hx))
        constructor
        · intro h
          injection h with h1 h2
          rw [h1, ih.1 h2]
        · intro h
          injection h with h1 h2
          rw [h1, ih.2 h2]
    · have h1 := low_high (c :: r) hc
      obtain ⟨x, t, hx, hx2⟩ := enc_high _ h1
      have hz : lowZ ((Lib.decodeL (c :: r)).1 : Int) = ((Lib.decodeL (c :: r)).1 : Int) := by unfold lowZ; rw [if_neg (by omega)]
      have hm : Lib.mapD lowZ (c :: r) = x :: (t ++ Lib.mapD lowZ ((c :: r).drop (Lib.decodeL (c :: r)).2)) := by
        rw [Lib.mapD_step lowZ _ hne, hz, if_pos (by omega), hx]
        rfl
      have hlc : lowU c = c := by unfold lowU; rw [if_neg (by omega)]
      rw [hm, List.map_cons, hlc]
      cases w with
      | nil => exact ⟨(fun h => by cases h), (fun h => by cases h)⟩
      | cons y w =>
        have hy := hw y (List.mem_cons_self ..)
        constructor
        · intro h
          injection h with h1 _
          rw [h1] at hx2; omega
        · intro h
          injection h with h1 _
          rw [h1] at hc; exact absurd hy hc
theorem words_low (L : List (List UInt8)) (hL : ∀ w ∈ L, ∀ c ∈ w, c.toNat < 128) (l : List UInt8) : L.contains (Lib.mapD lowZ l) = L.contains (l.map lowU) := by
  rw [Bool.eq_iff_iff, List.contains_iff_mem, List.contains_iff_mem]
  constructor
  · intro h
    rw [(mapD_low l.length l _ (Nat.le_refl _) (hL _ h)).1 rfl]
    exact h
  · intro h
    rw [(mapD_low l.length l _ (Nat.le_refl _) (hL _ h)).2 rfl]
    exact h
theorem void_low (s : ByteArray) : voidB s = voidL.contains (s.data.toList.map lowU) := words_low voidL (by decide) _
theorem raw_low (s : ByteArray) : rawB s = rawL.contains (s.data.toList.map lowU) := words_low rawL (by decide) _
theorem short_low (s : ByteArray) : shortB s = shortL.contains (s.data.toList.map lowU) := words_low shortL (by decide) _
set_option maxRecDepth 100000 in
set_option maxHeartbeats 4000000 in
theorem refLowS_any (s : ByteArray) (w : World) (hs : s.size ≤ 1048576) :
    Calls Tryz.prog 37 #[.string s] w fun e w' => e = .returned (.string ⟨(s.data.toList.map lowU).toArray⟩) ∧ Below w.heap.size w w' := by
  have hi0 : (Tryz.prog.info? 5).map (fun i => (i.zero, i.size, i.bytes)) = some (some (.int .u8 0), 1, 1) := by kernel_rfl
  obtain ⟨i0, hi, hz0, hz1, hz2⟩ := info_parts hi0
  clear hi0
  go_enter Tryz.func37, Tryz.ntmps37
  go_wp2_with fail
  go_loopw [3, 4] (fun s3 i wr => ∃ k : Nat, i = .int .i64 (k : Nat) ∧ k ≤ s.size ∧ wr.ownsRow w.heap.size 5 1 s3 k (byteCells ((s.data.toList.take k).map lowU)) ∧ Below w.heap.size w wr) (fun _ i _ => s.size - (intOf i).toNat)
  case atStart => exact ⟨0, rfl, Nat.zero_le _, World.ownsRow_nil _ _ _ _, Below.refl _ _⟩
  case round =>
    obtain ⟨k, rfl, hk, hown, hbr⟩ := hrel
    by_cases hlt : k < s.size
    · obtain ⟨ad, c, rfl⟩ := owns_slice hown
      have hsz := hbr.size
      have hk1 : s.data.toList[k]? = some s[k] := List.getElem?_eq_getElem (l := s.data.toList) hlt
      have htk : byteCells ((s.data.toList.take (k + 1)).map lowU) = byteCells ((s.data.toList.take k).map lowU) ++ [.int .u8 ((lowU s[k]).toNat : Nat)] := by
        rw [List.take_add_one, hk1]
        simp [byteCells]
      have hlow := lowU_nat s[k]
      have n1 : (0 : Int) ≤ (k : Int) := by omega
      have n2 : (k : Int) < (s.size : Int) := by omega
      have h256 : s[k].toNat < 256 := s[k].toNat_lt
      by_cases hu : 65 ≤ s[k].toNat ∧ s[k].toNat ≤ 90
      · obtain ⟨u1, u2⟩ := hu
        have HTK : Hid (byteCells ((s.data.toList.take (k + 1)).map lowU) = byteCells ((s.data.toList.take k).map lowU) ++ [.int .u8 ((s[k].toNat : Int) + 32)]) := hide (by
          rw [htk, hlow]
          unfold lowC
          rw [if_pos ⟨u1, u2⟩]
          rfl)
        have d1 : (65 : Int) ≤ (s[k].toNat : Int) := by omega
        have d2 : (s[k].toNat : Int) ≤ 90 := by omega
        have d3 : IntKind.u8.wrap ((s[k].toNat : Int) + 32) = (s[k].toNat : Int) + 32 := by
          show ((s[k].toNat : Int) + 32) % 256 = _
          omega
        clear htk hlow hk1 u1 u2
        go_wp2_with (at_builtin; refine wpList_append_own _ rfl _ _ 48 rfl w.heap.size 5 i0 (.int .u8 0) 1 1 Tryz.underlying48 hi hz0 hz1 hz2 rfl (by decide) _ _ _ rfl (hown.alloc _) ⟨wr.heap.size, 0, none⟩ 1 1 [.int .u8 ((s[k].toNat : Int) + 32)] rfl rfl (cell_one_new _ _ _) (fun x hx => by simp at hx; subst hx; rfl) (by unfold maxLen; omega) (by omega) (by simp; omega) ?_; intro v2 w2 hown2 hgrow2 _)
        have b2 := Below.grown (hbr.alloc hsz _) hgrow2 (by simp; omega) (owns_ge hown)
        refine ⟨⟨k + 1, by go_num, by omega, ?_, b2⟩, by simp [intOf]; omega⟩
        rw [unhide HTK]
        exact hown2
      · have HTK : Hid (byteCells ((s.data.toList.take (k + 1)).map lowU) = byteCells ((s.data.toList.take k).map lowU) ++ [.int .u8 (s[k].toNat : Nat)]) := hide (by
          rw [htk, hlow]
          unfold lowC
          rw [if_neg hu])
        by_cases h65 : 65 ≤ s[k].toNat
        · have d1 : (65 : Int) ≤ (s[k].toNat : Int) := by omega
          have d2 : ¬ (s[k].toNat : Int) ≤ 90 := by omega
          clear htk hlow hk1 hu h65
          go_wp2_with (at_builtin; refine wpList_append_own _ rfl _ _ 48 rfl w.heap.size 5 i0 (.int .u8 0) 1 1 Tryz.underlying48 hi hz0 hz1 hz2 rfl (by decide) _ _ _ rfl (hown.alloc _) ⟨wr.heap.size, 0, none⟩ 1 1 [.int .u8 (s[k].toNat : Nat)] rfl rfl (cell_one_new _ _ _) (fun x hx => by simp at hx; subst hx; rfl) (by unfold maxLen; omega) (by omega) (by simp; omega) ?_; intro v2 w2 hown2 hgrow2 _)
          have b2 := Below.grown (hbr.alloc hsz _) hgrow2 (by simp; omega) (owns_ge hown)
          refine ⟨⟨k + 1, by go_num, by omega, ?_, b2⟩, by simp [intOf]; omega⟩
          rw [unhide HTK]
          exact hown2
        · have d1 : ¬ (65 : Int) ≤ (s[k].toNat : Int) := by omega
          clear htk hlow hk1 hu h65
          go_wp2_with (at_builtin; refine wpList_append_own _ rfl _ _ 48 rfl w.heap.size 5 i0 (.int .u8 0) 1 1 Tryz.underlying48 hi hz0 hz1 hz2 rfl (by decide) _ _ _ rfl (hown.alloc _) ⟨wr.heap.size, 0, none⟩ 1 1 [.int .u8 (s[k].toNat : Nat)] rfl rfl (cell_one_new _ _ _) (fun x hx => by simp at hx; subst hx; rfl) (by unfold maxLen; omega) (by omega) (by simp; omega) ?_; intro v2 w2 hown2 hgrow2 _)
          have b2 := Below.grown (hbr.alloc hsz _) hgrow2 (by simp; omega) (owns_ge hown)
          refine ⟨⟨k + 1, by go_num, by omega, ?_, b2⟩, by simp [intOf]; omega⟩
          rw [unhide HTK]
          exact hown2
    · have hke : k = s.size := by omega
      subst hke
      rw [List.take_of_length_le (show s.data.toList.length ≤ s.size from Nat.le_refl _)] at hown
      have hl : ((s.data.toList.map lowU).length) = s.size := by rw [List.length_map]; rfl
      rw [← hl] at hown
      have hcv := conv_owned hown
      have n2 : ¬ (s.size : Int) < (s.size : Int) := by omega
      clear hown
      go_wp2
      go_ret
      exact ⟨rfl, hbr⟩

def amongB (L : List ByteArray) (x : List UInt8) : Bool := L.any fun y => y.toList == x
theorem among_none {L : List ByteArray} {x : List UInt8} (h : ∀ y ∈ L, (y.toList == x) = false) : amongB L x = false := by
  unfold amongB
  rw [List.any_eq_false]
  intro y hy
  rw [h y hy]
  decide
set_option maxRecDepth 100000 in
set_option maxHeartbeats 4000000 in
theorem among_any (s : ByteArray) (L : List ByteArray) (g cap : Nat) (w : World) (hs : s.size ≤ 1048576) (hn : L.length ≤ 1000) (hL : ∀ (i : Nat) (x : ByteArray), L[i]? = some x → w.cell? ⟨g, i, none⟩ = some (.string x)) :
    Calls Tryz.prog 22 #[.string s, .slice (some ⟨g, 0, none⟩) L.length cap] w fun e w' => e = .returned (.bool (amongB L (s.data.toList.map lowU))) ∧ Below w.heap.size w w' := by
  have HL := hide hL
  have HLO : Hid (∀ W, Calls Tryz.prog 37 #[.string s] W fun e w' => e = .returned (.string ⟨(s.data.toList.map lowU).toArray⟩) ∧ Below W.heap.size W w') := hide fun W => refLowS_any s W hs
  have hX : (⟨(s.data.toList.map lowU).toArray⟩ : ByteArray).toList = s.data.toList.map lowU := by simp [ByteArray.toList_eq]
  have HX := hide hX
  generalize s.data.toList.map lowU = x at *
  obtain ⟨X, hXe⟩ : ∃ X : ByteArray, X = ⟨x.toArray⟩ := ⟨_, rfl⟩
  rw [← hXe] at HLO HX
  obtain ⟨N, hN⟩ : ∃ N, N = L.length := ⟨_, rfl⟩
  have HN := hide hN
  rw [← hN] at hn ⊢
  clear hL hX hXe hN
  go_enter Tryz.func22, Tryz.ntmps22
  go_wp2_with fail
  go_loopw [5] (fun i wr => ∃ k : Nat, i = .int .i64 (k : Nat) ∧ k ≤ N ∧ Hid (∀ y ∈ L.take k, (y.toList == x) = false) ∧ Below w.heap.size w wr) (fun i _ => N - (intOf i).toNat)
  case atStart => exact ⟨0, rfl, Nat.zero_le _, hide (fun y hy => by cases hy), Below.refl _ _⟩
  case round =>
    obtain ⟨k, rfl, hk, hno, hbr⟩ := hrel
    by_cases hlt : k < N
    · obtain ⟨y, hy⟩ : ∃ y, L[k]? = some y := ⟨L[k]'(by rw [← unhide HN]; exact hlt), List.getElem?_eq_getElem _⟩
      have hc := keptC hbr (unhide HL k y hy)
      have HC := hide hc
      have HY := hide hy
      have n1 : (0 : Int) ≤ (k : Int) := by omega
      have n2 : (k : Int) < (N : Int) := by omega
      have n3 : (N : Int) ≤ 1000 := by omega
      clear hy
      cases hq : (y.toList == X.toList) with
      | true =>
        have HYES : Hid (amongB L x = true) := hide (by
          unfold amongB
          rw [List.any_eq_true]
          exact ⟨y, List.mem_of_getElem? (unhide HY), by rw [← unhide HX]; exact hq⟩)
        go_wp2_with fail
        go_region_with (first
          | (go_at_call 37; refine (unhide HLO _).mono ?_; rintro e w1 ⟨rfl, hb1⟩; have hc1 := keptC hb1 (unhide HC); have hb2 := Below.then hbr.drew hb1))
        all_goals (try go_wp2_with fail)
        all_goals (go_ret; exact ⟨congrArg (fun b => Ending.returned (Value.bool b)) (unhide HYES).symm, hb2⟩)
      | false =>
        have HQ := hide hq
        go_wp2_with fail
        go_region_with (first
          | (go_at_call 37; refine (unhide HLO _).mono ?_; rintro e w1 ⟨rfl, hb1⟩; have hc1 := keptC hb1 (unhide HC); have hb2 := Below.then hbr.drew hb1))
        all_goals (try go_wp2_with fail)
        all_goals (refine ⟨⟨k + 1, rfl, by omega, hide (fun z hz => ?_), hb2⟩, by simp [intOf]; omega⟩)
        all_goals
          obtain ⟨hk2, he2⟩ := List.getElem?_eq_some_iff.1 (unhide HY)
          rw [List.take_succ_eq_append_getElem hk2, he2] at hz
          rcases List.mem_append.1 hz with hz | hz
          · exact unhide hno z hz
          · rw [List.mem_singleton.1 hz, ← unhide HX]
            exact unhide HQ
    · have n2 : ¬ (k : Int) < (N : Int) := by omega
      have HK : Hid (k = N) := hide (by omega)
      go_wp2_with fail
      go_ret
      have hno' := unhide hno
      rw [unhide HK, unhide HN, List.take_length] at hno'
      rw [among_none hno']
      exact ⟨rfl, hbr⟩
def wordsB (L : List (List UInt8)) : List ByteArray := L.map fun y => ⟨y.toArray⟩
theorem among_words (L : List (List UInt8)) (x : List UInt8) : amongB (wordsB L) x = L.contains x := by
  unfold amongB wordsB
  rw [List.any_map, Bool.eq_iff_iff, List.any_eq_true, List.contains_iff_mem]
  constructor
  · rintro ⟨y, hy, h⟩
    have h1 := eq_of_beq h
    rw [ByteArray.toList_eq] at h1
    have h2 : y = x := by simpa using h1
    rw [← h2]
    exact hy
  · intro h
    exact ⟨x, h, by simp [ByteArray.toList_eq]⟩
theorem strs_new (W : World) (ps : List ByteArray) (T : TypeId) (i : Nat) (x : ByteArray) (h : ps[i]? = some x) : (W.alloc (.cells (ps.map Value.string).toArray T)).cell? ⟨W.heap.size, i, none⟩ = some (.string x) := by
  rw [World.cell?_alloc_new]
  simp [h]
set_option maxRecDepth 100000 in
set_option maxHeartbeats 4000000 in
theorem refVoid_any (s : ByteArray) (w : World) (hs : s.size ≤ 1048576) :
    Calls Tryz.prog 11 #[.string s] w fun e w' => e = .returned (.bool (voidB s)) ∧ Below w.heap.size w w' := by
  have hbA : Below w.heap.size w (w.alloc (.cells #[.string ⟨#[97, 114, 101, 97]⟩, .string ⟨#[98, 97, 115, 101]⟩, .string ⟨#[98, 114]⟩, .string ⟨#[99, 111, 108]⟩, .string ⟨#[101, 109, 98, 101, 100]⟩, .string ⟨#[104, 114]⟩, .string ⟨#[105, 109, 103]⟩, .string ⟨#[105, 110, 112, 117, 116]⟩, .string ⟨#[108, 105, 110, 107]⟩, .string ⟨#[109, 101, 116, 97]⟩, .string ⟨#[115, 111, 117, 114, 99, 101]⟩, .string ⟨#[116, 114, 97, 99, 107]⟩, .string ⟨#[119, 98, 114]⟩] 9)) := (Below.refl _ _).alloc (Nat.le_refl _) _
  have HB := hide hbA
  have HA : Hid (Calls Tryz.prog 22 #[.string s, .slice (some ⟨w.heap.size, 0, none⟩) 13 13] (w.alloc (.cells #[.string ⟨#[97, 114, 101, 97]⟩, .string ⟨#[98, 97, 115, 101]⟩, .string ⟨#[98, 114]⟩, .string ⟨#[99, 111, 108]⟩, .string ⟨#[101, 109, 98, 101, 100]⟩, .string ⟨#[104, 114]⟩, .string ⟨#[105, 109, 103]⟩, .string ⟨#[105, 110, 112, 117, 116]⟩, .string ⟨#[108, 105, 110, 107]⟩, .string ⟨#[109, 101, 116, 97]⟩, .string ⟨#[115, 111, 117, 114, 99, 101]⟩, .string ⟨#[116, 114, 97, 99, 107]⟩, .string ⟨#[119, 98, 114]⟩] 9)) fun e w' => e = .returned (.bool (amongB (wordsB voidL) (s.data.toList.map lowU))) ∧ Below (w.alloc (.cells #[.string ⟨#[97, 114, 101, 97]⟩, .string ⟨#[98, 97, 115, 101]⟩, .string ⟨#[98, 114]⟩, .string ⟨#[99, 111, 108]⟩, .string ⟨#[101, 109, 98, 101, 100]⟩, .string ⟨#[104, 114]⟩, .string ⟨#[105, 109, 103]⟩, .string ⟨#[105, 110, 112, 117, 116]⟩, .string ⟨#[108, 105, 110, 107]⟩, .string ⟨#[109, 101, 116, 97]⟩, .string ⟨#[115, 111, 117, 114, 99, 101]⟩, .string ⟨#[116, 114, 97, 99, 107]⟩, .string ⟨#[119, 98, 114]⟩] 9)).heap.size (w.alloc (.cells #[.string ⟨#[97, 114, 101, 97]⟩, .string ⟨#[98, 97, 115, 101]⟩, .string ⟨#[98, 114]⟩, .string ⟨#[99, 111, 108]⟩, .string ⟨#[101, 109, 98, 101, 100]⟩, .string ⟨#[104, 114]⟩, .string ⟨#[105, 109, 103]⟩, .string ⟨#[105, 110, 112, 117, 116]⟩, .string ⟨#[108, 105, 110, 107]⟩, .string ⟨#[109, 101, 116, 97]⟩, .string ⟨#[115, 111, 117, 114, 99, 101]⟩, .string ⟨#[116, 114, 97, 99, 107]⟩, .string ⟨#[119, 98, 114]⟩] 9)) w') := hide (among_any s (wordsB voidL) w.heap.size 13 _ hs (by decide) (fun i x h => strs_new w _ _ i x h))
  rw [among_words, ← void_low] at HA
  clear hbA
  go_enter Tryz.func11, Tryz.ntmps11
  go_wp2_with fail
  refine (unhide HA).mono ?_
  rintro e w1 ⟨rfl, hb1⟩
  go_wp2
  go_ret
  exact ⟨rfl, Below.then (unhide HB) hb1⟩
set_option maxRecDepth 100000 in
set_option maxHeartbeats 4000000 in
theorem refRaw_any (s : ByteArray) (w : World) (hs : s.size ≤ 1048576) :
    Calls Tryz.prog 13 #[.string s] w fun e w' => e = .returned (.bool (rawB s)) ∧ Below w.heap.size w w' := by
  have hbA : Below w.heap.size w (w.alloc (.cells #[.string ⟨#[115, 99, 114, 105, 112, 116]⟩, .string ⟨#[115, 116, 121, 108, 101]⟩] 9)) := (Below.refl _ _).alloc (Nat.le_refl _) _
  have HB := hide hbA
  have HA : Hid (Calls Tryz.prog 22 #[.string s, .slice (some ⟨w.heap.size, 0, none⟩) 2 2] (w.alloc (.cells #[.string ⟨#[115, 99, 114, 105, 112, 116]⟩, .string ⟨#[115, 116, 121, 108, 101]⟩] 9)) fun e w' => e = .returned (.bool (amongB (wordsB rawL) (s.data.toList.map lowU))) ∧ Below (w.alloc (.cells #[.string ⟨#[115, 99, 114, 105, 112, 116]⟩, .string ⟨#[115, 116, 121, 108, 101]⟩] 9)).heap.size (w.alloc (.cells #[.string ⟨#[115, 99, 114, 105, 112, 116]⟩, .string ⟨#[115, 116, 121, 108, 101]⟩] 9)) w') := hide (among_any s (wordsB rawL) w.heap.size 2 _ hs (by decide) (fun i x h => strs_new w _ _ i x h))
  rw [among_words, ← raw_low] at HA
  clear hbA
  go_enter Tryz.func13, Tryz.ntmps13
  go_wp2_with fail
  refine (unhide HA).mono ?_
  rintro e w1 ⟨rfl, hb1⟩
  go_wp2
  go_ret
  exact ⟨rfl, Below.then (unhide HB) hb1⟩
set_option maxRecDepth 100000 in
set_option maxHeartbeats 4000000 in
theorem refShort_any (s : ByteArray) (w : World) (hs : s.size ≤ 1048576) :
    Calls Tryz.prog 15 #[.string s] w fun e w' => e = .returned (.bool (shortB s)) ∧ Below w.heap.size w w' := by
  have hbA : Below w.heap.size w (w.alloc (.cells #[.string ⟨#[99, 104, 101, 99, 107, 101, 100]⟩, .string ⟨#[99, 111, 109, 112, 97, 99, 116]⟩, .string ⟨#[100, 101, 99, 108, 97, 114, 101]⟩, .string ⟨#[100, 101, 102, 101, 114]⟩, .string ⟨#[100, 105, 115, 97, 98, 108, 101, 100]⟩, .string ⟨#[105, 115, 109, 97, 112]⟩, .string ⟨#[109, 117, 108, 116, 105, 112, 108, 101]⟩, .string ⟨#[110, 111, 104, 114, 101, 102]⟩, .string ⟨#[110, 111, 114, 101, 115, 105, 122, 101]⟩, .string ⟨#[110, 111, 115, 104, 97, 100, 101]⟩, .string ⟨#[110, 111, 119, 114, 97, 112]⟩, .string ⟨#[114, 101, 97, 100, 111, 110, 108, 121]⟩, .string ⟨#[115, 101, 108, 101, 99, 116, 101, 100]⟩] 9)) := (Below.refl _ _).alloc (Nat.le_refl _) _
  have HB := hide hbA
  have HA : Hid (Calls Tryz.prog 22 #[.string s, .slice (some ⟨w.heap.size, 0, none⟩) 13 13] (w.alloc (.cells #[.string ⟨#[99, 104, 101, 99, 107, 101, 100]⟩, .string ⟨#[99, 111, 109, 112, 97, 99, 116]⟩, .string ⟨#[100, 101, 99, 108, 97, 114, 101]⟩, .string ⟨#[100, 101, 102, 101, 114]⟩, .string ⟨#[100, 105, 115, 97, 98, 108, 101, 100]⟩, .string ⟨#[105, 115, 109, 97, 112]⟩, .string ⟨#[109, 117, 108, 116, 105, 112, 108, 101]⟩, .string ⟨#[110, 111, 104, 114, 101, 102]⟩, .string ⟨#[110, 111, 114, 101, 115, 105, 122, 101]⟩, .string ⟨#[110, 111, 115, 104, 97, 100, 101]⟩, .string ⟨#[110, 111, 119, 114, 97, 112]⟩, .string ⟨#[114, 101, 97, 100, 111, 110, 108, 121]⟩, .string ⟨#[115, 101, 108, 101, 99, 116, 101, 100]⟩] 9)) fun e w' => e = .returned (.bool (amongB (wordsB shortL) (s.data.toList.map lowU))) ∧ Below (w.alloc (.cells #[.string ⟨#[99, 104, 101, 99, 107, 101, 100]⟩, .string ⟨#[99, 111, 109, 112, 97, 99, 116]⟩, .string ⟨#[100, 101, 99, 108, 97, 114, 101]⟩, .string ⟨#[100, 101, 102, 101, 114]⟩, .string ⟨#[100, 105, 115, 97, 98, 108, 101, 100]⟩, .string ⟨#[105, 115, 109, 97, 112]⟩, .string ⟨#[109, 117, 108, 116, 105, 112, 108, 101]⟩, .string ⟨#[110, 111, 104, 114, 101, 102]⟩, .string ⟨#[110, 111, 114, 101, 115, 105, 122, 101]⟩, .string ⟨#[110, 111, 115, 104, 97, 100, 101]⟩, .string ⟨#[110, 111, 119, 114, 97, 112]⟩, .string ⟨#[114, 101, 97, 100, 111, 110, 108, 121]⟩, .string ⟨#[115, 101, 108, 101, 99, 116, 101, 100]⟩] 9)).heap.size (w.alloc (.cells #[.string ⟨#[99, 104, 101, 99, 107, 101, 100]⟩, .string ⟨#[99, 111, 109, 112, 97, 99, 116]⟩, .string ⟨#[100, 101, 99, 108, 97, 114, 101]⟩, .string ⟨#[100, 101, 102, 101, 114]⟩, .string ⟨#[100, 105, 115, 97, 98, 108, 101, 100]⟩, .string ⟨#[105, 115, 109, 97, 112]⟩, .string ⟨#[109, 117, 108, 116, 105, 112, 108, 101]⟩, .string ⟨#[110, 111, 104, 114, 101, 102]⟩, .string ⟨#[110, 111, 114, 101, 115, 105, 122, 101]⟩, .string ⟨#[110, 111, 115, 104, 97, 100, 101]⟩, .string ⟨#[110, 111, 119, 114, 97, 112]⟩, .string ⟨#[114, 101, 97, 100, 111, 110, 108, 121]⟩, .string ⟨#[115, 101, 108, 101, 99, 116, 101, 100]⟩] 9)) w') := hide (among_any s (wordsB shortL) w.heap.size 13 _ hs (by decide) (fun i x h => strs_new w _ _ i x h))
  rw [among_words, ← short_low] at HA
  clear hbA
  go_enter Tryz.func15, Tryz.ntmps15
  go_wp2_with fail
  refine (unhide HA).mono ?_
  rintro e w1 ⟨rfl, hb1⟩
  go_wp2
  go_ret
  exact ⟨rfl, Below.then (unhide HB) hb1⟩
end Go.Proofs.YtefjfjieoiegnaaGreatDoor
/- Which names are void, raw, short: the law XoutNames. -/
namespace Go.Proofs.YtefjfjieoiegnaaGreatDoor
open Go.RowKit
set_option maxRecDepth 100000 in
set_option maxHeartbeats 4000000 in
theorem outNames_walk (s : ByteArray) (w : World) (hs : s.size ≤ 1048576) (hE : XEnv w.heap.size w) :
    Calls Tryz.prog 3 #[.string s] w fun e w' => e = .returned (.bool true) ∧ Below w.heap.size w w' := by
  have HE := hide hE
  have HL := hide (live10_any w hE)
  clear hE
  go_enter Tryz.func3, Tryz.ntmps3
  go_wp2_with fail
  refine (unhide HL).mono ?_
  rintro e w1 ⟨rfl, hb1⟩
  clear HL
  go_wp2_with fail
  refine (xVoid_any s w1 hs ((unhide HE).low hb1).env).mono ?_
  rintro e w2 ⟨rfl, hb2⟩
  have hb02 := Below.then hb1 hb2
  go_wp2_with fail
  refine (refVoid_any s w2 hs).mono ?_
  rintro e w3 ⟨rfl, hb3⟩
  have hb03 := Below.then hb02 hb3
  have e1 : (voidB s == voidB s) = true := by simp
  go_wp2_with fail
  refine (xRaw_any s w3 hs ((unhide HE).low hb03).env).mono ?_
  rintro e w4 ⟨rfl, hb4⟩
  have hb04 := Below.then hb03 hb4
  go_wp2_with fail
  refine (refRaw_any s w4 hs).mono ?_
  rintro e w5 ⟨rfl, hb5⟩
  have hb05 := Below.then hb04 hb5
  have e2 : (rawB s == rawB s) = true := by simp
  go_wp2_with fail
  refine (xShort_any s w5 hs ((unhide HE).low hb05).env).mono ?_
  rintro e w6 ⟨rfl, hb6⟩
  have hb06 := Below.then hb05 hb6
  go_wp2_with fail
  refine (refShort_any s w6 hs).mono ?_
  rintro e w7 ⟨rfl, hb7⟩
  have e3 : (shortB s == shortB s) = true := by simp
  go_wp2
  go_ret
  exact ⟨rfl, Below.then hb06 hb7⟩
end Go.Proofs.YtefjfjieoiegnaaGreatDoor
/- From what a row lists of the library's tables, and from the world's shape, to what the walks of layer 3 ask. -/
namespace Go.Proofs.YtefjfjieoiegnaaGreatDoor
open Go.ChangeShapes Go.WideShapes Go.ChangeAt Go.RowKit
theorem u8extra : U8Extra Tryz.prog Tryz.lays260_ren where
  n3 := by kernel_rfl
  n4 := by kernel_rfl
  y3 := by kernel_rfl
  y4 := by kernel_rfl
  c5 := by kernel_rfl
  c119 := by kernel_rfl
  c138 := by kernel_rfl
theorem first_data : Rows.laid_unicode_utf8_first = Lib.firstData := by kernel_rfl
theorem accept_data : Rows.laid_unicode_utf8_acceptRanges = Lib.acceptData := by kernel_rfl
def foldTab : List Int := [0, 1, 2, 3, 4, 5, 6, 7, 8, 9, 10, 11, 12, 13, 14, 15, 16, 17, 18, 19, 20, 21, 22, 23, 24, 25, 26, 27, 28, 29, 30, 31, 32, 33, 34, 35, 36, 37, 38, 39, 40, 41, 42, 43, 44, 45, 46, 47, 48, 49, 50, 51, 52, 53, 54, 55, 56, 57, 58, 59, 60, 61, 62, 63, 64, 97, 98, 99, 100, 101, 102, 103, 104, 105, 106, 107, 108, 109, 110, 111, 112, 113, 114, 115, 116, 117, 118, 119, 120, 121, 122, 91, 92, 93, 94, 95, 96, 65, 66, 67, 68, 69, 70, 71, 72, 73, 74, 8490, 76, 77, 78, 79, 80, 81, 82, 383, 84, 85, 86, 87, 88, 89, 90, 123, 124, 125, 126, 127]
theorem fold_data : (Rows.laid_unicode_asciiFold : DataW Unit) = Lib.tabData .u16 foldTab := by kernel_rfl
theorem xTab_of {P : Program} {W : World} {name : String} {k : IntKind} {zs : List Int} {g : Nat} {t e : TypeId} {n : Nat} (hg : P.globalNamed name = some g) (hty : (P.globals[g]?).map (·.type) = some t) (ht : P.underlying t = some (.array n e)) (he : P.underlying e = some (.int k)) (hce : P.cellsOf e = 1) (hct : P.cellsOf t = n) (h : Lib.VarReads P W name (Lib.tabData k zs)) (j : Nat) : W.cell? ⟨g, j, none⟩ = (zs.map fun z => Value.int k z)[j]? := by
  obtain ⟨g', t', cs, fuel, p, hg', ht', hvar, hd⟩ := h
  obtain rfl := Option.some.inj (hg.symm.trans hg')
  obtain rfl := Option.some.inj (hty.symm.trans ht')
  rw [World.var?_cell hg hvar j, ← Lib.cells_of_tab ht he hce hct hd]
  simp
theorem env_of {W : World} (hM : laidMet Tryz.prog [("unicode/utf8.acceptRanges", Rows.laid_unicode_utf8_acceptRanges), ("unicode.asciiFold", Rows.laid_unicode_asciiFold), ("unicode.caseOrbit", Rows.laid_unicode_caseOrbit), ("unicode.CaseRanges", Rows.laid_unicode_CaseRanges), ("unicode/utf8.first", Rows.laid_unicode_utf8_first)] W) (hs : W.ShapedOpen Tryz.prog) : XEnv W.heap.size W := by
  have h3 := Lib.laidMet.reads hM (n := "unicode/utf8.first") (d := Rows.laid_unicode_utf8_first) (by simp)
  have h4 := Lib.laidMet.reads hM (n := "unicode/utf8.acceptRanges") (d := Rows.laid_unicode_utf8_acceptRanges) (by simp)
  have h5 := Lib.laidMet.reads hM (n := "unicode.asciiFold") (d := Rows.laid_unicode_asciiFold) (by simp)
  rw [first_data] at h3
  rw [accept_data] at h4
  rw [fold_data] at h5
  have ht := utf8Tabs_of_reads Tryz.lays260 u8extra h3 h4
  have hf := xTab_of (g := 3) (t := 182) (e := 181) (n := 128) (by kernel_rfl) (by kernel_rfl) (by kernel_rfl) Tryz.underlying181 (by kernel_rfl) (by kernel_rfl) h5
  obtain ⟨m, hm⟩ : ∃ m, W.cell? ⟨2, 0, none⟩ = some (.int .i64 m) := cell_of_shapedOpen_int (zero := #[.int .i64 0]) (t := 3) hs (of_decide_eq_true (by kernel_rfl)) (by kernel_rfl) rfl (by kernel_rfl) (by kernel_rfl) Tryz.underlying3
  have fx : W.cell? ⟨3, 120, none⟩ = some (.int .u16 88) := (hf 120).trans rfl
  refine ⟨⟨⟨m, hm⟩, ht⟩, fx, (hf 109).trans rfl, (hf 108).trans rfl, (hf 88).trans rfl, (hf 77).trans rfl, (hf 76).trans rfl, block_lt_of_cell hm, ?_, ?_, block_lt_of_cell fx⟩
  · exact block_lt_of_cell (ht.1 0 (by decide))
  · exact block_lt_of_cell (ht.2 0 (by decide)).1
theorem own : ownKnob Tryz.prog.godebug = none := by kernel_rfl
end Go.Proofs.YtefjfjieoiegnaaGreatDoor
