/- Texts with other texts for some of their characters: xmlscan's Escape and Quote. -/
import Derived.Test.YtmemcabipcccaaaGreatDoorGak
import Derived.Test.YtmemcabipcccaaaGreatDoorGaq
namespace Go.Proofs.YtmemcabipcccaaaGreatDoor
open Go.RowKit
/-- What stands for a character in elements and attributes alike, in an element, in an attribute; nothing: itself. -/
def insO (c : Nat) : List UInt8 := if c = 38 then [38, 97, 109, 112, 59] else if c = 60 then [38, 108, 116, 59] else if c = 13 then [38, 35, 49, 51, 59] else []
def escO (c : Nat) : List UInt8 := if c = 62 then [38, 103, 116, 59] else insO c
def quoO (c : Nat) : List UInt8 := if c = 34 then [38, 113, 117, 111, 116, 59] else if c = 9 then [38, 35, 57, 59] else if c = 10 then [38, 35, 49, 48, 59] else insO c
def oneO (o : Nat → List UInt8) (b : UInt8) : List UInt8 := if o b.toNat = [] then [b] else o b.toNat
def mapO (o : Nat → List UInt8) (l : List UInt8) : List UInt8 := l.flatMap (oneO o)
/-- Other texts are of few characters, and for characters below 128 alone. -/
structure FewO (o : Nat → List UInt8) : Prop where
  low : ∀ c, 128 ≤ c → o c = []
  len : ∀ c, (o c).length ≤ 6
theorem ins_few : FewO insO := ⟨fun c h => by unfold insO; rw [if_neg (by omega), if_neg (by omega), if_neg (by omega)], fun c => by
  unfold insO
  repeat' split
  all_goals (simp)⟩
theorem esc_few : FewO escO := ⟨fun c h => by unfold escO; rw [if_neg (by omega)]; exact ins_few.low c h, fun c => by
  unfold escO
  split
  · decide
  · exact ins_few.len c⟩
theorem quo_few : FewO quoO := ⟨fun c h => by unfold quoO; rw [if_neg (by omega), if_neg (by omega), if_neg (by omega)]; exact ins_few.low c h, fun c => by
  unfold quoO
  repeat' split
  all_goals first | decide | exact ins_few.len c⟩
theorem mapO_app (o : Nat → List UInt8) (a b : List UInt8) : mapO o (a ++ b) = mapO o a ++ mapO o b := by unfold mapO; rw [List.flatMap_append]
theorem mapO_same (o : Nat → List UInt8) : ∀ (l : List UInt8), (∀ b ∈ l, o b.toNat = []) → mapO o l = l
  | [], _ => rfl
  | b :: l, h => by
    have ih := mapO_same o l (fun x hx => h x (List.mem_cons_of_mem _ hx))
    show oneO o b ++ mapO o l = _
    unfold oneO
    rw [ih, if_pos (h b (List.mem_cons_self ..))]
    rfl
theorem mapO_len {o : Nat → List UInt8} (hf : FewO o) : ∀ (l : List UInt8), (mapO o l).length ≤ 6 * l.length
  | [] => Nat.le_refl _
  | b :: l => by
    have ih := mapO_len hf l
    have h1 : (oneO o b).length ≤ 6 := by
      unfold oneO
      split
      · show 1 ≤ 6; decide
      · exact hf.len _
    show (oneO o b ++ mapO o l).length ≤ _
    rw [List.length_append, List.length_cons]
    omega
theorem cell_map (a b : List UInt8) : Lib.byteCells a ++ Lib.byteCells b = Lib.byteCells (a ++ b) := by unfold Lib.byteCells; rw [List.map_append]
theorem rune_bytes (s : ByteArray) (pos : Nat) : ((s.get! pos).toNat < 128 ∧ Utf8.decode s pos = ((s.get! pos).toNat, 1)) ∨ (128 ≤ (Utf8.decode s pos).1 ∧ ∀ k, k < (Utf8.decode s pos).2 → 128 ≤ (s.get! (pos + k)).toNat) := by
  rw [Lib.decode_at]
  generalize h0 : (s.get! pos).toNat = b0
  generalize h1 : (s.get! (pos + 1)).toNat = b1
  generalize h2 : (s.get! (pos + 2)).toNat = b2
  generalize h3 : (s.get! (pos + 3)).toNat = b3
  by_cases h : b0 < 128
  · left; exact ⟨h, by unfold Lib.decodeN; rw [if_pos h]⟩
  · right
    refine ⟨?_, fun k hk' => ?_⟩
    · unfold Lib.decodeN
      repeat' split
      all_goals (simp only; omega)
    · have k3 : k = 0 ∨ (k = 1 ∧ 128 ≤ b1) ∨ (k = 2 ∧ 128 ≤ b2) ∨ (k = 3 ∧ 128 ≤ b3) := by
        revert hk'
        unfold Lib.decodeN
        repeat' split
        all_goals (intro hk'; simp only at hk'; omega)
      rcases k3 with rfl | ⟨rfl, h⟩ | ⟨rfl, h⟩ | ⟨rfl, h⟩
      · rw [Nat.add_zero, h0]; omega
      · rw [h1]; exact h
      · rw [h2]; exact h
      · rw [h3]; exact h
theorem get_at (s : ByteArray) (i : Nat) (h : i < s.size) : s.data.toList[i]? = some (s.get! i) := by
  have e : s.get! i = s[i]'h := by
    show s.data[i]! = _
    rw [getElem!_pos s.data i h]
    rfl
  rw [e]
  exact Lib.data_getElem? s i h
/-- Bytes from one place to another that all stay what they are. -/
def Stay (o : Nat → List UInt8) (s : ByteArray) (a b : Nat) : Prop := ∀ i, a ≤ i → i < b → o (s.get! i).toNat = []
theorem stay_map {o : Nat → List UInt8} {s : ByteArray} {a b : Nat} (h : Stay o s a b) (ha : a ≤ b) (hb : b ≤ s.size) : mapO o (s.data.toList.take b) = mapO o (s.data.toList.take a) ++ (s.extract a b).data.toList := by
  have hl : s.data.toList.length = s.size := rfl
  have e : s.data.toList.take b = s.data.toList.take a ++ (s.data.toList.take b).drop a := by
    conv => lhs; rw [← List.take_append_drop a (s.data.toList.take b)]
    rw [List.take_take, Nat.min_eq_left ha]
  have e2 : (s.extract a b).data.toList = (s.data.toList.take b).drop a := by rw [ByteArray.data_extract]; simp [List.drop_take]
  rw [e2]
  conv => lhs; rw [e, mapO_app]
  congr 1
  refine mapO_same o _ fun x hx => ?_
  obtain ⟨j, hj⟩ := List.getElem?_of_mem hx
  rw [List.getElem?_drop] at hj
  have hlt : a + j < b := by
    have := (List.getElem?_eq_some_iff.1 hj).1
    rw [List.length_take] at this
    omega
  rw [List.getElem?_take_of_lt hlt, get_at s _ (by omega)] at hj
  rw [← Option.some.inj hj]
  exact h (a + j) (by omega) hlt
theorem one_map {o : Nat → List UInt8} {s : ByteArray} {p : Nat} (hp : p < s.size) (h : o (s.get! p).toNat ≠ []) : mapO o (s.data.toList.take (p + 1)) = mapO o (s.data.toList.take p) ++ o (s.get! p).toNat := by
  have hl : s.data.toList.length = s.size := rfl
  rw [List.take_add_one, get_at s p hp, mapO_app]
  congr 1
  show oneO o (s.get! p) ++ [] = _
  unfold oneO
  rw [if_neg h, List.append_nil]
theorem mapO_size {o : Nat → List UInt8} (hf : FewO o) (s : ByteArray) (n : Nat) : (mapO o (s.data.toList.take n)).length ≤ 6 * s.size := by
  have h1 := mapO_len hf (s.data.toList.take n)
  have h2 : (s.data.toList.take n).length ≤ s.size := by rw [List.length_take]; exact Nat.min_le_right _ _
  omega
theorem instead_any (c : Nat) (w : World) :
    Calls Tryz.prog 96 #[.int .i32 (c : Nat)] w fun e w' => e = .returned (.string ⟨(insO c).toArray⟩) ∧ w' = w := by
  by_cases h1 : c = 38
  · subst h1
    go_enter Tryz.func96, Tryz.ntmps96
    go_wp2
    go_ret
    exact ⟨rfl, rfl⟩
  · by_cases h2 : c = 60
    · subst h2
      go_enter Tryz.func96, Tryz.ntmps96
      go_wp2
      go_ret
      exact ⟨rfl, rfl⟩
    · by_cases h3 : c = 13
      · subst h3
        go_enter Tryz.func96, Tryz.ntmps96
        go_wp2
        go_ret
        exact ⟨rfl, rfl⟩
      · have e1 : ((c : Int) == 38) = false := by simp; omega
        have e2 : ((c : Int) == 60) = false := by simp; omega
        have e3 : ((c : Int) == 13) = false := by simp; omega
        have HI : Hid (insO c = []) := hide (by unfold insO; rw [if_neg h1, if_neg h2, if_neg h3])
        clear h1 h2 h3
        go_enter Tryz.func96, Tryz.ntmps96
        go_wp2
        go_ret
        rw [unhide HI]
        exact ⟨rfl, rfl⟩
theorem esc1_any (c : Nat) (w : World) :
    Calls Tryz.prog 95 #[.int .i32 (c : Nat)] w fun e w' => e = .returned (.string ⟨(escO c).toArray⟩) ∧ w' = w := by
  by_cases h1 : c = 62
  · subst h1
    go_enter Tryz.func95, Tryz.ntmps95
    go_wp2
    go_ret
    exact ⟨rfl, rfl⟩
  · have e1 : ((c : Int) == 62) = false := by simp; omega
    have HI : Hid (escO c = insO c) := hide (by unfold escO; rw [if_neg h1])
    clear h1
    go_enter Tryz.func95, Tryz.ntmps95
    go_wp2_with fail
    refine (instead_any c _).mono ?_
    rintro e w1 ⟨rfl, rfl⟩
    go_wp2
    go_ret
    rw [unhide HI]
    exact ⟨rfl, rfl⟩
theorem quo1_any (c : Nat) (w : World) :
    Calls Tryz.prog 98 #[.int .i32 (c : Nat)] w fun e w' => e = .returned (.string ⟨(quoO c).toArray⟩) ∧ w' = w := by
  by_cases h1 : c = 34
  · subst h1
    go_enter Tryz.func98, Tryz.ntmps98
    go_wp2
    go_ret
    exact ⟨rfl, rfl⟩
  · by_cases h2 : c = 9
    · subst h2
      go_enter Tryz.func98, Tryz.ntmps98
      go_wp2
      go_ret
      exact ⟨rfl, rfl⟩
    · by_cases h3 : c = 10
      · subst h3
        go_enter Tryz.func98, Tryz.ntmps98
        go_wp2
        go_ret
        exact ⟨rfl, rfl⟩
      · have e1 : ((c : Int) == 34) = false := by simp; omega
        have e2 : ((c : Int) == 9) = false := by simp; omega
        have e3 : ((c : Int) == 10) = false := by simp; omega
        have HI : Hid (quoO c = insO c) := hide (by unfold quoO; rw [if_neg h1, if_neg h2, if_neg h3])
        clear h1 h2 h3
        go_enter Tryz.func98, Tryz.ntmps98
        go_wp2_with fail
        refine (instead_any c _).mono ?_
        rintro e w1 ⟨rfl, rfl⟩
        go_wp2
        go_ret
        rw [unhide HI]
        exact ⟨rfl, rfl⟩
set_option maxRecDepth 100000 in
set_option maxHeartbeats 4000000 in
theorem replaced_esc (s : ByteArray) (w : World) (hs : s.size ≤ 1048576) :
    Calls Tryz.prog 94 #[.string s, .func (.func 95) #[] #[]] w fun e w' => e = .returned (.string ⟨(mapO escO s.data.toList).toArray⟩) ∧ Below w.heap.size w w' := by
  have hb0 : Below w.heap.size w ((w.alloc (.cells #[.pointer none, .slice none 0 0] 41)).iter s 0) := ((Below.refl _ _).alloc (Nat.le_refl _) _).alloc (by simp) _
  have hi0 : ((w.alloc (.cells #[.pointer none, .slice none 0 0] 41)).iter s 0).heap[w.heap.size + 1]? = some (.stringIter s 0) := by
    have := World.iter_heap (w.alloc (.cells #[.pointer none, .slice none 0 0] 41)) s 0
    simpa using this
  have hB0 : IsB w.heap.size w.heap.size [] ((w.alloc (.cells #[.pointer none, .slice none 0 0] 41)).iter s 0) := by
    refine Lib.IsBuilderF.alloc (Lib.IsBuilderF.of (.inl ⟨Nat.le_refl _, .slice none 0 0, ?_, World.ownsRow_nil _ _ _ _, (by intro h; cases h)⟩)) _
    show (w.heap.push _)[w.heap.size]? = _
    rw [Array.getElem?_push, if_pos rfl]
  have HI := hide (And.intro hb0 (And.intro hi0 hB0))
  clear hb0 hi0 hB0
  go_enter Tryz.func94, Tryz.ntmps94
  go_wp2_with fail
  go_loopw [6, 7, 8, 9] (fun v6 _ _ _ wr => ∃ fr pos : Nat, v6 = .int .i64 (fr : Nat) ∧ fr ≤ pos ∧ pos ≤ s.size ∧ Stay escO s fr pos ∧ IsB w.heap.size w.heap.size (Lib.byteCells (mapO escO (s.data.toList.take fr))) wr ∧ wr.heap[w.heap.size + 1]? = some (.stringIter s pos) ∧ Below w.heap.size w wr) (fun _ _ _ _ wr => s.size - wr.iterPos (w.heap.size + 1))
  case atStart =>
    obtain ⟨h1, h2, h3⟩ := unhide HI
    exact ⟨0, 0, rfl, Nat.le_refl _, Nat.zero_le _, (fun i h1 h2 => by omega), h3, h2, h1⟩
  case round =>
    obtain ⟨fr, pos, rfl, hfp, hps, hst, hB, hk, hbr⟩ := hrel
    have HML := hide (mapO_size esc_few s)
    have hbl : w.heap.size + 1 < wr.heap.size := (Array.getElem?_eq_some_iff.1 hk).1
    by_cases hp : pos < s.size
    · have hwd := width_pos s pos hp
      obtain ⟨_, _, hwe⟩ := decode_bytes s pos hp
      have hnx := fun ty => Lib.run_next_any_at (P := Tryz.prog) wr (w.heap.size + 1) s pos ty hk hp
      have hrb := rune_bytes s pos
      have HBI := hide (hB.iterAt hk (pos + (Utf8.decode s pos).2))
      have hbI : Below w.heap.size w (wr.iterAt (w.heap.size + 1) s (pos + (Utf8.decode s pos).2)) := Lib.below_iterAt hbr (by omega) _ _
      have hszI : (wr.iterAt (w.heap.size + 1) s (pos + (Utf8.decode s pos).2)).heap.size = wr.heap.size := Lib.iterAt_size _ _ _ _
      have HKI : Hid ((wr.iterAt (w.heap.size + 1) s (pos + (Utf8.decode s pos).2)).heap[w.heap.size + 1]? = some (.stringIter s (pos + (Utf8.decode s pos).2))) := hide (Lib.iterAt_heap wr _ _ _ _ hk)
      have HKP := hide (iterPos_of hk)
      generalize hd : Utf8.decode s pos = d at *
      have HC := hide (esc1_any d.1)
      by_cases ho : escO d.1 = []
      · have HO := hide (show (⟨(escO d.1).toArray⟩ : ByteArray) = ⟨#[]⟩ by rw [ho])
        have HST : Hid (Stay escO s fr (pos + d.2)) := hide (fun i h1 h2 => by
          by_cases h : i < pos
          · exact hst i h1 h
          · rcases hrb with ⟨h3, h4⟩ | ⟨h3, h4⟩
            · rw [h4] at ho h2
              simp only at ho h2
              obtain rfl : i = pos := by omega
              exact ho
            · have := h4 (i - pos) (by omega)
              rw [show pos + (i - pos) = i by omega] at this
              exact esc_few.low _ this)
        clear hrb ho hst hB hk hd hszI
        go_wp2_with fail
        refine (unhide HC _).mono ?_
        rintro e w1 ⟨rfl, rfl⟩
        rw [unhide HO]
        go_wp2_with fail
        refine ⟨⟨fr, pos + d.2, rfl, by omega, hwe, unhide HST, unhide HBI, unhide HKI, hbI⟩, ?_⟩
        rw [iterPos_of (unhide HKI), unhide HKP]
        omega
      · obtain ⟨h128, hdd⟩ : (s.get! pos).toNat < 128 ∧ d = ((s.get! pos).toNat, 1) := by
          rcases hrb with h | ⟨h3, _⟩
          · exact h
          · exact absurd (esc_few.low _ h3) ho
        subst hdd
        simp only at hnx HBI hbI HKI HC ho hwe hszI
        have HM : Hid (mapO escO (s.data.toList.take (pos + 1)) = mapO escO (s.data.toList.take fr) ++ (s.extract fr pos).data.toList ++ escO (s.get! pos).toNat) := hide (by rw [one_map hp ho, stay_map hst hfp hps])
        generalize hC : (s.get! pos).toNat = C at *
        obtain ⟨X, hX⟩ : ∃ X : ByteArray, (⟨(escO C).toArray⟩ : ByteArray) = X := ⟨_, rfl⟩
        have hXe : X.toList.isEmpty = false := by
          rw [← hX, Lib.toList_data]
          show (escO C).isEmpty = false
          cases h : escO C with
          | nil => exact absurd h ho
          | cons _ _ => rfl
        have hXs : X.size ≤ 6 := by rw [← hX]; exact esc_few.len _
        have HX := hide hX
        have hws : (s.extract fr pos).size = pos - fr := by rw [ByteArray.size_extract]; omega
        have hmf := unhide HML fr
        have HW := hide (fun (W : World) (h : IsB w.heap.size w.heap.size (Lib.byteCells (mapO escO (s.data.toList.take fr))) W) (hB : w.heap.size ≤ W.heap.size) => writeString_any w.heap.size w.heap.size (Lib.byteCells (mapO escO (s.data.toList.take fr))) (s.extract fr pos ++ X) W h (by rw [Lib.byteCells_length, ByteArray.size_append]; omega) hB)
        have HSZ : Hid (w.heap.size ≤ (wr.iterAt (w.heap.size + 1) s (pos + 1)).heap.size) := hide (by rw [hszI]; omega)
        have hz1 : (s.extract fr pos).size ≤ 1048576 := by omega
        have HW1 : Hid (wrap64 ((pos : Int) + 1) = ((pos + 1 : Nat) : Int)) := hide (by unfold wrap64; omega)
        clear ho hst hB hk hd hX hmf hws hszI hC hwd hrb
        go_wp2_with fail
        refine (unhide HC _).mono ?_
        rintro e w1 ⟨rfl, rfl⟩
        rw [unhide HX]
        go_wp2_with fail
        refine (unhide HW _ (unhide HBI) (unhide HSZ)).mono ?_
        rintro e w2 ⟨rfl, hB2, hb2, hk2⟩
        have hw1 := unhide HW1
        go_wp2_with fail
        have hki := hk2 _ _ (unhide HKI) (by simp) (fun c fz h => by cases h)
        refine ⟨⟨pos + 1, pos + 1, by first | rfl | simp, Nat.le_refl _, hwe, (fun i h1 h2 => by omega), ?_, hki, hbI.trans hb2⟩, ?_⟩
        · rw [unhide HM, List.append_assoc, ← cell_map]
          have e : Lib.strCells (s.extract fr pos ++ X) = Lib.byteCells ((s.extract fr pos).data.toList ++ escO C) := by
            rw [← unhide HX]
            show Lib.byteCells (s.extract fr pos ++ _).data.toList = _
            rw [ByteArray.data_append, Array.toList_append]
          rw [← e]
          exact hB2
        · rw [iterPos_of hki, unhide HKP]
          omega
    · have hnx := fun ty => Lib.run_next_end_at (P := Tryz.prog) wr (w.heap.size + 1) s pos ty hk hp
      obtain rfl : pos = s.size := by omega
      have hmf := unhide HML fr
      have hz1 : (s.extract fr s.size).size ≤ 1048576 := by rw [ByteArray.size_extract]; omega
      have HM : Hid (mapO escO s.data.toList = mapO escO (s.data.toList.take fr) ++ (s.extract fr s.size).data.toList) := hide (by
        have := stay_map hst hfp hps
        rw [show s.data.toList.take s.size = s.data.toList from List.take_of_length_le (show s.data.toList.length ≤ s.size from Nat.le_refl _)] at this
        exact this)
      have HW := hide (writeString_any w.heap.size w.heap.size (Lib.byteCells (mapO escO (s.data.toList.take fr))) (s.extract fr s.size) wr hB (by rw [Lib.byteCells_length]; omega) (by omega))
      clear hst hB hk hp hmf
      go_wp2_with fail
      refine (unhide HW).mono ?_
      rintro e w2 ⟨rfl, hB2, hb2, hk2⟩
      have e1 : Lib.byteCells (mapO escO (s.data.toList.take fr)) ++ Lib.strCells (s.extract fr s.size) = Lib.byteCells (mapO escO s.data.toList) := by
        rw [unhide HM, ← cell_map]
        rfl
      rw [e1] at hB2
      have hsz2 : w.heap.size ≤ w2.heap.size := by have := hb2.size; omega
      go_wp2_with fail
      refine (Tryz.Builder_String_any_k w.heap.size w.heap.size _ w2 hB2 hsz2).mono ?_
      rintro e w3 ⟨rfl, hB3, hb3, _⟩
      go_wp2
      go_ret
      exact ⟨rfl, (hbr.trans hb2).trans hb3⟩
theorem xEscape_any (s : ByteArray) (w : World) (hs : s.size ≤ 1048576) :
    Calls Tryz.prog 77 #[.string s] w fun e w' => e = .returned (.string ⟨(mapO escO s.data.toList).toArray⟩) ∧ Below w.heap.size w w' := by
  go_enter Tryz.func77, Tryz.ntmps77
  go_wp2_with fail
  refine (replaced_esc s _ hs).mono ?_
  rintro e w1 ⟨rfl, hb1⟩
  go_wp2
  go_ret
  exact ⟨rfl, hb1⟩
set_option maxRecDepth 100000 in
set_option maxHeartbeats 4000000 in
theorem replaced_quo (s : ByteArray) (w : World) (hs : s.size ≤ 1048576) :
    Calls Tryz.prog 94 #[.string s, .func (.func 98) #[] #[]] w fun e w' => e = .returned (.string ⟨(mapO quoO s.data.toList).toArray⟩) ∧ Below w.heap.size w w' := by
  have hb0 : Below w.heap.size w ((w.alloc (.cells #[.pointer none, .slice none 0 0] 41)).iter s 0) := ((Below.refl _ _).alloc (Nat.le_refl _) _).alloc (by simp) _
  have hi0 : ((w.alloc (.cells #[.pointer none, .slice none 0 0] 41)).iter s 0).heap[w.heap.size + 1]? = some (.stringIter s 0) := by
    have := World.iter_heap (w.alloc (.cells #[.pointer none, .slice none 0 0] 41)) s 0
    simpa using this
  have hB0 : IsB w.heap.size w.heap.size [] ((w.alloc (.cells #[.pointer none, .slice none 0 0] 41)).iter s 0) := by
    refine Lib.IsBuilderF.alloc (Lib.IsBuilderF.of (.inl ⟨Nat.le_refl _, .slice none 0 0, ?_, World.ownsRow_nil _ _ _ _, (by intro h; cases h)⟩)) _
    show (w.heap.push _)[w.heap.size]? = _
    rw [Array.getElem?_push, if_pos rfl]
  have HI := hide (And.intro hb0 (And.intro hi0 hB0))
  clear hb0 hi0 hB0
  go_enter Tryz.func94, Tryz.ntmps94
  go_wp2_with fail
  go_loopw [6, 7, 8, 9] (fun v6 _ _ _ wr => ∃ fr pos : Nat, v6 = .int .i64 (fr : Nat) ∧ fr ≤ pos ∧ pos ≤ s.size ∧ Stay quoO s fr pos ∧ IsB w.heap.size w.heap.size (Lib.byteCells (mapO quoO (s.data.toList.take fr))) wr ∧ wr.heap[w.heap.size + 1]? = some (.stringIter s pos) ∧ Below w.heap.size w wr) (fun _ _ _ _ wr => s.size - wr.iterPos (w.heap.size + 1))
  case atStart =>
    obtain ⟨h1, h2, h3⟩ := unhide HI
    exact ⟨0, 0, rfl, Nat.le_refl _, Nat.zero_le _, (fun i h1 h2 => by omega), h3, h2, h1⟩
  case round =>
    obtain ⟨fr, pos, rfl, hfp, hps, hst, hB, hk, hbr⟩ := hrel
    have HML := hide (mapO_size quo_few s)
    have hbl : w.heap.size + 1 < wr.heap.size := (Array.getElem?_eq_some_iff.1 hk).1
    by_cases hp : pos < s.size
    · have hwd := width_pos s pos hp
      obtain ⟨_, _, hwe⟩ := decode_bytes s pos hp
      have hnx := fun ty => Lib.run_next_any_at (P := Tryz.prog) wr (w.heap.size + 1) s pos ty hk hp
      have hrb := rune_bytes s pos
      have HBI := hide (hB.iterAt hk (pos + (Utf8.decode s pos).2))
      have hbI : Below w.heap.size w (wr.iterAt (w.heap.size + 1) s (pos + (Utf8.decode s pos).2)) := Lib.below_iterAt hbr (by omega) _ _
      have hszI : (wr.iterAt (w.heap.size + 1) s (pos + (Utf8.decode s pos).2)).heap.size = wr.heap.size := Lib.iterAt_size _ _ _ _
      have HKI : Hid ((wr.iterAt (w.heap.size + 1) s (pos + (Utf8.decode s pos).2)).heap[w.heap.size + 1]? = some (.stringIter s (pos + (Utf8.decode s pos).2))) := hide (Lib.iterAt_heap wr _ _ _ _ hk)
      have HKP := hide (iterPos_of hk)
      generalize hd : Utf8.decode s pos = d at *
      have HC := hide (quo1_any d.1)
      by_cases ho : quoO d.1 = []
      · have HO := hide (show (⟨(quoO d.1).toArray⟩ : ByteArray) = ⟨#[]⟩ by rw [ho])
        have HST : Hid (Stay quoO s fr (pos + d.2)) := hide (fun i h1 h2 => by
          by_cases h : i < pos
          · exact hst i h1 h
          · rcases hrb with ⟨h3, h4⟩ | ⟨h3, h4⟩
            · rw [h4] at ho h2
              simp only at ho h2
              obtain rfl : i = pos := by omega
              exact ho
            · have := h4 (i - pos) (by omega)
              rw [show pos + (i - pos) = i by omega] at this
              exact quo_few.low _ this)
        clear hrb ho hst hB hk hd hszI
        go_wp2_with fail
        refine (unhide HC _).mono ?_
        rintro e w1 ⟨rfl, rfl⟩
        rw [unhide HO]
        go_wp2_with fail
        refine ⟨⟨fr, pos + d.2, rfl, by omega, hwe, unhide HST, unhide HBI, unhide HKI, hbI⟩, ?_⟩
        rw [iterPos_of (unhide HKI), unhide HKP]
        omega
      · obtain ⟨h128, hdd⟩ : (s.get! pos).toNat < 128 ∧ d = ((s.get! pos).toNat, 1) := by
          rcases hrb with h | ⟨h3, _⟩
          · exact h
          · exact absurd (quo_few.low _ h3) ho
        subst hdd
        simp only at hnx HBI hbI HKI HC ho hwe hszI
        have HM : Hid (mapO quoO (s.data.toList.take (pos + 1)) = mapO quoO (s.data.toList.take fr) ++ (s.extract fr pos).data.toList ++ quoO (s.get! pos).toNat) := hide (by rw [one_map hp ho, stay_map hst hfp hps])
        generalize hC : (s.get! pos).toNat = C at *
        obtain ⟨X, hX⟩ : ∃ X : ByteArray, (⟨(quoO C).toArray⟩ : ByteArray) = X := ⟨_, rfl⟩
        have hXe : X.toList.isEmpty = false := by
          rw [← hX, Lib.toList_data]
          show (quoO C).isEmpty = false
          cases h : quoO C with
          | nil => exact absurd h ho
          | cons _ _ => rfl
        have hXs : X.size ≤ 6 := by rw [← hX]; exact quo_few.len _
        have HX := hide hX
        have hws : (s.extract fr pos).size = pos - fr := by rw [ByteArray.size_extract]; omega
        have hmf := unhide HML fr
        have HW := hide (fun (W : World) (h : IsB w.heap.size w.heap.size (Lib.byteCells (mapO quoO (s.data.toList.take fr))) W) (hB : w.heap.size ≤ W.heap.size) => writeString_any w.heap.size w.heap.size (Lib.byteCells (mapO quoO (s.data.toList.take fr))) (s.extract fr pos ++ X) W h (by rw [Lib.byteCells_length, ByteArray.size_append]; omega) hB)
        have HSZ : Hid (w.heap.size ≤ (wr.iterAt (w.heap.size + 1) s (pos + 1)).heap.size) := hide (by rw [hszI]; omega)
        have hz1 : (s.extract fr pos).size ≤ 1048576 := by omega
        have HW1 : Hid (wrap64 ((pos : Int) + 1) = ((pos + 1 : Nat) : Int)) := hide (by unfold wrap64; omega)
        clear ho hst hB hk hd hX hmf hws hszI hC hwd hrb
        go_wp2_with fail
        refine (unhide HC _).mono ?_
        rintro e w1 ⟨rfl, rfl⟩
        rw [unhide HX]
        go_wp2_with fail
        refine (unhide HW _ (unhide HBI) (unhide HSZ)).mono ?_
        rintro e w2 ⟨rfl, hB2, hb2, hk2⟩
        have hw1 := unhide HW1
        go_wp2_with fail
        have hki := hk2 _ _ (unhide HKI) (by simp) (fun c fz h => by cases h)
        refine ⟨⟨pos + 1, pos + 1, by first | rfl | simp, Nat.le_refl _, hwe, (fun i h1 h2 => by omega), ?_, hki, hbI.trans hb2⟩, ?_⟩
        · rw [unhide HM, List.append_assoc, ← cell_map]
          have e : Lib.strCells (s.extract fr pos ++ X) = Lib.byteCells ((s.extract fr pos).data.toList ++ quoO C) := by
            rw [← unhide HX]
            show Lib.byteCells (s.extract fr pos ++ _).data.toList = _
            rw [ByteArray.data_append, Array.toList_append]
          rw [← e]
          exact hB2
        · rw [iterPos_of hki, unhide HKP]
          omega
    · have hnx := fun ty => Lib.run_next_end_at (P := Tryz.prog) wr (w.heap.size + 1) s pos ty hk hp
      obtain rfl : pos = s.size := by omega
      have hmf := unhide HML fr
      have hz1 : (s.extract fr s.size).size ≤ 1048576 := by rw [ByteArray.size_extract]; omega
      have HM : Hid (mapO quoO s.data.toList = mapO quoO (s.data.toList.take fr) ++ (s.extract fr s.size).data.toList) := hide (by
        have := stay_map hst hfp hps
        rw [show s.data.toList.take s.size = s.data.toList from List.take_of_length_le (show s.data.toList.length ≤ s.size from Nat.le_refl _)] at this
        exact this)
      have HW := hide (writeString_any w.heap.size w.heap.size (Lib.byteCells (mapO quoO (s.data.toList.take fr))) (s.extract fr s.size) wr hB (by rw [Lib.byteCells_length]; omega) (by omega))
      clear hst hB hk hp hmf
      go_wp2_with fail
      refine (unhide HW).mono ?_
      rintro e w2 ⟨rfl, hB2, hb2, hk2⟩
      have e1 : Lib.byteCells (mapO quoO (s.data.toList.take fr)) ++ Lib.strCells (s.extract fr s.size) = Lib.byteCells (mapO quoO s.data.toList) := by
        rw [unhide HM, ← cell_map]
        rfl
      rw [e1] at hB2
      have hsz2 : w.heap.size ≤ w2.heap.size := by have := hb2.size; omega
      go_wp2_with fail
      refine (Tryz.Builder_String_any_k w.heap.size w.heap.size _ w2 hB2 hsz2).mono ?_
      rintro e w3 ⟨rfl, hB3, hb3, _⟩
      go_wp2
      go_ret
      exact ⟨rfl, (hbr.trans hb2).trans hb3⟩
theorem xQuote_any (s : ByteArray) (w : World) (hs : s.size ≤ 1048576) :
    Calls Tryz.prog 79 #[.string s] w fun e w' => e = .returned (.string ⟨(mapO quoO s.data.toList).toArray⟩) ∧ Below w.heap.size w w' := by
  go_enter Tryz.func79, Tryz.ntmps79
  go_wp2_with fail
  refine (replaced_quo s _ hs).mono ?_
  rintro e w1 ⟨rfl, hb1⟩
  go_wp2
  go_ret
  exact ⟨rfl, hb1⟩
end Go.Proofs.YtmemcabipcccaaaGreatDoor
