/- The reference's Chars, Count and Cut. -/
import Derived.Test.YtapehgheaododabDoorParts
import Derived.Lib.RuneCountTail
namespace Go.Proofs.YtapehgheaododabDoor
open Go.RowKit
theorem decodeRune_at (s : ByteArray) (pos : Nat) (w : World) (hp : pos < s.size) (hE : Env w) :
    Calls Tryd.prog 25 #[.string (s.extract pos s.size)] w fun e w' => e = .returned (.tuple #[.int .i32 (Utf8.decode s pos).1, .int .i64 (Utf8.decode s pos).2]) ∧ Below w.heap.size w w' := by
  have e : Lib.decodeGo (s.extract pos s.size) = Utf8.decode s pos := by
    unfold Lib.decodeGo
    rw [if_neg (by rw [ByteArray.size_extract]; omega), Lib.tail_decode, Nat.add_zero]
  have := Tryd.utf8_DecodeRuneInString (s.extract pos s.size) w hE.tabs
  rw [e] at this
  exact this
theorem owns_below {w w' : World} {base : Nat} {e : TypeId} {size : Nat} {v : Value} {n : Nat} {xs : List Value} (h : w.ownsRow base e size v n xs) (hb : Below w.heap.size w w') : w'.ownsRow base e size v n xs := by
  refine ⟨h.1, ?_⟩
  rcases h.2 with h | ⟨g, cap, cur, h1, h2, h3, h4⟩
  · exact .inl h
  · exact .inr ⟨g, cap, cur, h1, h2, block_below h3 hb, h4⟩
theorem owns_ge {w : World} {base : Nat} {e : TypeId} {size : Nat} {v : Value} {n : Nat} {xs : List Value} (h : w.ownsRow base e size v n xs) : ∀ k, v.ownBlock = some k → base ≤ k := by
  intro k hk
  rcases h.2 with ⟨rfl, _⟩ | ⟨g, cap, cur, rfl, h2, _⟩
  · simp [Value.ownBlock] at hk
  · simp [Value.ownBlock] at hk; omega
theorem owns_slice {w : World} {base : Nat} {e : TypeId} {size : Nat} {v : Value} {n : Nat} {xs : List Value} (h : w.ownsRow base e size v n xs) : ∃ a c, v = .slice a n c := by
  rcases h.2 with ⟨rfl, h0⟩ | ⟨g, cap, cur, rfl, _⟩
  · exact ⟨none, 0, by rw [h0]⟩
  · exact ⟨_, _, rfl⟩
theorem ret_val {k : IntKind} {a b : Int} (h : a = b) : Value.int k a = .int k b := by rw [h]
/-- The first k characters, each as a text. -/
def charsTo (s : ByteArray) (k : Nat) : List ByteArray := (List.range k).map fun j => s.extract (posAt s j) (posAt s (j + 1))
theorem charsTo_len (s : ByteArray) (k : Nat) : (charsTo s k).length = k := by simp [charsTo]
theorem charsTo_succ (s : ByteArray) (k : Nat) : charsTo s (k + 1) = charsTo s k ++ [s.extract (posAt s k) (posAt s (k + 1))] := by
  simp [charsTo, List.range_succ]
set_option maxHeartbeats 1000000 in
theorem refChars_any (s : ByteArray) (w : World) (hs : s.size ≤ 1048576) (hE : Env w) :
    Calls Tryd.prog 16 #[.string s] w fun e w' => ∃ v, e = .returned v ∧ w'.ownsRow w.heap.size 9 1 v (countN s) ((charsTo s (countN s)).map Value.string) ∧ Below w.heap.size w w' := by
  have HE := hide hE
  clear hE
  obtain ⟨i0, hi, hz0, hz1, hz2⟩ := info_parts (show (Tryd.prog.info? 9).map (fun i => (i.zero, i.size, i.bytes)) = some (some (.string ByteArray.empty), 1, 16) by kernel_rfl)
  go_enter Tryd.func16, Tryd.ntmps16
  go_wp2_with fail
  go_loopw [3, 4] (fun v i wr => ∃ k : Nat, k ≤ countN s ∧ i = .int .i64 (posAt s k) ∧ wr.ownsRow w.heap.size 9 1 v k ((charsTo s k).map Value.string) ∧ Below w.heap.size w wr) (fun _ i _ => s.size - (intOf i).toNat)
  case atStart => exact ⟨0, Nat.zero_le _, rfl, World.ownsRow_nil _ _ _ _, Below.refl _ _⟩
  case round =>
    obtain ⟨k, hk, rfl, hown, hbr⟩ := hrel
    have hpl := posAt_le s k
    have hcl := countN_le s
    by_cases hp : posAt s k < s.size
    · have hgt := step_gt s (posAt s k) hp
      have hnx := posAt_next s k hp
      have hk1 : k + 1 ≤ countN s := by
        rcases Nat.lt_or_ge k (countN s) with h | h
        · exact h
        · have := posAt_end' s (countN s) k (by rw [countN_end]; omega) h; omega
      have hst : posAt s (k + 1) = stepAt s (posAt s k) := rfl
      have HS := hide (charsTo_succ s k)
      go_wp2_with fail
      refine (decodeRune_at s (posAt s k) _ hp ((unhide HE).below hbr)).mono ?_
      rintro e w1 ⟨rfl, hb1⟩
      have hown1 := owns_below hown hb1
      have hbb := Below.then hbr hb1
      have hsz := hbb.size
      clear hown
      generalize hd : Utf8.decode s (posAt s k) = d at *
      have HD := hide hd
      have HNX := hide hnx
      clear hd hnx
      have hwd : posAt s k + d.2 ≤ s.size := by have := unhide HNX; omega
      go_wp2_with (at_builtin; refine wpList_append_own _ rfl _ _ 36 rfl w.heap.size 9 i0 (.string ByteArray.empty) 1 16 Tryd.underlying36 hi hz0 hz1 hz2 rfl (by decide) _ _ _ rfl (hown1.alloc _) ⟨w1.heap.size, 0, none⟩ 1 1 [.string (s.extract (posAt s k) (posAt s k + d.2))] rfl rfl (cell_one_new _ _ _) (fun x hx => by simp at hx; subst hx; rfl) (by unfold maxLen; omega) (by omega) (by simp; omega) ?_; intro v' w3 hown' hgrow3 hnil3)
      refine ⟨⟨k + 1, hk1, by rw [← unhide HNX]; go_num, ?_, ?_⟩, by have := unhide HNX; simp [intOf]; omega⟩
      · rw [unhide HS, List.map_append, ← unhide HNX]
        exact hown'
      · exact Below.grown (hbb.alloc hsz _) hgrow3 (by simp; omega) (owns_ge hown1)
    · have hkc : k = countN s := by
        rcases Nat.lt_or_ge k (countN s) with h | h
        · exact absurd (countN_lt s k h) hp
        · omega
      subst hkc
      go_wp2
      go_ret
      exact ⟨_, rfl, hown, hbr⟩
set_option maxHeartbeats 1000000 in
theorem refCount_any (s : ByteArray) (w : World) (hs : s.size ≤ 1048576) (hE : Env w) :
    Calls Tryd.prog 9 #[.string s] w fun e w' => e = .returned (.int .i64 (countN s)) ∧ Below w.heap.size w w' := by
  have HE := hide hE
  clear hE
  go_enter Tryd.func9, Tryd.ntmps9
  go_wp2_with fail
  refine (refChars_any s _ hs (unhide HE)).mono ?_
  rintro e w1 ⟨v, rfl, hown, hb⟩
  obtain ⟨a, c, rfl⟩ := owns_slice hown
  clear hown
  go_wp2
  go_ret
  exact ⟨rfl, hb⟩
theorem extract_none (s : ByteArray) (p : Nat) : s.extract p p = ⟨#[]⟩ := by
  apply ByteArray.ext
  rw [ByteArray.data_extract]; simp; omega
theorem cut_end (s : ByteArray) (a b : Int) (m k : Nat) (hm : max a 0 = m) (hk1 : m ≤ k) (hk2 : (k : Int) ≤ min b (countN s) ∨ k = m) (hk3 : ¬ (k : Int) < min b (countN s)) :
    s.extract (posAt s m) (posAt s k) = cutS s a b := by
  unfold cutS
  by_cases h : b ≤ max a 0
  · rw [if_pos h, show k = m by omega, extract_none]
  · rw [if_neg h, hm]
    show _ = s.extract (posAt s m) (posAt s b.toNat)
    have e : posAt s k = posAt s b.toNat ∨ (posAt s m = posAt s k ∧ posAt s m = posAt s b.toNat) := by
      by_cases hb : b ≤ countN s
      · rcases hk2 with h2 | h2
        · left; congr 1; omega
        · omega
      · have hz : ∀ j, countN s ≤ j → posAt s j = s.size := fun j hj => posAt_end' s (countN s) j (by rw [countN_end]; omega) hj
        left
        rw [hz k (by omega), hz b.toNat (by omega)]
    rcases e with e | ⟨e1, e2⟩
    · rw [e]
    · rw [← e1, ← e2]
set_option maxHeartbeats 1000000 in
theorem refCut_any (s : ByteArray) (a b : Int) (w : World) (hs : s.size ≤ 1048576) (hE : Env w) :
    Calls Tryd.prog 11 #[.string s, .int .i64 a, .int .i64 b] w fun e w' => e = .returned (.string (cutS s a b)) ∧ Below w.heap.size w w' := by
  have HE := hide hE
  clear hE
  go_enter Tryd.func11, Tryd.ntmps11
  go_wp2_with fail
  refine (refChars_any s _ hs (unhide HE)).mono ?_
  rintro e w1 ⟨v, rfl, hown, hb⟩
  obtain ⟨ad, c, rfl⟩ := owns_slice hown
  have hcl := countN_le s
  obtain ⟨m, hm⟩ := Int.eq_ofNat_of_zero_le (show 0 ≤ max a 0 by omega)
  have hcell : ∀ j, j < countN s → ∃ g, ad = some ⟨g, 0, none⟩ ∧ w1.cell? ⟨g, j, none⟩ = some (.string (s.extract (posAt s j) (posAt s (j + 1)))) := by
    intro j hj
    rcases hown.2 with ⟨_, h0⟩ | ⟨g, cap, cur, h1, _⟩
    · omega
    · simp only [Value.slice.injEq] at h1
      refine ⟨g, h1.1, ?_⟩
      rw [h1.1, h1.2.2] at hown
      rw [hown.cellAt j (by omega)]
      simp [charsTo, hj]
  have HC := hide hcell
  have HM := hide hm
  have hm1 : (m : Int) = a ∨ (a ≤ 0 ∧ m = 0) := by omega
  have hm2 : a ≤ m := by omega
  clear hcell hm hown
  go_wp2_with fail
  all_goals
    go_loop [8, 9] (fun o i => ∃ k : Nat, m ≤ k ∧ ((k : Int) ≤ min b (countN s) ∨ k = m) ∧ i = .int .i64 k ∧ o = .string (s.extract (posAt s m) (posAt s k))) (fun _ i => (countN s + m) - (intOf i).toNat)
    case atStart => exact ⟨m, Nat.le_refl _, .inr rfl, ret_val (by omega), by rw [extract_none]⟩
    case round =>
      obtain ⟨k, hk1, hk2, rfl, rfl⟩ := hrel
      by_cases hlt : (k : Int) < min b (countN s)
      · have hl1 : (k : Int) < b := by omega
        have hl2 : (k : Int) < countN s := by omega
        obtain ⟨g, rfl, hc⟩ := unhide HC k (by omega)
        have hmo := posAt_mono' s m k hk1
        have hmo' := posAt_mono' s k (k + 1) (by omega)
        have hle := posAt_le s (k + 1)
        have hz1 : (s.extract (posAt s m) (posAt s k)).size ≤ 1048576 := by rw [ByteArray.size_extract]; omega
        have hz2 : (s.extract (posAt s k) (posAt s (k + 1))).size ≤ 1048576 := by rw [ByteArray.size_extract]; omega
        clear hlt
        go_wp2
        exact ⟨⟨k + 1, by omega, .inl (by omega), by go_num, rfl⟩, by simp [intOf]; omega⟩
      · have HF := hide (cut_end s a b m k (unhide HM) hk1 hk2 hlt)
        rcases (show (countN s : Int) < b ∨ b ≤ countN s by omega) with hx | hx
        · first
            | (exfalso; omega)
            | (have hge : (countN s : Int) ≤ k := by omega
               clear hlt
               go_wp2
               go_ret
               exact ⟨ret_str (unhide HF), hb⟩)
        · first
            | (exfalso; omega)
            | (have hge : b ≤ (k : Int) := by omega
               clear hlt
               go_wp2
               go_ret
               exact ⟨ret_str (unhide HF), hb⟩)
set_option maxHeartbeats 1000000 in
theorem cuts_walk (s : ByteArray) (a b : Int) (w : World) (hE : Env w) (hs : s.size ≤ 1048576) :
    Calls Tryd.prog 3 #[.string s, .int .i64 a, .int .i64 b] w fun e w' => e = .returned (.bool true) ∧ Below w.heap.size w w' := by
  have HE := hide hE
  clear hE
  go_enter Tryd.func3, Tryd.ntmps3
  go_wp2_with fail
  refine (live_any _ (unhide HE)).mono ?_
  rintro e w1 ⟨rfl, hb1⟩
  have HE1 := hide ((unhide HE).below hb1)
  go_wp2_with fail
  refine (count_any s _ (by omega)).mono ?_
  rintro e w2 ⟨rfl, hb2⟩
  have HE2 := hide ((unhide HE1).below hb2)
  go_wp2_with fail
  refine (refCount_any s _ hs (unhide HE2)).mono ?_
  rintro e w3 ⟨rfl, hb3⟩
  have HE3 := hide ((unhide HE2).below hb3)
  go_wp2_with fail
  refine (cut_any s a b _ (by omega)).mono ?_
  rintro e w4 ⟨rfl, hb4⟩
  have HE4 := hide ((unhide HE3).below hb4)
  go_wp2_with fail
  refine (refCut_any s a b _ hs (unhide HE4)).mono ?_
  rintro e w5 ⟨rfl, hb5⟩
  go_wp2
  go_ret
  exact ⟨ret_bool (by simp), Below.then hb1 (Below.then hb2 (Below.then hb3 (Below.then hb4 hb5)))⟩
end Go.Proofs.YtapehgheaododabDoor
