/- The reference's IsName and Split give what the program's give. -/
import Derived.Test.YtgabgeadeeaihaaDoorNamePlain
namespace Go.Proofs.YtgabgeadeeaihaaDoor
open Go.RowKit
theorem refBegins_at (r : Nat) (hr : r ≤ 2147483647) (w : World) :
    Calls Tryd.prog 30 #[.int .i32 r] w fun e w' => e = .returned (.bool (beginB r)) ∧ Below w.heap.size w w' := by
  rw [beginB_eq r (by omega)]; exact refBegins_any r w
theorem refGoesOn_at (r : Nat) (hr : r ≤ 2147483647) (w : World) :
    Calls Tryd.prog 31 #[.int .i32 r] w fun e w' => e = .returned (.bool (goesB r)) ∧ Below w.heap.size w w' := by
  rw [goesB_eq r (by omega)]; exact refGoesOn_any r w
set_option maxHeartbeats 1000000 in
theorem refIsName_any (s : ByteArray) (w : World) (hs : s.size ≤ 4294967280) (hE : Env w) :
    Calls Tryd.prog 18 #[.string s] w fun e w' => e = .returned (.bool (nameB s)) ∧ Below w.heap.size w w' := by
  have HE := hide hE
  clear hE
  have HN := hide (nameB_eq s)
  cases ht : textR s
  · have HT := hide ht
    clear ht
    go_enter Tryd.func18, Tryd.ntmps18
    go_wp2_with fail
    refine (refIsText_any s _ hs (unhide HE)).mono ?_
    rintro e w' ⟨rfl, hb⟩
    rw [unhide HT]
    go_wp2
    go_ret
    exact ⟨ret_bool (by rw [unhide HN, unhide HT]; rfl), hb⟩
  · have HT := hide ht
    clear ht
    by_cases h0 : s.toList = []
    · go_enter Tryd.func18, Tryd.ntmps18
      go_wp2_with fail
      refine (refIsText_any s _ hs (unhide HE)).mono ?_
      rintro e w' ⟨rfl, hb⟩
      rw [unhide HT]
      go_wp2
      go_ret
      have e0 : s.data.toList.isEmpty = true := by rw [← toList_data, h0]; rfl
      exact ⟨ret_bool (by rw [unhide HN, unhide HT, e0]; rfl), hb⟩
    · have h0' : s.toList.isEmpty = false := by cases h : s.toList with | nil => exact absurd h h0 | cons _ _ => rfl
      go_enter Tryd.func18, Tryd.ntmps18
      go_wp2_with fail
      refine (refIsText_any s _ hs (unhide HE)).mono ?_
      rintro e w' ⟨rfl, hb⟩
      rw [unhide HT]
      go_wp2_with fail
      go_loopw [3] (fun i wr => ∃ (pos f : Nat), i = .int .i64 pos ∧ pos ≤ s.size ∧ Below w'.heap.size w' wr ∧ nameFrom s (s.size + 1) 0 = nameFrom s f pos ∧ s.size < pos + f) (fun i wr => s.size - (intOf i).toNat)
      case atStart => exact ⟨0, s.size + 1, rfl, Nat.zero_le _, Below.refl _ _, rfl, by omega⟩
      case round =>
        obtain ⟨pos, f, rfl, hps, hbr, hf, hfu⟩ := hrel
        by_cases hp : pos < s.size
        · have hwd := width_pos s pos hp
          have hdl := decode_le s pos
          obtain ⟨_, _, hwe⟩ := decode_bytes s pos hp
          obtain ⟨g, rfl, hg⟩ := nameFrom_step s f pos hp hfu
          have HF := hide (hf.trans hg)
          clear hf hg
          go_wp2_with fail
          refine (decodeRune_at s pos _ hp (((unhide HE).below hb).below hbr)).mono ?_
          rintro e w1 ⟨rfl, hb1⟩
          generalize hd : Utf8.decode s pos = d at *
          clear hd
          by_cases hz : pos = 0
          · subst hz
            go_wp2_with (first | (go_at_call 30; refine (refBegins_at _ hdl _).mono ?_; rintro e w2 ⟨rfl, hb2⟩) | (go_at_call 31; refine (refGoesOn_at _ hdl _).mono ?_; rintro e w3 ⟨rfl, hb3⟩))
            all_goals first
              | (go_ret
                 refine ⟨ret_bool ?_, Below.then hb (Below.then hbr (Below.then hb1 (by first | exact Below.then hb2 hb3 | exact hb2 | exact hb3)))⟩
                 have key : nameFrom s (s.size + 1) 0 = false := by rw [unhide HF]; simp [*]
                 simp [nameB, key])
              | (exact ⟨⟨0 + d.2, g, by go_num, hwe, Below.then hbr (Below.then hb1 (by first | exact Below.then hb2 hb3 | exact hb2 | exact hb3)), by rw [unhide HF]; simp_all, by omega⟩, by simp [intOf]; omega⟩)
          · have hz' : ((pos : Int) == 0) = false := by simpa using hz
            go_wp2_with (first | (go_at_call 30; refine (refBegins_at _ hdl _).mono ?_; rintro e w2 ⟨rfl, hb2⟩) | (go_at_call 31; refine (refGoesOn_at _ hdl _).mono ?_; rintro e w3 ⟨rfl, hb3⟩))
            all_goals first
              | (go_ret
                 refine ⟨ret_bool ?_, Below.then hb (Below.then hbr (Below.then hb1 (by first | exact Below.then hb2 hb3 | exact hb2 | exact hb3)))⟩
                 have key : nameFrom s (s.size + 1) 0 = false := by rw [unhide HF]; simp [*]
                 simp [nameB, key])
              | (exact ⟨⟨pos + d.2, g, by go_num, hwe, Below.then hbr (Below.then hb1 (by first | exact Below.then hb2 hb3 | exact hb2 | exact hb3)), by rw [unhide HF]; simp_all, by omega⟩, by simp [intOf]; omega⟩)
        · have HF := hide (hf.trans (nameFrom_end s f pos hp))
          clear hf
          go_wp2
          go_ret
          refine ⟨ret_bool ?_, Below.then hb hbr⟩
          have e0 : s.data.toList.isEmpty = false := by rw [← toList_data]; exact h0'
          rw [unhide HN, unhide HT, unhide HF, e0]; rfl
theorem splitV_at (s : ByteArray) (k : Nat) (hk : k < s.size) (hc : (s.get! k).toNat = 58) (hno : ∀ j, j < k → (s.get! j).toNat ≠ 58) :
    splitP s.data.toList = s.data.toList.take k ∧ splitN s.data.toList = s.data.toList.drop (k + 1) ∧ splitB s.data.toList = (nameB ⟨(s.data.toList.take k).toArray⟩ && nameB ⟨(s.data.toList.drop (k + 1)).toArray⟩) := by
  have hl : s.data.toList.length = s.size := rfl
  have h58 : s.data.toList[k]'hk = 58 := by
    rw [get_data s k hk] at hc
    exact UInt8.toNat_inj.1 (show _ = (58 : UInt8).toNat from hc)
  have hn : 58 ∉ s.data.toList.take k := by
    intro hm
    obtain ⟨j, hj, he⟩ := List.getElem_of_mem hm
    rw [List.length_take] at hj
    have := hno j (by omega)
    rw [get_data s j (by omega)] at this
    rw [List.getElem_take] at he
    rw [he] at this
    exact this rfl
  have e : s.data.toList = s.data.toList.take k ++ 58 :: s.data.toList.drop (k + 1) := by
    conv => lhs; rw [← List.take_append_drop k s.data.toList]
    rw [List.drop_eq_getElem_cons (by omega), h58]
  have c := cut_first (s.data.toList.take k) (s.data.toList.drop (k + 1)) 58 hn
  rw [← e] at c
  unfold splitB splitP splitN
  rw [c]
  simp
theorem splitV_none (s : ByteArray) (hno : ∀ j, j < s.size → (s.get! j).toNat ≠ 58) : splitP s.data.toList = [] ∧ splitN s.data.toList = s.data.toList ∧ splitB s.data.toList = nameB s := by
  have hl : s.data.toList.length = s.size := rfl
  have hn : 58 ∉ s.data.toList := by
    intro hm
    obtain ⟨j, hj, he⟩ := List.getElem_of_mem hm
    have := hno j hj
    rw [get_data s j hj, he] at this
    exact this rfl
  have hi : ∀ l : List UInt8, 58 ∉ l → Lib.indexByte l 58 = -1 := by
    intro l
    induction l with
    | nil => intro _; rfl
    | cons x l ih =>
      intro h
      have hx : ¬ (x == 58) = true := fun e => h (by rw [beq_iff_eq.1 e]; simp)
      have := ih (fun hm => h (List.mem_cons_of_mem _ hm))
      simp only [Lib.indexByte, hx, this]
      simp
  have c : Lib.cut s.data.toList [58] = (s.data.toList, [], false) := by
    unfold Lib.cut
    rw [Lib.index_one, hi _ hn, if_neg (by decide)]
  unfold splitB splitP splitN
  rw [c]
  simp
theorem take_extract (s : ByteArray) (k : Nat) : (⟨(s.data.toList.take k).toArray⟩ : ByteArray) = s.extract 0 k := by
  apply ByteArray.ext
  rw [ByteArray.data_extract]
  apply Array.ext'
  simp
theorem drop_extract (s : ByteArray) (k : Nat) : (⟨(s.data.toList.drop k).toArray⟩ : ByteArray) = s.extract k s.size := by
  apply ByteArray.ext
  rw [ByteArray.data_extract]
  apply Array.ext'
  simp [List.take_of_length_le]
theorem name_split (s : ByteArray) (h : nameB s = true) : splitB s.data.toList = true := by
  have hn := name_colon s h
  have hno : ∀ j, j < s.size → (s.get! j).toNat ≠ 58 := fun j hj hc => by
    rw [get_data s j hj] at hc
    exact hn (by rw [← UInt8.toNat_inj.1 (show _ = (58 : UInt8).toNat from hc)]; exact List.getElem_mem _)
  rw [(splitV_none s hno).2.2]; exact h
theorem splitV_cases (l : List UInt8) : ∃ p n : ByteArray, splitV l = .tuple #[.string p, .string n, .bool (splitB l)] := by
  unfold splitV
  cases h : splitB l
  · exact ⟨_, _, rfl⟩
  · exact ⟨_, _, rfl⟩
theorem refIsText_same (s : ByteArray) (w : World) (hs : s.size ≤ 4294967280) (hE : Env w) :
    Calls Tryd.prog 17 #[.string s] w fun e w' => e = .returned (.bool (textB s)) ∧ Below w.heap.size w w' := by
  rw [textB_eq]; exact refIsText_any s w hs hE
end Go.Proofs.YtgabgeadeeaihaaDoor
