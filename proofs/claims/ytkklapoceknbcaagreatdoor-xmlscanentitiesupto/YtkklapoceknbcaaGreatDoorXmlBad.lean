/- The first character that may not be: xmlscan's firstBad. -/
import Derived.Test.YtkklapoceknbcaaGreatDoorXa
namespace Go.Proofs.YtkklapoceknbcaaGreatDoor
open Go.RowKit
theorem txt_app {a b : List UInt8} (ha : Txt a) (hb : Txt b) : Txt (a ++ b) := by
  obtain ⟨r, h1, rfl⟩ := ha
  obtain ⟨t, h2, rfl⟩ := hb
  refine ⟨r ++ t, fun c hc => ?_, by rw [List.flatMap_append]⟩
  rcases List.mem_append.1 hc with h | h
  · exact h1 c h
  · exact h2 c h
theorem textB_txt (s : ByteArray) : textB s = true ↔ Txt s.data.toList := by
  have h := fault_txt s (s.size + 1) 0 (by omega)
  unfold textB
  rw [List.drop_zero] at h
  constructor
  · intro e
    exact h.1 (by simpa [fault] using e)
  · intro e
    have := h.2 e
    simpa [fault] using this
/-- Where a text goes on: its next character is decoded as it is. -/
theorem txt_step (s : ByteArray) (pos : Nat) (hp : pos < s.size) (h1 : Txt (s.data.toList.take pos)) (h2 : Txt (s.data.toList.drop pos)) :
    Txt ((s.data.toList.drop pos).take (Utf8.decode s pos).2) ∧ Txt (s.data.toList.drop (pos + (Utf8.decode s pos).2)) := by
  obtain ⟨p, hp1, hp2⟩ := h1
  obtain ⟨q, hq1, hq2⟩ := h2
  have hsz : s.data.toList.length = s.size := rfl
  cases q with
  | nil =>
    have := congrArg List.length hq2
    simp at this
    omega
  | cons c t =>
    have e : s.data.toList = tx (p ++ c :: t) := by
      rw [tx_append, ← List.take_append_drop pos s.data.toList, hp2, hq2]
      rfl
    have es : s = T (p ++ c :: t) := by
      apply ByteArray.ext
      apply Array.toList_inj.1
      rw [e, T_data]
    have hpl : (tx p).length = pos := by
      have := congrArg List.length hp2
      rw [List.length_take, Nat.min_eq_left (by omega)] at this
      exact this.symm
    have hd := (dec_T p c t (hq1 c (List.mem_cons_self ..))).1
    rw [← es, hpl] at hd
    rw [hd]
    have e2 : s.data.toList.drop pos = runeB c ++ tx t := by rw [hq2]; rfl
    refine ⟨?_, ?_⟩
    · rw [e2, List.take_left]
      exact ⟨[c], fun x hx => by rw [List.mem_singleton.1 hx]; exact hq1 c (List.mem_cons_self ..), by simp⟩
    · rw [← List.drop_drop, e2, List.drop_left]
      exact ⟨t, fun x hx => hq1 x (List.mem_cons_of_mem _ hx), rfl⟩
theorem piece_data (s : ByteArray) (a b : Nat) : (s.extract a (a + b)).data.toList = (s.data.toList.drop a).take b := by
  rw [ByteArray.data_extract, Array.toList_extract, List.extract_eq_take_drop]
  congr 1
  omega
/-- What firstBad tells: no place of a text, some place of what is none. -/
def badP (s : ByteArray) (e : Ending) : Prop := (Txt s.data.toList ∧ e = .returned (.tuple #[.int .i64 0, .bool false])) ∨ (¬ Txt s.data.toList ∧ ∃ at' : Nat, at' < s.size ∧ e = .returned (.tuple #[.int .i64 (at' : Nat), .bool true]))
set_option maxHeartbeats 1000000 in
theorem firstBad_any (s : ByteArray) (w : World) (hs : s.size ≤ 32768) (hE : Env w) :
    Calls Tryz.prog 22 #[.string s] w fun e w' => badP s e ∧ Below w.heap.size w w' := by
  have HE := hide hE
  clear hE
  go_enter Tryz.func22, Tryz.ntmps22
  go_wp2_with fail
  go_loopw [4, 5, 6] (fun _ _ _ wr => ∃ pos : Nat, pos ≤ s.size ∧ Txt (s.data.toList.take pos) ∧ (Txt s.data.toList → Txt (s.data.toList.drop pos)) ∧ wr.heap[w.heap.size]? = some (.stringIter s pos) ∧ Below w.heap.size w wr) (fun _ _ _ wr => s.size - wr.iterPos w.heap.size)
  case atStart =>
    refine ⟨0, Nat.zero_le _, ⟨[], (fun _ h => by cases h), rfl⟩, fun h => h, ?_, ?_⟩
    · exact World.iter_heap w s 0
    · exact (Below.refl _ _).alloc (Nat.le_refl _) _
  case round =>
    obtain ⟨pos, hps, h1, h2, hk, hbr⟩ := hrel
    by_cases hp : pos < s.size
    · have hwd := width_pos s pos hp
      obtain ⟨_, _, hwe⟩ := decode_bytes s pos hp
      have hnx := fun ty => Lib.run_next_any_at (P := Tryz.prog) wr w.heap.size s pos ty hk hp
      have HK := hide hk
      have hbl : w.heap.size < wr.heap.size := (Array.getElem?_eq_some_iff.1 hk).1
      have HST := hide (fun h => txt_step s pos hp h1 (h2 h))
      have HT := hide h1
      have HD := hide (decodeRune_at s pos)
      generalize hd : Utf8.decode s pos = d at *
      have hbI : Below w.heap.size w (wr.iterAt w.heap.size s (pos + d.2)) := Lib.below_iterAt hbr (by omega) _ _
      have hszI : w.heap.size ≤ (wr.iterAt w.heap.size s (pos + d.2)).heap.size := by rw [Lib.iterAt_size]; omega
      have HKI : Hid ((wr.iterAt w.heap.size s (pos + d.2)).heap[w.heap.size]? = some (.stringIter s (pos + d.2))) := hide (Lib.iterAt_heap wr _ _ _ _ (unhide HK))
      have hw1 : wrap64 ((pos : Int) + (d.2 : Int)) = ((pos + d.2 : Nat) : Int) := by unfold wrap64; omega
      have HPD := hide (piece_data s pos d.2)
      clear hd hk h1 h2
      go_wp2_with fail
      refine (unhide HD _ hp ((unhide HE).below hbI)).mono ?_
      rintro e w1 ⟨rfl, hb1⟩
      go_wp2_with fail
      refine (isText_any _ _).mono ?_
      rintro e w2 ⟨rfl, hb2⟩
      have hb12 : Below w.heap.size w w2 := (hbI.trans (hb1.mono hszI)).trans (hb2.mono (Nat.le_trans hszI hb1.size))
      have hbw2 := hb1.trans (hb2.mono hb1.size)
      have HTB := hide (textB_txt (s.extract pos (pos + d.2)))
      rw [unhide HPD] at HTB
      cases htb : textB (s.extract pos (pos + d.2))
      · have HN : Hid (¬ Txt s.data.toList) := hide (fun h => by
          have := (unhide HTB).2 (unhide HST h).1
          rw [htb] at this
          cases this)
        go_wp2
        go_ret2
        exact ⟨.inr ⟨unhide HN, pos, hp, rfl⟩, hb12⟩
      · have HTT : Hid (Txt (s.data.toList.take (pos + d.2))) := hide (by
          have h := txt_app (unhide HT) ((unhide HTB).1 htb)
          rwa [← List.take_add] at h)
        go_wp2
        refine ⟨⟨pos + d.2, hwe, unhide HTT, fun h => (unhide HST h).2, block_below (unhide HKI) hbw2, hb12⟩, ?_⟩
        rw [iterPos_of (block_below (unhide HKI) hbw2), iterPos_of (unhide HK)]
        omega
    · have hnx := fun ty => Lib.run_next_end_at (P := Tryz.prog) wr w.heap.size s pos ty hk hp
      have HA : Hid (Txt s.data.toList) := by
        rw [List.take_of_length_le (show s.data.toList.length ≤ pos by show s.size ≤ pos; omega)] at h1
        exact hide h1
      clear hk h1 h2
      go_wp2
      go_ret2
      exact ⟨.inl ⟨unhide HA, rfl⟩, hbr⟩
end Go.Proofs.YtkklapoceknbcaaGreatDoor
