/- The reference's Encode, and the law XcharEncodes. -/
import Derived.Test.YtapehgheaododaaDoorEncode
import Derived.Lib.RuneCountTail
namespace Go.Proofs.YtapehgheaododaaDoor
open Go.RowKit
theorem decodeRune_enc (s : ByteArray) (pos : Nat) (w : World) (hp : pos < s.size) (hE : Env w) :
    Calls Tryd.prog 36 #[.string (s.extract pos s.size)] w fun e w' => e = .returned (.tuple #[.int .i32 (Utf8.decode s pos).1, .int .i64 (Utf8.decode s pos).2]) ∧ Below w.heap.size w w' := by
  have e : Lib.decodeGo (s.extract pos s.size) = Utf8.decode s pos := by
    unfold Lib.decodeGo
    rw [if_neg (by rw [ByteArray.size_extract]; omega), Lib.tail_decode, Nat.add_zero]
  have := Tryd.utf8_DecodeRuneInString (s.extract pos s.size) w hE.tabs
  rw [e] at this
  exact this
theorem end_le (s : ByteArray) (pos : Nat) (hp : pos < s.size) : pos + (Utf8.decode s pos).2 ≤ s.size := by
  have h := Lib.decodeL_le (s.data.toList.drop pos) (by intro h; have := congrArg List.length h; rw [List.length_drop] at this; have hl : s.data.toList.length = s.size := rfl; simp at this; omega)
  rw [Lib.decodeL_drop, List.length_drop] at h
  have hl : s.data.toList.length = s.size := rfl
  omega
theorem pair_cells (l : List UInt8) (r : Nat) (h1 : 65536 ≤ r) (h2 : r ≤ 1114111) :
    byteCells (l ++ (unitB (55296 + (r - 65536) / 1024) ++ unitB (56320 + (r - 65536) % 1024))) = byteCells l ++ [.int .u8 ((55296 + ((r : Int) - 65536) / 1024) / 256), .int .u8 ((55296 + ((r : Int) - 65536) / 1024) % 256), .int .u8 ((56320 + ((r : Int) - 65536) % 1024) / 256), .int .u8 ((56320 + ((r : Int) - 65536) % 1024) % 256)] := by
  rw [← List.append_assoc, unit_cells _ _ (by omega), unit_cells _ _ (by omega)]
  have e1 : ((55296 + (r - 65536) / 1024 : Nat) : Int) = 55296 + ((r : Int) - 65536) / 1024 := by omega
  have e2 : ((56320 + (r - 65536) % 1024 : Nat) : Int) = 56320 + ((r : Int) - 65536) % 1024 := by omega
  rw [e1, e2]
  simp
set_option maxHeartbeats 2000000 in
theorem refEncode_wide (s : ByteArray) (w : World) (hs : s.size ≤ 32768) (hE : Env w) (hv : Lib.validD s.data.toList = true) :
    Calls Tryd.prog 14 #[.string s, .bool true] w fun e w' => ∃ v, e = .returned (.tuple #[v, .int .i64 0]) ∧ BytesAt w' v ⟨(encW s).toArray⟩ ∧ Below w.heap.size w w' := by
  obtain ⟨i0, hi, hz0, hz1, hz2⟩ := info_parts (show (Tryd.prog.info? 5).map (fun i => (i.zero, i.size, i.bytes)) = some (some (.int .u8 0), 1, 1) by kernel_rfl)
  have HE := hide hE
  have HV := hide hv
  clear hE hv
  have hl' : ¬ (32768 : Int) < s.size := by omega
  go_enter Tryd.func14, Tryd.ntmps14
  go_wp2_with fail
  refine (validString_any s _ (by omega) (unhide HE)).mono ?_
  rintro e w1 ⟨rfl, hb1⟩
  rw [unhide HV]
  go_wp2_with fail
  go_loopw [6, 7] (fun v i wr => ∃ (pos f : Nat) (l : List UInt8), i = .int .i64 pos ∧ wr.ownsRow w1.heap.size 5 1 v l.length (byteCells l) ∧ Below w1.heap.size w1 wr ∧ encW s = l ++ wideFrom s f pos ∧ s.size < pos + f ∧ l.length ≤ 2 + 4 * pos ∧ pos ≤ s.size) (fun _ i _ => s.size - (intOf i).toNat)
  case atStart =>
    refine ⟨0, s.size + 1, [254, 255], rfl, ⟨rfl, .inr ⟨w1.heap.size, 2, #[.int .u8 254, .int .u8 255], rfl, Nat.le_refl _, heap_alloc_new w1 _, Nat.le_refl _, by unfold maxLen; omega, rfl, rfl⟩⟩, (Below.refl _ _).alloc (Nat.le_refl _) _, rfl, by omega, by simp, Nat.zero_le _⟩
  case round =>
    obtain ⟨pos, f, l, rfl, hown, hbr, he, hfu, hll, hps⟩ := hrel
    by_cases hp : pos < s.size
    · have hwd := width_pos s pos hp
      have hrl := rune_le s pos
      have hwe := end_le s pos hp
      obtain ⟨g, rfl, hg⟩ := wideFrom_step s f pos hp hfu
      have HF := hide (by rw [hg] at he; exact he)
      clear hg he
      go_wp2_with fail
      refine (decodeRune_enc s pos _ hp (((unhide HE).below hb1).below hbr)).mono ?_
      rintro e w2 ⟨rfl, hb2⟩
      have hown2 := owns_below hown hb2
      have hbb := Below.then hbr hb2
      have hsz := hbb.size
      have hge := owns_ge hown2
      have HG := hide hge
      clear hown hge
      generalize hd : Utf8.decode s pos = d at *
      clear hd
      obtain ⟨ad, c, rfl⟩ := owns_slice hown2
      have hrl4 := wideR_len d.1
      by_cases hlt : d.1 < 65536
      · have hlt' : ¬ (65535 : Int) < (d.1 : Int) := by omega
        have E1 := hide (show wideR d.1 = unitB d.1 by unfold wideR; rw [if_pos hlt])
        have HU := hide (unit_cells l d.1 hlt)
        go_wp2_with (at_builtin; refine wpList_append_own _ rfl _ _ 22 rfl w1.heap.size 5 i0 (.int .u8 0) 1 1 Tryd.underlying22 hi hz0 hz1 hz2 rfl (by decide) _ _ _ rfl (hown2.alloc _) ⟨w2.heap.size, 0, none⟩ 2 2 [.int .u8 ((d.1 : Int) / 256), .int .u8 ((d.1 : Int) % 256)] rfl rfl (news_cells w2 _ _) (fun x hx => by simp at hx; rcases hx with rfl | rfl <;> rfl) (by unfold maxLen; omega) (by omega) (by simp; omega) ?_; intro v3 w3 hown3 hgrow3 hnil3)
        refine ⟨⟨pos + d.2, g, l ++ unitB d.1, by go_num, ?_, Below.grown (hbb.alloc hsz _) hgrow3 (by simp; omega) (unhide HG), ?_, by omega, ?_, hwe⟩, by simp [intOf]; omega⟩
        · rw [unhide HU, show (l ++ unitB d.1).length = l.length + 2 by simp [unitB]]; exact hown3
        · rw [unhide HF, unhide E1, List.append_assoc]
        · rw [unhide E1] at hrl4; rw [List.length_append]; omega
      · have hlt' : (65535 : Int) < (d.1 : Int) := by omega
        have hand := mask10 ((d.1 : Int) - 65536) (by omega) (by omega)
        have E1 := hide (show wideR d.1 = unitB (55296 + (d.1 - 65536) / 1024) ++ unitB (56320 + (d.1 - 65536) % 1024) by unfold wideR; rw [if_neg hlt])
        have HU := hide (pair_cells l d.1 (by omega) hrl)
        go_wp2_with (at_builtin; refine wpList_append_own _ rfl _ _ 22 rfl w1.heap.size 5 i0 (.int .u8 0) 1 1 Tryd.underlying22 hi hz0 hz1 hz2 rfl (by decide) _ _ _ rfl (hown2.alloc _) ⟨w2.heap.size, 0, none⟩ 4 4 [.int .u8 ((55296 + ((d.1 : Int) - 65536) / 1024) / 256), .int .u8 ((55296 + ((d.1 : Int) - 65536) / 1024) % 256), .int .u8 ((56320 + ((d.1 : Int) - 65536) % 1024) / 256), .int .u8 ((56320 + ((d.1 : Int) - 65536) % 1024) % 256)] rfl rfl (news_cells w2 _ _) (fun x hx => by simp at hx; rcases hx with rfl | rfl | rfl | rfl <;> rfl) (by unfold maxLen; omega) (by omega) (by simp; omega) ?_; intro v3 w3 hown3 hgrow3 hnil3)
        refine ⟨⟨pos + d.2, g, l ++ wideR d.1, by go_num, ?_, Below.grown (hbb.alloc hsz _) hgrow3 (by simp; omega) (unhide HG), ?_, by omega, ?_, hwe⟩, by simp [intOf]; omega⟩
        · rw [unhide E1, unhide HU, List.length_append, List.length_append]; exact hown3
        · rw [unhide HF, List.append_assoc]
        · rw [List.length_append]; omega
    · have HF := hide (he.trans (by rw [wideFrom_end s f pos hp]))
      clear he
      go_wp2
      go_ret2
      refine ⟨_, rfl, ?_, Below.then hb1 hbr⟩
      rw [unhide HF, List.append_nil]
      exact bytesAt_row (.inl hown)
set_option maxHeartbeats 1000000 in
theorem refEncode_any (s : ByteArray) (wide : Bool) (w : World) (hs : s.size ≤ 9223372036854775807) (hE : Env w) :
    Calls Tryd.prog 14 #[.string s, .bool wide] w fun e w' => ∃ v, e = .returned (.tuple #[v, .int .i64 (encV s wide).2]) ∧ BytesAt w' v (encV s wide).1 ∧ Below w.heap.size w w' := by
  have HE := hide hE
  have hcv := fun w => run_bytes_of_string (P := Tryd.prog) w 9 22 5 s Tryd.underlying9 Tryd.underlying22 Tryd.underlying5
  cases hv : Lib.validD s.data.toList
  · have HV := hide hv
    clear hv hE
    go_enter Tryd.func14, Tryd.ntmps14
    go_wp2_with fail
    refine (validString_any s _ hs (unhide HE)).mono ?_
    rintro e w1 ⟨rfl, hb1⟩
    rw [unhide HV]
    go_wp2
    go_ret2
    exact enc_ret (by unfold encV; rw [unhide HV]; rfl) (bytesAt_nil _) hb1
  · by_cases hl : 32768 < s.size
    · have HV := hide hv
      clear hv hE
      have hl' : (32768 : Int) < s.size := by omega
      go_enter Tryd.func14, Tryd.ntmps14
      go_wp2_with fail
      refine (validString_any s _ hs (unhide HE)).mono ?_
      rintro e w1 ⟨rfl, hb1⟩
      rw [unhide HV]
      go_wp2
      go_ret2
      exact enc_ret (by unfold encV; rw [unhide HV, if_neg (by decide), if_pos hl]) (bytesAt_nil _) hb1
    · cases wide
      · have HV := hide hv
        clear hv hE
        have hl' : ¬ (32768 : Int) < s.size := by omega
        go_enter Tryd.func14, Tryd.ntmps14
        go_wp2_with fail
        refine (validString_any s _ hs (unhide HE)).mono ?_
        rintro e w1 ⟨rfl, hb1⟩
        rw [unhide HV]
        go_wp2
        go_ret2
        have hm := bytesAt_made w1 s (grownCap w1 s.size 0 5)
        exact enc_ret (by unfold encV; rw [unhide HV, if_neg (by decide), if_neg hl, if_neg (by decide)]) (hm _) ((hb1.drew).alloc hb1.size _)
      · refine (refEncode_wide s w (by omega) hE hv).mono ?_
        rintro e w1 ⟨v, rfl, hba, hb1⟩
        exact enc_ret (by unfold encV; rw [hv, if_neg (by decide), if_neg hl, if_pos rfl]) hba hb1
set_option maxHeartbeats 1000000 in
theorem sameBytes_any (a b : Value) (s t : ByteArray) (w : World) (ha : BytesAt w a s) (hb : BytesAt w b t) :
    Calls Tryd.prog 12 #[a, b] w fun e w' => e = .returned (.bool (s.toList == t.toList)) ∧ Below w.heap.size w w' := by
  have h1 := ha.2 w (Below.refl _ _)
  have h2 := hb.2 w (Below.refl _ _)
  obtain ⟨a1, c1, rfl⟩ := ha.1
  obtain ⟨a2, c2, rfl⟩ := hb.1
  clear ha hb
  go_enter Tryd.func12, Tryd.ntmps12
  go_wp2
  go_ret
  exact ⟨rfl, Below.refl _ _⟩
set_option maxHeartbeats 1000000 in
theorem encodes_walk (s : ByteArray) (wide : Bool) (w : World) (hE : Env w) (hs : s.size ≤ 9223372036854775807) :
    Calls Tryd.prog 4 #[.string s, .bool wide] w fun e w' => e = .returned (.bool true) ∧ Below w.heap.size w w' := by
  have HE := hide hE
  clear hE
  go_enter Tryd.func4, Tryd.ntmps4
  go_wp2_with fail
  refine (encode_any s wide _ hs (unhide HE)).mono ?_
  rintro e w1 ⟨v1, rfl, hv1, hb1⟩
  have HE1 := hide ((unhide HE).below hb1)
  go_wp2_with fail
  refine (refEncode_any s wide _ hs (unhide HE1)).mono ?_
  rintro e w2 ⟨v2, rfl, hv2, hb2⟩
  have HE2 := hide ((unhide HE1).below hb2)
  have H1 := hide (bytesAt_below hv1 hb2)
  have H2 := hide hv2
  clear hv1 hv2
  go_wp2_with fail
  refine (live_any _ (unhide HE2)).mono ?_
  rintro e w3 ⟨rfl, hb3⟩
  go_wp2_with fail
  refine (sameBytes_any v1 v2 _ _ _ (bytesAt_below (unhide H1) hb3) (bytesAt_below (unhide H2) hb3)).mono ?_
  rintro e w4 ⟨rfl, hb4⟩
  go_wp2
  go_ret
  exact ⟨ret_bool (by simp), Below.then hb1 (Below.then hb2 (Below.then hb3 hb4))⟩
end Go.Proofs.YtapehgheaododaaDoor
