/- Several texts, laid as one. -/
import Derived.Test.YtmemcabipcccaaaGreatDoorGad
import Derived.Test.YtmemcabipcccaaaGreatDoorGac
import Derived.Lib.RuneCountTail
import Derived.Test.YtmemcabipcccaaaGreatDoorGbu
/- A text as bytes: xchar's Encode. -/
namespace Go.Proofs.YtmemcabipcccaaaGreatDoor
open Go.RowKit
/-- A slice of bytes that is this text now and whatever is made later. -/
def BytesAt (w : World) (v : Value) (t : ByteArray) : Prop :=
  (∃ a c, v = .slice a t.size c) ∧ ∀ w', Below w.heap.size w w' → (convert 32 9 v).run Tryz.prog w' = .ok (.string t) w'
theorem bytesAt_row {w : World} {base : Nat} {v : Value} {l : List UInt8} (h : RowB w base v l) : BytesAt w v ⟨l.toArray⟩ :=
  ⟨row_slice h, fun _ hb => conv_row (row_below h (kept_below hb))⟩
theorem bytesAt_nil (w : World) : BytesAt w (.slice none 0 0) ⟨#[]⟩ :=
  ⟨⟨none, 0, rfl⟩, fun _ _ => by rw [run_convert_bytes_nil _ 32 5 Tryz.underlying32 Tryz.underlying5 _ _ _ Tryz.underlying9]; rfl⟩
theorem bytesAt_below {w w' : World} {v : Value} {t : ByteArray} (h : BytesAt w v t) (hb : Below w.heap.size w w') : BytesAt w' v t :=
  ⟨h.1, fun w'' hb' => h.2 w'' (Below.then hb hb')⟩
theorem bytesAt_made (w : World) (s : ByteArray) (cap : Nat) (fr : Nat × Nat) : BytesAt (w.drew.alloc (.cells (bytesRow s cap) 5 fr)) (.slice (some ⟨w.heap.size, 0, none⟩) s.size cap) s := by
  refine ⟨⟨_, _, rfl⟩, fun w' hb => ?_⟩
  have hl : s.data.toList.length = s.size := rfl
  have := run_convert_bytes_back (P := Tryz.prog) w' 32 9 5 ⟨w.heap.size, 0, none⟩ cap s.data.toList Tryz.underlying32 Tryz.underlying5 Tryz.underlying9 (fun j hj => by
    have e : (⟨w.heap.size, 0, none⟩ : Addr).add j = ⟨w.heap.size, j, none⟩ := by unfold Addr.add; split <;> simp_all
    rw [e, hb.cell (by simp)]
    have := World.cell?_alloc_mark w.drew (bytesRow s cap) 5 fr j
    rw [show w.drew.heap.size = w.heap.size from rfl] at this
    rw [this, bytesRow_at s cap j hj]
    rfl)
  rw [hl] at this
  rw [this]
/-- What Encode tells: the bytes and the error's number. -/
def encV (s : ByteArray) (wide : Bool) : ByteArray × Int :=
  if !Lib.validD s.data.toList then (⟨#[]⟩, 3) else if 32768 < s.size then (⟨#[]⟩, 6) else if wide then (⟨(encW s).toArray⟩, 0) else (s, 0)
theorem enc_ret {s : ByteArray} {wide : Bool} {w w' : World} {v : Value} {n : Int} {t : ByteArray} (h : encV s wide = (t, n)) (hb : BytesAt w' v t) (hB : Below w.heap.size w w') :
    ∃ v', Ending.returned (.tuple #[v, .int .i64 n]) = .returned (.tuple #[v', .int .i64 (encV s wide).2]) ∧ BytesAt w' v' (encV s wide).1 ∧ Below w.heap.size w w' :=
  ⟨v, by rw [h], by rw [h]; exact hb, hB⟩
set_option maxHeartbeats 1000000 in
theorem encode_any (s : ByteArray) (wide : Bool) (w : World) (hs : s.size ≤ 9223372036854775807) (hE : Env w) :
    Calls Tryz.prog 12 #[.string s, .bool wide] w fun e w' => ∃ v, e = .returned (.tuple #[v, .int .i64 (encV s wide).2]) ∧ BytesAt w' v (encV s wide).1 ∧ Below w.heap.size w w' := by
  have HE := hide hE
  clear hE
  have hcv := fun w => run_bytes_of_string (P := Tryz.prog) w 9 32 5 s Tryz.underlying9 Tryz.underlying32 Tryz.underlying5
  cases hv : Lib.validD s.data.toList
  · have HV := hide hv
    clear hv
    go_enter Tryz.func12, Tryz.ntmps12
    go_wp2_with fail
    refine (validString_any s _ hs (unhide HE)).mono ?_
    rintro e w1 ⟨rfl, hb1⟩
    rw [unhide HV]
    go_wp2
    go_ret2
    exact enc_ret (by unfold encV; rw [unhide HV]; rfl) (bytesAt_nil _) hb1
  · have HV := hide hv
    clear hv
    by_cases hl : 32768 < s.size
    · have hl' : (32768 : Int) < s.size := by omega
      go_enter Tryz.func12, Tryz.ntmps12
      go_wp2_with fail
      refine (validString_any s _ hs (unhide HE)).mono ?_
      rintro e w1 ⟨rfl, hb1⟩
      rw [unhide HV]
      go_wp2
      go_ret2
      exact enc_ret (by unfold encV; rw [unhide HV, if_neg (by decide), if_pos hl]) (bytesAt_nil _) hb1
    · have hl' : ¬ (32768 : Int) < s.size := by omega
      cases wide
      · go_enter Tryz.func12, Tryz.ntmps12
        go_wp2_with fail
        refine (validString_any s _ hs (unhide HE)).mono ?_
        rintro e w1 ⟨rfl, hb1⟩
        rw [unhide HV]
        go_wp2
        go_ret2
        have hm := bytesAt_made w1 s (grownCap w1 s.size 0 5)
        exact enc_ret (by unfold encV; rw [unhide HV, if_neg (by decide), if_neg hl, if_neg (by decide)]) (hm _) ((hb1.drew).alloc hb1.size _)
      · go_enter Tryz.func12, Tryz.ntmps12
        go_wp2_with fail
        refine (validString_any s _ hs (unhide HE)).mono ?_
        rintro e w1 ⟨rfl, hb1⟩
        rw [unhide HV]
        clear hcv
        go_wp2_with fail
        refine (encodeWide_any s _ (by omega)).mono ?_
        rintro e w2 ⟨v, rfl, hrow, hb2⟩
        go_wp2
        go_ret2
        exact enc_ret (by unfold encV; rw [unhide HV, if_neg (by decide), if_neg hl, if_pos rfl]) (bytesAt_row hrow) (Below.then hb1 hb2)
end Go.Proofs.YtmemcabipcccaaaGreatDoor
/- The reference's Encode alone (RefEnc without its law). -/
namespace Go.Proofs.YtmemcabipcccaaaGreatDoor
open Go.RowKit
theorem decodeRune_enc (s : ByteArray) (pos : Nat) (w : World) (hp : pos < s.size) (hE : Env w) :
    Calls Tryz.prog 48 #[.string (s.extract pos s.size)] w fun e w' => e = .returned (.tuple #[.int .i32 (Utf8.decode s pos).1, .int .i64 (Utf8.decode s pos).2]) ∧ Below w.heap.size w w' := by
  have e : Lib.decodeGo (s.extract pos s.size) = Utf8.decode s pos := by
    unfold Lib.decodeGo
    rw [if_neg (by rw [ByteArray.size_extract]; omega), Lib.tail_decode, Nat.add_zero]
  have := Tryz.utf8_DecodeRuneInString (s.extract pos s.size) w hE.tabs
  rw [e] at this
  exact this
theorem end_le (s : ByteArray) (pos : Nat) (hp : pos < s.size) : pos + (Utf8.decode s pos).2 ≤ s.size := by
  have h := Lib.decodeL_le (s.data.toList.drop pos) (by intro h; have := congrArg List.length h; rw [List.length_drop] at this; have hl : s.data.toList.length = s.size := rfl; simp at this; omega)
  rw [Lib.decodeL_drop, List.length_drop] at h
  have hl : s.data.toList.length = s.size := rfl
  omega
theorem pair_cells (l : List UInt8) (r : Nat) (h1 : 65536 ≤ r) (h2 : r ≤ 1114111) :
    byteCells (l ++ (unitB (55296 + (r - 65536) / 1024) ++ unitB (56320 + (r - 65536) % 1024))) = byteCells l ++ [.int .u8 ((55296 + ((r : Int) - 65536) / 1024) / 256), .int .u8 ((55296 + ((r : Int) - 65536) / 1024) % 256), .int .u8 ((56320 + ((r : Int) - 65536) % 1024) / 256), .int .u8 ((56320 + ((r : Int) - 65536) % 1024) % 256)] := by
  rw [← List.append_assoc, unit_cells _ _ (by omega), unit_cells _ _ (by omega)]
  have e1 : ((55296 + (r - 65536) / 1024 : Nat) : Int) = 55296 + ((r : Int) - 65536) / 1024 := by omega
  have e2 : ((56320 + (r - 65536) % 1024 : Nat) : Int) = 56320 + ((r : Int) - 65536) % 1024 := by omega
  rw [e1, e2]
  simp
set_option maxRecDepth 100000 in
set_option maxHeartbeats 2000000 in
theorem refEncode_wide (s : ByteArray) (w : World) (hs : s.size ≤ 32768) (hE : Env w) (hv : Lib.validD s.data.toList = true) :
    Calls Tryz.prog 26 #[.string s, .bool true] w fun e w' => ∃ v, e = .returned (.tuple #[v, .int .i64 0]) ∧ BytesAt w' v ⟨(encW s).toArray⟩ ∧ Below w.heap.size w w' := by
  obtain ⟨i0, hi, hz0, hz1, hz2⟩ := info_parts (show (Tryz.prog.info? 5).map (fun i => (i.zero, i.size, i.bytes)) = some (some (.int .u8 0), 1, 1) by kernel_rfl)
  have HE := hide hE
  have HV := hide hv
  clear hE hv
  have hl' : ¬ (32768 : Int) < s.size := by omega
  go_enter Tryz.func26, Tryz.ntmps26
  go_wp2_with fail
  refine (validString_any s _ (by omega) (unhide HE)).mono ?_
  rintro e w1 ⟨rfl, hb1⟩
  rw [unhide HV]
  go_wp2_with fail
  go_loopw [6, 7] (fun v i wr => ∃ (pos f : Nat) (l : List UInt8), i = .int .i64 pos ∧ wr.ownsRow w1.heap.size 5 1 v l.length (byteCells l) ∧ Below w1.heap.size w1 wr ∧ encW s = l ++ wideFrom s f pos ∧ s.size < pos + f ∧ l.length ≤ 2 + 4 * pos ∧ pos ≤ s.size) (fun _ i _ => s.size - (intOf i).toNat)
  case atStart =>
    refine ⟨0, s.size + 1, [254, 255], rfl, ⟨rfl, .inr ⟨w1.heap.size, 2, #[.int .u8 254, .int .u8 255], rfl, Nat.le_refl _, heap_alloc_new w1 _, Nat.le_refl _, by unfold maxLen; omega, rfl, rfl⟩⟩, (Below.refl _ _).alloc (Nat.le_refl _) _, rfl, by omega, by simp, Nat.zero_le _⟩
  case round =>
    obtain ⟨pos, f, l, rfl, hown, hbr, he, hfu, hll, hps⟩ := hrel
    by_cases hp : pos < s.size
    · have hwd := width_pos s pos hp
      have hrl := rune_le s pos
      have hwe := end_le s pos hp
      obtain ⟨g, rfl, hg⟩ := wideFrom_step s f pos hp hfu
      have HF := hide (by rw [hg] at he; exact he)
      clear hg he
      go_wp2_with fail
      refine (decodeRune_enc s pos _ hp (((unhide HE).below hb1).below hbr)).mono ?_
      rintro e w2 ⟨rfl, hb2⟩
      have hown2 := owns_below hown hb2
      have hbb := Below.then hbr hb2
      have hsz := hbb.size
      have hge := owns_ge hown2
      have HG := hide hge
      clear hown hge
      generalize hd : Utf8.decode s pos = d at *
      clear hd
      obtain ⟨ad, c, rfl⟩ := owns_slice hown2
      have hrl4 := wideR_len d.1
      by_cases hlt : d.1 < 65536
      · have hlt' : ¬ (65535 : Int) < (d.1 : Int) := by omega
        have E1 := hide (show wideR d.1 = unitB d.1 by unfold wideR; rw [if_pos hlt])
        have HU := hide (unit_cells l d.1 hlt)
        go_wp2_with (at_builtin; refine wpList_append_own _ rfl _ _ 32 rfl w1.heap.size 5 i0 (.int .u8 0) 1 1 Tryz.underlying32 hi hz0 hz1 hz2 rfl (by decide) _ _ _ rfl (hown2.alloc _) ⟨w2.heap.size, 0, none⟩ 2 2 [.int .u8 ((d.1 : Int) / 256), .int .u8 ((d.1 : Int) % 256)] rfl rfl (news_cells w2 _ _) (fun x hx => by simp at hx; rcases hx with rfl | rfl <;> rfl) (by unfold maxLen; omega) (by omega) (by simp; omega) ?_; intro v3 w3 hown3 hgrow3 hnil3)
        refine ⟨⟨pos + d.2, g, l ++ unitB d.1, by go_num, ?_, Below.grown (hbb.alloc hsz _) hgrow3 (by simp; omega) (unhide HG), ?_, by omega, ?_, hwe⟩, by simp [intOf]; omega⟩
        · rw [unhide HU, show (l ++ unitB d.1).length = l.length + 2 by simp [unitB]]; exact hown3
        · rw [unhide HF, unhide E1, List.append_assoc]
        · rw [unhide E1] at hrl4; rw [List.length_append]; omega
      · have hlt' : (65535 : Int) < (d.1 : Int) := by omega
        have hand := mask10 ((d.1 : Int) - 65536) (by omega) (by omega)
        have E1 := hide (show wideR d.1 = unitB (55296 + (d.1 - 65536) / 1024) ++ unitB (56320 + (d.1 - 65536) % 1024) by unfold wideR; rw [if_neg hlt])
        have HU := hide (pair_cells l d.1 (by omega) hrl)
        go_wp2_with (at_builtin; refine wpList_append_own _ rfl _ _ 32 rfl w1.heap.size 5 i0 (.int .u8 0) 1 1 Tryz.underlying32 hi hz0 hz1 hz2 rfl (by decide) _ _ _ rfl (hown2.alloc _) ⟨w2.heap.size, 0, none⟩ 4 4 [.int .u8 ((55296 + ((d.1 : Int) - 65536) / 1024) / 256), .int .u8 ((55296 + ((d.1 : Int) - 65536) / 1024) % 256), .int .u8 ((56320 + ((d.1 : Int) - 65536) % 1024) / 256), .int .u8 ((56320 + ((d.1 : Int) - 65536) % 1024) % 256)] rfl rfl (news_cells w2 _ _) (fun x hx => by simp at hx; rcases hx with rfl | rfl | rfl | rfl <;> rfl) (by unfold maxLen; omega) (by omega) (by simp; omega) ?_; intro v3 w3 hown3 hgrow3 hnil3)
        refine ⟨⟨pos + d.2, g, l ++ wideR d.1, by go_num, ?_, Below.grown (hbb.alloc hsz _) hgrow3 (by simp; omega) (unhide HG), ?_, by omega, ?_, hwe⟩, by simp [intOf]; omega⟩
        · rw [unhide E1, unhide HU, List.length_append, List.length_append]; exact hown3
        · rw [unhide HF, List.append_assoc]
        · rw [List.length_append]; omega
    · have HF := hide (he.trans (by rw [wideFrom_end s f pos hp]))
      clear he
      go_wp2
      go_ret2
      refine ⟨_, rfl, ?_, Below.then hb1 hbr⟩
      rw [unhide HF, List.append_nil]
      exact bytesAt_row (.inl hown)
set_option maxRecDepth 100000 in
set_option maxHeartbeats 2000000 in
theorem refEncode_any (s : ByteArray) (wide : Bool) (w : World) (hs : s.size ≤ 9223372036854775807) (hE : Env w) :
    Calls Tryz.prog 26 #[.string s, .bool wide] w fun e w' => ∃ v, e = .returned (.tuple #[v, .int .i64 (encV s wide).2]) ∧ BytesAt w' v (encV s wide).1 ∧ Below w.heap.size w w' := by
  have HE := hide hE
  have hcv := fun w => run_bytes_of_string (P := Tryz.prog) w 9 32 5 s Tryz.underlying9 Tryz.underlying32 Tryz.underlying5
  cases hv : Lib.validD s.data.toList
  · have HV := hide hv
    clear hv hE
    go_enter Tryz.func26, Tryz.ntmps26
    go_wp2_with fail
    refine (validString_any s _ hs (unhide HE)).mono ?_
    rintro e w1 ⟨rfl, hb1⟩
    rw [unhide HV]
    go_wp2
    go_ret2
    exact enc_ret (by unfold encV; rw [unhide HV]; rfl) (bytesAt_nil _) hb1
  · by_cases hl : 32768 < s.size
    · have HV := hide hv
      clear hv hE
      have hl' : (32768 : Int) < s.size := by omega
      go_enter Tryz.func26, Tryz.ntmps26
      go_wp2_with fail
      refine (validString_any s _ hs (unhide HE)).mono ?_
      rintro e w1 ⟨rfl, hb1⟩
      rw [unhide HV]
      go_wp2
      go_ret2
      exact enc_ret (by unfold encV; rw [unhide HV, if_neg (by decide), if_pos hl]) (bytesAt_nil _) hb1
    · cases wide
      · have HV := hide hv
        clear hv hE
        have hl' : ¬ (32768 : Int) < s.size := by omega
        go_enter Tryz.func26, Tryz.ntmps26
        go_wp2_with fail
        refine (validString_any s _ hs (unhide HE)).mono ?_
        rintro e w1 ⟨rfl, hb1⟩
        rw [unhide HV]
        go_wp2
        go_ret2
        have hm := bytesAt_made w1 s (grownCap w1 s.size 0 5)
        exact enc_ret (by unfold encV; rw [unhide HV, if_neg (by decide), if_neg hl, if_neg (by decide)]) (hm _) ((hb1.drew).alloc hb1.size _)
      · refine (refEncode_wide s w (by omega) hE hv).mono ?_
        rintro e w1 ⟨v, rfl, hba, hb1⟩
        exact enc_ret (by unfold encV; rw [hv, if_neg (by decide), if_neg hl, if_pos rfl]) hba hb1
end Go.Proofs.YtmemcabipcccaaaGreatDoor
/- The text's bytes, or the error: the law XoutBytes. -/
namespace Go.Proofs.YtmemcabipcccaaaGreatDoor
open Go.RowKit
/-- What Bytes tells. -/
def bytesO (m : Int) (wide : Bool) (ts : List BTok) : ByteArray × Int := if (writeO m ts).2 ≠ 0 then (⟨#[]⟩, ((writeO m ts).2 : Nat)) else encV (writeO m ts).1 wide
theorem write_size {m : Int} {ts : List BTok} : (writeO m ts).1.size ≤ 32768 := by
  rcases write_two m ts with ⟨c, _, h⟩ | h
  · rw [h]; exact Nat.zero_le _
  · have h4 := (write_ok h).2.2.2.1
    rw [h]
    show (textO m ts).toArray.size ≤ _
    rw [List.size_toArray]
    exact h4
set_option maxRecDepth 100000 in
set_option maxHeartbeats 4000000 in
theorem outBytes_any (m : Int) (wide : Bool) (ts : List BTok) (a : Option Addr) (cap : Nat) (w : World) (hv : ToksArg w a ts) (hn : ts.length ≤ 1048576) (hs : ∀ t ∈ ts, Small t) (B : Nat) (hB : B ≤ w.heap.size) (hE : XEnv B w) :
    Calls Tryz.prog 10 #[.int .i64 m, .bool wide, .slice a ts.length cap] w fun e w' => ∃ v, e = .returned (.tuple #[v, .int .i64 (bytesO m wide ts).2]) ∧ BytesAt w' v (bytesO m wide ts).1 ∧ Below w.heap.size w w' := by
  have HE := hide hE
  have HW := hide (outWrite_any m ts a cap w hv hn hs B hB hE)
  have HSZ := hide (write_size (m := m) (ts := ts))
  clear hv hs hE
  rcases write_two m ts with ⟨c, hc, hR⟩ | hR
  · have HX : Hid (bytesO m wide ts = ((⟨#[]⟩ : ByteArray), ((c : Nat) : Int))) := hide (by unfold bytesO; rw [hR, if_pos (by rcases hc with rfl | rfl | rfl <;> decide)])
    rw [hR] at HW
    simp only at HW
    clear hR HSZ
    go_enter Tryz.func10, Tryz.ntmps10
    go_wp2_with fail
    refine (unhide HW).mono ?_
    rintro e w1 ⟨rfl, hb1⟩
    clear HW
    rcases hc with rfl | rfl | rfl
    all_goals
      go_wp2
      go_ret2
      rw [unhide HX]
      exact ⟨_, rfl, bytesAt_nil _, hb1⟩
  · have HX : Hid (bytesO m wide ts = encV (writeO m ts).1 wide) := hide (by unfold bytesO; rw [hR, if_neg (by simp)])
    obtain ⟨A, hA⟩ : ∃ A : ByteArray, writeO m ts = (A, 0) := ⟨_, hR⟩
    rw [hA] at HW HX HSZ
    simp only at HW HX HSZ
    clear hR hA
    go_enter Tryz.func10, Tryz.ntmps10
    go_wp2_with fail
    refine (unhide HW).mono ?_
    rintro e w1 ⟨rfl, hb1⟩
    have HC := hide (encode_any A wide w1 (by have := unhide HSZ; omega) ((unhide HE).low (hb1.mono hB)).env)
    clear HW
    go_wp2_with fail
    refine (unhide HC).mono ?_
    rintro e w2 ⟨v, rfl, hv2, hb2⟩
    have HV2 := hide hv2
    obtain ⟨av, cv, rfl⟩ := hv2.1
    clear hv2
    go_wp2
    go_ret2
    rw [unhide HX]
    exact ⟨_, rfl, unhide HV2, Below.then hb1 hb2⟩
set_option maxRecDepth 100000 in
set_option maxHeartbeats 4000000 in
theorem refOutBytes_any (m : Int) (wide : Bool) (ts : List BTok) (a : Option Addr) (cap : Nat) (w : World) (hv : ToksArg w a ts) (hn : ts.length ≤ 1048576) (hs : ∀ t ∈ ts, Small t) (B : Nat) (hB : B ≤ w.heap.size) (hE : XEnv B w) :
    Calls Tryz.prog 11 #[.int .i64 m, .bool wide, .slice a ts.length cap] w fun e w' => ∃ v, e = .returned (.tuple #[v, .int .i64 (bytesO m wide ts).2]) ∧ BytesAt w' v (bytesO m wide ts).1 ∧ Below w.heap.size w w' := by
  have HE := hide hE
  have HW := hide (refOutWrite_any m ts a cap w hv hn hs B hB hE)
  have HSZ := hide (write_size (m := m) (ts := ts))
  clear hv hs hE
  rcases write_two m ts with ⟨c, hc, hR⟩ | hR
  · have HX : Hid (bytesO m wide ts = ((⟨#[]⟩ : ByteArray), ((c : Nat) : Int))) := hide (by unfold bytesO; rw [hR, if_pos (by rcases hc with rfl | rfl | rfl <;> decide)])
    rw [hR] at HW
    simp only at HW
    clear hR HSZ
    go_enter Tryz.func11, Tryz.ntmps11
    go_wp2_with fail
    refine (unhide HW).mono ?_
    rintro e w1 ⟨rfl, hb1⟩
    clear HW
    rcases hc with rfl | rfl | rfl
    all_goals
      go_wp2
      go_ret2
      rw [unhide HX]
      exact ⟨_, rfl, bytesAt_nil _, hb1⟩
  · have HX : Hid (bytesO m wide ts = encV (writeO m ts).1 wide) := hide (by unfold bytesO; rw [hR, if_neg (by simp)])
    obtain ⟨A, hA⟩ : ∃ A : ByteArray, writeO m ts = (A, 0) := ⟨_, hR⟩
    rw [hA] at HW HX HSZ
    simp only at HW HX HSZ
    clear hR hA
    go_enter Tryz.func11, Tryz.ntmps11
    go_wp2_with fail
    refine (unhide HW).mono ?_
    rintro e w1 ⟨rfl, hb1⟩
    have HC := hide (refEncode_any A wide w1 (by have := unhide HSZ; omega) ((unhide HE).low (hb1.mono hB)).env)
    clear HW
    go_wp2_with fail
    refine (unhide HC).mono ?_
    rintro e w2 ⟨v, rfl, hv2, hb2⟩
    have HV2 := hide hv2
    obtain ⟨av, cv, rfl⟩ := hv2.1
    clear hv2
    go_wp2
    go_ret2
    rw [unhide HX]
    exact ⟨_, rfl, unhide HV2, Below.then hb1 hb2⟩
set_option maxRecDepth 100000 in
set_option maxHeartbeats 4000000 in
theorem outBytes_walk (m : Int) (wide : Bool) (ts : List BTok) (a : Option Addr) (cap : Nat) (w : World) (hv : ToksArg w a ts) (hn : ts.length ≤ 1048576) (hs : ∀ t ∈ ts, Small t) (hE : XEnv w.heap.size w) :
    Calls Tryz.prog 4 #[.int .i64 m, .bool wide, .slice a ts.length cap] w fun e w' => e = .returned (.bool true) ∧ Below w.heap.size w w' := by
  have HE := hide hE
  have HL := hide (fun W (hb : Below w.heap.size w W) => live10_any W (hE.at hb))
  have HA := hide (outBytes_any m wide ts a cap w hv hn hs w.heap.size (Nat.le_refl _) hE)
  have HB := hide (fun W (hb : Below w.heap.size w W) => refOutBytes_any m wide ts a cap W (hv.below hb) hn hs w.heap.size hb.size (hE.low hb))
  have HW := hide (fun W (hb : Below w.heap.size w W) => outWrite_any m ts a cap W (hv.below hb) hn hs w.heap.size hb.size (hE.low hb))
  have HSZ := hide (write_size (m := m) (ts := ts))
  clear hv hs hE
  rcases write_two m ts with ⟨c, hc, hR⟩ | hR
  · have hX : bytesO m wide ts = ((⟨#[]⟩ : ByteArray), ((c : Nat) : Int)) := by unfold bytesO; rw [hR, if_pos (by rcases hc with rfl | rfl | rfl <;> decide)]
    rw [hR] at HW
    rw [hX] at HA HB
    simp only at HW HA HB
    clear hR hX HSZ
    go_enter Tryz.func4, Tryz.ntmps4
    go_wp2_with fail
    refine (unhide HA).mono ?_
    rintro e w1 ⟨v1, rfl, hv1, hb1⟩
    obtain ⟨⟨a1, c1, rfl⟩, _⟩ := hv1
    have HD2 := hide (unhide HB _ hb1)
    clear HA HB
    go_wp2_with fail
    refine (unhide HD2).mono ?_
    rintro e w2 ⟨v2, rfl, hv2, hb2⟩
    obtain ⟨⟨a2, c2, rfl⟩, _⟩ := hv2
    have hb02 := Below.then hb1 hb2
    have HD3 := hide (unhide HW _ hb02)
    clear HW HD2
    go_wp2_with fail
    refine (unhide HD3).mono ?_
    rintro e w3 ⟨rfl, hb3⟩
    have hb03 := Below.then hb02 hb3
    have HL2 := hide (unhide HL _ hb03)
    have z0 : (⟨#[]⟩ : ByteArray).size = 0 := rfl
    clear HL HD3
    rcases hc with rfl | rfl | rfl
    all_goals
      go_wp2_with fail
      refine (unhide HL2).mono ?_
      rintro e w4 ⟨rfl, hb4⟩
      go_wp2
      go_ret
      exact ⟨rfl, Below.then hb03 hb4⟩
  · obtain ⟨A, hA⟩ : ∃ A : ByteArray, writeO m ts = (A, 0) := ⟨_, hR⟩
    have hX : bytesO m wide ts = encV A wide := by unfold bytesO; rw [hA, if_neg (by simp)]
    rw [hA] at HW HSZ
    rw [hX] at HA HB
    simp only at HW HSZ
    have HC := hide (fun W (hb : Below w.heap.size w W) => encode_any A wide W (by have := unhide HSZ; omega) ((unhide HE).low hb).env)
    obtain ⟨Z, n, hZ⟩ : ∃ Z n, encV A wide = (Z, n) := ⟨_, _, rfl⟩
    rw [hZ] at HA HB HC
    simp only at HA HB HC
    have e1 : (Z.toList == Z.toList) = true := by simp
    clear hR hA hX hZ HSZ
    go_enter Tryz.func4, Tryz.ntmps4
    go_wp2_with fail
    refine (unhide HA).mono ?_
    rintro e w1 ⟨v1, rfl, hv1, hb1⟩
    have HV1 := hide hv1
    have HD2 := hide (unhide HB _ hb1)
    clear HA HB hv1
    go_wp2_with fail
    refine (unhide HD2).mono ?_
    rintro e w2 ⟨v2, rfl, hv2, hb2⟩
    have HV2 := hide hv2
    have hb02 := Below.then hb1 hb2
    have HD3 := hide (unhide HW _ hb02)
    clear HW HD2 hv2
    go_wp2_with fail
    refine (unhide HD3).mono ?_
    rintro e w3 ⟨rfl, hb3⟩
    have hb03 := Below.then hb02 hb3
    have HD4 := hide (unhide HC _ hb03)
    clear HC HD3
    go_wp2_with fail
    refine (unhide HD4).mono ?_
    rintro e w4 ⟨v3, rfl, hv3, hb4⟩
    have HV3 := hide hv3
    have hb04 := Below.then hb03 hb4
    have HL2 := hide (unhide HL _ hb04)
    clear HL HD4 hv3
    go_wp2_with fail
    refine (unhide HL2).mono ?_
    rintro e w5 ⟨rfl, hb5⟩
    have q1 := bytesAt_below (unhide HV1) (Below.then hb2 (Below.then hb3 (Below.then hb4 hb5)))
    have q2 := bytesAt_below (unhide HV2) (Below.then hb3 (Below.then hb4 hb5))
    have q3 := bytesAt_below (unhide HV3) hb5
    have r1 := q1.2 w5 (Below.refl _ _)
    have r2 := q2.2 w5 (Below.refl _ _)
    have r3 := q3.2 w5 (Below.refl _ _)
    clear q1 q2 q3 HV1 HV2 HV3 HL2
    go_wp2
    go_ret
    exact ⟨rfl, Below.then hb04 hb5⟩
end Go.Proofs.YtmemcabipcccaaaGreatDoor
