/- A text as bytes: xchar's Encode. -/
import Derived.Test.YtfgifocgkiploaaGreatDoorEncWide
import Derived.Test.YtfgifocgkiploaaGreatDoorLive
namespace Go.Proofs.YtfgifocgkiploaaGreatDoor
open Go.RowKit
/-- A slice of bytes that is this text now and whatever is made later. -/
def BytesAt (w : World) (v : Value) (t : ByteArray) : Prop :=
  (∃ a c, v = .slice a t.size c) ∧ ∀ w', Below w.heap.size w w' → (convert 28 9 v).run Tryz.prog w' = .ok (.string t) w'
theorem bytesAt_row {w : World} {base : Nat} {v : Value} {l : List UInt8} (h : RowB w base v l) : BytesAt w v ⟨l.toArray⟩ :=
  ⟨row_slice h, fun _ hb => conv_row (row_below h (kept_below hb))⟩
theorem bytesAt_nil (w : World) : BytesAt w (.slice none 0 0) ⟨#[]⟩ :=
  ⟨⟨none, 0, rfl⟩, fun _ _ => by rw [run_convert_bytes_nil _ 28 5 Tryz.underlying28 Tryz.underlying5 _ _ _ Tryz.underlying9]; rfl⟩
theorem bytesAt_below {w w' : World} {v : Value} {t : ByteArray} (h : BytesAt w v t) (hb : Below w.heap.size w w') : BytesAt w' v t :=
  ⟨h.1, fun w'' hb' => h.2 w'' (Below.then hb hb')⟩
theorem bytesAt_made (w : World) (s : ByteArray) (cap : Nat) (fr : Nat × Nat) : BytesAt (w.drew.alloc (.cells (bytesRow s cap) 5 fr)) (.slice (some ⟨w.heap.size, 0, none⟩) s.size cap) s := by
  refine ⟨⟨_, _, rfl⟩, fun w' hb => ?_⟩
  have hl : s.data.toList.length = s.size := rfl
  have := run_convert_bytes_back (P := Tryz.prog) w' 28 9 5 ⟨w.heap.size, 0, none⟩ cap s.data.toList Tryz.underlying28 Tryz.underlying5 Tryz.underlying9 (fun j hj => by
    have e : (⟨w.heap.size, 0, none⟩ : Addr).add j = ⟨w.heap.size, j, none⟩ := by unfold Addr.add; split <;> simp_all
    rw [e, hb.cell (by simp)]
    have := World.cell?_alloc_mark w.drew (bytesRow s cap) 5 fr j
    rw [show w.drew.heap.size = w.heap.size from rfl] at this
    rw [this, bytesRow_at s cap j hj]
    rfl)
  rw [hl] at this
  rw [this]
/-- What Encode tells: the bytes and the error's number. -/
def encV (s : ByteArray) (wide : Bool) : ByteArray × Int :=
  if !Lib.validD s.data.toList then (⟨#[]⟩, 3) else if 32768 < s.size then (⟨#[]⟩, 6) else if wide then (⟨(encW s).toArray⟩, 0) else (s, 0)
theorem enc_ret {s : ByteArray} {wide : Bool} {w w' : World} {v : Value} {n : Int} {t : ByteArray} (h : encV s wide = (t, n)) (hb : BytesAt w' v t) (hB : Below w.heap.size w w') :
    ∃ v', Ending.returned (.tuple #[v, .int .i64 n]) = .returned (.tuple #[v', .int .i64 (encV s wide).2]) ∧ BytesAt w' v' (encV s wide).1 ∧ Below w.heap.size w w' :=
  ⟨v, by rw [h], by rw [h]; exact hb, hB⟩
set_option maxHeartbeats 1000000 in
theorem encode_any (s : ByteArray) (wide : Bool) (w : World) (hs : s.size ≤ 9223372036854775807) (hE : Env w) :
    Calls Tryz.prog 7 #[.string s, .bool wide] w fun e w' => ∃ v, e = .returned (.tuple #[v, .int .i64 (encV s wide).2]) ∧ BytesAt w' v (encV s wide).1 ∧ Below w.heap.size w w' := by
  have HE := hide hE
  clear hE
  have hcv := fun w => run_bytes_of_string (P := Tryz.prog) w 9 28 5 s Tryz.underlying9 Tryz.underlying28 Tryz.underlying5
  cases hv : Lib.validD s.data.toList
  · have HV := hide hv
    clear hv
    go_enter Tryz.func7, Tryz.ntmps7
    go_wp2_with fail
    refine (validString_any s _ hs (unhide HE)).mono ?_
    rintro e w1 ⟨rfl, hb1⟩
    rw [unhide HV]
    go_wp2
    go_ret2
    exact enc_ret (by unfold encV; rw [unhide HV]; rfl) (bytesAt_nil _) hb1
  · have HV := hide hv
    clear hv
    by_cases hl : 32768 < s.size
    · have hl' : (32768 : Int) < s.size := by omega
      go_enter Tryz.func7, Tryz.ntmps7
      go_wp2_with fail
      refine (validString_any s _ hs (unhide HE)).mono ?_
      rintro e w1 ⟨rfl, hb1⟩
      rw [unhide HV]
      go_wp2
      go_ret2
      exact enc_ret (by unfold encV; rw [unhide HV, if_neg (by decide), if_pos hl]) (bytesAt_nil _) hb1
    · have hl' : ¬ (32768 : Int) < s.size := by omega
      cases wide
      · go_enter Tryz.func7, Tryz.ntmps7
        go_wp2_with fail
        refine (validString_any s _ hs (unhide HE)).mono ?_
        rintro e w1 ⟨rfl, hb1⟩
        rw [unhide HV]
        go_wp2
        go_ret2
        have hm := bytesAt_made w1 s (grownCap w1 s.size 0 5)
        exact enc_ret (by unfold encV; rw [unhide HV, if_neg (by decide), if_neg hl, if_neg (by decide)]) (hm _) ((hb1.drew).alloc hb1.size _)
      · go_enter Tryz.func7, Tryz.ntmps7
        go_wp2_with fail
        refine (validString_any s _ hs (unhide HE)).mono ?_
        rintro e w1 ⟨rfl, hb1⟩
        rw [unhide HV]
        clear hcv
        go_wp2_with fail
        refine (encodeWide_any s _ (by omega)).mono ?_
        rintro e w2 ⟨v, rfl, hrow, hb2⟩
        go_wp2
        go_ret2
        exact enc_ret (by unfold encV; rw [unhide HV, if_neg (by decide), if_neg hl, if_pos rfl]) (bytesAt_row hrow) (Below.then hb1 hb2)
end Go.Proofs.YtfgifocgkiploaaGreatDoor
