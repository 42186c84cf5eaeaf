/- Bytes as a text, whatever they are: xchar's Decode. -/
import Derived.Test.YtfgifocgkiploaaGreatDoorDecWide2
import Derived.Test.YtfgifocgkiploaaGreatDoorEncode
namespace Go.Proofs.YtfgifocgkiploaaGreatDoor
open Go.RowKit
theorem decFrom_len (s : ByteArray) (high : Bool) : ∀ f pos acc, (decFrom s high f pos acc).1.length ≤ acc.length + 4 * f
  | 0, _, acc => Nat.le_refl _
  | f + 1, pos, acc => by
    rw [decFrom]
    split
    · split
      · simp
      · split
        · simp
        · have := decFrom_len s high f (pos + (wideAt s pos high).2) (acc ++ runeB (wideAt s pos high).1)
          have h2 := runeB_len (wideAt s pos high).1
          rw [List.length_append] at this
          omega
    · simp
theorem decW_len (s : ByteArray) (high : Bool) : (decW s high).1.length ≤ 4 * (s.size + 1) := by
  have := decFrom_len s high (s.size + 1) 2 []
  simpa [decW] using this
set_option maxRecDepth 100000 in
set_option maxHeartbeats 1000000 in
theorem decode_wide (a : Option Addr) (c : Nat) (t : ByteArray) (high : Bool) (w : World) (hE : Env w) (hs : t.size ≤ 32768)
    (hconv : (convert 28 9 (.slice a t.size c)).run Tryz.prog w = .ok (.string t) w)
    (h : Lib.hasPrefix t.data.toList (if high then [255, 254] else [254, 255]) = true) :
    Calls Tryz.prog 8 #[.slice a t.size c] w fun e w' => e = .returned (decEnd (decW t high)) ∧ Below w.heap.size w w' := by
  have HE := hide hE
  clear hE
  have hd := decodeAny_wide t high w (by omega) h
  have HD := hide hd
  have hlen := decW_len t high
  clear hd h
  go_enter Tryz.func8, Tryz.ntmps8
  go_wp2_with fail
  refine (unhide HD).mono ?_
  rintro e w1 ⟨rfl, hb⟩
  clear HD
  generalize hx : decW t high = x at *
  obtain ⟨l, e1, at1⟩ := x
  have HX := hide hx
  clear hx
  simp only at hlen
  unfold decV
  simp only
  by_cases hz : e1 = 0
  · subst hz
    go_wp2_with fail
    refine (endLines_any ⟨l.toArray⟩ _ ((unhide HE).below hb) (by rw [size_mk]; omega)).mono ?_
    rintro e w2 ⟨rfl, hb'⟩
    go_wp2
    go_ret3
    refine ⟨?_, Below.then hb hb'⟩
    rw [unhide HX]
    unfold decEnd
    rw [if_pos rfl]
    rfl
  · have hz' : (e1 != 0) = true := by simpa using hz
    go_wp2
    go_ret3
    refine ⟨?_, hb⟩
    rw [unhide HX]
    unfold decEnd
    rw [if_neg hz]
    rfl
set_option maxRecDepth 100000 in
set_option maxHeartbeats 1000000 in
theorem decode_any (v : Value) (t : ByteArray) (w : World) (hE : Env w) (hv : BytesAt w v t) (hs : t.size ≤ 9223372036854775807) :
    Calls Tryz.prog 8 #[v] w fun e w' => e = .returned (decodeAll t) ∧ Below w.heap.size w w' := by
  obtain ⟨⟨a, c, rfl⟩, hc⟩ := hv
  have hcv := hc w (Below.refl _ _)
  clear hc
  by_cases hbig : 32768 < t.size
  · have hbig' : (32768 : Int) < (t.size : Int) := by omega
    go_enter Tryz.func8, Tryz.ntmps8
    go_wp2
    go_ret3
    refine ⟨?_, Below.refl _ _⟩
    unfold decodeAll
    rw [if_pos hbig]
    rfl
  · by_cases h1 : Lib.hasPrefix t.data.toList [254, 255] = true
    · refine (decode_wide a c t false w hE (by omega) hcv (by simpa using h1)).mono ?_
      rintro e w' ⟨rfl, hb⟩
      refine ⟨?_, hb⟩
      unfold decodeAll
      rw [if_neg hbig, if_pos h1]
    · by_cases h2 : Lib.hasPrefix t.data.toList [255, 254] = true
      · refine (decode_wide a c t true w hE (by omega) hcv (by simpa using h2)).mono ?_
        rintro e w' ⟨rfl, hb⟩
        refine ⟨?_, hb⟩
        unfold decodeAll
        rw [if_neg hbig, if_neg h1, if_pos h2]
      · refine (decode_narrow a t.size c t w hE rfl (by omega) hcv (by simpa using h1) (by simpa using h2)).mono ?_
        rintro e w' ⟨rfl, hb⟩
        refine ⟨?_, hb⟩
        unfold decodeAll
        rw [if_neg hbig, if_neg h1, if_neg h2]
end Go.Proofs.YtfgifocgkiploaaGreatDoor
