/- Several texts, laid as one. -/
import Derived.Test.YtiembljlhmgpjaaGreatDoorGad
import Derived.Test.YtiembljlhmgpjaaGreatDoorGac
import Derived.Test.YtiembljlhmgpjaaGreatDoorGae
import Derived.Test.YtiembljlhmgpjaaGreatDoorGaf
import Derived.Test.YtiembljlhmgpjaaGreatDoorGaa
/- A text as bytes: xchar's Encode. -/
namespace Go.Proofs.YtiembljlhmgpjaaGreatDoor
open Go.RowKit
/-- A slice of bytes that is this text now and whatever is made later. -/
def BytesAt (w : World) (v : Value) (t : ByteArray) : Prop :=
  (∃ a c, v = .slice a t.size c) ∧ ∀ w', Below w.heap.size w w' → (convert 31 9 v).run Tryz.prog w' = .ok (.string t) w'
theorem bytesAt_row {w : World} {base : Nat} {v : Value} {l : List UInt8} (h : RowB w base v l) : BytesAt w v ⟨l.toArray⟩ :=
  ⟨row_slice h, fun _ hb => conv_row (row_below h (kept_below hb))⟩
theorem bytesAt_nil (w : World) : BytesAt w (.slice none 0 0) ⟨#[]⟩ :=
  ⟨⟨none, 0, rfl⟩, fun _ _ => by rw [run_convert_bytes_nil _ 31 5 Tryz.underlying31 Tryz.underlying5 _ _ _ Tryz.underlying9]; rfl⟩
theorem bytesAt_made (w : World) (s : ByteArray) (cap : Nat) (fr : Nat × Nat) : BytesAt (w.drew.alloc (.cells (bytesRow s cap) 5 fr)) (.slice (some ⟨w.heap.size, 0, none⟩) s.size cap) s := by
  refine ⟨⟨_, _, rfl⟩, fun w' hb => ?_⟩
  have hl : s.data.toList.length = s.size := rfl
  have := run_convert_bytes_back (P := Tryz.prog) w' 31 9 5 ⟨w.heap.size, 0, none⟩ cap s.data.toList Tryz.underlying31 Tryz.underlying5 Tryz.underlying9 (fun j hj => by
    have e : (⟨w.heap.size, 0, none⟩ : Addr).add j = ⟨w.heap.size, j, none⟩ := by unfold Addr.add; split <;> simp_all
    rw [e, hb.cell (by simp)]
    have := World.cell?_alloc_mark w.drew (bytesRow s cap) 5 fr j
    rw [show w.drew.heap.size = w.heap.size from rfl] at this
    rw [this, bytesRow_at s cap j hj]
    rfl)
  rw [hl] at this
  rw [this]
/-- What Encode tells: the bytes and the error's number. -/
def encV (s : ByteArray) (wide : Bool) : ByteArray × Int :=
  if !Lib.validD s.data.toList then (⟨#[]⟩, 3) else if 32768 < s.size then (⟨#[]⟩, 6) else if wide then (⟨(encW s).toArray⟩, 0) else (s, 0)
theorem enc_ret {s : ByteArray} {wide : Bool} {w w' : World} {v : Value} {n : Int} {t : ByteArray} (h : encV s wide = (t, n)) (hb : BytesAt w' v t) (hB : Below w.heap.size w w') :
    ∃ v', Ending.returned (.tuple #[v, .int .i64 n]) = .returned (.tuple #[v', .int .i64 (encV s wide).2]) ∧ BytesAt w' v' (encV s wide).1 ∧ Below w.heap.size w w' :=
  ⟨v, by rw [h], by rw [h]; exact hb, hB⟩
set_option maxHeartbeats 1000000 in
theorem encode_any (s : ByteArray) (wide : Bool) (w : World) (hs : s.size ≤ 9223372036854775807) (hE : Env w) :
    Calls Tryz.prog 8 #[.string s, .bool wide] w fun e w' => ∃ v, e = .returned (.tuple #[v, .int .i64 (encV s wide).2]) ∧ BytesAt w' v (encV s wide).1 ∧ Below w.heap.size w w' := by
  have HE := hide hE
  clear hE
  have hcv := fun w => run_bytes_of_string (P := Tryz.prog) w 9 31 5 s Tryz.underlying9 Tryz.underlying31 Tryz.underlying5
  cases hv : Lib.validD s.data.toList
  · have HV := hide hv
    clear hv
    go_enter Tryz.func8, Tryz.ntmps8
    go_wp2_with fail
    refine (validString_any s _ hs (unhide HE)).mono ?_
    rintro e w1 ⟨rfl, hb1⟩
    rw [unhide HV]
    go_wp2
    go_ret2
    exact enc_ret (by unfold encV; rw [unhide HV]; rfl) (bytesAt_nil _) hb1
  · have HV := hide hv
    clear hv
    by_cases hl : 32768 < s.size
    · have hl' : (32768 : Int) < s.size := by omega
      go_enter Tryz.func8, Tryz.ntmps8
      go_wp2_with fail
      refine (validString_any s _ hs (unhide HE)).mono ?_
      rintro e w1 ⟨rfl, hb1⟩
      rw [unhide HV]
      go_wp2
      go_ret2
      exact enc_ret (by unfold encV; rw [unhide HV, if_neg (by decide), if_pos hl]) (bytesAt_nil _) hb1
    · have hl' : ¬ (32768 : Int) < s.size := by omega
      cases wide
      · go_enter Tryz.func8, Tryz.ntmps8
        go_wp2_with fail
        refine (validString_any s _ hs (unhide HE)).mono ?_
        rintro e w1 ⟨rfl, hb1⟩
        rw [unhide HV]
        go_wp2
        go_ret2
        have hm := bytesAt_made w1 s (grownCap w1 s.size 0 5)
        exact enc_ret (by unfold encV; rw [unhide HV, if_neg (by decide), if_neg hl, if_neg (by decide)]) (hm _) ((hb1.drew).alloc hb1.size _)
      · go_enter Tryz.func8, Tryz.ntmps8
        go_wp2_with fail
        refine (validString_any s _ hs (unhide HE)).mono ?_
        rintro e w1 ⟨rfl, hb1⟩
        rw [unhide HV]
        clear hcv
        go_wp2_with fail
        refine (encodeWide_any s _ (by omega)).mono ?_
        rintro e w2 ⟨v, rfl, hrow, hb2⟩
        go_wp2
        go_ret2
        exact enc_ret (by unfold encV; rw [unhide HV, if_neg (by decide), if_neg hl, if_pos rfl]) (bytesAt_row hrow) (Below.then hb1 hb2)
end Go.Proofs.YtiembljlhmgpjaaGreatDoor
/- Bytes as a text, whatever they are: xchar's Decode. -/
namespace Go.Proofs.YtiembljlhmgpjaaGreatDoor
open Go.RowKit
theorem decFrom_len (s : ByteArray) (high : Bool) : ∀ f pos acc, (decFrom s high f pos acc).1.length ≤ acc.length + 4 * f
  | 0, _, acc => Nat.le_refl _
  | f + 1, pos, acc => by
    rw [decFrom]
    split
    · split
      · simp
      · split
        · simp
        · have := decFrom_len s high f (pos + (wideAt s pos high).2) (acc ++ runeB (wideAt s pos high).1)
          have h2 := runeB_len (wideAt s pos high).1
          rw [List.length_append] at this
          omega
    · simp
theorem decW_len (s : ByteArray) (high : Bool) : (decW s high).1.length ≤ 4 * (s.size + 1) := by
  have := decFrom_len s high (s.size + 1) 2 []
  simpa [decW] using this
set_option maxRecDepth 100000 in
set_option maxHeartbeats 1000000 in
theorem decode_wide (a : Option Addr) (c : Nat) (t : ByteArray) (high : Bool) (w : World) (hE : Env w) (hs : t.size ≤ 32768)
    (hconv : (convert 31 9 (.slice a t.size c)).run Tryz.prog w = .ok (.string t) w)
    (h : Lib.hasPrefix t.data.toList (if high then [255, 254] else [254, 255]) = true) :
    Calls Tryz.prog 9 #[.slice a t.size c] w fun e w' => e = .returned (decEnd (decW t high)) ∧ Below w.heap.size w w' := by
  have HE := hide hE
  clear hE
  have hd := decodeAny_wide t high w (by omega) h
  have HD := hide hd
  have hlen := decW_len t high
  clear hd h
  go_enter Tryz.func9, Tryz.ntmps9
  go_wp2_with fail
  refine (unhide HD).mono ?_
  rintro e w1 ⟨rfl, hb⟩
  clear HD
  generalize hx : decW t high = x at *
  obtain ⟨l, e1, at1⟩ := x
  have HX := hide hx
  clear hx
  simp only at hlen
  unfold decV
  simp only
  by_cases hz : e1 = 0
  · subst hz
    go_wp2_with fail
    refine (endLines_any ⟨l.toArray⟩ _ ((unhide HE).below hb) (by rw [size_mk]; omega)).mono ?_
    rintro e w2 ⟨rfl, hb'⟩
    go_wp2
    go_ret3
    refine ⟨?_, Below.then hb hb'⟩
    rw [unhide HX]
    unfold decEnd
    rw [if_pos rfl]
    rfl
  · have hz' : (e1 != 0) = true := by simpa using hz
    go_wp2
    go_ret3
    refine ⟨?_, hb⟩
    rw [unhide HX]
    unfold decEnd
    rw [if_neg hz]
    rfl
set_option maxRecDepth 100000 in
set_option maxHeartbeats 1000000 in
theorem decode_any (v : Value) (t : ByteArray) (w : World) (hE : Env w) (hv : BytesAt w v t) (hs : t.size ≤ 9223372036854775807) :
    Calls Tryz.prog 9 #[v] w fun e w' => e = .returned (decodeAll t) ∧ Below w.heap.size w w' := by
  obtain ⟨⟨a, c, rfl⟩, hc⟩ := hv
  have hcv := hc w (Below.refl _ _)
  clear hc
  by_cases hbig : 32768 < t.size
  · have hbig' : (32768 : Int) < (t.size : Int) := by omega
    go_enter Tryz.func9, Tryz.ntmps9
    go_wp2
    go_ret3
    refine ⟨?_, Below.refl _ _⟩
    unfold decodeAll
    rw [if_pos hbig]
    rfl
  · by_cases h1 : Lib.hasPrefix t.data.toList [254, 255] = true
    · refine (decode_wide a c t false w hE (by omega) hcv (by simpa using h1)).mono ?_
      rintro e w' ⟨rfl, hb⟩
      refine ⟨?_, hb⟩
      unfold decodeAll
      rw [if_neg hbig, if_pos h1]
    · by_cases h2 : Lib.hasPrefix t.data.toList [255, 254] = true
      · refine (decode_wide a c t true w hE (by omega) hcv (by simpa using h2)).mono ?_
        rintro e w' ⟨rfl, hb⟩
        refine ⟨?_, hb⟩
        unfold decodeAll
        rw [if_neg hbig, if_neg h1, if_pos h2]
      · refine (decode_narrow a t.size c t w hE rfl (by omega) hcv (by simpa using h1) (by simpa using h2)).mono ?_
        rintro e w' ⟨rfl, hb⟩
        refine ⟨?_, hb⟩
        unfold decodeAll
        rw [if_neg hbig, if_neg h1, if_neg h2]
end Go.Proofs.YtiembljlhmgpjaaGreatDoor
/- What is encoded is decoded as it was; what is decoded is a text without 13: plain lemmas. -/
namespace Go.Proofs.YtiembljlhmgpjaaGreatDoor
open Go.RowKit
theorem fault_of_txt (l : List UInt8) (h : Txt l) : (fault ⟨l.toArray⟩).1 = 0 :=
  (fault_txt ⟨l.toArray⟩ _ 0 (by omega)).2 (by simpa using h)
theorem endsL_is (l : List UInt8) : endsL l = endsR l := endsL_eq l.length l (Nat.le_refl _)
end Go.Proofs.YtiembljlhmgpjaaGreatDoor
/- Tokens of expressions, over lists of characters: what xplex's functions tell, in plain terms. -/
namespace Go.Proofs.YtiembljlhmgpjaaGreatDoor
def begC (c : Nat) : Bool := inL (c : Int) beginL
def goC (c : Nat) : Bool := inL (c : Int) beginL || inL (c : Int) onL
def blankC (c : Nat) : Bool := c == 9 || c == 10 || c == 13 || c == 32
def digC (c : Nat) : Bool := decide (48 ≤ c) && decide (c ≤ 57)
/-- The name that characters begin with. -/
def nameA : List Nat → List Nat
  | [] => []
  | c :: t => if begC c then c :: t.takeWhile goC else []
def isNm (l : List Nat) : Bool := !l.isEmpty && nameA l == l
/-- Does a list begin with a character, and what stands behind it? -/
def heads (c : Nat) (l : List Nat) : Bool := l.head? == some c
def qnameA (l : List Nat) : List Nat :=
  if !(nameA l).isEmpty && (heads 58 (l.drop (nameA l).length) && !(nameA (l.drop (nameA l).length).tail).isEmpty) then nameA l ++ 58 :: nameA (l.drop (nameA l).length).tail else nameA l
/-- Is it a QName? -/
def isQ (w : List Nat) : Bool :=
  if w.contains 58 then isNm (w.takeWhile (· != 58)) && isNm (w.dropWhile (· != 58)).tail else isNm w
/-- A token: its kind, its text, and the characters that it takes. -/
structure Tok where
  kind : Nat
  text : List Nat
  raw : List Nat
  deriving DecidableEq
end Go.Proofs.YtiembljlhmgpjaaGreatDoor
