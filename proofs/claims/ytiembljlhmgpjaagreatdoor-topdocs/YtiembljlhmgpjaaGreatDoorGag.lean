/- Several texts, laid as one. -/
import Derived.Test.YtiembljlhmgpjaaGreatDoorGad
import Derived.Test.YtiembljlhmgpjaaGreatDoorGac
import Derived.Test.YtiembljlhmgpjaaGreatDoorGae
import Derived.Test.YtiembljlhmgpjaaGreatDoorGaf
import Derived.Test.YtiembljlhmgpjaaGreatDoorGaa
/- A text as bytes: xchar's Encode. -/
namespace Go.Proofs.YtiembljlhmgpjaaGreatDoor
open Go.RowKit
/-- A slice of bytes that is this text now and whatever is made later. -/
def BytesAt (w : World) (v : Value) (t : ByteArray) : Prop :=
  (∃ a c, v = .slice a t.size c) ∧ ∀ w', Below w.heap.size w w' → (convert 31 9 v).run Tryz.prog w' = .ok (.string t) w'
theorem bytesAt_row {w : World} {base : Nat} {v : Value} {l : List UInt8} (h : RowB w base v l) : BytesAt w v ⟨l.toArray⟩ :=
  ⟨row_slice h, fun _ hb => conv_row (row_below h (kept_below hb))⟩
theorem bytesAt_nil (w : World) : BytesAt w (.slice none 0 0) ⟨#[]⟩ :=
  ⟨⟨none, 0, rfl⟩, fun _ _ => by rw [run_convert_bytes_nil _ 31 5 Tryz.underlying31 Tryz.underlying5 _ _ _ Tryz.underlying9]; rfl⟩
theorem bytesAt_below {w w' : World} {v : Value} {t : ByteArray} (h : BytesAt w v t) (hb : Below w.heap.size w w') : BytesAt w' v t :=
  ⟨h.1, fun w'' hb' => h.2 w'' (Below.then hb hb')⟩
theorem bytesAt_made (w : World) (s : ByteArray) (cap : Nat) (fr : Nat × Nat) : BytesAt (w.drew.alloc (.cells (bytesRow s cap) 5 fr)) (.slice (some ⟨w.heap.size, 0, none⟩) s.size cap) s := by
  refine ⟨⟨_, _, rfl⟩, fun w' hb => ?_⟩
  have hl : s.data.toList.length = s.size := rfl
  have := run_convert_bytes_back (P := Tryz.prog) w' 31 9 5 ⟨w.heap.size, 0, none⟩ cap s.data.toList Tryz.underlying31 Tryz.underlying5 Tryz.underlying9 (fun j hj => by
    have e : (⟨w.heap.size, 0, none⟩ : Addr).add j = ⟨w.heap.size, j, none⟩ := by unfold Addr.add; split <;> simp_all
    rw [e, hb.cell (by simp)]
    have := World.cell?_alloc_mark w.drew (bytesRow s cap) 5 fr j
    rw [show w.drew.heap.size = w.heap.size from rfl] at this
    rw [this, bytesRow_at s cap j hj]
    rfl)
  rw [hl] at this
  rw [this]
/-- What Encode tells: the bytes and the error's number. -/
def encV (s : ByteArray) (wide : Bool) : ByteArray × Int :=
  if !Lib.validD s.data.toList then (⟨#[]⟩, 3) else if 32768 < s.size then (⟨#[]⟩, 6) else if wide then (⟨(encW s).toArray⟩, 0) else (s, 0)
theorem enc_ret {s : ByteArray} {wide : Bool} {w w' : World} {v : Value} {n : Int} {t : ByteArray} (h : encV s wide = (t, n)) (hb : BytesAt w' v t) (hB : Below w.heap.size w w') :
    ∃ v', Ending.returned (.tuple #[v, .int .i64 n]) = .returned (.tuple #[v', .int .i64 (encV s wide).2]) ∧ BytesAt w' v' (encV s wide).1 ∧ Below w.heap.size w w' :=
  ⟨v, by rw [h], by rw [h]; exact hb, hB⟩
set_option maxHeartbeats 1000000 in
theorem encode_any (s : ByteArray) (wide : Bool) (w : World) (hs : s.size ≤ 9223372036854775807) (hE : Env w) :
    Calls Tryz.prog 8 #[.string s, .bool wide] w fun e w' => ∃ v, e = .returned (.tuple #[v, .int .i64 (encV s wide).2]) ∧ BytesAt w' v (encV s wide).1 ∧ Below w.heap.size w w' := by
  have HE := hide hE
  clear hE
  have hcv := fun w => run_bytes_of_string (P := Tryz.prog) w 9 31 5 s Tryz.underlying9 Tryz.underlying31 Tryz.underlying5
  cases hv : Lib.validD s.data.toList
  · have HV := hide hv
    clear hv
    go_enter Tryz.func8, Tryz.ntmps8
    go_wp2_with fail
    refine (validString_any s _ hs (unhide HE)).mono ?_
    rintro e w1 ⟨rfl, hb1⟩
    rw [unhide HV]
    go_wp2
    go_ret2
    exact enc_ret (by unfold encV; rw [unhide HV]; rfl) (bytesAt_nil _) hb1
  · have HV := hide hv
    clear hv
    by_cases hl : 32768 < s.size
    · have hl' : (32768 : Int) < s.size := by omega
      go_enter Tryz.func8, Tryz.ntmps8
      go_wp2_with fail
      refine (validString_any s _ hs (unhide HE)).mono ?_
      rintro e w1 ⟨rfl, hb1⟩
      rw [unhide HV]
      go_wp2
      go_ret2
      exact enc_ret (by unfold encV; rw [unhide HV, if_neg (by decide), if_pos hl]) (bytesAt_nil _) hb1
    · have hl' : ¬ (32768 : Int) < s.size := by omega
      cases wide
      · go_enter Tryz.func8, Tryz.ntmps8
        go_wp2_with fail
        refine (validString_any s _ hs (unhide HE)).mono ?_
        rintro e w1 ⟨rfl, hb1⟩
        rw [unhide HV]
        go_wp2
        go_ret2
        have hm := bytesAt_made w1 s (grownCap w1 s.size 0 5)
        exact enc_ret (by unfold encV; rw [unhide HV, if_neg (by decide), if_neg hl, if_neg (by decide)]) (hm _) ((hb1.drew).alloc hb1.size _)
      · go_enter Tryz.func8, Tryz.ntmps8
        go_wp2_with fail
        refine (validString_any s _ hs (unhide HE)).mono ?_
        rintro e w1 ⟨rfl, hb1⟩
        rw [unhide HV]
        clear hcv
        go_wp2_with fail
        refine (encodeWide_any s _ (by omega)).mono ?_
        rintro e w2 ⟨v, rfl, hrow, hb2⟩
        go_wp2
        go_ret2
        exact enc_ret (by unfold encV; rw [unhide HV, if_neg (by decide), if_neg hl, if_pos rfl]) (bytesAt_row hrow) (Below.then hb1 hb2)
end Go.Proofs.YtiembljlhmgpjaaGreatDoor
/- Bytes as a text, whatever they are: xchar's Decode. -/
namespace Go.Proofs.YtiembljlhmgpjaaGreatDoor
open Go.RowKit
theorem decFrom_len (s : ByteArray) (high : Bool) : ∀ f pos acc, (decFrom s high f pos acc).1.length ≤ acc.length + 4 * f
  | 0, _, acc => Nat.le_refl _
  | f + 1, pos, acc => by
    rw [decFrom]
    split
    · split
      · simp
      · split
        · simp
        · have := decFrom_len s high f (pos + (wideAt s pos high).2) (acc ++ runeB (wideAt s pos high).1)
          have h2 := runeB_len (wideAt s pos high).1
          rw [List.length_append] at this
          omega
    · simp
theorem decW_len (s : ByteArray) (high : Bool) : (decW s high).1.length ≤ 4 * (s.size + 1) := by
  have := decFrom_len s high (s.size + 1) 2 []
  simpa [decW] using this
set_option maxRecDepth 100000 in
set_option maxHeartbeats 1000000 in
theorem decode_wide (a : Option Addr) (c : Nat) (t : ByteArray) (high : Bool) (w : World) (hE : Env w) (hs : t.size ≤ 32768)
    (hconv : (convert 31 9 (.slice a t.size c)).run Tryz.prog w = .ok (.string t) w)
    (h : Lib.hasPrefix t.data.toList (if high then [255, 254] else [254, 255]) = true) :
    Calls Tryz.prog 9 #[.slice a t.size c] w fun e w' => e = .returned (decEnd (decW t high)) ∧ Below w.heap.size w w' := by
  have HE := hide hE
  clear hE
  have hd := decodeAny_wide t high w (by omega) h
  have HD := hide hd
  have hlen := decW_len t high
  clear hd h
  go_enter Tryz.func9, Tryz.ntmps9
  go_wp2_with fail
  refine (unhide HD).mono ?_
  rintro e w1 ⟨rfl, hb⟩
  clear HD
  generalize hx : decW t high = x at *
  obtain ⟨l, e1, at1⟩ := x
  have HX := hide hx
  clear hx
  simp only at hlen
  unfold decV
  simp only
  by_cases hz : e1 = 0
  · subst hz
    go_wp2_with fail
    refine (endLines_any ⟨l.toArray⟩ _ ((unhide HE).below hb) (by rw [size_mk]; omega)).mono ?_
    rintro e w2 ⟨rfl, hb'⟩
    go_wp2
    go_ret3
    refine ⟨?_, Below.then hb hb'⟩
    rw [unhide HX]
    unfold decEnd
    rw [if_pos rfl]
    rfl
  · have hz' : (e1 != 0) = true := by simpa using hz
    go_wp2
    go_ret3
    refine ⟨?_, hb⟩
    rw [unhide HX]
    unfold decEnd
    rw [if_neg hz]
    rfl
set_option maxRecDepth 100000 in
set_option maxHeartbeats 1000000 in
theorem decode_any (v : Value) (t : ByteArray) (w : World) (hE : Env w) (hv : BytesAt w v t) (hs : t.size ≤ 9223372036854775807) :
    Calls Tryz.prog 9 #[v] w fun e w' => e = .returned (decodeAll t) ∧ Below w.heap.size w w' := by
  obtain ⟨⟨a, c, rfl⟩, hc⟩ := hv
  have hcv := hc w (Below.refl _ _)
  clear hc
  by_cases hbig : 32768 < t.size
  · have hbig' : (32768 : Int) < (t.size : Int) := by omega
    go_enter Tryz.func9, Tryz.ntmps9
    go_wp2
    go_ret3
    refine ⟨?_, Below.refl _ _⟩
    unfold decodeAll
    rw [if_pos hbig]
    rfl
  · by_cases h1 : Lib.hasPrefix t.data.toList [254, 255] = true
    · refine (decode_wide a c t false w hE (by omega) hcv (by simpa using h1)).mono ?_
      rintro e w' ⟨rfl, hb⟩
      refine ⟨?_, hb⟩
      unfold decodeAll
      rw [if_neg hbig, if_pos h1]
    · by_cases h2 : Lib.hasPrefix t.data.toList [255, 254] = true
      · refine (decode_wide a c t true w hE (by omega) hcv (by simpa using h2)).mono ?_
        rintro e w' ⟨rfl, hb⟩
        refine ⟨?_, hb⟩
        unfold decodeAll
        rw [if_neg hbig, if_neg h1, if_pos h2]
      · refine (decode_narrow a t.size c t w hE rfl (by omega) hcv (by simpa using h1) (by simpa using h2)).mono ?_
        rintro e w' ⟨rfl, hb⟩
        refine ⟨?_, hb⟩
        unfold decodeAll
        rw [if_neg hbig, if_neg h1, if_neg h2]
end Go.Proofs.YtiembljlhmgpjaaGreatDoor
/- What is encoded is decoded as it was; what is decoded is a text without 13: plain lemmas. -/
namespace Go.Proofs.YtiembljlhmgpjaaGreatDoor
open Go.RowKit
theorem txt_of_text (s : ByteArray) (h : textR s = true) : Txt s.data.toList := by
  have e := text_eq s (s.size + 1) 0
  unfold textR at h
  rw [h] at e
  have := (fault_txt s (s.size + 1) 0 (by omega)).1 (beq_iff_eq.1 e)
  simpa using this
theorem fault_of_txt (l : List UInt8) (h : Txt l) : (fault ⟨l.toArray⟩).1 = 0 :=
  (fault_txt ⟨l.toArray⟩ _ 0 (by omega)).2 (by simpa using h)
theorem txt_of_fault (l : List UInt8) (h : (fault ⟨l.toArray⟩).1 = 0) : Txt l := by
  have := (fault_txt ⟨l.toArray⟩ _ 0 (by omega)).1 h
  simpa using this
theorem endsL_is (l : List UInt8) : endsL l = endsR l := endsL_eq l.length l (Nat.le_refl _)
theorem txt_endsL {l : List UInt8} (h : Txt l) : Txt (endsL l) := by
  obtain ⟨rs, h1, rfl⟩ := h
  rw [endsL_is]
  exact txt_ends rs h1
theorem narrowL_no {l : List UInt8} (h : ∀ c ∈ l, c ≠ 13) : ∀ c ∈ narrowL l, c ≠ 13 := by
  unfold narrowL Lib.trimPrefix
  split
  · exact fun c hc => h c (List.mem_of_mem_drop hc)
  · exact h
/-- A text without 13 is decoded as it is, but for the mark. -/
theorem decodeAll_txt (s : ByteArray) (ht : Txt s.data.toList) (h13 : ∀ c ∈ s.data.toList, c ≠ 13) (hs : s.size ≤ 32768) :
    decodeAll s = .tuple #[.string ⟨(narrowL s.data.toList).toArray⟩, .int .i64 0, .int .i64 0] := by
  unfold decodeAll
  rw [if_neg (by omega), if_neg (by rw [txt_first ht 254 255 (by decide)]; decide), if_neg (by rw [txt_first ht 255 254 (by decide)]; decide)]
  unfold decodedV
  rw [if_pos (fault_of_txt _ (txt_narrow ht)), endsL_is, endsR_plain _ (narrowL_no h13)]
theorem toArray_data (s : ByteArray) : (⟨s.data.toList.toArray⟩ : ByteArray) = s := by simp
theorem encBack_plain (s : ByteArray) (wide : Bool) (htext : textR s = true) (h13 : ∀ c ∈ s.data.toList, c ≠ 13) (hmark : Lib.hasPrefix s.data.toList [239, 187, 191] = false)
    (henc : (encV s wide).2 = 0) (hlen : (encV s wide).1.size ≤ 32768) : decodeAll (encV s wide).1 = .tuple #[.string s, .int .i64 0, .int .i64 0] := by
  have ht := txt_of_text s htext
  unfold encV at henc hlen ⊢
  by_cases hv : (!Lib.validD s.data.toList) = true
  · rw [if_pos hv] at henc; exact absurd henc (by decide)
  · rw [if_neg hv] at henc hlen ⊢
    by_cases hb : 32768 < s.size
    · rw [if_pos hb] at henc; exact absurd henc (by decide)
    · rw [if_neg hb] at henc hlen ⊢
      cases wide
      · simp only [Bool.false_eq_true, if_false] at hlen ⊢
        rw [decodeAll_txt s ht h13 hlen]
        unfold narrowL Lib.trimPrefix
        rw [if_neg (by rw [hmark]; decide), toArray_data]
      · simp only [if_true] at hlen ⊢
        obtain ⟨rs, h1, h2⟩ := ht
        have hw := wide_txt s rs (s.size + 1) 0 (by omega) (by simpa using h2) h1
        have he : encW s = [254, 255] ++ rs.flatMap wideR := by unfold encW; rw [hw]
        rw [he] at hlen ⊢
        unfold decodeAll
        rw [if_neg (by omega), if_pos (by simp [Lib.hasPrefix])]
        have hd : decW ⟨([254, 255] ++ rs.flatMap wideR).toArray⟩ false = (rs.flatMap runeB, 0, 0) := by
          unfold decW
          rw [dec_back _ rs _ 2 [] (by omega) (by simp) h1]
          rfl
        rw [hd]
        unfold decEnd
        simp only [if_true]
        rw [← h2, endsL_is, endsR_plain _ h13, toArray_data]
/-- What Decode tells: an error and no text, or a text without 13. -/
theorem dec_cases (t : ByteArray) : (∃ e p, e ≠ 0 ∧ decodeAll t = .tuple #[.string ⟨#[]⟩, .int .i64 e, .int .i64 p]) ∨
    (∃ l, Txt l ∧ (∀ c ∈ l, c ≠ 13) ∧ l.length ≤ 200000 ∧ decodeAll t = .tuple #[.string ⟨l.toArray⟩, .int .i64 0, .int .i64 0]) := by
  have wide : ∀ high, t.size ≤ 32768 → (∃ e p, e ≠ 0 ∧ decEnd (decW t high) = .tuple #[.string ⟨#[]⟩, .int .i64 e, .int .i64 p]) ∨
    (∃ l, Txt l ∧ (∀ c ∈ l, c ≠ 13) ∧ l.length ≤ 200000 ∧ decEnd (decW t high) = .tuple #[.string ⟨l.toArray⟩, .int .i64 0, .int .i64 0]) := by
    intro high hs
    have hlen := decW_len t high
    have htx : (decW t high).2.1 = 0 → Txt (decW t high).1 := dec_txt t high _ _ _ txt_nil
    generalize decW t high = x at *
    unfold decEnd
    by_cases h0 : x.2.1 = 0
    · rw [if_pos h0]
      refine .inr ⟨endsL x.1, txt_endsL (htx h0), by rw [endsL_is]; exact endsR_no _, ?_, rfl⟩
      have := endsL_le x.1
      omega
    · rw [if_neg h0]
      exact .inl ⟨_, _, h0, rfl⟩
  unfold decodeAll
  by_cases hb : 32768 < t.size
  · rw [if_pos hb]
    exact .inl ⟨6, 0, by decide, rfl⟩
  · rw [if_neg hb]
    by_cases h1 : Lib.hasPrefix t.data.toList [254, 255] = true
    · rw [if_pos h1]; exact wide false (by omega)
    · rw [if_neg h1]
      by_cases h2 : Lib.hasPrefix t.data.toList [255, 254] = true
      · rw [if_pos h2]; exact wide true (by omega)
      · rw [if_neg h2]
        have hn := narrowL_le t.data.toList
        have hl : t.data.toList.length = t.size := rfl
        generalize narrowL t.data.toList = l at *
        unfold decodedV
        by_cases h0 : (fault ⟨l.toArray⟩).1 = 0
        · rw [if_pos h0]
          refine .inr ⟨endsL l, txt_endsL (txt_of_fault l h0), by rw [endsL_is]; exact endsR_no _, ?_, rfl⟩
          have := endsL_le l
          omega
        · rw [if_neg h0]
          exact .inl ⟨_, _, h0, rfl⟩
end Go.Proofs.YtiembljlhmgpjaaGreatDoor
/- Tokens of expressions, over lists of characters: what xplex's functions tell, in plain terms. -/
namespace Go.Proofs.YtiembljlhmgpjaaGreatDoor
def begC (c : Nat) : Bool := inL (c : Int) beginL
def goC (c : Nat) : Bool := inL (c : Int) beginL || inL (c : Int) onL
def blankC (c : Nat) : Bool := c == 9 || c == 10 || c == 13 || c == 32
def digC (c : Nat) : Bool := decide (48 ≤ c) && decide (c ≤ 57)
/-- The name that characters begin with. -/
def nameA : List Nat → List Nat
  | [] => []
  | c :: t => if begC c then c :: t.takeWhile goC else []
def isNm (l : List Nat) : Bool := !l.isEmpty && nameA l == l
/-- Does a list begin with a character, and what stands behind it? -/
def heads (c : Nat) (l : List Nat) : Bool := l.head? == some c
def qnameA (l : List Nat) : List Nat :=
  if !(nameA l).isEmpty && (heads 58 (l.drop (nameA l).length) && !(nameA (l.drop (nameA l).length).tail).isEmpty) then nameA l ++ 58 :: nameA (l.drop (nameA l).length).tail else nameA l
def wordA (l : List Nat) : List Nat :=
  if heads 42 l then [42] else
  if isNm (qnameA l) && [58, 42].isPrefixOf (l.drop (qnameA l).length) then qnameA l ++ [58, 42] else qnameA l
def digsA (l : List Nat) : List Nat := l.takeWhile digC
def numA (l : List Nat) : List Nat :=
  if heads 46 (l.drop (digsA l).length) && !(digsA (l.drop (digsA l).length).tail).isEmpty then digsA l ++ 46 :: digsA (l.drop (digsA l).length).tail else digsA l
/-- What stands within the string that characters begin with, and its sign. -/
def strAt (q : Nat) (l : List Nat) : Option (List Nat) :=
  if heads q l && l.tail.contains q then some (l.tail.takeWhile (· != q)) else none
def varA (l : List Nat) : Option (List Nat) :=
  if heads 36 l && !(qnameA l.tail).isEmpty then some (qnameA l.tail) else none
/-- Is it a QName? -/
def isQ (w : List Nat) : Bool :=
  if w.contains 58 then isNm (w.takeWhile (· != 58)) && isNm (w.dropWhile (· != 58)).tail else isNm w
def opWord (w : List Nat) : Bool := w == [97, 110, 100] || w == [111, 114] || w == [109, 111, 100] || w == [100, 105, 118] || w == [42]
def typeWord (w : List Nat) : Bool := w == [99, 111, 109, 109, 101, 110, 116] || w == [116, 101, 120, 116] ||
  w == [112, 114, 111, 99, 101, 115, 115, 105, 110, 103, 45, 105, 110, 115, 116, 114, 117, 99, 116, 105, 111, 110] || w == [110, 111, 100, 101]
/-- What a word is: its kind; none: it can't stand there. pl: an operator is asked for there. -/
def wordK (w b : List Nat) (pl : Bool) : Option Nat :=
  if pl then (if opWord w then some 8 else none) else
  if heads 40 (b.dropWhile blankC) && typeWord w then some 5 else
  if heads 40 (b.dropWhile blankC) && isQ w then some 4 else
  if [58, 58].isPrefixOf (b.dropWhile blankC) && isNm w then some 6 else some 3
def signL : List (Nat × List Nat) := [(8, [47, 47]), (8, [33, 61]), (8, [60, 61]), (8, [62, 61]), (9, [58, 58]), (9, [46, 46]), (8, [47]), (8, [124]), (8, [43]), (8, [45]), (8, [61]), (8, [60]), (8, [62]),
  (9, [40]), (9, [41]), (9, [91]), (9, [93]), (9, [46]), (9, [64]), (9, [44])]
def signA (l : List Nat) : Option (Nat × List Nat) := signL.find? (fun x => x.2.isPrefixOf l)
/-- A token: its kind, its text, and the characters that it takes. -/
structure Tok where
  kind : Nat
  text : List Nat
  raw : List Nat
  deriving DecidableEq
def tokA (l : List Nat) (pl : Bool) : Option Tok :=
  if !(numA l).isEmpty then some ⟨1, numA l, numA l⟩ else
  match strAt 34 l with
  | some t => some ⟨2, t, 34 :: t ++ [34]⟩
  | none => match strAt 39 l with
    | some t => some ⟨2, t, 39 :: t ++ [39]⟩
    | none => match varA l with
      | some t => some ⟨7, t, 36 :: t⟩
      | none => if !(wordA l).isEmpty then (wordK (wordA l) (l.drop (wordA l).length) pl).map (fun k => ⟨k, wordA l, wordA l⟩)
        else (signA l).map (fun x => ⟨x.1, x.2, x.2⟩)
/-- Is an operator asked for behind a token? -/
def behindOp (t : Tok) : Bool := !(t.kind == 8 || (t.kind == 9 && (t.text == [64] || t.text == [58, 58] || t.text == [40] || t.text == [91] || t.text == [44])))
def plOf (acc : List (Tok × Nat)) : Bool := match acc.getLast? with | none => false | some t => behindOp t.1
/-- The tokens from a place on, behind blanks: all of them, or the place of what is none. n: how many bytes a list of characters has. -/
def scanA (n : List Nat → Nat) : Nat → List (Tok × Nat) → List Nat → List Nat → Except Nat (List (Tok × Nat))
  | 0, acc, _, _ => .ok acc
  | f + 1, acc, pre, l =>
    if (l.dropWhile blankC).isEmpty then .ok acc else
    match tokA (l.dropWhile blankC) (plOf acc) with
    | none => .error (n (pre ++ l.takeWhile blankC))
    | some t => scanA n f (acc ++ [(t, n (pre ++ l.takeWhile blankC))]) (pre ++ l.takeWhile blankC ++ t.raw) ((l.dropWhile blankC).drop t.raw.length)
end Go.Proofs.YtiembljlhmgpjaaGreatDoor
