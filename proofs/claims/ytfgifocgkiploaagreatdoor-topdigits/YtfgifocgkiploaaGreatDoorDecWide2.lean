/- UTF-16 is read, character by character: xchar's decodeWide. -/
import Derived.Test.YtfgifocgkiploaaGreatDoorDecWide
import Derived.Lib.RuneBytes
namespace Go.Proofs.YtfgifocgkiploaaGreatDoor
open Go.RowKit
/-- A character's bytes in UTF-8. -/
def runeB (r : Nat) : List UInt8 := (Lib.encodeRuneZ (r : Int)).map fun z => UInt8.ofNat z.toNat
theorem runeZ_range (r : Nat) : ∀ z ∈ Lib.encodeRuneZ (r : Int), 0 ≤ z ∧ z < 256 := by
  intro z hz
  unfold Lib.encodeRuneZ at hz
  repeat' split at hz
  all_goals (simp at hz; omega)
theorem runeCells_eq (r : Nat) : Lib.runeCells (r : Int) = byteCells (runeB r) := by
  unfold Lib.runeCells byteCells runeB
  rw [List.map_map]
  apply List.map_congr_left
  intro z hz
  have h := runeZ_range r z hz
  show Value.int .u8 z = Value.int .u8 ((UInt8.ofNat z.toNat).toNat : Int)
  rw [UInt8.toNat_ofNat']
  congr 1
  omega
theorem runeB_len (r : Nat) : (runeB r).length ≤ 4 := by
  unfold runeB Lib.encodeRuneZ
  repeat' split
  all_goals simp
def decFrom (s : ByteArray) (high : Bool) : Nat → Nat → List UInt8 → List UInt8 × Int × Int
  | 0, _, acc => (acc, 0, 0)
  | f + 1, pos, acc => if pos < s.size then
      (if (wideAt s pos high).2 = 0 then ([], 3, (pos : Int))
       else if charB (wideAt s pos high).1 = false then ([], 4, (pos : Int))
       else decFrom s high f (pos + (wideAt s pos high).2) (acc ++ runeB (wideAt s pos high).1))
    else (acc, 0, 0)
theorem decFrom_step (s : ByteArray) (high : Bool) (f pos : Nat) (acc : List UInt8) (hp : pos < s.size) (hb : s.size < pos + f) : ∃ g, f = g + 1 ∧ decFrom s high f pos acc =
    (if (wideAt s pos high).2 = 0 then ([], 3, (pos : Int))
       else if charB (wideAt s pos high).1 = false then ([], 4, (pos : Int))
       else decFrom s high g (pos + (wideAt s pos high).2) (acc ++ runeB (wideAt s pos high).1)) := by
  cases f with
  | zero => omega
  | succ g => exact ⟨g, rfl, by rw [decFrom, if_pos hp]⟩
theorem decFrom_end (s : ByteArray) (high : Bool) (f pos : Nat) (acc : List UInt8) (hp : ¬ pos < s.size) : decFrom s high f pos acc = (acc, 0, 0) := by
  cases f with
  | zero => rfl
  | succ g => rw [decFrom, if_neg hp]
def decW (s : ByteArray) (high : Bool) : List UInt8 × Int × Int := decFrom s high (s.size + 1) 2 []
def decV (x : List UInt8 × Int × Int) : Value := .tuple #[.string ⟨x.1.toArray⟩, .int .i64 x.2.1, .int .i64 x.2.2]
theorem ret_dec {x : List UInt8 × Int × Int} {t : List UInt8} {a b : Int} (h : x = (t, a, b)) : Ending.returned (.tuple #[.string ⟨t.toArray⟩, .int .i64 a, .int .i64 b]) = .returned (decV x) := by rw [h]; rfl
theorem wideAt_le (s : ByteArray) (pos : Nat) (high : Bool) : (wideAt s pos high).1 ≤ 20000000 ∧ ((wideAt s pos high).2 = 0 ∨ (2 ≤ (wideAt s pos high).2 ∧ pos + (wideAt s pos high).2 ≤ s.size)) := by
  have h1 := unitN_lt s pos high
  have h2 := unitN_lt s (pos + 2) high
  unfold wideAt
  split
  · simp
  · split
    · simp only; omega
    · split
      · simp
      · split
        · simp
        · simp only; omega
set_option maxHeartbeats 1000000 in
theorem decodeWide_any (s : ByteArray) (high : Bool) (w : World) (hs : s.size ≤ 1048580) :
    Calls Tryz.prog 40 #[.string s, highV high] w fun e w' => e = .returned (decV (decW s high)) ∧ Below w.heap.size w w' := by
  obtain ⟨hv, hhv⟩ : ∃ v, highV high = v := ⟨_, rfl⟩
  rw [hhv]
  have HV := hide hhv
  clear hhv
  go_enter Tryz.func40, Tryz.ntmps40
  go_wp2_with fail
  go_loopw [7, 8] (fun v i wr => ∃ (pos f : Nat) (l : List UInt8), i = .int .i64 pos ∧ wr.ownsRow w.heap.size 5 1 v l.length (byteCells l) ∧ Below w.heap.size w wr ∧ decW s high = decFrom s high f pos l ∧ s.size < pos + f ∧ l.length ≤ 4 * pos) (fun _ i _ => s.size + 2 - (intOf i).toNat)
  case atStart => exact ⟨2, s.size + 1, [], rfl, World.ownsRow_nil _ _ _ _, Below.refl _ _, rfl, by omega, by simp⟩
  case round =>
    obtain ⟨pos, f, l, rfl, hown, hbr, he, hfu, hll⟩ := hrel
    by_cases hp : pos < s.size
    · obtain ⟨hr1, hr2⟩ := wideAt_le s pos high
      obtain ⟨g, rfl, hg⟩ := decFrom_step s high f pos l hp hfu
      have HF := hide (he.trans hg)
      clear he hg
      have hsz1 : (s.extract pos s.size).size ≤ 9223372036854775807 := by rw [ByteArray.size_extract]; omega
      have hfw := fun w => firstWide_any (s.extract pos s.size) high w hsz1
      rw [wideAt_tail s pos high (by omega), unhide HV] at hfw
      have HFW := hide hfw
      clear hfw
      go_wp2_with fail
      refine (unhide HFW _).mono ?_
      rintro e w1 ⟨rfl, hb1⟩
      have hown1 := owns_below hown hb1
      have hbb := Below.then hbr hb1
      have hsz := hbb.size
      have hge := owns_ge hown1
      have HG := hide hge
      clear hown hge
      generalize hd : wideAt s pos high = d at *
      clear hd HFW
      by_cases hz : d.2 = 0
      · have hz' : ((d.2 : Int) == 0) = true := by simp; omega
        go_wp2
        go_ret3
        exact ⟨ret_dec (by rw [unhide HF, if_pos hz]), hbb⟩
      · have hz' : ((d.2 : Int) == 0) = false := by simp; omega
        have hd2 : 2 ≤ d.2 ∧ pos + d.2 ≤ s.size := by omega
        cases hc : charB (d.1 : Nat)
        · have HC := hide hc
          clear hc
          go_wp2_with (go_at_call 63; refine (isChar_any _ _).mono ?_; rintro e w' ⟨rfl, rfl⟩; rw [unhide HC])
          go_ret3
          exact ⟨ret_dec (by rw [unhide HF, if_neg hz, if_pos (unhide HC)]), hbb⟩
        · have HC := hide hc
          clear hc
          go_wp2_with fail
          refine (isChar_any _ _).mono ?_
          rintro e w2 ⟨rfl, rfl⟩
          rw [unhide HC]
          go_wp2_with fail
          refine (Tryz.utf8_AppendRune_plain w.heap.size _ l.length (byteCells l) (d.1 : Nat) (by omega) (by omega) _ hown1 (by omega) hsz).mono ?_
          rintro e w3 ⟨v3, rfl, hown3, o3, hgrow3⟩
          have hown4 : w3.ownsRow w.heap.size 5 1 v3 (l ++ runeB d.1).length (byteCells (l ++ runeB d.1)) := by
            rw [runeCells_eq] at hown3
            rw [byteCells_append, List.length_append, show (runeB d.1).length = (byteCells (runeB d.1)).length by simp [byteCells]]
            exact hown3
          have hb3 := Below.grown (hbb.alloc hsz o3) hgrow3 (by simp; omega) (unhide HG)
          have hrb := runeB_len d.1
          clear hown3
          go_wp2
          refine ⟨⟨pos + d.2, g, l ++ runeB d.1, by go_num, hown4, hb3, ?_, by omega, ?_⟩, by simp [intOf]; omega⟩
          · rw [unhide HF, if_neg hz, if_neg (by rw [unhide HC]; decide)]
          · rw [List.length_append]; omega
    · have HF := hide (he.trans (decFrom_end s high f pos l hp))
      have hcv := conv_owned hown
      clear he hown
      go_wp2
      go_ret3
      exact ⟨ret_dec (unhide HF), hbr⟩
/-- .. with the line ends made one. -/
def decEnd (x : List UInt8 × Int × Int) : Value :=
  if x.2.1 = 0 then .tuple #[.string ⟨(endsL x.1).toArray⟩, .int .i64 0, .int .i64 0] else .tuple #[.string ⟨#[]⟩, .int .i64 x.2.1, .int .i64 x.2.2]
/-- What Decode tells of bytes, whatever they are. -/
def decodeAll (s : ByteArray) : Value :=
  if 32768 < s.size then .tuple #[.string ⟨#[]⟩, .int .i64 6, .int .i64 0]
  else if Lib.hasPrefix s.data.toList [254, 255] then decEnd (decW s false)
  else if Lib.hasPrefix s.data.toList [255, 254] then decEnd (decW s true)
  else decodedV (narrowL s.data.toList) s.size
set_option maxHeartbeats 1000000 in
theorem decodeAny_wide (s : ByteArray) (high : Bool) (w : World) (hs : s.size ≤ 1048580) (h : Lib.hasPrefix s.data.toList (if high then [255, 254] else [254, 255]) = true) :
    Calls Tryz.prog 19 #[.string s] w fun e w' => e = .returned (decV (decW s high)) ∧ Below w.heap.size w w' := by
  cases high
  · have H := hide h
    clear h
    have hd := fun w => decodeWide_any s false w hs
    have HD := hide hd
    clear hd
    go_enter Tryz.func19, Tryz.ntmps19
    go_wp2_with fail
    refine (Tryz.strings_HasPrefix s ⟨#[254, 255]⟩ _).mono ?_
    rintro e w' ⟨rfl, rfl⟩
    rw [show Lib.hasPrefix s.data.toList (#[254, 255] : Array UInt8).toList = true from unhide H]
    go_wp2_with fail
    refine (unhide HD _).mono ?_
    rintro e w1 ⟨rfl, hb⟩
    unfold decV
    go_wp2
    go_ret3
    exact ⟨rfl, hb⟩
  · have H := hide h
    have h0 : Lib.hasPrefix s.data.toList [254, 255] = false := by
      cases hc : Lib.hasPrefix s.data.toList [254, 255]
      · rfl
      · simp only [if_true] at h
        unfold Lib.hasPrefix at h hc
        cases hl : s.data.toList with
        | nil => rw [hl] at h; simp at h
        | cons a t =>
          rw [hl] at h hc
          simp [List.isPrefixOf] at h hc
          have e := h.1
          rw [← hc.1] at e
          exact absurd e (by decide)
    have H0 := hide h0
    clear h h0
    have hd := fun w => decodeWide_any s true w hs
    have HD := hide hd
    clear hd
    go_enter Tryz.func19, Tryz.ntmps19
    go_wp2_with fail
    refine (Tryz.strings_HasPrefix s ⟨#[254, 255]⟩ _).mono ?_
    rintro e w' ⟨rfl, rfl⟩
    rw [show Lib.hasPrefix s.data.toList (#[254, 255] : Array UInt8).toList = false from unhide H0]
    go_wp2_with fail
    refine (Tryz.strings_HasPrefix s ⟨#[255, 254]⟩ _).mono ?_
    rintro e w' ⟨rfl, rfl⟩
    rw [show Lib.hasPrefix s.data.toList (#[255, 254] : Array UInt8).toList = true from unhide H]
    go_wp2_with fail
    refine (unhide HD _).mono ?_
    rintro e w1 ⟨rfl, hb⟩
    unfold decV
    go_wp2
    go_ret3
    exact ⟨rfl, hb⟩
end Go.Proofs.YtfgifocgkiploaaGreatDoor
