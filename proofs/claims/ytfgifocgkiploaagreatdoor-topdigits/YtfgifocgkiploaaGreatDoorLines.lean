/- Line ends, and the decoding of UTF-8: xchar's endLines and decodeAny. -/
import Derived.Test.YtfgifocgkiploaaGreatDoorFault
namespace Go.Proofs.YtfgifocgkiploaaGreatDoor
open Go.RowKit
/-- What the package variables of the library hold: MaxLen an int, utf8's tables as their text lays them. -/
structure Env (w : World) : Prop where
  len : ∃ m, w.cell? ⟨5, 0, none⟩ = some (.int .i64 m)
  tabs : Lib.Utf8Tabs 0 1 w
theorem Env.below {w w' : World} (h : Env w) (hb : Below w.heap.size w w') : Env w' := by
  obtain ⟨m, hm⟩ := h.len
  exact ⟨⟨m, by rw [hb.cell (block_lt_of_cell hm)]; exact hm⟩, Utf8Tabs_below h.tabs hb⟩
theorem Below.then {a b c : World} (h : Below a.heap.size a b) (k : Below b.heap.size b c) : Below a.heap.size a c := h.trans (k.mono h.size)
theorem replaceK_le (old new : List UInt8) (hn : new.length ≤ old.length) : ∀ (k : Nat) (s : List UInt8), (Lib.replaceK old new k s).length ≤ s.length
  | 0, s => Nat.le_refl _
  | k + 1, s => by
    unfold Lib.replaceK
    by_cases h : (Lib.index s old == -1) = true
    · rw [if_pos h]; exact Nat.le_refl _
    · rw [if_neg h]
      have h1 := Lib.index_ge s old
      have h2 : Lib.index s old ≠ -1 := by simpa using h
      have h3 := Lib.index_room s old (by omega)
      have ih := replaceK_le old new hn k (s.drop ((Lib.index s old).toNat + old.length))
      rw [List.length_drop] at ih
      simp only [List.length_append, List.length_take]
      omega
theorem replaceAll_le (s old new : List UInt8) (hn : new.length ≤ old.length) : (Lib.replaceAll s old new).length ≤ s.length := by
  unfold Lib.replaceAll Lib.replace
  by_cases h : (old == new) = true
  · rw [if_pos h]; exact Nat.le_refl _
  · rw [if_neg h]; exact replaceK_le old new hn _ _
def endsL (l : List UInt8) : List UInt8 := Lib.replaceAll (Lib.replaceAll l [13, 10] [10]) [13] [10]
theorem endsL_le (l : List UInt8) : (endsL l).length ≤ l.length :=
  Nat.le_trans (replaceAll_le _ _ _ (by decide)) (replaceAll_le _ _ _ (by decide))
theorem size_mk (l : List UInt8) : (⟨l.toArray⟩ : ByteArray).size = l.length := rfl
set_option maxHeartbeats 1000000 in
theorem endLines_any (s : ByteArray) (w : World) (hE : Env w) (hs : s.size ≤ 1000000000) :
    Calls Tryz.prog 20 #[.string s] w fun e w' => e = .returned (.string ⟨(endsL s.data.toList).toArray⟩) ∧ Below w.heap.size w w' := by
  obtain ⟨m, hm⟩ := hE.len
  have HE := hide hE
  have HM := hide hm
  clear hE hm
  go_enter Tryz.func20, Tryz.ntmps20
  go_wp2_with fail
  refine (Tryz.strings_ReplaceAll s ⟨#[13, 10]⟩ ⟨#[10]⟩ m _ (by omega) (unhide HM) (by decide) ?_).mono ?_
  · have := Lib.countB_le ⟨#[13, 10]⟩ (by decide) _ s (Nat.le_refl _)
    have e : (⟨#[10]⟩ : ByteArray).size = 1 := rfl
    rw [e]; omega
  rintro e w' ⟨rfl, hb⟩
  obtain ⟨m', hm'⟩ := ((unhide HE).below hb).len
  have HM' := hide hm'
  clear hm'
  go_wp2_with fail
  have hl : (Lib.replaceAll s.data.toList [13, 10] [10]).length ≤ s.size := replaceAll_le s.data.toList _ _ (by decide)
  refine (Tryz.strings_ReplaceAll ⟨(Lib.replaceAll s.data.toList [13, 10] [10]).toArray⟩ ⟨#[13]⟩ ⟨#[10]⟩ m' _ (by rw [size_mk]; omega) (unhide HM') (by decide) ?_).mono ?_
  · have := Lib.countB_le ⟨#[13]⟩ (by decide) _ ⟨(Lib.replaceAll s.data.toList [13, 10] [10]).toArray⟩ (Nat.le_refl _)
    have e : (⟨#[10]⟩ : ByteArray).size = 1 := rfl
    rw [e]; rw [size_mk] at *; omega
  rintro e w'' ⟨rfl, hb'⟩
  go_wp2
  go_ret
  exact ⟨rfl, Below.then hb hb'⟩
/-- A text of no wide mark: its bytes behind the narrow mark; the place of a fault counts the mark. -/
def narrowL (l : List UInt8) : List UInt8 := Lib.trimPrefix l [239, 187, 191]
theorem narrowL_le (l : List UInt8) : (narrowL l).length ≤ l.length := by
  unfold narrowL Lib.trimPrefix
  split
  · rw [List.length_drop]; omega
  · exact Nat.le_refl _
theorem fault_bounds (s : ByteArray) : ∀ f pos, 0 ≤ (faultFrom s f pos).2 ∧ (faultFrom s f pos).2 ≤ s.size
  | 0, pos => by simp [faultFrom]
  | f + 1, pos => by
    unfold faultFrom
    by_cases hp : pos < s.size
    · rw [if_pos hp]
      split
      · simp; omega
      · split
        · exact fault_bounds s f _
        · simp; omega
    · rw [if_neg hp]; simp
set_option maxHeartbeats 1000000 in
theorem decodeAny_narrow (s : ByteArray) (w : World) (hs : s.size ≤ 1000000000)
    (h1 : Lib.hasPrefix s.data.toList [254, 255] = false) (h2 : Lib.hasPrefix s.data.toList [255, 254] = false) :
    Calls Tryz.prog 19 #[.string s] w fun e w' => e = .returned (.tuple #[.string ⟨(narrowL s.data.toList).toArray⟩, .int .i64 (fault ⟨(narrowL s.data.toList).toArray⟩).1,
      .int .i64 ((fault ⟨(narrowL s.data.toList).toArray⟩).2 + s.size - (narrowL s.data.toList).length)]) ∧ Below w.heap.size w w' := by
  have H1 := hide h1
  have H2 := hide h2
  clear h1 h2
  have hl := narrowL_le s.data.toList
  have hl' : s.data.toList.length = s.size := rfl
  go_enter Tryz.func19, Tryz.ntmps19
  go_wp2_with fail
  refine (Tryz.strings_HasPrefix s ⟨#[254, 255]⟩ _).mono ?_
  rintro e w' ⟨rfl, rfl⟩
  rw [show Lib.hasPrefix s.data.toList (#[254, 255] : Array UInt8).toList = false from unhide H1]
  go_wp2_with fail
  refine (Tryz.strings_HasPrefix s ⟨#[255, 254]⟩ _).mono ?_
  rintro e w' ⟨rfl, rfl⟩
  rw [show Lib.hasPrefix s.data.toList (#[255, 254] : Array UInt8).toList = false from unhide H2]
  go_wp2_with fail
  refine (Tryz.strings_TrimPrefix s ⟨#[239, 187, 191]⟩ _).mono ?_
  rintro e w' ⟨rfl, rfl⟩
  rw [show Lib.trimPrefix s.data.toList (#[239, 187, 191] : Array UInt8).toList = narrowL s.data.toList from rfl]
  go_wp2_with fail
  refine (firstFault_any ⟨(narrowL s.data.toList).toArray⟩ _).mono ?_
  rintro e w' ⟨rfl, hb⟩
  have hf := fault_bounds ⟨(narrowL s.data.toList).toArray⟩ ((⟨(narrowL s.data.toList).toArray⟩ : ByteArray).size + 1) 0
  rw [size_mk] at hf
  change 0 ≤ (fault ⟨(narrowL s.data.toList).toArray⟩).2 ∧ (fault ⟨(narrowL s.data.toList).toArray⟩).2 ≤ ((narrowL s.data.toList).length : Int) at hf
  generalize h0 : narrowL s.data.toList = l at *
  have H0 := hide h0
  clear h0
  obtain ⟨hf1, hf2⟩ := hf
  go_wp2
  go_ret3
  rw [unhide H0]
  exact ⟨rfl, hb⟩
/-- What Decode tells of UTF-8 behind its mark, of n bytes with it. -/
def decodedV (l : List UInt8) (n : Nat) : Value :=
  if (fault ⟨l.toArray⟩).1 = 0 then .tuple #[.string ⟨(endsL l).toArray⟩, .int .i64 0, .int .i64 0]
  else .tuple #[.string ⟨#[]⟩, .int .i64 (fault ⟨l.toArray⟩).1, .int .i64 ((fault ⟨l.toArray⟩).2 + n - l.length)]
set_option maxRecDepth 100000 in
set_option maxHeartbeats 1000000 in
theorem decode_narrow (a : Option Addr) (len cap : Nat) (s : ByteArray) (w : World) (hE : Env w) (hlen : len = s.size) (hs : s.size ≤ 32768)
    (hconv : (convert 28 9 (.slice a len cap)).run Tryz.prog w = .ok (.string s) w)
    (h1 : Lib.hasPrefix s.data.toList [254, 255] = false) (h2 : Lib.hasPrefix s.data.toList [255, 254] = false) :
    Calls Tryz.prog 8 #[.slice a len cap] w fun e w' => e = .returned (decodedV (narrowL s.data.toList) s.size) ∧ Below w.heap.size w w' := by
  subst hlen
  have HE := hide hE
  clear hE
  have hl := narrowL_le s.data.toList
  have hl' : s.data.toList.length = s.size := rfl
  have hd := decodeAny_narrow s w (by omega) h1 h2
  have HD := hide hd
  clear hd h1 h2
  go_enter Tryz.func8, Tryz.ntmps8
  go_wp2_with fail
  refine (unhide HD).mono ?_
  rintro e w' ⟨rfl, hb⟩
  generalize h0 : narrowL s.data.toList = l at *
  generalize hF : fault ⟨l.toArray⟩ = F at *
  have H0 := hide h0
  have HF := hide hF
  clear h0 hF HD
  obtain ⟨f1, f2⟩ := F
  by_cases hz : f1 = 0
  · subst hz
    go_wp2_with fail
    refine (endLines_any ⟨l.toArray⟩ _ ((unhide HE).below hb) (by rw [size_mk]; omega)).mono ?_
    rintro e w'' ⟨rfl, hb'⟩
    go_wp2
    go_ret3
    refine ⟨?_, Below.then hb hb'⟩
    rw [unhide H0]
    unfold decodedV
    rw [unhide HF, if_pos rfl]
    rfl
  · have hz' : (f1 != 0) = true := by simpa using hz
    go_wp2
    go_ret3
    refine ⟨?_, hb⟩
    rw [unhide H0]
    unfold decodedV
    rw [unhide HF, if_neg hz]
    rfl
end Go.Proofs.YtfgifocgkiploaaGreatDoor
