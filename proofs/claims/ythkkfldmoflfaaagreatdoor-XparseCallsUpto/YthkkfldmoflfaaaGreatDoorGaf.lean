/- Several texts, laid as one. -/
import Derived.Test.YthkkfldmoflfaaaGreatDoorGad
import Derived.Test.YthkkfldmoflfaaaGreatDoorShelf
import Derived.Lib.Replace
import Derived.Lib.IndexLaws
import Derived.Test.YthkkfldmoflfaaaGreatDoorGaa
import Derived.Lib.OthersKept
import Derived.Lib.ValidLaws
import Derived.ArgAppend
import Derived.Laws.ComplexArith
import Derived.Lib.SlBytesConst
/- The first error of what should be UTF-8 of characters that may be: xchar's firstFault. -/
namespace Go.Proofs.YthkkfldmoflfaaaGreatDoor
open Go.RowKit
theorem width_pos (s : ByteArray) (pos : Nat) (h : pos < s.size) : 1 ≤ (Utf8.decode s pos).2 := by
  by_cases ha : (s[pos]'h).toNat < 128
  · rw [decode_ascii s pos h ha]
    exact Nat.le_refl _
  · exact (decode_high s pos h (by omega)).2
/-- The bytes from a place on are those of the replacement character. -/
def markAt (s : ByteArray) (pos : Nat) : Bool := Lib.hasPrefix (s.data.toList.drop pos) [239, 191, 189]
/-- The first fault from a place on: its error's number and its place. -/
def faultFrom (s : ByteArray) : Nat → Nat → Int × Int
  | 0, _ => (0, 0)
  | f + 1, pos => if pos < s.size then
      (if ((Utf8.decode s pos).1 : Int) == 65533 && !markAt s pos then (3, (pos : Int))
       else if charB (Utf8.decode s pos).1 then faultFrom s f (pos + (Utf8.decode s pos).2) else (4, (pos : Int)))
    else (0, 0)
def fault (s : ByteArray) : Int × Int := faultFrom s (s.size + 1) 0
theorem faultFrom_step (s : ByteArray) (f pos : Nat) (hp : pos < s.size) (hb : s.size < pos + f) : ∃ g, f = g + 1 ∧ faultFrom s f pos =
    (if ((Utf8.decode s pos).1 : Int) == 65533 && !markAt s pos then (3, (pos : Int))
       else if charB (Utf8.decode s pos).1 then faultFrom s g (pos + (Utf8.decode s pos).2) else (4, (pos : Int))) := by
  cases f with
  | zero => omega
  | succ g => exact ⟨g, rfl, by rw [faultFrom, if_pos hp]⟩
theorem faultFrom_end (s : ByteArray) (f pos : Nat) (hp : ¬ pos < s.size) : faultFrom s f pos = (0, 0) := by
  cases f with
  | zero => rfl
  | succ g => rw [faultFrom, if_neg hp]
theorem hasMark_any (s : ByteArray) (pos : Nat) (w : World) :
    Calls Tryz.prog 37 #[.string (s.extract pos s.size), .string ⟨#[239, 191, 189]⟩] w fun e w' => e = .returned (.bool (markAt s pos)) ∧ w' = w := by
  refine (Tryz.strings_HasPrefix (s.extract pos s.size) ⟨#[239, 191, 189]⟩ w).mono ?_
  rintro e w' ⟨rfl, rfl⟩
  refine ⟨ret_bool ?_, rfl⟩
  unfold markAt
  congr 1
  rw [ByteArray.data_extract]
  simp [List.take_of_length_le]
theorem ret_fault {x : Int × Int} {a b : Int} (h : x = (a, b)) : Ending.returned (.tuple #[.int .i64 a, .int .i64 b]) = .returned (.tuple #[.int .i64 x.1, .int .i64 x.2]) := by rw [h]
set_option maxHeartbeats 1000000 in
theorem firstFault_any (s : ByteArray) (w : World) :
    Calls Tryz.prog 179 #[.string s] w fun e w' => e = .returned (.tuple #[.int .i64 (fault s).1, .int .i64 (fault s).2]) ∧ Below w.heap.size w w' := by
  go_enter Tryz.func179, Tryz.ntmps179
  go_wp2_with fail
  go_loopw [] (fun w' => ∃ (pos f : Nat), w' = w.iter s pos ∧ fault s = faultFrom s f pos ∧ s.size < pos + f) (fun w' => s.size - w'.iterPos w.heap.size)
  case atStart => exact ⟨0, s.size + 1, rfl, rfl, by omega⟩
  case round =>
    obtain ⟨pos, f, rfl, hf, hb⟩ := hrel
    by_cases hp : pos < s.size
    · have hnx : ∀ ty, (Instr.next (.pointer (some ⟨w.heap.size, 0, none⟩)) true ty).run Tryz.prog (w.iter s pos) = _ := fun ty => run_next_any w s pos ty hp
      have hwd := width_pos s pos hp
      obtain ⟨g, rfl, hg⟩ := faultFrom_step s f pos hp hb
      have HF := hide (hf.trans hg)
      clear hf hg
      go_wp2_with (first | (go_at_call 37; refine (hasMark_any s pos _).mono ?_; rintro e w' ⟨rfl, rfl⟩) | (go_at_call 38; refine (isChar_any _ _).mono ?_; rintro e w' ⟨rfl, rfl⟩))
      all_goals first
        | (go_ret2
           refine ⟨ret_fault ?_, (Below.refl _ _).alloc (Nat.le_refl _) _⟩
           rw [unhide HF]
           simp_all)
        | (refine ⟨⟨_, g, rfl, ?_, by omega⟩, by simp; omega⟩
           rw [unhide HF]
           simp_all)
    · have hnx : ∀ ty, (Instr.next (.pointer (some ⟨w.heap.size, 0, none⟩)) true ty).run Tryz.prog (w.iter s pos) = _ := fun ty => run_next_end w s pos ty hp
      have HF := hide (hf.trans (faultFrom_end s f pos hp))
      clear hf
      go_wp2
      go_ret2
      exact ⟨ret_fault (unhide HF), (Below.refl _ _).alloc (Nat.le_refl _) _⟩
end Go.Proofs.YthkkfldmoflfaaaGreatDoor
/- Line ends, and the decoding of UTF-8: xchar's endLines and decodeAny. -/
namespace Go.Proofs.YthkkfldmoflfaaaGreatDoor
open Go.RowKit
/-- What the package variables of the library hold: MaxLen an int, utf8's tables as their text lays them. -/
structure Env (w : World) : Prop where
  len : ∃ m, w.cell? ⟨8, 0, none⟩ = some (.int .i64 m)
  tabs : Lib.Utf8Tabs 1 2 w
theorem Env.below {w w' : World} (h : Env w) (hb : Below w.heap.size w w') : Env w' := by
  obtain ⟨m, hm⟩ := h.len
  exact ⟨⟨m, by rw [hb.cell (block_lt_of_cell hm)]; exact hm⟩, Utf8Tabs_below h.tabs hb⟩
theorem Below.then {a b c : World} (h : Below a.heap.size a b) (k : Below b.heap.size b c) : Below a.heap.size a c := h.trans (k.mono h.size)
theorem size_mk (l : List UInt8) : (⟨l.toArray⟩ : ByteArray).size = l.length := rfl
end Go.Proofs.YthkkfldmoflfaaaGreatDoor
/- Numbers' kinds and signs: xnum's small functions. -/
namespace Go.Proofs.YthkkfldmoflfaaaGreatDoor
open Go.RowKit
def belowB (k v : Int) : Bool := k == 3 || (k == 0 && decide (v < 0))
def infK (b : Bool) : Int := if b then 3 else 2
/-- A cell that lay there, and was not shut, behind a call. -/
theorem kept_cell {w w' : World} {p : Addr} {v : Value} (hb : Below w.heap.size w w') (h : w.cell? p = some v) : w'.cell? p = some v := by
  rw [hb.cell (block_lt_of_cell h)]; exact h
theorem kept_open {w w' : World} {p : Addr} {v : Value} (hb : Below w.heap.size w w') (hc : w.cell? p = some v) (h : w.frozen? p = false) : w'.frozen? p = false := by
  rw [hb.frozen (block_lt_of_cell hc)]; exact h
set_option maxHeartbeats 1000000 in
theorem isBelow_any (k v : Int) (w : World) :
    Calls Tryz.prog 91 #[.agg #[.int .i64 k, .int .i64 v]] w fun e w' => e = .returned (.bool (belowB k v)) ∧ w' = w.alloc (.cells #[.int .i64 k, .int .i64 v] 27) := by
  go_enter Tryz.func91, Tryz.ntmps91
  go_wp2
  all_goals
    go_ret
    exact ⟨ret_bool (by simp [belowB, *]), by simp [*]⟩
set_option maxHeartbeats 1000000 in
theorem notANumber_any (w : World) :
    Calls Tryz.prog 175 #[] w fun e w' => e = .returned (.agg #[.int .i64 1, .int .i64 0]) ∧ w' = w.alloc (.cells #[.int .i64 1, .int .i64 0] 27) := by
  go_enter Tryz.func175, Tryz.ntmps175
  go_wp2
  refine bodyPost_ret (v := .agg #[.int .i64 1, .int .i64 0]) (by simp [results, Tryz.results175, go_sem]) rfl ⟨rfl, rfl⟩
set_option maxHeartbeats 1000000 in
theorem infinite_any (b : Bool) (w : World) :
    Calls Tryz.prog 188 #[.bool b] w fun e w' => e = .returned (.agg #[.int .i64 (infK b), .int .i64 0]) ∧ w' = w.alloc (.cells #[.int .i64 (infK b), .int .i64 0] 27) := by
  cases b
  · go_enter Tryz.func188, Tryz.ntmps188
    go_wp2
    refine bodyPost_ret (v := .agg #[.int .i64 2, .int .i64 0]) (by simp [results, Tryz.results188, go_sem]) rfl ⟨rfl, rfl⟩
  · go_enter Tryz.func188, Tryz.ntmps188
    go_wp2
    refine bodyPost_ret (v := .agg #[.int .i64 3, .int .i64 0]) (by simp [results, Tryz.results188, go_sem]) rfl ⟨rfl, rfl⟩
theorem wrap_neg (v : Int) (h1 : -9223372036854775808 ≤ v) (h2 : v < 0) : IntKind.u64.wrap (-IntKind.u64.wrap v) = -v := by
  rw [IntKind.wrap_u64, IntKind.wrap_u64]; omega
set_option maxHeartbeats 1000000 in
theorem sizeOf_any (v : Int) (w : World) (h1 : -9223372036854775808 ≤ v) (h2 : v ≤ 9223372036854775807) :
    Calls Tryz.prog 88 #[.int .i64 v] w fun e w' => e = .returned (.int .u64 (v.natAbs : Int)) ∧ w' = w := by
  by_cases h : v < 0
  · have hw := wrap_neg v h1 h
    go_enter Tryz.func88, Tryz.ntmps88
    go_wp2
    go_ret
    exact ⟨ret_int (by omega), rfl⟩
  · go_enter Tryz.func88, Tryz.ntmps88
    go_wp2
    go_ret
    exact ⟨ret_int (by omega), rfl⟩
/-- The number of a sign and a size. -/
def signK (b : Bool) (n : Nat) : Int := if 1000000000000000000 < n then infK b else 0
def signN (b : Bool) (n : Nat) : Int := if 1000000000000000000 < n then 0 else if b then -(n : Int) else n
set_option maxHeartbeats 1000000 in
theorem signed_any (b : Bool) (n : Nat) (w : World) (hn : n < 18446744073709551616) :
    Calls Tryz.prog 176 #[.bool b, .int .u64 (n : Int)] w fun e w' => e = .returned (.agg #[.int .i64 (signK b n), .int .i64 (signN b n)]) ∧ Below w.heap.size w w' := by
  unfold signK signN
  by_cases h : 1000000000000000000 < n
  · have h' : (1000000000000000000 : Int) < (n : Int) := by omega
    simp only [if_pos h]
    go_enter Tryz.func176, Tryz.ntmps176
    go_wp2_with (go_at_call 188; refine (infinite_any b _).mono ?_; rintro e w' ⟨rfl, rfl⟩)
    refine bodyPost_ret (v := .agg #[.int .i64 (infK b), .int .i64 0]) (by simp [results, Tryz.results176, go_sem]) rfl ⟨rfl, ((Below.refl _ _).alloc (Nat.le_refl _) _).alloc (by simp) _⟩
  · have h' : (n : Int) ≤ 1000000000000000000 := by omega
    simp only [if_neg h]
    cases b
    · go_enter Tryz.func176, Tryz.ntmps176
      go_wp2
      refine bodyPost_ret (v := .agg #[.int .i64 0, .int .i64 (n : Int)]) (by simp [results, Tryz.results176, go_sem]) rfl ⟨rfl, (Below.refl _ _).alloc (Nat.le_refl _) _⟩
    · go_enter Tryz.func176, Tryz.ntmps176
      go_wp2
      refine bodyPost_ret (v := .agg #[.int .i64 0, .int .i64 (-(n : Int))]) (by simp [results, Tryz.results176, go_sem]) rfl ⟨rfl, (Below.refl _ _).alloc (Nat.le_refl _) _⟩
end Go.Proofs.YthkkfldmoflfaaaGreatDoor
/- Names and QNames: xchar's IsName and Split. -/
namespace Go.Proofs.YthkkfldmoflfaaaGreatDoor
open Go.RowKit
theorem iterPos_of {w : World} {k : Nat} {s : ByteArray} {p : Nat} (h : w.heap[k]? = some (.stringIter s p)) : w.iterPos k = p := by
  simp [World.iterPos, h]
theorem block_below {w w' : World} {k : Nat} {o : Obj} (h : w.heap[k]? = some o) (hb : Below w.heap.size w w') : w'.heap[k]? = some o := by
  rw [hb.block k (Array.getElem?_eq_some_iff.1 h).1]; exact h
theorem iter_on {w' wr W : World} {s : ByteArray} {p p' : Nat} (hk : wr.heap[w'.heap.size]? = some (.stringIter s p)) (hbr : Below w'.heap.size w' wr)
    (hB : Below (wr.iterAt w'.heap.size s p').heap.size (wr.iterAt w'.heap.size s p') W) : W.heap[w'.heap.size]? = some (.stringIter s p') ∧ Below w'.heap.size w' W := by
  refine ⟨block_below (Lib.iterAt_heap wr w'.heap.size s p p' hk) hB, ?_⟩
  exact (Lib.below_iterAt hbr (Nat.le_refl _) s p').trans (hB.mono (by rw [Lib.iterAt_size]; exact hbr.size))
theorem toList_data (s : ByteArray) : s.toList = s.data.toList := ByteArray.toList_eq s
/-- Do the characters from a place on go on in a name, the first one begin it? -/
def nameFrom (s : ByteArray) : Nat → Nat → Bool
  | 0, _ => true
  | f + 1, pos => if pos < s.size then
      (if (((pos : Int) == 0 && !beginB (Utf8.decode s pos).1) || !goesB (Utf8.decode s pos).1) then false else nameFrom s f (pos + (Utf8.decode s pos).2))
    else true
theorem nameFrom_step (s : ByteArray) (f pos : Nat) (hp : pos < s.size) (hb : s.size < pos + f) : ∃ g, f = g + 1 ∧ nameFrom s f pos =
    (if (((pos : Int) == 0 && !beginB (Utf8.decode s pos).1) || !goesB (Utf8.decode s pos).1) then false else nameFrom s g (pos + (Utf8.decode s pos).2)) := by
  cases f with
  | zero => omega
  | succ g => exact ⟨g, rfl, by rw [nameFrom, if_pos hp]⟩
theorem nameFrom_end (s : ByteArray) (f pos : Nat) (hp : ¬ pos < s.size) : nameFrom s f pos = true := by
  cases f with
  | zero => rfl
  | succ g => rw [nameFrom, if_neg hp]
def nameB (s : ByteArray) : Bool := !s.data.toList.isEmpty && Lib.validD s.data.toList && nameFrom s (s.size + 1) 0
theorem validString_any (s : ByteArray) (w : World) (hs : s.size ≤ 9223372036854775807) (hE : Env w) :
    Calls Tryz.prog 103 #[.string s] w fun e w' => e = .returned (.bool (Lib.validD s.data.toList)) ∧ Below w.heap.size w w' :=
  Any.utf8_ValidString Tryz.laysValid s w hs hE.tabs
set_option maxHeartbeats 1000000 in
theorem isName_any (s : ByteArray) (w : World) (hs : s.size ≤ maxLen) (hE : Env w) :
    Calls Tryz.prog 74 #[.string s] w fun e w' => e = .returned (.bool (nameB s)) ∧ Below w.heap.size w w' := by
  unfold maxLen at hs
  have HE := hide hE
  clear hE
  by_cases h0 : s.toList = []
  · go_enter Tryz.func74, Tryz.ntmps74
    go_wp2
    go_ret
    have e0 : s.data.toList.isEmpty = true := by rw [← toList_data, h0]; rfl
    exact ⟨ret_bool (by simp only [nameB, e0, Bool.not_true, Bool.false_and]), Below.refl _ _⟩
  · have h0' : s.toList.isEmpty = false := by cases h : s.toList with | nil => exact absurd h h0 | cons _ _ => rfl
    cases hv : Lib.validD s.data.toList
    · have HV := hide hv
      clear hv
      go_enter Tryz.func74, Tryz.ntmps74
      go_wp2_with fail
      refine (validString_any s _ (by omega) (unhide HE)).mono ?_
      rintro e w' ⟨rfl, hb⟩
      rw [unhide HV]
      go_wp2
      go_ret
      refine ⟨ret_bool ?_, hb⟩
      simp [nameB, unhide HV]
    · have HV := hide hv
      clear hv
      go_enter Tryz.func74, Tryz.ntmps74
      go_wp2_with fail
      refine (validString_any s _ (by omega) (unhide HE)).mono ?_
      rintro e w' ⟨rfl, hb⟩
      rw [unhide HV]
      go_wp2_with fail
      go_loopw [] (fun wr => ∃ (pos f : Nat), wr.heap[w'.heap.size]? = some (.stringIter s pos) ∧ Below w'.heap.size w' wr ∧ nameFrom s (s.size + 1) 0 = nameFrom s f pos ∧ s.size < pos + f) (fun wr => s.size - wr.iterPos w'.heap.size)
      case atStart => exact ⟨0, s.size + 1, World.iter_heap _ _ _, (Below.refl _ _).alloc (Nat.le_refl _) _, rfl, by omega⟩
      case round =>
        obtain ⟨pos, f, hk, hbr, hf, hfu⟩ := hrel
        by_cases hp : pos < s.size
        · have hnx := fun ty => Lib.run_next_any_at (P := Tryz.prog) wr w'.heap.size s pos ty hk hp
          have hwd := width_pos s pos hp
          obtain ⟨g, rfl, hg⟩ := nameFrom_step s f pos hp hfu
          have HF := hide (hf.trans hg)
          have HK := hide hk
          clear hf hg hk
          generalize hd : Utf8.decode s pos = d at *
          have HD := hide hd
          clear hd
          by_cases hz : pos = 0
          · subst hz
            go_wp2_with (first | (go_at_call 104; refine (begins_any _ _).mono ?_; rintro e w1 ⟨rfl, hb1⟩) | (go_at_call 105; refine (goesOn_any _ _).mono ?_; rintro e w2 ⟨rfl, hb2⟩))
            all_goals first
              | (go_ret
                 refine ⟨ret_bool ?_, Below.then hb (iter_on (unhide HK) hbr (by first | exact Below.then hb1 hb2 | exact hb1 | exact hb2)).2⟩
                 have key : nameFrom s (s.size + 1) 0 = false := by rw [unhide HF]; simp [*]
                 simp [nameB, key])
              | (obtain ⟨q1, q2⟩ := iter_on (unhide HK) hbr (by first | exact Below.then hb1 hb2 | exact hb1 | exact hb2)
                 exact ⟨⟨_, g, q1, q2, by rw [unhide HF]; simp_all, by omega⟩, by rw [iterPos_of q1, iterPos_of (unhide HK)]; omega⟩)
          · have hz' : ((pos : Int) == 0) = false := by simpa using hz
            go_wp2_with (first | (go_at_call 104; refine (begins_any _ _).mono ?_; rintro e w1 ⟨rfl, hb1⟩) | (go_at_call 105; refine (goesOn_any _ _).mono ?_; rintro e w2 ⟨rfl, hb2⟩))
            all_goals first
              | (go_ret
                 refine ⟨ret_bool ?_, Below.then hb (iter_on (unhide HK) hbr (by first | exact Below.then hb1 hb2 | exact hb1 | exact hb2)).2⟩
                 have key : nameFrom s (s.size + 1) 0 = false := by rw [unhide HF]; simp [*]
                 simp [nameB, key])
              | (obtain ⟨q1, q2⟩ := iter_on (unhide HK) hbr (by first | exact Below.then hb1 hb2 | exact hb1 | exact hb2)
                 exact ⟨⟨_, g, q1, q2, by rw [unhide HF]; simp_all, by omega⟩, by rw [iterPos_of q1, iterPos_of (unhide HK)]; omega⟩)
        · have hnx := fun ty => Lib.run_next_end_at (P := Tryz.prog) wr w'.heap.size s pos ty hk hp
          have HF := hide (hf.trans (nameFrom_end s f pos hp))
          clear hf
          go_wp2
          go_ret
          refine ⟨ret_bool ?_, Below.then hb hbr⟩
          have e0 : s.data.toList.isEmpty = false := by rw [← toList_data]; exact h0'
          simp only [nameB, e0, unhide HV, unhide HF, Bool.not_false, Bool.and_self]
theorem cut_le (s sep : List UInt8) : (Lib.cut s sep).1.length ≤ s.length ∧ (Lib.cut s sep).2.1.length ≤ s.length := by
  unfold Lib.cut
  split
  · simp only [List.length_take, List.length_drop]; omega
  · simp
theorem below_drewN (w : World) : ∀ n, Below w.heap.size w (w.drewN n)
  | 0 => Below.refl _ _
  | n + 1 => (below_drewN w n).drew
/-- A QName's prefix and local name. -/
def splitP (l : List UInt8) : List UInt8 := if (Lib.cut l [58]).2.2 then (Lib.cut l [58]).1 else []
def splitN (l : List UInt8) : List UInt8 := if (Lib.cut l [58]).2.2 then (Lib.cut l [58]).2.1 else l
def splitB (l : List UInt8) : Bool := (!(Lib.cut l [58]).2.2 || nameB ⟨(splitP l).toArray⟩) && nameB ⟨(splitN l).toArray⟩
def splitV (l : List UInt8) : Value :=
  if splitB l then .tuple #[.string ⟨(splitP l).toArray⟩, .string ⟨(splitN l).toArray⟩, .bool true] else .tuple #[.string ⟨#[]⟩, .string ⟨#[]⟩, .bool false]
theorem splitV_of {l p n : List UInt8} (hp : splitP l = p) (hn : splitN l = n) (hb : splitB l = true) : Ending.returned (.tuple #[.string ⟨p.toArray⟩, .string ⟨n.toArray⟩, .bool true]) = .returned (splitV l) := by
  unfold splitV; rw [if_pos hb, hp, hn]
theorem splitV_no {l : List UInt8} (hb : splitB l = false) : Ending.returned (.tuple #[.string ⟨#[]⟩, .string ⟨#[]⟩, .bool false]) = .returned (splitV l) := by
  unfold splitV; rw [if_neg (by rw [hb]; decide)]
set_option maxHeartbeats 1000000 in
theorem split_any (s : ByteArray) (w : World) (hs : s.size < 4294967281) (hE : Env w) :
    Calls Tryz.prog 106 #[.string s] w fun e w' => e = .returned (splitV s.data.toList) ∧ Below w.heap.size w w' := by
  obtain ⟨m, hm⟩ := hE.len
  have HE := hide hE
  have HM := hide hm
  clear hE hm
  have hcl := cut_le s.data.toList [58]
  have hl' : s.data.toList.length = s.size := rfl
  have h63 : (2 : Nat) ^ 63 - 1 = 9223372036854775807 := by decide
  go_enter Tryz.func106, Tryz.ntmps106
  go_wp2_with fail
  refine (Tryz.strings_Cut s ⟨#[58]⟩ m _ hs (unhide HM)).mono ?_
  rintro e w0 ⟨rfl, nd, hw0⟩
  have hb0 : Below w.heap.size w w0 := by rw [hw0]; exact below_drewN w nd
  clear hw0
  have HE0 := hide ((unhide HE).below hb0)
  have hsp : splitP s.data.toList = if (Lib.cut s.data.toList [58]).2.2 then (Lib.cut s.data.toList [58]).1 else [] := rfl
  have hsn : splitN s.data.toList = if (Lib.cut s.data.toList [58]).2.2 then (Lib.cut s.data.toList [58]).2.1 else s.data.toList := rfl
  have hsb : splitB s.data.toList = ((!(Lib.cut s.data.toList [58]).2.2 || nameB ⟨(splitP s.data.toList).toArray⟩) && nameB ⟨(splitN s.data.toList).toArray⟩) := rfl
  rw [show (ByteArray.mk #[58]).data.toList = [58] from rfl]
  generalize Lib.cut s.data.toList [58] = c at *
  obtain ⟨p, n, two⟩ := c
  obtain ⟨hcp, hcn⟩ := hcl
  simp only at hcp hcn
  cases two
  · simp only [Bool.not_false, Bool.true_or, Bool.true_and] at hsp hsn hsb
    rw [if_neg (by decide)] at hsp hsn
    rw [hsn] at hsb
    have HSP := hide hsp
    have HSN := hide hsn
    have HSB := hide hsb
    clear hsp hsn hsb
    go_wp2_with fail
    refine (isName_any s _ (by unfold maxLen; omega) (unhide HE0)).mono ?_
    rintro e w1 ⟨rfl, hb1⟩
    cases hn : nameB s
    · have HN := hide hn
      clear hn
      go_wp2
      go_ret3
      exact ⟨splitV_no (by rw [unhide HSB]; exact unhide HN), Below.then hb0 hb1⟩
    · have HN := hide hn
      clear hn
      go_wp2
      go_ret3
      exact ⟨splitV_of (unhide HSP) (unhide HSN) (by rw [unhide HSB]; exact unhide HN), Below.then hb0 hb1⟩
  · rw [if_pos rfl] at hsp hsn
    simp only [Bool.not_true, Bool.false_or] at hsb
    rw [hsp, hsn] at hsb
    have HSP := hide hsp
    have HSN := hide hsn
    have HSB := hide hsb
    clear hsp hsn hsb
    go_wp2_with fail
    refine (isName_any ⟨p.toArray⟩ _ (by unfold maxLen; rw [size_mk]; omega) (unhide HE0)).mono ?_
    rintro e w1 ⟨rfl, hb1⟩
    have HE1 := hide ((unhide HE0).below hb1)
    cases hn : nameB ⟨p.toArray⟩
    · have HN := hide hn
      clear hn
      go_wp2
      go_ret3
      exact ⟨splitV_no (by rw [unhide HSB, unhide HN]; rfl), Below.then hb0 hb1⟩
    · have HN := hide hn
      clear hn
      go_wp2_with fail
      refine (isName_any ⟨n.toArray⟩ _ (by unfold maxLen; rw [size_mk]; omega) (unhide HE1)).mono ?_
      rintro e w2 ⟨rfl, hb2⟩
      cases hn2 : nameB ⟨n.toArray⟩
      · have HN2 := hide hn2
        clear hn2
        go_wp2
        go_ret3
        exact ⟨splitV_no (by rw [unhide HSB, unhide HN, unhide HN2]; rfl), Below.then hb0 (Below.then hb1 hb2)⟩
      · have HN2 := hide hn2
        clear hn2
        go_wp2
        go_ret3
        exact ⟨splitV_of (unhide HSP) (unhide HSN) (by rw [unhide HSB, unhide HN, unhide HN2]; rfl), Below.then hb0 (Below.then hb1 hb2)⟩
end Go.Proofs.YthkkfldmoflfaaaGreatDoor
/- Rows of bytes that a call owns: what stays, what they are as a text. -/
namespace Go.Proofs.YthkkfldmoflfaaaGreatDoor
open Go.RowKit
theorem owns_below {w w' : World} {base : Nat} {e : TypeId} {size : Nat} {v : Value} {n : Nat} {xs : List Value} (h : w.ownsRow base e size v n xs) (hb : Below w.heap.size w w') : w'.ownsRow base e size v n xs := by
  refine ⟨h.1, ?_⟩
  rcases h.2 with h | ⟨g, cap, cur, h1, h2, h3, h4⟩
  · exact .inl h
  · exact .inr ⟨g, cap, cur, h1, h2, block_below h3 hb, h4⟩
theorem owns_ge {w : World} {base : Nat} {e : TypeId} {size : Nat} {v : Value} {n : Nat} {xs : List Value} (h : w.ownsRow base e size v n xs) : ∀ k, v.ownBlock = some k → base ≤ k := by
  intro k hk
  rcases h.2 with ⟨rfl, _⟩ | ⟨g, cap, cur, rfl, h2, _⟩
  · simp [Value.ownBlock] at hk
  · simp [Value.ownBlock] at hk; omega
theorem owns_slice {w : World} {base : Nat} {e : TypeId} {size : Nat} {v : Value} {n : Nat} {xs : List Value} (h : w.ownsRow base e size v n xs) : ∃ a c, v = .slice a n c := by
  rcases h.2 with ⟨rfl, h0⟩ | ⟨g, cap, cur, rfl, _⟩
  · exact ⟨none, 0, by rw [h0]⟩
  · exact ⟨_, _, rfl⟩
def byteCells (l : List UInt8) : List Value := l.map fun c => Value.int .u8 (c.toNat : Int)
end Go.Proofs.YthkkfldmoflfaaaGreatDoor
/- Rows of bytes that a call owns or has made of a constant: two bytes more. -/
namespace Go.Proofs.YthkkfldmoflfaaaGreatDoor
open Go.RowKit
end Go.Proofs.YthkkfldmoflfaaaGreatDoor
/- A text in UTF-16: xchar's splitPair and encodeWide. -/
namespace Go.Proofs.YthkkfldmoflfaaaGreatDoor
open Go.RowKit
theorem rune_le (s : ByteArray) (pos : Nat) : (Utf8.decode s pos).1 ≤ 1114111 := by
  have h := Lib.decodeL_rune (s.data.toList.drop pos)
  rw [Lib.decodeL_drop] at h
  exact h
end Go.Proofs.YthkkfldmoflfaaaGreatDoor
