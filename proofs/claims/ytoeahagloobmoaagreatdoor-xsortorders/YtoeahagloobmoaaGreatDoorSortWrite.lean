/- What the formats' functions write: xsort.writer's three own ones. -/
import Derived.Test.YtoeahagloobmoaaGreatDoorSortWr
namespace Go.Proofs.YtoeahagloobmoaaGreatDoor
open Go.RowKit
theorem ascii_at (l : List UInt8) (h : ∀ b ∈ l, b.toNat < 128) : ∀ (j : Nat) (b : UInt8), (⟨l.toArray⟩ : ByteArray).data.toList[j]? = some b → b.toNat < 128 := by
  intro j b hb
  exact h b (List.mem_of_getElem? hb)
theorem upper_any (l : List UInt8) (w : World) (hl : l.length ≤ 1048576) (h : ∀ b ∈ l, b.toNat < 128) :
    Calls Tryz.prog 23 #[.string ⟨l.toArray⟩] w fun e w' => e = .returned (.string ⟨(Lib.toUpperA l).toArray⟩) ∧ Below w.heap.size w w' :=
  Tryz.strings_ToUpper_ascii ⟨l.toArray⟩ w (by rw [mk_size]; omega) (ascii_at l h)
theorem lower_any (l : List UInt8) (w : World) (hl : l.length ≤ 1048576) (h : ∀ b ∈ l, b.toNat < 128) :
    Calls Tryz.prog 25 #[.string ⟨l.toArray⟩] w fun e w' => e = .returned (.string ⟨(Lib.toLowerA l).toArray⟩) ∧ Below w.heap.size w w' :=
  Tryz.strings_ToLower_ascii ⟨l.toArray⟩ w (by rw [mk_size]; omega) (ascii_at l h)
set_option maxRecDepth 100000 in
set_option maxHeartbeats 1000000 in
theorem write1_any (n : Nat) (w : World) (hn : n < 9223372036854775808) :
    Calls Tryz.prog 22 #[.int .i64 (n : Int)] w fun e w' => e = .returned (.string ⟨(wrF .A n).toArray⟩) ∧ Below w.heap.size w w' := by
  have HL := hide (fun w => letters_any n w hn)
  have HU := hide (fun w => upper_any (letP n) w (by have := letP_14 n hn; omega) (fun b hb => by have := letP_mem n b hb; omega))
  rw [show wrF .A n = Lib.toUpperA (letP n) from rfl]
  generalize (⟨(letP n).toArray⟩ : ByteArray) = L at *
  generalize (⟨(Lib.toUpperA (letP n)).toArray⟩ : ByteArray) = T at *
  go_enter Tryz.func22, Tryz.ntmps22
  go_wp2_with fail
  refine (unhide HL _).mono ?_
  rintro e w1 ⟨rfl, hb1⟩
  go_wp2_with fail
  refine (unhide HU _).mono ?_
  rintro e w2 ⟨rfl, hb2⟩
  go_wp2
  go_ret
  exact ⟨rfl, Below.then hb1 hb2⟩
theorem wrI_len (n : Nat) (hn : n < 9223372036854775808) : (wrF .I n).length ≤ 19 := by
  rw [wrF_I]
  split
  · have := dec_20 n hn
    rw [mk_size] at this
    exact this
  · have := romP_len n (by omega)
    omega
set_option maxRecDepth 100000 in
set_option maxHeartbeats 1000000 in
theorem write2_any (n : Nat) (w : World) (h1 : 1 ≤ n) (hn : n < 9223372036854775808) (hE : SEnv w) :
    Calls Tryz.prog 24 #[.int .i64 (n : Int)] w fun e w' => e = .returned (.string ⟨(wrF .i n).toArray⟩) ∧ Below w.heap.size w w' := by
  have HL := hide (romanOrDigits_any n w h1 hn hE)
  have HU := hide (fun w => lower_any (wrF .I n) w (by have := wrI_len n hn; omega) (wr_ascii .I n))
  rw [show wrF .i n = Lib.toLowerA (wrF .I n) from rfl]
  clear hE
  generalize (⟨(wrF .I n).toArray⟩ : ByteArray) = L at *
  generalize (⟨(Lib.toLowerA (wrF .I n)).toArray⟩ : ByteArray) = T at *
  go_enter Tryz.func24, Tryz.ntmps24
  go_wp2_with fail
  refine (unhide HL).mono ?_
  rintro e w1 ⟨rfl, hb1⟩
  go_wp2_with fail
  refine (unhide HU _).mono ?_
  rintro e w2 ⟨rfl, hb2⟩
  go_wp2
  go_ret
  exact ⟨rfl, Below.then hb1 hb2⟩
set_option maxRecDepth 100000 in
set_option maxHeartbeats 1000000 in
theorem write3_any (n p : Nat) (s : ByteArray) (w : World) (hn : n < 9223372036854775808) (hs : s.size ≤ 1048576) (hE : SEnv w) (hc : w.cell? ⟨p, 0, none⟩ = some (.string s)) :
    Calls Tryz.prog 28 #[.int .i64 (n : Int), .pointer (some ⟨p, 0, none⟩)] w fun e w' => e = .returned (.string ⟨(wrF (.d s.size) n).toArray⟩) ∧ Below w.heap.size w w' := by
  have HL := hide (digits_any n s.size w hn hs hE)
  clear hE
  generalize (⟨(wrF (.d s.size) n).toArray⟩ : ByteArray) = T at *
  go_enter Tryz.func28, Tryz.ntmps28
  go_wp2_with fail
  refine (unhide HL).mono ?_
  rintro e w1 ⟨rfl, hb1⟩
  go_wp2
  go_ret
  exact ⟨rfl, hb1⟩
end Go.Proofs.YtoeahagloobmoaaGreatDoor
