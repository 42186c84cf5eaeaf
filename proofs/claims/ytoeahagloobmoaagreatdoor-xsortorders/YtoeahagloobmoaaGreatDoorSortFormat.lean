/- Numbers in a format: xsort.Format. -/
import Derived.Test.YtoeahagloobmoaaGreatDoorSortWrite
namespace Go.Proofs.YtoeahagloobmoaaGreatDoor
open Go.RowKit
set_option maxRecDepth 100000 in
set_option maxHeartbeats 1000000 in
theorem format_a (n : Nat) (w : World) (h1 : 1 ≤ n) (hn : n < 9223372036854775808) (hE : SEnv w) :
    Calls Tryz.prog 10 #[.int .i64 (n : Int), .string ⟨#[97]⟩] w fun e w' => e = .returned (.tuple #[.string ⟨(wrF .a n).toArray⟩, .int .i64 0]) ∧ Below w.heap.size w w' := by
  have h1' : ¬ (n : Int) < 1 := by omega
  have HE := hide hE
  have HW := hide (fun w => writer_a w)
  have HL := hide (show ∀ w, Calls Tryz.prog 21 #[.int .i64 (n : Int)] w fun e w' => e = .returned (.string ⟨(wrF .a n).toArray⟩) ∧ Below w.heap.size w w' from fun w => letters_any n w hn)
  clear hE h1 hn
  generalize (⟨(wrF .a n).toArray⟩ : ByteArray) = T at *
  go_enter Tryz.func10, Tryz.ntmps10
  go_wp2_with fail
  refine (unhide HW _).mono ?_
  rintro e w1 ⟨rfl, hb1⟩
  go_wp2_with fail
  refine (unhide HL _).mono ?_
  rintro e w2 ⟨rfl, hb2⟩
  go_wp2
  go_ret2
  exact ⟨rfl, Below.then hb1 hb2⟩
set_option maxRecDepth 100000 in
set_option maxHeartbeats 1000000 in
theorem format_A (n : Nat) (w : World) (h1 : 1 ≤ n) (hn : n < 9223372036854775808) (hE : SEnv w) :
    Calls Tryz.prog 10 #[.int .i64 (n : Int), .string ⟨#[65]⟩] w fun e w' => e = .returned (.tuple #[.string ⟨(wrF .A n).toArray⟩, .int .i64 0]) ∧ Below w.heap.size w w' := by
  have h1' : ¬ (n : Int) < 1 := by omega
  have HE := hide hE
  have HW := hide (fun w => writer_A w)
  have HL := hide (fun w => write1_any n w hn)
  clear hE h1 hn
  generalize (⟨(wrF .A n).toArray⟩ : ByteArray) = T at *
  go_enter Tryz.func10, Tryz.ntmps10
  go_wp2_with fail
  refine (unhide HW _).mono ?_
  rintro e w1 ⟨rfl, hb1⟩
  go_wp2_with fail
  refine (unhide HL _).mono ?_
  rintro e w2 ⟨rfl, hb2⟩
  go_wp2
  go_ret2
  exact ⟨rfl, Below.then hb1 hb2⟩
set_option maxRecDepth 100000 in
set_option maxHeartbeats 1000000 in
theorem format_i (n : Nat) (w : World) (h1 : 1 ≤ n) (hn : n < 9223372036854775808) (hE : SEnv w) :
    Calls Tryz.prog 10 #[.int .i64 (n : Int), .string ⟨#[105]⟩] w fun e w' => e = .returned (.tuple #[.string ⟨(wrF .i n).toArray⟩, .int .i64 0]) ∧ Below w.heap.size w w' := by
  have h1' : ¬ (n : Int) < 1 := by omega
  have HE := hide hE
  have HW := hide (fun w => writer_i w)
  have HL := hide (fun w hE => write2_any n w h1 hn hE)
  clear hE h1 hn
  generalize (⟨(wrF .i n).toArray⟩ : ByteArray) = T at *
  go_enter Tryz.func10, Tryz.ntmps10
  go_wp2_with fail
  refine (unhide HW _).mono ?_
  rintro e w1 ⟨rfl, hb1⟩
  go_wp2_with fail
  refine (unhide HL _ ((unhide HE).below hb1)).mono ?_
  rintro e w2 ⟨rfl, hb2⟩
  go_wp2
  go_ret2
  exact ⟨rfl, Below.then hb1 hb2⟩
set_option maxRecDepth 100000 in
set_option maxHeartbeats 1000000 in
theorem format_I (n : Nat) (w : World) (h1 : 1 ≤ n) (hn : n < 9223372036854775808) (hE : SEnv w) :
    Calls Tryz.prog 10 #[.int .i64 (n : Int), .string ⟨#[73]⟩] w fun e w' => e = .returned (.tuple #[.string ⟨(wrF .I n).toArray⟩, .int .i64 0]) ∧ Below w.heap.size w w' := by
  have h1' : ¬ (n : Int) < 1 := by omega
  have HE := hide hE
  have HW := hide (fun w => writer_I w)
  have HL := hide (fun w hE => romanOrDigits_any n w h1 hn hE)
  clear hE h1 hn
  generalize (⟨(wrF .I n).toArray⟩ : ByteArray) = T at *
  go_enter Tryz.func10, Tryz.ntmps10
  go_wp2_with fail
  refine (unhide HW _).mono ?_
  rintro e w1 ⟨rfl, hb1⟩
  go_wp2_with fail
  refine (unhide HL _ ((unhide HE).below hb1)).mono ?_
  rintro e w2 ⟨rfl, hb2⟩
  go_wp2
  go_ret2
  exact ⟨rfl, Below.then hb1 hb2⟩
set_option maxRecDepth 100000 in
set_option maxHeartbeats 1000000 in
theorem format_d (s : ByteArray) (n : Nat) (w : World) (h1 : 1 ≤ n) (hn : n < 9223372036854775808) (hE : SEnv w) (hs : s.size ≤ 1048576) (h : s ≠ ⟨#[97]⟩ ∧ s ≠ ⟨#[65]⟩ ∧ s ≠ ⟨#[105]⟩ ∧ s ≠ ⟨#[73]⟩) (ht : Lib.trimLeftB s.data.toList 48 = [49]) :
    Calls Tryz.prog 10 #[.int .i64 (n : Int), .string s] w fun e w' => e = .returned (.tuple #[.string ⟨(wrF (.d s.size) n).toArray⟩, .int .i64 0]) ∧ Below w.heap.size w w' := by
  have h1' : ¬ (n : Int) < 1 := by omega
  have HE := hide hE
  have HW := hide (fun w => writer_d s w h ht)
  have HL := hide (fun p w hE hc => write3_any n p s w hn hs hE hc)
  clear hE h1 hn h ht
  generalize (⟨(wrF (.d s.size) n).toArray⟩ : ByteArray) = T at *
  go_enter Tryz.func10, Tryz.ntmps10
  go_wp2_with fail
  refine (unhide HW _).mono ?_
  rintro e w1 ⟨rfl, hb1, hc1⟩
  go_wp2_with fail
  refine (unhide HL _ _ ((unhide HE).below hb1) hc1).mono ?_
  rintro e w2 ⟨rfl, hb2⟩
  go_wp2
  go_ret2
  exact ⟨rfl, Below.then hb1 hb2⟩
/-- A number from 1 on, in a format. -/
theorem format_any (s : ByteArray) (f : Fm) (n : Nat) (w : World) (h1 : 1 ≤ n) (hn : n < 9223372036854775808) (hE : SEnv w) (hs : s.size ≤ 1048576) (hf : fmOf s.data.toList = some f) :
    Calls Tryz.prog 10 #[.int .i64 (n : Int), .string s] w fun e w' => e = .returned (.tuple #[.string ⟨(wrF f n).toArray⟩, .int .i64 0]) ∧ Below w.heap.size w w' := by
  rcases fm_cases s f hf with ⟨rfl, rfl⟩ | ⟨rfl, rfl⟩ | ⟨rfl, rfl⟩ | ⟨rfl, rfl⟩ | ⟨rfl, h, ht⟩
  · exact format_a n w h1 hn hE
  · exact format_A n w h1 hn hE
  · exact format_i n w h1 hn hE
  · exact format_I n w h1 hn hE
  · exact format_d s n w h1 hn hE hs h ht
/-- What is handed back by writer, whatever the format is. -/
theorem writer_some (s : ByteArray) (f : Fm) (w : World) (hf : fmOf s.data.toList = some f) :
    Calls Tryz.prog 15 #[.string s] w fun e w' => ∃ v, e = .returned (.tuple #[v, .bool true]) ∧ Below w.heap.size w w' := by
  rcases fm_cases s f hf with ⟨rfl, rfl⟩ | ⟨rfl, rfl⟩ | ⟨rfl, rfl⟩ | ⟨rfl, rfl⟩ | ⟨rfl, h, ht⟩
  · exact (writer_a w).mono fun e w' h => ⟨_, h.1, h.2⟩
  · exact (writer_A w).mono fun e w' h => ⟨_, h.1, h.2⟩
  · exact (writer_i w).mono fun e w' h => ⟨_, h.1, h.2⟩
  · exact (writer_I w).mono fun e w' h => ⟨_, h.1, h.2⟩
  · exact (writer_d s w h ht).mono fun e w' h => ⟨_, h.1, h.2.1⟩
set_option maxRecDepth 100000 in
set_option maxHeartbeats 1000000 in
theorem format_low (s : ByteArray) (f : Fm) (x : Int) (w : World) (hx : x < 1) (hf : fmOf s.data.toList = some f) :
    Calls Tryz.prog 10 #[.int .i64 x, .string s] w fun e w' => e = .returned (.tuple #[.string ⟨#[]⟩, .int .i64 2]) ∧ Below w.heap.size w w' := by
  have HW := hide (fun w => writer_some s f w hf)
  clear hf
  go_enter Tryz.func10, Tryz.ntmps10
  go_wp2_with fail
  refine (unhide HW _).mono ?_
  rintro e w1 ⟨v, rfl, hb1⟩
  go_wp2
  go_ret2
  exact ⟨rfl, hb1⟩
set_option maxRecDepth 100000 in
set_option maxHeartbeats 1000000 in
theorem format_none (s : ByteArray) (x : Int) (w : World) (hf : fmOf s.data.toList = none) :
    Calls Tryz.prog 10 #[.int .i64 x, .string s] w fun e w' => e = .returned (.tuple #[.string ⟨#[]⟩, .int .i64 18]) ∧ Below w.heap.size w w' := by
  have h := fm_none s hf
  have HW := hide (fun w => writer_none s w h.1 h.2)
  clear hf h
  go_enter Tryz.func10, Tryz.ntmps10
  go_wp2_with fail
  refine (unhide HW _).mono ?_
  rintro e w1 ⟨rfl, hb1⟩
  go_wp2
  go_ret2
  exact ⟨rfl, hb1⟩
end Go.Proofs.YtoeahagloobmoaaGreatDoor
