/- stencilref07.Union. -/
import Derived.Test.YtppkilblkobkhaaGreatDoorVaAd
namespace Go.Proofs.YtppkilblkobkhaaGreatDoor
open Go.RowKit
theorem take_mem_step (l : List Int) (k : Nat) (z : Int) (h : l[k]? = some z) (x : Int) : x ∈ l.take (k + 1) ↔ x ∈ l.take k ∨ x = z := by
  rw [List.take_add_one, h, Option.toList_some, List.mem_append, List.mem_singleton]
set_option maxRecDepth 100000 in
set_option maxHeartbeats 4000000 in
theorem refUnion_any (v u : Value) (l m : List Int) (w : World) (hv : IntsV w v l) (hu : IntsV w u m) (hll : l.length + m.length ≤ 8000000) :
    Calls Tryz.prog 10 #[v, u] w fun e w' => (∃ r l', e = .returned r ∧ IntsV w' r l' ∧ SetL l' (fun x => x ∈ l ∨ x ∈ m) ∧ l'.length ≤ l.length + m.length) ∧ Below w.heap.size w w' := by
  obtain ⟨a, ca, rfl, _, hA⟩ := hv
  obtain ⟨b, cb, rfl, _, hB⟩ := hu
  have HA := hide hA
  have HB := hide hB
  clear hA hB
  go_enter Tryz.func10, Tryz.ntmps10
  go_upto_block 0 with fail
  go_cut [5] (fun r wx => ∃ l', IntsV wx r l' ∧ SetL l' (fun x => x ∈ l) ∧ l'.length ≤ l.length ∧ Below w.heap.size w wx)
  case first =>
    go_wp2_with fail
    go_loopw [5, 6] (fun r i wr => ∃ (k : Nat) (l' : List Int), i = .int .i64 (k : Nat) ∧ k ≤ l.length ∧ IntsV wr r l' ∧ SetL l' (fun x => x ∈ l.take k) ∧ l'.length ≤ k ∧ Below w.heap.size w wr) (fun _ i _ => l.length - (intOf i).toNat)
    case atStart => exact ⟨0, [], rfl, Nat.zero_le _, ints_none _ _ _, ⟨List.Pairwise.nil, fun x => by simp⟩, Nat.le_refl _, Below.refl _ _⟩
    case round =>
      obtain ⟨k, l', rfl, hk, hI, hS, hle, hb⟩ := hrel
      by_cases h1 : k < l.length
      · have n1 : (k : Int) < (l.length : Int) := by omega
        have n0 : (0 : Int) ≤ (k : Int) := by omega
        obtain ⟨g, o, rfl, hA⟩ := unhide HA (by intro e; rw [e] at h1; cases h1)
        have c1 := kept_cell hb (hA k _ (List.getElem?_eq_getElem h1))
        have HI := hide hI
        have HS := hide hS
        have HBR := hide hb
        clear hI hS hb hA
        generalize hz : l[k] = z at *
        have HZ := hide (show l[k]? = some z by rw [List.getElem?_eq_getElem h1, hz])
        clear hz
        go_wp2_with fail
        refine (add_set _ l' _ z wr (unhide HI) (unhide HS) (by omega)).mono ?_
        rintro e w1 ⟨⟨r1, l1, rfl, hI1, hS1, hl1⟩, hb1⟩
        have HI1 := hide hI1
        have HS1 : Hid (SetL l1 (fun x => x ∈ l.take (k + 1))) := hide (set_cong hS1 fun x => (take_mem_step l k z (unhide HZ) x).symm)
        have HB1 := hide (Below.then (unhide HBR) hb1)
        have HK : Hid (k + 1 ≤ l.length ∧ l1.length ≤ k + 1) := hide (by omega)
        clear hI1 hS1 hb1 HI HS hl1
        go_wp2
        go_roundw
        case rel => exact ⟨k + 1, l1, by go_num, (unhide HK).1, unhide HI1, unhide HS1, (unhide HK).2, unhide HB1⟩
        case measure => simp [intOf]; omega
      · have n1 : ¬ (k : Int) < (l.length : Int) := by omega
        have HI := hide hI
        have HS : Hid (SetL l' (fun x => x ∈ l)) := hide (by
          have e : k = l.length := by omega
          rw [e, List.take_length] at hS
          exact hS)
        have HBR := hide hb
        have HLE : Hid (l'.length ≤ l.length) := hide (by omega)
        clear hI hS hb hle
        go_wp2_with fail
        go_meet
        exact ⟨l', unhide HI, unhide HS, unhide HLE, unhide HBR⟩
  case rest =>
    obtain ⟨l0, hI0, hS0, hl0, hb0⟩ := hcut
    have HI0 := hide hI0
    have HS0 := hide hS0
    have HB0 := hide hb0
    clear hI0 hS0 hb0 HA
    rename World => w0
    go_wp2_with fail
    go_loopw [5, 7] (fun r i wr => ∃ (k : Nat) (l' : List Int), i = .int .i64 (k : Nat) ∧ k ≤ m.length ∧ IntsV wr r l' ∧ SetL l' (fun x => x ∈ l ∨ x ∈ m.take k) ∧ l'.length ≤ l.length + k ∧ Below w.heap.size w wr) (fun _ i _ => m.length - (intOf i).toNat)
    case atStart => exact ⟨0, l0, rfl, Nat.zero_le _, unhide HI0, set_cong (unhide HS0) (fun x => by simp), by omega, unhide HB0⟩
    case round =>
      obtain ⟨k, l', rfl, hk, hI, hS, hle, hb⟩ := hrel
      by_cases h1 : k < m.length
      · have n1 : (k : Int) < (m.length : Int) := by omega
        have n0 : (0 : Int) ≤ (k : Int) := by omega
        obtain ⟨g, o, rfl, hA⟩ := unhide HB (by intro e; rw [e] at h1; cases h1)
        have c1 := kept_cell hb (hA k _ (List.getElem?_eq_getElem h1))
        have HI := hide hI
        have HS := hide hS
        have HBR := hide hb
        clear hI hS hb hA
        generalize hz : m[k] = z at *
        have HZ := hide (show m[k]? = some z by rw [List.getElem?_eq_getElem h1, hz])
        clear hz
        go_wp2_with fail
        refine (add_set _ l' _ z wr (unhide HI) (unhide HS) (by omega)).mono ?_
        rintro e w1 ⟨⟨r1, l1, rfl, hI1, hS1, hl1⟩, hb1⟩
        have HI1 := hide hI1
        have HS1 : Hid (SetL l1 (fun x => x ∈ l ∨ x ∈ m.take (k + 1))) := hide (set_cong hS1 fun x => by rw [take_mem_step m k z (unhide HZ) x, or_assoc])
        have HB1 := hide (Below.then (unhide HBR) hb1)
        have HK : Hid (k + 1 ≤ m.length ∧ l1.length ≤ l.length + (k + 1)) := hide (by omega)
        clear hI1 hS1 hb1 HI HS hl1
        go_wp2
        go_roundw
        case rel => exact ⟨k + 1, l1, by go_num, (unhide HK).1, unhide HI1, unhide HS1, (unhide HK).2, unhide HB1⟩
        case measure => simp [intOf]; omega
      · have n1 : ¬ (k : Int) < (m.length : Int) := by omega
        have HI := hide hI
        have HS : Hid (SetL l' (fun x => x ∈ l ∨ x ∈ m)) := hide (by
          have e : k = m.length := by omega
          rw [e, List.take_length] at hS
          exact hS)
        have HBR := hide hb
        have HLE : Hid (l'.length ≤ l.length + m.length) := hide (by omega)
        clear hI hS hb hle
        go_wp2
        go_ret
        first | exact ⟨⟨_, l', rfl, unhide HI, unhide HS, unhide HLE⟩, unhide HBR⟩ | exact ⟨⟨_, rfl, l', unhide HI, unhide HS, unhide HLE⟩, unhide HBR⟩
end Go.Proofs.YtppkilblkobkhaaGreatDoor
