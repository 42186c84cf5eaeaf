/- The characters of a text whose bytes are below 128, one by one: xvalue.characters. -/
import Derived.Test.YtppkilblkobkhaaGreatDoorVaIt
namespace Go.Proofs.YtppkilblkobkhaaGreatDoor
open Go.RowKit
attribute [local go_sem] Oper.semAt_some
/-- A text of these bytes. -/
def bsT (l : List UInt8) : ByteArray := ⟨l.toArray⟩
theorem bsT_size (l : List UInt8) : (bsT l).size = l.length := by simp [bsT, ByteArray.size]
theorem bsT_get (x : UInt8) (l : List UInt8) (h : 0 < (bsT (x :: l)).size) : (bsT (x :: l))[0]'h = x := rfl
theorem bsT_list (l : List UInt8) : (bsT l).toList = l := by
  rw [ByteArray.toList_eq]
  exact List.toList_toArray
theorem bsT_first (x : UInt8) (l : List UInt8) : (bsT (x :: l)).extract 0 1 = bsT [x] := by
  apply ByteArray.ext
  simp [bsT, ByteArray.data_extract]
theorem bsT_rest (x : UInt8) (l : List UInt8) : (bsT (x :: l)).extract 1 (l.length + 1) = bsT l := by
  apply ByteArray.ext
  simp [bsT, ByteArray.data_extract]
set_option maxRecDepth 100000 in
theorem decode_low (x : UInt8) (l : List UInt8) (hx : x.toNat < 128) (w : World) :
    Calls Tryz.prog 51 #[.string (bsT (x :: l))] w fun e w' => e = .returned (.tuple #[.int .i32 (x.toNat : Nat), .int .i64 1]) ∧ w' = w := by
  have h1 : ¬ (bsT (x :: l)).toList = [] := by rw [bsT_list]; exact List.cons_ne_nil _ _
  have h1' : (bsT (x :: l)).toList.isEmpty = false := by rw [bsT_list]; rfl
  have h2 := bsT_get x l
  have h3 : (0 : Int) < ((bsT (x :: l)).size : Int) := by rw [bsT_size, List.length_cons]; omega
  have h3' : 0 < (bsT (x :: l)).size := by rw [bsT_size, List.length_cons]; omega
  obtain ⟨n, hn⟩ : ∃ n, x.toNat = n := ⟨_, rfl⟩
  have h2' : ∀ h, ((bsT (x :: l))[0]'h).toNat = n := fun h => by rw [h2 h]; exact hn
  rw [hn] at hx ⊢
  have h4 : (n : Int) < 128 := by omega
  clear h2 hn
  generalize bsT (x :: l) = s at *
  go_enter Tryz.func51, Tryz.ntmps51
  go_wp2
  go_returns
  exact ⟨rfl, rfl⟩
/-- How long a text in a cell is. -/
def cellLen (w : World) (b : Nat) : Nat := match w.cell? ⟨b, 0, none⟩ with | some (.string s) => s.size | _ => 0
theorem cellLen_is {w : World} {b : Nat} {t : TypeId} {s : ByteArray} (h : Boxed w b t (.string s)) : cellLen w b = s.size := by
  unfold cellLen
  rw [h.cell]
theorem characters_any (s : ByteArray) (w : World) :
    Calls Tryz.prog 83 #[.string s] w fun e w' => e = .returned (.func (.func 117) #[] #[.pointer (some ⟨w.heap.size, 0, none⟩)]) ∧ w' = w.alloc (.cells #[.string s] 9) := by
  go_enter Tryz.func83, Tryz.ntmps83
  go_wp2
  go_returns
  exact ⟨rfl, rfl⟩
set_option maxRecDepth 100000 in
set_option maxHeartbeats 2000000 in
theorem chars_seq (n : Nat) (hn : 1 ≤ n) (b : Nat) (xs : List UInt8) (hx : ∀ x ∈ xs, x.toNat < 128) :
    SeqCell n Tryz.prog 117 #[.pointer (some ⟨b, 0, none⟩)] (fun x : UInt8 => #[Value.string (bsT [x])]) b 9 (.string (bsT xs)) xs := by
  intro l J W hJ hY h0 hb
  refine callsIn_of_wp Tryz.func117 rfl trivial ?_ rfl
  simp only [Tryz.ntmps117, List.size_toArray, List.length_cons, List.length_nil, Nat.reduceAdd, Nat.reduceSub, Array.replicate_succ, Array.replicate_zero, List.push_toArray, List.append_toArray, List.nil_append, List.cons_append]
  have HY := hide hY
  have HJ := hide hJ
  have HI0 : Hid (∃ pre rest, xs = pre ++ rest ∧ J pre W ∧ Boxed W b 9 (.string (bsT rest))) := hide ⟨[], xs, rfl, h0, hb⟩
  have HX := hide hx
  clear hJ hY h0 hb hx
  gi_wp2_with fail
  gi_loopw [] (fun wr => ∃ pre rest, xs = pre ++ rest ∧ J pre wr ∧ Boxed wr b 9 (.string (bsT rest))) (fun wr => cellLen wr b)
  case atStart => exact unhide HI0
  case round =>
    clear HI0
    obtain ⟨pre, rest, hxs, hj, hbx⟩ := hrel
    have hc := hbx.cell
    have hfz := hbx.frozen
    have HXS := hide hxs
    have HB := hide hbx
    have HJJ := hide hj
    clear hxs hj hbx
    cases rest with
    | nil =>
      have e0 : (bsT []).toList = [] := bsT_list []
      have e0' : (bsT []).toList.isEmpty = true := by rw [bsT_list]; rfl
      generalize bsT [] = s0 at hc e0 e0' HB
      gi_wp2
      go_end0
      refine ⟨⟨_, rfl⟩, ?_⟩
      rw [unhide HXS, List.append_nil]
      exact unhide HJJ
    | cons x r =>
      have e1 : ¬ (bsT (x :: r)).toList = [] := by rw [bsT_list]; exact List.cons_ne_nil _ _
      have e1' : (bsT (x :: r)).toList.isEmpty = false := by rw [bsT_list]; rfl
      have HD := hide (fun W => decode_low x r (unhide HX x (by rw [unhide HXS]; simp)) W)
      have hsz : ((bsT (x :: r)).size : Int) = (r.length : Int) + 1 := by rw [bsT_size]; simp
      have hf := bsT_first x r
      have hr := bsT_rest x r
      have HL := hide (bsT_size (x :: r))
      have hYC := unhide HY pre x wr (unhide HJJ) (by rw [unhide HXS]; simp)
      obtain ⟨fn, tmps, assign, body, hy', hRR⟩ := hYC
      generalize hs0 : bsT (x :: r) = s0 at hc e1 e1' HB HD hsz hf hr HL
      clear hs0
      gi_wp2_with (refine ⟨trivial, ?_⟩; gi_at_call 51; refine (callsIn_wide.2 (unhide HD _)).mono ?_; rintro e W1 ⟨rfl, rfl⟩)
      refine hRR.mono ?_
      rintro e W3 ⟨rfl, hJ3, hk3⟩
      have hb3 : Boxed W3 b 9 (.string s0) := hk3.trans (unhide HB)
      have hc3 := hb3.cell
      have hf3 := hb3.frozen
      have hr1 : s0.extract 1 s0.size = bsT r := by rw [unhide HL]; exact hr
      have HJ3 := hide hJ3
      have HB3 := hide hb3
      clear hb3 hJ3 hk3 hc hfz hy' hr
      gi_wp2
      refine ⟨⟨pre ++ [x], r, by rw [unhide HXS]; simp, unhide HJ _ _ _ (unhide HJ3), (unhide HB3).set _⟩, ?_⟩
      rw [cellLen_is ((unhide HB3).set _), cellLen_is (unhide HB), bsT_size, unhide HL, List.length_cons]
      omega
end Go.Proofs.YtppkilblkobkhaaGreatDoor
