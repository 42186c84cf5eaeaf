/- What must be whatever is asked: the law's 'live' answers true. -/
import Derived.Test.YtdoobohdddghbaaDoorNames
import Derived.Test.YtdoobohdddghbaaDoorTrim
import Derived.Lib.SlBytesConst
namespace Go.Proofs.YtdoobohdddghbaaDoor
open Go.RowKit
theorem decoded_live : decodedV (narrowL [97, 13, 10, 98, 13]) 5 = .tuple #[.string ⟨#[97, 10, 98, 10]⟩, .int .i64 0, .int .i64 0] := by
  have h1 : narrowL [97, 13, 10, 98, 13] = [97, 13, 10, 98, 13] := by decide +kernel
  have h2 : (fault ⟨[97, 13, 10, 98, 13].toArray⟩).1 = 0 := by decide +kernel
  have h3 : endsL [97, 13, 10, 98, 13] = [97, 10, 98, 10] := by decide +kernel
  unfold decodedV
  rw [h1, if_pos h2, h3]
theorem split_live : splitV [97, 58, 98] = .tuple #[.string ⟨#[97]⟩, .string ⟨#[98]⟩, .bool true] := by
  have h1 : splitP [97, 58, 98] = [97] := by decide +kernel
  have h2 : splitN [97, 58, 98] = [98] := by decide +kernel
  have h3 : splitB [97, 58, 98] = true := by decide +kernel
  unfold splitV
  rw [if_pos h3, h1, h2]
theorem trim_live : trimL ⟨#[32, 32, 97, 32, 32, 98]⟩ = [97, 32, 98] := by decide +kernel
theorem conv_live (w : World) (fr : Nat × Nat) : (convert 22 9 (.slice (some ⟨w.heap.size, 0, none⟩) 5 5)).run Tryd.prog (w.alloc (.cells #[.int .u8 97, .int .u8 13, .int .u8 10, .int .u8 98, .int .u8 13] 5 fr)) =
    .ok (.string ⟨#[97, 13, 10, 98, 13]⟩) (w.alloc (.cells #[.int .u8 97, .int .u8 13, .int .u8 10, .int .u8 98, .int .u8 13] 5 fr)) := by
  refine (run_convert_bytes_arg _ 22 5 Tryd.underlying22 Tryd.underlying5 w.heap.size 0 5 5 [97, 13, 10, 98, 13] rfl ?_ 9 Tryd.underlying9).trans rfl
  intro i hi
  rw [World.cell?_alloc_mark]
  match i, hi with
  | 0, _ => rfl
  | 1, _ => rfl
  | 2, _ => rfl
  | 3, _ => rfl
  | 4, _ => rfl
set_option maxHeartbeats 1000000 in
theorem live_any (w : World) (hE : Env w) :
    Calls Tryd.prog 8 #[] w fun e w' => e = .returned (.bool true) ∧ Below w.heap.size w w' := by
  have HE := hide hE
  clear hE
  have hcv := Lib.run_convert_bytes_const (P := Tryd.prog) w 22 5 #[.int .u8 97, .int .u8 13, .int .u8 10, .int .u8 98, .int .u8 13] 5 5 Tryd.underlying22 Tryd.underlying5
  go_enter Tryd.func8, Tryd.ntmps8
  go_wp2_with fail
  have hb0 : Below w.heap.size w (w.alloc (.cells #[.int .u8 97, .int .u8 13, .int .u8 10, .int .u8 98, .int .u8 13] 5 (5, 6))) := (Below.refl _ _).alloc (Nat.le_refl _) _
  refine (decode_narrow _ 5 5 ⟨#[97, 13, 10, 98, 13]⟩ _ ((unhide HE).below hb0) rfl (by decide) (conv_live w _) (by decide +kernel) (by decide +kernel)).mono ?_
  rintro e w1 ⟨rfl, hb1⟩
  have hb01 := Below.then hb0 hb1
  rw [show decodedV (narrowL (ByteArray.mk #[97, 13, 10, 98, 13]).data.toList) (ByteArray.mk #[97, 13, 10, 98, 13]).size = _ from decoded_live]
  go_wp2_with fail
  refine (split_any ⟨#[97, 58, 98]⟩ _ (by decide) ((unhide HE).below hb01)).mono ?_
  rintro e w2 ⟨rfl, hb2⟩
  rw [show splitV (ByteArray.mk #[97, 58, 98]).data.toList = _ from split_live]
  go_wp2_with fail
  refine (trim_any ⟨#[32, 32, 97, 32, 32, 98]⟩ _ (by decide) (by rw [trim_live]; decide) (by decide +kernel)).mono ?_
  rintro e w3 ⟨rfl, hb3⟩
  rw [trim_live]
  go_wp2
  go_ret
  exact ⟨rfl, Below.then hb01 (Below.then hb2 hb3)⟩
end Go.Proofs.YtdoobohdddghbaaDoor
