/- What must be whatever is asked: the law's 'live' answers true. -/
import Derived.Test.YtfgifocgkiploaaGreatDoorNames
import Derived.Test.YtfgifocgkiploaaGreatDoorTrim
import Derived.Lib.SlBytesConst
namespace Go.Proofs.YtfgifocgkiploaaGreatDoor
open Go.RowKit
theorem decoded_live : decodedV (narrowL [97, 13, 10, 98, 13]) 5 = .tuple #[.string ⟨#[97, 10, 98, 10]⟩, .int .i64 0, .int .i64 0] := by
  have h1 : narrowL [97, 13, 10, 98, 13] = [97, 13, 10, 98, 13] := by decide +kernel
  have h2 : (fault ⟨[97, 13, 10, 98, 13].toArray⟩).1 = 0 := by decide +kernel
  have h3 : endsL [97, 13, 10, 98, 13] = [97, 10, 98, 10] := by decide +kernel
  unfold decodedV
  rw [h1, if_pos h2, h3]
theorem split_live : splitV [97, 58, 98] = .tuple #[.string ⟨#[97]⟩, .string ⟨#[98]⟩, .bool true] := by
  have h1 : splitP [97, 58, 98] = [97] := by decide +kernel
  have h2 : splitN [97, 58, 98] = [98] := by decide +kernel
  have h3 : splitB [97, 58, 98] = true := by decide +kernel
  unfold splitV
  rw [if_pos h3, h1, h2]
theorem trim_live : trimL ⟨#[32, 32, 97, 32, 32, 98]⟩ = [97, 32, 98] := by decide +kernel
theorem conv_live (w : World) (fr : Nat × Nat) : (convert 28 9 (.slice (some ⟨w.heap.size, 0, none⟩) 5 5)).run Tryz.prog (w.alloc (.cells #[.int .u8 97, .int .u8 13, .int .u8 10, .int .u8 98, .int .u8 13] 5 fr)) =
    .ok (.string ⟨#[97, 13, 10, 98, 13]⟩) (w.alloc (.cells #[.int .u8 97, .int .u8 13, .int .u8 10, .int .u8 98, .int .u8 13] 5 fr)) := by
  refine (run_convert_bytes_arg _ 28 5 Tryz.underlying28 Tryz.underlying5 w.heap.size 0 5 5 [97, 13, 10, 98, 13] rfl ?_ 9 Tryz.underlying9).trans rfl
  intro i hi
  rw [World.cell?_alloc_mark]
  match i, hi with
  | 0, _ => rfl
  | 1, _ => rfl
  | 2, _ => rfl
  | 3, _ => rfl
  | 4, _ => rfl
end Go.Proofs.YtfgifocgkiploaaGreatDoor
