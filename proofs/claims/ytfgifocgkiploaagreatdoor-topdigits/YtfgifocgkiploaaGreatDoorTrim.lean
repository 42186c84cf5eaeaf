/- Blanks: xchar's Trim. -/
import Derived.Test.YtfgifocgkiploaaGreatDoorLines
namespace Go.Proofs.YtfgifocgkiploaaGreatDoor
open Go.RowKit
def blankN (x : Nat) : Bool := blankB x
def trimL (s : ByteArray) : List UInt8 := Lib.join ((Lib.goFieldsP blankN s).map (·.data.toList)) [32]
theorem isBlank_runes (w : World) : PredAtRunes Tryz.prog 23 #[] blankN w := fun W x _ _ => by
  refine (isBlank_any x W).mono ?_
  rintro e w' ⟨rfl, rfl⟩
  exact ⟨rfl, 0, rfl⟩
theorem isBlank_enters : ∀ args w, (callFunc 23 args).run Tryz.prog w = .ok (.enter 23 args) w := fun _ _ => by kernel_rfl
set_option maxHeartbeats 1000000 in
theorem trim_any (s : ByteArray) (w : World) (hs : s.size ≤ 4294967296) (hlen : (trimL s).length ≤ 140737488355328) (hN : (Lib.goFieldsP blankN s).length ≤ 140737488355328) :
    Calls Tryz.prog 10 #[.string s] w fun e w' => e = .returned (.string ⟨(trimL s).toArray⟩) ∧ Below w.heap.size w w' := by
  have HL := hide hlen
  clear hlen
  go_enter Tryz.func10, Tryz.ntmps10
  go_wp2_with fail
  refine (Tryz.strings_FieldsFunc_runes 23 #[] isBlank_enters blankN s _ hs (isBlank_runes _)).mono ?_
  rintro e w' ⟨A, rfl, hA, hown, hb⟩
  go_wp2_with fail
  have hcells : ∀ (j : Nat) x, (Lib.goFieldsP blankN s)[j]? = some x → w'.cell? ⟨A, 0 + j, none⟩ = some (.string x) := fun j x hx => by
    have := hown.cells (g := A) rfl j (.string x) (by rw [List.getElem?_map, hx]; rfl)
    have e : (⟨A, 0, none⟩ : Addr).add j = ⟨A, 0 + j, none⟩ := by unfold Addr.add; split <;> simp_all
    rw [← e]; exact this
  have hlt : A < w'.heap.size := by
    rcases hown.2 with ⟨h, _⟩ | ⟨g, cap, cur, h, _, hg, _⟩
    · simp at h
    · simp at h
      rw [h.1]; exact (Array.getElem?_eq_some_iff.1 hg).1
  refine (Tryz.strings_Join A 0 _ (Lib.goFieldsP blankN s) ⟨#[32]⟩ _ hcells hlt hN (Nat.le_refl _) (unhide HL)).mono ?_
  rintro e w'' ⟨rfl, hb'⟩
  clear hcells hown
  go_wp2
  go_ret
  exact ⟨rfl, Below.then hb hb'⟩
end Go.Proofs.YtfgifocgkiploaaGreatDoor
