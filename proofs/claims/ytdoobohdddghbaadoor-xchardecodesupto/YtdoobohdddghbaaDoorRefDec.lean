/- The reference's Decode: narrow, wide and Decode itself. -/
import Derived.Test.YtdoobohdddghbaaDoorArgBytes
import Derived.Test.YtdoobohdddghbaaDoorRefEnds
import Derived.Test.YtdoobohdddghbaaDoorRefBad
import Derived.Test.YtdoobohdddghbaaDoorDecAll
namespace Go.Proofs.YtdoobohdddghbaaDoor
open Go.RowKit
def badErr (x : Int × Bool) : Int := if x.2 then 3 else 4
/-- What the reference tells of UTF-8 from a place on. -/
def narrowV (t : ByteArray) (n : Nat) : Value :=
  if 0 ≤ (badFrom ⟨(t.data.toList.drop n).toArray⟩ (t.size - n + 1) 0).1 then .tuple #[.string ⟨#[]⟩, .int .i64 (badErr (badFrom ⟨(t.data.toList.drop n).toArray⟩ (t.size - n + 1) 0)), .int .i64 (n + (badFrom ⟨(t.data.toList.drop n).toArray⟩ (t.size - n + 1) 0).1)]
  else .tuple #[.string ⟨(endsR (t.data.toList.drop n)).toArray⟩, .int .i64 0, .int .i64 0]
theorem bad_le (s : ByteArray) : ∀ f pos, (badFrom s f pos).1 ≤ s.size
  | 0, pos => by simp [badFrom]
  | f + 1, pos => by
    unfold badFrom
    split
    · split
      · simp; omega
      · split
        · exact bad_le s f _
        · simp; omega
    · simp
set_option maxHeartbeats 1000000 in
theorem refNarrow_any (b off c n : Nat) (t : ByteArray) (w : World) (hE : Env w) (hs : t.size ≤ 32768) (hn : n ≤ t.size) (hc1 : t.size ≤ c) (hc2 : c ≤ maxLen)
    (hc : ∀ i, i < t.size → w.cell? ⟨b, off + i, none⟩ = some (.int .u8 ((t.get! i).toNat : Int))) :
    Calls Tryd.prog 15 #[.slice (some ⟨b, off, none⟩) t.size c, .int .i64 n] w fun e w' => e = .returned (narrowV t n) ∧ Below w.heap.size w w' := by
  have HE := hide hE
  have HC := hide hc
  clear hE hc
  have hsz : (⟨(t.data.toList.drop n).toArray⟩ : ByteArray).size = t.size - n := by
    rw [size_mk, List.length_drop]; rfl
  have hbl := bad_le ⟨(t.data.toList.drop n).toArray⟩ (t.size - n + 1) 0
  rw [hsz] at hbl
  unfold maxLen at hc2
  by_cases hcn : n = c
  · subst hcn
    have hcz : ∀ w, (convert 22 9 (.slice (some ⟨b, off, none⟩) 0 0)).run Tryd.prog w = .ok (.string ⟨(t.data.toList.drop n).toArray⟩) w := by
      intro w
      have e2 : t.data.toList.drop n = [] := List.drop_eq_nil_of_le (by show t.size ≤ n; omega)
      rw [e2]
      exact conv_none _ _ w
    have hcv := hcz w
    go_enter Tryd.func15, Tryd.ntmps15
    go_wp2_with fail
    refine (refBad_any ⟨(t.data.toList.drop n).toArray⟩ _ (by rw [hsz]; omega) (unhide HE)).mono ?_
    rintro e w1 ⟨rfl, hb1⟩
    rw [hsz]
    have hcv2 := hcz w1
    have hre := fun w => refEnds_any ⟨(t.data.toList.drop n).toArray⟩ w (by rw [hsz]; omega)
    have HRE := hide hre
    clear hre
    generalize hx : badFrom ⟨(t.data.toList.drop n).toArray⟩ (t.size - n + 1) 0 = x at *
    have HX := hide hx
    clear hx
    obtain ⟨at1, utf⟩ := x
    simp only at hbl
    by_cases h0 : 0 ≤ at1
    · cases utf
      · go_wp2
        go_ret3
        refine ⟨?_, hb1⟩
        unfold narrowV
        rw [unhide HX, if_pos h0]
        rfl
      · go_wp2
        go_ret3
        refine ⟨?_, hb1⟩
        unfold narrowV
        rw [unhide HX, if_pos h0]
        rfl
    · have h0' : decide ((0 : Int) ≤ at1) = false := by simpa using h0
      go_wp2_with fail
      refine (unhide HRE _).mono ?_
      rintro e w2 ⟨rfl, hb2⟩
      go_wp2
      go_ret3
      refine ⟨?_, Below.then hb1 hb2⟩
      unfold narrowV
      rw [unhide HX, if_neg (by simp only; omega)]
      rfl
  · have hlt : n < c := by omega
    have hlt' : (n : Int) < (c : Int) := by omega
    have hcv := argB_tail (unhide HC) n hn (t.size - n) (c - n) rfl
    go_enter Tryd.func15, Tryd.ntmps15
    go_wp2_with fail
    refine (refBad_any ⟨(t.data.toList.drop n).toArray⟩ _ (by rw [hsz]; omega) (unhide HE)).mono ?_
    rintro e w1 ⟨rfl, hb1⟩
    rw [hsz]
    have hcv2 := argB_tail (argCells_below (unhide HC) hb1) n hn (t.size - n) (c - n) rfl
    have hre := fun w => refEnds_any ⟨(t.data.toList.drop n).toArray⟩ w (by rw [hsz]; omega)
    have HRE := hide hre
    clear hre
    generalize hx : badFrom ⟨(t.data.toList.drop n).toArray⟩ (t.size - n + 1) 0 = x at *
    have HX := hide hx
    clear hx
    obtain ⟨at1, utf⟩ := x
    simp only at hbl
    by_cases h0 : 0 ≤ at1
    · cases utf
      · go_wp2
        go_ret3
        refine ⟨?_, hb1⟩
        unfold narrowV
        rw [unhide HX, if_pos h0]
        rfl
      · go_wp2
        go_ret3
        refine ⟨?_, hb1⟩
        unfold narrowV
        rw [unhide HX, if_pos h0]
        rfl
    · have h0' : decide ((0 : Int) ≤ at1) = false := by simpa using h0
      go_wp2_with fail
      refine (unhide HRE _).mono ?_
      rintro e w2 ⟨rfl, hb2⟩
      go_wp2
      go_ret3
      refine ⟨?_, Below.then hb1 hb2⟩
      unfold narrowV
      rw [unhide HX, if_neg (by simp only; omega)]
      rfl
end Go.Proofs.YtdoobohdddghbaaDoor
