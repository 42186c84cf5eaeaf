/- Several texts, laid as one. -/
import Derived.Test.YtmemcabipcccaaaGreatDoorGae
import Derived.Test.YtmemcabipcccaaaGreatDoorLexSame
import Derived.Test.YtmemcabipcccaaaGreatDoorGac
import Derived.Test.YtmemcabipcccaaaGreatDoorGad
import Derived.Test.YtmemcabipcccaaaGreatDoorGaa
/- The digits, the name that a text begins with: xplex's digitsAhead and nameAhead. -/
namespace Go.Proofs.YtmemcabipcccaaaGreatDoor
open Go.RowKit
end Go.Proofs.YtmemcabipcccaaaGreatDoor
/- A text's tokens: where they stand, and that they are read again as they were if they are parted by blanks: plain lemmas. -/
namespace Go.Proofs.YtmemcabipcccaaaGreatDoor
end Go.Proofs.YtmemcabipcccaaaGreatDoor
/- The number, the name, the string, the variable, the word that a text begins with: xplex's functions. -/
namespace Go.Proofs.YtmemcabipcccaaaGreatDoor
open Go.RowKit
end Go.Proofs.YtmemcabipcccaaaGreatDoor
/- A name has no colon, so a prefix and a local name are parted at the colon between them. -/
namespace Go.Proofs.YtmemcabipcccaaaGreatDoor
open Go.RowKit
theorem indexByte_first : ∀ (p r : List UInt8) (c : UInt8), c ∉ p → Lib.indexByte (p ++ c :: r) c = p.length
  | [], r, c, _ => by simp [Lib.indexByte]
  | x :: p, r, c, h => by
    have hx : ¬ (x == c) = true := fun e => h (by rw [beq_iff_eq.1 e]; simp)
    have ih := indexByte_first p r c (fun hm => h (List.mem_cons_of_mem _ hm))
    simp only [List.cons_append, Lib.indexByte, hx, ih]
    simp
theorem cut_first (p r : List UInt8) (c : UInt8) (h : c ∉ p) : Lib.cut (p ++ c :: r) [c] = (p, r, true) := by
  unfold Lib.cut
  rw [Lib.index_one, indexByte_first p r c h, if_pos (by omega)]
  simp
theorem mk_data (s : ByteArray) : (⟨s.data.toList.toArray⟩ : ByteArray) = s := by cases s; simp
end Go.Proofs.YtmemcabipcccaaaGreatDoor
/- Which characters may be, lie in one of some ranges, begin names and go on in them: the reference's IsChar, 'in', Begins and GoesOn. -/
namespace Go.Proofs.YtmemcabipcccaaaGreatDoor
open Go.RowKit
set_option maxHeartbeats 1000000 in
theorem in_any (r : Int) (b : Nat) (zs : List Int) (n : Nat) (w : World) (hn : zs.length = n) (hmax : n ≤ 1000)
    (hcell : ∀ i, i < n → w.cell? ⟨b, i, none⟩ = some (.int .i32 (zs.getD i 0))) :
    Calls Tryz.prog 91 #[.int .i32 r, .slice (some ⟨b, 0, none⟩) n n] w fun e w' => e = .returned (.bool (inL r zs)) ∧ w' = w := by
  have HC := hide hcell
  clear hcell
  go_enter Tryz.func91, Tryz.ntmps91
  go_wp2_with fail
  go_loop [5] (fun i => ∃ k : Nat, k ≤ n + 1 ∧ i = .int .i64 k ∧ inL r zs = inL r (zs.drop k)) (fun i => n + 1 - (intOf i).toNat)
  case atStart => exact ⟨0, by omega, rfl, rfl⟩
  case round =>
    obtain ⟨k, hk, rfl, hr⟩ := hrel
    have HR := hide hr
    clear hr
    by_cases hlt : k + 1 < n
    · have hlt' : (k : Int) + 1 < n := by omega
      have c0 := unhide HC k (by omega)
      have c1 := unhide HC (k + 1) (by omega)
      have HS := hide (inL_drop r zs k (by omega))
      generalize zs.getD k 0 = lo at *
      generalize zs.getD (k + 1) 0 = hi at *
      go_wp2
      · go_ret
        exact ⟨ret_bool (by rw [unhide HR, unhide HS]; simp [*]), rfl⟩
      all_goals
        exact ⟨⟨k + 2, by omega, by go_num, by rw [unhide HR, unhide HS]; simp <;> omega⟩, by simp [intOf]; omega⟩
    · have hge : ¬ ((k : Int) + 1 < n) := by omega
      go_wp2
      go_ret
      exact ⟨ret_bool (by rw [unhide HR, inL_end _ _ _ (by omega)]), rfl⟩
theorem cells_of (zs : List Int) (i : Nat) (h : i < zs.length) : (zs.map (Value.int .i32)).toArray[i]? = some (.int .i32 (zs.getD i 0)) := by
  simp [List.getElem?_eq_getElem h]
set_option maxHeartbeats 1000000 in
theorem refBegins_any (r : Int) (w : World) :
    Calls Tryz.prog 72 #[.int .i32 r] w fun e w' => e = .returned (.bool (inL r beginL)) ∧ Below w.heap.size w w' := by
  go_enter Tryz.func72, Tryz.ntmps72
  go_wp2_with fail
  refine (in_any r w.heap.size beginL 30 _ rfl (by decide) (fun i hi => (World.cell?_alloc_new _ _ _ _).trans (cells_of beginL i hi))).mono ?_
  rintro e w' ⟨rfl, rfl⟩
  go_wp2
  go_ret
  exact ⟨rfl, by go_grown⟩
set_option maxHeartbeats 1000000 in
theorem refGoesOn_any (r : Int) (w : World) :
    Calls Tryz.prog 73 #[.int .i32 r] w fun e w' => e = .returned (.bool (inL r beginL || inL r onL)) ∧ Below w.heap.size w w' := by
  go_enter Tryz.func73, Tryz.ntmps73
  go_wp2_with fail
  refine (refBegins_any r _).mono ?_
  rintro e w' ⟨rfl, hb⟩
  cases h : inL r beginL
  · go_wp2_with fail
    refine (in_any r w'.heap.size onL 12 _ rfl (by decide) (fun i hi => (World.cell?_alloc_new _ _ _ _).trans (cells_of onL i hi))).mono ?_
    rintro e w'' ⟨rfl, rfl⟩
    go_wp2
    go_ret
    exact ⟨ret_bool (by simp [h]), hb.alloc hb.size _⟩
  · go_wp2
    go_ret
    exact ⟨ret_bool (by simp [h]), hb⟩
end Go.Proofs.YtmemcabipcccaaaGreatDoor
/- The reference's Bad, IsText, IsName and Split. -/
namespace Go.Proofs.YtmemcabipcccaaaGreatDoor
open Go.RowKit
def textB (s : ByteArray) : Bool := (fault s).1 == 0
set_option maxHeartbeats 1000000 in
theorem isText_any (s : ByteArray) (w : World) :
    Calls Tryz.prog 103 #[.string s] w fun e w' => e = .returned (.bool (textB s)) ∧ Below w.heap.size w w' := by
  go_enter Tryz.func103, Tryz.ntmps103
  go_wp2_with fail
  refine (firstFault_any s _).mono ?_
  rintro e w1 ⟨rfl, hb1⟩
  go_wp2
  all_goals
    go_ret
    exact ⟨ret_bool (by simp [textB, *]), hb1⟩
end Go.Proofs.YtmemcabipcccaaaGreatDoor
/- What the program takes for names and texts is what the reference takes for them: plain lemmas. -/
namespace Go.Proofs.YtmemcabipcccaaaGreatDoor
open Go.RowKit
theorem textB_eq (s : ByteArray) : textB s = textR s := text_eq s (s.size + 1) 0
theorem validD_at (s : ByteArray) (pos : Nat) (hp : pos < s.size) : Lib.validD (s.data.toList.drop pos) =
    if (Utf8.decode s pos).1 = 65533 ∧ (Utf8.decode s pos).2 = 1 then false else Lib.validD (s.data.toList.drop (pos + (Utf8.decode s pos).2)) := by
  have hne : s.data.toList.drop pos ≠ [] := by
    intro h
    have := congrArg List.length h
    rw [List.length_drop] at this
    have hl : s.data.toList.length = s.size := rfl
    simp only [List.length_nil] at this
    omega
  have e : Lib.decodeL (s.data.toList.drop pos) = Utf8.decode s pos := Lib.decodeL_drop s pos
  rw [Lib.validD_step _ hne, e, List.drop_drop]
theorem valid_name (s : ByteArray) : ∀ f pos, s.size < pos + f → nameFrom s f pos = true → decide ((badFrom s f pos).1 < 0) = Lib.validD (s.data.toList.drop pos)
  | 0, pos, hb, _ => by
    rw [List.drop_eq_nil_of_le (by show s.data.toList.length ≤ pos; have : s.data.toList.length = s.size := rfl; omega)]; rfl
  | f + 1, pos, hb, h => by
    have hd := decode_le s pos
    unfold badFrom
    by_cases hp : pos < s.size
    · have hw := width_pos s pos hp
      rw [if_pos hp, validD_at s pos hp]
      rw [nameFrom, if_pos hp] at h
      by_cases hc : (((pos : Int) == 0 && !beginB (Utf8.decode s pos).1) || !goesB (Utf8.decode s pos).1) = true
      · rw [if_pos hc] at h; cases h
      · rw [if_neg hc] at h
        have hg : goesB (Utf8.decode s pos).1 = true := by
          cases hg : goesB (Utf8.decode s pos).1
          · exact absurd (by simp [hg]) hc
          · rfl
        have hch := char_of_goes _ (by omega) hg
        rw [charB_eq _ (by omega)] at hch
        have ih := valid_name s f _ (by omega) h
        by_cases h1 : (Utf8.decode s pos).1 = 65533 ∧ (Utf8.decode s pos).2 = 1
        · rw [if_pos h1]
          simp [h1.1, h1.2]
        · rw [if_neg h1, ← ih]
          have h1' : (((Utf8.decode s pos).1 : Int) == 65533 && ((Utf8.decode s pos).2 : Int) == 1) = false := by
            rw [Bool.and_eq_false_iff]
            simp only [beq_eq_false_iff_ne, ne_eq]
            omega
          rw [h1', hch]
          simp
    · rw [if_neg hp, List.drop_eq_nil_of_le (by show s.data.toList.length ≤ pos; have : s.data.toList.length = s.size := rfl; omega)]; rfl
/-- The reference's names are the program's. -/
theorem nameB_eq (s : ByteArray) : nameB s = (textR s && !s.data.toList.isEmpty && nameFrom s (s.size + 1) 0) := by
  unfold nameB textR
  cases h : nameFrom s (s.size + 1) 0
  · simp
  · have := valid_name s (s.size + 1) 0 (by omega) h
    rw [List.drop_zero] at this
    rw [this]
    cases s.data.toList.isEmpty <;> simp
end Go.Proofs.YtmemcabipcccaaaGreatDoor
