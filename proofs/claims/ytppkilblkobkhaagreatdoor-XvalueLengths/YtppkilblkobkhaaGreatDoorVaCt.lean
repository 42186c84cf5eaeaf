/- How many characters a text has: of two texts together as many as of both. -/
import Derived.Test.YtppkilblkobkhaaGreatDoorVaFn
import Derived.Test.YtppkilblkobkhaaGreatDoorTxtPlain
import Derived.Test.YtppkilblkobkhaaGreatDoorMarkPlain
namespace Go.Proofs.YtppkilblkobkhaaGreatDoor
open Go.RowKit
theorem runeB_pos (r : Nat) (h : charR (r : Int) = true) : 0 < (runeB r).length := by
  obtain ⟨c, t, e, _⟩ := runeB_first (charR_ok h)
  rw [e]; simp
theorem flat_take_lt (rs : List Nat) (hr : ∀ r ∈ rs, charR (r : Int) = true) (j : Nat) (hj : j < rs.length) : ((rs.take j).flatMap runeB).length < (rs.flatMap runeB).length := by
  have e : rs = rs.take j ++ rs[j] :: rs.drop (j + 1) := by rw [← List.drop_eq_getElem_cons hj, List.take_append_drop]
  have h1 : (rs.flatMap runeB).length = ((rs.take j).flatMap runeB).length + ((runeB rs[j]).length + ((rs.drop (j + 1)).flatMap runeB).length) := by
    conv => lhs; rw [e]
    rw [List.flatMap_append, List.flatMap_cons, List.length_append, List.length_append]
  have h2 := runeB_pos rs[j] (hr _ (List.getElem_mem hj))
  omega
theorem posAt_txt (rs : List Nat) (hr : ∀ r ∈ rs, charR (r : Int) = true) : ∀ k, k ≤ rs.length → posAt (bsT (rs.flatMap runeB)) k = ((rs.take k).flatMap runeB).length
  | 0, _ => rfl
  | k + 1, hk => by
    have ih := posAt_txt rs hr k (by omega)
    have hlt := flat_take_lt rs hr k (by omega)
    show stepAt _ (posAt _ k) = _
    rw [ih]
    unfold stepAt
    rw [if_pos (by rw [bsT_size]; exact hlt), ← Lib.decodeL_drop]
    have e : (bsT (rs.flatMap runeB)).data.toList.drop ((rs.take k).flatMap runeB).length = runeB rs[k] ++ (rs.drop (k + 1)).flatMap runeB := by
      have e0 : rs = rs.take k ++ rs[k] :: rs.drop (k + 1) := by rw [← List.drop_eq_getElem_cons (by omega : k < rs.length), List.take_append_drop]
      have e1 : rs.flatMap runeB = (rs.take k).flatMap runeB ++ (runeB rs[k] ++ (rs.drop (k + 1)).flatMap runeB) := by
        conv => lhs; rw [e0]
        rw [List.flatMap_append, List.flatMap_cons]
      show ((rs.flatMap runeB).toArray).toList.drop _ = _
      rw [List.toList_toArray, e1]
      simp
    rw [e, dec_rune _ (charR_ok (hr _ (List.getElem_mem (by omega))))]
    rw [List.take_add_one, List.getElem?_eq_getElem (by omega : k < rs.length), Option.toList_some, List.flatMap_append, List.length_append]
    rw [show [rs[k]].flatMap runeB = runeB rs[k] by simp]
theorem count_txt (rs : List Nat) (hr : ∀ r ∈ rs, charR (r : Int) = true) : countN (bsT (rs.flatMap runeB)) = rs.length := by
  refine countN_of _ _ (fun j hj => ?_) ?_
  · rw [posAt_txt rs hr j (by omega), bsT_size]
    exact flat_take_lt rs hr j hj
  · rw [posAt_txt rs hr _ (Nat.le_refl _), List.take_length, bsT_size]
    omega
theorem bsT_of (s : ByteArray) : bsT s.data.toList = s := by
  cases s; simp [bsT]
theorem count_two (s u : ByteArray) (hs : Txt s.data.toList) (hu : Txt u.data.toList) : countN (bsT (s.data.toList ++ u.data.toList)) = countN s + countN u := by
  obtain ⟨a, ha, ea⟩ := hs
  obtain ⟨b, hb, eb⟩ := hu
  have e1 : countN s = a.length := by rw [← bsT_of s, ea]; exact count_txt a ha
  have e2 : countN u = b.length := by rw [← bsT_of u, eb]; exact count_txt b hb
  rw [e1, e2, ea, eb, ← List.flatMap_append, count_txt (a ++ b) (fun r hr => by rcases List.mem_append.1 hr with h | h; exact ha r h; exact hb r h), List.length_append]
theorem textR_txt (s : ByteArray) : textR s = true ↔ Txt s.data.toList := by
  have h1 : textR s = ((fault s).1 == 0) := (text_eq s (s.size + 1) 0).symm
  have h2 := fault_txt s (s.size + 1) 0 (by omega)
  rw [List.drop_zero] at h2
  rw [h1, ← h2]
  simp [fault]
end Go.Proofs.YtppkilblkobkhaaGreatDoor
