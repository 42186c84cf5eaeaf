/- The short and the long form of a path between two names: scanned and parsed alike. -/
import Derived.Test.YthkkfldmoflfaaaGreatDoorGbu
import Derived.Test.YthkkfldmoflfaaaGreatDoorGbr
namespace Go.Proofs.YthkkfldmoflfaaaGreatDoor
open Go.RowKit Go.Maps
def shortC (a b : List Nat) : List Nat := (47 :: 47 :: (a ++ (47 :: (64 :: (b ++ (47 :: (46 :: 46 :: (47 :: (46 :: [])))))))))
def longC (a b : List Nat) : List Nat := (47 :: (100 :: 101 :: 115 :: 99 :: 101 :: 110 :: 100 :: 97 :: 110 :: 116 :: 45 :: 111 :: 114 :: 45 :: 115 :: 101 :: 108 :: 102 :: (58 :: 58 :: (110 :: 111 :: 100 :: 101 :: (40 :: (41 :: (47 :: (99 :: 104 :: 105 :: 108 :: 100 :: (58 :: 58 :: (a ++ (47 :: (97 :: 116 :: 116 :: 114 :: 105 :: 98 :: 117 :: 116 :: 101 :: (58 :: 58 :: (b ++ (47 :: (112 :: 97 :: 114 :: 101 :: 110 :: 116 :: (58 :: 58 :: (110 :: 111 :: 100 :: 101 :: (40 :: (41 :: (47 :: (115 :: 101 :: 108 :: 102 :: (58 :: 58 :: (110 :: 111 :: 100 :: 101 :: (40 :: (41 :: []))))))))))))))))))))))))))
theorem short_toks {a b : List Nat} (ha : isNm a = true) (hb : isNm b = true) : Toks false (shortC a b) [⟨8, [47, 47], [47, 47]⟩, ⟨3, a, a⟩, ⟨8, [47], [47]⟩, ⟨9, [64], [64]⟩, ⟨3, b, b⟩, ⟨8, [47], [47]⟩, ⟨9, [46, 46], [46, 46]⟩, ⟨8, [47], [47]⟩, ⟨9, [46], [46]⟩] := by
  unfold shortC
  exact Toks.cons _ _ (a ++ (47 :: (64 :: (b ++ (47 :: (46 :: 46 :: (47 :: (46 :: [])))))))) _ _ rfl (by kernel_rfl) rfl (by decide) (Toks.cons _ _ (47 :: (64 :: (b ++ (47 :: (46 :: 46 :: (47 :: (46 :: []))))))) _ _ ((nm_drop ha _).1) (nm_slash ha _) rfl (isNm_name ha).1 (Toks.cons _ _ (64 :: (b ++ (47 :: (46 :: 46 :: (47 :: (46 :: [])))))) _ _ rfl (by kernel_rfl) rfl (by decide) (Toks.cons _ _ (b ++ (47 :: (46 :: 46 :: (47 :: (46 :: []))))) _ _ rfl (by kernel_rfl) rfl (by decide) (Toks.cons _ _ (47 :: (46 :: 46 :: (47 :: (46 :: [])))) _ _ ((nm_drop hb _).1) (nm_slash hb _) rfl (isNm_name hb).1 (Toks.cons _ _ (46 :: 46 :: (47 :: (46 :: []))) _ _ rfl (by kernel_rfl) rfl (by decide) (Toks.cons _ _ (47 :: (46 :: [])) _ _ rfl (by kernel_rfl) rfl (by decide) (Toks.cons _ _ (46 :: []) _ _ rfl (by kernel_rfl) rfl (by decide) (Toks.cons _ _ [] _ _ rfl (by kernel_rfl) rfl (by decide) (Toks.nil _)))))))))
theorem long_toks {a b : List Nat} (ha : isNm a = true) (hb : isNm b = true) : Toks false (longC a b) [⟨8, [47], [47]⟩, ⟨6, [100, 101, 115, 99, 101, 110, 100, 97, 110, 116, 45, 111, 114, 45, 115, 101, 108, 102], [100, 101, 115, 99, 101, 110, 100, 97, 110, 116, 45, 111, 114, 45, 115, 101, 108, 102]⟩, ⟨9, [58, 58], [58, 58]⟩, ⟨5, [110, 111, 100, 101], [110, 111, 100, 101]⟩, ⟨9, [40], [40]⟩, ⟨9, [41], [41]⟩, ⟨8, [47], [47]⟩, ⟨6, [99, 104, 105, 108, 100], [99, 104, 105, 108, 100]⟩, ⟨9, [58, 58], [58, 58]⟩, ⟨3, a, a⟩, ⟨8, [47], [47]⟩, ⟨6, [97, 116, 116, 114, 105, 98, 117, 116, 101], [97, 116, 116, 114, 105, 98, 117, 116, 101]⟩, ⟨9, [58, 58], [58, 58]⟩, ⟨3, b, b⟩, ⟨8, [47], [47]⟩, ⟨6, [112, 97, 114, 101, 110, 116], [112, 97, 114, 101, 110, 116]⟩, ⟨9, [58, 58], [58, 58]⟩, ⟨5, [110, 111, 100, 101], [110, 111, 100, 101]⟩, ⟨9, [40], [40]⟩, ⟨9, [41], [41]⟩, ⟨8, [47], [47]⟩, ⟨6, [115, 101, 108, 102], [115, 101, 108, 102]⟩, ⟨9, [58, 58], [58, 58]⟩, ⟨5, [110, 111, 100, 101], [110, 111, 100, 101]⟩, ⟨9, [40], [40]⟩, ⟨9, [41], [41]⟩] := by
  unfold longC
  exact Toks.cons _ _ (100 :: 101 :: 115 :: 99 :: 101 :: 110 :: 100 :: 97 :: 110 :: 116 :: 45 :: 111 :: 114 :: 45 :: 115 :: 101 :: 108 :: 102 :: (58 :: 58 :: (110 :: 111 :: 100 :: 101 :: (40 :: (41 :: (47 :: (99 :: 104 :: 105 :: 108 :: 100 :: (58 :: 58 :: (a ++ (47 :: (97 :: 116 :: 116 :: 114 :: 105 :: 98 :: 117 :: 116 :: 101 :: (58 :: 58 :: (b ++ (47 :: (112 :: 97 :: 114 :: 101 :: 110 :: 116 :: (58 :: 58 :: (110 :: 111 :: 100 :: 101 :: (40 :: (41 :: (47 :: (115 :: 101 :: 108 :: 102 :: (58 :: 58 :: (110 :: 111 :: 100 :: 101 :: (40 :: (41 :: []))))))))))))))))))))))))) _ _ rfl (by kernel_rfl) rfl (by decide) (Toks.cons _ _ (58 :: 58 :: (110 :: 111 :: 100 :: 101 :: (40 :: (41 :: (47 :: (99 :: 104 :: 105 :: 108 :: 100 :: (58 :: 58 :: (a ++ (47 :: (97 :: 116 :: 116 :: 114 :: 105 :: 98 :: 117 :: 116 :: 101 :: (58 :: 58 :: (b ++ (47 :: (112 :: 97 :: 114 :: 101 :: 110 :: 116 :: (58 :: 58 :: (110 :: 111 :: 100 :: 101 :: (40 :: (41 :: (47 :: (115 :: 101 :: 108 :: 102 :: (58 :: 58 :: (110 :: 111 :: 100 :: 101 :: (40 :: (41 :: [])))))))))))))))))))))))) _ _ rfl (by kernel_rfl) rfl (by decide) (Toks.cons _ _ (110 :: 111 :: 100 :: 101 :: (40 :: (41 :: (47 :: (99 :: 104 :: 105 :: 108 :: 100 :: (58 :: 58 :: (a ++ (47 :: (97 :: 116 :: 116 :: 114 :: 105 :: 98 :: 117 :: 116 :: 101 :: (58 :: 58 :: (b ++ (47 :: (112 :: 97 :: 114 :: 101 :: 110 :: 116 :: (58 :: 58 :: (110 :: 111 :: 100 :: 101 :: (40 :: (41 :: (47 :: (115 :: 101 :: 108 :: 102 :: (58 :: 58 :: (110 :: 111 :: 100 :: 101 :: (40 :: (41 :: []))))))))))))))))))))))) _ _ rfl (by kernel_rfl) rfl (by decide) (Toks.cons _ _ (40 :: (41 :: (47 :: (99 :: 104 :: 105 :: 108 :: 100 :: (58 :: 58 :: (a ++ (47 :: (97 :: 116 :: 116 :: 114 :: 105 :: 98 :: 117 :: 116 :: 101 :: (58 :: 58 :: (b ++ (47 :: (112 :: 97 :: 114 :: 101 :: 110 :: 116 :: (58 :: 58 :: (110 :: 111 :: 100 :: 101 :: (40 :: (41 :: (47 :: (115 :: 101 :: 108 :: 102 :: (58 :: 58 :: (110 :: 111 :: 100 :: 101 :: (40 :: (41 :: [])))))))))))))))))))))) _ _ rfl (by kernel_rfl) rfl (by decide) (Toks.cons _ _ (41 :: (47 :: (99 :: 104 :: 105 :: 108 :: 100 :: (58 :: 58 :: (a ++ (47 :: (97 :: 116 :: 116 :: 114 :: 105 :: 98 :: 117 :: 116 :: 101 :: (58 :: 58 :: (b ++ (47 :: (112 :: 97 :: 114 :: 101 :: 110 :: 116 :: (58 :: 58 :: (110 :: 111 :: 100 :: 101 :: (40 :: (41 :: (47 :: (115 :: 101 :: 108 :: 102 :: (58 :: 58 :: (110 :: 111 :: 100 :: 101 :: (40 :: (41 :: []))))))))))))))))))))) _ _ rfl (by kernel_rfl) rfl (by decide) (Toks.cons _ _ (47 :: (99 :: 104 :: 105 :: 108 :: 100 :: (58 :: 58 :: (a ++ (47 :: (97 :: 116 :: 116 :: 114 :: 105 :: 98 :: 117 :: 116 :: 101 :: (58 :: 58 :: (b ++ (47 :: (112 :: 97 :: 114 :: 101 :: 110 :: 116 :: (58 :: 58 :: (110 :: 111 :: 100 :: 101 :: (40 :: (41 :: (47 :: (115 :: 101 :: 108 :: 102 :: (58 :: 58 :: (110 :: 111 :: 100 :: 101 :: (40 :: (41 :: [])))))))))))))))))))) _ _ rfl (by kernel_rfl) rfl (by decide) (Toks.cons _ _ (99 :: 104 :: 105 :: 108 :: 100 :: (58 :: 58 :: (a ++ (47 :: (97 :: 116 :: 116 :: 114 :: 105 :: 98 :: 117 :: 116 :: 101 :: (58 :: 58 :: (b ++ (47 :: (112 :: 97 :: 114 :: 101 :: 110 :: 116 :: (58 :: 58 :: (110 :: 111 :: 100 :: 101 :: (40 :: (41 :: (47 :: (115 :: 101 :: 108 :: 102 :: (58 :: 58 :: (110 :: 111 :: 100 :: 101 :: (40 :: (41 :: []))))))))))))))))))) _ _ rfl (by kernel_rfl) rfl (by decide) (Toks.cons _ _ (58 :: 58 :: (a ++ (47 :: (97 :: 116 :: 116 :: 114 :: 105 :: 98 :: 117 :: 116 :: 101 :: (58 :: 58 :: (b ++ (47 :: (112 :: 97 :: 114 :: 101 :: 110 :: 116 :: (58 :: 58 :: (110 :: 111 :: 100 :: 101 :: (40 :: (41 :: (47 :: (115 :: 101 :: 108 :: 102 :: (58 :: 58 :: (110 :: 111 :: 100 :: 101 :: (40 :: (41 :: [])))))))))))))))))) _ _ rfl (by kernel_rfl) rfl (by decide) (Toks.cons _ _ (a ++ (47 :: (97 :: 116 :: 116 :: 114 :: 105 :: 98 :: 117 :: 116 :: 101 :: (58 :: 58 :: (b ++ (47 :: (112 :: 97 :: 114 :: 101 :: 110 :: 116 :: (58 :: 58 :: (110 :: 111 :: 100 :: 101 :: (40 :: (41 :: (47 :: (115 :: 101 :: 108 :: 102 :: (58 :: 58 :: (110 :: 111 :: 100 :: 101 :: (40 :: (41 :: []))))))))))))))))) _ _ rfl (by kernel_rfl) rfl (by decide) (Toks.cons _ _ (47 :: (97 :: 116 :: 116 :: 114 :: 105 :: 98 :: 117 :: 116 :: 101 :: (58 :: 58 :: (b ++ (47 :: (112 :: 97 :: 114 :: 101 :: 110 :: 116 :: (58 :: 58 :: (110 :: 111 :: 100 :: 101 :: (40 :: (41 :: (47 :: (115 :: 101 :: 108 :: 102 :: (58 :: 58 :: (110 :: 111 :: 100 :: 101 :: (40 :: (41 :: [])))))))))))))))) _ _ ((nm_drop ha _).1) (nm_slash ha _) rfl (isNm_name ha).1 (Toks.cons _ _ (97 :: 116 :: 116 :: 114 :: 105 :: 98 :: 117 :: 116 :: 101 :: (58 :: 58 :: (b ++ (47 :: (112 :: 97 :: 114 :: 101 :: 110 :: 116 :: (58 :: 58 :: (110 :: 111 :: 100 :: 101 :: (40 :: (41 :: (47 :: (115 :: 101 :: 108 :: 102 :: (58 :: 58 :: (110 :: 111 :: 100 :: 101 :: (40 :: (41 :: []))))))))))))))) _ _ rfl (by kernel_rfl) rfl (by decide) (Toks.cons _ _ (58 :: 58 :: (b ++ (47 :: (112 :: 97 :: 114 :: 101 :: 110 :: 116 :: (58 :: 58 :: (110 :: 111 :: 100 :: 101 :: (40 :: (41 :: (47 :: (115 :: 101 :: 108 :: 102 :: (58 :: 58 :: (110 :: 111 :: 100 :: 101 :: (40 :: (41 :: [])))))))))))))) _ _ rfl (by kernel_rfl) rfl (by decide) (Toks.cons _ _ (b ++ (47 :: (112 :: 97 :: 114 :: 101 :: 110 :: 116 :: (58 :: 58 :: (110 :: 111 :: 100 :: 101 :: (40 :: (41 :: (47 :: (115 :: 101 :: 108 :: 102 :: (58 :: 58 :: (110 :: 111 :: 100 :: 101 :: (40 :: (41 :: []))))))))))))) _ _ rfl (by kernel_rfl) rfl (by decide) (Toks.cons _ _ (47 :: (112 :: 97 :: 114 :: 101 :: 110 :: 116 :: (58 :: 58 :: (110 :: 111 :: 100 :: 101 :: (40 :: (41 :: (47 :: (115 :: 101 :: 108 :: 102 :: (58 :: 58 :: (110 :: 111 :: 100 :: 101 :: (40 :: (41 :: [])))))))))))) _ _ ((nm_drop hb _).1) (nm_slash hb _) rfl (isNm_name hb).1 (Toks.cons _ _ (112 :: 97 :: 114 :: 101 :: 110 :: 116 :: (58 :: 58 :: (110 :: 111 :: 100 :: 101 :: (40 :: (41 :: (47 :: (115 :: 101 :: 108 :: 102 :: (58 :: 58 :: (110 :: 111 :: 100 :: 101 :: (40 :: (41 :: []))))))))))) _ _ rfl (by kernel_rfl) rfl (by decide) (Toks.cons _ _ (58 :: 58 :: (110 :: 111 :: 100 :: 101 :: (40 :: (41 :: (47 :: (115 :: 101 :: 108 :: 102 :: (58 :: 58 :: (110 :: 111 :: 100 :: 101 :: (40 :: (41 :: [])))))))))) _ _ rfl (by kernel_rfl) rfl (by decide) (Toks.cons _ _ (110 :: 111 :: 100 :: 101 :: (40 :: (41 :: (47 :: (115 :: 101 :: 108 :: 102 :: (58 :: 58 :: (110 :: 111 :: 100 :: 101 :: (40 :: (41 :: []))))))))) _ _ rfl (by kernel_rfl) rfl (by decide) (Toks.cons _ _ (40 :: (41 :: (47 :: (115 :: 101 :: 108 :: 102 :: (58 :: 58 :: (110 :: 111 :: 100 :: 101 :: (40 :: (41 :: [])))))))) _ _ rfl (by kernel_rfl) rfl (by decide) (Toks.cons _ _ (41 :: (47 :: (115 :: 101 :: 108 :: 102 :: (58 :: 58 :: (110 :: 111 :: 100 :: 101 :: (40 :: (41 :: []))))))) _ _ rfl (by kernel_rfl) rfl (by decide) (Toks.cons _ _ (47 :: (115 :: 101 :: 108 :: 102 :: (58 :: 58 :: (110 :: 111 :: 100 :: 101 :: (40 :: (41 :: [])))))) _ _ rfl (by kernel_rfl) rfl (by decide) (Toks.cons _ _ (115 :: 101 :: 108 :: 102 :: (58 :: 58 :: (110 :: 111 :: 100 :: 101 :: (40 :: (41 :: []))))) _ _ rfl (by kernel_rfl) rfl (by decide) (Toks.cons _ _ (58 :: 58 :: (110 :: 111 :: 100 :: 101 :: (40 :: (41 :: [])))) _ _ rfl (by kernel_rfl) rfl (by decide) (Toks.cons _ _ (110 :: 111 :: 100 :: 101 :: (40 :: (41 :: []))) _ _ rfl (by kernel_rfl) rfl (by decide) (Toks.cons _ _ (40 :: (41 :: [])) _ _ rfl (by kernel_rfl) rfl (by decide) (Toks.cons _ _ (41 :: []) _ _ rfl (by kernel_rfl) rfl (by decide) (Toks.cons _ _ [] _ _ rfl (by kernel_rfl) rfl (by decide) (Toks.nil _))))))))))))))))))))))))))
theorem nm_plain {a : List Nat} (h : isNm a = true) : (a == [42]) = false ∧ allSuf a = false := by
  constructor
  · cases hx : (a == [42])
    · rfl
    · rw [beq_iff_eq] at hx
      obtain ⟨c, t, e, hb⟩ := nm_head h
      have := begC_ge hb
      rw [hx] at e
      cases e
      omega
  · cases hx : allSuf a
    · rfl
    · unfold allSuf at hx
      have h1 := List.isSuffixOf_iff_suffix.1 hx
      exact absurd (h1.subset (by simp)) (nm_colon h)
section
variable (num : List Nat → Option Int) (n o d : Nat) (r : List (Nat × List Nat))
theorem st_name {a : List Nat} (ha : isNm a = true) (hr : headIs 9 [91] ⟨r, o, d⟩ = false) : stepP num (n + 2) ⟨(3, a) :: r, o, d⟩ = .ok (.mk 23 a 0 0 2 []) ⟨r, o, d⟩ := by
  obtain ⟨h1, h2⟩ := nm_plain ha
  have ht : testP ⟨(3, a) :: r, o, d⟩ = some (2, a, ⟨r, o, d⟩) := by
    show (if (a == [42]) = true then some (0, [], _) else if allSuf a = true then _ else some (2, a, _)) = _
    rw [h1, h2]
    rfl
  show (match testP ⟨(3, a) :: r, o, d⟩ with | none => PR.fail | some (t, tt, s2) => (predsP num (n + 1) [] s2).bind fun ks s => .ok (Ex.mk 23 tt 0 0 t ks) s) = _
  rw [ht]
  show (predsP num (n + 1) [] ⟨r, o, d⟩).bind _ = _
  rw [predsP, if_neg (by rw [hr]; decide)]
  rfl
theorem st_at {a : List Nat} (ha : isNm a = true) (hr : headIs 9 [91] ⟨r, o, d⟩ = false) : stepP num (n + 2) ⟨(9, [64]) :: (3, a) :: r, o, d⟩ = .ok (.mk 23 a 0 8 2 []) ⟨r, o, d⟩ := by
  obtain ⟨h1, h2⟩ := nm_plain ha
  have ht : testP ⟨(3, a) :: r, o, d⟩ = some (2, a, ⟨r, o, d⟩) := by
    show (if (a == [42]) = true then some (0, [], _) else if allSuf a = true then _ else some (2, a, _)) = _
    rw [h1, h2]
    rfl
  show (match testP ⟨(3, a) :: r, o, d⟩ with | none => PR.fail | some (t, tt, s2) => (predsP num (n + 1) [] s2).bind fun ks s => .ok (Ex.mk 23 tt 0 8 t ks) s) = _
  rw [ht]
  show (predsP num (n + 1) [] ⟨r, o, d⟩).bind _ = _
  rw [predsP, if_neg (by rw [hr]; decide)]
  rfl
theorem st_axis {a ax : List Nat} {k : Nat} (ha : isNm a = true) (hr : headIs 9 [91] ⟨r, o, d⟩ = false) (hk : axisNo ax = some k) : stepP num (n + 2) ⟨(6, ax) :: (9, [58, 58]) :: (3, a) :: r, o, d⟩ = .ok (.mk 23 a 0 k 2 []) ⟨r, o, d⟩ := by
  obtain ⟨h1, h2⟩ := nm_plain ha
  have ht : testP ⟨(3, a) :: r, o, d⟩ = some (2, a, ⟨r, o, d⟩) := by
    show (if (a == [42]) = true then some (0, [], _) else if allSuf a = true then _ else some (2, a, _)) = _
    rw [h1, h2]
    rfl
  have hx : axisP ⟨(6, ax) :: (9, [58, 58]) :: (3, a) :: r, o, d⟩ = some (k, ⟨(3, a) :: r, o, d⟩) := by
    show (axisNo ax).map (fun a' => (a', (⟨(3, a) :: r, o, d⟩ : PS))) = _
    rw [hk]
    rfl
  show (match axisP ⟨(6, ax) :: (9, [58, 58]) :: (3, a) :: r, o, d⟩ with | none => PR.fail | some (a, s1) => match testP s1 with | none => .fail | some (t, tt, s2) => (predsP num (n + 1) [] s2).bind fun ks s => .ok (Ex.mk 23 tt 0 a t ks) s) = _
  rw [hx]
  show (match testP ⟨(3, a) :: r, o, d⟩ with | none => PR.fail | some (t, tt, s2) => (predsP num (n + 1) [] s2).bind fun ks s => .ok (Ex.mk 23 tt 0 k t ks) s) = _
  rw [ht]
  show (predsP num (n + 1) [] ⟨r, o, d⟩).bind _ = _
  rw [predsP, if_neg (by rw [hr]; decide)]
  rfl
theorem st_node {ax : List Nat} {k : Nat} (hr : headIs 9 [91] ⟨r, o, d⟩ = false) (hk : axisNo ax = some k) : stepP num (n + 2) ⟨(6, ax) :: (9, [58, 58]) :: (5, [110, 111, 100, 101]) :: (9, [40]) :: (9, [41]) :: r, o, d⟩ = .ok (.mk 23 [] 0 k 3 []) ⟨r, o, d⟩ := by
  have hx : axisP ⟨(6, ax) :: (9, [58, 58]) :: (5, [110, 111, 100, 101]) :: (9, [40]) :: (9, [41]) :: r, o, d⟩ = some (k, ⟨(5, [110, 111, 100, 101]) :: (9, [40]) :: (9, [41]) :: r, o, d⟩) := by
    show (axisNo ax).map (fun a' => (a', (⟨(5, [110, 111, 100, 101]) :: (9, [40]) :: (9, [41]) :: r, o, d⟩ : PS))) = _
    rw [hk]
    rfl
  show (match axisP ⟨(6, ax) :: (9, [58, 58]) :: (5, [110, 111, 100, 101]) :: (9, [40]) :: (9, [41]) :: r, o, d⟩ with | none => PR.fail | some (a, s1) => match testP s1 with | none => .fail | some (t, tt, s2) => (predsP num (n + 1) [] s2).bind fun ks s => .ok (Ex.mk 23 tt 0 a t ks) s) = _
  rw [hx]
  show (predsP num (n + 1) [] ⟨r, o, d⟩).bind _ = _
  rw [predsP, if_neg (by rw [hr]; decide)]
  rfl
theorem mr_slash (ks : List Ex) : moreP num (n + 1) ks ⟨(8, [47]) :: r, o, d⟩ = (stepP num n ⟨r, o, d⟩).bind fun e s => moreP num n (ks ++ [e]) s := by rw [moreP]; rfl
theorem mr_end (ks : List Ex) : moreP num (n + 1) ks ⟨[], o, d⟩ = .ok ks ⟨[], o, d⟩ := by rw [moreP]; rfl
theorem st_dot : stepP num (n + 1) ⟨(9, [46]) :: r, o, d⟩ = .ok (.mk 23 [] 0 9 3 []) ⟨r, o, d⟩ := by rw [stepP]; rfl
theorem st_dots : stepP num (n + 1) ⟨(9, [46, 46]) :: r, o, d⟩ = .ok (.mk 23 [] 0 2 3 []) ⟨r, o, d⟩ := by rw [stepP]; rfl
theorem op_end (g : Nat) (e : Ex) : opsP num (n + 1) g e ⟨[], o, d⟩ = .ok e ⟨[], o, d⟩ := by
  have h : operOf g ⟨[], o, d⟩ = none := by
    unfold operOf
    rw [List.find?_eq_none.2 (fun x _ => by simp [headIs])]
    rfl
  rw [opsP, h]
theorem ex_path {s : PS} {x : Ex} (hp : pathP num (n + 1) s = .ok x ⟨[], o, d⟩) (hs : headIs 8 [45] s = false) : exprP num (n + 11) 0 s = .ok x ⟨[], o, d⟩ := by
  have h8 : exprP num (n + 2) 8 s = .ok x ⟨[], o, d⟩ := by rw [exprP, if_neg (by decide), if_pos rfl, hp]
  have h7 : exprP num (n + 3) 7 s = .ok x ⟨[], o, d⟩ := by rw [exprP, if_neg (by decide), if_neg (by decide), h8, PR.bind_ok, op_end]
  have hn : negP num (n + 4) s = .ok x ⟨[], o, d⟩ := by rw [negP, if_neg (by rw [hs]; decide), h7]
  have h6 : exprP num (n + 5) 6 s = .ok x ⟨[], o, d⟩ := by rw [exprP, if_pos rfl, hn]
  have h5 : exprP num (n + 6) 5 s = .ok x ⟨[], o, d⟩ := by rw [exprP, if_neg (by decide), if_neg (by decide), h6, PR.bind_ok, op_end]
  have h4 : exprP num (n + 7) 4 s = .ok x ⟨[], o, d⟩ := by rw [exprP, if_neg (by decide), if_neg (by decide), h5, PR.bind_ok, op_end]
  have h3 : exprP num (n + 8) 3 s = .ok x ⟨[], o, d⟩ := by rw [exprP, if_neg (by decide), if_neg (by decide), h4, PR.bind_ok, op_end]
  have h2 : exprP num (n + 9) 2 s = .ok x ⟨[], o, d⟩ := by rw [exprP, if_neg (by decide), if_neg (by decide), h3, PR.bind_ok, op_end]
  have h1 : exprP num (n + 10) 1 s = .ok x ⟨[], o, d⟩ := by rw [exprP, if_neg (by decide), if_neg (by decide), h2, PR.bind_ok, op_end]
  rw [exprP, if_neg (by decide), if_neg (by decide), h1, PR.bind_ok, op_end]
end
def shX (a b : List Nat) : Ex := pathX [topX, belowX, .mk 23 a 0 0 2 [], .mk 23 b 0 8 2 [], .mk 23 [] 0 2 3 [], .mk 23 [] 0 9 3 []]
theorem short_path {a b : List Nat} (ha : isNm a = true) (hb : isNm b = true) : pathP numP 20 ⟨[(8, [47, 47]), (3, a), (8, [47]), (9, [64]), (3, b), (8, [47]), (9, [46, 46]), (8, [47]), (9, [46])], 0, 0⟩ = .ok (shX a b) ⟨[], 0, 0⟩ := by
  rw [pathP]
  show (stepP numP 19 ⟨(3, a) :: _, 0, 0⟩).bind _ = _
  rw [st_name _ _ _ _ _ ha rfl, PR.bind_ok]
  show (moreP numP 19 [topX, belowX, .mk 23 a 0 0 2 []] ⟨(8, [47]) :: _, 0, 0⟩).bind _ = _
  rw [mr_slash, st_at _ _ _ _ _ hb rfl, PR.bind_ok, mr_slash, st_dots, PR.bind_ok, mr_slash, st_dot, PR.bind_ok, mr_end, PR.bind_ok]
  rfl
theorem long_path {a b : List Nat} (ha : isNm a = true) (hb : isNm b = true) : pathP numP 20 ⟨[(8, [47]), (6, [100, 101, 115, 99, 101, 110, 100, 97, 110, 116, 45, 111, 114, 45, 115, 101, 108, 102]), (9, [58, 58]), (5, [110, 111, 100, 101]), (9, [40]), (9, [41]), (8, [47]), (6, [99, 104, 105, 108, 100]), (9, [58, 58]), (3, a), (8, [47]), (6, [97, 116, 116, 114, 105, 98, 117, 116, 101]), (9, [58, 58]), (3, b), (8, [47]), (6, [112, 97, 114, 101, 110, 116]), (9, [58, 58]), (5, [110, 111, 100, 101]), (9, [40]), (9, [41]), (8, [47]), (6, [115, 101, 108, 102]), (9, [58, 58]), (5, [110, 111, 100, 101]), (9, [40]), (9, [41])], 0, 0⟩ = .ok (shX a b) ⟨[], 0, 0⟩ := by
  rw [pathP, if_pos (by rfl), if_pos (by rfl)]
  show (stepP numP 19 ⟨(6, _) :: _, 0, 0⟩).bind _ = _
  rw [st_node _ _ _ _ _ rfl (show axisNo [100, 101, 115, 99, 101, 110, 100, 97, 110, 116, 45, 111, 114, 45, 115, 101, 108, 102] = some 10 from by decide), PR.bind_ok]
  show (moreP numP 19 [topX, .mk 23 [] 0 10 3 []] ⟨(8, [47]) :: _, 0, 0⟩).bind _ = _
  rw [mr_slash, st_axis _ _ _ _ _ ha rfl (show axisNo [99, 104, 105, 108, 100] = some 0 from by decide), PR.bind_ok, mr_slash, st_axis _ _ _ _ _ hb rfl (show axisNo [97, 116, 116, 114, 105, 98, 117, 116, 101] = some 8 from by decide), PR.bind_ok, mr_slash, st_node _ _ _ _ _ rfl (show axisNo [112, 97, 114, 101, 110, 116] = some 2 from by decide), PR.bind_ok, mr_slash, st_node _ _ _ _ _ rfl (show axisNo [115, 101, 108, 102] = some 9 from by decide), PR.bind_ok, mr_end, PR.bind_ok]
  rfl
end Go.Proofs.YthkkfldmoflfaaaGreatDoor
