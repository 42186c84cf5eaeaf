/- A CDATA section, in plain terms: what is scanned of it. -/
import Derived.Test.YtkklapoceknbcaaGreatDoorXmlDoc
namespace Go.Proofs.YtkklapoceknbcaaGreatDoor
/-- Signs that stand nowhere in a text. -/
def noSign (a l : List Nat) : Prop := ∀ x y, l ≠ x ++ a ++ y
theorem noSign.tail {a l : List Nat} {c : Nat} (h : noSign a (c :: l)) : noSign a l := fun x y e => h (c :: x) y (by rw [e]; rfl)
theorem cut_section : ∀ (l r : List Nat), noSign [93, 93, 62] l → cutL [93, 93, 62] (l ++ 93 :: 93 :: 62 :: r) = some (l, r)
  | [], r, _ => by
    show cutL [93, 93, 62] (93 :: 93 :: 62 :: r) = _
    rfl
  | c :: l, r, h => by
    have ih := cut_section l r h.tail
    show cutL [93, 93, 62] (c :: (l ++ 93 :: 93 :: 62 :: r)) = _
    rw [cutL, ih]
    have hn : [93, 93, 62].isPrefixOf (c :: (l ++ 93 :: 93 :: 62 :: r)) = false := by
      cases hh : [93, 93, 62].isPrefixOf (c :: (l ++ 93 :: 93 :: 62 :: r))
      · rfl
      · exfalso
        match l, h, hh with
        | [], _, hh =>
          simp [List.isPrefixOf] at hh
        | [d], _, hh =>
          simp [List.isPrefixOf] at hh
        | d :: e :: l, h, hh =>
          simp [List.isPrefixOf] at hh
          obtain ⟨rfl, rfl, rfl⟩ := hh
          exact h [] l rfl
    rw [hn, if_neg (by decide)]
    rfl
theorem cd_start (R : List Nat) : (RS.start (60 :: 97 :: 62 :: 60 :: 33 :: 91 :: 67 :: 68 :: 65 :: 84 :: 65 :: 91 :: R)).startTag =
    .ok ⟨[60, 97, 62], 60 :: 33 :: 91 :: 67 :: 68 :: 65 :: 84 :: 65 :: 91 :: R, [], 0, [[97]], [⟨2, [97], [], []⟩], [], 3⟩ := by rfl
theorem cd_section (P l r : List Nat) (h : noSign [93, 93, 62] l) (n : Nat) :
    ∃ P', (⟨P, 60 :: 33 :: 91 :: 67 :: 68 :: 65 :: 84 :: 65 :: 91 :: (l ++ 93 :: 93 :: 62 :: r), [], 0, [[97]], [⟨2, [97], [], []⟩], [], n⟩ : RS).contentOne = .ok ⟨P', r, [], 0, [[97]], [⟨2, [97], [], []⟩], l, n⟩ := by
  have e : (⟨P, 60 :: 33 :: 91 :: 67 :: 68 :: 65 :: 84 :: 65 :: 91 :: (l ++ 93 :: 93 :: 62 :: r), [], 0, [[97]], [⟨2, [97], [], []⟩], [], n⟩ : RS).contentOne = (⟨P, 60 :: 33 :: 91 :: 67 :: 68 :: 65 :: 84 :: 65 :: 91 :: (l ++ 93 :: 93 :: 62 :: r), [], 0, [[97]], [⟨2, [97], [], []⟩], [], n⟩ : RS).section' := by rfl
  have e2 : (⟨P, 60 :: 33 :: 91 :: 67 :: 68 :: 65 :: 84 :: 65 :: 91 :: (l ++ 93 :: 93 :: 62 :: r), [], 0, [[97]], [⟨2, [97], [], []⟩], [], n⟩ : RS).take [60, 33, 91, 67, 68, 65, 84, 65, 91] = ⟨P ++ [60, 33, 91, 67, 68, 65, 84, 65, 91], l ++ 93 :: 93 :: 62 :: r, [], 0, [[97]], [⟨2, [97], [], []⟩], [], n⟩ := by rfl
  have e3 : (l ++ 93 :: 93 :: 62 :: r).drop (l.length + 3) = r := by
    rw [← List.drop_drop, List.drop_left]
    rfl
  rw [e]
  unfold RS.section'
  rw [e2]
  unfold RS.takeTo
  rw [cut_section l r h]
  simp only [Option.map_some]
  unfold RS.adv
  simp only [List.length_cons, List.length_nil, Nat.zero_add, Nat.reduceAdd, e3]
  unfold RS.room
  simp only [List.nil_append]
  exact ⟨_, by rw [if_neg (by simp)]⟩
theorem cd_end (P l : List Nat) (n : Nat) :
    ∃ P' n', (⟨P, [60, 47, 97, 62], [], 0, [[97]], [⟨2, [97], [], []⟩], l, n⟩ : RS).contentOne = .ok ⟨P', [], [], 0, [], ⟨2, [97], [], []⟩ :: (if l = [] then [] else [⟨4, [], [], l⟩]) ++ [⟨7, [97], [], []⟩], [], n'⟩ := by
  cases l with
  | nil => exact ⟨_, _, rfl⟩
  | cons c l => exact ⟨_, _, rfl⟩
theorem cd_scan (l : List Nat) (h : noSign [93, 93, 62] l) : scanX (60 :: 97 :: 62 :: 60 :: 33 :: 91 :: 67 :: 68 :: 65 :: 84 :: 65 :: 91 :: (l ++ [93, 93, 62, 60, 47, 97, 62])) = .ok (⟨2, [97], [], []⟩ :: (if l = [] then [] else [⟨4, [], [], l⟩]) ++ [⟨7, [97], [], []⟩]) := by
  obtain ⟨P1, h1⟩ := cd_section [60, 97, 62] l [60, 47, 97, 62] h 3
  obtain ⟨P2, n2, h2⟩ := cd_end P1 l 3
  have hs := cd_start (l ++ [93, 93, 62, 60, 47, 97, 62])
  have hc : ∀ f, RS.content (f + 3) (⟨[60, 97, 62], 60 :: 33 :: 91 :: 67 :: 68 :: 65 :: 84 :: 65 :: 91 :: (l ++ [93, 93, 62, 60, 47, 97, 62]), [], 0, [[97]], [⟨2, [97], [], []⟩], [], 3⟩ : RS) = .ok ⟨P2, [], [], 0, [], ⟨2, [97], [], []⟩ :: (if l = [] then [] else [⟨4, [], [], l⟩]) ++ [⟨7, [97], [], []⟩], [], n2⟩ := by
    intro f
    rw [RS.content, if_neg (by simp), h1]
    simp only
    rw [RS.content, if_neg (by simp), h2]
    simp only
    rw [RS.content, if_pos rfl]
  have hx : [60, 63].isPrefixOf (RS.start (60 :: 97 :: 62 :: 60 :: 33 :: 91 :: 67 :: 68 :: 65 :: 84 :: 65 :: 91 :: (l ++ [93, 93, 62, 60, 47, 97, 62]))).rest = false := rfl
  unfold scanX RS.document
  rw [hx, Bool.false_and, if_neg (by decide), docGo_eq]
  have hb : (RS.start (60 :: 97 :: 62 :: 60 :: 33 :: 91 :: 67 :: 68 :: 65 :: 84 :: 65 :: 91 :: (l ++ [93, 93, 62, 60, 47, 97, 62]))).blanks = RS.start (60 :: 97 :: 62 :: 60 :: 33 :: 91 :: 67 :: 68 :: 65 :: 84 :: 65 :: 91 :: (l ++ [93, 93, 62, 60, 47, 97, 62])) := rfl
  rw [hb]
  have s1 : (RS.start (60 :: 97 :: 62 :: 60 :: 33 :: 91 :: 67 :: 68 :: 65 :: 84 :: 65 :: 91 :: (l ++ [93, 93, 62, 60, 47, 97, 62]))).sees [60, 33, 45, 45] = false := rfl
  have s2 : (RS.start (60 :: 97 :: 62 :: 60 :: 33 :: 91 :: 67 :: 68 :: 65 :: 84 :: 65 :: 91 :: (l ++ [93, 93, 62, 60, 47, 97, 62]))).sees [60, 63] = false := rfl
  have s3 : (RS.start (60 :: 97 :: 62 :: 60 :: 33 :: 91 :: 67 :: 68 :: 65 :: 84 :: 65 :: 91 :: (l ++ [93, 93, 62, 60, 47, 97, 62]))).sees [60, 33, 68, 79, 67, 84, 89, 80, 69] = false := rfl
  have s4 : (RS.start (60 :: 97 :: 62 :: 60 :: 33 :: 91 :: 67 :: 68 :: 65 :: 84 :: 65 :: 91 :: (l ++ [93, 93, 62, 60, 47, 97, 62]))).sees [60] = true := rfl
  rw [s1, s2, s3, s4, if_neg (by decide), if_neg (by decide), if_neg (by decide), if_pos (by decide)]
  unfold docElem
  rw [hs]
  simp only
  rw [show (60 :: 33 :: 91 :: 67 :: 68 :: 65 :: 84 :: 65 :: 91 :: (l ++ [93, 93, 62, 60, 47, 97, 62])).length + 1 = (l ++ [93, 93, 62, 60, 47, 97, 62]).length + 7 + 3 from rfl, hc]
  simp only [docMore]
  rw [show (RS.start (60 :: 97 :: 62 :: 60 :: 33 :: 91 :: 67 :: 68 :: 65 :: 84 :: 65 :: 91 :: (l ++ [93, 93, 62, 60, 47, 97, 62]))).rest.length = (97 :: 62 :: 60 :: 33 :: 91 :: 67 :: 68 :: 65 :: 84 :: 65 :: 91 :: (l ++ [93, 93, 62, 60, 47, 97, 62])).length + 1 from rfl, docGo_eq]
  rfl
end Go.Proofs.YtkklapoceknbcaaGreatDoor
