/- Several texts, laid as one. -/
import Derived.Test.YtjjggncbhenffaaGreatDoorXmlDoc
import Derived.Test.YtjjggncbhenffaaGreatDoorGbi
import Derived.Test.YtjjggncbhenffaaGreatDoorGah
import Derived.Test.YtjjggncbhenffaaGreatDoorGbj
import Derived.Test.YtjjggncbhenffaaGreatDoorXmlWrQ
/- A CDATA section, in plain terms: what is scanned of it. -/
namespace Go.Proofs.YtjjggncbhenffaaGreatDoor
/-- Signs that stand nowhere in a text. -/
def noSign (a l : List Nat) : Prop := ∀ x y, l ≠ x ++ a ++ y
theorem noSign.tail {a l : List Nat} {c : Nat} (h : noSign a (c :: l)) : noSign a l := fun x y e => h (c :: x) y (by rw [e]; rfl)
theorem cut_section : ∀ (l r : List Nat), noSign [93, 93, 62] l → cutL [93, 93, 62] (l ++ 93 :: 93 :: 62 :: r) = some (l, r)
  | [], r, _ => by
    show cutL [93, 93, 62] (93 :: 93 :: 62 :: r) = _
    rfl
  | c :: l, r, h => by
    have ih := cut_section l r h.tail
    show cutL [93, 93, 62] (c :: (l ++ 93 :: 93 :: 62 :: r)) = _
    rw [cutL, ih]
    have hn : [93, 93, 62].isPrefixOf (c :: (l ++ 93 :: 93 :: 62 :: r)) = false := by
      cases hh : [93, 93, 62].isPrefixOf (c :: (l ++ 93 :: 93 :: 62 :: r))
      · rfl
      · exfalso
        match l, h, hh with
        | [], _, hh =>
          simp [List.isPrefixOf] at hh
        | [d], _, hh =>
          simp [List.isPrefixOf] at hh
        | d :: e :: l, h, hh =>
          simp [List.isPrefixOf] at hh
          obtain ⟨rfl, rfl, rfl⟩ := hh
          exact h [] l rfl
    rw [hn, if_neg (by decide)]
    rfl
theorem cd_start (R : List Nat) : (RS.start (60 :: 97 :: 62 :: 60 :: 33 :: 91 :: 67 :: 68 :: 65 :: 84 :: 65 :: 91 :: R)).startTag =
    .ok ⟨[60, 97, 62], 60 :: 33 :: 91 :: 67 :: 68 :: 65 :: 84 :: 65 :: 91 :: R, [], 0, [[97]], [⟨2, [97], [], []⟩], [], 3⟩ := by rfl
theorem cd_section (P l r : List Nat) (h : noSign [93, 93, 62] l) (n : Nat) :
    ∃ P', (⟨P, 60 :: 33 :: 91 :: 67 :: 68 :: 65 :: 84 :: 65 :: 91 :: (l ++ 93 :: 93 :: 62 :: r), [], 0, [[97]], [⟨2, [97], [], []⟩], [], n⟩ : RS).contentOne = .ok ⟨P', r, [], 0, [[97]], [⟨2, [97], [], []⟩], l, n⟩ := by
  have e : (⟨P, 60 :: 33 :: 91 :: 67 :: 68 :: 65 :: 84 :: 65 :: 91 :: (l ++ 93 :: 93 :: 62 :: r), [], 0, [[97]], [⟨2, [97], [], []⟩], [], n⟩ : RS).contentOne = (⟨P, 60 :: 33 :: 91 :: 67 :: 68 :: 65 :: 84 :: 65 :: 91 :: (l ++ 93 :: 93 :: 62 :: r), [], 0, [[97]], [⟨2, [97], [], []⟩], [], n⟩ : RS).section' := by rfl
  have e2 : (⟨P, 60 :: 33 :: 91 :: 67 :: 68 :: 65 :: 84 :: 65 :: 91 :: (l ++ 93 :: 93 :: 62 :: r), [], 0, [[97]], [⟨2, [97], [], []⟩], [], n⟩ : RS).take [60, 33, 91, 67, 68, 65, 84, 65, 91] = ⟨P ++ [60, 33, 91, 67, 68, 65, 84, 65, 91], l ++ 93 :: 93 :: 62 :: r, [], 0, [[97]], [⟨2, [97], [], []⟩], [], n⟩ := by rfl
  have e3 : (l ++ 93 :: 93 :: 62 :: r).drop (l.length + 3) = r := by
    rw [← List.drop_drop, List.drop_left]
    rfl
  rw [e]
  unfold RS.section'
  rw [e2]
  unfold RS.takeTo
  rw [cut_section l r h]
  simp only [Option.map_some]
  unfold RS.adv
  simp only [List.length_cons, List.length_nil, Nat.zero_add, Nat.reduceAdd, e3]
  unfold RS.room
  simp only [List.nil_append]
  exact ⟨_, by rw [if_neg (by simp)]⟩
theorem cd_end (P l : List Nat) (n : Nat) :
    ∃ P' n', (⟨P, [60, 47, 97, 62], [], 0, [[97]], [⟨2, [97], [], []⟩], l, n⟩ : RS).contentOne = .ok ⟨P', [], [], 0, [], ⟨2, [97], [], []⟩ :: (if l = [] then [] else [⟨4, [], [], l⟩]) ++ [⟨7, [97], [], []⟩], [], n'⟩ := by
  cases l with
  | nil => exact ⟨_, _, rfl⟩
  | cons c l => exact ⟨_, _, rfl⟩
theorem cd_scan (l : List Nat) (h : noSign [93, 93, 62] l) : scanX (60 :: 97 :: 62 :: 60 :: 33 :: 91 :: 67 :: 68 :: 65 :: 84 :: 65 :: 91 :: (l ++ [93, 93, 62, 60, 47, 97, 62])) = .ok (⟨2, [97], [], []⟩ :: (if l = [] then [] else [⟨4, [], [], l⟩]) ++ [⟨7, [97], [], []⟩]) := by
  obtain ⟨P1, h1⟩ := cd_section [60, 97, 62] l [60, 47, 97, 62] h 3
  obtain ⟨P2, n2, h2⟩ := cd_end P1 l 3
  have hs := cd_start (l ++ [93, 93, 62, 60, 47, 97, 62])
  have hc : ∀ f, RS.content (f + 3) (⟨[60, 97, 62], 60 :: 33 :: 91 :: 67 :: 68 :: 65 :: 84 :: 65 :: 91 :: (l ++ [93, 93, 62, 60, 47, 97, 62]), [], 0, [[97]], [⟨2, [97], [], []⟩], [], 3⟩ : RS) = .ok ⟨P2, [], [], 0, [], ⟨2, [97], [], []⟩ :: (if l = [] then [] else [⟨4, [], [], l⟩]) ++ [⟨7, [97], [], []⟩], [], n2⟩ := by
    intro f
    rw [RS.content, if_neg (by simp), h1]
    simp only
    rw [RS.content, if_neg (by simp), h2]
    simp only
    rw [RS.content, if_pos rfl]
  have hx : [60, 63].isPrefixOf (RS.start (60 :: 97 :: 62 :: 60 :: 33 :: 91 :: 67 :: 68 :: 65 :: 84 :: 65 :: 91 :: (l ++ [93, 93, 62, 60, 47, 97, 62]))).rest = false := rfl
  unfold scanX RS.document
  rw [hx, Bool.false_and, if_neg (by decide), docGo_eq]
  have hb : (RS.start (60 :: 97 :: 62 :: 60 :: 33 :: 91 :: 67 :: 68 :: 65 :: 84 :: 65 :: 91 :: (l ++ [93, 93, 62, 60, 47, 97, 62]))).blanks = RS.start (60 :: 97 :: 62 :: 60 :: 33 :: 91 :: 67 :: 68 :: 65 :: 84 :: 65 :: 91 :: (l ++ [93, 93, 62, 60, 47, 97, 62])) := rfl
  rw [hb]
  have s1 : (RS.start (60 :: 97 :: 62 :: 60 :: 33 :: 91 :: 67 :: 68 :: 65 :: 84 :: 65 :: 91 :: (l ++ [93, 93, 62, 60, 47, 97, 62]))).sees [60, 33, 45, 45] = false := rfl
  have s2 : (RS.start (60 :: 97 :: 62 :: 60 :: 33 :: 91 :: 67 :: 68 :: 65 :: 84 :: 65 :: 91 :: (l ++ [93, 93, 62, 60, 47, 97, 62]))).sees [60, 63] = false := rfl
  have s3 : (RS.start (60 :: 97 :: 62 :: 60 :: 33 :: 91 :: 67 :: 68 :: 65 :: 84 :: 65 :: 91 :: (l ++ [93, 93, 62, 60, 47, 97, 62]))).sees [60, 33, 68, 79, 67, 84, 89, 80, 69] = false := rfl
  have s4 : (RS.start (60 :: 97 :: 62 :: 60 :: 33 :: 91 :: 67 :: 68 :: 65 :: 84 :: 65 :: 91 :: (l ++ [93, 93, 62, 60, 47, 97, 62]))).sees [60] = true := rfl
  rw [s1, s2, s3, s4, if_neg (by decide), if_neg (by decide), if_neg (by decide), if_pos (by decide)]
  unfold docElem
  rw [hs]
  simp only
  rw [show (60 :: 33 :: 91 :: 67 :: 68 :: 65 :: 84 :: 65 :: 91 :: (l ++ [93, 93, 62, 60, 47, 97, 62])).length + 1 = (l ++ [93, 93, 62, 60, 47, 97, 62]).length + 7 + 3 from rfl, hc]
  simp only [docMore]
  rw [show (RS.start (60 :: 97 :: 62 :: 60 :: 33 :: 91 :: 67 :: 68 :: 65 :: 84 :: 65 :: 91 :: (l ++ [93, 93, 62, 60, 47, 97, 62]))).rest.length = (97 :: 62 :: 60 :: 33 :: 91 :: 67 :: 68 :: 65 :: 84 :: 65 :: 91 :: (l ++ [93, 93, 62, 60, 47, 97, 62])).length + 1 from rfl, docGo_eq]
  rfl
end Go.Proofs.YtjjggncbhenffaaGreatDoor
/- An element with an attribute and a text, both escaped: what is scanned of it, in plain terms. -/
namespace Go.Proofs.YtjjggncbhenffaaGreatDoor
def docL (l : List Nat) : List Nat := 60 :: 97 :: 32 :: 98 :: 61 :: 34 :: (mapN quoN l ++ 34 :: 62 :: (mapN escN l ++ [60, 47, 97, 62]))
theorem tag_value (X Y P v : List Nat) (hv : RS.valueGo 34 0 (X.length + 1) ⟨[60, 97, 32, 98, 61, 34], X, [], 0, [], [], [], 0⟩ [] = .ok (v, ⟨P, 62 :: Y, [], 0, [], [], [], 0⟩)) :
    ∃ n, (RS.start (60 :: 97 :: 32 :: 98 :: 61 :: 34 :: X)).startTag = .ok ⟨P ++ [62], Y, [], 0, [[97]], [⟨2, [97], [([98], v)], []⟩], [], n⟩ := by
  have e1 : (RS.start (60 :: 97 :: 32 :: 98 :: 61 :: 34 :: X)).take [60] = ⟨[60], 97 :: 32 :: 98 :: 61 :: 34 :: X, [], 0, [], [], [], 0⟩ := rfl
  have e2 : (⟨[60], 97 :: 32 :: 98 :: 61 :: 34 :: X, [], 0, [], [], [], 0⟩ : RS).qname = ⟨[60, 97], 32 :: 98 :: 61 :: 34 :: X, [], 0, [], [], [], 0⟩ := rfl
  have e3 : qnameA (97 :: 32 :: 98 :: 61 :: 34 :: X) = [97] := rfl
  have e4 : (⟨[60, 97], 32 :: 98 :: 61 :: 34 :: X, [], 0, [], [], [], 0⟩ : RS).blanks = ⟨[60, 97, 32], 98 :: 61 :: 34 :: X, [], 0, [], [], [], 0⟩ := rfl
  have e5 : (⟨[60, 97], 32 :: 98 :: 61 :: 34 :: X, [], 0, [], [], [], 0⟩ : RS).blank = true := rfl
  have e6 : (⟨[60, 97, 32], 98 :: 61 :: 34 :: X, [], 0, [], [], [], 0⟩ : RS).qname = ⟨[60, 97, 32, 98], 61 :: 34 :: X, [], 0, [], [], [], 0⟩ := rfl
  have e7 : qnameA (98 :: 61 :: 34 :: X) = [98] := rfl
  have e8 : (⟨[60, 97, 32, 98], 61 :: 34 :: X, [], 0, [], [], [], 0⟩ : RS).equals = some ⟨[60, 97, 32, 98, 61], 34 :: X, [], 0, [], [], [], 0⟩ := rfl
  have e9 : (⟨[60, 97, 32, 98, 61], 34 :: X, [], 0, [], [], [], 0⟩ : RS).quote = some (34, ⟨[60, 97, 32, 98, 61, 34], X, [], 0, [], [], [], 0⟩) := rfl
  have e10 : (⟨[60, 97, 32, 98, 61], 34 :: X, [], 0, [], [], [], 0⟩ : RS).value 0 = .ok (v, ⟨P, 62 :: Y, [], 0, [], [], [], 0⟩) := by
    unfold RS.value
    rw [e9]
    exact hv
  have e11 : ∀ f acc, RS.attrsGo 0 (f + 1) (⟨P, 62 :: Y, [], 0, [], [], [], 0⟩ : RS) acc = .ok (acc, (⟨P, 62 :: Y, [], 0, [], [], [], 0⟩ : RS).blanks) := fun f acc => rfl
  have e12 : (⟨P, 62 :: Y, [], 0, [], [], [], 0⟩ : RS).blanks = ⟨P, 62 :: Y, [], 0, [], [], [], 0⟩ := by
    show (⟨P ++ [], 62 :: Y, [], 0, [], [], [], 0⟩ : RS) = _
    rw [List.append_nil]
  have e13 : (⟨[60, 97], 32 :: 98 :: 61 :: 34 :: X, [], 0, [], [], [], 0⟩ : RS).attributes 0 = .ok ([([98], v)], ⟨P, 62 :: Y, [], 0, [], [], [], 0⟩) := by
    unfold RS.attributes
    rw [show (32 :: 98 :: 61 :: 34 :: X).length + 1 = X.length + 3 + 1 + 1 from rfl, RS.attrsGo]
    simp only
    rw [e4, e5, e6, e7, e8]
    simp only
    rw [e10]
    simp only
    rw [e11, e12]
    rfl
  unfold RS.startTag
  simp only
  rw [e1, e2, e3]
  rw [show (RS.start (60 :: 97 :: 32 :: 98 :: 61 :: 34 :: X)).place = 0 from rfl, e13]
  exact ⟨_, rfl⟩
theorem doc_scan (l : List Nat) : scanX (docL l) = .ok (⟨2, [97], [([98], l)], []⟩ :: (if l = [] then [] else [⟨4, [], [], l⟩]) ++ [⟨7, [97], [], []⟩]) := by
  obtain ⟨P1, h1⟩ := value_quoted 0 (62 :: (mapN escN l ++ [60, 47, 97, 62])) [] 0 [] [] [] 0 l.length l rfl ((mapN quoN l ++ 34 :: 62 :: (mapN escN l ++ [60, 47, 97, 62])).length + 1) [60, 97, 32, 98, 61, 34] [] (by simp; omega)
  rw [List.nil_append] at h1
  obtain ⟨n, hs⟩ := tag_value _ _ _ _ h1
  obtain ⟨j, P2, hj, h2⟩ := content_escaped [47, 97, 62] [] 0 [[97]] [⟨2, [97], [([98], l)], []⟩] n (by simp) (by simp) l.length l rfl (P1 ++ [62]) []
  rw [List.nil_append] at h2
  have hend : ∃ P' n', (⟨P2, [60, 47, 97, 62], [], 0, [[97]], [⟨2, [97], [([98], l)], []⟩], l, n⟩ : RS).contentOne = .ok ⟨P', [], [], 0, [], ⟨2, [97], [([98], l)], []⟩ :: (if l = [] then [] else [⟨4, [], [], l⟩]) ++ [⟨7, [97], [], []⟩], [], n'⟩ := by
    cases l with
    | nil => exact ⟨_, _, rfl⟩
    | cons c l => exact ⟨_, _, rfl⟩
  obtain ⟨P3, n3, h3⟩ := hend
  have hc : RS.content ((mapN escN l ++ [60, 47, 97, 62]).length + 1) (⟨P1 ++ [62], mapN escN l ++ [60, 47, 97, 62], [], 0, [[97]], [⟨2, [97], [([98], l)], []⟩], [], n⟩ : RS) = .ok ⟨P3, [], [], 0, [], ⟨2, [97], [([98], l)], []⟩ :: (if l = [] then [] else [⟨4, [], [], l⟩]) ++ [⟨7, [97], [], []⟩], [], n3⟩ := by
    have hlen : (mapN escN l ++ [60, 47, 97, 62]).length + 1 = ((mapN escN l).length - j + 3 + 1 + 1) + j := by
      rw [List.length_append]
      show (mapN escN l).length + 4 + 1 = _
      omega
    rw [hlen, h2]
    rw [content_step (by simp) h3, RS.content, if_pos rfl]
  generalize hX : mapN quoN l ++ 34 :: 62 :: (mapN escN l ++ [60, 47, 97, 62]) = X at *
  have hd : docL l = 60 :: 97 :: 32 :: 98 :: 61 :: 34 :: X := by unfold docL; rw [hX]
  rw [hd]
  have hx : [60, 63].isPrefixOf (RS.start (60 :: 97 :: 32 :: 98 :: 61 :: 34 :: X)).rest = false := rfl
  have hb : (RS.start (60 :: 97 :: 32 :: 98 :: 61 :: 34 :: X)).blanks = RS.start (60 :: 97 :: 32 :: 98 :: 61 :: 34 :: X) := rfl
  have s1 : (RS.start (60 :: 97 :: 32 :: 98 :: 61 :: 34 :: X)).sees [60, 33, 45, 45] = false := rfl
  have s2 : (RS.start (60 :: 97 :: 32 :: 98 :: 61 :: 34 :: X)).sees [60, 63] = false := rfl
  have s3 : (RS.start (60 :: 97 :: 32 :: 98 :: 61 :: 34 :: X)).sees [60, 33, 68, 79, 67, 84, 89, 80, 69] = false := rfl
  have s4 : (RS.start (60 :: 97 :: 32 :: 98 :: 61 :: 34 :: X)).sees [60] = true := rfl
  unfold scanX RS.document
  rw [hx, Bool.false_and, if_neg (by decide), docGo_eq, hb, s1, s2, s3, s4, if_neg (by decide), if_neg (by decide), if_neg (by decide), if_pos (by decide)]
  unfold docElem
  rw [hs]
  simp only
  rw [hc]
  simp only [docMore]
  rw [show (RS.start (60 :: 97 :: 32 :: 98 :: 61 :: 34 :: X)).rest.length = X.length + 5 + 1 from rfl, docGo_eq]
  rfl
theorem doc_type (l : List Nat) : RS.noType ((docL l).length + 1) (RS.start (docL l)) = true := rfl
theorem doc_decl (l : List Nat) : ([60, 63].isPrefixOf (docL l) && nameA ((docL l).drop 2) == [120, 109, 108]) = false := rfl
end Go.Proofs.YtjjggncbhenffaaGreatDoor
/- Signs below 128 at both ends of a text: what is within is a text. -/
namespace Go.Proofs.YtjjggncbhenffaaGreatDoor
theorem txt_tail {q : Nat} (hq : q < 128) {x : List UInt8} (h : Txt (UInt8.ofNat q :: x)) : Txt x := by
  obtain ⟨rs, h1, h2⟩ := h
  cases rs with
  | nil => cases h2
  | cons r rs =>
    have hd1 := dec_rune r (charR_ok (h1 r (by simp))) (rs.flatMap runeB)
    have hd2 := dec_rune q (.inl (by omega)) x
    have e1 : (r :: rs).flatMap runeB = runeB r ++ rs.flatMap runeB := rfl
    rw [e1] at h2
    rw [runeB_one hq, List.singleton_append] at hd2
    rw [h2, hd1] at hd2
    have hr : r = q := congrArg Prod.fst hd2
    subst hr
    rw [runeB_one hq, List.singleton_append] at h2
    exact ⟨rs, fun y hy => h1 y (by simp [hy]), (List.cons.inj h2).2⟩
theorem txt_init {q : Nat} (hq : q < 128) {x : List UInt8} (h : Txt (x ++ [UInt8.ofNat q])) : Txt x := by
  obtain ⟨rs, h1, h3⟩ := h
  rcases List.eq_nil_or_concat rs with rfl | ⟨us, x', rfl⟩
  · have := congrArg List.length h3; simp at this
  · rw [List.concat_eq_append, List.flatMap_append] at h3
    have hx := h1 x' (by simp)
    have e2 : [x'].flatMap runeB = runeB x' := by simp
    rw [e2] at h3
    by_cases hx1 : x' < 128
    · rw [runeB_one hx1] at h3
      have h4 := (List.append_inj' h3 rfl).1
      exact ⟨us, fun y hy => h1 y (by simp [hy]), h4⟩
    · exfalso
      have hh := runeB_high (charR_ok hx) (by omega)
      have hne : runeB x' ≠ [] := by
        have := runeB_pos hx
        intro e; rw [e] at this; simp at this
      have h5 := congrArg (fun l => l.getLast?) h3
      simp only [List.getLast?_append, List.getLast?_singleton, Option.some_or] at h5
      rw [List.getLast?_eq_some_getLast hne, Option.some_or] at h5
      have h6 := hh _ (List.getLast_mem hne)
      rw [← Option.some.inj h5, u8_nat (by omega)] at h6
      omega
theorem txt_behind : ∀ (a : List Nat), (∀ c ∈ a, c < 128) → ∀ {x : List UInt8}, Txt (a.map UInt8.ofNat ++ x) → Txt x
  | [], _, _, h => h
  | c :: a, ha, _, h => txt_behind a (fun y hy => ha y (List.mem_cons_of_mem _ hy)) (txt_tail (ha c (List.mem_cons_self ..)) h)
theorem txt_ahead : ∀ (n : Nat) (a : List Nat), a.length = n → (∀ c ∈ a, c < 128) → ∀ {x : List UInt8}, Txt (x ++ a.map UInt8.ofNat) → Txt x
  | 0, a, hn, _, x, h => by
    rw [List.length_eq_zero_iff.1 hn, List.map_nil, List.append_nil] at h
    exact h
  | n + 1, a, hn, ha, x, h => by
    rcases List.eq_nil_or_concat a with rfl | ⟨us, c, rfl⟩
    · cases hn
    · rw [List.concat_eq_append] at h ha hn
      rw [List.map_append, List.map_singleton, ← List.append_assoc] at h
      exact txt_ahead n us (by simpa using hn) (fun y hy => ha y (by simp [hy])) (txt_init (ha c (by simp)) h)
theorem txt_mid {a b : List Nat} (ha : ∀ c ∈ a, c < 128) (hb : ∀ c ∈ b, c < 128) {x : List UInt8} (h : Txt (a.map UInt8.ofNat ++ x ++ b.map UInt8.ofNat)) : Txt x :=
  txt_behind a ha (txt_ahead b.length b rfl hb h)
end Go.Proofs.YtjjggncbhenffaaGreatDoor
/- Escaped texts: bytes and characters. -/
namespace Go.Proofs.YtjjggncbhenffaaGreatDoor
/-- A text that is cut at a sign below 128. -/
theorem txt_split {q : Nat} (hq : q < 128) {y : List UInt8} : ∀ (rs : List Nat), (∀ r ∈ rs, charR (r : Int) = true) → ∀ x : List UInt8, rs.flatMap runeB = x ++ UInt8.ofNat q :: y → Txt x ∧ Txt y
  | [], _, x, h => by
    have := congrArg List.length h
    simp at this
  | r :: rs, hr, x, h => by
    have hrr := hr r (List.mem_cons_self ..)
    have hrs : ∀ z ∈ rs, charR (z : Int) = true := fun z hz => hr z (List.mem_cons_of_mem _ hz)
    rw [List.flatMap_cons] at h
    rcases List.append_eq_append_iff.1 h with ⟨a', h1, h2⟩ | ⟨c', h1, h2⟩
    · obtain ⟨⟨us, hu1, hu2⟩, h4⟩ := txt_split hq rs hrs a' h2
      refine ⟨⟨r :: us, fun z hz => ?_, ?_⟩, h4⟩
      · rcases List.mem_cons.1 hz with rfl | hz
        · exact hrr
        · exact hu1 z hz
      · rw [h1, hu2, List.flatMap_cons]
    · cases c' with
      | nil =>
        rw [List.append_nil] at h1
        rw [List.nil_append] at h2
        refine ⟨⟨[r], fun z hz => by rw [List.mem_singleton.1 hz]; exact hrr, by rw [← h1]; simp⟩, ?_⟩
        exact txt_tail hq ⟨rs, hrs, h2⟩
      | cons b c'' =>
        obtain ⟨rfl, h3⟩ := List.cons.inj h2
        have hlow : r < 128 := by
          by_cases hh : r < 128
          · exact hh
          · exfalso
            have := runeB_high (charR_ok hrr) (by omega) (UInt8.ofNat q) (by rw [h1]; simp)
            rw [u8_nat (by omega)] at this
            omega
        rw [runeB_one hlow] at h1
        have hl := congrArg List.length h1
        simp at hl
        have hx : x = [] := by
          cases x with
          | nil => rfl
          | cons _ _ => simp at hl; omega
        have hc : c'' = [] := by
          cases c'' with
          | nil => rfl
          | cons _ _ => simp at hl; omega
        subst hx hc
        exact ⟨⟨[], (fun _ h => by cases h), rfl⟩, ⟨rs, hrs, by simpa using h3⟩⟩
theorem txt_cut {q : Nat} (hq : q < 128) {x y : List UInt8} (h : Txt (x ++ UInt8.ofNat q :: y)) : Txt x ∧ Txt y := by
  obtain ⟨rs, h1, h2⟩ := h
  exact txt_split hq rs h1 x h2.symm
/-- Other texts, as bytes and as characters. -/
structure BothO (o : Nat → List UInt8) (oN : Nat → List Nat) : Prop where
  few : FewO o
  eq : ∀ c, o c = (oN c).map UInt8.ofNat
  low : ∀ c, ∀ x ∈ oN c, x < 128
  may : ∀ c, oN c ≠ [] → charR (c : Int) = true
theorem esc_both : BothO escO escN := by
  refine ⟨esc_few, ?_, ?_, ?_⟩
  · intro c
    unfold escO escN insO insN
    repeat' split
    all_goals rfl
  · exact esc_cases (P := fun _ o => ∀ x ∈ o, x < 128) (by decide) (by decide) (by decide) (by decide) (fun c x h => by cases h)
  · exact esc_cases (P := fun c o => o ≠ [] → charR (c : Int) = true) (fun _ => by decide +kernel) (fun _ => by decide +kernel) (fun _ => by decide +kernel) (fun _ => by decide +kernel) (fun c h => absurd rfl h)
theorem quo_both : BothO quoO quoN := by
  refine ⟨quo_few, ?_, ?_, ?_⟩
  · intro c
    unfold quoO quoN insO insN
    repeat' split
    all_goals rfl
  · exact quo_cases (P := fun _ o => ∀ x ∈ o, x < 128) (by decide) (by decide) (by decide) (by decide) (by decide) (by decide) (fun c x h => by cases h)
  · exact quo_cases (P := fun c o => o ≠ [] → charR (c : Int) = true) (fun _ => by decide +kernel) (fun _ => by decide +kernel) (fun _ => by decide +kernel) (fun _ => by decide +kernel) (fun _ => by decide +kernel) (fun _ => by decide +kernel) (fun c h => absurd rfl h)
theorem map_tx {o : Nat → List UInt8} {oN : Nat → List Nat} (h : BothO o oN) : ∀ (l : List Nat), okL l → mapO o (tx l) = tx (mapN oN l)
  | [], _ => rfl
  | c :: l, hl => by
    have ih := map_tx h l (fun x hx => hl x (List.mem_cons_of_mem _ hx))
    have hc := hl c (List.mem_cons_self ..)
    rw [tx_cons, mapO_app, ih, mapN_cons, tx_append]
    congr 1
    by_cases h128 : c < 128
    · rw [runeB_one h128]
      show oneO o (UInt8.ofNat c) ++ [] = _
      rw [List.append_nil]
      unfold oneO oneN
      rw [u8_nat (by omega), h.eq c]
      by_cases h0 : oN c = []
      · rw [if_pos (by rw [h0]; rfl), if_pos h0, tx_cons, runeB_one h128]
        rfl
      · rw [if_neg (by simpa using h0), if_neg h0, sign_len_tx (h.low c)]
    · have h0 : oN c = [] := by
        have := h.few.low c (by omega)
        rw [h.eq c] at this
        simpa using this
      rw [mapO_same o (runeB c) (fun b hb => h.few.low _ (runeB_high (charR_ok hc) (by omega) b hb))]
      unfold oneN
      rw [if_pos h0, tx_cons]
      simp [tx]
theorem map_ok {oN : Nat → List Nat} (hr : RefN oN) {l : List Nat} (hl : okL l) : okL (mapN oN l) := by
  intro x hx
  obtain ⟨c, hc, hxc⟩ := List.mem_flatMap.1 hx
  unfold oneN at hxc
  split at hxc
  · rw [List.mem_singleton.1 hxc]; exact hl c hc
  · exact hr.ok c x hxc
/-- What is a text with other texts in it was one without them. -/
theorem txt_unmap {o : Nat → List UInt8} {oN : Nat → List Nat} (h : BothO o oN) : ∀ (n : Nat) (l p : List UInt8), l.length = n → (∀ b ∈ p, o b.toNat = []) → Txt (p ++ mapO o l) → Txt (p ++ l)
  | 0, l, p, hn, _, ht => by
    rw [List.length_eq_zero_iff.1 hn] at ht ⊢
    exact ht
  | n + 1, [], p, hn, _, _ => by cases hn
  | n + 1, b :: l, p, hn, hp, ht => by
    have hl : l.length = n := by simpa using hn
    have hm : mapO o (b :: l) = oneO o b ++ mapO o l := rfl
    rw [hm] at ht
    by_cases h0 : o b.toNat = []
    · have e : oneO o b = [b] := by unfold oneO; rw [if_pos h0]
      rw [e, ← List.append_assoc] at ht
      have := txt_unmap h n l (p ++ [b]) hl (fun x hx => by
        rcases List.mem_append.1 hx with hx | hx
        · exact hp x hx
        · rw [List.mem_singleton.1 hx]; exact h0) ht
      rwa [List.append_assoc] at this
    · have e : oneO o b = (oN b.toNat).map UInt8.ofNat := by unfold oneO; rw [if_neg h0, h.eq]
      have hne : oN b.toNat ≠ [] := fun hh => h0 (by rw [h.eq, hh]; rfl)
      rw [e] at ht
      cases hc : oN b.toNat with
      | nil => exact absurd hc hne
      | cons d t =>
        rw [hc, List.map_cons, List.cons_append] at ht
        obtain ⟨hp', ht'⟩ := txt_cut (h.low _ d (by rw [hc]; exact List.mem_cons_self ..)) ht
        have hl' := txt_behind t (fun x hx => h.low _ x (by rw [hc]; exact List.mem_cons_of_mem _ hx)) ht'
        have ih := txt_unmap h n l [] hl (fun x hx => by cases hx) hl'
        obtain ⟨us, hu1, hu2⟩ := hp'
        obtain ⟨vs, hv1, hv2⟩ := ih
        rw [List.nil_append] at hv2
        have hb128 : b.toNat < 128 := by
          by_cases hh : b.toNat < 128
          · exact hh
          · exact absurd (h.few.low _ (by omega)) h0
        refine ⟨us ++ b.toNat :: vs, fun x hx => ?_, ?_⟩
        · rcases List.mem_append.1 hx with hx | hx
          · exact hu1 x hx
          · rcases List.mem_cons.1 hx with rfl | hx
            · exact h.may _ hne
            · exact hv1 x hx
        · rw [List.flatMap_append, List.flatMap_cons, ← hu2, ← hv2, runeB_one hb128]
          simp
end Go.Proofs.YtjjggncbhenffaaGreatDoor
/- Tokens in bytes are the same in characters, where they are a document's. -/
namespace Go.Proofs.YtjjggncbhenffaaGreatDoor
def XTok.b (t : XTok) : BTok := ⟨(t.kind : Nat), T t.name, t.attrs.map fun x => (T x.1, T x.2), T t.text⟩
structure OkAll (t : XTok) : Prop where
  n : okL t.name
  a : ∀ x ∈ t.attrs, okL x.1 ∧ okL x.2
  x : okL t.text
theorem okL_nil : okL [] := fun _ h => by cases h
theorem T_nil : T [] = ⟨#[]⟩ := rfl
theorem empty_T {s : ByteArray} (h : s.toList.isEmpty = true) : s = T [] := by
  have h1 : s.data.toList = [] := by rw [← toList_data]; simpa using h
  rw [T_nil]
  cases s with | mk d => cases d with | mk l => simp at h1; subst h1; rfl
theorem of_data {s : ByteArray} {l : List Nat} (h : s.data.toList = tx l) : s = T l := by
  rw [← mk_data s, h]
  rfl
theorem qB_T {s : ByteArray} (h : qB s = true) : ∃ l, okL l ∧ s = T l ∧ isQ l = true := by
  have key : ∃ l, okL l ∧ s = T l := by
    by_cases h58 : (58 : UInt8) ∈ s.data.toList
    · obtain ⟨p, r, e, hp⟩ := List.eq_append_cons_of_mem h58
      have hc := cut_first p r 58 hp
      unfold qB splitB splitP splitN at h
      rw [e, hc] at h
      simp only [if_pos, Bool.not_true, Bool.false_or, Bool.and_eq_true] at h
      obtain ⟨a, ha, ea⟩ := nameB_txt h.1
      obtain ⟨b, hb, eb⟩ := nameB_txt h.2
      have ea' : p = tx a := by have := congrArg (fun x : ByteArray => x.data.toList) ea; rw [T_data] at this; simpa using this
      have eb' : r = tx b := by have := congrArg (fun x : ByteArray => x.data.toList) eb; rw [T_data] at this; simpa using this
      refine ⟨a ++ ([58] ++ b), okL_app ha (okL_app (okL_of (by decide)) hb), of_data ?_⟩
      rw [e, ea', eb', tx_append, tx_append]
      rfl
    · have hc := cut_none s.data.toList 58 h58
      unfold qB splitB splitP splitN at h
      rw [hc] at h
      simp only [Bool.not_false, Bool.true_or, Bool.true_and, if_neg, Bool.false_eq_true, not_false_eq_true, mk_data] at h
      exact nameB_txt h
  obtain ⟨l, hl, rfl⟩ := key
  exact ⟨l, hl, rfl, by rw [← splitB_T hl]; exact h⟩
theorem textB_T {s : ByteArray} (h : textB s = true) : ∃ l, okL l ∧ s = T l := txt_T ((textB_txt s).1 h)
theorem attrs_T : ∀ (l : List (ByteArray × ByteArray)) (seen : List (List Nat)), (∀ x ∈ seen, okL x) → attrsB (seen.map tx) l = true →
    ∃ a : List (List Nat × List Nat), l = a.map (fun x => (T x.1, T x.2)) ∧ (∀ x ∈ a, okL x.1 ∧ okL x.2) ∧ (∀ x ∈ a, isQ x.1 = true) ∧ (a.map (·.1)).Nodup ∧ ∀ x ∈ a, x.1 ∉ seen
  | [], _, _, _ => ⟨[], rfl, (fun _ h => by cases h), (fun _ h => by cases h), List.nodup_nil, (fun _ h => by cases h)⟩
  | (k, v) :: l, seen, hs, h => by
    simp only [attrsB, Bool.and_eq_true, Bool.not_eq_true'] at h
    obtain ⟨h1, h2, h3, h4⟩ := h
    obtain ⟨n, hn, rfl, hq⟩ := qB_T h2
    obtain ⟨x, hx, rfl⟩ := textB_T h3
    rw [T_data] at h1 h4
    have hns : n ∉ seen := fun hm => by
      have : (seen.map tx).contains (tx n) = true := by simpa using ⟨n, hm, rfl⟩
      rw [h1] at this
      cases this
    obtain ⟨a, rfl, e1, e2, e3, e4⟩ := attrs_T l (seen ++ [n]) (fun y hy => by
      rcases List.mem_append.1 hy with hy | hy
      · exact hs y hy
      · rw [List.mem_singleton.1 hy]; exact hn) (by rw [List.map_append]; exact h4)
    refine ⟨(n, x) :: a, rfl, fun y hy => ?_, fun y hy => ?_, ?_, fun y hy => ?_⟩
    · rcases List.mem_cons.1 hy with rfl | hy
      · exact ⟨hn, hx⟩
      · exact e1 y hy
    · rcases List.mem_cons.1 hy with rfl | hy
      · exact hq
      · exact e2 y hy
    · rw [List.map_cons, List.nodup_cons]
      refine ⟨fun hm => ?_, e3⟩
      obtain ⟨z, hz, hzn⟩ := List.mem_map.1 hm
      exact e4 z hz (by rw [hzn]; simp)
    · rcases List.mem_cons.1 hy with rfl | hy
      · exact hns
      · exact fun hm => e4 y hy (List.mem_append_left _ hm)
theorem isEmpty_of {α : Type} {l : List α} (h : l.isEmpty = true) : l = [] := by simpa using h
theorem contains_cut {sign : List Nat} (hs : ∀ c ∈ sign, c < 128) (hne : sign ≠ []) {l : List Nat} (hl : okL l) (h : Lib.contains (tx l) (sign.map UInt8.ofNat) = false) : cutL sign l = none := by
  cases hc : cutL sign l with
  | none => rfl
  | some x =>
    have := ((index_tx sign hs hne l hl).1 x.1 x.2 hc).1
    unfold Lib.contains at h
    rw [this] at h
    simp at h
theorem suffix_last {l : List Nat} (hl : okL l) (h : Lib.hasSuffix (tx l) [45] = false) : l.getLast? ≠ some 45 := by
  intro hx
  obtain ⟨p, rfl⟩ : ∃ p, l = p ++ [45] := List.getLast?_eq_some_iff.1 hx
  have : Lib.hasSuffix (tx (p ++ [45])) [45] = true := by
    unfold Lib.hasSuffix
    rw [tx_append]
    exact List.isSuffixOf_iff_suffix.2 ⟨tx p, rfl⟩
  rw [h] at this
  cases this
theorem trim_head {l : List Nat} (hl : okL l) (h : ((Lib.trimLeftF blankN (T l)).toList == (T l).toList) = true) : ∀ c, l.head? = some c → blankC c = false := by
  intro c hc
  rw [trim_T hl] at h
  have h1 : tx (l.dropWhile blankC) = tx l := by
    rw [← T_toList, ← T_toList l]
    exact eq_of_beq h
  have h2 := tx_inj (fun x hx => hl x ((List.dropWhile_sublist _).subset hx)) hl h1
  cases l with
  | nil => cases hc
  | cons d l =>
    obtain rfl : d = c := by simpa using hc
    cases hb : blankC d
    · rfl
    · exfalso
      rw [List.dropWhile_cons, if_pos hb] at h2
      have := congrArg List.length h2
      have h3 : (l.dropWhile blankC).length ≤ l.length := (List.dropWhile_sublist _).length_le
      rw [List.length_cons] at this
      omega
/-- A token that may stand somewhere is one of characters. -/
theorem ok_T {t : BTok} (h : okB t = true) : ∃ x : XTok, t = x.b ∧ OkAll x ∧ OkTok x := by
  obtain ⟨k, n, a, x⟩ := t
  unfold okB at h
  simp only at h
  split at h
  · rename_i hk
    subst hk
    simp only [Bool.and_eq_true] at h
    obtain ⟨h1, h2, h3⟩ := h
    obtain ⟨m, hm, rfl, hq⟩ := qB_T h2
    obtain ⟨b, rfl, e1, e2, e3, _⟩ := attrs_T a [] (fun _ h => by cases h) h3
    exact ⟨⟨2, m, b, []⟩, by rw [empty_T h1]; rfl, ⟨hm, e1, okL_nil⟩, .elem m b hq e2 e3⟩
  · split at h
    · rename_i hk
      subst hk
      simp only [Bool.and_eq_true] at h
      obtain ⟨h1, h2, h3⟩ := h
      obtain ⟨m, hm, rfl, hq⟩ := qB_T h3
      exact ⟨⟨7, m, [], []⟩, by rw [empty_T h1, isEmpty_of h2]; rfl, ⟨hm, (fun _ h => by cases h), okL_nil⟩, .fin m hq⟩
    · split at h
      · rename_i hk
        subst hk
        simp only [Bool.and_eq_true, Bool.not_eq_true'] at h
        obtain ⟨h1, h2, h3, h4⟩ := h
        obtain ⟨l, hl, rfl⟩ := textB_T h4
        refine ⟨⟨4, [], [], l⟩, by rw [empty_T h1, isEmpty_of h2]; rfl, ⟨okL_nil, (fun _ h => by cases h), hl⟩, .text l ?_⟩
        intro h0
        rw [h0, T_toList] at h3
        cases h3
      · split at h
        · rename_i hk
          subst hk
          simp only [Bool.and_eq_true] at h
          obtain ⟨h1, h2, h3⟩ := h
          unfold comB at h3
          simp only [Bool.and_eq_true, Bool.not_eq_true'] at h3
          obtain ⟨h4, h5, h6⟩ := h3
          obtain ⟨l, hl, rfl⟩ := textB_T h4
          rw [T_data] at h5 h6
          exact ⟨⟨5, [], [], l⟩, by rw [empty_T h1, isEmpty_of h2]; rfl, ⟨okL_nil, (fun _ h => by cases h), hl⟩, .comment l (contains_cut (sign := [45, 45]) (by decide) (by decide) hl h5) (suffix_last hl h6)⟩
        · split at h
          · rename_i hk
            subst hk
            simp only [Bool.and_eq_true] at h
            obtain ⟨h1, h2, h3⟩ := h
            unfold insB at h3
            simp only [Bool.and_eq_true, Bool.not_eq_true'] at h3
            obtain ⟨h4, h5, h6⟩ := h3
            obtain ⟨l, hl, rfl⟩ := textB_T h4
            have h7 : nameB n = true := by unfold tarB at h2; simp only [Bool.and_eq_true] at h2; exact h2.1
            obtain ⟨m, hm, rfl⟩ := nameB_txt h7
            rw [tarB_T hm] at h2
            rw [T_data] at h5
            exact ⟨⟨6, m, [], l⟩, by rw [isEmpty_of h1]; rfl, ⟨hm, (fun _ h => by cases h), hl⟩, .pi m l h2 (contains_cut (sign := [63, 62]) (by decide) (by decide) hl h5) (trim_head hl h6)⟩
          · cases h
theorem deep_ge : ∀ (ts : List BTok) (d m : Int), m ≤ deepGo d m ts
  | [], _, _ => Int.le_refl _
  | t :: ts, d, m => by
    unfold deepGo
    split
    · have := deep_ge ts (d + 1) (max m (d + 1))
      omega
    · split
      · exact deep_ge ts (d - 1) m
      · exact deep_ge ts d m
theorem T_same {a b : List Nat} (ha : okL a) (hb : okL b) (h : ((T a).toList == (T b).toList) = true) : a = b := by
  have := eq_of_beq h
  rw [T_toList, T_toList] at this
  exact tx_inj ha hb this
/-- Tokens of a document are ones of characters, and a document's. -/
theorem doc_T : ∀ (ts : List BTok) (o : List (List Nat)) (r : Bool) (k : Nat) (m : Int), (∀ x ∈ o, okL x) → docB (o.map T) r (k : Nat) ts = true → deepGo o.length m ts ≤ 32 → (∀ t ∈ ts, t.attrs.length ≤ 64) →
    ∃ xs : List XTok, ts = xs.map XTok.b ∧ (∀ x ∈ xs, OkAll x) ∧ DocT o r k xs
  | [], o, r, k, m, _, h, _, _ => by
    unfold docB at h
    simp only [Bool.and_eq_true] at h
    obtain ⟨h1, h2⟩ := h
    have h3 := isEmpty_of h2
    rw [List.map_eq_nil_iff] at h3
    subst h3 h1
    exact ⟨[], rfl, (fun _ h => by cases h), .done k⟩
  | t :: ts, o, r, k, m, ho, h, hd, ha => by
    unfold docB at h
    simp only [Bool.and_eq_true] at h
    obtain ⟨h1, h2⟩ := h
    obtain ⟨x, rfl, hx, hok⟩ := ok_T h1
    have ha' : ∀ t ∈ ts, t.attrs.length ≤ 64 := fun t ht => ha t (List.mem_cons_of_mem _ ht)
    have hax := ha _ (List.mem_cons_self ..)
    cases hok with
    | elem n a h3 h4 h5 =>
      by_cases hr : ((o.map T).isEmpty && r) = true
      · have : docStp (o.map T) r (k : Nat) (XTok.b ⟨2, n, a, []⟩) = none := by
          show (if ((o.map T).isEmpty && r) = true then none else some (o.map T ++ [T n], true)) = _
          rw [if_pos hr]
        rw [this] at h2
        cases h2
      · have e : docStp (o.map T) r (k : Nat) (XTok.b ⟨2, n, a, []⟩) = some ((o ++ [n]).map T, true) := by
          show (if ((o.map T).isEmpty && r) = true then none else some (o.map T ++ [T n], true)) = _
          rw [if_neg hr, List.map_append]
          rfl
        rw [e] at h2
        have hd2 : deepGo ((o ++ [n]).length) (max m ((o.length : Int) + 1)) ts ≤ 32 := by
          have e2 : deepGo o.length m (XTok.b ⟨2, n, a, []⟩ :: ts) = deepGo ((o.length : Int) + 1) (max m ((o.length : Int) + 1)) ts := rfl
          rw [e2] at hd
          rw [List.length_append]
          exact hd
        have hdep := deep_ge ts (((o ++ [n]).length : Nat) : Int) (max m ((o.length : Int) + 1))
        obtain ⟨xs, rfl, q1, q2⟩ := doc_T ts (o ++ [n]) true 2 _ (fun y hy => by
          rcases List.mem_append.1 hy with hy | hy
          · exact ho y hy
          · rw [List.mem_singleton.1 hy]; exact hx.n) h2 hd2 ha'
        refine ⟨⟨2, n, a, []⟩ :: xs, rfl, fun y hy => ?_, .elem n a o r k xs (.elem n a h3 h4 h5) (fun h0 => ?_) (by omega) (by simpa [XTok.b] using hax) q2⟩
        · rcases List.mem_cons.1 hy with rfl | hy
          · exact hx
          · exact q1 y hy
        · subst h0
          simpa using hr
    | fin n h3 =>
      cases hg : o.getLast? with
      | none =>
        have : docStp (o.map T) r (k : Nat) (XTok.b ⟨7, n, [], []⟩) = none := by
          show (match (o.map T).getLast? with | none => none | some x => _) = _
          rw [List.getLast?_map, hg]
          rfl
        rw [this] at h2
        cases h2
      | some y =>
        have hy : okL y := ho y (List.mem_of_getLast? hg)
        have e0 : docStp (o.map T) r (k : Nat) (XTok.b ⟨7, n, [], []⟩) = if (T y).toList == (T n).toList then some ((o.map T).dropLast, r) else none := by
          show (match (o.map T).getLast? with | none => none | some x => if x.toList == (T n).toList then some ((o.map T).dropLast, r) else none) = _
          rw [List.getLast?_map, hg]
          rfl
        rw [e0] at h2
        by_cases hs : ((T y).toList == (T n).toList) = true
        · rw [if_pos hs] at h2
          have hyn := T_same hy hx.n hs
          subst hyn
          have hlen : o.length = o.dropLast.length + 1 := by
            rw [List.length_dropLast]
            have : o ≠ [] := fun h0 => by rw [h0] at hg; cases hg
            have := List.length_pos_iff.2 this
            omega
          rw [show (o.map T).dropLast = o.dropLast.map T by rw [List.map_dropLast]] at h2
          have hd2 : deepGo o.dropLast.length m ts ≤ 32 := by
            have e2 : deepGo o.length m (XTok.b ⟨7, y, [], []⟩ :: ts) = deepGo ((o.length : Int) - 1) m ts := rfl
            rw [e2, hlen] at hd
            have e3 : ((o.dropLast.length + 1 : Nat) : Int) - 1 = (o.dropLast.length : Nat) := by omega
            rw [e3] at hd
            exact hd
          obtain ⟨xs, rfl, q1, q2⟩ := doc_T ts o.dropLast r 7 m (fun z hz => ho z ((List.dropLast_sublist o).subset hz)) h2 hd2 ha'
          refine ⟨⟨7, y, [], []⟩ :: xs, rfl, fun z hz => ?_, .fin y o r k xs (.fin y h3) hg q2⟩
          rcases List.mem_cons.1 hz with rfl | hz
          · exact hx
          · exact q1 z hz
        · rw [if_neg hs] at h2
          cases h2
    | text l h3 =>
      by_cases hr : ((o.map T).isEmpty || ((k : Nat) : Int) == 4) = true
      · have : docStp (o.map T) r (k : Nat) (XTok.b ⟨4, [], [], l⟩) = none := by
          show (if (o.map T).isEmpty || ((k : Nat) : Int) == 4 then none else _) = _
          rw [if_pos hr]
        rw [this] at h2
        cases h2
      · have e : docStp (o.map T) r (k : Nat) (XTok.b ⟨4, [], [], l⟩) = some (o.map T, r) := by
          show (if (o.map T).isEmpty || ((k : Nat) : Int) == 4 then none else some (o.map T, r)) = _
          rw [if_neg hr]
        rw [e] at h2
        have hd2 : deepGo o.length m ts ≤ 32 := hd
        obtain ⟨xs, rfl, q1, q2⟩ := doc_T ts o r 4 m ho h2 hd2 ha'
        refine ⟨⟨4, [], [], l⟩ :: xs, rfl, fun y hy => ?_, .text l o r k xs (.text l h3) (fun h0 => ?_) (fun h0 => ?_) q2⟩
        · rcases List.mem_cons.1 hy with rfl | hy
          · exact hx
          · exact q1 y hy
        · subst h0; exact hr rfl
        · subst h0; exact hr (by simp)
    | comment l h3 h4 =>
      obtain ⟨xs, rfl, q1, q2⟩ := doc_T ts o r 5 m ho h2 hd ha'
      refine ⟨⟨5, [], [], l⟩ :: xs, rfl, fun y hy => ?_, .comment l o r k xs (.comment l h3 h4) q2⟩
      rcases List.mem_cons.1 hy with rfl | hy
      · exact hx
      · exact q1 y hy
    | pi n l h3 h4 h5 =>
      obtain ⟨xs, rfl, q1, q2⟩ := doc_T ts o r 6 m ho h2 hd ha'
      refine ⟨⟨6, n, [], l⟩ :: xs, rfl, fun y hy => ?_, .pi n l o r k xs (.pi n l h3 h4 h5) q2⟩
      rcases List.mem_cons.1 hy with rfl | hy
      · exact hx
      · exact q1 y hy
/-- What is written in bytes is what is written in characters. -/
theorem attr_tx {x : List Nat × List Nat} (h : okL x.2) : attrB (T x.1, T x.2) = tx (attrL x) := by
  have e : attrL x = [32] ++ (x.1 ++ ([61, 34] ++ (mapN quoN x.2 ++ [34]))) := by unfold attrL; simp
  rw [e, tx_append, tx_append, tx_append, tx_append, ← map_tx quo_both x.2 h]
  unfold attrB
  rw [T_data, T_data]
  rfl
theorem attrs_tx : ∀ {a : List (List Nat × List Nat)}, (∀ x ∈ a, okL x.1 ∧ okL x.2) → (a.map fun x => (T x.1, T x.2)).flatMap attrB = tx (a.flatMap attrL)
  | [], _ => rfl
  | x :: a, h => by
    rw [List.map_cons, List.flatMap_cons, List.flatMap_cons, tx_append, attrs_tx (fun y hy => h y (List.mem_cons_of_mem _ hy)), attr_tx (h x (List.mem_cons_self ..)).2]
theorem tok_tx {x : XTok} (h : OkAll x) (hok : OkTok x) : tokB x.b = tx (tokL x) := by
  cases hok with
  | elem n a =>
    show 60 :: ((T n).data.toList ++ ((a.map fun x => (T x.1, T x.2)).flatMap attrB ++ [62])) = tx ([60] ++ (n ++ (a.flatMap attrL ++ [62])))
    rw [tx_append, tx_append, tx_append, attrs_tx h.a, T_data]
    rfl
  | fin n =>
    show 60 :: 47 :: ((T n).data.toList ++ [62]) = tx ([60, 47] ++ (n ++ [62]))
    rw [tx_append, tx_append, T_data]
    rfl
  | text l =>
    show mapO escO (T l).data.toList = tx (mapN escN l)
    rw [T_data, map_tx esc_both l h.x]
  | comment l =>
    show 60 :: 33 :: 45 :: 45 :: ((T l).data.toList ++ [45, 45, 62]) = tx ([60, 33, 45, 45] ++ (l ++ [45, 45, 62]))
    rw [tx_append, tx_append, T_data]
    rfl
  | pi n l =>
    show 60 :: 63 :: ((T n).data.toList ++ ((if (T l).toList.isEmpty then [] else 32 :: (T l).data.toList) ++ [63, 62])) = tx ([60, 63] ++ (n ++ ((if l = [] then [] else 32 :: l) ++ [63, 62])))
    rw [tx_append, tx_append, tx_append, T_data]
    by_cases hl : l = []
    · subst hl
      rw [T_toList]
      rfl
    · rw [if_neg hl, show (T l).toList.isEmpty = false from ne_T h.x hl, T_data]
      rfl
theorem okL_attr {x : List Nat × List Nat} (h : okL x.1 ∧ okL x.2) : okL (attrL x) := by
  have e : attrL x = [32] ++ (x.1 ++ ([61, 34] ++ (mapN quoN x.2 ++ [34]))) := by unfold attrL; simp
  rw [e]
  exact okL_app (okL_of (by decide)) (okL_app h.1 (okL_app (okL_of (by decide)) (okL_app (map_ok quo_ref h.2) (okL_of (by decide)))))
theorem okL_attrs : ∀ {a : List (List Nat × List Nat)}, (∀ x ∈ a, okL x.1 ∧ okL x.2) → okL (a.flatMap attrL)
  | [], _ => okL_nil
  | x :: a, h => by
    rw [List.flatMap_cons]
    exact okL_app (okL_attr (h x (List.mem_cons_self ..))) (okL_attrs fun y hy => h y (List.mem_cons_of_mem _ hy))
theorem okL_tok {x : XTok} (h : OkAll x) (hok : OkTok x) : okL (tokL x) := by
  cases hok with
  | elem n a => exact okL_app (a := [60]) (okL_of (by decide)) (okL_app h.n (okL_app (okL_attrs h.a) (okL_of (by decide))))
  | fin n => exact okL_app (a := [60, 47]) (okL_of (by decide)) (okL_app h.n (okL_of (by decide)))
  | text l => exact map_ok esc_ref h.x
  | comment l => exact okL_app (a := [60, 33, 45, 45]) (okL_of (by decide)) (okL_app h.x (okL_of (by decide)))
  | pi n l =>
    refine okL_app (a := [60, 63]) (okL_of (by decide)) (okL_app h.n (okL_app ?_ (okL_of (by decide))))
    by_cases hl : l = []
    · simp only [hl, if_pos]; exact okL_nil
    · simp only [if_neg hl]; exact okL_app (a := [32]) (okL_of (by decide)) h.x
theorem doc_all : ∀ {xs : List XTok} {o : List (List Nat)} {r : Bool} {k : Nat}, DocT o r k xs → ∀ x ∈ xs, OkTok x
  | [], _, _, _, _ => fun _ h => by cases h
  | t :: ts, o, r, k, h => by
    have h1 : OkTok t ∧ ∃ o' r' k', DocT o' r' k' ts := by
      cases h with
      | elem m a _ _ _ _ h hr ho' ha hn => exact ⟨h, _, _, _, hn⟩
      | fin m _ _ _ _ h ho' hn => exact ⟨h, _, _, _, hn⟩
      | text l _ _ _ _ h ho' hk hn => exact ⟨h, _, _, _, hn⟩
      | comment l _ _ _ _ h hn => exact ⟨h, _, _, _, hn⟩
      | pi m l _ _ _ _ h hn => exact ⟨h, _, _, _, hn⟩
    obtain ⟨ht, o', r', k', hn⟩ := h1
    intro x hx
    rcases List.mem_cons.1 hx with rfl | hx
    · exact ht
    · exact doc_all hn x hx
theorem write_tx : ∀ {xs : List XTok}, (∀ x ∈ xs, OkAll x) → (∀ x ∈ xs, OkTok x) → writeB (xs.map XTok.b) = tx (writeX xs) ∧ okL (writeX xs)
  | [], _, _ => ⟨rfl, okL_nil⟩
  | x :: xs, h1, h2 => by
    obtain ⟨i1, i2⟩ := write_tx (fun y hy => h1 y (List.mem_cons_of_mem _ hy)) (fun y hy => h2 y (List.mem_cons_of_mem _ hy))
    have hx := h1 x (List.mem_cons_self ..)
    have hk := h2 x (List.mem_cons_self ..)
    refine ⟨?_, ?_⟩
    · show tokB x.b ++ writeB (xs.map XTok.b) = tx (tokL x ++ writeX xs)
      rw [i1, tok_tx hx hk, tx_append]
    · exact okL_app (okL_tok hx hk) i2
/-- Either Write tells an error, or its tokens are a document's, and its text is theirs. -/
theorem write_cases (ts : List BTok) : ((writeR ts).1 = ⟨#[]⟩ ∧ ((writeR ts).2 = 5 ∨ (writeR ts).2 = 6)) ∨
    ∃ xs : List XTok, ts = xs.map XTok.b ∧ (∀ x ∈ xs, OkAll x) ∧ DocT [] false 0 xs ∧ xs.length ≤ 4096 ∧ writeR ts = (T (writeX xs), 0) ∧ okL (writeX xs) ∧ (T (writeX xs)).size ≤ 32768 := by
  cases hd : docB [] false 0 ts
  · left
    have : writeR ts = (⟨#[]⟩, 5) := by unfold writeR; rw [if_pos hd]
    rw [this]
    exact ⟨rfl, .inl rfl⟩
  · cases hp : pastB ts
    · unfold pastB at hp
      simp only [Bool.or_eq_false_iff, decide_eq_false_iff_not, List.any_eq_false, decide_eq_true_eq] at hp
      obtain ⟨p1, p2, p3⟩ := hp
      have hdp : deepGo ((([] : List (List Nat)).length : Nat) : Int) 0 ts ≤ 32 := by
        show deepGo 0 0 ts ≤ 32
        omega
      obtain ⟨xs, rfl, q1, q2⟩ := doc_T ts [] false 0 0 (fun _ h => by cases h) hd hdp (fun t ht => by have := p3 t ht; omega)
      obtain ⟨w1, w2⟩ := write_tx q1 (doc_all q2)
      have hp' : pastB (xs.map XTok.b) = false := by
        unfold pastB
        simp only [Bool.or_eq_false_iff, decide_eq_false_iff_not, List.any_eq_false, decide_eq_true_eq]
        exact ⟨p1, p2, p3⟩
      by_cases hz : 32768 < (writeB (xs.map XTok.b)).length
      · left
        have : writeR (xs.map XTok.b) = (⟨#[]⟩, 6) := by unfold writeR; rw [if_neg (by rw [hd]; decide), if_neg (by rw [hp']; decide), if_pos hz]
        rw [this]
        exact ⟨rfl, .inr rfl⟩
      · right
        refine ⟨xs, rfl, q1, q2, by rw [List.length_map] at p1; omega, ?_, w2, ?_⟩
        · unfold writeR
          rw [if_neg (by rw [hd]; decide), if_neg (by rw [hp']; decide), if_neg hz, w1]
          rfl
        · rw [T_size, ← w1]
          omega
    · left
      have : writeR ts = (⟨#[]⟩, 6) := by unfold writeR; rw [if_neg (by rw [hd]; decide), if_pos hp]
      rw [this]
      exact ⟨rfl, .inr rfl⟩
end Go.Proofs.YtjjggncbhenffaaGreatDoor
