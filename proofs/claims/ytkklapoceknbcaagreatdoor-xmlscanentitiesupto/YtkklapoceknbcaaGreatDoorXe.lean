/- Several texts, laid as one. -/
import Derived.Test.YtkklapoceknbcaaGreatDoorXd
import Derived.Test.YtkklapoceknbcaaGreatDoorXmlEscP
/- An entity of printable letters: what is scanned of a document that declares it and refers to it, in plain terms. -/
namespace Go.Proofs.YtkklapoceknbcaaGreatDoor
/-- A document whose type declares one entity. -/
def entL (n t E : List Nat) : List Nat := 60 :: 33 :: 68 :: 79 :: 67 :: 84 :: 89 :: 80 :: 69 :: 32 :: 97 :: 32 :: 91 :: 60 :: 33 :: 69 :: 78 :: 84 :: 73 :: 84 :: 89 :: 32 :: (n ++ 32 :: 34 :: (t ++ 34 :: 62 :: 93 :: 62 :: E))
def entN (n : List Nat) : Prop := n = [101] ∨ n = [108, 116, 45, 101]
theorem adv_zero (s : RS) : s.adv 0 = s := by unfold RS.adv; simp
theorem blanks_at (P R : List Nat) (c : Nat) (ents : List (List Nat × List Nat)) (sp : Nat) (opn : List (List Nat)) (toks : List XTok) (run : List Nat) (k : Nat) (h : blankC c = false) : (⟨P, c :: R, ents, sp, opn, toks, run, k⟩ : RS).blanks = ⟨P, c :: R, ents, sp, opn, toks, run, k⟩ := by
  unfold RS.blanks
  rw [show (⟨P, c :: R, ents, sp, opn, toks, run, k⟩ : RS).rest.takeWhile blankC = [] by show (c :: R).takeWhile blankC = []; rw [List.takeWhile_cons, h]; rfl]
  exact adv_zero _
theorem cutL_one {q : Nat} : ∀ (t Y : List Nat), (∀ c ∈ t, c ≠ q) → cutL [q] (t ++ q :: Y) = some (t, Y)
  | [], Y, _ => by
    show cutL [q] (q :: Y) = _
    unfold cutL
    simp [List.isPrefixOf]
  | c :: t, Y, h => by
    show cutL [q] (c :: (t ++ q :: Y)) = _
    unfold cutL
    have hc : (q == c) = false := by simpa using Ne.symm (h c (by simp))
    rw [show [q].isPrefixOf (c :: (t ++ q :: Y)) = false by simp [List.isPrefixOf, hc], if_neg (by decide), cutL_one t Y (fun x hx => h x (by simp [hx]))]
    rfl
theorem quoted_ahead (P t Y : List Nat) (ents : List (List Nat × List Nat)) (sp : Nat) (opn : List (List Nat)) (toks : List XTok) (run : List Nat) (k : Nat) (h : ∀ c ∈ t, c ≠ 34) :
    (⟨P, 34 :: (t ++ 34 :: Y), ents, sp, opn, toks, run, k⟩ : RS).quoted = some (t, ⟨P ++ [34] ++ (t ++ [34]), Y, ents, sp, opn, toks, run, k⟩) := by
  have e1 : (⟨P, 34 :: (t ++ 34 :: Y), ents, sp, opn, toks, run, k⟩ : RS).quote = some (34, ⟨P ++ [34], t ++ 34 :: Y, ents, sp, opn, toks, run, k⟩) := rfl
  unfold RS.quoted
  rw [e1]
  unfold RS.takeTo
  simp only
  rw [cutL_one t Y h]
  unfold RS.adv
  simp only [Option.map_some, List.length_singleton]
  rw [List.take_append, List.take_of_length_le (by omega), List.drop_append, List.drop_of_length_le (by omega), Nat.add_sub_cancel_left]
  simp
theorem refsOk_no : ∀ (t u : List Nat), (∀ c ∈ t, c ≠ 38) → refsOk (t ++ u) = refsOk u
  | [], _, _ => rfl
  | c :: t, u, h => by
    have hc : (c != 38) = true := by simpa using h c (by simp)
    show ((c != 38 || (readRef (c :: (t ++ u))).isSome) && refsOk (t ++ u)) = _
    rw [hc, Bool.true_or, Bool.true_and, refsOk_no t u (fun x hx => h x (by simp [hx]))]
theorem declGo_two (P X : List Nat) (e : List (List Nat × List Nat)) (g : Nat) (s : RS) (h1 : s.blanks.declOne = some ⟨P, 93 :: X, e, 0, [], [], [], 0⟩) (h2 : heads 93 s.blanks.rest = false) : RS.declGo (g + 2) s = .ok ⟨P ++ [93], X, e, 0, [], [], [], 0⟩ := by
  rw [declGo_eq, h2, if_neg (by decide), h1]
  simp only
  rw [declGo_eq, blanks_at P X 93 _ _ _ _ _ _ rfl]
  rfl
theorem type_1a (t E : List Nat) : (⟨[60, 33, 68, 79, 67, 84, 89, 80, 69, 32, 97, 32, 91], 60 :: 33 :: 69 :: 78 :: 84 :: 73 :: 84 :: 89 :: 32 :: 101 :: 32 :: 34 :: (t ++ 34 :: 62 :: 93 :: 62 :: E), [], 0, [], [], [], 0⟩ : RS).declOne = (⟨[60, 33, 68, 79, 67, 84, 89, 80, 69, 32, 97, 32, 91, 60, 33, 69, 78, 84, 73, 84, 89], 32 :: 101 :: 32 :: 34 :: (t ++ 34 :: 62 :: 93 :: 62 :: E), [], 0, [], [], [], 0⟩ : RS).entity := by
  unfold RS.declOne
  rw [show (⟨[60, 33, 68, 79, 67, 84, 89, 80, 69, 32, 97, 32, 91], 60 :: 33 :: 69 :: 78 :: 84 :: 73 :: 84 :: 89 :: 32 :: 101 :: 32 :: 34 :: (t ++ 34 :: 62 :: 93 :: 62 :: E), [], 0, [], [], [], 0⟩ : RS).sees [60, 33, 45, 45] = false from rfl, if_neg (by decide), show (⟨[60, 33, 68, 79, 67, 84, 89, 80, 69, 32, 97, 32, 91], 60 :: 33 :: 69 :: 78 :: 84 :: 73 :: 84 :: 89 :: 32 :: 101 :: 32 :: 34 :: (t ++ 34 :: 62 :: 93 :: 62 :: E), [], 0, [], [], [], 0⟩ : RS).sees [60, 63] = false from rfl, if_neg (by decide), show (⟨[60, 33, 68, 79, 67, 84, 89, 80, 69, 32, 97, 32, 91], 60 :: 33 :: 69 :: 78 :: 84 :: 73 :: 84 :: 89 :: 32 :: 101 :: 32 :: 34 :: (t ++ 34 :: 62 :: 93 :: 62 :: E), [], 0, [], [], [], 0⟩ : RS).sees [60, 33, 69, 78, 84, 73, 84, 89] = true from rfl, if_pos rfl, show (⟨[60, 33, 68, 79, 67, 84, 89, 80, 69, 32, 97, 32, 91], 60 :: 33 :: 69 :: 78 :: 84 :: 73 :: 84 :: 89 :: 32 :: 101 :: 32 :: 34 :: (t ++ 34 :: 62 :: 93 :: 62 :: E), [], 0, [], [], [], 0⟩ : RS).adv 8 = ⟨[60, 33, 68, 79, 67, 84, 89, 80, 69, 32, 97, 32, 91, 60, 33, 69, 78, 84, 73, 84, 89], 32 :: 101 :: 32 :: 34 :: (t ++ 34 :: 62 :: 93 :: 62 :: E), [], 0, [], [], [], 0⟩ from rfl]
theorem type_1b (t E : List Nat) (h : ∀ c ∈ t, c ≠ 34) (hi : isEntText t = true) : ∃ P, (⟨[60, 33, 68, 79, 67, 84, 89, 80, 69, 32, 97, 32, 91], 60 :: 33 :: 69 :: 78 :: 84 :: 73 :: 84 :: 89 :: 32 :: 101 :: 32 :: 34 :: (t ++ 34 :: 62 :: 93 :: 62 :: E), [], 0, [], [], [], 0⟩ : RS).declOne = some ⟨P, 93 :: 62 :: E, [([101], t)], 0, [], [], [], 0⟩ := by
  have hq := quoted_ahead [60, 33, 68, 79, 67, 84, 89, 80, 69, 32, 97, 32, 91, 60, 33, 69, 78, 84, 73, 84, 89, 32, 101, 32] t (62 :: 93 :: 62 :: E) [] 0 [] [] [] 0 h
  rw [type_1a, entity_eq]
  rw [show (⟨[60, 33, 68, 79, 67, 84, 89, 80, 69, 32, 97, 32, 91, 60, 33, 69, 78, 84, 73, 84, 89], 32 :: 101 :: 32 :: 34 :: (t ++ 34 :: 62 :: 93 :: 62 :: E), [], 0, [], [], [], 0⟩ : RS).blank = true from rfl, Bool.not_true, if_neg (by decide)]
  rw [show (⟨[60, 33, 68, 79, 67, 84, 89, 80, 69, 32, 97, 32, 91, 60, 33, 69, 78, 84, 73, 84, 89], 32 :: 101 :: 32 :: 34 :: (t ++ 34 :: 62 :: 93 :: 62 :: E), [], 0, [], [], [], 0⟩ : RS).blanks = ⟨[60, 33, 68, 79, 67, 84, 89, 80, 69, 32, 97, 32, 91, 60, 33, 69, 78, 84, 73, 84, 89, 32], 101 :: 32 :: 34 :: (t ++ 34 :: 62 :: 93 :: 62 :: E), [], 0, [], [], [], 0⟩ from rfl]
  rw [show nameA (⟨[60, 33, 68, 79, 67, 84, 89, 80, 69, 32, 97, 32, 91, 60, 33, 69, 78, 84, 73, 84, 89, 32], 101 :: 32 :: 34 :: (t ++ 34 :: 62 :: 93 :: 62 :: E), [], 0, [], [], [], 0⟩ : RS).rest = [101] from rfl]
  rw [show (⟨[60, 33, 68, 79, 67, 84, 89, 80, 69, 32, 97, 32, 91, 60, 33, 69, 78, 84, 73, 84, 89, 32], 101 :: 32 :: 34 :: (t ++ 34 :: 62 :: 93 :: 62 :: E), [], 0, [], [], [], 0⟩ : RS).name.blank = true from rfl, if_neg (by decide)]
  rw [show (⟨[60, 33, 68, 79, 67, 84, 89, 80, 69, 32, 97, 32, 91, 60, 33, 69, 78, 84, 73, 84, 89, 32], 101 :: 32 :: 34 :: (t ++ 34 :: 62 :: 93 :: 62 :: E), [], 0, [], [], [], 0⟩ : RS).name.blanks = ⟨[60, 33, 68, 79, 67, 84, 89, 80, 69, 32, 97, 32, 91, 60, 33, 69, 78, 84, 73, 84, 89, 32, 101, 32], 34 :: (t ++ 34 :: 62 :: 93 :: 62 :: E), [], 0, [], [], [], 0⟩ from rfl, hq]
  simp only
  rw [hi, Bool.not_true, if_neg (by decide), blanks_at _ _ 62 _ _ _ _ _ _ rfl]
  exact ⟨_, rfl⟩
theorem type_1 (t E : List Nat) (h : ∀ c ∈ t, c ≠ 34) (hi : isEntText t = true) : ∃ P, (RS.start (entL [101] t E)).doctype = .ok ⟨P, E, [([101], t)], 0, [], [], [], 0⟩ := by
  obtain ⟨P, ho⟩ := type_1b t E h hi
  have hb : (⟨[60, 33, 68, 79, 67, 84, 89, 80, 69, 32, 97, 32, 91], 60 :: 33 :: 69 :: 78 :: 84 :: 73 :: 84 :: 89 :: 32 :: 101 :: 32 :: 34 :: (t ++ 34 :: 62 :: 93 :: 62 :: E), [], 0, [], [], [], 0⟩ : RS).blanks = ⟨[60, 33, 68, 79, 67, 84, 89, 80, 69, 32, 97, 32, 91], 60 :: 33 :: 69 :: 78 :: 84 :: 73 :: 84 :: 89 :: 32 :: 101 :: 32 :: 34 :: (t ++ 34 :: 62 :: 93 :: 62 :: E), [], 0, [], [], [], 0⟩ := rfl
  have hg : RS.declGo ((⟨[60, 33, 68, 79, 67, 84, 89, 80, 69, 32, 97, 32, 91], 60 :: 33 :: 69 :: 78 :: 84 :: 73 :: 84 :: 89 :: 32 :: 101 :: 32 :: 34 :: (t ++ 34 :: 62 :: 93 :: 62 :: E), [], 0, [], [], [], 0⟩ : RS).rest.length + 1) ⟨[60, 33, 68, 79, 67, 84, 89, 80, 69, 32, 97, 32, 91], 60 :: 33 :: 69 :: 78 :: 84 :: 73 :: 84 :: 89 :: 32 :: 101 :: 32 :: 34 :: (t ++ 34 :: 62 :: 93 :: 62 :: E), [], 0, [], [], [], 0⟩ = .ok ⟨P ++ [93], 62 :: E, [([101], t)], 0, [], [], [], 0⟩ := by
    rw [show (⟨[60, 33, 68, 79, 67, 84, 89, 80, 69, 32, 97, 32, 91], 60 :: 33 :: 69 :: 78 :: 84 :: 73 :: 84 :: 89 :: 32 :: 101 :: 32 :: 34 :: (t ++ 34 :: 62 :: 93 :: 62 :: E), [], 0, [], [], [], 0⟩ : RS).rest.length + 1 = (t ++ 34 :: 62 :: 93 :: 62 :: E).length + 11 + 2 from rfl]
    exact declGo_two P (62 :: E) _ _ _ (by rw [hb]; exact ho) rfl
  have hm : typeMid ⟨[60, 33, 68, 79, 67, 84, 89, 80, 69, 32, 97, 32], 91 :: 60 :: 33 :: 69 :: 78 :: 84 :: 73 :: 84 :: 89 :: 32 :: 101 :: 32 :: 34 :: (t ++ 34 :: 62 :: 93 :: 62 :: E), [], 0, [], [], [], 0⟩ = .ok ⟨P ++ [93], 62 :: E, [([101], t)], 0, [], [], [], 0⟩ := by
    unfold typeMid
    rw [show heads 91 (⟨[60, 33, 68, 79, 67, 84, 89, 80, 69, 32, 97, 32], 91 :: 60 :: 33 :: 69 :: 78 :: 84 :: 73 :: 84 :: 89 :: 32 :: 101 :: 32 :: 34 :: (t ++ 34 :: 62 :: 93 :: 62 :: E), [], 0, [], [], [], 0⟩ : RS).rest = true from rfl, if_pos rfl, show (⟨[60, 33, 68, 79, 67, 84, 89, 80, 69, 32, 97, 32], 91 :: 60 :: 33 :: 69 :: 78 :: 84 :: 73 :: 84 :: 89 :: 32 :: 101 :: 32 :: 34 :: (t ++ 34 :: 62 :: 93 :: 62 :: E), [], 0, [], [], [], 0⟩ : RS).adv 1 = ⟨[60, 33, 68, 79, 67, 84, 89, 80, 69, 32, 97, 32, 91], 60 :: 33 :: 69 :: 78 :: 84 :: 73 :: 84 :: 89 :: 32 :: 101 :: 32 :: 34 :: (t ++ 34 :: 62 :: 93 :: 62 :: E), [], 0, [], [], [], 0⟩ from rfl]
    exact hg
  have he : entL [101] t E = 60 :: 33 :: 68 :: 79 :: 67 :: 84 :: 89 :: 80 :: 69 :: 32 :: 97 :: 32 :: 91 :: 60 :: 33 :: 69 :: 78 :: 84 :: 73 :: 84 :: 89 :: 32 :: 101 :: 32 :: 34 :: (t ++ 34 :: 62 :: 93 :: 62 :: E) := rfl
  rw [doctype_eq, he]
  rw [show (RS.start (60 :: 33 :: 68 :: 79 :: 67 :: 84 :: 89 :: 80 :: 69 :: 32 :: 97 :: 32 :: 91 :: 60 :: 33 :: 69 :: 78 :: 84 :: 73 :: 84 :: 89 :: 32 :: 101 :: 32 :: 34 :: (t ++ 34 :: 62 :: 93 :: 62 :: E))).take [60, 33, 68, 79, 67, 84, 89, 80, 69] = ⟨[60, 33, 68, 79, 67, 84, 89, 80, 69], 32 :: 97 :: 32 :: 91 :: 60 :: 33 :: 69 :: 78 :: 84 :: 73 :: 84 :: 89 :: 32 :: 101 :: 32 :: 34 :: (t ++ 34 :: 62 :: 93 :: 62 :: E), [], 0, [], [], [], 0⟩ from rfl]
  rw [show (⟨[60, 33, 68, 79, 67, 84, 89, 80, 69], 32 :: 97 :: 32 :: 91 :: 60 :: 33 :: 69 :: 78 :: 84 :: 73 :: 84 :: 89 :: 32 :: 101 :: 32 :: 34 :: (t ++ 34 :: 62 :: 93 :: 62 :: E), [], 0, [], [], [], 0⟩ : RS).blank = true from rfl]
  rw [show (⟨[60, 33, 68, 79, 67, 84, 89, 80, 69], 32 :: 97 :: 32 :: 91 :: 60 :: 33 :: 69 :: 78 :: 84 :: 73 :: 84 :: 89 :: 32 :: 101 :: 32 :: 34 :: (t ++ 34 :: 62 :: 93 :: 62 :: E), [], 0, [], [], [], 0⟩ : RS).blanks = ⟨[60, 33, 68, 79, 67, 84, 89, 80, 69, 32], 97 :: 32 :: 91 :: 60 :: 33 :: 69 :: 78 :: 84 :: 73 :: 84 :: 89 :: 32 :: 101 :: 32 :: 34 :: (t ++ 34 :: 62 :: 93 :: 62 :: E), [], 0, [], [], [], 0⟩ from rfl]
  rw [show qnameA (⟨[60, 33, 68, 79, 67, 84, 89, 80, 69, 32], 97 :: 32 :: 91 :: 60 :: 33 :: 69 :: 78 :: 84 :: 73 :: 84 :: 89 :: 32 :: 101 :: 32 :: 34 :: (t ++ 34 :: 62 :: 93 :: 62 :: E), [], 0, [], [], [], 0⟩ : RS).rest = [97] from rfl, if_neg (by decide)]
  rw [show (⟨[60, 33, 68, 79, 67, 84, 89, 80, 69, 32], 97 :: 32 :: 91 :: 60 :: 33 :: 69 :: 78 :: 84 :: 73 :: 84 :: 89 :: 32 :: 101 :: 32 :: 34 :: (t ++ 34 :: 62 :: 93 :: 62 :: E), [], 0, [], [], [], 0⟩ : RS).qname.blanks = ⟨[60, 33, 68, 79, 67, 84, 89, 80, 69, 32, 97, 32], 91 :: 60 :: 33 :: 69 :: 78 :: 84 :: 73 :: 84 :: 89 :: 32 :: 101 :: 32 :: 34 :: (t ++ 34 :: 62 :: 93 :: 62 :: E), [], 0, [], [], [], 0⟩ from rfl, hm]
  simp only
  rw [blanks_at _ _ 62 _ _ _ _ _ _ rfl]
  exact ⟨_, rfl⟩
theorem type_4a (t E : List Nat) : (⟨[60, 33, 68, 79, 67, 84, 89, 80, 69, 32, 97, 32, 91], 60 :: 33 :: 69 :: 78 :: 84 :: 73 :: 84 :: 89 :: 32 :: 108 :: 116 :: 45 :: 101 :: 32 :: 34 :: (t ++ 34 :: 62 :: 93 :: 62 :: E), [], 0, [], [], [], 0⟩ : RS).declOne = (⟨[60, 33, 68, 79, 67, 84, 89, 80, 69, 32, 97, 32, 91, 60, 33, 69, 78, 84, 73, 84, 89], 32 :: 108 :: 116 :: 45 :: 101 :: 32 :: 34 :: (t ++ 34 :: 62 :: 93 :: 62 :: E), [], 0, [], [], [], 0⟩ : RS).entity := by
  unfold RS.declOne
  rw [show (⟨[60, 33, 68, 79, 67, 84, 89, 80, 69, 32, 97, 32, 91], 60 :: 33 :: 69 :: 78 :: 84 :: 73 :: 84 :: 89 :: 32 :: 108 :: 116 :: 45 :: 101 :: 32 :: 34 :: (t ++ 34 :: 62 :: 93 :: 62 :: E), [], 0, [], [], [], 0⟩ : RS).sees [60, 33, 45, 45] = false from rfl, if_neg (by decide), show (⟨[60, 33, 68, 79, 67, 84, 89, 80, 69, 32, 97, 32, 91], 60 :: 33 :: 69 :: 78 :: 84 :: 73 :: 84 :: 89 :: 32 :: 108 :: 116 :: 45 :: 101 :: 32 :: 34 :: (t ++ 34 :: 62 :: 93 :: 62 :: E), [], 0, [], [], [], 0⟩ : RS).sees [60, 63] = false from rfl, if_neg (by decide), show (⟨[60, 33, 68, 79, 67, 84, 89, 80, 69, 32, 97, 32, 91], 60 :: 33 :: 69 :: 78 :: 84 :: 73 :: 84 :: 89 :: 32 :: 108 :: 116 :: 45 :: 101 :: 32 :: 34 :: (t ++ 34 :: 62 :: 93 :: 62 :: E), [], 0, [], [], [], 0⟩ : RS).sees [60, 33, 69, 78, 84, 73, 84, 89] = true from rfl, if_pos rfl, show (⟨[60, 33, 68, 79, 67, 84, 89, 80, 69, 32, 97, 32, 91], 60 :: 33 :: 69 :: 78 :: 84 :: 73 :: 84 :: 89 :: 32 :: 108 :: 116 :: 45 :: 101 :: 32 :: 34 :: (t ++ 34 :: 62 :: 93 :: 62 :: E), [], 0, [], [], [], 0⟩ : RS).adv 8 = ⟨[60, 33, 68, 79, 67, 84, 89, 80, 69, 32, 97, 32, 91, 60, 33, 69, 78, 84, 73, 84, 89], 32 :: 108 :: 116 :: 45 :: 101 :: 32 :: 34 :: (t ++ 34 :: 62 :: 93 :: 62 :: E), [], 0, [], [], [], 0⟩ from rfl]
theorem type_4b (t E : List Nat) (h : ∀ c ∈ t, c ≠ 34) (hi : isEntText t = true) : ∃ P, (⟨[60, 33, 68, 79, 67, 84, 89, 80, 69, 32, 97, 32, 91], 60 :: 33 :: 69 :: 78 :: 84 :: 73 :: 84 :: 89 :: 32 :: 108 :: 116 :: 45 :: 101 :: 32 :: 34 :: (t ++ 34 :: 62 :: 93 :: 62 :: E), [], 0, [], [], [], 0⟩ : RS).declOne = some ⟨P, 93 :: 62 :: E, [([108, 116, 45, 101], t)], 0, [], [], [], 0⟩ := by
  have hq := quoted_ahead [60, 33, 68, 79, 67, 84, 89, 80, 69, 32, 97, 32, 91, 60, 33, 69, 78, 84, 73, 84, 89, 32, 108, 116, 45, 101, 32] t (62 :: 93 :: 62 :: E) [] 0 [] [] [] 0 h
  rw [type_4a, entity_eq]
  rw [show (⟨[60, 33, 68, 79, 67, 84, 89, 80, 69, 32, 97, 32, 91, 60, 33, 69, 78, 84, 73, 84, 89], 32 :: 108 :: 116 :: 45 :: 101 :: 32 :: 34 :: (t ++ 34 :: 62 :: 93 :: 62 :: E), [], 0, [], [], [], 0⟩ : RS).blank = true from rfl, Bool.not_true, if_neg (by decide)]
  rw [show (⟨[60, 33, 68, 79, 67, 84, 89, 80, 69, 32, 97, 32, 91, 60, 33, 69, 78, 84, 73, 84, 89], 32 :: 108 :: 116 :: 45 :: 101 :: 32 :: 34 :: (t ++ 34 :: 62 :: 93 :: 62 :: E), [], 0, [], [], [], 0⟩ : RS).blanks = ⟨[60, 33, 68, 79, 67, 84, 89, 80, 69, 32, 97, 32, 91, 60, 33, 69, 78, 84, 73, 84, 89, 32], 108 :: 116 :: 45 :: 101 :: 32 :: 34 :: (t ++ 34 :: 62 :: 93 :: 62 :: E), [], 0, [], [], [], 0⟩ from rfl]
  rw [show nameA (⟨[60, 33, 68, 79, 67, 84, 89, 80, 69, 32, 97, 32, 91, 60, 33, 69, 78, 84, 73, 84, 89, 32], 108 :: 116 :: 45 :: 101 :: 32 :: 34 :: (t ++ 34 :: 62 :: 93 :: 62 :: E), [], 0, [], [], [], 0⟩ : RS).rest = [108, 116, 45, 101] from rfl]
  rw [show (⟨[60, 33, 68, 79, 67, 84, 89, 80, 69, 32, 97, 32, 91, 60, 33, 69, 78, 84, 73, 84, 89, 32], 108 :: 116 :: 45 :: 101 :: 32 :: 34 :: (t ++ 34 :: 62 :: 93 :: 62 :: E), [], 0, [], [], [], 0⟩ : RS).name.blank = true from rfl, if_neg (by decide)]
  rw [show (⟨[60, 33, 68, 79, 67, 84, 89, 80, 69, 32, 97, 32, 91, 60, 33, 69, 78, 84, 73, 84, 89, 32], 108 :: 116 :: 45 :: 101 :: 32 :: 34 :: (t ++ 34 :: 62 :: 93 :: 62 :: E), [], 0, [], [], [], 0⟩ : RS).name.blanks = ⟨[60, 33, 68, 79, 67, 84, 89, 80, 69, 32, 97, 32, 91, 60, 33, 69, 78, 84, 73, 84, 89, 32, 108, 116, 45, 101, 32], 34 :: (t ++ 34 :: 62 :: 93 :: 62 :: E), [], 0, [], [], [], 0⟩ from rfl, hq]
  simp only
  rw [hi, Bool.not_true, if_neg (by decide), blanks_at _ _ 62 _ _ _ _ _ _ rfl]
  exact ⟨_, rfl⟩
theorem type_4 (t E : List Nat) (h : ∀ c ∈ t, c ≠ 34) (hi : isEntText t = true) : ∃ P, (RS.start (entL [108, 116, 45, 101] t E)).doctype = .ok ⟨P, E, [([108, 116, 45, 101], t)], 0, [], [], [], 0⟩ := by
  obtain ⟨P, ho⟩ := type_4b t E h hi
  have hb : (⟨[60, 33, 68, 79, 67, 84, 89, 80, 69, 32, 97, 32, 91], 60 :: 33 :: 69 :: 78 :: 84 :: 73 :: 84 :: 89 :: 32 :: 108 :: 116 :: 45 :: 101 :: 32 :: 34 :: (t ++ 34 :: 62 :: 93 :: 62 :: E), [], 0, [], [], [], 0⟩ : RS).blanks = ⟨[60, 33, 68, 79, 67, 84, 89, 80, 69, 32, 97, 32, 91], 60 :: 33 :: 69 :: 78 :: 84 :: 73 :: 84 :: 89 :: 32 :: 108 :: 116 :: 45 :: 101 :: 32 :: 34 :: (t ++ 34 :: 62 :: 93 :: 62 :: E), [], 0, [], [], [], 0⟩ := rfl
  have hg : RS.declGo ((⟨[60, 33, 68, 79, 67, 84, 89, 80, 69, 32, 97, 32, 91], 60 :: 33 :: 69 :: 78 :: 84 :: 73 :: 84 :: 89 :: 32 :: 108 :: 116 :: 45 :: 101 :: 32 :: 34 :: (t ++ 34 :: 62 :: 93 :: 62 :: E), [], 0, [], [], [], 0⟩ : RS).rest.length + 1) ⟨[60, 33, 68, 79, 67, 84, 89, 80, 69, 32, 97, 32, 91], 60 :: 33 :: 69 :: 78 :: 84 :: 73 :: 84 :: 89 :: 32 :: 108 :: 116 :: 45 :: 101 :: 32 :: 34 :: (t ++ 34 :: 62 :: 93 :: 62 :: E), [], 0, [], [], [], 0⟩ = .ok ⟨P ++ [93], 62 :: E, [([108, 116, 45, 101], t)], 0, [], [], [], 0⟩ := by
    rw [show (⟨[60, 33, 68, 79, 67, 84, 89, 80, 69, 32, 97, 32, 91], 60 :: 33 :: 69 :: 78 :: 84 :: 73 :: 84 :: 89 :: 32 :: 108 :: 116 :: 45 :: 101 :: 32 :: 34 :: (t ++ 34 :: 62 :: 93 :: 62 :: E), [], 0, [], [], [], 0⟩ : RS).rest.length + 1 = (t ++ 34 :: 62 :: 93 :: 62 :: E).length + 14 + 2 from rfl]
    exact declGo_two P (62 :: E) _ _ _ (by rw [hb]; exact ho) rfl
  have hm : typeMid ⟨[60, 33, 68, 79, 67, 84, 89, 80, 69, 32, 97, 32], 91 :: 60 :: 33 :: 69 :: 78 :: 84 :: 73 :: 84 :: 89 :: 32 :: 108 :: 116 :: 45 :: 101 :: 32 :: 34 :: (t ++ 34 :: 62 :: 93 :: 62 :: E), [], 0, [], [], [], 0⟩ = .ok ⟨P ++ [93], 62 :: E, [([108, 116, 45, 101], t)], 0, [], [], [], 0⟩ := by
    unfold typeMid
    rw [show heads 91 (⟨[60, 33, 68, 79, 67, 84, 89, 80, 69, 32, 97, 32], 91 :: 60 :: 33 :: 69 :: 78 :: 84 :: 73 :: 84 :: 89 :: 32 :: 108 :: 116 :: 45 :: 101 :: 32 :: 34 :: (t ++ 34 :: 62 :: 93 :: 62 :: E), [], 0, [], [], [], 0⟩ : RS).rest = true from rfl, if_pos rfl, show (⟨[60, 33, 68, 79, 67, 84, 89, 80, 69, 32, 97, 32], 91 :: 60 :: 33 :: 69 :: 78 :: 84 :: 73 :: 84 :: 89 :: 32 :: 108 :: 116 :: 45 :: 101 :: 32 :: 34 :: (t ++ 34 :: 62 :: 93 :: 62 :: E), [], 0, [], [], [], 0⟩ : RS).adv 1 = ⟨[60, 33, 68, 79, 67, 84, 89, 80, 69, 32, 97, 32, 91], 60 :: 33 :: 69 :: 78 :: 84 :: 73 :: 84 :: 89 :: 32 :: 108 :: 116 :: 45 :: 101 :: 32 :: 34 :: (t ++ 34 :: 62 :: 93 :: 62 :: E), [], 0, [], [], [], 0⟩ from rfl]
    exact hg
  have he : entL [108, 116, 45, 101] t E = 60 :: 33 :: 68 :: 79 :: 67 :: 84 :: 89 :: 80 :: 69 :: 32 :: 97 :: 32 :: 91 :: 60 :: 33 :: 69 :: 78 :: 84 :: 73 :: 84 :: 89 :: 32 :: 108 :: 116 :: 45 :: 101 :: 32 :: 34 :: (t ++ 34 :: 62 :: 93 :: 62 :: E) := rfl
  rw [doctype_eq, he]
  rw [show (RS.start (60 :: 33 :: 68 :: 79 :: 67 :: 84 :: 89 :: 80 :: 69 :: 32 :: 97 :: 32 :: 91 :: 60 :: 33 :: 69 :: 78 :: 84 :: 73 :: 84 :: 89 :: 32 :: 108 :: 116 :: 45 :: 101 :: 32 :: 34 :: (t ++ 34 :: 62 :: 93 :: 62 :: E))).take [60, 33, 68, 79, 67, 84, 89, 80, 69] = ⟨[60, 33, 68, 79, 67, 84, 89, 80, 69], 32 :: 97 :: 32 :: 91 :: 60 :: 33 :: 69 :: 78 :: 84 :: 73 :: 84 :: 89 :: 32 :: 108 :: 116 :: 45 :: 101 :: 32 :: 34 :: (t ++ 34 :: 62 :: 93 :: 62 :: E), [], 0, [], [], [], 0⟩ from rfl]
  rw [show (⟨[60, 33, 68, 79, 67, 84, 89, 80, 69], 32 :: 97 :: 32 :: 91 :: 60 :: 33 :: 69 :: 78 :: 84 :: 73 :: 84 :: 89 :: 32 :: 108 :: 116 :: 45 :: 101 :: 32 :: 34 :: (t ++ 34 :: 62 :: 93 :: 62 :: E), [], 0, [], [], [], 0⟩ : RS).blank = true from rfl]
  rw [show (⟨[60, 33, 68, 79, 67, 84, 89, 80, 69], 32 :: 97 :: 32 :: 91 :: 60 :: 33 :: 69 :: 78 :: 84 :: 73 :: 84 :: 89 :: 32 :: 108 :: 116 :: 45 :: 101 :: 32 :: 34 :: (t ++ 34 :: 62 :: 93 :: 62 :: E), [], 0, [], [], [], 0⟩ : RS).blanks = ⟨[60, 33, 68, 79, 67, 84, 89, 80, 69, 32], 97 :: 32 :: 91 :: 60 :: 33 :: 69 :: 78 :: 84 :: 73 :: 84 :: 89 :: 32 :: 108 :: 116 :: 45 :: 101 :: 32 :: 34 :: (t ++ 34 :: 62 :: 93 :: 62 :: E), [], 0, [], [], [], 0⟩ from rfl]
  rw [show qnameA (⟨[60, 33, 68, 79, 67, 84, 89, 80, 69, 32], 97 :: 32 :: 91 :: 60 :: 33 :: 69 :: 78 :: 84 :: 73 :: 84 :: 89 :: 32 :: 108 :: 116 :: 45 :: 101 :: 32 :: 34 :: (t ++ 34 :: 62 :: 93 :: 62 :: E), [], 0, [], [], [], 0⟩ : RS).rest = [97] from rfl, if_neg (by decide)]
  rw [show (⟨[60, 33, 68, 79, 67, 84, 89, 80, 69, 32], 97 :: 32 :: 91 :: 60 :: 33 :: 69 :: 78 :: 84 :: 73 :: 84 :: 89 :: 32 :: 108 :: 116 :: 45 :: 101 :: 32 :: 34 :: (t ++ 34 :: 62 :: 93 :: 62 :: E), [], 0, [], [], [], 0⟩ : RS).qname.blanks = ⟨[60, 33, 68, 79, 67, 84, 89, 80, 69, 32, 97, 32], 91 :: 60 :: 33 :: 69 :: 78 :: 84 :: 73 :: 84 :: 89 :: 32 :: 108 :: 116 :: 45 :: 101 :: 32 :: 34 :: (t ++ 34 :: 62 :: 93 :: 62 :: E), [], 0, [], [], [], 0⟩ from rfl, hm]
  simp only
  rw [blanks_at _ _ 62 _ _ _ _ _ _ rfl]
  exact ⟨_, rfl⟩
/-- The document type declares the entity. -/
theorem type_scan (n t E : List Nat) (hn : entN n) (h : ∀ c ∈ t, c ≠ 34) (hi : isEntText t = true) :
    ∃ P, (RS.start (entL n t E)).doctype = .ok ⟨P, E, [(n, t)], 0, [], [], [], 0⟩ := by
  rcases hn with rfl | rfl
  · exact type_1 t E h hi
  · exact type_4 t E h hi
end Go.Proofs.YtkklapoceknbcaaGreatDoor
/- An entity of printable letters comes to its text, in an element and in an attribute; in itself it is refused: in plain terms. -/
namespace Go.Proofs.YtkklapoceknbcaaGreatDoor
/-- Letters that an entity's text may hold, and no reference. -/
def EntS (s : List Nat) : Prop := ∀ c ∈ s, 32 ≤ c ∧ c ≤ 126 ∧ c ≠ 60 ∧ c ≠ 38 ∧ c ≠ 37 ∧ c ≠ 34 ∧ c ≠ 39
theorem EntS.space {s : List Nat} (h : EntS s) : s.map spaceC = s := by
  have : ∀ c ∈ s, spaceC c = id c := fun c hc => by
    have := (h c hc).1
    unfold spaceC
    by_cases hb : blankC c = true
    · rw [if_pos hb]
      unfold blankC at hb
      simp at hb
      show 32 = c
      omega
    · rw [if_neg hb]; rfl
  rw [List.map_congr_left this, List.map_id]
theorem EntS.amp {s : List Nat} (h : EntS s) : ∀ c ∈ s, c ≠ 38 := fun c hc => (h c hc).2.2.2.1
theorem EntS.flat {s : List Nat} (h : EntS s) (flat : Bool) : flatL flat s = s := by
  cases flat
  · rfl
  · exact h.space
theorem tw_amp : ∀ (s u : List Nat), (∀ c ∈ s, c ≠ 38) → (s ++ 38 :: u).takeWhile (· != 38) = s
  | [], u, _ => rfl
  | c :: s, u, h => by
    have hc : (c != 38) = true := by simpa using h c (by simp)
    show (c :: (s ++ 38 :: u)).takeWhile (· != 38) = _
    rw [List.takeWhile_cons, hc, if_pos rfl, tw_amp s u (fun x hx => h x (by simp [hx]))]
theorem tw_all : ∀ {s : List Nat}, (∀ c ∈ s, c ≠ 38) → s.takeWhile (· != 38) = s
  | [], _ => rfl
  | c :: s, h => by
    have hc : (c != 38) = true := by simpa using h c (by simp)
    rw [List.takeWhile_cons, hc, if_pos rfl, tw_all (s := s) (fun x hx => h x (by simp [hx]))]
theorem not_of {b : Bool} (h : b = false) : ¬ b = true := by rw [h]; decide
theorem entX_self (n t : List Nat) : entX [(n, t)] n = some t := by simp [entX]
theorem add_ent (n s : List Nat) (sp k : Nat) (flat : Bool) (h : EntS s) (hz : sp + (tx s).length ≤ 32768) : addX [(n, s)] flat 10 [] sp ⟨[], n, k⟩ = .ok (s, sp + (tx s).length) := by
  rw [addX]
  simp only
  rw [if_neg (by simp), entX_self]
  simp only
  rw [if_neg (by simp)]
  show textX (addX [(n, s)] flat 9 ([] ++ [n])) flat ([] ++ [n]) (s.length + 1) sp s = _
  by_cases hs : s = []
  · subst hs
    rfl
  · rw [textX, if_neg hs]
    simp only
    rw [tw_all h.amp, List.drop_length, h.flat flat]
    have e : spendX ([] ++ [n]) sp (tx s).length = .ok (sp + (tx s).length) := by
      unfold spendX
      rw [if_neg (by simp), if_neg (by omega)]
    rw [e]
    simp
theorem read_ent (n R : List Nat) (hn : entN n) : readRef (38 :: (n ++ 59 :: R)) = some ⟨[], n, n.length + 2⟩ := by
  rcases hn with rfl | rfl <;> rfl
theorem ref_ent (n s P R : List Nat) (sp : Nat) (opn : List (List Nat)) (toks : List XTok) (run : List Nat) (k : Nat) (flat : Bool) (hn : entN n) (h : EntS s) (hz : sp + (tx s).length ≤ 32768) :
    (⟨P, 38 :: (n ++ 59 :: R), [(n, s)], sp, opn, toks, run, k⟩ : RS).reference flat = .ok (s, ⟨P ++ 38 :: (n ++ [59]), R, [(n, s)], sp + (tx s).length, opn, toks, run, k⟩) := by
  unfold RS.reference
  simp only
  rw [read_ent n R hn]
  simp only
  rw [add_ent n s sp _ flat h hz]
  rcases hn with rfl | rfl <;> rfl
theorem add_self (n s : List Nat) (k : Nat) (flat : Bool) (hn : entN n) (h : EntS s) (hz : (tx s).length ≤ 32768) : addX [(n, s ++ 38 :: (n ++ [59]))] flat 10 [] 0 ⟨[], n, k⟩ = .error 6 := by
  rw [addX]
  simp only
  rw [if_neg (by simp), entX_self]
  simp only
  rw [if_neg (by simp)]
  show textX (addX [(n, s ++ 38 :: (n ++ [59]))] flat 9 ([] ++ [n])) flat ([] ++ [n]) ((s ++ 38 :: (n ++ [59])).length + 1) 0 (s ++ 38 :: (n ++ [59])) = _
  rw [textX, if_neg (by simp)]
  simp only
  rw [tw_amp s _ h.amp]
  have e : spendX ([] ++ [n]) 0 (tx s).length = .ok (tx s).length := by
    unfold spendX
    rw [if_neg (by simp), if_neg (by omega), Nat.zero_add]
  rw [e]
  simp only
  rw [List.drop_left, if_neg (by simp), read_ent n [] hn]
  simp only
  rw [addX]
  simp only
  rw [if_neg (by simp), entX_self]
  simp only
  rw [if_pos (by right; simp)]
theorem value_entT (n s P Y : List Nat) (f : Nat) (hn : entN n) (h : EntS s) (hz : (tx s).length ≤ 32768) :
    ∃ P', ∀ tag, RS.valueGo 39 tag (f + 2) (⟨P, 38 :: (n ++ 59 :: 39 :: Y), [(n, s)], 0, [], [], [], 0⟩ : RS) [] = .ok (s, ⟨P', Y, [(n, s)], (tx s).length, [], [], [], 0⟩) := by
  refine ⟨P ++ 38 :: (n ++ [59]) ++ [39], fun tag => ?_⟩
  rw [valueGo_eq]
  have e1 : (⟨P, 38 :: (n ++ 59 :: 39 :: Y), [(n, s)], 0, [], [], [], 0⟩ : RS).rest.takeWhile (plainC 39) = [] := rfl
  rw [e1, List.length_nil, adv_zero, show heads 39 (⟨P, 38 :: (n ++ 59 :: 39 :: Y), [(n, s)], 0, [], [], [], 0⟩ : RS).rest = false from rfl, show heads 38 (⟨P, 38 :: (n ++ 59 :: 39 :: Y), [(n, s)], 0, [], [], [], 0⟩ : RS).rest = true from rfl, if_neg (by decide), if_pos rfl]
  rw [ref_ent n s P (39 :: Y) 0 [] [] [] 0 true hn h (by omega)]
  simp only
  rw [valueGo_eq]
  have e2 : (⟨P ++ 38 :: (n ++ [59]), 39 :: Y, [(n, s)], 0 + (tx s).length, [], [], [], 0⟩ : RS).rest.takeWhile (plainC 39) = [] := rfl
  rw [e2, List.length_nil, adv_zero, show heads 39 (⟨P ++ 38 :: (n ++ [59]), 39 :: Y, [(n, s)], 0 + (tx s).length, [], [], [], 0⟩ : RS).rest = true from rfl, if_pos rfl, Nat.zero_add, List.map_nil, List.append_nil]
  rfl
theorem equals_at (P X : List Nat) (c : Nat) (e : List (List Nat × List Nat)) (sp : Nat) (opn : List (List Nat)) (toks : List XTok) (run : List Nat) (k : Nat) (hc : blankC c = false) :
    (⟨P, 61 :: c :: X, e, sp, opn, toks, run, k⟩ : RS).equals = some ⟨P ++ [61], c :: X, e, sp, opn, toks, run, k⟩ := by
  unfold RS.equals
  rw [blanks_at P (c :: X) 61 _ _ _ _ _ _ rfl]
  rw [show heads 61 (⟨P, 61 :: c :: X, e, sp, opn, toks, run, k⟩ : RS).rest = true from rfl, if_pos rfl]
  rw [show (⟨P, 61 :: c :: X, e, sp, opn, toks, run, k⟩ : RS).adv 1 = ⟨P ++ [61], c :: X, e, sp, opn, toks, run, k⟩ from rfl, blanks_at _ _ _ _ _ _ _ _ _ hc]
theorem tag_ent (P X Y P1 v : List Nat) (e : List (List Nat × List Nat)) (sp : Nat)
    (hv : ∀ tag, RS.valueGo 39 tag (X.length + 1) ⟨P ++ [60] ++ [97] ++ [32] ++ [98] ++ [61] ++ [39], X, e, 0, [], [], [], 0⟩ [] = .ok (v, ⟨P1, 62 :: Y, e, sp, [], [], [], 0⟩)) :
    ∃ P' k, (⟨P, 60 :: 97 :: 32 :: 98 :: 61 :: 39 :: X, e, 0, [], [], [], 0⟩ : RS).startTag = .ok ⟨P', Y, e, sp, [[97]], [⟨2, [97], [([98], v)], []⟩], [], k⟩ := by
  have e1 : (⟨P, 60 :: 97 :: 32 :: 98 :: 61 :: 39 :: X, e, 0, [], [], [], 0⟩ : RS).take [60] = ⟨P ++ [60], 97 :: 32 :: 98 :: 61 :: 39 :: X, e, 0, [], [], [], 0⟩ := rfl
  have e2 : (⟨P ++ [60], 97 :: 32 :: 98 :: 61 :: 39 :: X, e, 0, [], [], [], 0⟩ : RS).qname = ⟨P ++ [60] ++ [97], 32 :: 98 :: 61 :: 39 :: X, e, 0, [], [], [], 0⟩ := rfl
  have e3 : qnameA (97 :: 32 :: 98 :: 61 :: 39 :: X) = [97] := rfl
  have e4 : (⟨P ++ [60] ++ [97], 32 :: 98 :: 61 :: 39 :: X, e, 0, [], [], [], 0⟩ : RS).blanks = ⟨P ++ [60] ++ [97] ++ [32], 98 :: 61 :: 39 :: X, e, 0, [], [], [], 0⟩ := rfl
  have e5 : (⟨P ++ [60] ++ [97], 32 :: 98 :: 61 :: 39 :: X, e, 0, [], [], [], 0⟩ : RS).blank = true := rfl
  have e6 : (⟨P ++ [60] ++ [97] ++ [32], 98 :: 61 :: 39 :: X, e, 0, [], [], [], 0⟩ : RS).qname = ⟨P ++ [60] ++ [97] ++ [32] ++ [98], 61 :: 39 :: X, e, 0, [], [], [], 0⟩ := rfl
  have e7 : qnameA (98 :: 61 :: 39 :: X) = [98] := rfl
  have e8 := equals_at (P ++ [60] ++ [97] ++ [32] ++ [98]) X 39 e 0 [] [] [] 0 rfl
  have e9 : (⟨P ++ [60] ++ [97] ++ [32] ++ [98] ++ [61], 39 :: X, e, 0, [], [], [], 0⟩ : RS).quote = some (39, ⟨P ++ [60] ++ [97] ++ [32] ++ [98] ++ [61] ++ [39], X, e, 0, [], [], [], 0⟩) := rfl
  have e10 : ∀ tag, (⟨P ++ [60] ++ [97] ++ [32] ++ [98] ++ [61], 39 :: X, e, 0, [], [], [], 0⟩ : RS).value tag = .ok (v, ⟨P1, 62 :: Y, e, sp, [], [], [], 0⟩) := by
    intro tag
    unfold RS.value
    rw [e9]
    exact hv tag
  have e12 := blanks_at P1 Y 62 e sp [] [] [] 0 rfl
  have e11 : ∀ tag f acc, RS.attrsGo tag (f + 1) (⟨P1, 62 :: Y, e, sp, [], [], [], 0⟩ : RS) acc = .ok (acc, (⟨P1, 62 :: Y, e, sp, [], [], [], 0⟩ : RS)) := fun tag f acc => by
    rw [RS.attrsGo]
    simp only
    rw [e12]
    rfl
  have e13 : ∀ tag, (⟨P ++ [60] ++ [97], 32 :: 98 :: 61 :: 39 :: X, e, 0, [], [], [], 0⟩ : RS).attributes tag = .ok ([([98], v)], ⟨P1, 62 :: Y, e, sp, [], [], [], 0⟩) := by
    intro tag
    unfold RS.attributes
    rw [show (32 :: 98 :: 61 :: 39 :: X).length + 1 = X.length + 3 + 1 + 1 from rfl, RS.attrsGo]
    simp only
    rw [e4, e5, e6, e7, e8]
    simp only
    rw [e10]
    simp only
    rw [e11]
    rfl
  unfold RS.startTag
  simp only
  rw [e1, e2, e3, e13]
  exact ⟨_, _, rfl⟩
theorem room_ok {s : RS} (h : s.toks.length ≠ 4096) : s.room = .ok s := by
  unfold RS.room
  rw [if_neg (fun x => h x.2)]
theorem ent_ref (n s P R run : List Nat) (sp : Nat) (tok : XTok) (k : Nat) (hn : entN n) (h : EntS s) (hz : sp + (tx s).length ≤ 32768) :
    (⟨P, 38 :: (n ++ 59 :: R), [(n, s)], sp, [[97]], [tok], run, k⟩ : RS).contentOne = .ok ⟨P ++ 38 :: (n ++ [59]), R, [(n, s)], sp + (tx s).length, [[97]], [tok], run ++ s, k⟩ := by
  unfold RS.contentOne
  rw [show (⟨P, 38 :: (n ++ 59 :: R), [(n, s)], sp, [[97]], [tok], run, k⟩ : RS).sees [60, 47] = false from rfl, show (⟨P, 38 :: (n ++ 59 :: R), [(n, s)], sp, [[97]], [tok], run, k⟩ : RS).sees [60, 33, 45, 45] = false from rfl, show (⟨P, 38 :: (n ++ 59 :: R), [(n, s)], sp, [[97]], [tok], run, k⟩ : RS).sees [60, 33, 91, 67, 68, 65, 84, 65, 91] = false from rfl, show (⟨P, 38 :: (n ++ 59 :: R), [(n, s)], sp, [[97]], [tok], run, k⟩ : RS).sees [60, 63] = false from rfl, show (⟨P, 38 :: (n ++ 59 :: R), [(n, s)], sp, [[97]], [tok], run, k⟩ : RS).sees [60] = false from rfl, show (⟨P, 38 :: (n ++ 59 :: R), [(n, s)], sp, [[97]], [tok], run, k⟩ : RS).sees [38] = true from rfl]
  rw [if_neg (by decide), if_neg (by decide), if_neg (by decide), if_neg (by decide), if_neg (by decide), if_pos rfl]
  unfold RS.refRun
  rw [ref_ent n s P R sp [[97]] [tok] run k false hn h hz]
  exact room_ok (by show (1 : Nat) ≠ 4096; decide)
theorem one_self (n s P R run : List Nat) (toks : List XTok) (k : Nat) (hn : entN n) (h : EntS s) (hz : (tx s).length ≤ 32768) :
    ∃ pl, (⟨P, 38 :: (n ++ 59 :: R), [(n, s ++ 38 :: (n ++ [59]))], 0, [[97]], toks, run, k⟩ : RS).contentOne = .error (6, pl) := by
  generalize he : [(n, s ++ 38 :: (n ++ [59]))] = e
  unfold RS.contentOne
  rw [show (⟨P, 38 :: (n ++ 59 :: R), e, 0, [[97]], toks, run, k⟩ : RS).sees [60, 47] = false from rfl, show (⟨P, 38 :: (n ++ 59 :: R), e, 0, [[97]], toks, run, k⟩ : RS).sees [60, 33, 45, 45] = false from rfl, show (⟨P, 38 :: (n ++ 59 :: R), e, 0, [[97]], toks, run, k⟩ : RS).sees [60, 33, 91, 67, 68, 65, 84, 65, 91] = false from rfl, show (⟨P, 38 :: (n ++ 59 :: R), e, 0, [[97]], toks, run, k⟩ : RS).sees [60, 63] = false from rfl, show (⟨P, 38 :: (n ++ 59 :: R), e, 0, [[97]], toks, run, k⟩ : RS).sees [60] = false from rfl, show (⟨P, 38 :: (n ++ 59 :: R), e, 0, [[97]], toks, run, k⟩ : RS).sees [38] = true from rfl]
  rw [if_neg (by decide), if_neg (by decide), if_neg (by decide), if_neg (by decide), if_neg (by decide), if_pos rfl]
  unfold RS.refRun RS.reference
  simp only
  rw [read_ent n R hn]
  simp only
  rw [← he, add_self n s _ false hn h hz]
  exact ⟨_, rfl⟩
theorem one_letter (c : Nat) (P R run : List Nat) (e : List (List Nat × List Nat)) (sp : Nat) (tok : XTok) (k : Nat) (hc : c = 120 ∨ c = 121) (hp : plainA (c :: 38 :: R) = [c]) :
    (⟨P, c :: 38 :: R, e, sp, [[97]], [tok], run, k⟩ : RS).contentOne = .ok ⟨P ++ [c], 38 :: R, e, sp, [[97]], [tok], run ++ [c], k⟩ := by
  have h1 : (⟨P, c :: 38 :: R, e, sp, [[97]], [tok], run, k⟩ : RS).contentOne = (⟨P, c :: 38 :: R, e, sp, [[97]], [tok], run, k⟩ : RS).plain := by
    unfold RS.contentOne
    rcases hc with rfl | rfl
    · rw [show (⟨P, 120 :: 38 :: R, e, sp, [[97]], [tok], run, k⟩ : RS).sees [60, 47] = false from rfl, show (⟨P, 120 :: 38 :: R, e, sp, [[97]], [tok], run, k⟩ : RS).sees [60, 33, 45, 45] = false from rfl, show (⟨P, 120 :: 38 :: R, e, sp, [[97]], [tok], run, k⟩ : RS).sees [60, 33, 91, 67, 68, 65, 84, 65, 91] = false from rfl, show (⟨P, 120 :: 38 :: R, e, sp, [[97]], [tok], run, k⟩ : RS).sees [60, 63] = false from rfl, show (⟨P, 120 :: 38 :: R, e, sp, [[97]], [tok], run, k⟩ : RS).sees [60] = false from rfl, show (⟨P, 120 :: 38 :: R, e, sp, [[97]], [tok], run, k⟩ : RS).sees [38] = false from rfl, if_neg (by decide), if_neg (by decide), if_neg (by decide), if_neg (by decide), if_neg (by decide), if_neg (by decide), if_pos ⟨by simp, rfl⟩]
    · rw [show (⟨P, 121 :: 38 :: R, e, sp, [[97]], [tok], run, k⟩ : RS).sees [60, 47] = false from rfl, show (⟨P, 121 :: 38 :: R, e, sp, [[97]], [tok], run, k⟩ : RS).sees [60, 33, 45, 45] = false from rfl, show (⟨P, 121 :: 38 :: R, e, sp, [[97]], [tok], run, k⟩ : RS).sees [60, 33, 91, 67, 68, 65, 84, 65, 91] = false from rfl, show (⟨P, 121 :: 38 :: R, e, sp, [[97]], [tok], run, k⟩ : RS).sees [60, 63] = false from rfl, show (⟨P, 121 :: 38 :: R, e, sp, [[97]], [tok], run, k⟩ : RS).sees [60] = false from rfl, show (⟨P, 121 :: 38 :: R, e, sp, [[97]], [tok], run, k⟩ : RS).sees [38] = false from rfl, if_neg (by decide), if_neg (by decide), if_neg (by decide), if_neg (by decide), if_neg (by decide), if_neg (by decide), if_pos ⟨by simp, rfl⟩]
  rw [h1]
  unfold RS.plain
  simp only
  rw [hp]
  exact room_ok (by show (1 : Nat) ≠ 4096; decide)
theorem one_end (P X : List Nat) (e : List (List Nat × List Nat)) (sp : Nat) (tok : XTok) (k : Nat) :
    ∃ P' k', (⟨P, [60, 47, 97, 62], e, sp, [[97]], [tok], 120 :: X, k⟩ : RS).contentOne = .ok ⟨P', [], e, sp, [], [tok, ⟨4, [], [], 120 :: X⟩, ⟨7, [97], [], []⟩], [], k'⟩ := ⟨_, _, rfl⟩
end Go.Proofs.YtkklapoceknbcaaGreatDoor
/- The two documents of the law XmlscanEntities, in plain terms. -/
namespace Go.Proofs.YtkklapoceknbcaaGreatDoor
def entA (n : List Nat) : List Nat := 120 :: 38 :: (n ++ 59 :: 121 :: 38 :: (n ++ 59 :: [60, 47, 97, 62]))
def entB (n : List Nat) : List Nat := 60 :: 97 :: 32 :: 98 :: 61 :: 39 :: 38 :: (n ++ 59 :: 39 :: 62 :: entA n)
def entC (n : List Nat) : List Nat := 60 :: 97 :: 62 :: 38 :: (n ++ 59 :: [60, 47, 97, 62])
def entTok (s : List Nat) : XTok := ⟨2, [97], [([98], s)], []⟩
theorem body_ent (n s P : List Nat) (k : Nat) (hn : entN n) (h : EntS s) (hz : (tx s).length ≤ 3000) :
    ∃ P' k', RS.content ((⟨P, entA n, [(n, s)], (tx s).length, [[97]], [entTok s], [], k⟩ : RS).rest.length + 1) ⟨P, entA n, [(n, s)], (tx s).length, [[97]], [entTok s], [], k⟩ = .ok ⟨P', [], [(n, s)], (tx s).length + (tx s).length + (tx s).length, [], [entTok s, ⟨4, [], [], 120 :: (s ++ 121 :: s)⟩, ⟨7, [97], [], []⟩], [], k'⟩ := by
  obtain ⟨f, hf⟩ : ∃ f, (⟨P, entA n, [(n, s)], (tx s).length, [[97]], [entTok s], [], k⟩ : RS).rest.length + 1 = f + 1 + 1 + 1 + 1 + 1 + 1 := ⟨(entA n).length + 1 - 6, by
    show (entA n).length + 1 = _
    unfold entA
    simp
    omega⟩
  rw [hf]
  have p1 : plainA (120 :: 38 :: (n ++ 59 :: 121 :: 38 :: (n ++ 59 :: [60, 47, 97, 62]))) = [120] := by rcases hn with rfl | rfl <;> rfl
  have p2 : plainA (121 :: 38 :: (n ++ 59 :: [60, 47, 97, 62])) = [121] := by rcases hn with rfl | rfl <;> rfl
  have h1 := one_letter 120 P (n ++ 59 :: 121 :: 38 :: (n ++ 59 :: [60, 47, 97, 62])) [] [(n, s)] (tx s).length (entTok s) k (.inl rfl) p1
  have h2 := ent_ref n s (P ++ [120]) (121 :: 38 :: (n ++ 59 :: [60, 47, 97, 62])) ([] ++ [120]) (tx s).length (entTok s) k hn h (by omega)
  have h3 := one_letter 121 (P ++ [120] ++ 38 :: (n ++ [59])) (n ++ 59 :: [60, 47, 97, 62]) ([] ++ [120] ++ s) [(n, s)] ((tx s).length + (tx s).length) (entTok s) k (.inr rfl) p2
  have h4 := ent_ref n s (P ++ [120] ++ 38 :: (n ++ [59]) ++ [121]) [60, 47, 97, 62] ([] ++ [120] ++ s ++ [121]) ((tx s).length + (tx s).length) (entTok s) k hn h (by omega)
  have hr : [] ++ [120] ++ s ++ [121] ++ s = 120 :: (s ++ 121 :: s) := by simp
  rw [hr] at h4
  obtain ⟨P', k', h5⟩ := one_end (P ++ [120] ++ 38 :: (n ++ [59]) ++ [121] ++ 38 :: (n ++ [59])) (s ++ 121 :: s) [(n, s)] ((tx s).length + (tx s).length + (tx s).length) (entTok s) k
  rw [content_step (by simp) (show (⟨P, entA n, [(n, s)], (tx s).length, [[97]], [entTok s], [], k⟩ : RS).contentOne = _ from h1), content_step (by simp) h2, content_step (by simp) h3, content_step (by simp) h4, content_step (by simp) h5, RS.content, if_pos rfl]
  exact ⟨_, _, rfl⟩
theorem elem_ent (n s P : List Nat) (hn : entN n) (h : EntS s) (hz : (tx s).length ≤ 3000) :
    ∃ P' k' sp, docElem ⟨P, entB n, [(n, s)], 0, [], [], [], 0⟩ = .ok ⟨P', [], [(n, s)], sp, [], [entTok s, ⟨4, [], [], 120 :: (s ++ 121 :: s)⟩, ⟨7, [97], [], []⟩], [], k'⟩ := by
  obtain ⟨f, hf⟩ : ∃ f, (38 :: (n ++ 59 :: 39 :: 62 :: entA n)).length + 1 = f + 2 := ⟨(n ++ 59 :: 39 :: 62 :: entA n).length, rfl⟩
  have hv : ∃ P1, ∀ tag, RS.valueGo 39 tag ((38 :: (n ++ 59 :: 39 :: 62 :: entA n)).length + 1) (⟨P ++ [60] ++ [97] ++ [32] ++ [98] ++ [61] ++ [39], 38 :: (n ++ 59 :: 39 :: 62 :: entA n), [(n, s)], 0, [], [], [], 0⟩ : RS) [] = .ok (s, ⟨P1, 62 :: entA n, [(n, s)], (tx s).length, [], [], [], 0⟩) := by
    rw [hf]
    exact value_entT n s _ (62 :: entA n) f hn h (by omega)
  obtain ⟨P1, hv⟩ := hv
  obtain ⟨P2, k, ht⟩ := tag_ent P (38 :: (n ++ 59 :: 39 :: 62 :: entA n)) (entA n) P1 s [(n, s)] (tx s).length hv
  obtain ⟨P3, k3, hb⟩ := body_ent n s P2 k hn h hz
  refine ⟨P3, k3, (tx s).length + (tx s).length + (tx s).length, ?_⟩
  unfold docElem
  rw [show (⟨P, entB n, [(n, s)], 0, [], [], [], 0⟩ : RS).startTag = _ from ht]
  exact hb
theorem isEnt_s {s : List Nat} (h : EntS s) : isEntText s = true := by
  unfold isEntText
  have e := refsOk_no s [] h.amp
  rw [List.append_nil] at e
  rw [e, Bool.and_eq_true]
  refine ⟨List.all_eq_true.2 fun c hc => ?_, rfl⟩
  obtain ⟨_, _, h1, _, h2, _⟩ := h c hc
  simp [h1, h2]
theorem isEnt_self {n s : List Nat} (hn : entN n) (h : EntS s) : isEntText (s ++ 38 :: (n ++ [59])) = true := by
  unfold isEntText
  rw [refsOk_no s _ h.amp, Bool.and_eq_true]
  refine ⟨List.all_eq_true.2 fun c hc => ?_, by rcases hn with rfl | rfl <;> rfl⟩
  rcases List.mem_append.1 hc with hc | hc
  · obtain ⟨_, _, h1, _, h2, _⟩ := h c hc
    simp [h1, h2]
  · have : ∀ c ∈ (38 :: (n ++ [59])), (c != 60 && c != 37) = true := by rcases hn with rfl | rfl <;> decide
    exact this c hc
theorem doc_head (n t E : List Nat) (hn : entN n) (h : ∀ c ∈ t, c ≠ 34) (hi : isEntText t = true) : ∃ P f, (RS.start (entL n t E)).document = RS.docGo (f + 2) true false ⟨P, E, [(n, t)], 0, [], [], [], 0⟩ := by
  obtain ⟨P, hP⟩ := type_scan n t E hn h hi
  refine ⟨P, (n ++ 32 :: 34 :: (t ++ 34 :: 62 :: 93 :: 62 :: E)).length + 20, ?_⟩
  have hx : [60, 63].isPrefixOf (RS.start (entL n t E)).rest = false := rfl
  have hb : (RS.start (entL n t E)).blanks = RS.start (entL n t E) := rfl
  have s1 : (RS.start (entL n t E)).sees [60, 33, 45, 45] = false := rfl
  have s2 : (RS.start (entL n t E)).sees [60, 63] = false := rfl
  have s3 : (RS.start (entL n t E)).sees [60, 33, 68, 79, 67, 84, 89, 80, 69] = true := rfl
  have hl : (RS.start (entL n t E)).rest.length = (n ++ 32 :: 34 :: (t ++ 34 :: 62 :: 93 :: 62 :: E)).length + 20 + 2 := rfl
  unfold RS.document
  rw [hx, Bool.false_and, if_neg (by decide), docGo_eq, hb, s1, s2, s3, if_neg (by decide), if_neg (by decide), if_pos (by decide), hP, hl]
  rfl
theorem doc_elem (P X : List Nat) (c f : Nat) (e : List (List Nat × List Nat)) (hc : c = 97) : RS.docGo (f + 1) true false ⟨P, 60 :: c :: X, e, 0, [], [], [], 0⟩ = docMore f true true (docElem ⟨P, 60 :: c :: X, e, 0, [], [], [], 0⟩) := by
  subst hc
  have s1 : (⟨P, 60 :: 97 :: X, e, 0, [], [], [], 0⟩ : RS).sees [60, 33, 45, 45] = false := rfl
  have s2 : (⟨P, 60 :: 97 :: X, e, 0, [], [], [], 0⟩ : RS).sees [60, 63] = false := rfl
  have s3 : (⟨P, 60 :: 97 :: X, e, 0, [], [], [], 0⟩ : RS).sees [60, 33, 68, 79, 67, 84, 89, 80, 69] = false := rfl
  have s4 : (⟨P, 60 :: 97 :: X, e, 0, [], [], [], 0⟩ : RS).sees [60] = true := rfl
  rw [docGo_eq, blanks_at P (97 :: X) 60 _ _ _ _ _ _ rfl, s1, s2, s3, s4, if_neg (by decide), if_neg (by decide), if_neg (by decide), if_pos (by decide)]
theorem ent_scan (n s : List Nat) (hn : entN n) (h : EntS s) (hz : (tx s).length ≤ 3000) : scanX (entL n s (entB n)) = .ok [entTok s, ⟨4, [], [], 120 :: (s ++ 121 :: s)⟩, ⟨7, [97], [], []⟩] := by
  obtain ⟨P, f, hd⟩ := doc_head n s (entB n) hn (fun c hc => (h c hc).2.2.2.2.2.1) (isEnt_s h)
  obtain ⟨P', k', sp, he⟩ := elem_ent n s P hn h hz
  unfold scanX
  rw [hd, show RS.docGo (f + 2) true false ⟨P, entB n, [(n, s)], 0, [], [], [], 0⟩ = _ from doc_elem P _ 97 (f + 1) _ rfl]
  rw [show docElem ⟨P, 60 :: 97 :: 32 :: 98 :: 61 :: 39 :: 38 :: (n ++ 59 :: 39 :: 62 :: entA n), [(n, s)], 0, [], [], [], 0⟩ = _ from he]
  simp only [docMore]
  rw [docGo_eq]
  rfl
theorem ent_none (n s : List Nat) (hn : entN n) (h : EntS s) (hz : (tx s).length ≤ 3000) : ∃ pl, scanX (entL n (s ++ 38 :: (n ++ [59])) (entC n)) = .error (6, pl) := by
  obtain ⟨P, f, hd⟩ := doc_head n (s ++ 38 :: (n ++ [59])) (entC n) hn (fun c hc => by
    rcases List.mem_append.1 hc with hc | hc
    · exact (h c hc).2.2.2.2.2.1
    · have : ∀ c ∈ (38 :: (n ++ [59])), c ≠ 34 := by rcases hn with rfl | rfl <;> decide
      exact this c hc) (isEnt_self hn h)
  have ht : ∃ P' k, (⟨P, 60 :: 97 :: 62 :: 38 :: (n ++ 59 :: [60, 47, 97, 62]), [(n, s ++ 38 :: (n ++ [59]))], 0, [], [], [], 0⟩ : RS).startTag = .ok ⟨P', 38 :: (n ++ 59 :: [60, 47, 97, 62]), [(n, s ++ 38 :: (n ++ [59]))], 0, [[97]], [⟨2, [97], [], []⟩], [], k⟩ := ⟨_, _, rfl⟩
  obtain ⟨P', k, ht⟩ := ht
  obtain ⟨pl, hc⟩ := one_self n s P' [60, 47, 97, 62] [] [⟨2, [97], [], []⟩] k hn h (by omega)
  refine ⟨pl, ?_⟩
  unfold scanX
  rw [hd, show RS.docGo (f + 2) true false ⟨P, entC n, [(n, s ++ 38 :: (n ++ [59]))], 0, [], [], [], 0⟩ = _ from doc_elem P _ 97 (f + 1) _ rfl]
  have he : docElem ⟨P, 60 :: 97 :: 62 :: 38 :: (n ++ 59 :: [60, 47, 97, 62]), [(n, s ++ 38 :: (n ++ [59]))], 0, [], [], [], 0⟩ = .error (6, pl) := by
    unfold docElem
    rw [ht]
    simp only
    rw [RS.content, if_neg (by simp), hc]
  rw [show docElem ⟨P, 60 :: 97 :: 62 :: 38 :: (n ++ 59 :: [60, 47, 97, 62]), [(n, s ++ 38 :: (n ++ [59]))], 0, [], [], [], 0⟩ = _ from he]
  rfl
theorem ent_decl (n t E : List Nat) : ([60, 63].isPrefixOf (entL n t E) && nameA ((entL n t E).drop 2) == [120, 109, 108]) = false := rfl
end Go.Proofs.YtkklapoceknbcaaGreatDoor
