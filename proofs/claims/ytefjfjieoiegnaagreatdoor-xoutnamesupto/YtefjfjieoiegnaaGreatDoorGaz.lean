/- Several texts, laid as one. -/
import Derived.Test.YtefjfjieoiegnaaGreatDoorGac
import Derived.Test.YtefjfjieoiegnaaGreatDoorGay
/- Line ends, byte by byte: plain lemmas. -/
namespace Go.Proofs.YtefjfjieoiegnaaGreatDoor
open Go.RowKit
theorem prefix_index {old : List UInt8} {c : UInt8} {t : List UInt8} (h : old.isPrefixOf (c :: t) = true) : Lib.index (c :: t) old = ((0 : Nat) : Int) := by
  unfold Lib.index; rw [if_pos h]; rfl
theorem replaceK_miss (old new : List UInt8) (k : Nat) (c : UInt8) (t : List UInt8) (h : old.isPrefixOf (c :: t) = false) :
    Lib.replaceK old new k (c :: t) = c :: Lib.replaceK old new k t := by
  cases k with
  | zero => rfl
  | succ k =>
    have hc : Lib.index (c :: t) old = if Lib.index t old == -1 then -1 else Lib.index t old + 1 := by
      rw [Lib.index, if_neg (by rw [h]; decide)]
    by_cases hm : Lib.index t old = -1
    · rw [Lib.replaceK, hc, hm, Lib.replaceK, hm]; rfl
    · have hg := Lib.index_ge t old
      obtain ⟨i, hi⟩ : ∃ i : Nat, Lib.index t old = i := ⟨(Lib.index t old).toNat, by omega⟩
      have hc' : Lib.index (c :: t) old = ((i + 1 : Nat) : Int) := by
        rw [hc, if_neg (by simpa using hm), hi]; omega
      rw [Lib.replaceK_hit old new k _ _ hc', Lib.replaceK_hit old new k _ _ hi]
      have e : i + 1 + old.length = (i + old.length) + 1 := by omega
      rw [e]
      rfl
theorem count_cons_miss (old : List UInt8) (ho : old ≠ []) (c : UInt8) (t : List UInt8) (h : old.isPrefixOf (c :: t) = false) : Lib.count (c :: t) old = Lib.count t old := by
  have hc : Lib.index (c :: t) old = if Lib.index t old == -1 then -1 else Lib.index t old + 1 := by
    rw [Lib.index, if_neg (by rw [h]; decide)]
  by_cases hm : Lib.index t old = -1
  · rw [Lib.count_miss hm, Lib.count_miss (by rw [hc, hm]; rfl)]
  · have hg := Lib.index_ge t old
    obtain ⟨i, hi⟩ : ∃ i : Nat, Lib.index t old = i := ⟨(Lib.index t old).toNat, by omega⟩
    have hc' : Lib.index (c :: t) old = ((i + 1 : Nat) : Int) := by
      rw [hc, if_neg (by simpa using hm), hi]; omega
    rw [Lib.count_hit ho hc', Lib.count_hit ho hi]
    have e : i + 1 + old.length = (i + old.length) + 1 := by omega
    rw [e]
    rfl
theorem count_cons_hit (old : List UInt8) (ho : old ≠ []) (t : List UInt8) : Lib.count (old ++ t) old = 1 + Lib.count t old := by
  have h : Lib.index (old ++ t) old = ((0 : Nat) : Int) := by
    cases old with
    | nil => exact absurd rfl ho
    | cons a l => exact prefix_index (List.isPrefixOf_iff_prefix.2 ⟨t, rfl⟩)
  rw [Lib.count_hit ho h]
  simp
theorem replaceK_pre (old new : List UInt8) (ho : old ≠ []) (k : Nat) (t : List UInt8) : Lib.replaceK old new (k + 1) (old ++ t) = new ++ Lib.replaceK old new k t := by
  have h : Lib.index (old ++ t) old = ((0 : Nat) : Int) := by
    cases old with
    | nil => exact absurd rfl ho
    | cons a l => exact prefix_index (List.isPrefixOf_iff_prefix.2 ⟨t, rfl⟩)
  rw [Lib.replaceK_hit old new k _ _ h]
  simp
theorem replaceAll_eq (s old new : List UInt8) (h : (old == new) = false) : Lib.replaceAll s old new = Lib.replaceK old new (Lib.count s old) s := by
  unfold Lib.replaceAll Lib.replace
  rw [if_neg (by rw [h]; decide)]
  congr 1
/-- Pairs of 13 and 10 become 10. -/
def pairs : List UInt8 → List UInt8
  | [] => []
  | [c] => [c]
  | c :: d :: t => if c = 13 ∧ d = 10 then 10 :: pairs t else c :: pairs (d :: t)
end Go.Proofs.YtefjfjieoiegnaaGreatDoor
/- What xout's writer writes of an attribute of html. -/
namespace Go.Proofs.YtefjfjieoiegnaaGreatDoor
open Go.RowKit
/-- A byte, wherever it stands, by others. -/
def repB (c : UInt8) (new l : List UInt8) : List UInt8 := l.flatMap fun x => if x = c then new else [x]
theorem repB_eq (c : UInt8) (new : List UInt8) (h : (([c] : List UInt8) == new) = false) (l : List UInt8) : Lib.replaceAll l [c] new = repB c new l := by
  induction l with
  | nil => rw [replaceAll_eq _ _ _ h]; rfl
  | cons d t ih =>
    rw [replaceAll_eq _ _ _ h] at ih ⊢
    have hne : ([c] : List UInt8) ≠ [] := by intro e; cases e
    by_cases hc : d = c
    · subst hc
      have e : (d :: t : List UInt8) = [d] ++ t := rfl
      rw [e, count_cons_hit _ hne, Nat.add_comm, replaceK_pre _ _ hne, ih]
      simp [repB]
    · have hp : ([c] : List UInt8).isPrefixOf (d :: t) = false := by
        simp only [List.isPrefixOf, Bool.and_true]
        simpa using fun h => hc h.symm
      rw [count_cons_miss _ hne _ _ hp, replaceK_miss _ _ _ _ _ hp, ih]
      simp [repB, hc]
theorem repB_len (c : UInt8) (new l : List UInt8) (hn : new.length ≤ 6) : (repB c new l).length ≤ 6 * l.length := by
  induction l with
  | nil => exact Nat.le_refl _
  | cons d t ih =>
    have e : repB c new (d :: t) = (if d = c then new else [d]) ++ repB c new t := by simp [repB]
    rw [e, List.length_append, List.length_cons]
    have : (if d = c then new else [d]).length ≤ 6 := by split <;> simp_all
    omega
def ampS : List UInt8 := [38, 97, 109, 112, 59]
def quotS : List UInt8 := [38, 113, 117, 111, 116, 59]
def htmlV (v : ByteArray) : List UInt8 := repB 34 quotS (repB 38 ampS v.data.toList)
def hAttrB (x : ByteArray × ByteArray) : List UInt8 := if shortB x.1 && (x.2.toList == x.1.toList) then 32 :: x.1.data.toList else 32 :: (x.1.data.toList ++ 61 :: 34 :: (htmlV x.2 ++ [34]))
theorem repAmp_any (s : ByteArray) (w : World) (hE : Env w) (hs : s.size ≤ 1048576) :
    Calls Tryz.prog 121 #[.string s, .string ⟨#[38]⟩, .string ⟨#[38, 97, 109, 112, 59]⟩] w fun e w' => e = .returned (.string ⟨(repB 38 ampS s.data.toList).toArray⟩) ∧ Below w.heap.size w w' := by
  obtain ⟨m, hm⟩ := hE.len
  refine (Tryz.strings_ReplaceAll s ⟨#[38]⟩ ⟨#[38, 97, 109, 112, 59]⟩ m w (by omega) hm (by decide) ?_).mono ?_
  · have := Lib.countB_le ⟨#[38]⟩ (by decide) _ s (Nat.le_refl _)
    have e : (⟨#[38, 97, 109, 112, 59]⟩ : ByteArray).size = 5 := rfl
    rw [e]; omega
  rintro e w' ⟨rfl, hb⟩
  exact ⟨by rw [← repB_eq 38 ampS (by decide)]; rfl, hb⟩
theorem repQuot_any (s : ByteArray) (w : World) (hE : Env w) (hs : s.size ≤ 6291456) :
    Calls Tryz.prog 121 #[.string s, .string ⟨#[34]⟩, .string ⟨#[38, 113, 117, 111, 116, 59]⟩] w fun e w' => e = .returned (.string ⟨(repB 34 quotS s.data.toList).toArray⟩) ∧ Below w.heap.size w w' := by
  obtain ⟨m, hm⟩ := hE.len
  refine (Tryz.strings_ReplaceAll s ⟨#[34]⟩ ⟨#[38, 113, 117, 111, 116, 59]⟩ m w (by omega) hm (by decide) ?_).mono ?_
  · have := Lib.countB_le ⟨#[34]⟩ (by decide) _ s (Nat.le_refl _)
    have e : (⟨#[38, 113, 117, 111, 116, 59]⟩ : ByteArray).size = 6 := rfl
    rw [e]; omega
  rintro e w' ⟨rfl, hb⟩
  exact ⟨by rw [← repB_eq 34 quotS (by decide)]; rfl, hb⟩
set_option maxRecDepth 100000 in
set_option maxHeartbeats 4000000 in
theorem wHAttr_any (B b : Nat) (l : List UInt8) (x : ByteArray × ByteArray) (w : World) (h : IsW B b (Lib.byteCells l) w) (hx : x.1.size ≤ 1048576 ∧ x.2.size ≤ 1048576) (hl : l.length ≤ 100000000000000) (hB : B ≤ w.heap.size) (hE : Env w) :
    Calls Tryz.prog 81 #[.pointer (some ⟨b, 0, none⟩), .agg #[.string x.1, .string x.2]] w fun e w' => e = .returned (.tuple #[]) ∧ WOut B b (l ++ hAttrB x) w w' := by
  have hbA : Below w.heap.size w (w.alloc (.cells #[.string x.1, .string x.2] 40)) := (Below.refl _ _).alloc (Nat.le_refl _) _
  have HO0 := hide (WOut.start h hB hbA)
  have HC0 : Hid ((w.alloc (.cells #[.string x.1, .string x.2] 40)).cell? ⟨w.heap.size, 0, none⟩ = some (.string x.1)) := hide (by simp [go_sem])
  have HC1 : Hid ((w.alloc (.cells #[.string x.1, .string x.2] 40)).cell? ⟨w.heap.size, 1, none⟩ = some (.string x.2)) := hide (by simp [go_sem])
  have HE := hide (hE.below hbA)
  have HSH := hide (xShort_any x.1 _ hx.1 (hE.below hbA))
  have HX := hide hx
  have HAB : Hid (hAttrB x = if shortB x.1 && (x.2.toList == x.1.toList) then 32 :: x.1.data.toList else 32 :: (x.1.data.toList ++ 61 :: 34 :: (htmlV x.2 ++ [34]))) := hide rfl
  have hle1 := repB_len 38 ampS x.2.data.toList (by decide)
  have hle2 := repB_len 34 quotS (repB 38 ampS x.2.data.toList) (by decide)
  have e1 : x.1.data.toList.length = x.1.size := rfl
  have e2 : x.2.data.toList.length = x.2.size := rfl
  have HV : Hid (htmlV x.2 = repB 34 quotS (repB 38 ampS x.2.data.toList)) := hide rfl
  have HLA : Hid (l.length + (flatB [spS, x.1]).length ≤ 140737488355328) := hide (by simp only [flatB, spS, List.flatMap_cons, List.flatMap_nil, List.append_nil, List.length_append, e1]; simp; omega)
  have HR1 := hide (fun W (hW : Env W) => repAmp_any x.2 W hW hx.2)
  have HR2 := hide (fun W (hW : Env W) => repQuot_any ⟨(repB 38 ampS x.2.data.toList).toArray⟩ W hW (by rw [size_mk]; omega))
  have HLB : Hid (l.length + (flatB [spS, x.1, eqS, ⟨(htmlV x.2).toArray⟩, qtS]).length ≤ 140737488355328) := hide (by
    have h6 : (htmlV x.2).length ≤ 37748736 := by rw [unhide HV]; omega
    simp only [flatB, spS, eqS, qtS, List.flatMap_cons, List.flatMap_nil, List.append_nil, List.length_append, e1]; simp; omega)
  rw [← unhide HV] at HR2
  clear hE h hx hbA hle1 hle2 e1 e2
  cases hs : shortB x.1 && (x.2.toList == x.1.toList) with
  | true =>
    obtain ⟨h1, h2⟩ := Bool.and_eq_true_iff.1 hs
    have HX1 : Hid (l ++ flatB [spS, x.1] = l ++ hAttrB x) := hide (by rw [unhide HAB, hs, if_pos rfl]; simp [flatB, spS])
    rw [h1] at HSH
    clear hs h1
    go_enter Tryz.func81, Tryz.ntmps81
    go_wp2_with fail
    refine (unhide HSH).mono ?_
    rintro e w1 ⟨rfl, hb1⟩
    have c0 := keptC hb1 (unhide HC0)
    have c1 := keptC hb1 (unhide HC1)
    go_wp2_with fail
    refine (put_fresh B b l w w1 [spS, x.1] _ rfl ((unhide HO0).more hB hb1) (by simp) (unhide HLA) hB).mono ?_
    rintro e w2 ⟨rfl, hO2⟩
    go_wp2_with fail
    go_returns
    rw [unhide HX1] at hO2
    exact ⟨rfl, hO2⟩
  | false =>
    have HX1 : Hid (l ++ flatB [spS, x.1, eqS, ⟨(htmlV x.2).toArray⟩, qtS] = l ++ hAttrB x) := hide (by rw [unhide HAB, hs]; simp [flatB, spS, eqS, qtS])
    have hsplit : shortB x.1 = false ∨ (shortB x.1 = true ∧ (x.2.toList == x.1.toList) = false) := by
      cases h1 : shortB x.1 with
      | false => exact .inl rfl
      | true => rw [h1, Bool.true_and] at hs; exact .inr ⟨rfl, hs⟩
    clear hs
    rcases hsplit with h1 | ⟨h1, h2⟩
    all_goals
      rw [h1] at HSH
      clear h1
      go_enter Tryz.func81, Tryz.ntmps81
      go_wp2_with fail
      refine (unhide HSH).mono ?_
      rintro e w1 ⟨rfl, hb1⟩
      have c0 := keptC hb1 (unhide HC0)
      have c1 := keptC hb1 (unhide HC1)
      have HE1 := hide ((unhide HE).below hb1)
      go_wp2_with fail
      refine (unhide HR1 _ (unhide HE1)).mono ?_
      rintro e w2 ⟨rfl, hb2⟩
      have hbd : Below w2.heap.size w2 w2.drew := (Below.refl _ _).drew
      have HE2 := hide (((unhide HE1).below hb2).below hbd)
      have HD0 := hide (keptC (Below.then hb2 hbd) c0)
      have HO2 := hide ((((unhide HO0).more hB hb1).more hB hb2).more hB hbd)
      clear c0 c1 hbd
      have d0 := unhide HD0
      go_wp2_with fail
      go_region_with (first
        | (go_at_call 121; refine (unhide HR2 _ (unhide HE2)).mono ?_; rintro e w3 ⟨rfl, hb3⟩; have k0 := keptC hb3 (unhide HD0))
        | (go_at_call 78; refine (put_fresh B b l w w3 [spS, x.1, eqS, ⟨(htmlV x.2).toArray⟩, qtS] _ rfl ((unhide HO2).more hB hb3) (by simp) (unhide HLB) hB).mono ?_; rintro e w4 ⟨rfl, hO4⟩))
      all_goals (try go_wp2_with fail)
      all_goals (go_end0; rw [unhide HX1] at hO4; exact ⟨rfl, hO4⟩)
end Go.Proofs.YtefjfjieoiegnaaGreatDoor
/- What xout's writer writes of a tag. -/
namespace Go.Proofs.YtefjfjieoiegnaaGreatDoor
open Go.RowKit
theorem repB_app (c : UInt8) (n a b : List UInt8) : repB c n (a ++ b) = repB c n a ++ repB c n b := by unfold repB; rw [List.flatMap_append]
theorem htmlL_len (l : List UInt8) : (repB 34 quotS (repB 38 ampS l)).length ≤ 6 * l.length := by
  induction l with
  | nil => exact Nat.le_refl _
  | cons d t ih =>
    have e : repB 38 ampS (d :: t) = (if d = 38 then ampS else [d]) ++ repB 38 ampS t := by simp [repB]
    have h1 : (repB 34 quotS (if d = 38 then ampS else [d])).length ≤ 6 := by
      split
      · decide
      · simp only [repB, List.flatMap_cons, List.flatMap_nil, List.append_nil]
        split
        · decide
        · exact Nat.le_add_left 1 5
    rw [e, repB_app, List.length_append, List.length_cons]
    omega
theorem hAttrB_len {x : ByteArray × ByteArray} (h : x.1.size ≤ 1048576 ∧ x.2.size ≤ 1048576) : (hAttrB x).length ≤ 7340036 := by
  have h1 := htmlL_len x.2.data.toList
  have e0 : htmlV x.2 = repB 34 quotS (repB 38 ampS x.2.data.toList) := rfl
  have e1 : x.1.data.toList.length = x.1.size := rfl
  have e2 : x.2.data.toList.length = x.2.size := rfl
  rw [← e0] at h1
  unfold hAttrB
  split
  · rw [List.length_cons]; omega
  · simp only [List.length_cons, List.length_append, List.length_nil]
    omega
structure TagHSt (w0 w : World) (b : Nat) (l : List UInt8) (a : List (ByteArray × ByteArray)) (k : Nat) (W : World) : Prop where
  le : k ≤ a.length
  out : WOut w0.heap.size b (l ++ (a.take k).flatMap hAttrB) w W
theorem TagH_take {a : List (ByteArray × ByteArray)} {k : Nat} {x : ByteArray × ByteArray} (h : a[k]? = some x) : (a.take (k + 1)).flatMap hAttrB = (a.take k).flatMap hAttrB ++ hAttrB x := by
  obtain ⟨hk, he⟩ := List.getElem?_eq_some_iff.1 h
  rw [List.take_succ_eq_append_getElem hk, he, List.flatMap_append]
  simp
theorem TagH_len : ∀ {a : List (ByteArray × ByteArray)}, (∀ x ∈ a, x.1.size ≤ 1048576 ∧ x.2.size ≤ 1048576) → (a.flatMap hAttrB).length ≤ a.length * 7340036
  | [], _ => Nat.le_refl _
  | x :: a, h => by
    have h1 := hAttrB_len (h x (List.mem_cons_self ..))
    have h2 := TagH_len (fun y hy => h y (List.mem_cons_of_mem _ hy))
    rw [List.flatMap_cons, List.length_append, List.length_cons]
    omega
set_option maxRecDepth 100000 in
set_option maxHeartbeats 8000000 in
theorem wTagH_any (w0 : World) (b : Nat) (l : List UInt8) (t : BTok) (u : Pl) (last : ByteArray) (w : World) (hv : PairsArg w0 (.slice u.1 t.attrs.length u.2) t.attrs) (hb : Below w0.heap.size w0 w) (h : IsW w0.heap.size b (Lib.byteCells l) w) (hs : Small t) (hlast : last.size ≤ 100) (hz : l.length ≤ 80000000000000) (hE : XEnv w0.heap.size w) :
    Calls Tryz.prog 82 #[.pointer (some ⟨b, 0, none⟩), tokVs t u, .func (.func 81) #[.pointer (some ⟨b, 0, none⟩)] #[], .string last] w fun e w' => e = .returned (.tuple #[]) ∧ WOut w0.heap.size b (l ++ (60 :: (t.name.data.toList ++ (t.attrs.flatMap hAttrB ++ last.data.toList)))) w w' := by
  obtain ⟨ua, uc⟩ := u
  simp only at hv
  have hB := hb.size
  have hn1 : t.name.data.toList.length = t.name.size := rfl
  have hn2 := hs.n
  have hn3 : last.data.toList.length = last.size := rfl
  have hblt : w.heap.size ≠ b := by have := h.lt; omega
  obtain ⟨W0, hW0⟩ : ∃ W0, W0 = w.alloc (.cells #[.int .i64 t.kind, .string t.name, .slice ua t.attrs.length uc, .string t.text] 37) := ⟨_, rfl⟩
  have hO0 : WOut w0.heap.size b l w W0 := WOut.start h hB (by rw [hW0]; exact (Below.refl _ _).alloc (Nat.le_refl _) _)
  have HB0 : Hid (W0.heap[w.heap.size]? = some (.cells #[.int .i64 t.kind, .string t.name, .slice ua t.attrs.length uc, .string t.text] 37 (0, 0))) := hide (by rw [hW0]; exact alloc_newO _ _)
  have hs0 : w.heap.size + 1 = W0.heap.size := by rw [hW0]; simp
  have hBW0 : w0.heap.size ≤ W0.heap.size := by omega
  have HC1 : Hid (Calls Tryz.prog 78 #[.pointer (some ⟨b, 0, none⟩), .slice (some ⟨w.heap.size + 1, 0, none⟩) 2 2] (W0.alloc (.cells #[.string ⟨#[60]⟩, .string t.name] 9)) fun e w' => e = .returned (.tuple #[]) ∧ WOut w0.heap.size b (l ++ flatB [ltS, t.name]) W0 w') :=
    hide (put_fresh w0.heap.size b l W0 W0 [ltS, t.name] _ hs0 (WOut.start hO0.bld hBW0 (Below.refl _ _)) (by simp) (by simp [flatB, ltS]; omega) hBW0)
  have HO0 := hide hO0
  have HEN := hide hE
  clear hE
  have HS := hide hs
  have HV := hide hv
  have HB := hide hb
  have HLT : Hid (l ++ (60 :: (t.name.data.toList ++ (t.attrs.flatMap hAttrB ++ last.data.toList))) = (l ++ flatB [ltS, t.name]) ++ t.attrs.flatMap hAttrB ++ flatB [last]) := hide (by simp [flatB, ltS])
  have HPL : Hid ((l ++ flatB [ltS, t.name]).length ≤ 80000001048580) := hide (by simp [flatB, ltS]; omega)
  rw [unhide HLT]
  generalize hPQ : l ++ flatB [ltS, t.name] = P at *
  have HLA : Hid (last.size ≤ 100) := hide hlast
  clear hO0 hs0 hBW0 h hs hv hb hn1 hn2 hn3 hPQ HLT hlast
  subst hW0
  unfold tokVs
  go_enter Tryz.func82, Tryz.ntmps82
  go_wp2_with fail
  refine (unhide HC1).mono ?_
  rintro e w1 ⟨rfl, hO⟩
  have hk1 := hO.blk (unhide HB0) (by decide) hblt
  have c2 : w1.cell? ⟨w.heap.size, 2, none⟩ = some (.slice ua t.attrs.length uc) := by rw [Lib.cell_of_heap hk1]; rfl
  have HI0 : Hid (TagHSt w0 w b P t.attrs 0 w1) := hide ⟨Nat.zero_le _, by simpa using (unhide HO0).next hO⟩
  clear hk1 hO HC1 HB0 HO0
  obtain ⟨N, hN⟩ : ∃ N, N = t.attrs.length := ⟨_, rfl⟩
  have HN := hide hN
  rw [← hN] at c2 ⊢
  clear hN
  go_wp2_with fail
  go_loopw [18] (fun i wr => ∃ k : Nat, i = .int .i64 (k : Nat) ∧ Hid (TagHSt w0 w b P t.attrs k wr)) (fun i _ => N - (intOf i).toNat)
  case atStart => exact ⟨0, rfl, HI0⟩
  case round =>
    clear HI0 c2
    obtain ⟨k, rfl, hI⟩ := hrel
    have hsm := unhide HS
    have hNb : (N : Int) ≤ 1048576 := by have := unhide HN; have := hsm.l; omega
    by_cases hlt : k < N
    · obtain ⟨x, hx⟩ : ∃ x, t.attrs[k]? = some x := ⟨t.attrs[k]'(by rw [← unhide HN]; exact hlt), List.getElem?_eq_getElem _⟩
      obtain ⟨a', cap', e0, hc⟩ := unhide HV
      cases e0
      obtain ⟨g, o, rfl, hcc⟩ := hc (fun e => by rw [e] at hx; cases hx)
      have hbr : Below w0.heap.size w0 wr := (unhide HB).trans (unhide hI).out.bel
      obtain ⟨d0, d1⟩ := hcc k x hx
      have d0 := keptC hbr d0
      have d1 := keptC hbr d1
      have hxs := hsm.a x (List.mem_of_getElem? hx)
      have hbA : Below wr.heap.size wr (wr.alloc (.cells #[.string x.1, .string x.2] 40)) := (Below.refl _ _).alloc (Nat.le_refl _) _
      have hBr := Nat.le_trans hB (unhide hI).out.bel.size
      have hlen : (P ++ (t.attrs.take k).flatMap hAttrB).length ≤ 100000000000000 := by
        have h1 := TagH_len (a := t.attrs.take k) (fun y hy => hsm.a y (List.mem_of_mem_take hy))
        have h2 := unhide HPL
        have h3 := hsm.l
        rw [List.length_take] at h1
        rw [List.length_append]
        have h4 : min k t.attrs.length * 7340036 ≤ 1048576 * 7340036 := Nat.mul_le_mul_right _ (Nat.le_trans (Nat.min_le_right _ _) h3)
        omega
      have HAC := hide (wHAttr_any w0.heap.size b _ x (wr.alloc (.cells #[.string x.1, .string x.2] 40)) ((unhide hI).out.bld.more hbA) hxs hlen (Nat.le_trans hBr hbA.size) ((unhide HEN).low ((unhide hI).out.bel.trans (hbA.mono hBr))).env)
      have HOA := hide ((unhide hI).out.more hB hbA)
      have HX := hide hx
      have n1 : (0 : Int) ≤ (k : Int) := by omega
      have n2 : (k : Int) < (N : Int) := by omega
      clear hc hcc hbr hx hxs hbA hlen hsm hI
      go_wp2_with fail
      refine (unhide HAC).mono ?_
      rintro e w3 ⟨rfl, hO3⟩
      have HI1 : Hid (TagHSt w0 w b P t.attrs (k + 1) w3) := hide ⟨by have := unhide HN; omega, by rw [TagH_take (unhide HX), ← List.append_assoc]; exact (unhide HOA).next hO3⟩
      clear hO3
      go_wp2_with fail
      exact ⟨⟨k + 1, rfl, HI1⟩, by simp [intOf]; omega⟩
    · have n2 : ¬ (k : Int) < (N : Int) := by omega
      have hk : k = t.attrs.length := by have := (unhide hI).le; have := unhide HN; omega
      have hE := (unhide hI).out
      rw [hk, List.take_length] at hE
      have HE := hide hE
      have hlen : (P ++ t.attrs.flatMap hAttrB).length + (flatB [last]).length ≤ 140737488355328 := by
        have h1 := TagH_len (a := t.attrs) hsm.a
        have h2 := unhide HPL
        have h3 := hsm.l
        have h4 := unhide HLA
        have h5 : (flatB [last]).length = last.size := by simp [flatB]
        rw [List.length_append, h5]
        omega
      have HLN := hide hlen
      clear hk hE hI hsm hlen
      go_wp2_with fail
      refine (put_fresh w0.heap.size b _ w wr [last] _ rfl (unhide HE) (by simp) (unhide HLN) hB).mono ?_
      rintro e w4 ⟨rfl, hO4⟩
      go_wp2_with fail
      go_end0
      exact ⟨rfl, hO4⟩
end Go.Proofs.YtefjfjieoiegnaaGreatDoor
/- What xout's writer writes of a token: common. -/
namespace Go.Proofs.YtefjfjieoiegnaaGreatDoor
open Go.RowKit
def endS : ByteArray := ⟨#[60, 47]⟩
def gtS : ByteArray := ⟨#[62]⟩
def cmS : ByteArray := ⟨#[60, 33, 45, 45]⟩
def ceS : ByteArray := ⟨#[45, 45, 62]⟩
/-- What xml and html write alike, but for attributes. -/
def bothB (f : ByteArray × ByteArray → List UInt8) (t : BTok) : List UInt8 :=
  if t.kind = 2 then 60 :: (t.name.data.toList ++ (t.attrs.flatMap f ++ [62])) else if t.kind = 7 then 60 :: 47 :: (t.name.data.toList ++ [62]) else if t.kind = 4 then mapO escO t.text.data.toList else if t.kind = 5 then 60 :: 33 :: 45 :: 45 :: (t.text.data.toList ++ [45, 45, 62]) else []
set_option maxRecDepth 100000 in
set_option maxHeartbeats 8000000 in
theorem wComX_any (w0 : World) (b : Nat) (l : List UInt8) (t : BTok) (u : Pl) (w : World) (hv : PairsArg w0 (.slice u.1 t.attrs.length u.2) t.attrs) (hb : Below w0.heap.size w0 w) (h : IsW w0.heap.size b (Lib.byteCells l) w) (hs : Small t) (hz : l.length ≤ 80000000000000) :
    Calls Tryz.prog 80 #[.pointer (some ⟨b, 0, none⟩), tokVs t u, .func (.func 83) #[.pointer (some ⟨b, 0, none⟩)] #[]] w fun e w' => e = .returned (.tuple #[]) ∧ WOut w0.heap.size b (l ++ bothB attrB t) w w' := by
  have hB := hb.size
  have hn1 : t.name.data.toList.length = t.name.size := rfl
  have hn2 := hs.n
  have hn3 : t.text.data.toList.length = t.text.size := rfl
  have hn4 := hs.x
  have hbA : Below w.heap.size w (w.alloc (.cells #[.int .i64 t.kind, .string t.name, .slice u.1 t.attrs.length u.2, .string t.text] 37)) := (Below.refl _ _).alloc (Nat.le_refl _) _
  have hO0 := WOut.start h hB hbA
  have HO0 := hide hO0
  have HT := hide (wTagX_any w0 b l t u ⟨#[62]⟩ _ hv (hb.trans hO0.bel) hO0.bld hs (by decide) hz)
  unfold tokVs at HT
  have HP7 : Hid (l.length + (flatB [endS, t.name, gtS]).length ≤ 140737488355328) := hide (by simp only [flatB, endS, gtS, List.flatMap_cons, List.flatMap_nil, List.append_nil, List.length_append, hn1]; simp; omega)
  have HP5 : Hid (l.length + (flatB [cmS, t.text, ceS]).length ≤ 140737488355328) := hide (by simp only [flatB, cmS, ceS, List.flatMap_cons, List.flatMap_nil, List.append_nil, List.length_append, hn3]; simp; omega)
  have HP4 : Hid (l.length + (flatB [⟨(mapO escO t.text.data.toList).toArray⟩]).length ≤ 140737488355328) := hide (by
    have h1 := mapO_len esc_few t.text.data.toList
    simp only [flatB, List.flatMap_cons, List.flatMap_nil, List.append_nil]; simp; simp at h1 hn3; omega)
  have HX := hide (fun W => xEscape_any t.text W hn4)
  have HCB : Hid (bothB attrB t = if t.kind = 2 then 60 :: (t.name.data.toList ++ (t.attrs.flatMap attrB ++ [62])) else if t.kind = 7 then 60 :: 47 :: (t.name.data.toList ++ [62]) else if t.kind = 4 then mapO escO t.text.data.toList else if t.kind = 5 then 60 :: 33 :: 45 :: 45 :: (t.text.data.toList ++ [45, 45, 62]) else []) := hide rfl
  unfold tokVs
  clear hO0 hbA h hs hv hb hn1 hn2 hn3 hn4
  by_cases k2 : t.kind = 2
  · have HE : Hid (bothB attrB t = 60 :: (t.name.data.toList ++ (t.attrs.flatMap attrB ++ (⟨#[62]⟩ : ByteArray).data.toList))) := hide (by rw [unhide HCB, if_pos k2])
    rw [k2] at HT HO0 ⊢
    rw [unhide HE]
    clear k2
    go_enter Tryz.func80, Tryz.ntmps80
    go_wp2_with fail
    refine (unhide HT).mono ?_
    rintro e w1 ⟨rfl, hO⟩
    go_wp2_with fail
    go_end0
    exact ⟨rfl, (unhide HO0).next hO⟩
  by_cases k7 : t.kind = 7
  · have HE : Hid (l ++ flatB [endS, t.name, gtS] = l ++ bothB attrB t) := hide (by rw [unhide HCB, if_neg k2, if_pos k7]; simp [flatB, endS, gtS])
    rw [k7] at HO0 ⊢
    clear k2 k7 HT
    go_enter Tryz.func80, Tryz.ntmps80
    go_wp2_with fail
    refine (put_fresh w0.heap.size b l w _ [endS, t.name, gtS] (w.heap.size + 1) (by simp) (unhide HO0) (by simp) (unhide HP7) hB).mono ?_
    rintro e w1 ⟨rfl, hO⟩
    go_wp2_with fail
    go_end0
    rw [unhide HE] at hO
    exact ⟨rfl, hO⟩
  by_cases k4 : t.kind = 4
  · have HE : Hid (l ++ flatB [⟨(mapO escO t.text.data.toList).toArray⟩] = l ++ bothB attrB t) := hide (by rw [unhide HCB, if_neg k2, if_neg k7, if_pos k4]; simp [flatB])
    rw [k4] at HO0 ⊢
    clear k2 k7 k4 HT
    go_enter Tryz.func80, Tryz.ntmps80
    go_wp2_with fail
    refine (unhide HX _).mono ?_
    rintro e w1 ⟨rfl, hb1⟩
    go_wp2_with fail
    refine (put_fresh w0.heap.size b l w w1 [⟨(mapO escO t.text.data.toList).toArray⟩] _ rfl ((unhide HO0).more hB hb1) (by simp) (unhide HP4) hB).mono ?_
    rintro e w2 ⟨rfl, hO⟩
    go_wp2_with fail
    go_end0
    rw [unhide HE] at hO
    exact ⟨rfl, hO⟩
  by_cases k5 : t.kind = 5
  · have HE : Hid (l ++ flatB [cmS, t.text, ceS] = l ++ bothB attrB t) := hide (by rw [unhide HCB, if_neg k2, if_neg k7, if_neg k4, if_pos k5]; simp [flatB, cmS, ceS])
    rw [k5] at HO0 ⊢
    clear k2 k7 k4 k5 HT
    go_enter Tryz.func80, Tryz.ntmps80
    go_wp2_with fail
    refine (put_fresh w0.heap.size b l w _ [cmS, t.text, ceS] (w.heap.size + 1) (by simp) (unhide HO0) (by simp) (unhide HP5) hB).mono ?_
    rintro e w1 ⟨rfl, hO⟩
    go_wp2_with fail
    go_end0
    rw [unhide HE] at hO
    exact ⟨rfl, hO⟩
  have HE : Hid (bothB attrB t = []) := hide (by rw [unhide HCB, if_neg k2, if_neg k7, if_neg k4, if_neg k5])
  rw [unhide HE, List.append_nil]
  clear HT
  go_enter Tryz.func80, Tryz.ntmps80
  go_wp2_with fail
  go_end0
  exact ⟨rfl, unhide HO0⟩
end Go.Proofs.YtefjfjieoiegnaaGreatDoor
/- What xout's writer writes of a token: common. -/
namespace Go.Proofs.YtefjfjieoiegnaaGreatDoor
open Go.RowKit
set_option maxRecDepth 100000 in
set_option maxHeartbeats 8000000 in
theorem wComH_any (w0 : World) (b : Nat) (l : List UInt8) (t : BTok) (u : Pl) (w : World) (hv : PairsArg w0 (.slice u.1 t.attrs.length u.2) t.attrs) (hb : Below w0.heap.size w0 w) (h : IsW w0.heap.size b (Lib.byteCells l) w) (hs : Small t) (hz : l.length ≤ 80000000000000) (hE : XEnv w0.heap.size w) :
    Calls Tryz.prog 80 #[.pointer (some ⟨b, 0, none⟩), tokVs t u, .func (.func 81) #[.pointer (some ⟨b, 0, none⟩)] #[]] w fun e w' => e = .returned (.tuple #[]) ∧ WOut w0.heap.size b (l ++ bothB hAttrB t) w w' := by
  have hB := hb.size
  have hn1 : t.name.data.toList.length = t.name.size := rfl
  have hn2 := hs.n
  have hn3 : t.text.data.toList.length = t.text.size := rfl
  have hn4 := hs.x
  have hbA : Below w.heap.size w (w.alloc (.cells #[.int .i64 t.kind, .string t.name, .slice u.1 t.attrs.length u.2, .string t.text] 37)) := (Below.refl _ _).alloc (Nat.le_refl _) _
  have hO0 := WOut.start h hB hbA
  have HO0 := hide hO0
  have HT := hide (wTagH_any w0 b l t u ⟨#[62]⟩ _ hv (hb.trans hO0.bel) hO0.bld hs (by decide) hz (hE.low hO0.bel))
  unfold tokVs at HT
  have HP7 : Hid (l.length + (flatB [endS, t.name, gtS]).length ≤ 140737488355328) := hide (by simp only [flatB, endS, gtS, List.flatMap_cons, List.flatMap_nil, List.append_nil, List.length_append, hn1]; simp; omega)
  have HP5 : Hid (l.length + (flatB [cmS, t.text, ceS]).length ≤ 140737488355328) := hide (by simp only [flatB, cmS, ceS, List.flatMap_cons, List.flatMap_nil, List.append_nil, List.length_append, hn3]; simp; omega)
  have HP4 : Hid (l.length + (flatB [⟨(mapO escO t.text.data.toList).toArray⟩]).length ≤ 140737488355328) := hide (by
    have h1 := mapO_len esc_few t.text.data.toList
    simp only [flatB, List.flatMap_cons, List.flatMap_nil, List.append_nil]; simp; simp at h1 hn3; omega)
  have HX := hide (fun W => xEscape_any t.text W hn4)
  have HCB : Hid (bothB hAttrB t = if t.kind = 2 then 60 :: (t.name.data.toList ++ (t.attrs.flatMap hAttrB ++ [62])) else if t.kind = 7 then 60 :: 47 :: (t.name.data.toList ++ [62]) else if t.kind = 4 then mapO escO t.text.data.toList else if t.kind = 5 then 60 :: 33 :: 45 :: 45 :: (t.text.data.toList ++ [45, 45, 62]) else []) := hide rfl
  unfold tokVs
  clear hO0 hbA h hs hv hb hn1 hn2 hn3 hn4 hE
  by_cases k2 : t.kind = 2
  · have HE : Hid (bothB hAttrB t = 60 :: (t.name.data.toList ++ (t.attrs.flatMap hAttrB ++ (⟨#[62]⟩ : ByteArray).data.toList))) := hide (by rw [unhide HCB, if_pos k2])
    rw [k2] at HT HO0 ⊢
    rw [unhide HE]
    clear k2
    go_enter Tryz.func80, Tryz.ntmps80
    go_wp2_with fail
    refine (unhide HT).mono ?_
    rintro e w1 ⟨rfl, hO⟩
    go_wp2_with fail
    go_end0
    exact ⟨rfl, (unhide HO0).next hO⟩
  by_cases k7 : t.kind = 7
  · have HE : Hid (l ++ flatB [endS, t.name, gtS] = l ++ bothB hAttrB t) := hide (by rw [unhide HCB, if_neg k2, if_pos k7]; simp [flatB, endS, gtS])
    rw [k7] at HO0 ⊢
    clear k2 k7 HT
    go_enter Tryz.func80, Tryz.ntmps80
    go_wp2_with fail
    refine (put_fresh w0.heap.size b l w _ [endS, t.name, gtS] (w.heap.size + 1) (by simp) (unhide HO0) (by simp) (unhide HP7) hB).mono ?_
    rintro e w1 ⟨rfl, hO⟩
    go_wp2_with fail
    go_end0
    rw [unhide HE] at hO
    exact ⟨rfl, hO⟩
  by_cases k4 : t.kind = 4
  · have HE : Hid (l ++ flatB [⟨(mapO escO t.text.data.toList).toArray⟩] = l ++ bothB hAttrB t) := hide (by rw [unhide HCB, if_neg k2, if_neg k7, if_pos k4]; simp [flatB])
    rw [k4] at HO0 ⊢
    clear k2 k7 k4 HT
    go_enter Tryz.func80, Tryz.ntmps80
    go_wp2_with fail
    refine (unhide HX _).mono ?_
    rintro e w1 ⟨rfl, hb1⟩
    go_wp2_with fail
    refine (put_fresh w0.heap.size b l w w1 [⟨(mapO escO t.text.data.toList).toArray⟩] _ rfl ((unhide HO0).more hB hb1) (by simp) (unhide HP4) hB).mono ?_
    rintro e w2 ⟨rfl, hO⟩
    go_wp2_with fail
    go_end0
    rw [unhide HE] at hO
    exact ⟨rfl, hO⟩
  by_cases k5 : t.kind = 5
  · have HE : Hid (l ++ flatB [cmS, t.text, ceS] = l ++ bothB hAttrB t) := hide (by rw [unhide HCB, if_neg k2, if_neg k7, if_neg k4, if_pos k5]; simp [flatB, cmS, ceS])
    rw [k5] at HO0 ⊢
    clear k2 k7 k4 k5 HT
    go_enter Tryz.func80, Tryz.ntmps80
    go_wp2_with fail
    refine (put_fresh w0.heap.size b l w _ [cmS, t.text, ceS] (w.heap.size + 1) (by simp) (unhide HO0) (by simp) (unhide HP5) hB).mono ?_
    rintro e w1 ⟨rfl, hO⟩
    go_wp2_with fail
    go_end0
    rw [unhide HE] at hO
    exact ⟨rfl, hO⟩
  have HE : Hid (bothB hAttrB t = []) := hide (by rw [unhide HCB, if_neg k2, if_neg k7, if_neg k4, if_neg k5])
  rw [unhide HE, List.append_nil]
  clear HT
  go_enter Tryz.func80, Tryz.ntmps80
  go_wp2_with fail
  go_end0
  exact ⟨rfl, unhide HO0⟩
end Go.Proofs.YtefjfjieoiegnaaGreatDoor
