/- Several texts, laid as one. -/
import Derived.Test.YthkkfldmoflfaaaGreatDoorGba
import Derived.Test.YthkkfldmoflfaaaGreatDoorGao
import Derived.Test.YthkkfldmoflfaaaGreatDoorGbn
import Derived.Test.YthkkfldmoflfaaaGreatDoorGay
/- The reference's small functions on expressions: bare, AxisName, Literal, text, qname. -/
namespace Go.Proofs.YthkkfldmoflfaaaGreatDoor
open Go.RowKit Go.Maps
set_option maxRecDepth 100000 in
set_option maxHeartbeats 4000000 in
theorem refQname_any (t : List Nat) (w : World) (ht : okL t) (hz : (T t).size ≤ 4000) (hE : Env w) :
    Calls Tryz.prog 63 #[.string (T t)] w fun e w' => e = .returned (.bool (isQ t)) ∧ Below w.heap.size w w' := by
  have hs : ∃ P N, splitV (T t).data.toList = .tuple #[.string P, .string N, .bool (isQ t)] := by
    unfold splitV
    rw [splitB_T ht]
    cases isQ t
    · exact ⟨_, _, rfl⟩
    · exact ⟨_, _, rfl⟩
  obtain ⟨P, N, hs⟩ := hs
  have hC := refSplit_any (T t) w (by omega) hE
  rw [hs] at hC
  have HC := hide hC
  clear hC hs hE
  go_enter Tryz.func63, Tryz.ntmps63
  go_wp2_with fail
  refine (unhide HC).mono ?_
  rintro e w1 ⟨rfl, hb1⟩
  go_wp2_with fail
  go_returns
  exact ⟨rfl, hb1⟩
/-- The error that a text with such signs is told with. -/
def litE (a b : Bool) : Int := match a, b with | true, true => 9 | _, _ => 0
theorem litE_is (l : List UInt8) : (if (litQ l).isSome then (0 : Int) else 9) = litE (l.contains 34) (l.contains 39) := by
  unfold litQ
  cases l.contains 34 <;> cases l.contains 39 <;> rfl
theorem contains_next (l : List UInt8) (i : Nat) (c x : UInt8) (h : l[i]? = some x) : (l.take (i + 1)).contains c = ((l.take i).contains c || x == c) := by
  rw [List.take_add_one, h]
  simp only [Option.toList_some, List.contains_eq_any_beq, List.any_append, List.any_cons, List.any_nil, Bool.or_false]
  congr 1
  rw [Bool.eq_iff_iff, beq_iff_eq, beq_iff_eq]
  exact ⟨fun h => h.symm, fun h => h.symm⟩
set_option maxRecDepth 100000 in
set_option maxHeartbeats 4000000 in
theorem refLiteral_any (s : ByteArray) (w : World) (hs : s.size ≤ 4000) :
    Calls Tryz.prog 97 #[.string s] w fun e w' => (∃ X, e = .returned (.tuple #[.string X, .int .i64 (if (litQ s.data.toList).isSome then 0 else 9)])) ∧ w' = w := by
  have hq : ∀ q : UInt8, (⟨#[q]⟩ : ByteArray).size = 1 := fun _ => rfl
  rw [litE_is]
  go_enter Tryz.func97, Tryz.ntmps97
  go_wp2_with fail
  go_loopg [4, 5, 6] s.size (fun g v3 v4 v5 wr => ∃ i : Nat, i + g = s.size ∧ v5 = .int .i64 (i : Nat) ∧ v3 = .bool ((s.data.toList.take i).contains 34) ∧ v4 = .bool ((s.data.toList.take i).contains 39) ∧ wr = w)
  case atStart => exact ⟨0, by omega, rfl, rfl, rfl, rfl⟩
  case round =>
    obtain ⟨i, hig, rfl, rfl, rfl, rfl⟩ := hrel
    cases gk with
    | zero =>
      obtain rfl : i = s.size := by omega
      rw [show s.data.toList.take s.size = s.data.toList from List.take_of_length_le (show s.data.toList.length ≤ s.size from Nat.le_refl _)]
      clear hig
      have hs1 : (9223372036854775807 < 1 + s.size) = False := by simp; omega
      have hs2 : (9223372036854775807 < 1 + s.size + 1) = False := by simp; omega
      obtain ⟨b1, e34⟩ : ∃ b, s.data.toList.contains 34 = b := ⟨_, rfl⟩
      obtain ⟨b2, e39⟩ : ∃ b, s.data.toList.contains 39 = b := ⟨_, rfl⟩
      have H34 := hide e34
      have H39 := hide e39
      rw [e34, e39]
      clear e34 e39
      cases b1 <;> cases b2
      all_goals
        go_wp2_with fail
        go_returns
        rw [unhide H34, unhide H39]
        exact ⟨⟨_, rfl⟩, rfl⟩
    | succ g =>
      have hi : i < s.size := by omega
      have HG := hide hig
      have e2 : s.data.toList[i]? = some (s[i]'hi) := Lib.data_getElem? s i hi
      have H34 := hide (contains_next _ i 34 _ e2)
      have H39 := hide (contains_next _ i 39 _ e2)
      obtain ⟨C, hC⟩ : ∃ C : Nat, (s[i]'hi).toNat = C := ⟨_, rfl⟩
      have k34 : (s[i]'hi == 34) = (((C : Nat) : Int) == 34) := by
        rw [Bool.eq_iff_iff, beq_iff_eq, beq_iff_eq, ← hC, ← UInt8.toNat_inj]
        show _ = 34 ↔ _
        omega
      have k39 : (s[i]'hi == 39) = (((C : Nat) : Int) == 39) := by
        rw [Bool.eq_iff_iff, beq_iff_eq, beq_iff_eq, ← hC, ← UInt8.toNat_inj]
        show _ = 39 ↔ _
        omega
      have hix : ∀ W, (Instr.index 9 (.string s) (.int .i64 (i : Int))).run Tryz.prog W = .ok (.int .u8 (C : Int)) W := fun W => by
        rw [run_index_string W 9 s .i64 _ Tryz.underlying9, dif_pos ⟨by omega, by omega⟩, ← hC]
        simp
      rw [k34] at H34
      rw [k39] at H39
      have n1 : decide ((i : Int) < (s.size : Int)) = true := decide_eq_true (by omega)
      have w1 : IntKind.i64.wrap ((i : Int) + 1) = ((i + 1 : Nat) : Int) := by rw [wrap_small] <;> omega
      clear hig e2 k34 k39 hC
      obtain ⟨m1, e1⟩ : ∃ b, (((C : Nat) : Int) == 34) = b := ⟨_, rfl⟩
      obtain ⟨m2, e3⟩ : ∃ b, (((C : Nat) : Int) == 39) = b := ⟨_, rfl⟩
      rw [e1] at H34
      rw [e3] at H39
      generalize (s.data.toList.take i).contains 34 = b1 at *
      generalize (s.data.toList.take i).contains 39 = b2 at *
      have HI := hide hi
      cases b1 <;> cases b2 <;> cases m1 <;> cases m2
      all_goals
        go_wp2_with fail
        go_roundg g
        case measure => omega
        case rel => exact ⟨i + 1, by have := unhide HG; omega, by go_num, by rw [unhide H34]; rfl, by rw [unhide H39]; rfl, rfl⟩
set_option maxRecDepth 100000 in
set_option maxHeartbeats 4000000 in
theorem refText_any (t : List Nat) (w : World) (ht : okL t) (hz : (T t).size ≤ 4000) (hE : Env w) :
    Calls Tryz.prog 62 #[.string (T t)] w fun e w' => e = .returned (.bool (litX t)) ∧ Below w.heap.size w w' := by
  have hC := refLiteral_any (T t) w hz
  have hI := refIsText_same (T t) w (by omega) hE
  rw [show textB (T t) = true by unfold textB; rw [pfault_T ht]; rfl] at hI
  have HI := hide hI
  rw [show (litQ (T t).data.toList).isSome = litX t by rw [T_data]; rfl] at hC
  clear hI hE
  cases hb : litX t
  · rw [hb, if_neg (by decide)] at hC
    have HC := hide hC
    clear hC hb
    go_enter Tryz.func62, Tryz.ntmps62
    go_wp2_with fail
    refine (unhide HC).mono ?_
    rintro e w1 ⟨⟨X, rfl⟩, rfl⟩
    go_wp2_with fail
    go_returns
    exact ⟨rfl, Below.refl _ _⟩
  · rw [hb, if_pos rfl] at hC
    have HC := hide hC
    clear hC hb
    go_enter Tryz.func62, Tryz.ntmps62
    go_wp2_with fail
    refine (unhide HC).mono ?_
    rintro e w1 ⟨⟨X, rfl⟩, rfl⟩
    go_wp2_with fail
    refine (unhide HI).mono ?_
    rintro e w2 ⟨rfl, hb2⟩
    go_wp2_with fail
    go_returns
    exact ⟨rfl, hb2⟩
set_option maxRecDepth 100000 in
set_option maxHeartbeats 4000000 in
theorem refBare_ok (x : Ex) (al : Option Addr) (cc : Nat) (b : Bool) (w : World) (ht : okL x.text) (h : x.num = 0 ∧ x.axis = 0 ∧ x.test = 0 ∧ (b = true ∨ x.text = [])) :
    Calls Tryz.prog 59 #[exAgg x (.slice al x.kids.length cc), .bool b] w fun e w' => e = .returned (.bool true) ∧ Below w.heap.size w w' := by
  obtain ⟨o, t, m, a, k, ks⟩ := x
  obtain ⟨h1, h2, h3, h4⟩ := h
  replace h1 : m = 0 := h1
  replace h2 : a = 0 := h2
  replace h3 : k = 0 := h3
  have n1 : (m == 0) = true := by rw [h1]; rfl
  have n2 : (((a : Nat) : Int) == 0) = true := icast_eq (by omega)
  have n3 : (((k : Nat) : Int) == 0) = true := icast_eq (by omega)
  clear h1 h2 h3
  show Calls Tryz.prog 59 #[.agg #[.int .i64 (o : Nat), .string (T t), .int .i64 0, .int .i64 m, .int .i64 (a : Nat), .int .i64 (k : Nat), .slice al ks.length cc], .bool b] w fun e w' => e = .returned (.bool true) ∧ Below w.heap.size w w'
  obtain ⟨W1, e1⟩ : ∃ W1, w.alloc (.cells #[.int .i64 (o : Nat), .string (T t), .int .i64 0, .int .i64 m, .int .i64 (a : Nat), .int .i64 (k : Nat), .slice al ks.length cc] 32) = W1 := ⟨_, rfl⟩
  have hb : Below w.heap.size w W1 := by rw [← e1]; exact (Below.refl _ _).alloc (Nat.le_refl _) _
  have hq1 : W1.heap[w.heap.size]? = some (.cells #[.int .i64 (o : Nat), .string (T t), .int .i64 0, .int .i64 m, .int .i64 (a : Nat), .int .i64 (k : Nat), .slice al ks.length cc] 32) := by rw [← e1]; exact palloc_new _ _
  obtain ⟨a0, a1, a2, a3, a4, a5, a6⟩ := var_cells hq1
  have HB := hide hb
  have q := pempty_T ht
  clear hb hq1
  rcases h4 with rfl | h4
  · clear q
    go_enter Tryz.func59, Tryz.ntmps59
    go_wp2_with fail
    go_returns
    exact ⟨rfl, unhide HB⟩
  · replace h4 : t = [] := h4
    have q2 : (T t).toList.isEmpty = true := by rw [h4, T_toList]; rfl
    clear q h4
    cases b
    all_goals
      go_enter Tryz.func59, Tryz.ntmps59
      go_wp2_with fail
      go_returns
      exact ⟨rfl, unhide HB⟩
end Go.Proofs.YthkkfldmoflfaaaGreatDoor
/- The reference's right, step, path, all: what the judge takes is right for them. -/
namespace Go.Proofs.YthkkfldmoflfaaaGreatDoor
open Go.RowKit Go.Maps
theorem jright_inv {fl : Ex → Bool} {n d c c' : Nat} {x : Ex} (h : jRight fl n d c x = some (true, c')) : selfX x = true ∧ fl x = true ∧ ∃ m, m < n ∧ (x.op = 21 → jPath fl m (d + 1) (c + 1) x.kids = some (true, c')) ∧ (x.op ≠ 21 → kidsN x = true ∧ jAll fl m (d + 1) (c + 1) x.kids = some (true, c')) := by
  match n, h with
  | 0, h => rw [jRight] at h; cases h
  | 1, h =>
    rw [jRight] at h
    split at h
    · rw [jPart] at h; cases h
    · cases h
  | 2, h =>
    rw [jRight] at h
    split at h
    · rw [jPart] at h
      split at h
      · rw [jKids] at h; cases h
      · cases h
    · cases h
  | n + 3, h =>
    rw [jRight] at h
    split at h
    · rename_i h1
      rw [jPart] at h
      split at h
      · rename_i h2
        rw [jKids] at h
        refine ⟨h1, h2.2.2, n, by omega, fun h3 => ?_, fun h3 => ?_⟩
        · rwa [if_pos h3] at h
        · rw [if_neg h3] at h
          split at h
          · rename_i h4
            exact ⟨h4, h⟩
          · cases h
      · cases h
    · cases h
theorem jpart_inv {fl : Ex → Bool} {n d c c' : Nat} {x : Ex} (h : jPart fl n d c x = some (true, c')) (hx : x.op ≠ 21) : fl x = true ∧ kidsN x = true ∧ ∃ m, m < n ∧ jAll fl m (d + 1) (c + 1) x.kids = some (true, c') := by
  match n, h with
  | 0, h => rw [jPart] at h; cases h
  | 1, h =>
    rw [jPart] at h
    split at h
    · rw [jKids] at h; cases h
    · cases h
  | n + 2, h =>
    rw [jPart] at h
    split at h
    · rename_i h2
      rw [jKids, if_neg hx] at h
      split at h
      · rename_i h4
        exact ⟨h2.2.2, h4, n, by omega, h⟩
      · cases h
    · cases h
theorem jall_inv {fl : Ex → Bool} : ∀ {n d c c' : Nat} {ks : List Ex}, jAll fl n d c ks = some (true, c') → ∀ (i : Nat) (k : Ex), ks[i]? = some k → ∃ m c1 c2, m < n ∧ jRight fl m d c1 k = some (true, c2)
  | 0, _, _, _, _, h, _, _, _ => by rw [jAll] at h; cases h
  | n + 1, d, c, c', [], h, i, k, hi => by simp at hi
  | n + 1, d, c, c', k0 :: ks, h, 0, k, hi => by
    cases hi
    rw [jAll] at h
    obtain ⟨c1, h1, h2⟩ := JR.then_some h
    exact ⟨n, _, _, by omega, h1⟩
  | n + 1, d, c, c', k0 :: ks, h, i + 1, k, hi => by
    rw [jAll] at h
    obtain ⟨c1, h1, h2⟩ := JR.then_some h
    obtain ⟨m, a, b, hm, e⟩ := jall_inv h2 i k (by simpa using hi)
    exact ⟨m, a, b, by omega, e⟩
theorem jsteps_inv {fl : Ex → Bool} : ∀ {n d c c' : Nat} {ks : List Ex}, jSteps fl n d c ks = some (true, c') → ∀ (i : Nat) (k : Ex), ks[i]? = some k → k.op = 23 ∧ ∃ m c1 c2, m < n ∧ jPart fl m d c1 k = some (true, c2)
  | 0, _, _, _, _, h, _, _, _ => by rw [jSteps] at h; cases h
  | n + 1, d, c, c', [], h, i, k, hi => by simp at hi
  | n + 1, d, c, c', k0 :: ks, h, 0, k, hi => by
    cases hi
    rw [jSteps] at h
    split at h
    · rename_i h0
      obtain ⟨c1, h1, h2⟩ := JR.then_some h
      exact ⟨h0, n, _, _, by omega, h1⟩
    · cases h
  | n + 1, d, c, c', k0 :: ks, h, i + 1, k, hi => by
    rw [jSteps] at h
    split at h
    · obtain ⟨c1, h1, h2⟩ := JR.then_some h
      obtain ⟨h0, m, a, b, hm, e⟩ := jsteps_inv h2 i k (by simpa using hi)
      exact ⟨h0, m, a, b, by omega, e⟩
    · cases h
/-- What a path begins with. -/
def BegX (fl : Ex → Bool) (n d : Nat) (k : Ex) (rest : List Ex) : Prop :=
  (k.op = 22 ∧ fl k = true ∧ k.kids = []) ∨ (rest ≠ [] ∧ k.op = 0 ∧ fl k = true ∧ k.kids = []) ∨ (rest ≠ [] ∧ k.op ≠ 0 ∧ k.op ≠ 22 ∧ ∃ m c1 c2, m < n ∧ jRight fl m d c1 k = some (true, c2))
theorem kids_none {x : Ex} (h : kidsN x = true) (ho : x.op = 0 ∨ x.op = 22) : x.kids = [] := by
  unfold kidsN at h
  rw [if_pos (by omega)] at h
  simpa using h
theorem jpath_inv {fl : Ex → Bool} {n d c c' : Nat} {ks : List Ex} (h : jPath fl n d c ks = some (true, c')) : ∃ k rest, ks = k :: rest ∧ BegX fl n d k rest ∧ ∀ (i : Nat) (s : Ex), rest[i]? = some s → s.op = 23 ∧ ∃ m c1 c2, m < n ∧ jPart fl m d c1 s = some (true, c2) := by
  cases n with
  | zero => rw [jPath] at h; cases h
  | succ n =>
    cases ks with
    | nil => rw [jPath] at h; cases h
    | cons k rest =>
      rw [jPath] at h
      split at h
      · cases h
      · rename_i hne
        obtain ⟨c1, h1, h2⟩ := JR.then_some h
        refine ⟨k, rest, rfl, ?_, fun i s hi => ?_⟩
        · by_cases h22 : k.op = 22
          · rw [if_pos (.inr h22)] at h1
            obtain ⟨a, b, _⟩ := jpart_inv h1 (by omega)
            exact .inl ⟨h22, a, kids_none b (.inr h22)⟩
          · have hr : rest ≠ [] := fun e => hne ⟨e, h22⟩
            by_cases h0 : k.op = 0
            · rw [if_pos (.inl h0)] at h1
              obtain ⟨a, b, _⟩ := jpart_inv h1 (by omega)
              exact .inr (.inl ⟨hr, h0, a, kids_none b (.inl h0)⟩)
            · rw [if_neg (by omega)] at h1
              exact .inr (.inr ⟨hr, h0, h22, n, _, _, by omega, h1⟩)
        · obtain ⟨h0, m, a, b, hm, e⟩ := jsteps_inv h2 i s hi
          exact ⟨h0, m, a, b, by omega, e⟩
theorem rest_inv {t : List Nat} {n : Int} {a k : Nat} (h : restX t n a k = true) : t = [] ∧ n = 0 ∧ a = 0 ∧ k = 0 := by
  unfold restX at h
  simpa using h
theorem type_none {t : List Nat} (h : (typeNo t).isNone = true) : typeWord t = false := by
  have h1 : typeNo t = none := Option.isNone_iff_eq_none.1 h
  unfold typeNo at h1
  rw [List.findIdx?_eq_none_iff] at h1
  have hx : ∀ c ∈ typeL, (t == c) = false := fun c hc => by
    have := h1 c hc
    cases hb : (t == c)
    · rfl
    · rw [beq_iff_eq] at hb
      rw [hb] at this
      simp at this
  unfold typeWord
  rw [hx [99, 111, 109, 109, 101, 110, 116] (by decide), hx [116, 101, 120, 116] (by decide), hx _ (by decide : [112, 114, 111, 99, 101, 115, 115, 105, 110, 103, 45, 105, 110, 115, 116, 114, 117, 99, 116, 105, 111, 110] ∈ typeL), hx [110, 111, 100, 101] (by decide)]
  rfl
set_option maxRecDepth 100000 in
set_option maxHeartbeats 4000000 in
theorem refAxisName_ok (a : Nat) (w : World) (ha : a < 12) :
    Calls Tryz.prog 122 #[.int .i64 (a : Nat)] w fun e w' => e = .returned (.string (T (axAt a))) ∧ Below w.heap.size w w' := by
  rcases (show a = 0 ∨ a = 1 ∨ a = 2 ∨ a = 3 ∨ a = 4 ∨ a = 5 ∨ a = 6 ∨ a = 7 ∨ a = 8 ∨ a = 9 ∨ a = 10 ∨ a = 11 by omega) with rfl | rfl | rfl | rfl | rfl | rfl | rfl | rfl | rfl | rfl | rfl | rfl
  all_goals
    go_enter Tryz.func122, Tryz.ntmps122
    go_wp2_with fail
    go_returns
    exact ⟨rfl, by (repeat first | refine Below.setCell ?_ (by first | omega | (simp; omega) | simp) _ | refine Below.drew ?_ | refine Below.alloc ?_ (by first | omega | (simp; omega) | simp) _ | assumption | exact Below.refl _ _)⟩
end Go.Proofs.YthkkfldmoflfaaaGreatDoor
