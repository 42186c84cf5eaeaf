/- Entities, looked up. -/
import Derived.Test.YtkklapoceknbcaaGreatDoorXmlRefs
import Derived.Maps.Views
namespace Go.Proofs.YtkklapoceknbcaaGreatDoor
open Go.RowKit
/-- No name twice. -/
def UniqE (ents : List (List Nat × List Nat)) : Prop := ents.Pairwise fun a b => a.1 ≠ b.1
theorem entX_snoc (l : List (List Nat × List Nat)) (x : List Nat × List Nat) (n : List Nat) : entX (l ++ [x]) n = match entX l n with
    | some t => some t
    | none => if x.1 = n then some x.2 else none := by
  unfold entX
  rw [List.find?_append]
  cases h : l.find? (fun x => x.1 == n) with
  | some y => rfl
  | none =>
    by_cases e : x.1 = n
    · simp [e]
    · simp [e]
theorem entX_none {l : List (List Nat × List Nat)} {n : List Nat} (h : ∀ y ∈ l, y.1 ≠ n) : entX l n = none := by
  unfold entX
  rw [List.find?_eq_none.2 (fun y hy => by simpa using h y hy)]
  rfl
def entTxt (ents : List (List Nat × List Nat)) (n : List Nat) : List Nat := (entX ents n).getD []
theorem entsD_snoc (l : List (List Nat × List Nat)) (x : List Nat × List Nat) : entsD (l ++ [x]) = (entsD l).put (.string (tx x.1)) (.agg [.lit (.string (tx x.2))]) := by
  unfold entsD
  rw [List.foldl_append]
  rfl
theorem put_isMap {D : DataW Unit} (h : Maps.IsMap D) (k : Lit) (d : DataW Unit) : Maps.IsMap (D.put k d) := by
  obtain ⟨es, rfl⟩ := h
  exact ⟨_, rfl⟩
theorem entsD_look : ∀ (k : Nat) (ents : List (List Nat × List Nat)), ents.length = k → UniqE ents → (∀ x ∈ ents, okL x.1) → Maps.IsMap (entsD ents) ∧ ∀ n, okL n → Maps.has (entsD ents) (.string (tx n)) = (entX ents n).isSome ∧ (entsD ents).atKey (.string (tx n)) (.agg [.lit (.string [])]) = .agg [.lit (.string (tx (entTxt ents n)))]
  | 0, ents, h, _, _ => by
    rw [List.length_eq_zero_iff.1 h]
    exact ⟨Maps.isMap_empty, fun n _ => ⟨rfl, rfl⟩⟩
  | k + 1, ents, h, hu, ho => by
    rcases List.eq_nil_or_concat ents with rfl | ⟨l, x, rfl⟩
    · cases h
    · rw [List.concat_eq_append] at h hu ho ⊢
      have hl : l.length = k := by simpa using h
      have hu' := List.pairwise_append.1 hu
      obtain ⟨ih1, ih2⟩ := entsD_look k l hl hu'.1 (fun y hy => ho y (by simp [hy]))
      have hx := ho x (by simp)
      have hkey : WideAt.IsKeyLit (.string (tx x.1)) := by trivial
      rw [entsD_snoc]
      refine ⟨put_isMap ih1 _ _, fun n hn => ?_⟩
      unfold entTxt
      rw [entX_snoc]
      by_cases e : x.1 = n
      · subst e
        rw [entX_none (fun y hy => hu'.2.2 y hy x (by simp)), Maps.has_put_same ih1 hkey, Maps.atKey_put_same ih1 hkey]
        simp
      · have hne : (Lit.string (tx n)) ≠ .string (tx x.1) := fun h => e (tx_inj hx hn (Lit.string.inj h).symm)
        rw [Maps.has_put_other hne, Maps.atKey_put_other hne, (ih2 n hn).1, (ih2 n hn).2, if_neg e]
        unfold entTxt
        cases entX l n <;> exact ⟨rfl, rfl⟩
/-- A look-up among the entities. -/
theorem look_any {w : World} {B m : Nat} {ents : List (List Nat × List Nat)} (h : EntsAt w B m ents) (hu : UniqE ents) {n : List Nat} (hn : okL n) (hz : (T n).size ≤ 1000000) :
    (Instr.lookup 53 (.map (some m)) (.string (T n)) true).run Tryz.prog w = .ok (.tuple #[.agg #[.string (T (entTxt ents n))], .bool (entX ents n).isSome]) w := by
  obtain ⟨_, ho, hown⟩ := h
  have hz0 : (zeroValue 120).run Tryz.prog w = .ok (.agg #[.string ⟨#[]⟩]) w := by kernel_rfl
  obtain ⟨v, ps, hrun, hv⟩ := hown.look_ok (Maps.string_keyed Tryz.underlying9) Tryz.underlying53 hz0 (zd := .agg [.lit (.string [])]) (zp := []) rfl (Go.WideMaps.keyOf_string_mk Tryz.underlying9 (by unfold maxLen; omega : (T n).size ≤ maxLen))
  obtain ⟨_, hl⟩ := entsD_look ents.length ents rfl hu (fun x hx => (ho x hx).1)
  rw [T_data] at hrun hv
  rw [(hl n hn).1] at hrun
  rw [(hl n hn).2] at hv
  rw [hrun, entElem_inv hv]
  rfl
theorem T_eq {a b : List Nat} (ha : okL a) (hb : okL b) (h : T a = T b) : a = b := by
  have := congrArg (fun x : ByteArray => x.data.toList) h
  simp only [T_data] at this
  exact tx_inj ha hb this
/-- Is a name among those that are open? -/
theorem contains_opn (C : Nat) (vo : Value) (opn : List (List Nat)) (name : List Nat) (w : World) (h : w.ownsRow C 9 1 vo opn.length (opnRow opn)) (ho : ∀ x ∈ opn, okL x) (hn : okL name) (hl : opn.length ≤ 100) :
    Calls Tryz.prog 124 #[vo, .string (T name)] w fun e w' => e = .returned (.bool (opn.contains name)) ∧ w' = w := by
  have hmem : Lib.containsS (opn.map T) (T name) = opn.contains name := by
    rw [Bool.eq_iff_iff, Lib.containsS_iff, List.contains_iff_mem, List.mem_map]
    constructor
    · rintro ⟨x, hx, e⟩
      rw [← T_eq (ho x hx) hn e]
      exact hx
    · intro hx
      exact ⟨name, hx, rfl⟩
  rcases h.2 with ⟨rfl, h0⟩ | ⟨g, cap, cur, rfl, h2, h3, h4⟩
  · have e0 : opn = [] := List.length_eq_zero_iff.1 h0
    subst e0
    exact Tryz.slices_Contains_string_empty none 0 (T name) w
  · refine (Tryz.slices_Contains_string g 0 opn.length cap (opn.map T) (T name) w (by simp) (by omega) ?_).mono ?_
    · intro j hj
      rw [List.length_map] at hj
      have hc := h.cellAt j (by omega)
      rw [Nat.zero_add, hc]
      unfold opnRow
      rw [List.getElem?_map, List.getElem?_eq_getElem hj]
      simp [List.getD_eq_getElem?_getD, List.getElem?_map, List.getElem?_eq_getElem hj]
    · rintro e w' ⟨rfl, rfl⟩
      refine ⟨ret_bool ?_, rfl⟩
      rw [List.take_of_length_le (by simp)]
      exact hmem
end Go.Proofs.YtkklapoceknbcaaGreatDoor
