/- Every reference, declared or not: xmlscan's add, over addText's contract. -/
import Derived.Test.YtkklapoceknbcaaGreatDoorXmlExp3
namespace Go.Proofs.YtkklapoceknbcaaGreatDoor
open Go.RowKit
set_option maxHeartbeats 1000000 in
/-- add of a name that is not declared. -/
theorem add_missing (C B q p m : Nat) (flat : Bool) (vt vo : Value) (tt name : List Nat) (opn : List (List Nat)) (sp : Nat) (ents : List (List Nat × List Nat)) (c : Array Value) (n : Int) (w : World)
    (S : ExpS w C B q p m flat vt vo tt opn sp ents c) (hu : UniqE ents) (hn : okL name) (hz : (T name).size ≤ 100000) (ht : entX ents name = none) :
    Calls Tryz.prog 107 #[.pointer (some ⟨q, 0, none⟩), .agg #[.string (T []), .string (T name), .int .i64 n]] w fun e w' =>
      e = .returned (.int .i64 5) ∧ Below w.heap.size w w' := by
  have hb : Below w.heap.size w (w.alloc (.cells #[.string (T []), .string (T name), .int .i64 n] 105)) := (Below.refl _ _).alloc (Nat.le_refl _) _
  have HS := hide S
  have hls : ∀ W, EntsAt W B m ents → (Instr.lookup 53 (.map (some m)) (.string (T name)) true).run Tryz.prog W = .ok (.tuple #[.agg #[.string (T [])], .bool false]) W := fun W hW => by
    rw [look_any hW hu hn (by omega)]
    unfold entTxt
    rw [ht]
    rfl
  have HLS := hide hls
  have hne := nil_T (l := []) rfl
  have HMK : Hid (∀ W, Below (w.heap.size + 1) (w.alloc (.cells #[.string (T []), .string (T name), .int .i64 n] 105)) W → W.cell? ⟨q, 0, none⟩ = some (.pointer (some ⟨p, 0, none⟩)) ∧ W.cell? ⟨p, 2, none⟩ = some (.map (some m)) ∧ W.cell? ⟨w.heap.size, 1, none⟩ = some (.string (T name)) ∧ (Instr.lookup 53 (.map (some m)) (.string (T name)) true).run Tryz.prog W = .ok (.tuple #[.agg #[.string (T [])], .bool false]) W ∧ Below (w.heap.size + 1) (w.alloc (.cells #[.string (T []), .string (T name), .int .i64 n] 105)) W) := by
    refine hide fun W hW => ?_
    have hsz : (w.alloc (.cells #[.string (T []), .string (T name), .int .i64 n] 105)).heap.size = w.heap.size + 1 := by simp
    have hW' := hW
    rw [← hsz] at hW'
    have S' := ((unhide HS).on hb).on hW'
    refine ⟨blk_cell S'.blk 0, by rw [blk_cell S'.rd]; exact S'.c2, keptC hW' (blk_cell (MapKept.heap_alloc w _).1 1), unhide HLS W S'.ents, hW⟩
  clear S hls
  go_enter Tryz.func107, Tryz.ntmps107
  go_wp2_with fail
  go_region_held3 (fun W => W.cell? ⟨q, 0, none⟩ = some (.pointer (some ⟨p, 0, none⟩)) ∧ W.cell? ⟨p, 2, none⟩ = some (.map (some m)) ∧ W.cell? ⟨w.heap.size, 1, none⟩ = some (.string (T name)) ∧ (Instr.lookup 53 (.map (some m)) (.string (T name)) true).run Tryz.prog W = .ok (.tuple #[.agg #[.string (T [])], .bool false]) W ∧ Below (w.heap.size + 1) (w.alloc (.cells #[.string (T []), .string (T name), .int .i64 n] 105)) W)
    ((refine unhide HMK _ ?_; (repeat first | assumption | refine Below.drew ?_ | refine Below.setCell ?_ (by first | omega | (simp; omega) | (simp; done)) _ | refine Below.alloc ?_ (by first | omega | (simp; omega) | (simp; done)) _ | exact Below.refl _ _)))
    (fail)
  all_goals go_wp2_with fail
  all_goals go_ret
  all_goals exact ⟨rfl, by (repeat first | assumption | refine Below.drew ?_ | refine Below.setCell ?_ (by first | omega | (simp; omega) | (simp; done)) _ | refine Below.alloc ?_ (by first | omega | (simp; omega) | (simp; done)) _ | exact Below.refl _ _)⟩
/-- What an expansion's count is behind a spend that went well. -/
theorem spendX_le {opn : List (List Nat)} {sp n s1 : Nat} (h : spendX opn sp n = .ok s1) (hs : sp ≤ 32768) : sp ≤ s1 ∧ s1 ≤ 32768 := by
  unfold spendX at h
  split at h
  · cases h; exact ⟨Nat.le_refl _, hs⟩
  · split at h
    · cases h
    · cases h; exact ⟨Nat.le_add_right _ _, by omega⟩
/-- add of every reference. -/
theorem add_any (d C B q p m : Nat) (flat : Bool) (vt vo : Value) (tt : List Nat) (opn : List (List Nat)) (sp : Nat) (ents : List (List Nat × List Nat)) (c : Array Value) (r : Ref) (n : Int) (w : World)
    (S : ExpS w C B q p m flat vt vo tt opn sp ents c) (hX : ExpOk tt opn sp ents) (ho : okL r.said) (hz : (T r.said).size ≤ 4) (hn : okL r.name) (hnz : (T r.name).size ≤ 100000)
    (HT : ∀ t, entX ents r.name = some t → ∀ W vt1 vo1 sp1 c1, ExpS W C B q p m flat vt1 vo1 tt (opn ++ [r.name]) sp1 ents c1 → ExpOk tt (opn ++ [r.name]) sp1 ents → opn.length ≤ 8 → ExpK q p vt vo w W → Calls Tryz.prog 125 #[.pointer (some ⟨q, 0, none⟩), .string (T t)] W fun e w' => AddOut (textX (addX ents flat d (opn ++ [r.name])) flat (opn ++ [r.name]) (t.length + 1) sp1 t) C B q p m flat vt1 vo1 tt (opn ++ [r.name]) ents c1 e W w') :
    Calls Tryz.prog 107 #[.pointer (some ⟨q, 0, none⟩), .agg #[.string (T r.said), .string (T r.name), .int .i64 n]] w fun e w' =>
      AddOut (addX ents flat (d + 1) opn sp r) C B q p m flat vt vo tt opn ents c e w w' := by
  by_cases hs : r.said = []
  · cases ht : entX ents r.name with
    | none =>
      have he : addX ents flat (d + 1) opn sp r = .error 5 := by
        unfold addX
        rw [if_neg (fun h => h hs), ht]
      rw [he, hs]
      refine (add_missing C B q p m flat vt vo tt r.name opn sp ents c n w S hX.uniq hn hnz ht).mono ?_
      rintro e w' ⟨rfl, hb⟩
      exact ⟨vt, vo, ExpK.below hb, .inl rfl, .inl rfl, rfl, tt, sp, by rw [rdSp, set_same3 S.c3]; exact S.on hb⟩
    | some t =>
      have he : addX ents flat (d + 1) opn sp r = entOut opn r.name sp (fun s1 => textX (addX ents flat d (opn ++ [r.name])) flat (opn ++ [r.name]) (t.length + 1) s1 t) := by
        conv => lhs; unfold addX
        rw [if_neg (fun h => h hs), ht]
        rfl
      rw [he, hs]
      refine add_entity C B q p m flat vt vo tt r.name t opn sp ents c n w S hX.uniq hn hnz ht hX.okn hX.len hX.spl _ ?_
      intro W vt1 vo1 sp1 c1 S1 hsp h8 hK _ _
      have hle := spendX_le hsp hX.spl
      refine HT t ht W vt1 vo1 sp1 c1 S1 ⟨hX.uniq, hX.some, ?_, ?_, hle.2, ?_⟩ (by omega) hK
      · intro x hx
        rcases List.mem_append.1 hx with h | h
        · exact hX.okn x h
        · rw [List.mem_singleton.1 h]; exact hn
      · rw [List.length_append]
        show opn.length + 1 ≤ 9
        omega
      · have := hX.txl
        omega
  · have he : addX ents flat (d + 1) opn sp r = (match spendX opn sp ((tx r.said).length + 1) with | .error e => .error e | .ok s1 => .ok (r.said, s1)) := by
      conv => lhs; unfold addX
      rw [if_pos hs]
      cases spendX opn sp ((tx r.said).length + 1) <;> rfl
    rw [he]
    exact add_said2 C B q p m flat vt vo tt opn sp ents c r n w S hX hs ho hz
end Go.Proofs.YtkklapoceknbcaaGreatDoor
