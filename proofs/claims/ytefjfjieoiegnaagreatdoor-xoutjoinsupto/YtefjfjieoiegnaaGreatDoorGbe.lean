/- Several texts, laid as one. -/
import Derived.Test.YtefjfjieoiegnaaGreatDoorXmlExp2
import Derived.Test.YtefjfjieoiegnaaGreatDoorGaw
/- Every reference: xmlscan's add, over addText's contract. -/
namespace Go.Proofs.YtefjfjieoiegnaaGreatDoor
open Go.RowKit
/-- What always holds of an expansion: its names are texts, its text and its count are not too long. -/
structure ExpOk (tt : List Nat) (opn : List (List Nat)) (sp : Nat) (ents : List (List Nat × List Nat)) : Prop where
  uniq : UniqE ents
  some : ∀ x ∈ ents, x.1 ≠ []
  okn : ∀ x ∈ opn, okL x
  len : opn.length ≤ 9
  spl : sp ≤ 32768
  txl : (tx tt).length ≤ 100000 + sp
theorem ExpK.of_grew {q p : Nat} {vt vo : Value} {w W : World} (h : Grew q p vt w W) : ExpK q p vt vo w W := ⟨h.os, h.tape, h.output, h.size, fun k hk h1 _ h3 _ => h.block k hk h1 h3⟩
theorem spend_form {o : Except Nat Nat} {C B q p m : Nat} {flat : Bool} {vt vo : Value} {tt : List Nat} {opn : List (List Nat)} {ents : List (List Nat × List Nat)} {c : Array Value} {e : Ending} {w w' : World} (h : SpendOut o C B q p m flat vt vo tt opn ents c e w w') : ∃ k : Int, e = .returned (.int .i64 k) := by
  obtain ⟨_, h⟩ := h
  cases o with
  | error k => exact ⟨_, h.1⟩
  | ok s => exact ⟨_, h.1⟩
/-- add of a reference that says something. -/
theorem add_said2 (C B q p m : Nat) (flat : Bool) (vt vo : Value) (tt : List Nat) (opn : List (List Nat)) (sp : Nat) (ents : List (List Nat × List Nat)) (c : Array Value) (r : Ref) (n : Int) (w : World)
    (S : ExpS w C B q p m flat vt vo tt opn sp ents c) (hX : ExpOk tt opn sp ents) (hs : r.said ≠ []) (ho : okL r.said) (hz : (T r.said).size ≤ 4) :
    Calls Tryz.prog 140 #[.pointer (some ⟨q, 0, none⟩), .agg #[.string (T r.said), .string (T r.name), .int .i64 n]] w fun e w' =>
      AddOut (match spendX opn sp ((tx r.said).length + 1) with | .error e => .error e | .ok s1 => .ok (r.said, s1)) C B q p m flat vt vo tt opn ents c e w w' := by
  have htl := hX.txl
  have hsl := hX.spl
  have hts : (tx r.said).length = (T r.said).size := (T_size r.said).symm
  have hqp : q ≠ p := fun e => by
    have h1 := S.blk
    rw [e] at h1
    have h2 := S.rd
    rw [h1] at h2
    cases h2
  have hvp : vt.ownBlock ≠ some p := owns_not S.txt S.rd (by decide)
  have hplt : p < w.heap.size := (Array.getElem?_eq_some_iff.1 S.rd).1
  obtain ⟨ao, co, rfl⟩ := owns_slice S.opn
  refine (add_told C q p flat vt (.slice ao opn.length co) tt r n w S.blk S.lo S.txt (by omega) hs ho (by omega)
    (fun W e w' => (opn = [] → e = .returned (.int .i64 0) ∧ w' = W) ∧ (opn ≠ [] → e = .returned (.int .i64 (if 32768 < sp + ((T r.said).size + 1) then 6 else 0)) ∧ w' = W.setCell ⟨p, 3, none⟩ (.int .i64 ((sp + ((T r.said).size + 1) : Nat) : Int)))) ?_ ?_).mono ?_
  · intro W vt' hW hp
    have hpW := hp hqp hvp hplt
    have c3 : W.cell? ⟨q, 3, none⟩ = some (.slice ao opn.length co) := blk_cell hW 3
    by_cases h : opn = []
    · rw [h] at c3
      refine (spend_top q ao co _ W c3).mono ?_
      rintro e w' ⟨rfl, rfl⟩
      exact ⟨fun _ => ⟨rfl, rfl⟩, fun h' => absurd h h'⟩
    · have hrd : W.heap[p]? = some (.cells c 63 (0, 0)) := by rw [hpW]; exact S.rd
      refine (spend_open q p ao opn.length co sp ((T r.said).size + 1) W c3 (List.length_pos_iff.2 h) (blk_cell hW 0) (by rw [blk_cell hrd]; exact S.c3) (blk_open hrd 3) hqp (by omega)).mono ?_
      rintro e w' ⟨rfl, rfl⟩
      exact ⟨fun h' => absurd h' h, fun _ => ⟨rfl, rfl⟩⟩
  · intro W e w' h
    by_cases h0 : opn = []
    · exact ⟨_, (h.1 h0).1⟩
    · exact ⟨_, (h.2 h0).1⟩
  · rintro e w' ⟨W, v', hG, hF, hX', hrow, h1, h2⟩
    have hK : ExpK q p vt (.slice ao opn.length co) w W := ExpK.of_grew hG
    have SW : ExpS W C B q p m flat v' (.slice ao opn.length co) (tt ++ r.said) opn sp ents c := by
      obtain ⟨es, ck, hm⟩ := S.ents.map
      have hmlt := (Array.getElem?_eq_some_iff.1 hm).1
      have hmq : m ≠ q := S.ents.ne S.blk
      have hmv : vt.ownBlock ≠ some m := fun e => by
        obtain ⟨c', hc'⟩ := owns_type S.txt e
        rw [hm] at hc'
        cases hc'
      refine ⟨hX', by rw [hG.block p hplt (Ne.symm hqp) hvp]; exact S.rd, S.csz, S.c2, S.c3, hrow, ?_, S.ents.kept (hG.block m hmlt hmq hmv), S.lo⟩
      exact owns_kept (S := fun k => k = q ∨ vt.ownBlock = some k) S.opn (fun k o hk hs => by rw [hG.block k (Array.getElem?_eq_some_iff.1 hk).1 (fun e => hs (.inl e)) (fun e => hs (.inr e))]; exact hk) (fun k hk hs => by
        rcases hs with rfl | hs
        · exact owns_not S.opn S.blk (by decide) hk
        · exact owns_apart S.opn S.txt (by decide) k hk hs)
    by_cases h0 : opn = []
    · obtain ⟨rfl, rfl⟩ := h1 h0
      refine ⟨v', _, hK, hF, .inl rfl, ?_⟩
      unfold spendX
      rw [if_pos h0]
      exact ⟨rfl, by rw [rdSp, set_same3 SW.c3]; exact SW⟩
    · obtain ⟨rfl, rfl⟩ := h2 h0
      obtain ⟨S', K'⟩ := SW.spent (sp + ((T r.said).size + 1))
      refine ⟨v', _, hK.trans hF (.inl rfl) K', hF, .inl rfl, ?_⟩
      unfold spendX
      rw [if_neg h0, hts]
      by_cases hb : 32768 < sp + ((T r.said).size + 1)
      · rw [if_pos hb, if_pos hb]
        exact ⟨rfl, _, _, S'⟩
      · rw [if_neg hb, if_neg hb]
        exact ⟨rfl, S'⟩
end Go.Proofs.YtefjfjieoiegnaaGreatDoor
/- Every reference, declared or not: xmlscan's add, over addText's contract. -/
namespace Go.Proofs.YtefjfjieoiegnaaGreatDoor
open Go.RowKit
set_option maxHeartbeats 1000000 in
/-- add of a name that is not declared. -/
theorem add_missing (C B q p m : Nat) (flat : Bool) (vt vo : Value) (tt name : List Nat) (opn : List (List Nat)) (sp : Nat) (ents : List (List Nat × List Nat)) (c : Array Value) (n : Int) (w : World)
    (S : ExpS w C B q p m flat vt vo tt opn sp ents c) (hu : UniqE ents) (hn : okL name) (hz : (T name).size ≤ 100000) (ht : entX ents name = none) :
    Calls Tryz.prog 140 #[.pointer (some ⟨q, 0, none⟩), .agg #[.string (T []), .string (T name), .int .i64 n]] w fun e w' =>
      e = .returned (.int .i64 5) ∧ Below w.heap.size w w' := by
  have hb : Below w.heap.size w (w.alloc (.cells #[.string (T []), .string (T name), .int .i64 n] 135)) := (Below.refl _ _).alloc (Nat.le_refl _) _
  have HS := hide S
  have hls : ∀ W, EntsAt W B m ents → (Instr.lookup 61 (.map (some m)) (.string (T name)) true).run Tryz.prog W = .ok (.tuple #[.agg #[.string (T [])], .bool false]) W := fun W hW => by
    rw [look_any hW hu hn (by omega)]
    unfold entTxt
    rw [ht]
    rfl
  have HLS := hide hls
  have hne := nil_T (l := []) rfl
  have HMK : Hid (∀ W, Below (w.heap.size + 1) (w.alloc (.cells #[.string (T []), .string (T name), .int .i64 n] 135)) W → W.cell? ⟨q, 0, none⟩ = some (.pointer (some ⟨p, 0, none⟩)) ∧ W.cell? ⟨p, 2, none⟩ = some (.map (some m)) ∧ W.cell? ⟨w.heap.size, 1, none⟩ = some (.string (T name)) ∧ (Instr.lookup 61 (.map (some m)) (.string (T name)) true).run Tryz.prog W = .ok (.tuple #[.agg #[.string (T [])], .bool false]) W ∧ Below (w.heap.size + 1) (w.alloc (.cells #[.string (T []), .string (T name), .int .i64 n] 135)) W) := by
    refine hide fun W hW => ?_
    have hsz : (w.alloc (.cells #[.string (T []), .string (T name), .int .i64 n] 135)).heap.size = w.heap.size + 1 := by simp
    have hW' := hW
    rw [← hsz] at hW'
    have S' := ((unhide HS).on hb).on hW'
    refine ⟨blk_cell S'.blk 0, by rw [blk_cell S'.rd]; exact S'.c2, keptC hW' (blk_cell (MapKept.heap_alloc w _).1 1), unhide HLS W S'.ents, hW⟩
  clear S hls
  go_enter Tryz.func140, Tryz.ntmps140
  go_wp2_with fail
  go_region_held3 (fun W => W.cell? ⟨q, 0, none⟩ = some (.pointer (some ⟨p, 0, none⟩)) ∧ W.cell? ⟨p, 2, none⟩ = some (.map (some m)) ∧ W.cell? ⟨w.heap.size, 1, none⟩ = some (.string (T name)) ∧ (Instr.lookup 61 (.map (some m)) (.string (T name)) true).run Tryz.prog W = .ok (.tuple #[.agg #[.string (T [])], .bool false]) W ∧ Below (w.heap.size + 1) (w.alloc (.cells #[.string (T []), .string (T name), .int .i64 n] 135)) W)
    ((refine unhide HMK _ ?_; (repeat first | assumption | refine Below.drew ?_ | refine Below.setCell ?_ (by first | omega | (simp; omega) | (simp; done)) _ | refine Below.alloc ?_ (by first | omega | (simp; omega) | (simp; done)) _ | exact Below.refl _ _)))
    (fail)
  all_goals go_wp2_with fail
  all_goals go_ret
  all_goals exact ⟨rfl, by (repeat first | assumption | refine Below.drew ?_ | refine Below.setCell ?_ (by first | omega | (simp; omega) | (simp; done)) _ | refine Below.alloc ?_ (by first | omega | (simp; omega) | (simp; done)) _ | exact Below.refl _ _)⟩
/-- What an expansion's count is behind a spend that went well. -/
theorem spendX_le {opn : List (List Nat)} {sp n s1 : Nat} (h : spendX opn sp n = .ok s1) (hs : sp ≤ 32768) : sp ≤ s1 ∧ s1 ≤ 32768 := by
  unfold spendX at h
  split at h
  · cases h; exact ⟨Nat.le_refl _, hs⟩
  · split at h
    · cases h
    · cases h; exact ⟨Nat.le_add_right _ _, by omega⟩
/-- add of every reference. -/
theorem add_any (d C B q p m : Nat) (flat : Bool) (vt vo : Value) (tt : List Nat) (opn : List (List Nat)) (sp : Nat) (ents : List (List Nat × List Nat)) (c : Array Value) (r : Ref) (n : Int) (w : World)
    (S : ExpS w C B q p m flat vt vo tt opn sp ents c) (hX : ExpOk tt opn sp ents) (ho : okL r.said) (hz : (T r.said).size ≤ 4) (hn : okL r.name) (hnz : (T r.name).size ≤ 100000)
    (HT : ∀ t, entX ents r.name = some t → ∀ W vt1 vo1 sp1 c1, ExpS W C B q p m flat vt1 vo1 tt (opn ++ [r.name]) sp1 ents c1 → ExpOk tt (opn ++ [r.name]) sp1 ents → opn.length ≤ 8 → ExpK q p vt vo w W → Calls Tryz.prog 167 #[.pointer (some ⟨q, 0, none⟩), .string (T t)] W fun e w' => AddOut (textX (addX ents flat d (opn ++ [r.name])) flat (opn ++ [r.name]) (t.length + 1) sp1 t) C B q p m flat vt1 vo1 tt (opn ++ [r.name]) ents c1 e W w') :
    Calls Tryz.prog 140 #[.pointer (some ⟨q, 0, none⟩), .agg #[.string (T r.said), .string (T r.name), .int .i64 n]] w fun e w' =>
      AddOut (addX ents flat (d + 1) opn sp r) C B q p m flat vt vo tt opn ents c e w w' := by
  by_cases hs : r.said = []
  · cases ht : entX ents r.name with
    | none =>
      have he : addX ents flat (d + 1) opn sp r = .error 5 := by
        unfold addX
        rw [if_neg (fun h => h hs), ht]
      rw [he, hs]
      refine (add_missing C B q p m flat vt vo tt r.name opn sp ents c n w S hX.uniq hn hnz ht).mono ?_
      rintro e w' ⟨rfl, hb⟩
      exact ⟨vt, vo, ExpK.below hb, .inl rfl, .inl rfl, rfl, tt, sp, by rw [rdSp, set_same3 S.c3]; exact S.on hb⟩
    | some t =>
      have he : addX ents flat (d + 1) opn sp r = entOut opn r.name sp (fun s1 => textX (addX ents flat d (opn ++ [r.name])) flat (opn ++ [r.name]) (t.length + 1) s1 t) := by
        conv => lhs; unfold addX
        rw [if_neg (fun h => h hs), ht]
        rfl
      rw [he, hs]
      refine add_entity C B q p m flat vt vo tt r.name t opn sp ents c n w S hX.uniq hn hnz ht hX.okn hX.len hX.spl _ ?_
      intro W vt1 vo1 sp1 c1 S1 hsp h8 hK _ _
      have hle := spendX_le hsp hX.spl
      refine HT t ht W vt1 vo1 sp1 c1 S1 ⟨hX.uniq, hX.some, ?_, ?_, hle.2, ?_⟩ (by omega) hK
      · intro x hx
        rcases List.mem_append.1 hx with h | h
        · exact hX.okn x h
        · rw [List.mem_singleton.1 h]; exact hn
      · rw [List.length_append]
        show opn.length + 1 ≤ 9
        omega
      · have := hX.txl
        omega
  · have he : addX ents flat (d + 1) opn sp r = (match spendX opn sp ((tx r.said).length + 1) with | .error e => .error e | .ok s1 => .ok (r.said, s1)) := by
      conv => lhs; unfold addX
      rw [if_pos hs]
      cases spendX opn sp ((tx r.said).length + 1) <;> rfl
    rw [he]
    exact add_said2 C B q p m flat vt vo tt opn sp ents c r n w S hX hs ho hz
end Go.Proofs.YtefjfjieoiegnaaGreatDoor
/- What an expansion's text and its count come to, in plain terms: each character of the text was spent. -/
namespace Go.Proofs.YtefjfjieoiegnaaGreatDoor
theorem spendX_ok {opn : List (List Nat)} {sp n s1 : Nat} (hne : opn ≠ []) (h : spendX opn sp n = .ok s1) : s1 = sp + n ∧ s1 ≤ 32768 := by
  unfold spendX at h
  rw [if_neg hne] at h
  split at h
  · cases h
  · cases h; exact ⟨rfl, by omega⟩
theorem flatL_len {flat : Bool} {l : List Nat} (h : okL l) : (tx (flatL flat l)).length = (tx l).length := by
  unfold flatL
  cases flat
  · rfl
  · have := sz_space h
    rw [T_size, T_size] at this
    exact this
theorem textX_len {add : Nat → Ref → Except Nat (List Nat × Nat)} {flat : Bool} {opn : List (List Nat)} (hne : opn ≠ [])
    (hadd : ∀ s r t s', s ≤ 32768 → add s r = .ok (t, s') → s + (tx t).length ≤ s' ∧ s' ≤ 32768) :
    ∀ (f sp : Nat) (l t : List Nat) (s' : Nat), okL l → sp ≤ 32768 → textX add flat opn f sp l = .ok (t, s') → sp + (tx t).length ≤ s' ∧ s' ≤ 32768
  | 0, sp, l, t, s', _, hs, h => by
    unfold textX at h
    cases h
    exact ⟨Nat.le_refl _, hs⟩
  | f + 1, sp, l, t, s', hl, hs, h => by
    unfold textX at h
    split at h
    · cases h
      exact ⟨Nat.le_refl _, hs⟩
    · have hp : okL (l.takeWhile (· != 38)) := fun c hc => hl c (List.takeWhile_subset _ hc)
      simp only at h
      split at h
      · cases h
      · rename_i s1 h1
        obtain ⟨e1, h1⟩ := spendX_ok hne h1
        have hfl := flatL_len (flat := flat) hp
        split at h
        · cases h
          exact ⟨by omega, h1⟩
        · split at h
          · cases h
          · rename_i r hr
            split at h
            · cases h
            · rename_i t2 s2 h2
              have a2 := hadd s1 r t2 s2 h1 h2
              split at h
              · cases h
              · rename_i u s3 h3
                have a3 := textX_len hne hadd f s2 _ u s3 (fun c hc => hl c (List.mem_of_mem_drop (List.mem_of_mem_drop hc))) a2.2 h3
                cases h
                rw [tx_len_app, tx_len_app]
                exact ⟨by omega, a3.2⟩
theorem addX_len {ents : List (List Nat × List Nat)} {flat : Bool} (he : ∀ x ∈ ents, okL x.2) :
    ∀ (d : Nat) (opn : List (List Nat)) (sp : Nat) (r : Ref) (t : List Nat) (s' : Nat), opn ≠ [] → sp ≤ 32768 → addX ents flat d opn sp r = .ok (t, s') → sp + (tx t).length ≤ s' ∧ s' ≤ 32768
  | 0, opn, sp, r, t, s', _, _, h => by
    unfold addX at h
    cases h
  | d + 1, opn, sp, r, t, s', hne, hs, h => by
    unfold addX at h
    split at h
    · split at h
      · cases h
      · rename_i s1 h1
        have a1 := spendX_ok hne h1
        cases h
        exact ⟨by omega, a1.2⟩
    · split at h
      · cases h
      · rename_i x hx
        split at h
        · cases h
        · split at h
          · cases h
          · rename_i s1 h1
            have a1 := spendX_ok hne h1
            have hok : okL x := by
              unfold entX at hx
              obtain ⟨y, hy, rfl⟩ := Option.map_eq_some_iff.1 hx
              exact he y (List.mem_of_find?_eq_some hy)
            have a2 := textX_len (opn := opn ++ [r.name]) (by simp) (fun s r' t2 s2 hs2 h2 => addX_len he d (opn ++ [r.name]) s r' t2 s2 (by simp) hs2 h2) (x.length + 1) s1 x t s' hok a1.2 h
            exact ⟨by omega, a2.2⟩
/-- What went ahead of a text's end. -/
def preX (u : List Nat) (o : Except Nat (List Nat × Nat)) : Except Nat (List Nat × Nat) := match o with | .error e => .error e | .ok (t, s) => .ok (u ++ t, s)
theorem preX_nil (o : Except Nat (List Nat × Nat)) : preX [] o = o := by
  cases o with
  | error e => rfl
  | ok x => rfl
theorem preX_pre (u v : List Nat) (o : Except Nat (List Nat × Nat)) : preX u (preX v o) = preX (u ++ v) o := by
  cases o with
  | error e => rfl
  | ok x => unfold preX; simp
/-- One round of addText, in plain terms. -/
theorem textX_step (add : Nat → Ref → Except Nat (List Nat × Nat)) (flat : Bool) (opn : List (List Nat)) (f sp : Nat) (l : List Nat) (hl : l ≠ []) : textX add flat opn (f + 1) sp l = match spendX opn sp (tx (l.takeWhile (· != 38))).length with
    | .error e => .error e
    | .ok s1 => if l.drop (l.takeWhile (· != 38)).length = [] then .ok (flatL flat (l.takeWhile (· != 38)), s1) else match readRef (l.drop (l.takeWhile (· != 38)).length) with
      | none => .error 5
      | some r => match add s1 r with
        | .error e => .error e
        | .ok (t, s2) => preX (flatL flat (l.takeWhile (· != 38)) ++ t) (textX add flat opn f s2 ((l.drop (l.takeWhile (· != 38)).length).drop r.size)) := by
  conv => lhs; unfold textX
  rw [if_neg hl]
  rfl
theorem drop_38 {l : List Nat} (h : l.drop (l.takeWhile (· != 38)).length ≠ []) : heads 38 (l.drop (l.takeWhile (· != 38)).length) = true := by
  have e : l.drop (l.takeWhile (· != 38)).length = l.dropWhile (· != 38) := by
    conv => lhs; arg 2; rw [← List.takeWhile_append_dropWhile (p := (· != 38)) (l := l)]
    rw [List.drop_left]
  rw [e] at h ⊢
  have := List.head_dropWhile_not (· != 38) h
  cases hd : l.dropWhile (· != 38) with
  | nil => exact absurd hd h
  | cons c t =>
    simp only [hd, List.head_cons] at this
    have h38 : c = 38 := by simpa using this
    subst h38
    rfl
theorem ahead_38 : ∀ (l : List Nat), ahead [38] l = l.takeWhile (· != 38)
  | [] => rfl
  | c :: t => by
    have ih := ahead_38 t
    by_cases hc : c = 38
    · subst hc
      rfl
    · have h1 : (List.isPrefixOf [38] (c :: t)) = false := by
        simp only [List.isPrefixOf, Bool.and_true, beq_eq_false_iff_ne]
        exact fun e => hc e.symm
      have h2 : (c != 38) = true := by simpa using hc
      rw [List.takeWhile_cons, if_pos h2, ← ih]
      unfold ahead
      rw [cutL, if_neg (by rw [h1]; exact Bool.false_ne_true)]
      cases cutL [38] t <;> rfl
end Go.Proofs.YtefjfjieoiegnaaGreatDoor
