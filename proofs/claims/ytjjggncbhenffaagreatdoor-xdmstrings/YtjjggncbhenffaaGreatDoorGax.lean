/- Several texts, laid as one. -/
import Derived.Test.YtjjggncbhenffaaGreatDoorXmlExp2
import Derived.Test.YtjjggncbhenffaaGreatDoorGau
import Derived.Test.YtjjggncbhenffaaGreatDoorGas
/- Every reference: xmlscan's add, over addText's contract. -/
namespace Go.Proofs.YtjjggncbhenffaaGreatDoor
open Go.RowKit
/-- What always holds of an expansion: its names are texts, its text and its count are not too long. -/
structure ExpOk (tt : List Nat) (opn : List (List Nat)) (sp : Nat) (ents : List (List Nat × List Nat)) : Prop where
  uniq : UniqE ents
  some : ∀ x ∈ ents, x.1 ≠ []
  okn : ∀ x ∈ opn, okL x
  len : opn.length ≤ 9
  spl : sp ≤ 32768
  txl : (tx tt).length ≤ 100000 + sp
theorem ExpK.of_grew {q p : Nat} {vt vo : Value} {w W : World} (h : Grew q p vt w W) : ExpK q p vt vo w W := ⟨h.os, h.tape, h.output, h.size, fun k hk h1 _ h3 _ => h.block k hk h1 h3⟩
/-- add of a reference that says something. -/
theorem add_said2 (C B q p m : Nat) (flat : Bool) (vt vo : Value) (tt : List Nat) (opn : List (List Nat)) (sp : Nat) (ents : List (List Nat × List Nat)) (c : Array Value) (r : Ref) (n : Int) (w : World)
    (S : ExpS w C B q p m flat vt vo tt opn sp ents c) (hX : ExpOk tt opn sp ents) (hs : r.said ≠ []) (ho : okL r.said) (hz : (T r.said).size ≤ 4) :
    Calls Tryz.prog 200 #[.pointer (some ⟨q, 0, none⟩), .agg #[.string (T r.said), .string (T r.name), .int .i64 n]] w fun e w' =>
      AddOut (match spendX opn sp ((tx r.said).length + 1) with | .error e => .error e | .ok s1 => .ok (r.said, s1)) C B q p m flat vt vo tt opn ents c e w w' := by
  have htl := hX.txl
  have hsl := hX.spl
  have hts : (tx r.said).length = (T r.said).size := (T_size r.said).symm
  have hqp : q ≠ p := fun e => by
    have h1 := S.blk
    rw [e] at h1
    have h2 := S.rd
    rw [h1] at h2
    cases h2
  have hvp : vt.ownBlock ≠ some p := owns_not S.txt S.rd (by decide)
  have hplt : p < w.heap.size := (Array.getElem?_eq_some_iff.1 S.rd).1
  obtain ⟨ao, co, rfl⟩ := owns_slice S.opn
  refine (add_told C q p flat vt (.slice ao opn.length co) tt r n w S.blk S.lo S.txt (by omega) hs ho (by omega)
    (fun W e w' => (opn = [] → e = .returned (.int .i64 0) ∧ w' = W) ∧ (opn ≠ [] → e = .returned (.int .i64 (if 32768 < sp + ((T r.said).size + 1) then 6 else 0)) ∧ w' = W.setCell ⟨p, 3, none⟩ (.int .i64 ((sp + ((T r.said).size + 1) : Nat) : Int)))) ?_ ?_).mono ?_
  · intro W vt' hW hp
    have hpW := hp hqp hvp hplt
    have c3 : W.cell? ⟨q, 3, none⟩ = some (.slice ao opn.length co) := blk_cell hW 3
    by_cases h : opn = []
    · rw [h] at c3
      refine (spend_top q ao co _ W c3).mono ?_
      rintro e w' ⟨rfl, rfl⟩
      exact ⟨fun _ => ⟨rfl, rfl⟩, fun h' => absurd h h'⟩
    · have hrd : W.heap[p]? = some (.cells c 131 (0, 0)) := by rw [hpW]; exact S.rd
      refine (spend_open q p ao opn.length co sp ((T r.said).size + 1) W c3 (List.length_pos_iff.2 h) (blk_cell hW 0) (by rw [blk_cell hrd]; exact S.c3) (blk_open hrd 3) hqp (by omega)).mono ?_
      rintro e w' ⟨rfl, rfl⟩
      exact ⟨fun h' => absurd h' h, fun _ => ⟨rfl, rfl⟩⟩
  · intro W e w' h
    by_cases h0 : opn = []
    · exact ⟨_, (h.1 h0).1⟩
    · exact ⟨_, (h.2 h0).1⟩
  · rintro e w' ⟨W, v', hG, hF, hX', hrow, h1, h2⟩
    have hK : ExpK q p vt (.slice ao opn.length co) w W := ExpK.of_grew hG
    have SW : ExpS W C B q p m flat v' (.slice ao opn.length co) (tt ++ r.said) opn sp ents c := by
      obtain ⟨es, ck, hm⟩ := S.ents.map
      have hmlt := (Array.getElem?_eq_some_iff.1 hm).1
      have hmq : m ≠ q := S.ents.ne S.blk
      have hmv : vt.ownBlock ≠ some m := fun e => by
        obtain ⟨c', hc'⟩ := owns_type S.txt e
        rw [hm] at hc'
        cases hc'
      refine ⟨hX', by rw [hG.block p hplt (Ne.symm hqp) hvp]; exact S.rd, S.csz, S.c2, S.c3, hrow, ?_, S.ents.kept (hG.block m hmlt hmq hmv), S.lo⟩
      exact owns_kept (S := fun k => k = q ∨ vt.ownBlock = some k) S.opn (fun k o hk hs => by rw [hG.block k (Array.getElem?_eq_some_iff.1 hk).1 (fun e => hs (.inl e)) (fun e => hs (.inr e))]; exact hk) (fun k hk hs => by
        rcases hs with rfl | hs
        · exact owns_not S.opn S.blk (by decide) hk
        · exact owns_apart S.opn S.txt (by decide) k hk hs)
    by_cases h0 : opn = []
    · obtain ⟨rfl, rfl⟩ := h1 h0
      refine ⟨v', _, hK, hF, .inl rfl, ?_⟩
      unfold spendX
      rw [if_pos h0]
      exact ⟨rfl, by rw [rdSp, set_same3 SW.c3]; exact SW⟩
    · obtain ⟨rfl, rfl⟩ := h2 h0
      obtain ⟨S', K'⟩ := SW.spent (sp + ((T r.said).size + 1))
      refine ⟨v', _, hK.trans hF (.inl rfl) K', hF, .inl rfl, ?_⟩
      unfold spendX
      rw [if_neg h0, hts]
      by_cases hb : 32768 < sp + ((T r.said).size + 1)
      · rw [if_pos hb, if_pos hb]
        exact ⟨rfl, _, _, S'⟩
      · rw [if_neg hb, if_neg hb]
        exact ⟨rfl, S'⟩
end Go.Proofs.YtjjggncbhenffaaGreatDoor
/- Every reference, declared or not: xmlscan's add, over addText's contract. -/
namespace Go.Proofs.YtjjggncbhenffaaGreatDoor
open Go.RowKit
set_option maxHeartbeats 1000000 in
/-- add of a name that is not declared. -/
theorem add_missing (C B q p m : Nat) (flat : Bool) (vt vo : Value) (tt name : List Nat) (opn : List (List Nat)) (sp : Nat) (ents : List (List Nat × List Nat)) (c : Array Value) (n : Int) (w : World)
    (S : ExpS w C B q p m flat vt vo tt opn sp ents c) (hu : UniqE ents) (hn : okL name) (hz : (T name).size ≤ 100000) (ht : entX ents name = none) :
    Calls Tryz.prog 200 #[.pointer (some ⟨q, 0, none⟩), .agg #[.string (T []), .string (T name), .int .i64 n]] w fun e w' =>
      e = .returned (.int .i64 5) ∧ Below w.heap.size w w' := by
  have hb : Below w.heap.size w (w.alloc (.cells #[.string (T []), .string (T name), .int .i64 n] 203)) := (Below.refl _ _).alloc (Nat.le_refl _) _
  have HS := hide S
  have hls : ∀ W, EntsAt W B m ents → (Instr.lookup 129 (.map (some m)) (.string (T name)) true).run Tryz.prog W = .ok (.tuple #[.agg #[.string (T [])], .bool false]) W := fun W hW => by
    rw [look_any hW hu hn (by omega)]
    unfold entTxt
    rw [ht]
    rfl
  have HLS := hide hls
  have hne := nil_T (l := []) rfl
  have HMK : Hid (∀ W, Below (w.heap.size + 1) (w.alloc (.cells #[.string (T []), .string (T name), .int .i64 n] 203)) W → W.cell? ⟨q, 0, none⟩ = some (.pointer (some ⟨p, 0, none⟩)) ∧ W.cell? ⟨p, 2, none⟩ = some (.map (some m)) ∧ W.cell? ⟨w.heap.size, 1, none⟩ = some (.string (T name)) ∧ (Instr.lookup 129 (.map (some m)) (.string (T name)) true).run Tryz.prog W = .ok (.tuple #[.agg #[.string (T [])], .bool false]) W ∧ Below (w.heap.size + 1) (w.alloc (.cells #[.string (T []), .string (T name), .int .i64 n] 203)) W) := by
    refine hide fun W hW => ?_
    have hsz : (w.alloc (.cells #[.string (T []), .string (T name), .int .i64 n] 203)).heap.size = w.heap.size + 1 := by simp
    have hW' := hW
    rw [← hsz] at hW'
    have S' := ((unhide HS).on hb).on hW'
    refine ⟨blk_cell S'.blk 0, by rw [blk_cell S'.rd]; exact S'.c2, keptC hW' (blk_cell (MapKept.heap_alloc w _).1 1), unhide HLS W S'.ents, hW⟩
  clear S hls
  go_enter Tryz.func200, Tryz.ntmps200
  go_wp2_with fail
  go_region_held3 (fun W => W.cell? ⟨q, 0, none⟩ = some (.pointer (some ⟨p, 0, none⟩)) ∧ W.cell? ⟨p, 2, none⟩ = some (.map (some m)) ∧ W.cell? ⟨w.heap.size, 1, none⟩ = some (.string (T name)) ∧ (Instr.lookup 129 (.map (some m)) (.string (T name)) true).run Tryz.prog W = .ok (.tuple #[.agg #[.string (T [])], .bool false]) W ∧ Below (w.heap.size + 1) (w.alloc (.cells #[.string (T []), .string (T name), .int .i64 n] 203)) W)
    ((refine unhide HMK _ ?_; (repeat first | assumption | refine Below.drew ?_ | refine Below.setCell ?_ (by first | omega | (simp; omega) | (simp; done)) _ | refine Below.alloc ?_ (by first | omega | (simp; omega) | (simp; done)) _ | exact Below.refl _ _)))
    (fail)
  all_goals go_wp2_with fail
  all_goals go_ret
  all_goals exact ⟨rfl, by (repeat first | assumption | refine Below.drew ?_ | refine Below.setCell ?_ (by first | omega | (simp; omega) | (simp; done)) _ | refine Below.alloc ?_ (by first | omega | (simp; omega) | (simp; done)) _ | exact Below.refl _ _)⟩
/-- What an expansion's count is behind a spend that went well. -/
theorem spendX_le {opn : List (List Nat)} {sp n s1 : Nat} (h : spendX opn sp n = .ok s1) (hs : sp ≤ 32768) : sp ≤ s1 ∧ s1 ≤ 32768 := by
  unfold spendX at h
  split at h
  · cases h; exact ⟨Nat.le_refl _, hs⟩
  · split at h
    · cases h
    · cases h; exact ⟨Nat.le_add_right _ _, by omega⟩
/-- add of every reference. -/
theorem add_any (d C B q p m : Nat) (flat : Bool) (vt vo : Value) (tt : List Nat) (opn : List (List Nat)) (sp : Nat) (ents : List (List Nat × List Nat)) (c : Array Value) (r : Ref) (n : Int) (w : World)
    (S : ExpS w C B q p m flat vt vo tt opn sp ents c) (hX : ExpOk tt opn sp ents) (ho : okL r.said) (hz : (T r.said).size ≤ 4) (hn : okL r.name) (hnz : (T r.name).size ≤ 100000)
    (HT : ∀ t, entX ents r.name = some t → ∀ W vt1 vo1 sp1 c1, ExpS W C B q p m flat vt1 vo1 tt (opn ++ [r.name]) sp1 ents c1 → ExpOk tt (opn ++ [r.name]) sp1 ents → opn.length ≤ 8 → ExpK q p vt vo w W → Calls Tryz.prog 224 #[.pointer (some ⟨q, 0, none⟩), .string (T t)] W fun e w' => AddOut (textX (addX ents flat d (opn ++ [r.name])) flat (opn ++ [r.name]) (t.length + 1) sp1 t) C B q p m flat vt1 vo1 tt (opn ++ [r.name]) ents c1 e W w') :
    Calls Tryz.prog 200 #[.pointer (some ⟨q, 0, none⟩), .agg #[.string (T r.said), .string (T r.name), .int .i64 n]] w fun e w' =>
      AddOut (addX ents flat (d + 1) opn sp r) C B q p m flat vt vo tt opn ents c e w w' := by
  by_cases hs : r.said = []
  · cases ht : entX ents r.name with
    | none =>
      have he : addX ents flat (d + 1) opn sp r = .error 5 := by
        unfold addX
        rw [if_neg (fun h => h hs), ht]
      rw [he, hs]
      refine (add_missing C B q p m flat vt vo tt r.name opn sp ents c n w S hX.uniq hn hnz ht).mono ?_
      rintro e w' ⟨rfl, hb⟩
      exact ⟨vt, vo, ExpK.below hb, .inl rfl, .inl rfl, rfl, tt, sp, by rw [rdSp, set_same3 S.c3]; exact S.on hb⟩
    | some t =>
      have he : addX ents flat (d + 1) opn sp r = entOut opn r.name sp (fun s1 => textX (addX ents flat d (opn ++ [r.name])) flat (opn ++ [r.name]) (t.length + 1) s1 t) := by
        conv => lhs; unfold addX
        rw [if_neg (fun h => h hs), ht]
        rfl
      rw [he, hs]
      refine add_entity C B q p m flat vt vo tt r.name t opn sp ents c n w S hX.uniq hn hnz ht hX.okn hX.len hX.spl _ ?_
      intro W vt1 vo1 sp1 c1 S1 hsp h8 hK _ _
      have hle := spendX_le hsp hX.spl
      refine HT t ht W vt1 vo1 sp1 c1 S1 ⟨hX.uniq, hX.some, ?_, ?_, hle.2, ?_⟩ (by omega) hK
      · intro x hx
        rcases List.mem_append.1 hx with h | h
        · exact hX.okn x h
        · rw [List.mem_singleton.1 h]; exact hn
      · rw [List.length_append]
        show opn.length + 1 ≤ 9
        omega
      · have := hX.txl
        omega
  · have he : addX ents flat (d + 1) opn sp r = (match spendX opn sp ((tx r.said).length + 1) with | .error e => .error e | .ok s1 => .ok (r.said, s1)) := by
      conv => lhs; unfold addX
      rw [if_pos hs]
      cases spendX opn sp ((tx r.said).length + 1) <;> rfl
    rw [he]
    exact add_said2 C B q p m flat vt vo tt opn sp ents c r n w S hX hs ho hz
end Go.Proofs.YtjjggncbhenffaaGreatDoor
/- What an expansion's text and its count come to, in plain terms: each character of the text was spent. -/
namespace Go.Proofs.YtjjggncbhenffaaGreatDoor
theorem spendX_ok {opn : List (List Nat)} {sp n s1 : Nat} (hne : opn ≠ []) (h : spendX opn sp n = .ok s1) : s1 = sp + n ∧ s1 ≤ 32768 := by
  unfold spendX at h
  rw [if_neg hne] at h
  split at h
  · cases h
  · cases h; exact ⟨rfl, by omega⟩
theorem flatL_len {flat : Bool} {l : List Nat} (h : okL l) : (tx (flatL flat l)).length = (tx l).length := by
  unfold flatL
  cases flat
  · rfl
  · have := sz_space h
    rw [T_size, T_size] at this
    exact this
theorem textX_len {add : Nat → Ref → Except Nat (List Nat × Nat)} {flat : Bool} {opn : List (List Nat)} (hne : opn ≠ [])
    (hadd : ∀ s r t s', s ≤ 32768 → add s r = .ok (t, s') → s + (tx t).length ≤ s' ∧ s' ≤ 32768) :
    ∀ (f sp : Nat) (l t : List Nat) (s' : Nat), okL l → sp ≤ 32768 → textX add flat opn f sp l = .ok (t, s') → sp + (tx t).length ≤ s' ∧ s' ≤ 32768
  | 0, sp, l, t, s', _, hs, h => by
    unfold textX at h
    cases h
    exact ⟨Nat.le_refl _, hs⟩
  | f + 1, sp, l, t, s', hl, hs, h => by
    unfold textX at h
    split at h
    · cases h
      exact ⟨Nat.le_refl _, hs⟩
    · have hp : okL (l.takeWhile (· != 38)) := fun c hc => hl c (List.takeWhile_subset _ hc)
      simp only at h
      split at h
      · cases h
      · rename_i s1 h1
        obtain ⟨e1, h1⟩ := spendX_ok hne h1
        have hfl := flatL_len (flat := flat) hp
        split at h
        · cases h
          exact ⟨by omega, h1⟩
        · split at h
          · cases h
          · rename_i r hr
            split at h
            · cases h
            · rename_i t2 s2 h2
              have a2 := hadd s1 r t2 s2 h1 h2
              split at h
              · cases h
              · rename_i u s3 h3
                have a3 := textX_len hne hadd f s2 _ u s3 (fun c hc => hl c (List.mem_of_mem_drop (List.mem_of_mem_drop hc))) a2.2 h3
                cases h
                rw [tx_len_app, tx_len_app]
                exact ⟨by omega, a3.2⟩
theorem addX_len {ents : List (List Nat × List Nat)} {flat : Bool} (he : ∀ x ∈ ents, okL x.2) :
    ∀ (d : Nat) (opn : List (List Nat)) (sp : Nat) (r : Ref) (t : List Nat) (s' : Nat), opn ≠ [] → sp ≤ 32768 → addX ents flat d opn sp r = .ok (t, s') → sp + (tx t).length ≤ s' ∧ s' ≤ 32768
  | 0, opn, sp, r, t, s', _, _, h => by
    unfold addX at h
    cases h
  | d + 1, opn, sp, r, t, s', hne, hs, h => by
    unfold addX at h
    split at h
    · split at h
      · cases h
      · rename_i s1 h1
        have a1 := spendX_ok hne h1
        cases h
        exact ⟨by omega, a1.2⟩
    · split at h
      · cases h
      · rename_i x hx
        split at h
        · cases h
        · split at h
          · cases h
          · rename_i s1 h1
            have a1 := spendX_ok hne h1
            have hok : okL x := by
              unfold entX at hx
              obtain ⟨y, hy, rfl⟩ := Option.map_eq_some_iff.1 hx
              exact he y (List.mem_of_find?_eq_some hy)
            have a2 := textX_len (opn := opn ++ [r.name]) (by simp) (fun s r' t2 s2 hs2 h2 => addX_len he d (opn ++ [r.name]) s r' t2 s2 (by simp) hs2 h2) (x.length + 1) s1 x t s' hok a1.2 h
            exact ⟨by omega, a2.2⟩
/-- What went ahead of a text's end. -/
def preX (u : List Nat) (o : Except Nat (List Nat × Nat)) : Except Nat (List Nat × Nat) := match o with | .error e => .error e | .ok (t, s) => .ok (u ++ t, s)
theorem preX_nil (o : Except Nat (List Nat × Nat)) : preX [] o = o := by
  cases o with
  | error e => rfl
  | ok x => rfl
theorem preX_pre (u v : List Nat) (o : Except Nat (List Nat × Nat)) : preX u (preX v o) = preX (u ++ v) o := by
  cases o with
  | error e => rfl
  | ok x => unfold preX; simp
/-- One round of addText, in plain terms. -/
theorem textX_step (add : Nat → Ref → Except Nat (List Nat × Nat)) (flat : Bool) (opn : List (List Nat)) (f sp : Nat) (l : List Nat) (hl : l ≠ []) : textX add flat opn (f + 1) sp l = match spendX opn sp (tx (l.takeWhile (· != 38))).length with
    | .error e => .error e
    | .ok s1 => if l.drop (l.takeWhile (· != 38)).length = [] then .ok (flatL flat (l.takeWhile (· != 38)), s1) else match readRef (l.drop (l.takeWhile (· != 38)).length) with
      | none => .error 5
      | some r => match add s1 r with
        | .error e => .error e
        | .ok (t, s2) => preX (flatL flat (l.takeWhile (· != 38)) ++ t) (textX add flat opn f s2 ((l.drop (l.takeWhile (· != 38)).length).drop r.size)) := by
  conv => lhs; unfold textX
  rw [if_neg hl]
  rfl
theorem drop_38 {l : List Nat} (h : l.drop (l.takeWhile (· != 38)).length ≠ []) : heads 38 (l.drop (l.takeWhile (· != 38)).length) = true := by
  have e : l.drop (l.takeWhile (· != 38)).length = l.dropWhile (· != 38) := by
    conv => lhs; arg 2; rw [← List.takeWhile_append_dropWhile (p := (· != 38)) (l := l)]
    rw [List.drop_left]
  rw [e] at h ⊢
  have := List.head_dropWhile_not (· != 38) h
  cases hd : l.dropWhile (· != 38) with
  | nil => exact absurd hd h
  | cons c t =>
    simp only [hd, List.head_cons] at this
    have h38 : c = 38 := by simpa using this
    subst h38
    rfl
theorem ahead_38 : ∀ (l : List Nat), ahead [38] l = l.takeWhile (· != 38)
  | [] => rfl
  | c :: t => by
    have ih := ahead_38 t
    by_cases hc : c = 38
    · subst hc
      rfl
    · have h1 : (List.isPrefixOf [38] (c :: t)) = false := by
        simp only [List.isPrefixOf, Bool.and_true, beq_eq_false_iff_ne]
        exact fun e => hc e.symm
      have h2 : (c != 38) = true := by simpa using hc
      rw [List.takeWhile_cons, if_pos h2, ← ih]
      unfold ahead
      rw [cutL, if_neg (by rw [h1]; exact Bool.false_ne_true)]
      cases cutL [38] t <;> rfl
end Go.Proofs.YtjjggncbhenffaaGreatDoor
/- An entity's text: xmlscan's addText, over add's contract. -/
namespace Go.Proofs.YtjjggncbhenffaaGreatDoor
open Go.RowKit
/-- step_append_string_at, where nothing is drawn. -/
theorem wpList_append_string_at {P : Program} {ops : Array Oper} {rest : List Oper} {o : Oper} {a : Act} {w : World} {Q : Exit → Act → World → Prop}
    (hg : o.guard = none) (sl x : Operand) (t u : TypeId) (hop : o.op = Op.call { callee := Callee.builtin Builtin.append, args := #[sl, x], argTypes := #[t, u] })
    (base : Nat) (e : TypeId) (i : TypeInfo) (ht : P.underlying t = some (.slice e)) (hu : P.underlying u = some .string) (hi : P.info? e = some i) (hz : i.zero = some (.int .u8 0)) (hsize : i.size = 1) (hby : i.bytes = 1)
    (v : Value) (n : Nat) (xs : List Value) (hs : a.eval sl = v) (hown : w.ownsRow base e 1 v n xs) (s : ByteArray) (hx : a.eval x = .string s)
    (hbytes : n + s.size ≤ 140737488355328) (hb : base ≤ w.heap.size)
    (h : ∀ v' w', w'.ownsRow base e 1 v' (n + s.size) (xs ++ Lib.strCells s) → w.grownBy w' v.ownBlock → (v'.ownBlock = v.ownBlock ∨ v'.ownBlock = some w.heap.size) → wpList P ops Q rest (a.put o.dst v') w') : wpList P ops Q (o :: rest) a w := by
  refine wpList_plain hg fun K hK => ?_
  have h1 := step_append_string_at (P := P) (ops := #[]) (a := a) (w := w) (K := K) (Q := Q) (E := True) hg sl x t u hop base e i ht hu hi hz hsize hby v n xs hs hown s hx hbytes hb (fun v' w' r1 r2 r3 => hK _ _ (h v' w' r1 r2 r3))
  rwa [if_pos (by simp [Region.wanted, hg])] at h1
/-- The expansion's text has grown. -/
theorem ExpS.grown {w W w2 : World} {C B q p m : Nat} {flat : Bool} {vt vo v2 : Value} {tt x : List Nat} {opn : List (List Nat)} {sp : Nat} {ents : List (List Nat × List Nat)} {c : Array Value} (h : ExpS w C B q p m flat vt vo tt opn sp ents c)
    (hb : Below w.heap.size w W) (hg : W.grownBy w2 vt.ownBlock) (hown : w2.ownsRow C 5 1 v2 ((tx tt).length + (T x).size) (byteCells (tx tt) ++ Lib.strCells (T x))) (hat : v2.ownBlock = vt.ownBlock ∨ v2.ownBlock = some W.heap.size) :
    w2.heap[q]? = some (.cells (expArr p flat vt vo) 206 (0, 0)) ∧ ExpS (w2.setCell ⟨q, 2, none⟩ v2) C B q p m flat v2 vo (tt ++ x) opn sp ents c ∧ ExpK q p vt vo w (w2.setCell ⟨q, 2, none⟩ v2) ∧ Fresh w vt v2 := by
  have hW := h.on hb
  have hqp : q ≠ p := fun e => by
    have h1 := h.blk
    rw [e] at h1
    have h2 := h.rd
    rw [h1] at h2
    cases h2
  have hlt : ∀ {k o}, W.heap[k]? = some o → k < W.heap.size := fun hk => (Array.getElem?_eq_some_iff.1 hk).1
  have hq2 : w2.heap[q]? = some (.cells (expArr p flat vt vo) 206 (0, 0)) := by
    rw [hg.block q (hlt hW.blk) (fun e => owns_not hW.txt hW.blk (by decide) e.symm)]; exact hW.blk
  have hp2 : w2.heap[p]? = some (.cells c 131 (0, 0)) := by
    rw [hg.block p (hlt hW.rd) (fun e => owns_not hW.txt hW.rd (by decide) e.symm)]; exact hW.rd
  obtain ⟨es, ck, hm⟩ := hW.ents.map
  have hmq : m ≠ q := hW.ents.ne hW.blk
  have hmo : vt.ownBlock ≠ some m := fun e => by
    obtain ⟨c', hc'⟩ := owns_type hW.txt e
    rw [hm] at hc'
    cases hc'
  have hm2 : w2.heap[m]? = W.heap[m]? := hg.block m (hlt hm) (fun e => hmo e.symm)
  have hop : w2.ownsRow C 9 1 vo opn.length (opnRow opn) := owns_kept (S := fun k => vt.ownBlock = some k) hW.opn (fun k o hk hs => by rw [hg.block k (hlt hk) (fun e => hs e.symm)]; exact hk) (fun k hk hs => owns_apart hW.opn hW.txt (by decide) k hk hs)
  have hsz := hb.size
  refine ⟨hq2, ⟨?_, ?_, h.csz, h.c2, h.c3, ?_, ?_, ?_, h.lo⟩, ⟨hg.os.trans hb.os, hg.tape.trans hb.tape, hg.output.trans hb.output, by rw [blk_size]; have := hg.size; omega, fun k hk h1 h2 h3 h4 => ?_⟩, ?_⟩
  · rw [ExpAt, blk_set hq2]; rfl
  · rw [blk_other (Ne.symm hqp)]; exact hp2
  · have e1 : byteCells (tx tt) ++ Lib.strCells (T x) = byteCells (tx (tt ++ x)) := by
      rw [tx_append, byteCells_append]
      unfold Lib.strCells byteCells
      rw [T_data]
    have e2 : (tx tt).length + (T x).size = (tx (tt ++ x)).length := by rw [T_size, tx_len_app]
    rw [e1, e2] at hown
    exact owns_kept (S := (· = q)) hown (fun k o hk hs => by rw [blk_other hs]; exact hk) (fun k hk hs => by subst hs; exact owns_not hown hq2 (by decide) hk)
  · exact owns_kept (S := (· = q)) hop (fun k o hk hs => by rw [blk_other hs]; exact hk) (fun k hk hs => by subst hs; exact owns_not hop hq2 (by decide) hk)
  · exact hW.ents.kept (by rw [blk_other hmq]; exact hm2)
  · rw [blk_other h1, hg.block k (by omega) (fun e => h3 e.symm)]; exact hb.block k hk
  · rcases hat with e | e
    · exact .inl e
    · exact .inr fun k hk => by rw [e] at hk; cases hk; exact hsz
/-- Where the loop of addText stands. -/
structure TxtInv (w : World) (C B q p m : Nat) (flat : Bool) (vt vo : Value) (tt : List Nat) (opn : List (List Nat)) (ents : List (List Nat × List Nat)) (c : Array Value) (l : List Nat) (o : Except Nat (List Nat × Nat)) (add : Nat → Ref → Except Nat (List Nat × Nat)) (g : Nat) (l' t' : List Nat) (sp' : Nat) (vt' vo' : Value) (s1 : Value) (wx : World) : Prop where
  slot : s1 = .string (T l')
  st : ExpS wx C B q p m flat vt' vo' (tt ++ t') opn sp' ents (rdSp c sp')
  kp : ExpK q p vt vo w wx
  ft : Fresh w vt vt'
  fo : Fresh w vo vo'
  suf : l' <:+ l
  len : l'.length ≤ g
  ok : ExpOk (tt ++ t') opn sp' ents
  spec : ∃ f, l'.length < f ∧ o = preX t' (textX add flat opn f sp' l')
set_option maxRecDepth 100000 in
set_option maxHeartbeats 8000000 in
theorem addText_any (C B q p m : Nat) (flat : Bool) (vt vo : Value) (tt : List Nat) (opn : List (List Nat)) (sp : Nat) (ents : List (List Nat × List Nat)) (c : Array Value) (l : List Nat) (w : World) (D : Nat)
    (S : ExpS w C B q p m flat vt vo tt opn sp ents c) (hX : ExpOk tt opn sp ents) (hne : opn ≠ []) (hl : okL l) (hls : (T l).size ≤ 32768) (hE : XEnv D w) (hC : D ≤ C) (hp0 : D ≤ p)
    (add : Nat → Ref → Except Nat (List Nat × Nat)) (hn5 : ∀ s, add s ⟨[], [], 0⟩ = .error 5) (hal : ∀ s r t s', s ≤ 32768 → add s r = .ok (t, s') → s + (tx t).length ≤ s' ∧ s' ≤ 32768)
    (hk0 : ∀ s r k, add s r = .error k → k ≠ 0)
    (HA : ∀ W vt1 vo1 tt1 sp1 c1 r (n : Nat), ExpS W C B q p m flat vt1 vo1 tt1 opn sp1 ents c1 → ExpOk tt1 opn sp1 ents → okL r.said → (T r.said).size ≤ 4 → okL r.name → (T r.name).size ≤ 100000 → XEnv D W → Calls Tryz.prog 200 #[.pointer (some ⟨q, 0, none⟩), .agg #[.string (T r.said), .string (T r.name), .int .i64 (n : Nat)]] W fun e w' => AddOut (add sp1 r) C B q p m flat vt1 vo1 tt1 opn ents c1 e W w') :
    Calls Tryz.prog 224 #[.pointer (some ⟨q, 0, none⟩), .string (T l)] w fun e w' => AddOut (textX add flat opn (l.length + 1) sp l) C B q p m flat vt vo tt opn ents c e w w' := by
  have HI0 : Hid (TxtInv w C B q p m flat vt vo tt opn ents c l (textX add flat opn (l.length + 1) sp l) add l.length l [] sp vt vo (.string (T l)) w) := hide
    ⟨rfl, by rw [List.append_nil, rdSp, set_same3 S.c3]; exact S, ExpK.refl _ _ _ _ _, .inl rfl, .inl rfl, List.suffix_refl _, Nat.le_refl _, by rw [List.append_nil]; exact hX, l.length + 1, by omega, (preX_nil _).symm⟩
  have HHA := hide HA
  have hDw : D ≤ w.heap.size := Nat.le_trans (Nat.le_trans hC S.lo) (Nat.le_of_lt (Array.getElem?_eq_some_iff.1 S.blk).1)
  have HLO : Hid (∀ W, ExpK q p vt vo w W → XEnv D W) := hide fun W hW => hE.low (hW.low hDw (Nat.le_trans hC S.lo) hp0 (fun k hk => Nat.le_trans hC (S.txt.lt k hk).1) (fun k hk => Nat.le_trans hC (S.opn.lt k hk).1))
  clear HA S hE hDw
  go_enter Tryz.func224, Tryz.ntmps224
  go_wp2_with fail
  go_loopg [1] l.length (fun gk s1 wx => ∃ l' t' sp' vt' vo', TxtInv w C B q p m flat vt vo tt opn ents c l (textX add flat opn (l.length + 1) sp l) add gk l' t' sp' vt' vo' s1 wx)
  case atStart => exact ⟨_, _, _, _, _, unhide HI0⟩
  case round =>
    obtain ⟨l', t', sp', vt', vo', hI⟩ := hrel
    obtain rfl := hI.slot
    have hok : okL l' := fun c hc => hl c (hI.suf.subset hc)
    have hsz : (T l').size ≤ 32768 := by
      obtain ⟨a, ha⟩ := hI.suf
      have := tx_len_app a l'
      rw [ha] at this
      rw [T_size] at hls ⊢
      omega
    have HI := hide hI
    by_cases hnil : l' = []
    · subst hnil
      have hnn := nil_T (l := []) rfl
      have HF : Hid (AddOut (textX add flat opn (l.length + 1) sp l) C B q p m flat vt vo tt opn ents c (.returned (.int .i64 0)) w wr) := hide (by
        obtain ⟨f, hf, he⟩ := hI.spec
        have e1 : textX add flat opn f sp' [] = .ok ([], sp') := by cases f <;> rfl
        rw [he, e1]
        exact ⟨vt', vo', hI.kp, hI.ft, hI.fo, rfl, by rw [List.append_nil]; exact hI.st⟩)
      clear hI HI HI0
      go_wp2
      go_ret
      exact unhide HF
    · have hnn := ne_T hok hnil
      have HE : Hid (Env wr) := hide (unhide HLO wr hI.kp).env
      have S0 := hI.st
      have hspl := hI.ok.spl
      have HS0 := hide S0
      obtain ⟨pl, hpl⟩ : ∃ pl, pl = l'.takeWhile (· != 38) := ⟨_, rfl⟩
      have hpre : pl <+: l' := hpl ▸ List.takeWhile_prefix _
      have hple := size_pre hpre
      have hsuf := suf_drop hpre
      have HPL := hide hpl
      have hplo : okL pl := okL_pre hok hpre
      obtain ⟨f, hf, HSP⟩ : ∃ f, l'.length < f + 1 ∧ Hid (textX add flat opn (l.length + 1) sp l = preX t' (match spendX opn sp' (T pl).size with
          | .error e => .error e
          | .ok s1 => if l'.drop pl.length = [] then .ok (flatL flat pl, s1) else match readRef (l'.drop pl.length) with
            | none => .error 5
            | some r => match add s1 r with
              | .error e => .error e
              | .ok (t, s2) => preX (flatL flat pl ++ t) (textX add flat opn f s2 ((l'.drop pl.length).drop r.size)))) := by
        obtain ⟨f, hf, he⟩ := hI.spec
        obtain ⟨g, rfl⟩ : ∃ g, f = g + 1 := ⟨f - 1, by omega⟩
        refine ⟨g, hf, hide ?_⟩
        rw [he, textX_step _ _ _ _ _ _ hnil, hpl]
        rfl
      clear hI HI0 S0
      go_wp2_with fail
      refine (cut_ahead [38] _ (by rfl) (by decide) (by decide) l' hok hsz _ (unhide HE)).mono ?_
      rintro e w1 ⟨⟨y, b, rfl⟩, hb1⟩
      rw [ahead_38, ← hpl]
      clear hpl
      have S1 := (unhide HS0).on hb1
      have HS1 := hide S1
      have HK1 := hide ((unhide HI).kp.trans (unhide HI).ft (unhide HI).fo (ExpK.below hb1))
      clear S1 hb1
      go_wp2_with fail
      refine (spend_any C B q p m flat vt' vo' (tt ++ t') opn sp' ents (rdSp c sp') (T pl).size w1 (unhide HS1) (by omega)).mono ?_
      intro e w2 ho2
      obtain ⟨K2, ho2⟩ := ho2
      have HK2 := hide ((unhide HK1).trans (unhide HI).ft (unhide HI).fo K2)
      clear K2 HK1
      cases hx : spendX opn sp' (T pl).size with
      | error k =>
        rw [hx] at ho2
        obtain ⟨rfl, n2, S2⟩ := ho2
        obtain rfl : k = 6 := by
          unfold spendX at hx
          split at hx
          · cases hx
          · split at hx
            · cases hx; rfl
            · cases hx
        have HF : Hid (AddOut (textX add flat opn (l.length + 1) sp l) C B q p m flat vt vo tt opn ents c (.returned (.int .i64 6)) w w2) := hide (by
          rw [unhide HSP, hx]
          exact ⟨vt', vo', unhide HK2, (unhide HI).ft, (unhide HI).fo, rfl, _, n2, by rw [rdSp_twice] at S2; exact S2⟩)
        clear hx S2 HK2 HI HSP
        go_wp2
        go_ret
        exact unhide HF
      | ok sp2 =>
        rw [hx] at ho2
        obtain ⟨rfl, S2⟩ := ho2
        rw [rdSp_twice] at S2
        have HS2 := hide S2
        have HE2 : Hid (Env w2) := hide (unhide HLO w2 (unhide HK2)).env
        have c12 : w2.cell? ⟨q, 1, none⟩ = some (.bool flat) := blk_cell S2.blk 1
        have hspx := spendX_ok hne hx
        have HX2 := hide hx
        clear S2 hx
        go_upto_if 33 with fail
        go_cut [5, 33, 34, 35] (fun s5 _ _ _ wx => s5 = .string (T (flatL flat pl)) ∧ Below w2.heap.size w2 wx)
        case first =>
          cases flat
          · go_wp2_with fail
            go_meet
            exact ⟨rfl, Below.refl _ _⟩
          · go_wp2_with fail
            refine (spaced_any pl w2 hplo (by omega) (unhide HE2)).mono ?_
            rintro e w3 ⟨rfl, hb3⟩
            go_wp2_with fail
            go_meet
            exact ⟨rfl, hb3⟩
        case rest =>
          rename World => w3
          obtain ⟨rfl, hb3⟩ := hcut
          have S3 := (unhide HS2).on hb3
          have HK3 := hide ((unhide HK2).trans (unhide HI).ft (unhide HI).fo (ExpK.below hb3))
          have hfz : (T (flatL flat pl)).size = (T pl).size := flatL_len hplo
          generalize hfl : flatL flat pl = fl at HSP hfz ⊢
          have hflz : (T fl).size ≤ 32768 := by omega
          have HFZ := hide hfz
          clear hb3 HK2 HS2 HS1 HE2 HE c12 hfl hfz
          have htl := (unhide HI).ok.txl
          have hvt := S3.txt
          obtain ⟨at', ct, rfl⟩ := owns_slice hvt
          obtain ⟨t0, hi, hz0, hz1, hz2⟩ := info_parts infoU8
          have c23 : w3.cell? ⟨q, 2, none⟩ = some (.slice at' (tx (tt ++ t')).length ct) := blk_cell S3.blk 2
          have o23 := blk_open S3.blk 2
          have hqlt : q < w3.heap.size := (Array.getElem?_eq_some_iff.1 S3.blk).1
          have hCw : C ≤ w3.heap.size := by have := S3.lo; omega
          have hself := Below.refl w3.heap.size w3
          have HS3 := hide S3
          clear hvt S3
          go_upto_region 9 with fail
          go_cut [] (fun w4 => ∃ v4, ExpS w4 C B q p m flat v4 vo' (tt ++ t' ++ fl) opn sp2 ents (rdSp c sp2) ∧ ExpK q p (.slice at' (tx (tt ++ t')).length ct) vo' w3 w4 ∧ Fresh w3 (.slice at' (tx (tt ++ t')).length ct) v4)
          case first =>
            go_wp2_with (at_builtin; refine wpList_append_string_at rfl _ _ 97 9 rfl C 5 t0 Tryz.underlying97 Tryz.underlying9 hi hz0 hz1 hz2 (.slice at' (tx (tt ++ t')).length ct) (tx (tt ++ t')).length (byteCells (tx (tt ++ t'))) rfl (unhide HS3).txt (T fl) rfl (by omega) (by omega) ?_; intro v' w' hown hgrow hat; obtain ⟨a6, b6, rfl⟩ := owns_slice hown; have hR := (unhide HS3).grown hself hgrow hown hat; have c2' : w'.cell? ⟨q, 2, none⟩ = some (.slice at' (tx (tt ++ t')).length ct) := blk_cell hR.1 2; have o2' := blk_open hR.1 2; have HRR := hide hR; clear hR hown hgrow hat)
            all_goals go_meet
            all_goals exact ⟨_, (unhide HRR).2⟩
          case rest =>
            rename World => w4
            obtain ⟨v4, S4, K4, F4⟩ := hcut
            have HK4 := hide ((unhide HK3).trans (unhide HI).ft (unhide HI).fo K4)
            have HF4 := hide (Fresh.trans (unhide HK3).size (unhide HI).ft F4)
            have HS4 := hide S4
            have hok2 : okL (l'.drop pl.length) := okL_drop hok _
            have hsz2 : (T (l'.drop pl.length)).size ≤ 32768 := by
              have := tx_len_app (l'.take pl.length) (l'.drop pl.length)
              rw [List.take_append_drop] at this
              rw [T_size] at hsz ⊢
              omega
            have hln2 : (l'.drop pl.length).length ≤ l'.length := by rw [List.length_drop]; omega
            have HLN : Hid ((l'.drop pl.length) <:+ l') := hide (List.drop_suffix _ _)
            have hh2 : l'.drop pl.length ≠ [] → heads 38 (l'.drop pl.length) = true := fun h => by
              rw [unhide HPL] at h ⊢
              exact drop_38 h
            have HHH := hide hh2
            generalize hl2 : l'.drop pl.length = l2 at HSP hok2 hsz2 hln2 HLN HHH ⊢
            clear K4 F4 S4 HK3 HS3 hh2 c23 o23 hself hi hz0 hz1 hz2 hl2 hsuf
            by_cases hn2 : l2 = []
            · subst hn2
              have hnn2 := nil_T (l := []) rfl
              have HF : Hid (AddOut (textX add flat opn (l.length + 1) sp l) C B q p m flat vt vo tt opn ents c (.returned (.int .i64 0)) w w4) := hide (by
                rw [unhide HSP, unhide HX2]
                simp only
                rw [if_pos trivial]
                exact ⟨v4, vo', unhide HK4, unhide HF4, (unhide HI).fo, rfl, by rw [← List.append_assoc]; exact unhide HS4⟩)
              clear HSP HX2 HK4 HF4 HI HS4 HHA
              go_wp2
              go_ret
              exact unhide HF
            · have hnn2 := ne_T hok2 hn2
              obtain ⟨r0, n0, hrv, hr1, hr2, hr3, hr4, HR5, HSQ⟩ : ∃ (r0 : Ref) (n0 : Nat), refV l2 (readRef l2) = .agg #[.string (T r0.said), .string (T r0.name), .int .i64 (n0 : Nat)] ∧ okL r0.said ∧ (T r0.said).size ≤ 4 ∧ okL r0.name ∧ (T r0.name).size ≤ 100000 ∧
                  Hid (∀ x, add sp2 r0 = .ok x → 2 ≤ r0.size ∧ r0.size ≤ l2.length ∧ n0 = (T (l2.take r0.size)).size) ∧
                  Hid (textX add flat opn (l.length + 1) sp l = preX t' (match add sp2 r0 with | .error e => .error e | .ok (t, s2) => preX (fl ++ t) (textX add flat opn f s2 (l2.drop r0.size)))) := by
                have hq := unhide HSP
                rw [unhide HX2] at hq
                simp only at hq
                rw [if_neg hn2] at hq
                cases hr : readRef l2 with
                | none =>
                  rw [hr] at hq
                  have hok0 : okL [] := fun c hc => by cases hc
                  refine ⟨⟨[], [], 0⟩, 0, rfl, hok0, Nat.zero_le _, hok0, Nat.zero_le _, hide fun x hx => ?_, hide ?_⟩
                  · rw [hn5] at hx; cases hx
                  · rw [hq, hn5]
                | some r =>
                  rw [hr] at hq
                  obtain ⟨f1, f2, f3, f4, f5, f6, f7⟩ := readRef_facts hok2 hr
                  exact ⟨r, _, rfl, f1, f2, f6, by omega, hide fun x _ => ⟨f3, f5, rfl⟩, hide hq⟩
              have HX4 : Hid (ExpOk (tt ++ t' ++ fl) opn sp2 ents) := hide (by
                have ho := (unhide HI).ok
                refine ⟨ho.uniq, ho.some, ho.okn, ho.len, hspx.2, ?_⟩
                have h1 := unhide HFZ
                have h2 := ho.txl
                have h3 := hspx.1
                rw [tx_len_app]
                rw [T_size] at h1
                omega)
              clear HSP HX2
              go_wp2_with fail
              refine (readReference_any l2 _ hok2 hsz2 (unhide HHH hn2)).mono ?_
              rintro e w5 ⟨rfl, hb5⟩
              rw [hrv]
              clear hrv
              have hs5 := hb5.size
              go_wp2_with fail
              have hb6 : Below w4.heap.size w4 ((w5.alloc (.cells #[.string (T r0.said), .string (T r0.name), .int .i64 (n0 : Nat)] 203))) := hb5.alloc hs5 _
              have HB6 := hide hb6
              have HC6 : Hid ((w5.alloc (.cells #[.string (T r0.said), .string (T r0.name), .int .i64 (n0 : Nat)] 203)).heap[w5.heap.size]? = some (.cells #[.string (T r0.said), .string (T r0.name), .int .i64 (n0 : Nat)] 203 (0, 0))) := hide (MapKept.heap_alloc w5 _).1
              have HK6 := hide ((unhide HK4).trans (unhide HF4) (unhide HI).fo (ExpK.below hb6))
              have HLT : Hid (∀ k, (v4.ownBlock = some k ∨ vo'.ownBlock = some k ∨ k = q ∨ k = p) → k < w4.heap.size) := hide (by
                intro k hk
                have S := unhide HS4
                rcases hk with h | h | h | h
                · exact (S.txt.lt k h).2
                · exact (S.opn.lt k h).2
                · rw [h]; exact (Array.getElem?_eq_some_iff.1 S.blk).1
                · rw [h]; exact (Array.getElem?_eq_some_iff.1 S.rd).1)
              clear hb6 hb5
              refine (unhide HHA _ v4 vo' (tt ++ t' ++ fl) sp2 _ r0 n0 ((unhide HS4).on (unhide HB6)) (unhide HX4) hr1 hr2 hr3 hr4 (unhide HLO _ (unhide HK6))).mono ?_
              intro e w7 ho7
              obtain ⟨k7, vt7, vo7, tt7, n7, rfl, K7, Ft7, Fo7, S7, hor⟩ := ho7.any
              have HK7 := hide ((unhide HK6).trans (unhide HF4) (unhide HI).fo K7)
              have HFt := hide (Fresh.trans (unhide HK6).size (unhide HF4) Ft7)
              have HFo := hide (Fresh.trans (unhide HK6).size (unhide HI).fo Fo7)
              rw [rdSp_twice] at S7
              rcases hor with ⟨t, hat, rfl, rfl⟩ | hae
              · have hsz6 : (w5.alloc (.cells #[.string (T r0.said), .string (T r0.name), .int .i64 (n0 : Nat)] 203)).heap.size = w5.heap.size + 1 := by simp
                have c7 : w7.cell? ⟨w5.heap.size, 2, none⟩ = some (.int .i64 (n0 : Nat)) := by
                  have e7 := K7.block w5.heap.size (by rw [hsz6]; omega) (fun e => by have := unhide HLT q (.inr (.inr (.inl rfl))); omega) (fun e => by have := unhide HLT p (.inr (.inr (.inr rfl))); omega) (fun e => by have := unhide HLT _ (.inl e); omega) (fun e => by have := unhide HLT _ (.inr (.inl e)); omega)
                  exact (cellW_same e7 2).trans (blk_cell (unhide HC6) 2)
                obtain ⟨g2, g3, g4⟩ := unhide HR5 _ hat
                have htp : l2.take r0.size <+: l2 := List.take_prefix _ _
                have hsd := suf_drop htp
                rw [← g4, List.length_take, Nat.min_eq_left g3] at hsd
                have hn0 : n0 ≤ (T l2).size := by rw [g4]; exact size_pre htp
                have hlg := (unhide HI).len
                have hdl : (l2.drop r0.size).length + 2 ≤ l'.length := by rw [List.length_drop]; omega
                have HLG : Hid ((l2.drop r0.size).length < gk) := hide (by omega)
                have HI7 : Hid (TxtInv w C B q p m flat vt vo tt opn ents c l (textX add flat opn (l.length + 1) sp l) add (l2.drop r0.size).length (l2.drop r0.size) (t' ++ fl ++ t) n7 vt7 vo7 (.string (T (l2.drop r0.size))) w7) := hide (by
                  have ha := hal _ _ _ _ hspx.2 hat
                  have h4 := unhide HX4
                  have e1 : tt ++ (t' ++ fl ++ t) = tt ++ t' ++ fl ++ t := by simp only [List.append_assoc]
                  refine ⟨rfl, ?_, unhide HK7, unhide HFt, unhide HFo, (List.drop_suffix _ _).trans ((unhide HLN).trans (unhide HI).suf), Nat.le_refl _, ?_, f, by omega, ?_⟩
                  · rw [e1]; exact S7
                  · rw [e1]
                    refine ⟨h4.uniq, h4.some, h4.okn, h4.len, ha.2, ?_⟩
                    have := h4.txl
                    rw [tx_len_app]
                    omega
                  · rw [unhide HSQ, hat]
                    simp only
                    rw [preX_pre, List.append_assoc])
                clear hat K7 Ft7 Fo7 S7 HK7 HFt HFo HK6 HB6 HC6 HX4 HS4 HSQ HR5 g4 htp
                clear hlg hdl
                go_wp2_with fail
                go_roundg (l2.drop r0.size).length
                case measure => exact unhide HLG
                case rel => exact ⟨_, _, _, _, _, unhide HI7⟩
              · have hk := hk0 _ _ _ hae
                have HF : Hid (AddOut (textX add flat opn (l.length + 1) sp l) C B q p m flat vt vo tt opn ents c (.returned (.int .i64 (k7 : Nat))) w w7) := hide (by
                  rw [unhide HSQ, hae]
                  exact ⟨vt7, vo7, unhide HK7, unhide HFt, unhide HFo, rfl, _, n7, S7⟩)
                have hk7 : ((k7 : Int) == 0) = false := by simp; exact hk
                clear hae K7 Ft7 Fo7 S7 HK7 HFt HFo HK6 HB6 HC6 HX4 HS4 HSQ HR5 ho7
                go_wp2
                go_ret
                exact unhide HF
end Go.Proofs.YtjjggncbhenffaaGreatDoor
