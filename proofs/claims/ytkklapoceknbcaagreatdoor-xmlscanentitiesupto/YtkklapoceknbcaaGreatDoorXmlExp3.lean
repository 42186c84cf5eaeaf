/- Every reference: xmlscan's add, over addText's contract. -/
import Derived.Test.YtkklapoceknbcaaGreatDoorXmlExp2
namespace Go.Proofs.YtkklapoceknbcaaGreatDoor
open Go.RowKit
/-- What always holds of an expansion: its names are texts, its text and its count are not too long. -/
structure ExpOk (tt : List Nat) (opn : List (List Nat)) (sp : Nat) (ents : List (List Nat × List Nat)) : Prop where
  uniq : UniqE ents
  some : ∀ x ∈ ents, x.1 ≠ []
  okn : ∀ x ∈ opn, okL x
  len : opn.length ≤ 9
  spl : sp ≤ 32768
  txl : (tx tt).length ≤ 100000 + sp
theorem ExpK.of_grew {q p : Nat} {vt vo : Value} {w W : World} (h : Grew q p vt w W) : ExpK q p vt vo w W := ⟨h.os, h.tape, h.output, h.size, fun k hk h1 _ h3 _ => h.block k hk h1 h3⟩
theorem spend_form {o : Except Nat Nat} {C B q p m : Nat} {flat : Bool} {vt vo : Value} {tt : List Nat} {opn : List (List Nat)} {ents : List (List Nat × List Nat)} {c : Array Value} {e : Ending} {w w' : World} (h : SpendOut o C B q p m flat vt vo tt opn ents c e w w') : ∃ k : Int, e = .returned (.int .i64 k) := by
  obtain ⟨_, h⟩ := h
  cases o with
  | error k => exact ⟨_, h.1⟩
  | ok s => exact ⟨_, h.1⟩
/-- add of a reference that says something. -/
theorem add_said2 (C B q p m : Nat) (flat : Bool) (vt vo : Value) (tt : List Nat) (opn : List (List Nat)) (sp : Nat) (ents : List (List Nat × List Nat)) (c : Array Value) (r : Ref) (n : Int) (w : World)
    (S : ExpS w C B q p m flat vt vo tt opn sp ents c) (hX : ExpOk tt opn sp ents) (hs : r.said ≠ []) (ho : okL r.said) (hz : (T r.said).size ≤ 4) :
    Calls Tryz.prog 107 #[.pointer (some ⟨q, 0, none⟩), .agg #[.string (T r.said), .string (T r.name), .int .i64 n]] w fun e w' =>
      AddOut (match spendX opn sp ((tx r.said).length + 1) with | .error e => .error e | .ok s1 => .ok (r.said, s1)) C B q p m flat vt vo tt opn ents c e w w' := by
  have htl := hX.txl
  have hsl := hX.spl
  have hts : (tx r.said).length = (T r.said).size := (T_size r.said).symm
  have hqp : q ≠ p := fun e => by
    have h1 := S.blk
    rw [e] at h1
    have h2 := S.rd
    rw [h1] at h2
    cases h2
  have hvp : vt.ownBlock ≠ some p := owns_not S.txt S.rd (by decide)
  have hplt : p < w.heap.size := (Array.getElem?_eq_some_iff.1 S.rd).1
  obtain ⟨ao, co, rfl⟩ := owns_slice S.opn
  refine (add_told C q p flat vt (.slice ao opn.length co) tt r n w S.blk S.lo S.txt (by omega) hs ho (by omega)
    (fun W e w' => (opn = [] → e = .returned (.int .i64 0) ∧ w' = W) ∧ (opn ≠ [] → e = .returned (.int .i64 (if 32768 < sp + ((T r.said).size + 1) then 6 else 0)) ∧ w' = W.setCell ⟨p, 3, none⟩ (.int .i64 ((sp + ((T r.said).size + 1) : Nat) : Int)))) ?_ ?_).mono ?_
  · intro W vt' hW hp
    have hpW := hp hqp hvp hplt
    have c3 : W.cell? ⟨q, 3, none⟩ = some (.slice ao opn.length co) := blk_cell hW 3
    by_cases h : opn = []
    · rw [h] at c3
      refine (spend_top q ao co _ W c3).mono ?_
      rintro e w' ⟨rfl, rfl⟩
      exact ⟨fun _ => ⟨rfl, rfl⟩, fun h' => absurd h h'⟩
    · have hrd : W.heap[p]? = some (.cells c 56 (0, 0)) := by rw [hpW]; exact S.rd
      refine (spend_open q p ao opn.length co sp ((T r.said).size + 1) W c3 (List.length_pos_iff.2 h) (blk_cell hW 0) (by rw [blk_cell hrd]; exact S.c3) (blk_open hrd 3) hqp (by omega)).mono ?_
      rintro e w' ⟨rfl, rfl⟩
      exact ⟨fun h' => absurd h' h, fun _ => ⟨rfl, rfl⟩⟩
  · intro W e w' h
    by_cases h0 : opn = []
    · exact ⟨_, (h.1 h0).1⟩
    · exact ⟨_, (h.2 h0).1⟩
  · rintro e w' ⟨W, v', hG, hF, hX', hrow, h1, h2⟩
    have hK : ExpK q p vt (.slice ao opn.length co) w W := ExpK.of_grew hG
    have SW : ExpS W C B q p m flat v' (.slice ao opn.length co) (tt ++ r.said) opn sp ents c := by
      obtain ⟨es, ck, hm⟩ := S.ents.map
      have hmlt := (Array.getElem?_eq_some_iff.1 hm).1
      have hmq : m ≠ q := S.ents.ne S.blk
      have hmv : vt.ownBlock ≠ some m := fun e => by
        obtain ⟨c', hc'⟩ := owns_type S.txt e
        rw [hm] at hc'
        cases hc'
      refine ⟨hX', by rw [hG.block p hplt (Ne.symm hqp) hvp]; exact S.rd, S.csz, S.c2, S.c3, hrow, ?_, S.ents.kept (hG.block m hmlt hmq hmv), S.lo⟩
      exact owns_kept (S := fun k => k = q ∨ vt.ownBlock = some k) S.opn (fun k o hk hs => by rw [hG.block k (Array.getElem?_eq_some_iff.1 hk).1 (fun e => hs (.inl e)) (fun e => hs (.inr e))]; exact hk) (fun k hk hs => by
        rcases hs with rfl | hs
        · exact owns_not S.opn S.blk (by decide) hk
        · exact owns_apart S.opn S.txt (by decide) k hk hs)
    by_cases h0 : opn = []
    · obtain ⟨rfl, rfl⟩ := h1 h0
      refine ⟨v', _, hK, hF, .inl rfl, ?_⟩
      unfold spendX
      rw [if_pos h0]
      exact ⟨rfl, by rw [rdSp, set_same3 SW.c3]; exact SW⟩
    · obtain ⟨rfl, rfl⟩ := h2 h0
      obtain ⟨S', K'⟩ := SW.spent (sp + ((T r.said).size + 1))
      refine ⟨v', _, hK.trans hF (.inl rfl) K', hF, .inl rfl, ?_⟩
      unfold spendX
      rw [if_neg h0, hts]
      by_cases hb : 32768 < sp + ((T r.said).size + 1)
      · rw [if_pos hb, if_pos hb]
        exact ⟨rfl, _, _, S'⟩
      · rw [if_neg hb, if_neg hb]
        exact ⟨rfl, S'⟩
end Go.Proofs.YtkklapoceknbcaaGreatDoor
