/- Several texts, laid as one. -/
import Derived.Test.YtefjfjieoiegnaaGreatDoorGbm
import Derived.Test.YtefjfjieoiegnaaGreatDoorGbh
import Derived.Test.YtefjfjieoiegnaaGreatDoorGbj
import Derived.Test.YtefjfjieoiegnaaGreatDoorGbk
import Derived.Test.YtefjfjieoiegnaaGreatDoorXmlContent
/- A declaration of an entity: xmlscan's entity. -/
namespace Go.Proofs.YtefjfjieoiegnaaGreatDoor
open Go.RowKit
/-- An entity more, in the map. -/
theorem Rd.declared {w w' : World} {B p m : Nat} {vo vt vr : Value} {s : RS} (R : Rd w B p m vo vt vr s) {n t : List Nat} (hn : okL n) (ht : okL t) (hg : w.grownBy w' (some m)) (hown : w'.ownsMap Tryz.prog 9 entElem m (s.ents.length + 1) ((entsD s.ents).put (.string (tx n)) (.agg [.lit (.string (tx t))]))) :
    Rd w' B p m vo vt vr { s with ents := s.ents ++ [(n, t)] } := by
  obtain ⟨es, ck, hm⟩ := R.ents.map
  have hk : ∀ k o, w.heap[k]? = some o → ¬ (k = m) → w'.heap[k]? = some o := fun k o ho hs => by
    rw [hg.block k (Array.getElem?_eq_some_iff.1 ho).1 (fun e => hs (by cases e; rfl))]; exact ho
  have hrow : ∀ {base : Nat} {e : TypeId} {size : Nat} {v : Value} {n : Nat} {xs : List Value}, w.ownsRow base e size v n xs → w'.ownsRow base e size v n xs := fun ho =>
    owns_kept (S := (· = m)) ho hk fun k hk' hs => by
      subst hs
      obtain ⟨c, hc⟩ := owns_type ho hk'
      rw [hm] at hc
      cases hc
  refine ⟨?_, R.low, ⟨R.ents.1, fun x hx => ?_, by rw [List.length_append, entsD_snoc]; exact hown⟩, hrow R.opn, ?_, hrow R.run⟩
  · rw [hg.block p R.lt (fun e => R.ents.ne R.blk (by cases e; rfl))]; exact R.blk
  · rcases List.mem_append.1 hx with hx | hx
    · exact R.ents.2.1 x hx
    · rw [List.mem_singleton.1 hx]; exact ⟨hn, ht⟩
  · refine R.toks.kept (· = m) hk fun k c hs => ?_
    subst hs
    rw [hm]
    exact ⟨fun e => (by cases e), fun e => (by cases e)⟩
end Go.Proofs.YtefjfjieoiegnaaGreatDoor
/- Declarations of a document type: what each leaves. -/
namespace Go.Proofs.YtefjfjieoiegnaaGreatDoor
open Go.RowKit
/-- What a declaration leaves. -/
structure Declared (s s' : RS) : Prop where
  good : Good s'
  ents : EOk s'.ents
  opn : s'.opn = s.opn
  len : s'.rest.length ≤ s.rest.length
  more : s'.ents.length ≤ s.ents.length + 1
theorem Declared.of {s s' : RS} (hG : Good s) (hN : EOk s.ents) (h : Adv s s') : Declared s s' :=
  ⟨hG.to h, EOk.of h.same.1 hN, h.same.2.1, h.len, by rw [h.same.1]; omega⟩
end Go.Proofs.YtefjfjieoiegnaaGreatDoor
/- The declarations of a document type: xmlscan's declarations. -/
namespace Go.Proofs.YtefjfjieoiegnaaGreatDoor
open Go.RowKit
attribute [local go_sem] jumps_normal jumps_exit jumps_ret jumps_goto jumps_panic
end Go.Proofs.YtefjfjieoiegnaaGreatDoor
