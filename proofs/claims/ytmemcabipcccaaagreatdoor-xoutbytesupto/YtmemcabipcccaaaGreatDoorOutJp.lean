/- Trees one behind the other, told plainly: what xout's Write answers of both together. -/
import Derived.Test.YtmemcabipcccaaaGreatDoorGbi
namespace Go.Proofs.YtmemcabipcccaaaGreatDoor
open Go.RowKit
/-- Where tokens of a document lead to. -/
def docRun : List ByteArray → Bool → Int → List BTok → Option (List ByteArray × Bool × Int)
  | o, r, k, [] => some (o, r, k)
  | o, r, k, t :: ts => match okB t, docStp o r k t with
    | true, some x => docRun x.1 x.2 t.kind ts
    | _, _ => none
theorem docRun_cons (o : List ByteArray) (r : Bool) (k : Int) (t : BTok) (ts : List BTok) : docRun o r k (t :: ts) = match okB t, docStp o r k t with
    | true, some x => docRun x.1 x.2 t.kind ts
    | _, _ => none := rfl
theorem docB_step (o : List ByteArray) (r : Bool) (k : Int) (t : BTok) (ts : List BTok) : docB o r k (t :: ts) = (okB t && (match docStp o r k t with
    | none => false
    | some x => docB x.1 x.2 t.kind ts)) := rfl
theorem docB_app : ∀ (ts us : List BTok) (o : List ByteArray) (r : Bool) (k : Int), docB o r k (ts ++ us) = match docRun o r k ts with
    | none => false
    | some x => docB x.1 x.2.1 x.2.2 us
  | [], us, o, r, k => rfl
  | t :: ts, us, o, r, k => by
    rw [List.cons_append, docB_step, docRun_cons]
    cases okB t with
    | false => rfl
    | true =>
      cases docStp o r k t with
      | none => rfl
      | some x =>
        rw [Bool.true_and]
        exact docB_app ts us x.1 x.2 t.kind
theorem stp_true {o : List ByteArray} {k : Int} {t : BTok} {x : List ByteArray × Bool} (h : docStp o true k t = some x) : x.2 = true := by
  unfold docStp at h
  repeat' split at h
  all_goals (first | cases h; rfl | cases h)
theorem docRun_r : ∀ (ts : List BTok) (o : List ByteArray) (k : Int) (x : List ByteArray × Bool × Int), docRun o true k ts = some x → x.2.1 = true
  | [], o, k, x, h => by cases h; rfl
  | t :: ts, o, k, x, h => by
    rw [docRun_cons] at h
    cases hk : okB t with
    | false => rw [hk] at h; cases h
    | true =>
      rw [hk] at h
      cases hs : docStp o true k t with
      | none => rw [hs] at h; cases h
      | some y =>
        rw [hs] at h
        have h' : docRun y.1 y.2 t.kind ts = some x := h
        rw [stp_true hs] at h'
        exact docRun_r ts y.1 t.kind x h'
theorem aroE_ok : okB aroE = true := by kernel_rfl
theorem aroF_ok : okB aroF = true := by kernel_rfl
theorem forB_doc (ts : List BTok) : forB ts = docB [aroS] true 2 (ts ++ [aroF]) := by
  have h : docB [] false 0 (aroE :: (ts ++ [aroF])) = docB [aroS] true 2 (ts ++ [aroF]) := by
    rw [docB_step, aroE_ok, Bool.true_and]
    rfl
  unfold forB writeR
  rw [h]
  cases docB [aroS] true 2 (ts ++ [aroF]) with
  | false => rfl
  | true =>
    rw [if_neg (by decide)]
    split
    · rfl
    · split
      · rfl
      · rfl
theorem bytes_same {a b : ByteArray} (h : (a.toList == b.toList) = true) : a = b := by
  have h1 := eq_of_beq h
  rw [ByteArray.toList_eq, ByteArray.toList_eq] at h1
  cases a
  cases b
  congr 1
  exact Array.toList_inj.1 h1
theorem forB_run {ts : List BTok} (h : forB ts = true) : ∃ k, docRun [aroS] true 2 ts = some ([aroS], true, k) := by
  rw [forB_doc, docB_app] at h
  cases hr : docRun [aroS] true 2 ts with
  | none => rw [hr] at h; cases h
  | some x =>
    obtain ⟨o, r, k⟩ := x
    obtain rfl : r = true := docRun_r ts _ _ _ hr
    rw [hr] at h
    have h' : docB o true k [aroF] = true := h
    rw [docB_step, aroF_ok, Bool.true_and] at h'
    refine ⟨k, ?_⟩
    unfold docStp at h'
    rw [if_neg (by decide), if_pos (by rfl)] at h'
    cases hg : o.getLast? with
    | none => rw [hg] at h'; cases h'
    | some y =>
      rw [hg] at h'
      dsimp only at h'
      by_cases hy : (y.toList == aroF.name.toList) = true
      · rw [if_pos hy] at h'
        have h2 : (true && o.dropLast.isEmpty) = true := h'
        rw [Bool.true_and, List.isEmpty_iff] at h2
        have h3 : o = [aroS] := by
          obtain ⟨l, rfl⟩ := List.getLast?_eq_some_iff.1 hg
          rw [List.dropLast_concat] at h2
          rw [h2, bytes_same hy]
          rfl
        rw [h3]
      · rw [if_neg hy] at h'
        cases h'
theorem right_forB {ts : List BTok} (h : rightO ts = 0) : forB ts = true := by
  unfold rightO at h
  split at h
  · assumption
  · cases h
/-- What is written of a token among its neighbours. -/
def spotG (m : Int) (t a c : BTok) : List UInt8 := if m = 1 then htmlO t a else if m = 2 then plainO t else xmlO t a c
theorem spotO_G (m : Int) (ts : List BTok) (i : Nat) : spotO m ts i = spotG m (tkAt ts i) (ahT ts i) (tkAt ts (i + 1)) := by
  unfold spotO spotG
  split
  · rfl
  · split
    · rfl
    · rfl
theorem rawS_no {a : BTok} (h : a.kind ≠ 2) : rawS a = false := by
  unfold rawS
  rw [decide_eq_false h]
  rfl
theorem write_ok {m : Int} {ts : List BTok} {x : ByteArray} (h : writeO m ts = (x, 0)) : ¬ (m < 0 ∨ 2 < m) ∧ rightO ts = 0 ∧ (m = 1 → htmlOk ts = true) ∧ (textO m ts).length ≤ 32768 ∧ x = ⟨(textO m ts).toArray⟩ := by
  unfold writeO at h
  split at h
  · cases h
  · rename_i h1
    split at h
    · rename_i h2
      injection h with _ h3
      exact absurd h3 h2
    · rename_i h2
      split at h
      · cases h
      · rename_i h3
        split at h
        · cases h
        · rename_i h4
          injection h with h5
          refine ⟨h1, by simpa using h2, fun e => ?_, by omega, h5.symm⟩
          cases hh : htmlOk ts with
          | true => rfl
          | false => exact absurd ⟨e, hh⟩ h3
end Go.Proofs.YtmemcabipcccaaaGreatDoor
