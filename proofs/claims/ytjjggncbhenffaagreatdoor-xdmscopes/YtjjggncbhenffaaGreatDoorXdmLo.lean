/- What a prefix stands for among pairs: stencilref04's Look. -/
import Derived.Test.YtjjggncbhenffaaGreatDoorXdmSs
import Derived.Test.YtjjggncbhenffaaGreatDoorXdmRs
namespace Go.Proofs.YtjjggncbhenffaaGreatDoor
open Go.RowKit Go.Maps
def refLook (l : List (List Nat × List Nat)) (p : List Nat) : List Nat × Bool := if p = xmlL then (xmlUriL, true) else match l.find? (fun x => x.1 == p) with
  | some x => (x.2, true)
  | none => ([], p == [])
def lookV (r : List Nat × Bool) : Value := .tuple #[.string (T r.1), .bool r.2]
theorem find_drop {l : List (List Nat × List Nat)} {p : List Nat} {k : Nat} {x : List Nat × List Nat} (hx : l[k]? = some x) : (l.drop k).find? (fun y => y.1 == p) = if x.1 == p then some x else (l.drop (k + 1)).find? (fun y => y.1 == p) := by
  obtain ⟨hk, he⟩ := List.getElem?_eq_some_iff.1 hx
  rw [← List.getElem_cons_drop hk, he, List.find?_cons]
  cases x.1 == p <;> rfl
set_option maxRecDepth 100000 in
set_option maxHeartbeats 4000000 in
theorem refLook_any (l : List (List Nat × List Nat)) (v : Value) (p : List Nat) (w : World) (hv : PairsArg w v (l.map fun x => (T x.1, T x.2))) (hl : ∀ x ∈ l, okL x.1) (hp : okL p) (hz : l.length ≤ 1048576) :
    Calls Tryz.prog 20 #[v, .string (T p)] w fun e w' => e = .returned (lookV (refLook l p)) ∧ w' = w := by
  obtain ⟨a, cap, rfl, hc⟩ := hv
  rw [List.length_map]
  have hx := is_xml hp
  have he := is_empty hp
  by_cases hpx : p = xmlL
  · have h1 : (p == xmlL) = true := by simp [hpx]
    rw [h1] at hx
    have HR : Hid (lookV (refLook l p) = .tuple #[.string (T xmlUriL), .bool true]) := hide (by unfold refLook; rw [if_pos hpx]; rfl)
    rw [unhide HR, T_uri]
    clear hpx h1 HR hc hl he
    go_enter Tryz.func20, Tryz.ntmps20
    go_wp2
    go_returns
    exact ⟨rfl, rfl⟩
  · have h1 : (p == xmlL) = false := by simp [hpx]
    rw [h1] at hx
    have HR : Hid (refLook l p = match l.find? (fun x => x.1 == p) with
      | some x => (x.2, true)
      | none => ([], p == [])) := hide (by unfold refLook; rw [if_neg hpx])
    have HC := hide hc
    have HL := hide hl
    clear hpx h1 hc hl
    go_enter Tryz.func20, Tryz.ntmps20
    go_wp2_with fail
    go_loopw [6] (fun i wr => ∃ k : Nat, i = .int .i64 (k : Nat) ∧ k ≤ l.length ∧ l.find? (fun y => y.1 == p) = (l.drop k).find? (fun y => y.1 == p) ∧ wr = w) (fun i _ => l.length - (intOf i).toNat)
    case atStart => exact ⟨0, rfl, Nat.zero_le _, rfl, rfl⟩
    case round =>
      obtain ⟨k, rfl, hk, hf, rfl⟩ := hrel
      by_cases hlt : k < l.length
      · obtain ⟨x, hx1⟩ : ∃ x, l[k]? = some x := ⟨l[k], List.getElem?_eq_getElem hlt⟩
        have hxo := unhide HL x (List.mem_of_getElem? hx1)
        obtain ⟨g, o, ha, hc⟩ := (unhide HC) (by intro h0; rw [List.map_eq_nil_iff] at h0; rw [h0] at hlt; cases hlt)
        subst ha
        obtain ⟨c0, c1⟩ := hc k (T x.1, T x.2) (by rw [List.getElem?_map, hx1]; rfl)
        simp only at c0 c1
        have n1 : (0 : Int) ≤ (k : Int) := by omega
        have n2 : (k : Int) < (l.length : Int) := by omega
        have n3 : wrap64 ((k : Int) + 1) = ((k + 1 : Nat) : Int) := by unfold wrap64; omega
        have hq : ((T x.1).toList == (T p).toList) = (x.1 == p) := by rw [T_toList p]; exact eq_T hxo hp
        rw [find_drop hx1] at hf
        clear hc hx1
        cases hxp : x.1 == p
        · rw [hxp] at hq hf
          have HF := hide hf
          clear hf hxp
          go_wp2_with fail
          go_round
          case measure => simp [intOf]; omega
          case rel => exact ⟨k + 1, by simp, hlt, unhide HF, by trivial⟩
        · rw [hxp] at hq hf
          have HV : Hid (lookV (refLook l p) = .tuple #[.string (T x.2), .bool true]) := hide (by rw [unhide HR, hf]; rfl)
          clear hf hxp
          go_wp2
          go_returns
          rw [unhide HV]
          exact ⟨rfl, by trivial⟩
      · have n2 : ¬ (k : Int) < (l.length : Int) := by omega
        rw [List.drop_eq_nil_of_le (by omega)] at hf
        have HV : Hid (lookV (refLook l p) = .tuple #[.string ⟨#[]⟩, .bool (p == [])]) := hide (by rw [unhide HR, hf]; rfl)
        clear hf
        go_wp2
        go_returns
        rw [unhide HV]
        exact ⟨by simp, by trivial⟩
end Go.Proofs.YtjjggncbhenffaaGreatDoor
