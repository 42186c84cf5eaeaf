/- A reader's small steps: what it sees, takes, passes by: xmlscan's rest, sees, take, takeTo, blanks, name. -/
import Derived.Test.YtkklapoceknbcaaGreatDoorXmlMem
import Derived.Test.YtkklapoceknbcaaGreatDoorGr
import Derived.Deep.RegionHeld3
namespace Go.Proofs.YtkklapoceknbcaaGreatDoor
open Go.RowKit
abbrev AtS (w : World) (p : Nat) (s : RS) : Prop := AtR w p s.pre s.rest
/-- A reader of a text of characters that may be, that is not too long. -/
structure Fine (s : RS) : Prop where
  ok : okL (s.pre ++ s.rest)
  le : (T (s.pre ++ s.rest)).size ≤ 32768
theorem adv_whole (s : RS) (n : Nat) : (s.adv n).pre ++ (s.adv n).rest = s.pre ++ s.rest := by
  unfold RS.adv
  simp only
  rw [List.append_assoc, List.take_append_drop]
theorem Fine.adv {s : RS} (h : Fine s) (n : Nat) : Fine (s.adv n) := ⟨by rw [adv_whole]; exact h.ok, by rw [adv_whole]; exact h.le⟩
theorem Fine.okR {s : RS} (h : Fine s) : okL s.rest := okL_right h.ok
theorem Fine.sum {s : RS} (_ : Fine s) : s.place + (T s.rest).size = (T (s.pre ++ s.rest)).size := by
  unfold RS.place
  rw [T_size, T_size, tx_len_app]
theorem Fine.lt {s : RS} (h : Fine s) : s.place + (T s.rest).size ≤ 32768 := by rw [h.sum]; exact h.le
theorem place_adv (s : RS) (n : Nat) : (s.adv n).place = s.place + (T (s.rest.take n)).size := by
  unfold RS.place RS.adv
  simp only
  rw [tx_len_app, T_size]
theorem place_pre (s : RS) {a : List Nat} (h : a <+: s.rest) : (s.adv a.length).place = s.place + (T a).size := by
  rw [place_adv, (List.prefix_iff_eq_take.1 h).symm]
theorem AtR.to {w w' : World} {p : Nat} {s : RS} {n : Nat} (h : AtS w p s) (hm : Moves p (s.adv n).place w w') : AtS w' p (s.adv n) := h.moved hm (adv_whole s n)
theorem asc_size {a : List Nat} {u : ByteArray} (ha : ∀ c ∈ a, c < 128) (hu : u.data.toList = a.map UInt8.ofNat) : (T a).size = u.size := by
  rw [T_size, sign_len_tx ha, ← hu]; rfl
set_option maxHeartbeats 1000000 in
theorem rest_any (p : Nat) (s : RS) (w : World) (h : AtS w p s) :
    Calls Tryz.prog 68 #[.pointer (some ⟨p, 0, none⟩)] w fun e w' => e = .returned (.string (T s.rest)) ∧ Below w.heap.size w w' := by
  have h0 := h.txt
  have h1 := h.pos
  have hle : (tx s.pre).length ≤ (T (s.pre ++ s.rest)).size := by rw [T_size, tx_len_app]; omega
  have HS := hide (T_suf s.pre s.rest)
  clear h
  generalize (tx s.pre).length = n at *
  generalize T (s.pre ++ s.rest) = t at *
  go_enter Tryz.func68, Tryz.ntmps68
  go_wp2_with fail
  go_region
  all_goals go_wp2
  all_goals go_ret
  all_goals exact ⟨ret_str (unhide HS), below_drewN w 1⟩
set_option maxHeartbeats 1000000 in
theorem sees_any (a : List Nat) (u : ByteArray) (hu : u.data.toList = a.map UInt8.ofNat) (ha : ∀ c ∈ a, c < 128) (p : Nat) (s : RS) (w : World) (h : AtS w p s) (hf : Fine s) :
    Calls Tryz.prog 38 #[.pointer (some ⟨p, 0, none⟩), .string u] w fun e w' => e = .returned (.bool (a.isPrefixOf s.rest)) ∧ Below w.heap.size w w' := by
  go_enter Tryz.func38, Tryz.ntmps38
  go_wp2_with fail
  refine (rest_any p s _ h).mono ?_
  rintro e w1 ⟨rfl, hb1⟩
  go_wp2_with fail
  refine (hasPrefix_T a u hu ha s.rest hf.okR _).mono ?_
  rintro e w2 ⟨rfl, rfl⟩
  go_wp2
  go_ret
  exact ⟨rfl, hb1⟩
set_option maxHeartbeats 1000000 in
theorem take_yes (a : List Nat) (u : ByteArray) (hu : u.data.toList = a.map UInt8.ofNat) (ha : ∀ c ∈ a, c < 128) (p : Nat) (s : RS) (w : World) (h : AtS w p s) (hf : Fine s) (hp : a.isPrefixOf s.rest = true) :
    Calls Tryz.prog 75 #[.pointer (some ⟨p, 0, none⟩), .string u] w fun e w' => e = .returned (.bool true) ∧ Moves p (s.adv a.length).place w w' := by
  have HA := hide ha
  have HU := hide hu
  have HF := hide hf
  have hlt := hf.lt
  have hz : (T a).size ≤ (T s.rest).size := size_pre (List.isPrefixOf_iff_prefix.1 hp)
  have hus : u.size = (T a).size := (asc_size ha hu).symm
  have HPL := hide ((place_pre s (List.isPrefixOf_iff_prefix.1 hp)).trans (by rw [← hus]))
  rw [← hus] at hz
  clear ha hu hus
  go_enter Tryz.func75, Tryz.ntmps75
  go_wp2_with fail
  refine (sees_any a u (unhide HU) (unhide HA) p s _ h (unhide HF)).mono ?_
  rintro e w1 ⟨rfl, hb1⟩
  have h1 := h.keep hb1
  have hm := h.stay hb1
  have c1 : w1.cell? ⟨p, 1, none⟩ = some (.int .i64 (s.place : Nat)) := h1.pos
  have o1 := h1.thaw
  rw [hp]
  go_wp2
  go_ret
  refine ⟨rfl, hm.then ?_⟩
  rw [unhide HPL]
  exact Below.refl _ _
set_option maxHeartbeats 1000000 in
theorem take_no (a : List Nat) (u : ByteArray) (hu : u.data.toList = a.map UInt8.ofNat) (ha : ∀ c ∈ a, c < 128) (p : Nat) (s : RS) (w : World) (h : AtS w p s) (hf : Fine s) (hp : a.isPrefixOf s.rest = false) :
    Calls Tryz.prog 75 #[.pointer (some ⟨p, 0, none⟩), .string u] w fun e w' => e = .returned (.bool false) ∧ Below w.heap.size w w' := by
  go_enter Tryz.func75, Tryz.ntmps75
  go_wp2_with fail
  refine (sees_any a u hu ha p s _ h hf).mono ?_
  rintro e w1 ⟨rfl, hb1⟩
  rw [hp]
  go_wp2
  go_ret
  exact ⟨rfl, hb1⟩
end Go.Proofs.YtkklapoceknbcaaGreatDoor
