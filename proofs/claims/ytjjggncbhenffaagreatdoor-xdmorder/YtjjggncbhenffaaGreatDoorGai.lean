/- Several texts, laid as one. -/
import Derived.Test.YtjjggncbhenffaaGreatDoorGag
import Derived.Test.YtjjggncbhenffaaGreatDoorGah
import Derived.Deep.RegionHeld3
/- The reference's IsName and Split give what the program's give. -/
namespace Go.Proofs.YtjjggncbhenffaaGreatDoor
open Go.RowKit
theorem splitV_cases (l : List UInt8) : ∃ p n : ByteArray, splitV l = .tuple #[.string p, .string n, .bool (splitB l)] := by
  unfold splitV
  cases h : splitB l
  · exact ⟨_, _, rfl⟩
  · exact ⟨_, _, rfl⟩
end Go.Proofs.YtjjggncbhenffaaGreatDoor
/- The string, the word that a text begins with, and which word is what: xplex's functions. -/
namespace Go.Proofs.YtjjggncbhenffaaGreatDoor
open Go.RowKit
theorem hasPrefix_T (a : List Nat) (u : ByteArray) (hu : u.data.toList = a.map UInt8.ofNat) (ha : ∀ c ∈ a, c < 128) (l : List Nat) (hl : okL l) (w : World) :
    Calls Tryz.prog 155 #[.string (T l), .string u] w fun e w' => e = .returned (.bool (a.isPrefixOf l)) ∧ w' = w := by
  refine (Tryz.strings_HasPrefix (T l) u w).mono ?_
  rintro e w' ⟨rfl, rfl⟩
  refine ⟨ret_bool ?_, rfl⟩
  rw [T_data, hu, pre_tx a l ha hl]
end Go.Proofs.YtjjggncbhenffaaGreatDoor
/- A reader's small steps: what it sees, takes, passes by: xmlscan's rest, sees, take, takeTo, blanks, name. -/
namespace Go.Proofs.YtjjggncbhenffaaGreatDoor
open Go.RowKit
abbrev AtS (w : World) (p : Nat) (s : RS) : Prop := AtR w p s.pre s.rest
/-- A reader of a text of characters that may be, that is not too long. -/
structure Fine (s : RS) : Prop where
  ok : okL (s.pre ++ s.rest)
  le : (T (s.pre ++ s.rest)).size ≤ 32768
theorem adv_whole (s : RS) (n : Nat) : (s.adv n).pre ++ (s.adv n).rest = s.pre ++ s.rest := by
  unfold RS.adv
  simp only
  rw [List.append_assoc, List.take_append_drop]
theorem Fine.adv {s : RS} (h : Fine s) (n : Nat) : Fine (s.adv n) := ⟨by rw [adv_whole]; exact h.ok, by rw [adv_whole]; exact h.le⟩
theorem Fine.okR {s : RS} (h : Fine s) : okL s.rest := okL_right h.ok
theorem Fine.sum {s : RS} (_ : Fine s) : s.place + (T s.rest).size = (T (s.pre ++ s.rest)).size := by
  unfold RS.place
  rw [T_size, T_size, tx_len_app]
theorem Fine.lt {s : RS} (h : Fine s) : s.place + (T s.rest).size ≤ 32768 := by rw [h.sum]; exact h.le
theorem place_adv (s : RS) (n : Nat) : (s.adv n).place = s.place + (T (s.rest.take n)).size := by
  unfold RS.place RS.adv
  simp only
  rw [tx_len_app, T_size]
theorem place_pre (s : RS) {a : List Nat} (h : a <+: s.rest) : (s.adv a.length).place = s.place + (T a).size := by
  rw [place_adv, (List.prefix_iff_eq_take.1 h).symm]
theorem AtR.to {w w' : World} {p : Nat} {s : RS} {n : Nat} (h : AtS w p s) (hm : Moves p (s.adv n).place w w') : AtS w' p (s.adv n) := h.moved hm (adv_whole s n)
theorem asc_size {a : List Nat} {u : ByteArray} (ha : ∀ c ∈ a, c < 128) (hu : u.data.toList = a.map UInt8.ofNat) : (T a).size = u.size := by
  rw [T_size, sign_len_tx ha, ← hu]; rfl
set_option maxHeartbeats 1000000 in
theorem rest_any (p : Nat) (s : RS) (w : World) (h : AtS w p s) :
    Calls Tryz.prog 153 #[.pointer (some ⟨p, 0, none⟩)] w fun e w' => e = .returned (.string (T s.rest)) ∧ Below w.heap.size w w' := by
  have h0 := h.txt
  have h1 := h.pos
  have hle : (tx s.pre).length ≤ (T (s.pre ++ s.rest)).size := by rw [T_size, tx_len_app]; omega
  have HS := hide (T_suf s.pre s.rest)
  clear h
  generalize (tx s.pre).length = n at *
  generalize T (s.pre ++ s.rest) = t at *
  go_enter Tryz.func153, Tryz.ntmps153
  go_wp2_with fail
  go_region
  all_goals go_wp2
  all_goals go_ret
  all_goals exact ⟨ret_str (unhide HS), below_drewN w 1⟩
set_option maxHeartbeats 1000000 in
theorem sees_any (a : List Nat) (u : ByteArray) (hu : u.data.toList = a.map UInt8.ofNat) (ha : ∀ c ∈ a, c < 128) (p : Nat) (s : RS) (w : World) (h : AtS w p s) (hf : Fine s) :
    Calls Tryz.prog 117 #[.pointer (some ⟨p, 0, none⟩), .string u] w fun e w' => e = .returned (.bool (a.isPrefixOf s.rest)) ∧ Below w.heap.size w w' := by
  go_enter Tryz.func117, Tryz.ntmps117
  go_wp2_with fail
  refine (rest_any p s _ h).mono ?_
  rintro e w1 ⟨rfl, hb1⟩
  go_wp2_with fail
  refine (hasPrefix_T a u hu ha s.rest hf.okR _).mono ?_
  rintro e w2 ⟨rfl, rfl⟩
  go_wp2
  go_ret
  exact ⟨rfl, hb1⟩
set_option maxHeartbeats 1000000 in
theorem take_yes (a : List Nat) (u : ByteArray) (hu : u.data.toList = a.map UInt8.ofNat) (ha : ∀ c ∈ a, c < 128) (p : Nat) (s : RS) (w : World) (h : AtS w p s) (hf : Fine s) (hp : a.isPrefixOf s.rest = true) :
    Calls Tryz.prog 159 #[.pointer (some ⟨p, 0, none⟩), .string u] w fun e w' => e = .returned (.bool true) ∧ Moves p (s.adv a.length).place w w' := by
  have HA := hide ha
  have HU := hide hu
  have HF := hide hf
  have hlt := hf.lt
  have hz : (T a).size ≤ (T s.rest).size := size_pre (List.isPrefixOf_iff_prefix.1 hp)
  have hus : u.size = (T a).size := (asc_size ha hu).symm
  have HPL := hide ((place_pre s (List.isPrefixOf_iff_prefix.1 hp)).trans (by rw [← hus]))
  rw [← hus] at hz
  clear ha hu hus
  go_enter Tryz.func159, Tryz.ntmps159
  go_wp2_with fail
  refine (sees_any a u (unhide HU) (unhide HA) p s _ h (unhide HF)).mono ?_
  rintro e w1 ⟨rfl, hb1⟩
  have h1 := h.keep hb1
  have hm := h.stay hb1
  have c1 : w1.cell? ⟨p, 1, none⟩ = some (.int .i64 (s.place : Nat)) := h1.pos
  have o1 := h1.thaw
  rw [hp]
  go_wp2
  go_ret
  refine ⟨rfl, hm.then ?_⟩
  rw [unhide HPL]
  exact Below.refl _ _
set_option maxHeartbeats 1000000 in
theorem take_no (a : List Nat) (u : ByteArray) (hu : u.data.toList = a.map UInt8.ofNat) (ha : ∀ c ∈ a, c < 128) (p : Nat) (s : RS) (w : World) (h : AtS w p s) (hf : Fine s) (hp : a.isPrefixOf s.rest = false) :
    Calls Tryz.prog 159 #[.pointer (some ⟨p, 0, none⟩), .string u] w fun e w' => e = .returned (.bool false) ∧ Below w.heap.size w w' := by
  go_enter Tryz.func159, Tryz.ntmps159
  go_wp2_with fail
  refine (sees_any a u hu ha p s _ h hf).mono ?_
  rintro e w1 ⟨rfl, hb1⟩
  rw [hp]
  go_wp2
  go_ret
  exact ⟨rfl, hb1⟩
end Go.Proofs.YtjjggncbhenffaaGreatDoor
/- A reader's small steps, more: xmlscan's takeTo, blanks, nameAhead, name, qname. -/
namespace Go.Proofs.YtjjggncbhenffaaGreatDoor
open Go.RowKit
/-- strings.Cut of a text at signs below 128. -/
theorem cut_T (a : List Nat) (u : ByteArray) (hu : u.data.toList = a.map UInt8.ofNat) (ha : ∀ c ∈ a, c < 128) (hne : a ≠ []) (l : List Nat) (hl : okL l) (hs : (T l).size ≤ 32768) (w : World) (hE : Env w) :
    Calls Tryz.prog 185 #[.string (T l), .string u] w fun e w' => e = .returned (match cutL a l with | some (x, y) => .tuple #[.string (T x), .string (T y), .bool true] | none => .tuple #[.string (T l), .string ⟨#[]⟩, .bool false]) ∧ Below w.heap.size w w' := by
  obtain ⟨m, hm⟩ := hE.len
  refine (Tryz.strings_Cut (T l) u m w (by omega) hm).mono ?_
  rintro e w' ⟨rfl, nd, rfl⟩
  refine ⟨?_, below_drewN w nd⟩
  rw [T_data, hu, cut_txs a ha hne l hl]
  cases cutL a l with
  | none => rfl
  | some xy => rfl
theorem cut_place {a : List Nat} (ha : ∀ c ∈ a, c < 128) (hne : a ≠ []) {s : RS} (hf : Fine s) {x y : List Nat} (hc : cutL a s.rest = some (x, y)) : (s.adv (x.length + a.length)).place = s.place + ((T x).size + (T a).size) ∧ (T x).size + (T a).size ≤ (T s.rest).size := by
  have e := cutL_app ha hne hf.okR hc
  have hp : x ++ a <+: s.rest := ⟨y, by rw [e]⟩
  have := place_pre s hp
  rw [List.length_append, sz_app] at this
  refine ⟨this, ?_⟩
  have hz := size_pre hp
  rwa [sz_app] at hz
set_option maxHeartbeats 1000000 in
theorem takeTo_yes (a : List Nat) (u : ByteArray) (hu : u.data.toList = a.map UInt8.ofNat) (ha : ∀ c ∈ a, c < 128) (hne : a ≠ []) (p : Nat) (s : RS) (x y : List Nat) (w : World) (h : AtS w p s) (hf : Fine s) (hE : Env w) (hc : cutL a s.rest = some (x, y)) :
    Calls Tryz.prog 194 #[.pointer (some ⟨p, 0, none⟩), .string u] w fun e w' => e = .returned (.tuple #[.string (T x), .bool true]) ∧ Moves p (s.adv (x.length + a.length)).place w w' := by
  have HC : Hid _ := hide (fun W hW => cut_T a u hu ha hne s.rest hf.okR (by have := hf.lt; omega) W hW)
  obtain ⟨hpl, hz⟩ := cut_place ha hne hf hc
  have hlt := hf.lt
  have hus : u.size = (T a).size := (asc_size ha hu).symm
  rw [← hus] at hpl hz
  have HPL := hide hpl
  clear hpl hus hu ha hne
  go_enter Tryz.func194, Tryz.ntmps194
  go_wp2_with fail
  refine (rest_any p s _ h).mono ?_
  rintro e w1 ⟨rfl, hb1⟩
  go_wp2_with fail
  refine (unhide HC _ (hE.below hb1)).mono ?_
  rintro e w2 ⟨rfl, hb2⟩
  rw [hc]
  have hbb := Below.then hb1 hb2
  have h1 := h.keep hbb
  have hm := h.stay hbb
  have c1 : w2.cell? ⟨p, 1, none⟩ = some (.int .i64 (s.place : Nat)) := h1.pos
  have o1 := h1.thaw
  go_wp2
  go_ret2
  refine ⟨rfl, hm.then ?_⟩
  rw [unhide HPL]
  exact Below.refl _ _
set_option maxHeartbeats 1000000 in
theorem takeTo_no (a : List Nat) (u : ByteArray) (hu : u.data.toList = a.map UInt8.ofNat) (ha : ∀ c ∈ a, c < 128) (hne : a ≠ []) (p : Nat) (s : RS) (w : World) (h : AtS w p s) (hf : Fine s) (hE : Env w) (hc : cutL a s.rest = none) :
    Calls Tryz.prog 194 #[.pointer (some ⟨p, 0, none⟩), .string u] w fun e w' => e = .returned (.tuple #[.string (T s.rest), .bool false]) ∧ Below w.heap.size w w' := by
  have HC : Hid _ := hide (fun W hW => cut_T a u hu ha hne s.rest hf.okR (by have := hf.lt; omega) W hW)
  go_enter Tryz.func194, Tryz.ntmps194
  go_wp2_with fail
  refine (rest_any p s _ h).mono ?_
  rintro e w1 ⟨rfl, hb1⟩
  go_wp2_with fail
  refine (unhide HC _ (hE.below hb1)).mono ?_
  rintro e w2 ⟨rfl, hb2⟩
  rw [hc]
  go_wp2
  go_ret2
  exact ⟨rfl, Below.then hb1 hb2⟩
theorem blank_place (s : RS) : s.blanks.place = s.place + (T (s.rest.takeWhile blankC)).size := place_pre s (List.takeWhile_prefix _)
theorem blank_split {s : RS} : (T s.rest).size = (T (s.rest.takeWhile blankC)).size + (T (s.rest.dropWhile blankC)).size := by
  rw [← sz_app, List.takeWhile_append_dropWhile]
theorem blanks_rest (s : RS) : s.blanks.rest = s.rest.dropWhile blankC := by
  show s.rest.drop (s.rest.takeWhile blankC).length = _
  have := List.drop_left (l₁ := s.rest.takeWhile blankC) (l₂ := s.rest.dropWhile blankC)
  rwa [List.takeWhile_append_dropWhile] at this
set_option maxHeartbeats 1000000 in
theorem blanks_any (p : Nat) (s : RS) (w : World) (h : AtS w p s) (hf : Fine s) :
    Calls Tryz.prog 116 #[.pointer (some ⟨p, 0, none⟩)] w fun e w' => e = .returned (.bool s.blank) ∧ Moves p s.blanks.place w w' := by
  have HF := hide hf
  have hlt := hf.lt
  have hok := hf.okR
  have HPL := hide (blank_place s)
  have hsp := blank_split (s := s)
  have HBR := hide (blanks_rest s)
  have HB : Hid (s.blank = decide ((T (s.rest.dropWhile blankC)).size < (T s.rest).size)) := by
    refine hide ?_
    unfold RS.blank
    cases hx : s.rest.takeWhile blankC with
    | nil =>
      rw [hx] at hsp
      have : (T []).size = 0 := rfl
      rw [decide_eq_false (by omega)]
      rfl
    | cons c t =>
      have h1 : 0 < (T (c :: t)).size := by
        rw [T_size]
        exact Nat.pos_of_ne_zero fun h0 => by
          have := tx_len_zero (l := c :: t) (okL_pre hok (by rw [← hx]; exact List.takeWhile_prefix _)) h0
          cases this
      rw [hx] at hsp
      rw [decide_eq_true (by omega)]
      rfl
  have hdz : (T (s.rest.dropWhile blankC)).size ≤ (T s.rest).size := by omega
  have e1 : IntKind.i64.wrap (((T s.rest).size : Int) - ((T (s.rest.dropWhile blankC)).size : Int)) = ((T (s.rest.takeWhile blankC)).size : Int) := by rw [IntKind.wrap_i64]; omega
  have e2 : IntKind.i64.wrap ((s.place : Int) + ((T (s.rest.takeWhile blankC)).size : Int)) = ((s.blanks.place : Nat) : Int) := by rw [IntKind.wrap_i64, unhide HPL]; omega
  have HSP := hide hsp
  clear hsp
  have HT : Hid (∀ W : World, Calls Tryz.prog 154 #[.string (T s.rest), .func (.func 130) #[] #[]] W fun e w' => e = .returned (.string (T (s.rest.dropWhile blankC))) ∧ Below W.heap.size W w') := by
    refine hide fun W => ?_
    have := Tryz.strings_TrimLeftFunc_runes 130 #[] isBlank_enters blankN (T s.rest) W (isBlank_runes _)
    rwa [trim_T hok] at this
  have HR : Hid (∀ W : World, Below w.heap.size w W → Calls Tryz.prog 153 #[.pointer (some ⟨p, 0, none⟩)] W fun e w' => e = .returned (.string (T s.rest)) ∧ Below W.heap.size W w') := hide fun W hW => rest_any p s W (h.keep hW)
  have H1 := hide h
  have hp1 : ∀ W : World, Below w.heap.size w W → W.cell? ⟨p, 1, none⟩ = some (.int .i64 (s.place : Nat)) := fun W hW => (h.keep hW).pos
  have hp2 : ∀ W : World, Below w.heap.size w W → W.frozen? ⟨p, 1, none⟩ = false := fun W hW => (h.keep hW).thaw
  have hpz := h.lt
  clear hf hok h
  go_enter Tryz.func116, Tryz.ntmps116
  go_wp2_with fail
  refine (unhide HR _ (Below.refl _ _)).mono ?_
  rintro e w1 ⟨rfl, hb1⟩
  go_wp2_with fail
  have c1 := hp1 _ hb1
  have o1 := hp2 _ hb1
  go_region_with
    (first
      | (go_at_call 153; refine (unhide HR _ hb1.drew).mono ?_; rintro e w2 ⟨rfl, hb2⟩; have hk2 : Below w.heap.size w w2 := Below.trans hb1.drew (hb2.mono hb1.drew.size); have c2 := hp1 _ hk2; have o2 := hp2 _ hk2)
      | (go_at_call 154; refine (unhide HT _).mono ?_; rintro e w3 ⟨rfl, hb3⟩; have hk3 : Below w.heap.size w w3 := Below.trans hk2 (hb3.mono hk2.size); have c3 := hp1 _ hk3; have o3 := hp2 _ hk3))
  all_goals have ha := (unhide H1).moved (pre' := s.blanks.pre) (rest' := s.blanks.rest) (((unhide H1).stay hk3).then (Below.refl _ _)) (adv_whole s _)
  all_goals have hm := ((unhide H1).stay hk3).then (Below.refl w3.heap.size (w3.setCell ⟨p, 1, none⟩ (.int .i64 (s.blanks.place : Nat))))
  all_goals go_wp2_with (go_at_call 153; refine (rest_any p s.blanks _ ha).mono ?_; rintro e w4 ⟨rfl, hb4⟩; rw [unhide HBR])
  all_goals go_ret
  all_goals exact ⟨by rw [unhide HB]; exact ret_bool (by simp), hm.still hb4⟩
end Go.Proofs.YtjjggncbhenffaaGreatDoor
