/- Several texts, laid as one. -/
import Derived.Test.YtjjggncbhenffaaGreatDoorGbv
import Derived.Test.YtjjggncbhenffaaGreatDoorGbu
import Derived.Test.YtjjggncbhenffaaGreatDoorGbt
import Derived.Test.YtjjggncbhenffaaGreatDoorGan
import Derived.Test.YtjjggncbhenffaaGreatDoorGak
import Derived.Lib.LaidU8
import Derived.HandedShaped
import Derived.WalkKit
import Derived.ProofKit
import Derived.OpenShut
import Derived.ShutString
import Derived.Deep.DeepHandedRow
import Derived.Lib.LaidTab
/- The law XdmPrefixes. -/
namespace Go.Proofs.YtjjggncbhenffaaGreatDoor
open Go.RowKit Go.Maps
theorem name_T2 {s : ByteArray} (h : nameB s = true) : ∃ cs, okL cs ∧ s = T cs ∧ isNm cs = true := by
  have ht : textB s = true := by
    rw [textB_eq]
    rw [nameB_eq] at h
    simp only [Bool.and_eq_true] at h
    exact h.1.1
  obtain ⟨cs, hl, rfl⟩ := txt_T ((textB_txt _).1 ht)
  exact ⟨cs, hl, rfl, by rw [← nameB_T hl]; exact h⟩
def prS (p u : ByteArray) : ByteArray := (⟨#[60]⟩ : ByteArray) ++ p ++ (⟨#[58, 97, 32, 120, 109, 108, 110, 115, 58]⟩ : ByteArray) ++ p ++ (⟨#[61, 34]⟩ : ByteArray) ++ quoS u ++ (⟨#[34, 32]⟩ : ByteArray) ++ p ++ (⟨#[58, 98, 61, 34, 34, 47, 62]⟩ : ByteArray)
theorem prS_T {p u : List Nat} (hu : okL u) : prS (T p) (T u) = T (prDoc p u) := by
  have e1 : (⟨#[60]⟩ : ByteArray) = T [60] := by decide +kernel
  have e2 : (⟨#[58, 97, 32, 120, 109, 108, 110, 115, 58]⟩ : ByteArray) = T [58, 97, 32, 120, 109, 108, 110, 115, 58] := by decide +kernel
  have e3 : (⟨#[61, 34]⟩ : ByteArray) = T [61, 34] := by decide +kernel
  have e4 : (⟨#[34, 32]⟩ : ByteArray) = T [34, 32] := by decide +kernel
  have e5 : (⟨#[58, 98, 61, 34, 34, 47, 62]⟩ : ByteArray) = T [58, 98, 61, 34, 34, 47, 62] := by decide +kernel
  unfold prS
  rw [quoS_T hu, e1, e2, e3, e4, e5, T_app, T_app, T_app, T_app, T_app, T_app, T_app, T_app]
  congr 1
  unfold prDoc prA attrL xmlnsL
  simp [mapN]
theorem pr_ok {p u : List Nat} (hp : okL p) (hu : okL u) : okL (prDoc p u) := by
  have h1 : okL [60] := by unfold okL; decide +kernel
  have h2 : okL [58, 97, 32, 120, 109, 108, 110, 115, 58] := by unfold okL; decide +kernel
  have h3 : okL [61, 34] := by unfold okL; decide +kernel
  have h4 : okL [34, 32] := by unfold okL; decide +kernel
  have h5 : okL [58, 98, 61, 34, 34, 47, 62] := by unfold okL; decide +kernel
  have e : prDoc p u = [60] ++ (p ++ ([58, 97, 32, 120, 109, 108, 110, 115, 58] ++ (p ++ ([61, 34] ++ (mapN quoN u ++ ([34, 32] ++ (p ++ [58, 98, 61, 34, 34, 47, 62]))))))) := by
    unfold prDoc prA attrL xmlnsL
    simp [mapN]
  rw [e]
  have app : ∀ {a b : List Nat}, okL a → okL b → okL (a ++ b) := fun ha hb c hc => (List.mem_append.1 hc).elim (ha c) (hb c)
  exact app h1 (app hp (app h2 (app hp (app h3 (app (map_ok quo_ref hu) (app h4 (app hp h5)))))))
set_option maxHeartbeats 1000000 in
theorem fixed_any (p : List Nat) (w : World) (hp : okL p) :
    Calls Tryz.prog 26 #[.string (T p)] w fun e w' => e = .returned (.bool (p == xmlL || p == xmlnsL)) ∧ w' = w := by
  have h1 := is_xmlns hp
  have h2 := is_xml hp
  obtain ⟨b1, e1⟩ : ∃ b, (p == xmlnsL) = b := ⟨_, rfl⟩
  obtain ⟨b2, e2⟩ : ∃ b, (p == xmlL) = b := ⟨_, rfl⟩
  rw [e1] at h1 ⊢
  rw [e2] at h2 ⊢
  clear e1 e2
  cases b1 <;> cases b2
  all_goals
    go_enter Tryz.func26, Tryz.ntmps26
    go_wp2
    go_returns
    exact ⟨rfl, rfl⟩
/-- What Parse tells of the document: anything, or where nothing is wrong its tree. -/
structure PrOut (w : World) (p u : List Nat) (v : Value) (er : Nat) (w' : World) : Prop where
  er : er = 0
  tree : ∃ ns q x y, v = .pointer (some ⟨q, 0, none⟩) ∧ TreeAt w' w.heap.size q ns ∧ ns.length = 3 ∧ ns[1]? = some x ∧ ns[2]? = some y ∧ x.name = ⟨u, p, [97]⟩ ∧ y.name.uri = u
theorem pr_walk {p u : List Nat} (hp : okL p) (hn : isNm p = true) (h1 : p ≠ xmlnsL) (h2 : p ≠ xmlL) (hu : okL u) (hu0 : u ≠ []) (hu1 : u ≠ xmlUriL) (hs : (T (prDoc p u)).size ≤ 32768) (w : World) (hE : XEnv w.heap.size w) :
    Calls Tryz.prog 14 #[.string (prS (T p) (T u))] w fun e w' => ∃ (v : Value) (er : Nat), e = .returned (.tuple #[v, .int .i64 (er : Nat)]) ∧ Below w.heap.size w w' ∧ PrOut w p u v er w' := by
  obtain ⟨ns, x, y, h3, h4, h5, h6, h7, h8⟩ := pr_parse hn h1 h2 hu0 hu1
  have h := parse_T (prDoc p u) w (pr_ok hp hu) hs hE
  rw [h3] at h
  rw [prS_T hu]
  refine h.mono ?_
  rintro e w' ⟨⟨q, rfl, hT⟩, hb⟩
  exact ⟨_, 0, rfl, hb, rfl, ns, q, x, y, rfl, hT, h4, h5, h6, h7, h8⟩
theorem quo_size (u : ByteArray) : (quoS u).size ≤ 6 * u.size := by
  show (mapO quoO u.data.toList).length ≤ _
  exact map_size quo_few u
theorem prS_size (p u : ByteArray) : (prS p u).size = 21 + 3 * p.size + (quoS u).size := by
  unfold prS
  simp only [ByteArray.size_append]
  rw [show (⟨#[60]⟩ : ByteArray).size = 1 from rfl, show (⟨#[58, 97, 32, 120, 109, 108, 110, 115, 58]⟩ : ByteArray).size = 9 from rfl, show (⟨#[61, 34]⟩ : ByteArray).size = 2 from rfl, show (⟨#[34, 32]⟩ : ByteArray).size = 2 from rfl, show (⟨#[58, 98, 61, 34, 34, 47, 62]⟩ : ByteArray).size = 7 from rfl]
  omega
theorem pr_any {p : List Nat} (U : ByteArray) (hp : okL p) (hn : isNm p = true) (h0 : U.toList.isEmpty = false) (h1 : (U.toList == [104, 116, 116, 112, 58, 47, 47, 119, 119, 119, 46, 119, 51, 46, 111, 114, 103, 47, 88, 77, 76, 47, 49, 57, 57, 56, 47, 110, 97, 109, 101, 115, 112, 97, 99, 101]) = false) (hs : (prS (T p) U).size ≤ 32768) (w : World) (hE : XEnv w.heap.size w) :
    Calls Tryz.prog 14 #[.string (prS (T p) U)] w fun e w' => ∃ (v : Value) (er : Nat), e = .returned (.tuple #[v, .int .i64 (er : Nat)]) ∧ Below w.heap.size w w' ∧ ∀ u, okL u → U = T u → p ≠ xmlnsL → p ≠ xmlL → PrOut w p u v er w' := by
  by_cases hg : (∃ u, okL u ∧ U = T u) ∧ p ≠ xmlnsL ∧ p ≠ xmlL
  · obtain ⟨⟨u, hu, rfl⟩, h2, h3⟩ := hg
    have hu0 : u ≠ [] := fun e => by
      rw [is_empty hu, e] at h0
      cases h0
    have hu1 : u ≠ xmlUriL := fun e => by
      rw [is_uri hu, e] at h1
      exact absurd h1 (by decide)
    refine (pr_walk hp hn h2 h3 hu hu0 hu1 (by rw [← prS_T hu]; exact hs) w hE).mono ?_
    rintro e w' ⟨v, er, he, hb, hO⟩
    refine ⟨v, er, he, hb, fun u' hu' e' _ _ => ?_⟩
    have : u = u' := T_eq hu hu' e'
    subst this
    exact hO
  · refine (parse_out _ w hE).mono ?_
    rintro e w' ⟨v, er, he, hb, _⟩
    exact ⟨v, er, he, hb, fun u hu e' h2 h3 => absurd ⟨⟨u, hu, e'⟩, h2, h3⟩ hg⟩
set_option maxRecDepth 100000 in
set_option maxHeartbeats 4000000 in
theorem prefixes_walk (P Q U : ByteArray) (w : World) (hP : P.size ≤ 1048576) (hQ : Q.size ≤ 1048576) (hU : U.size ≤ 1048576) (hE : XEnv w.heap.size w) :
    Calls Tryz.prog 7 #[.string P, .string Q, .string U] w fun e w' => e = .returned (.bool true) ∧ Below w.heap.size w w' := by
  have HE := hide hE
  have HIP := hide (refIsName_any P w (by omega) hE.env)
  have HIQ := hide (fun W (hb : Below w.heap.size w W) => refIsName_any Q W (by omega) (hE.at hb).env)
  have HLV := hide (fun W (hb : Below w.heap.size w W) => live4_any W (hE.at hb))
  clear hE
  go_enter Tryz.func7, Tryz.ntmps7
  go_wp2_with fail
  refine (unhide HIP).mono ?_
  rintro e w1 ⟨rfl, hb1⟩
  clear HIP
  cases hnP : nameB P
  · have hc := unhide HLV _ hb1
    go_wp2_with fail
    refine hc.mono ?_
    rintro e w2 ⟨rfl, hb2⟩
    go_wp2
    go_returns
    exact ⟨rfl, Below.then hb1 hb2⟩
  have hc := unhide HIQ _ hb1
  go_wp2_with fail
  refine hc.mono ?_
  rintro e w2 ⟨rfl, hb2⟩
  have hb2 := Below.then hb1 hb2
  clear HIQ hb1 hc
  cases hnQ : nameB Q
  · have hc := unhide HLV _ hb2
    go_wp2_with fail
    refine hc.mono ?_
    rintro e w3 ⟨rfl, hb3⟩
    go_wp2
    go_returns
    exact ⟨rfl, Below.then hb2 hb3⟩
  by_cases hU0 : U.toList.isEmpty = true
  · have hc := unhide HLV _ hb2
    go_wp2_with fail
    refine hc.mono ?_
    rintro e w3 ⟨rfl, hb3⟩
    go_wp2
    go_returns
    exact ⟨rfl, Below.then hb2 hb3⟩
  have hU0' : U.toList.isEmpty = false := by simpa using hU0
  by_cases hU1 : (U.toList == [104, 116, 116, 112, 58, 47, 47, 119, 119, 119, 46, 119, 51, 46, 111, 114, 103, 47, 88, 77, 76, 47, 49, 57, 57, 56, 47, 110, 97, 109, 101, 115, 112, 97, 99, 101]) = true
  · have hc := unhide HLV _ hb2
    go_wp2_with fail
    refine hc.mono ?_
    rintro e w3 ⟨rfl, hb3⟩
    go_wp2
    go_returns
    exact ⟨rfl, Below.then hb2 hb3⟩
  have hU1' : (U.toList == [104, 116, 116, 112, 58, 47, 47, 119, 119, 119, 46, 119, 51, 46, 111, 114, 103, 47, 88, 77, 76, 47, 49, 57, 57, 56, 47, 110, 97, 109, 101, 115, 112, 97, 99, 101]) = false := by simpa using hU1
  by_cases hz : 2000 < P.size + Q.size + U.size
  · have hz' : (2000 : Int) < (P.size : Int) + (Q.size : Int) + (U.size : Int) := by omega
    have hc := unhide HLV _ hb2
    go_wp2_with fail
    refine hc.mono ?_
    rintro e w3 ⟨rfl, hb3⟩
    go_wp2
    go_returns
    exact ⟨rfl, Below.then hb2 hb3⟩
  have hz' : ¬ (2000 : Int) < (P.size : Int) + (Q.size : Int) + (U.size : Int) := by omega
  obtain ⟨p, hp, rfl, hpn⟩ := name_T2 hnP
  obtain ⟨q, hq, rfl, hqn⟩ := name_T2 hnQ
  have HQU := hide (fun W => refQuote_any U W (by omega))
  have hqs := quo_size U
  have hs1 := prS_size (T p) U
  have hs2 := prS_size (T q) U
  have HP1 : Hid (prS (T p) U = (⟨#[60]⟩ : ByteArray) ++ T p ++ (⟨#[58, 97, 32, 120, 109, 108, 110, 115, 58]⟩ : ByteArray) ++ T p ++ (⟨#[61, 34]⟩ : ByteArray) ++ quoS U ++ (⟨#[34, 32]⟩ : ByteArray) ++ T p ++ (⟨#[58, 98, 61, 34, 34, 47, 62]⟩ : ByteArray)) := hide rfl
  have HP2 : Hid (prS (T q) U = (⟨#[60]⟩ : ByteArray) ++ T q ++ (⟨#[58, 97, 32, 120, 109, 108, 110, 115, 58]⟩ : ByteArray) ++ T q ++ (⟨#[61, 34]⟩ : ByteArray) ++ quoS U ++ (⟨#[34, 32]⟩ : ByteArray) ++ T q ++ (⟨#[58, 98, 61, 34, 34, 47, 62]⟩ : ByteArray)) := hide rfl
  have HQU' : Hid (∀ W, Calls Tryz.prog 25 #[.string U] W fun e w' => e = .returned (.string (quoS U)) ∧ w' = W) := hide (unhide HQU)
  clear HQU
  have hps : (T p).size ≤ 2000 := by omega
  have hqs2 : (T q).size ≤ 2000 := by omega
  have hqq : (quoS U).size ≤ 12000 := by omega
  have HPA := hide (fun W (hb : Below w.heap.size w W) => pr_any U hp hpn hU0' hU1' (by omega) W ((unhide HE).at hb))
  have HQA := hide (fun W (hb : Below w.heap.size w W) => pr_any U hq hqn hU0' hU1' (by omega) W ((unhide HE).at hb))
  generalize hQ : quoS U = QU at *
  have hQ' := hide hQ
  clear hQ
  go_wp2_with fail
  refine (unhide HQU' _).mono ?_
  rintro e w3 ⟨rfl, rfl⟩
  go_wp2_with fail
  rw [← unhide HP1]
  refine (unhide HPA _ hb2).mono ?_
  rintro e w4 ⟨v1, er1, rfl, hb4, HO1⟩
  have HO1 := hide HO1
  have hb24 := Below.then hb2 hb4
  clear HPA
  go_wp2_with fail
  refine (unhide HQU' _).mono ?_
  rintro e w5 ⟨rfl, rfl⟩
  go_wp2_with fail
  rw [← unhide HP2]
  refine (unhide HQA _ hb24).mono ?_
  rintro e w6 ⟨v2, er2, rfl, hb6, HO2⟩
  have HO2 := hide HO2
  have hb26 := Below.then hb24 hb6
  have HFP := hide (fixed_any p w6 hp)
  have HFQ := hide (fixed_any q w6 hq)
  have HIT := hide (refIsText_same U w6 (by omega) ((unhide HE).at hb26).env)
  clear HQA HQU' HP1 HP2
  by_cases hpw : (p == xmlL || p == xmlnsL) = true
  · rw [hpw] at HFP
    have hc := unhide HLV _ hb26
    go_wp2_with fail
    refine (unhide HFP).mono ?_
    rintro e w7 ⟨rfl, rfl⟩
    go_wp2_with fail
    refine hc.mono ?_
    rintro e w8 ⟨rfl, hb8⟩
    go_wp2
    go_returns
    exact ⟨rfl, Below.then hb26 hb8⟩
  have hpw' : (p == xmlL || p == xmlnsL) = false := by simpa using hpw
  rw [hpw'] at HFP
  by_cases hqw : (q == xmlL || q == xmlnsL) = true
  · rw [hqw] at HFQ
    have hc := unhide HLV _ hb26
    go_wp2_with fail
    refine (unhide HFP).mono ?_
    rintro e w7 ⟨rfl, rfl⟩
    go_wp2_with fail
    refine (unhide HFQ).mono ?_
    rintro e w7 ⟨rfl, rfl⟩
    go_wp2_with fail
    refine hc.mono ?_
    rintro e w8 ⟨rfl, hb8⟩
    go_wp2
    go_returns
    exact ⟨rfl, Below.then hb26 hb8⟩
  have hqw' : (q == xmlL || q == xmlnsL) = false := by simpa using hqw
  rw [hqw'] at HFQ
  cases htx : textB U
  · rw [htx] at HIT
    go_wp2_with fail
    refine (unhide HFP).mono ?_
    rintro e w7 ⟨rfl, rfl⟩
    go_wp2_with fail
    refine (unhide HFQ).mono ?_
    rintro e w7 ⟨rfl, rfl⟩
    go_wp2_with fail
    refine (unhide HIT).mono ?_
    rintro e w7 ⟨rfl, hb7⟩
    have hc := unhide HLV _ (Below.then hb26 hb7)
    go_wp2_with fail
    refine hc.mono ?_
    rintro e w8 ⟨rfl, hb8⟩
    go_wp2
    go_returns
    exact ⟨rfl, Below.then (Below.then hb26 hb7) hb8⟩
  rw [htx] at HIT
  obtain ⟨u, hu, hUe⟩ := txt_T ((textB_txt _).1 htx)
  have hpn2 : p ≠ xmlnsL ∧ p ≠ xmlL := by simpa [and_comm] using hpw'
  have hqn2 : q ≠ xmlnsL ∧ q ≠ xmlL := by simpa [and_comm] using hqw'
  obtain ⟨rfl, ns1, q1, x1, y1, rfl, hT1, hl1, hx1, hy1, hxn1, hyn1⟩ := unhide HO1 u hu hUe hpn2.1 hpn2.2
  obtain ⟨rfl, ns2, q2, x2, y2, rfl, hT2, hl2, hx2, hy2, hxn2, hyn2⟩ := unhide HO2 u hu hUe hqn2.1 hqn2.2
  have hTV1 : TreeV _ _ (.pointer (some ⟨q1, 0, none⟩)) ns1 := .inr ⟨q1, rfl, hT1⟩
  have hTV2 : TreeV _ _ (.pointer (some ⟨q2, 0, none⟩)) ns2 := .inr ⟨q2, rfl, hT2⟩
  have hTV1 := hTV1.on hb6
  have ea : T [97] = ⟨#[97]⟩ := by decide +kernel
  have en1 : nmV (nodeD ns1 1).name = .agg #[.string U, .string (T p), .string ⟨#[97]⟩] := by
    rw [show (1 : Int) = ((1 : Nat) : Int) from rfl, nodeD_at hx1, hxn1]
    unfold nmV
    rw [hUe, ea]
  have en2 : nmV (nodeD ns2 1).name = .agg #[.string U, .string (T q), .string ⟨#[97]⟩] := by
    rw [show (1 : Int) = ((1 : Nat) : Int) from rfl, nodeD_at hx2, hxn2]
    unfold nmV
    rw [hUe, ea]
  have en3 : nmV (nodeD ns1 2).name = .agg #[.string U, .string (T y1.name.pre), .string (T y1.name.loc)] := by
    rw [show (2 : Int) = ((2 : Nat) : Int) from rfl, nodeD_at hy1]
    unfold nmV
    rw [hUe, hyn1]
  have en4 : nmV (nodeD ns2 2).name = .agg #[.string U, .string (T y2.name.pre), .string (T y2.name.loc)] := by
    rw [show (2 : Int) = ((2 : Nat) : Int) from rfl, nodeD_at hy2]
    unfold nmV
    rw [hUe, hyn2]
  have HN1 := hide (fun W (hb : Below w6.heap.size w6 W) => trName_any _ _ _ 1 W (hTV1.on hb))
  have HN2 := hide (fun W (hb : Below w6.heap.size w6 W) => trName_any _ _ _ 1 W (hTV2.on hb))
  have HN3 := hide (fun W (hb : Below w6.heap.size w6 W) => trName_any _ _ _ 2 W (hTV1.on hb))
  have HN4 := hide (fun W (hb : Below w6.heap.size w6 W) => trName_any _ _ _ 2 W (hTV2.on hb))
  have HLn := hide (fun W (hb : Below w6.heap.size w6 W) => len_any _ _ _ W (hTV1.on hb))
  rw [en1] at HN1
  rw [en2] at HN2
  rw [en3] at HN3
  rw [en4] at HN4
  rw [hl1] at HLn
  have hfn0 := fldNm0
  clear HO1 HO2 hpw hpw' hqw hqw' hT1 hT2 hTV1 hTV2 en1 en2 en3 en4 ea hxn1 hxn2 hyn1 hyn2 hx1 hx2 hy1 hy2 hUe hu hl1 hl2 htx hz hz' hU0 hU1 hnP hnQ hpn2 hqn2
  go_wp2_with fail
  refine (unhide HFP).mono ?_
  rintro e w7 ⟨rfl, rfl⟩
  go_wp2_with fail
  refine (unhide HFQ).mono ?_
  rintro e w7 ⟨rfl, rfl⟩
  go_wp2_with fail
  refine (unhide HIT).mono ?_
  rintro e w8 ⟨rfl, hb8⟩
  have hc := unhide HLV _ (Below.then hb26 hb8)
  go_wp2_with fail
  refine hc.mono ?_
  rintro e w9 ⟨rfl, hb9⟩
  clear hc
  have hb := Below.then hb8 hb9
  have hc := unhide HN1 _ hb
  go_wp2_with fail
  refine hc.mono ?_
  rintro e w10 ⟨rfl, hbn⟩
  clear hc
  have hb := Below.then hb hbn
  have hc := unhide HN2 _ hb
  go_wp2_with fail
  refine hc.mono ?_
  rintro e w11 ⟨rfl, hbn⟩
  clear hc
  have hb := Below.then hb hbn
  have hc := unhide HN3 _ hb
  go_wp2_with fail
  refine hc.mono ?_
  rintro e w12 ⟨rfl, hbn⟩
  clear hc
  have hb := Below.then hb hbn
  have hc := unhide HN4 _ hb
  go_wp2_with fail
  refine hc.mono ?_
  rintro e w13 ⟨rfl, hbn⟩
  clear hc
  have hb := Below.then hb hbn
  have hc := unhide HLn _ hb
  go_wp2_with fail
  refine hc.mono ?_
  rintro e w14 ⟨rfl, hbn⟩
  clear hc
  have hb := Below.then hb hbn
  go_wp2
  go_returns
  exact ⟨rfl, Below.then hb26 hb⟩
end Go.Proofs.YtjjggncbhenffaaGreatDoor
/- From what a row lists of the library's tables, and from the world's shape, to what the walks of layer 3 ask. -/
namespace Go.Proofs.YtjjggncbhenffaaGreatDoor
open Go.ChangeShapes Go.WideShapes Go.ChangeAt Go.RowKit
theorem u8extra : U8Extra Tryz.prog Tryz.lays260_ren where
  n3 := by kernel_rfl
  n4 := by kernel_rfl
  y3 := by kernel_rfl
  y4 := by kernel_rfl
  c5 := by kernel_rfl
  c119 := by kernel_rfl
  c138 := by kernel_rfl
theorem first_data : Rows.laid_unicode_utf8_first = Lib.firstData := by kernel_rfl
theorem accept_data : Rows.laid_unicode_utf8_acceptRanges = Lib.acceptData := by kernel_rfl
def foldTab : List Int := [0, 1, 2, 3, 4, 5, 6, 7, 8, 9, 10, 11, 12, 13, 14, 15, 16, 17, 18, 19, 20, 21, 22, 23, 24, 25, 26, 27, 28, 29, 30, 31, 32, 33, 34, 35, 36, 37, 38, 39, 40, 41, 42, 43, 44, 45, 46, 47, 48, 49, 50, 51, 52, 53, 54, 55, 56, 57, 58, 59, 60, 61, 62, 63, 64, 97, 98, 99, 100, 101, 102, 103, 104, 105, 106, 107, 108, 109, 110, 111, 112, 113, 114, 115, 116, 117, 118, 119, 120, 121, 122, 91, 92, 93, 94, 95, 96, 65, 66, 67, 68, 69, 70, 71, 72, 73, 74, 8490, 76, 77, 78, 79, 80, 81, 82, 383, 84, 85, 86, 87, 88, 89, 90, 123, 124, 125, 126, 127]
theorem fold_data : (Rows.laid_unicode_asciiFold : DataW Unit) = Lib.tabData .u16 foldTab := by kernel_rfl
theorem xTab_of {P : Program} {W : World} {name : String} {k : IntKind} {zs : List Int} {g : Nat} {t e : TypeId} {n : Nat} (hg : P.globalNamed name = some g) (hty : (P.globals[g]?).map (·.type) = some t) (ht : P.underlying t = some (.array n e)) (he : P.underlying e = some (.int k)) (hce : P.cellsOf e = 1) (hct : P.cellsOf t = n) (h : Lib.VarReads P W name (Lib.tabData k zs)) (j : Nat) : W.cell? ⟨g, j, none⟩ = (zs.map fun z => Value.int k z)[j]? := by
  obtain ⟨g', t', cs, fuel, p, hg', ht', hvar, hd⟩ := h
  obtain rfl := Option.some.inj (hg.symm.trans hg')
  obtain rfl := Option.some.inj (hty.symm.trans ht')
  rw [World.var?_cell hg hvar j, ← Lib.cells_of_tab ht he hce hct hd]
  simp
theorem env_of {W : World} (hM : laidMet Tryz.prog [("unicode/utf8.acceptRanges", Rows.laid_unicode_utf8_acceptRanges), ("unicode.asciiFold", Rows.laid_unicode_asciiFold), ("unicode.caseOrbit", Rows.laid_unicode_caseOrbit), ("unicode.CaseRanges", Rows.laid_unicode_CaseRanges), ("unicode/utf8.first", Rows.laid_unicode_utf8_first)] W) (hs : W.ShapedOpen Tryz.prog) : XEnv W.heap.size W := by
  have h3 := Lib.laidMet.reads hM (n := "unicode/utf8.first") (d := Rows.laid_unicode_utf8_first) (by simp)
  have h4 := Lib.laidMet.reads hM (n := "unicode/utf8.acceptRanges") (d := Rows.laid_unicode_utf8_acceptRanges) (by simp)
  have h5 := Lib.laidMet.reads hM (n := "unicode.asciiFold") (d := Rows.laid_unicode_asciiFold) (by simp)
  rw [first_data] at h3
  rw [accept_data] at h4
  rw [fold_data] at h5
  have ht := utf8Tabs_of_reads Tryz.lays260 u8extra h3 h4
  have hf := xTab_of (g := 2) (t := 234) (e := 233) (n := 128) (by kernel_rfl) (by kernel_rfl) (by kernel_rfl) Tryz.underlying233 (by kernel_rfl) (by kernel_rfl) h5
  obtain ⟨m, hm⟩ : ∃ m, W.cell? ⟨5, 0, none⟩ = some (.int .i64 m) := cell_of_shapedOpen_int (zero := #[.int .i64 0]) (t := 3) hs (of_decide_eq_true (by kernel_rfl)) (by kernel_rfl) rfl (by kernel_rfl) (by kernel_rfl) Tryz.underlying3
  have fx : W.cell? ⟨2, 120, none⟩ = some (.int .u16 88) := (hf 120).trans rfl
  refine ⟨⟨⟨m, hm⟩, ht⟩, fx, (hf 109).trans rfl, (hf 108).trans rfl, (hf 88).trans rfl, (hf 77).trans rfl, (hf 76).trans rfl, block_lt_of_cell hm, ?_, ?_, block_lt_of_cell fx⟩
  · exact block_lt_of_cell (ht.1 0 (by decide))
  · exact block_lt_of_cell (ht.2 0 (by decide)).1
theorem own : ownKnob Tryz.prog.godebug = none := by kernel_rfl
end Go.Proofs.YtjjggncbhenffaaGreatDoor
