/- Several texts, laid as one. -/
import Derived.Test.YtjjggncbhenffaaGreatDoorGbv
import Derived.Test.YtjjggncbhenffaaGreatDoorGbs
import Derived.Test.YtjjggncbhenffaaGreatDoorGak
import Derived.Lib.LaidU8
import Derived.HandedShaped
import Derived.WalkKit
import Derived.ProofKit
import Derived.OpenShut
import Derived.ShutString
import Derived.Deep.DeepHandedRow
import Derived.Lib.LaidTab
/- The law XdmStrings. -/
namespace Go.Proofs.YtjjggncbhenffaaGreatDoor
open Go.RowKit Go.Maps
structure SgSt (w1 : World) (N k : Nat) (wr : World) : Prop where
  le : k ≤ N
  bel : Below w1.heap.size w1 wr
theorem root_str {ns : List XNode} (hS : Shape ns) (hL : Leafs ns) : strD ns 0 = txtsD ns := by
  obtain ⟨x, hx, hh⟩ := hL.rt
  have ht := hL.tx 0 x hx hh
  have hf := hS.root x hx
  have hp := hS.pos
  have e0 : nodeD ns 0 = x := nodeD_at hx
  have e1 : partD ns 0 = segD ns 1 ns.length := by
    have := part_seg hx (by omega)
    rw [hf] at this
    exact this
  have e2 : ns = segD ns 0 ns.length := by unfold segD; rw [List.drop_zero, Nat.sub_zero, List.take_length]
  have hk : ¬ x.kind = 4 := by unfold Hld at hh; omega
  unfold strD
  rw [e0, ht, List.nil_append, e1]
  conv => rhs; rw [e2, seg_head hx hp, txts_cons, if_neg hk, List.nil_append]
theorem elem_str {ns : List XNode} (hS : Shape ns) (hL : Leafs ns) (hf : ∀ (i : Nat) (x : XNode), ns[i]? = some x → i < x.fin ∧ x.fin ≤ ns.length) {n : Nat} {x : XNode} (hx : ns[n]? = some x) (hh : Hld x) :
    strD ns (n : Nat) = (kidsD ns (n : Nat)).flatMap (kidS ns) ∧ txtsD (partD ns (n : Nat)) = (kidsD ns (n : Nat)).flatMap (kidS ns) := by
  have ht := hL.tx n x hx hh
  obtain ⟨h1, h2⟩ := hf n x hx
  have hk : kidsD ns (n : Nat) = kidsGo ns ns.length (n + 1) x.fin := by
    unfold kidsD
    rw [nodeD_at hx, if_neg (by omega), Int.toNat_natCast]
  have h3 := kids_txts hS hL hf hx ns.length (n + 1) (by omega) (by omega) (by omega)
  have h4 : txtsD (partD ns (n : Nat)) = (kidsD ns (n : Nat)).flatMap (kidS ns) := by rw [part_seg hx (by omega), h3, hk]
  refine ⟨?_, h4⟩
  unfold strD
  rw [nodeD_at hx, ht, List.nil_append, h4]
theorem flat_snoc {α : Type} (f : Nat → List α) {l : List Nat} {i k : Nat} (h : l[i]? = some k) : (l.take (i + 1)).flatMap f = (l.take i).flatMap f ++ f k := by
  obtain ⟨hi, he⟩ := List.getElem?_eq_some_iff.1 h
  rw [List.take_succ_eq_append_getElem hi, he, List.flatMap_append]
  simp
theorem flat_take_len {l : List Nat} (f : Nat → List Nat) (i : Nat) : (tx ((l.take i).flatMap f)).length ≤ (tx (l.flatMap f)).length := by
  conv => rhs; rw [← List.take_append_drop i l, List.flatMap_append, tx_append, List.length_append]
  omega
theorem int_cells {w : World} {B : Nat} {v : Value} {l : List Nat} (h : w.ownsRow B 3 1 v l.length (intRow l)) (hp : 0 < l.length) : ∃ g cap, v = .slice (some ⟨g, 0, none⟩) l.length cap ∧ ∀ (i k : Nat), l[i]? = some k → w.cell? ⟨g, i, none⟩ = some (.int .i64 (k : Nat)) := by
  obtain ⟨g, cap, e, _, _, _, hc, _⟩ := owns_cells h hp
  refine ⟨g, cap, e, fun i k hk => hc i _ ?_⟩
  unfold intRow
  rw [List.getElem?_map, hk]
  rfl
set_option maxRecDepth 100000 in
set_option maxHeartbeats 4000000 in
theorem strings_walk (s : ByteArray) (w : World) (hE : XEnv w.heap.size w) :
    Calls Tryz.prog 6 #[.string s] w fun e w' => e = .returned (.bool true) ∧ Below w.heap.size w w' := by
  have HE := hide hE
  have HW := hide (parse_out s w hE)
  clear hE
  go_enter Tryz.func6, Tryz.ntmps6
  go_wp2_with fail
  refine (unhide HW).mono ?_
  rintro e w1 ⟨v, er, rfl, hb1, hO⟩
  have HE1 := hide ((unhide HE).at hb1)
  clear HW HE
  rcases hO with ⟨he, rfl⟩ | ⟨rfl, cs, ns, q, hl, hs, hpd, rfl, hT⟩
  · have HL := hide (live4_any w1 (unhide HE1))
    rcases he with rfl | rfl | rfl | rfl | rfl
    all_goals
      go_wp2_with fail
      refine (unhide HL).mono ?_
      rintro e w2 ⟨rfl, hb2⟩
      go_wp2
      go_returns
      exact ⟨rfl, Below.then hb1 hb2⟩
  · have hok := parse_ok hl hs hpd
    have hsl : Shape ns ∧ Leafs ns := by
      unfold parseD at hpd
      split at hpd
      · cases hpd
      · rename_i ts hts
        exact ⟨(doc_ok hl hs hts).shape hpd, (doc_ok hl hs hts).leafs hpd⟩
    have hnl := hok.len
    have hTV : TreeV w1 w.heap.size (.pointer (some ⟨q, 0, none⟩)) ns := .inr ⟨q, rfl, hT⟩
    have hKK : KidsOk ns := ⟨hok.fin, hok.len, fun n x hx k y hy h1 h2 => hsl.1.within hx k y hy h1 h2⟩
    have HSH := hide hsl.1
    have HLF := hide hsl.2
    have HFI := hide hok.fin
    have HTX := hide hok.txt
    have HLn := hide (fun W (hb : Below w1.heap.size w1 W) => len_any _ _ _ W (hTV.on hb))
    have HKd := hide (fun n W (hb : Below w1.heap.size w1 W) => trKind_any _ _ _ n W (hTV.on hb))
    have HTt := hide (fun n W (hb : Below w1.heap.size w1 W) => trText_any _ _ _ n W (hTV.on hb))
    have HSt := hide (fun n W (hb : Below w1.heap.size w1 W) => string_any _ _ _ n W (hTV.on hb) (unhide HFI) hnl (unhide HTX))
    have HKi := hide (fun n W (hb : Below w1.heap.size w1 W) => kids_any _ _ _ n W (hTV.on hb) hKK)
    have HLV := hide (fun W (hb : Below w1.heap.size w1 W) => live4_any W ((unhide HE1).at hb))
    have HRS := hide (root_str hsl.1 hsl.2)
    have HTL := hide (txts_len hok.txt)
    obtain ⟨N, hN⟩ : ∃ N, N = ns.length := ⟨_, rfl⟩
    rw [← hN] at HLn hnl HTL
    have HN := hide hN
    have HI0 : Hid (SgSt w1 N 0 w1) := hide ⟨Nat.zero_le _, Below.refl _ _⟩
    have HT0 : Hid (T (txtsD (ns.take 0)) = ⟨#[]⟩) := hide rfl
    clear hok hsl hTV hT hpd hs hl hKK hN
    go_wp2_with fail
    rw [← unhide HT0]
    go_loopw [5, 6] (fun a i wr => ∃ k : Nat, a = .string (T (txtsD (ns.take k))) ∧ i = .int .i64 (k : Nat) ∧ Hid (SgSt w1 N k wr)) (fun _ i _ => N - (intOf i).toNat)
    case atStart => exact ⟨0, rfl, rfl, HI0⟩
    case round =>
      clear HI0
      obtain ⟨k, rfl, rfl, hI⟩ := hrel
      have hc := unhide HLn wr (unhide hI).bel
      go_wp2_with fail
      refine hc.mono ?_
      rintro e w2 ⟨rfl, hb2⟩
      clear hc
      have hb02 := Below.then (unhide hI).bel hb2
      by_cases hlt : k < N
      · have n2 : (k : Int) < (N : Int) := by omega
        obtain ⟨x, hx⟩ : ∃ x, ns[k]? = some x := ⟨ns[k]'(by rw [← unhide HN]; exact hlt), List.getElem?_eq_getElem _⟩
        have HSN := hide (txts_snoc hx)
        have hc := unhide HKd (k : Int) w2 hb02
        rw [nodeD_at hx] at hc
        have hsz : (T (txtsD (ns.take k))).size + (T x.text).size ≤ 1000000000000 := by
          have h1 := txts_len (xs := ns.take k) (fun y hy => unhide HTX y (List.mem_of_mem_take hy))
          have h2 : (ns.take k).length ≤ 300000 := by rw [List.length_take]; omega
          have h3 := (unhide HTX x (List.mem_of_getElem? hx)).2
          rw [← T_size] at h1
          have h4 : (ns.take k).length * 1048576 ≤ 300000 * 1048576 := Nat.mul_le_mul_right _ h2
          omega
        have HTK : Hid (T (txtsD (ns.take (k + 1))) = T (txtsD (ns.take k)) ++ T (if x.kind = 4 then x.text else [])) := hide (by rw [unhide HSN, T_app])
        by_cases h4 : x.kind = 4
        · rw [h4] at hc
          rw [if_pos h4] at HTK
          have hct := fun W (hb : Below w1.heap.size w1 W) => unhide HTt (k : Int) W hb
          rw [nodeD_at hx] at hct
          have HCT := hide hct
          have z1 : ¬ 9223372036854775807 < (T (txtsD (ns.take k))).size + (T x.text).size := by omega
          clear h4 hx hct hsz
          generalize hA : T (txtsD (ns.take k)) = A at *
          generalize hB : T x.text = B' at *
          clear hA hB
          go_wp2_with fail
          refine hc.mono ?_
          rintro e w3 ⟨rfl, hb3⟩
          clear hc
          have hb03 := Below.then hb02 hb3
          have hc := unhide HCT w3 hb03
          go_wp2_with fail
          refine hc.mono ?_
          rintro e w4 ⟨rfl, hb4⟩
          clear hc
          have HI2 : Hid (SgSt w1 N (k + 1) w4) := hide ⟨hlt, Below.then hb03 hb4⟩
          go_wp2_with fail
          go_round
          case measure => simp [intOf]; omega
          case rel => exact ⟨k + 1, by rw [unhide HTK], by simp, HI2⟩
        · have e4 : ((x.kind : Int) == 4) = false := by simpa using (by omega : ¬ (x.kind : Int) = 4)
          rw [if_neg h4] at HTK
          have HTK2 : Hid (T (txtsD (ns.take (k + 1))) = T (txtsD (ns.take k))) := hide (by rw [unhide HSN, if_neg h4, List.append_nil])
          clear h4 hx hsz
          generalize hA : T (txtsD (ns.take k)) = A at *
          clear hA
          go_wp2_with fail
          refine hc.mono ?_
          rintro e w3 ⟨rfl, hb3⟩
          clear hc
          have HI2 : Hid (SgSt w1 N (k + 1) w3) := hide ⟨hlt, Below.then hb02 hb3⟩
          go_wp2_with fail
          go_round
          case measure => simp [intOf]; omega
          case rel => exact ⟨k + 1, by rw [unhide HTK2], by simp, HI2⟩
      · have n2 : ¬ (k : Int) < (N : Int) := by omega
        have hkN : k = ns.length := by have := unhide HN; have := (unhide hI).le; omega
        have hall : ns.take k = ns := by rw [hkN, List.take_length]
        rw [hall]
        have hc := unhide HSt 0 w2 hb02
        rw [unhide HRS] at hc
        have HI0 : Hid (SgSt w1 N 0 w2) := hide ⟨Nat.zero_le _, hb02⟩
        clear hI hlt hkN hall
        generalize hA : T (txtsD ns) = A at *
        clear hA
        go_wp2_with fail
        refine hc.mono ?_
        rintro e w3 ⟨rfl, hb3⟩
        clear hc
        have HI0 : Hid (SgSt w1 N 0 w3) := hide ⟨Nat.zero_le _, Below.then hb02 hb3⟩
        go_wp2_with fail
        go_loopw [7] (fun i wr => ∃ k : Nat, i = .int .i64 (k : Nat) ∧ Hid (SgSt w1 N k wr)) (fun i _ => N - (intOf i).toNat)
        case atStart => exact ⟨0, rfl, HI0⟩
        case round =>
          clear HI0
          obtain ⟨k, rfl, hI⟩ := hrel
          have hc := unhide HLn wr (unhide hI).bel
          go_wp2_with fail
          refine hc.mono ?_
          rintro e w4 ⟨rfl, hb4⟩
          clear hc
          have hb04 := Below.then (unhide hI).bel hb4
          by_cases hlt : k < N ∧ k < 60
          · have n2 : (k : Int) < (N : Int) := by omega
            have n3 : (k : Int) < 60 := by omega
            obtain ⟨x, hx⟩ : ∃ x, ns[k]? = some x := ⟨ns[k]'(by rw [← unhide HN]; exact hlt.1), List.getElem?_eq_getElem _⟩
            have hc := unhide HKd (k : Int) w4 hb04
            rw [nodeD_at hx] at hc
            by_cases hh : Hld x
            · obtain ⟨hes, het⟩ := elem_str (unhide HSH) (unhide HLF) (unhide HFI) hx hh
              have hcs := fun W (hb : Below w1.heap.size w1 W) => unhide HSt (k : Int) W hb
              rw [hes] at hcs
              have HCS := hide hcs
              have hck := fun W (hb : Below w1.heap.size w1 W) => unhide HKi (k : Int) W hb
              have hpz : (tx ((kidsD ns (k : Nat)).flatMap (kidS ns))).length ≤ 314572800000 := by
                rw [← het]
                have h1 := txts_len (xs := partD ns (k : Nat)) (fun y hy => unhide HTX y (part_mem hy))
                have h2 := part_len ns (k : Nat)
                have h3 : (partD ns (k : Nat)).length * 1048576 ≤ 300000 * 1048576 := Nat.mul_le_mul_right _ (by have := unhide HN; omega)
                omega
              have hkl : (kidsD ns (k : Nat)).length ≤ 300000 := by
                have h1 : (kidsD ns (k : Nat)).length ≤ ns.length := by
                  unfold kidsD
                  split
                  · exact Nat.zero_le _
                  · exact kidsGo_len ns _ _ _
                have := unhide HN
                omega
              generalize kidsD ns (k : Nat) = ks at *
              have HCK := hide hck
              have HPZ := hide hpz
              have HX0 : Hid (T ((ks.take 0).flatMap (kidS ns)) = ⟨#[]⟩) := hide rfl
              clear hes het hcs hck hpz hx
              rcases hh with h1 | h1
              all_goals
                rw [h1] at hc
                clear h1
                go_wp2_with fail
                refine hc.mono ?_
                rintro e w5 ⟨rfl, hb5⟩
                clear hc
                have hb05 := Below.then hb04 hb5
                have hc := unhide HCK w5 hb05
                go_wp2_with fail
                refine hc.mono ?_
                rintro e w6 ⟨⟨u, rfl, hu⟩, hb6⟩
                clear hc
                have hb06 := Below.then hb05 hb6
                have HU := hide hu
                obtain ⟨au, cu, rfl⟩ := owns_slice hu
                clear hu
                have HI6 : Hid (SgSt w6 ks.length 0 w6) := hide ⟨Nat.zero_le _, Below.refl _ _⟩
                go_wp2_with fail
                rw [← unhide HX0]
                go_loopw [9, 11] (fun a i wr => ∃ j : Nat, a = .string (T ((ks.take j).flatMap (kidS ns))) ∧ i = .int .i64 (j : Nat) ∧ Hid (SgSt w6 ks.length j wr)) (fun _ i _ => ks.length - (intOf i).toNat)
                case atStart => exact ⟨0, rfl, rfl, HI6⟩
                case round =>
                  clear HI6
                  obtain ⟨j, rfl, rfl, hJ⟩ := hrel
                  have hbJ := (unhide hJ).bel
                  have hb07 := Below.then hb06 hbJ
                  by_cases hjl : j < ks.length
                  · have n4 : (j : Int) < (ks.length : Int) := by omega
                    have n5 : (0 : Int) ≤ (j : Int) := by omega
                    obtain ⟨d, hd⟩ : ∃ d, ks[j]? = some d := ⟨ks[j], List.getElem?_eq_getElem hjl⟩
                    obtain ⟨g, cap, e0, hcs⟩ := int_cells (unhide HU) (by omega)
                    cases e0
                    have HCE := hide (hcs j d hd)
                    have c0 := keptC hbJ (unhide HCE)
                    have HFS := hide (flat_snoc (kidS ns) hd)
                    have hsz : (T ((ks.take j).flatMap (kidS ns))).size + (T (kidS ns d)).size ≤ 314572800000 := by
                      have h1 := flat_take_len (kidS ns) (l := ks) (j + 1)
                      rw [unhide HFS, tx_append, List.length_append] at h1
                      have h2 := unhide HPZ
                      rw [T_size, T_size]
                      omega
                    have hc := unhide HKd (d : Int) wr hb07
                    by_cases hks : (nodeD ns (d : Nat)).kind = 4 ∨ (nodeD ns (d : Nat)).kind = 2
                    · have hkd : kidS ns d = strD ns (d : Nat) := by unfold kidS; rw [if_pos hks]
                      have hct := fun W (hb : Below w1.heap.size w1 W) => unhide HSt (d : Int) W hb
                      rw [← hkd] at hct
                      have HCT := hide hct
                      have HTK : Hid (T ((ks.take (j + 1)).flatMap (kidS ns)) = T ((ks.take j).flatMap (kidS ns)) ++ T (kidS ns d)) := hide (by rw [unhide HFS, T_app])
                      have z1 : ¬ 9223372036854775807 < (T ((ks.take j).flatMap (kidS ns))).size + (T (kidS ns d)).size := by omega
                      clear hkd hct hsz hd hcs
                      generalize hA : T ((ks.take j).flatMap (kidS ns)) = A at *
                      generalize hB : T (kidS ns d) = B' at *
                      clear hA hB
                      rcases hks with hks | hks
                      all_goals
                        rw [hks] at hc
                        clear hks
                        go_wp2_with fail
                        refine hc.mono ?_
                        rintro e w8 ⟨rfl, hb8⟩
                        clear hc c0
                        have hbJ8 := Below.then hbJ hb8
                        have hb08 := Below.then hb07 hb8
                        have c0 := keptC hbJ8 (unhide HCE)
                        have hc := unhide HCT w8 hb08
                        go_wp2_with fail
                        refine hc.mono ?_
                        rintro e w9 ⟨rfl, hb9⟩
                        clear hc
                        have HI2 : Hid (SgSt w6 ks.length (j + 1) w9) := hide ⟨hjl, Below.then hbJ8 hb9⟩
                        go_wp2_with fail
                        go_round
                        case measure => simp [intOf]; omega
                        case rel => exact ⟨j + 1, by rw [unhide HTK], by simp, HI2⟩
                    · have e4 : (((nodeD ns (d : Nat)).kind : Int) == 4) = false := by simpa using (by omega : ¬ ((nodeD ns (d : Nat)).kind : Int) = 4)
                      have e2 : (((nodeD ns (d : Nat)).kind : Int) == 2) = false := by simpa using (by omega : ¬ ((nodeD ns (d : Nat)).kind : Int) = 2)
                      have HTK : Hid (T ((ks.take (j + 1)).flatMap (kidS ns)) = T ((ks.take j).flatMap (kidS ns))) := hide (by
                        rw [unhide HFS]
                        unfold kidS
                        rw [if_neg hks, List.append_nil])
                      clear hks hsz hd hcs
                      generalize hA : T ((ks.take j).flatMap (kidS ns)) = A at *
                      clear hA
                      generalize (nodeD ns (d : Nat)).kind = kd at *
                      go_wp2_with fail
                      refine hc.mono ?_
                      rintro e w8 ⟨rfl, hb8⟩
                      clear hc c0
                      have HI2 : Hid (SgSt w6 ks.length (j + 1) w8) := hide ⟨hjl, Below.then hbJ hb8⟩
                      go_wp2_with fail
                      go_round
                      case measure => simp [intOf]; omega
                      case rel => exact ⟨j + 1, by rw [unhide HTK], by simp, HI2⟩
                  · have n4 : ¬ (j : Int) < (ks.length : Int) := by omega
                    have hall : ks.take j = ks := List.take_of_length_le (by omega)
                    rw [hall]
                    have hc := unhide HCS wr hb07
                    clear hall hjl hJ
                    generalize hA : T (ks.flatMap (kidS ns)) = A at *
                    clear hA
                    go_wp2_with fail
                    refine hc.mono ?_
                    rintro e w8 ⟨rfl, hb8⟩
                    clear hc
                    have HI2 : Hid (SgSt w1 N (k + 1) w8) := hide ⟨hlt.1, Below.then hb07 hb8⟩
                    go_wp2_with fail
                    go_round
                    case measure => simp [intOf]; omega
                    case rel => exact ⟨k + 1, by simp, HI2⟩
            · have e1 : ((x.kind : Int) != 1) = true := by simpa using (by unfold Hld at hh; omega : ¬ (x.kind : Int) = 1)
              have e2 : ((x.kind : Int) != 2) = true := by simpa using (by unfold Hld at hh; omega : ¬ (x.kind : Int) = 2)
              clear hh hx
              go_wp2_with fail
              refine hc.mono ?_
              rintro e w5 ⟨rfl, hb5⟩
              clear hc
              have HI2 : Hid (SgSt w1 N (k + 1) w5) := hide ⟨hlt.1, Below.then hb04 hb5⟩
              go_wp2_with fail
              go_round
              case measure => simp [intOf]; omega
              case rel => exact ⟨k + 1, by simp, HI2⟩
          · have hc := unhide HLV w4 hb04
            by_cases hk1 : k < N
            · have n2 : (k : Int) < (N : Int) := by omega
              have n3 : ¬ (k : Int) < 60 := by omega
              go_wp2_with fail
              refine hc.mono ?_
              rintro e w5 ⟨rfl, hb5⟩
              go_wp2
              go_returns
              exact ⟨rfl, Below.then hb1 (Below.then hb04 hb5)⟩
            · have n2 : ¬ (k : Int) < (N : Int) := by omega
              go_wp2_with fail
              refine hc.mono ?_
              rintro e w5 ⟨rfl, hb5⟩
              go_wp2
              go_returns
              exact ⟨rfl, Below.then hb1 (Below.then hb04 hb5)⟩
end Go.Proofs.YtjjggncbhenffaaGreatDoor
/- From what a row lists of the library's tables, and from the world's shape, to what the walks of layer 3 ask. -/
namespace Go.Proofs.YtjjggncbhenffaaGreatDoor
open Go.ChangeShapes Go.WideShapes Go.ChangeAt Go.RowKit
theorem u8extra : U8Extra Tryz.prog Tryz.lays260_ren where
  n3 := by kernel_rfl
  n4 := by kernel_rfl
  y3 := by kernel_rfl
  y4 := by kernel_rfl
  c5 := by kernel_rfl
  c119 := by kernel_rfl
  c138 := by kernel_rfl
theorem first_data : Rows.laid_unicode_utf8_first = Lib.firstData := by kernel_rfl
theorem accept_data : Rows.laid_unicode_utf8_acceptRanges = Lib.acceptData := by kernel_rfl
def foldTab : List Int := [0, 1, 2, 3, 4, 5, 6, 7, 8, 9, 10, 11, 12, 13, 14, 15, 16, 17, 18, 19, 20, 21, 22, 23, 24, 25, 26, 27, 28, 29, 30, 31, 32, 33, 34, 35, 36, 37, 38, 39, 40, 41, 42, 43, 44, 45, 46, 47, 48, 49, 50, 51, 52, 53, 54, 55, 56, 57, 58, 59, 60, 61, 62, 63, 64, 97, 98, 99, 100, 101, 102, 103, 104, 105, 106, 107, 108, 109, 110, 111, 112, 113, 114, 115, 116, 117, 118, 119, 120, 121, 122, 91, 92, 93, 94, 95, 96, 65, 66, 67, 68, 69, 70, 71, 72, 73, 74, 8490, 76, 77, 78, 79, 80, 81, 82, 383, 84, 85, 86, 87, 88, 89, 90, 123, 124, 125, 126, 127]
theorem fold_data : (Rows.laid_unicode_asciiFold : DataW Unit) = Lib.tabData .u16 foldTab := by kernel_rfl
theorem xTab_of {P : Program} {W : World} {name : String} {k : IntKind} {zs : List Int} {g : Nat} {t e : TypeId} {n : Nat} (hg : P.globalNamed name = some g) (hty : (P.globals[g]?).map (·.type) = some t) (ht : P.underlying t = some (.array n e)) (he : P.underlying e = some (.int k)) (hce : P.cellsOf e = 1) (hct : P.cellsOf t = n) (h : Lib.VarReads P W name (Lib.tabData k zs)) (j : Nat) : W.cell? ⟨g, j, none⟩ = (zs.map fun z => Value.int k z)[j]? := by
  obtain ⟨g', t', cs, fuel, p, hg', ht', hvar, hd⟩ := h
  obtain rfl := Option.some.inj (hg.symm.trans hg')
  obtain rfl := Option.some.inj (hty.symm.trans ht')
  rw [World.var?_cell hg hvar j, ← Lib.cells_of_tab ht he hce hct hd]
  simp
theorem env_of {W : World} (hM : laidMet Tryz.prog [("unicode/utf8.acceptRanges", Rows.laid_unicode_utf8_acceptRanges), ("unicode.asciiFold", Rows.laid_unicode_asciiFold), ("unicode.caseOrbit", Rows.laid_unicode_caseOrbit), ("unicode.CaseRanges", Rows.laid_unicode_CaseRanges), ("unicode/utf8.first", Rows.laid_unicode_utf8_first)] W) (hs : W.ShapedOpen Tryz.prog) : XEnv W.heap.size W := by
  have h3 := Lib.laidMet.reads hM (n := "unicode/utf8.first") (d := Rows.laid_unicode_utf8_first) (by simp)
  have h4 := Lib.laidMet.reads hM (n := "unicode/utf8.acceptRanges") (d := Rows.laid_unicode_utf8_acceptRanges) (by simp)
  have h5 := Lib.laidMet.reads hM (n := "unicode.asciiFold") (d := Rows.laid_unicode_asciiFold) (by simp)
  rw [first_data] at h3
  rw [accept_data] at h4
  rw [fold_data] at h5
  have ht := utf8Tabs_of_reads Tryz.lays260 u8extra h3 h4
  have hf := xTab_of (g := 2) (t := 234) (e := 233) (n := 128) (by kernel_rfl) (by kernel_rfl) (by kernel_rfl) Tryz.underlying233 (by kernel_rfl) (by kernel_rfl) h5
  obtain ⟨m, hm⟩ : ∃ m, W.cell? ⟨5, 0, none⟩ = some (.int .i64 m) := cell_of_shapedOpen_int (zero := #[.int .i64 0]) (t := 3) hs (of_decide_eq_true (by kernel_rfl)) (by kernel_rfl) rfl (by kernel_rfl) (by kernel_rfl) Tryz.underlying3
  have fx : W.cell? ⟨2, 120, none⟩ = some (.int .u16 88) := (hf 120).trans rfl
  refine ⟨⟨⟨m, hm⟩, ht⟩, fx, (hf 109).trans rfl, (hf 108).trans rfl, (hf 88).trans rfl, (hf 77).trans rfl, (hf 76).trans rfl, block_lt_of_cell hm, ?_, ?_, block_lt_of_cell fx⟩
  · exact block_lt_of_cell (ht.1 0 (by decide))
  · exact block_lt_of_cell (ht.2 0 (by decide)).1
theorem own : ownKnob Tryz.prog.godebug = none := by kernel_rfl
end Go.Proofs.YtjjggncbhenffaaGreatDoor
