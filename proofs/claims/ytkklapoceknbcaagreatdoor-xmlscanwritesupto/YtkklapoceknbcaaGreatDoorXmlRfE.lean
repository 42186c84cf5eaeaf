/- Tokens as a text: the reference's Write. -/
import Derived.Test.YtkklapoceknbcaaGreatDoorXmlRfD
import Derived.Test.YtkklapoceknbcaaGreatDoorXmlWrX
import Derived.Test.YtkklapoceknbcaaGreatDoorXmlRefEsc
namespace Go.Proofs.YtkklapoceknbcaaGreatDoor
open Go.RowKit
theorem writeB_mono (ts : List BTok) (k : Nat) : (writeB (ts.take k)).length ≤ (writeB ts).length := by
  conv => rhs; rw [← List.take_append_drop k ts]
  unfold writeB
  rw [List.flatMap_append, List.length_append]
  omega
theorem doc_okB : ∀ (ts : List BTok) (o : List ByteArray) (r : Bool) (last : Int), docB o r last ts = true → ∀ t ∈ ts, okB t = true
  | [], _, _, _, _ => fun _ h => by cases h
  | t :: ts, o, r, last, h => by
    rw [docB_cons] at h
    simp only [Bool.and_eq_true] at h
    intro u hu
    rcases List.mem_cons.1 hu with rfl | hu
    · exact h.1
    · have h2 := h.2
      split at h2
      · cases h2
      · exact doc_okB ts _ _ _ h2 u hu
structure WsSt (w : World) (ts : List BTok) (k : Nat) (O : ByteArray) (w' : World) : Prop where
  le : k ≤ ts.length
  bel : Below w.heap.size w w'
  dat : O.data.toList = writeB (ts.take k)
  sz : O.size ≤ 32768
set_option maxRecDepth 100000 in
set_option maxHeartbeats 8000000 in
theorem refWrite_any (ts : List BTok) (a : Option Addr) (cap : Nat) (w : World) (hv : ToksArg w a ts) (hn : ts.length ≤ 1048576) (hs : ∀ t ∈ ts, Small t) (B : Nat) (hB : B ≤ w.heap.size) (hE : XEnv B w) :
    Calls Tryz.prog 9 #[.slice a ts.length cap] w fun e w' => e = .returned (.tuple #[.string (writeR ts).1, .int .i64 ((writeR ts).2 : Nat)]) ∧ Below w.heap.size w w' := by
  have HV := hide hv
  have HS := hide hs
  have HRi := hide (right_any ts a cap w hv hn hs B hB hE)
  clear hv hs hE
  go_enter Tryz.func9, Tryz.ntmps9
  go_wp2_with fail
  refine (unhide HRi).mono ?_
  rintro e w1 ⟨rfl, hb1⟩
  clear HRi
  cases hd : docB [] false 0 ts
  · have hr : rightR ts = 5 := by unfold rightR; rw [if_pos hd]
    have HR : Hid (writeR ts = (⟨#[]⟩, 5)) := hide (by unfold writeR; rw [if_pos hd])
    rw [hr]
    clear hd hr
    go_wp2
    go_ret2
    rw [unhide HR]
    exact ⟨rfl, hb1⟩
  · cases hp : pastB ts
    · have hr : rightR ts = 0 := by unfold rightR; rw [if_neg (by rw [hd]; decide), if_neg (by rw [hp]; decide)]
      have HDT := hide hd
      have HPT := hide hp
      have HOK := hide (doc_okB ts [] false 0 hd)
      have HL : Hid (∀ t ∈ ts, t.attrs.length ≤ 64) := hide fun t ht => by
        unfold pastB at hp
        simp only [Bool.or_eq_false_iff, decide_eq_false_iff_not, List.any_eq_false, decide_eq_true_eq] at hp
        have := hp.2.2 t ht
        omega
      rw [hr]
      clear hd hp hr
      have HI0 : Hid (WsSt w ts 0 ⟨#[]⟩ w1) := hide ⟨Nat.zero_le _, hb1, rfl, Nat.zero_le _⟩
      go_wp2_with fail
      go_loopw [5, 6] (fun s5 i wr => ∃ (k : Nat) (O : ByteArray), i = .int .i64 (k : Nat) ∧ s5 = .string O ∧ WsSt w ts k O wr) (fun _ i _ => ts.length - (intOf i).toNat)
      case atStart => exact ⟨0, ⟨#[]⟩, rfl, rfl, unhide HI0⟩
      case round =>
        clear HI0
        obtain ⟨k, O, rfl, rfl, hI⟩ := hrel
        have hk := hI.le
        have hbr := hI.bel
        have hO := hI.sz
        have HOd := hide hI.dat
        clear hI
        by_cases hlt : k < ts.length
        · obtain ⟨t, ht⟩ : ∃ t, ts[k]? = some t := ⟨ts[k], List.getElem?_eq_getElem hlt⟩
          have hts := unhide HS t (List.mem_of_getElem? ht)
          have htl := unhide HL t (List.mem_of_getElem? ht)
          have hkk := ok_kinds (unhide HOK t (List.mem_of_getElem? ht))
          have HTK := hide (writeB_take ht)
          obtain ⟨g, oo, ha, hc⟩ := ((unhide HV).below hbr) (by intro h0; rw [h0] at hlt; cases hlt)
          subst ha
          obtain ⟨c0, c1, ⟨v, c2, hpv⟩, c3⟩ := hc k t ht
          obtain ⟨va, vc, hve, _⟩ := id hpv
          subst hve
          have n1 : (0 : Int) ≤ (k : Int) := by omega
          have n2 : (k : Int) < (ts.length : Int) := by omega
          obtain ⟨kd, nm, ats, tx'⟩ := t
          have hnm := hts.n
          have htx := hts.x
          have HTA := hide hts.a
          simp only at *
          have hbx : Below wr.heap.size wr (wr.alloc (.cells #[.int .i64 kd, .string nm, .slice va ats.length vc, .string tx'] 37 (0, 0))) := (Below.refl _ _).alloc (Nat.le_refl _) _
          have hbA := Below.then hbr hbx
          have HPV := hide (hpv.below hbx)
          clear hc ht hpv hts
          rcases hkk with rfl | rfl | rfl | rfl | rfl
          · obtain ⟨L, hL⟩ : ∃ L : ByteArray, L = O ++ ((⟨#[60]⟩ : ByteArray) ++ nm) := ⟨_, rfl⟩
            have hLs : L.size ≤ 1200000 := by rw [hL, ByteArray.size_append, ByteArray.size_append]; show O.size + (1 + nm.size) ≤ _; omega
            have HLd : Hid (L.data.toList = writeB (ts.take k) ++ 60 :: nm.data.toList) := hide (by rw [hL, ← unhide HOd]; simp [ByteArray.data_append])
            have HLn : Hid (∀ j, ((ats.take j).flatMap attrB).length ≤ 469762304) := hide fun j => by
              have h1 := attrsB_len (a := ats.take j) (fun y hy => unhide HTA y (List.mem_of_mem_take hy))
              have h2 : (ats.take j).length ≤ 64 := by rw [List.length_take]; omega
              have h3 : (ats.take j).length * 7340036 ≤ 469762304 := by omega
              omega
            have HBX : Hid ((wr.alloc (.cells #[.int .i64 2, .string nm, .slice va ats.length vc, .string tx'] 37 (0, 0))).cell? ⟨wr.heap.size, 2, none⟩ = some (.slice va ats.length vc)) := hide (blk_cell (alloc_blk0 _ _) 2)
            go_wp2_with fail
            rw [← hL]
            generalize hW1 : wr.alloc (.cells #[.int .i64 2, .string nm, .slice va ats.length vc, .string tx'] 37 (0, 0)) = W1 at *
            clear hW1 hL hbx c0 c1 c2 c3
            generalize wr.heap.size = bx at *
            go_loopw [5, 8] (fun s5 i wx => ∃ (j : Nat) (P : ByteArray), i = .int .i64 (j : Nat) ∧ s5 = .string P ∧ j ≤ ats.length ∧ P.data.toList = L.data.toList ++ (ats.take j).flatMap attrB ∧ Below W1.heap.size W1 wx) (fun _ i _ => ats.length - (intOf i).toNat)
            case atStart => exact ⟨0, L, rfl, rfl, Nat.zero_le _, by simp, Below.refl _ _⟩
            case round =>
              obtain ⟨j, P, rfl, rfl, hj, hP, hbx2⟩ := hrel
              have hPs : P.size ≤ 480000000 := by
                have h1 := congrArg List.length hP
                rw [List.length_append, sizeB, sizeB] at h1
                have h2 := unhide HLn j
                omega
              have HP := hide hP
              clear hP
              have d2 := keptC hbx2 (unhide HBX)
              have hbw := Below.then hbA hbx2
              by_cases hjl : j < ats.length
              · obtain ⟨y, hy⟩ : ∃ y, ats[j]? = some y := ⟨ats[j], List.getElem?_eq_getElem hjl⟩
                obtain ⟨hy1, hy2⟩ := unhide HTA y (List.mem_of_getElem? hy)
                obtain ⟨q1, q2, hq, hcells⟩ := (unhide HPV).below hbx2
                obtain ⟨g3, o3, ha3, hc3⟩ := hcells (by intro h0; rw [h0] at hjl; cases hjl)
                cases hq
                subst ha3
                obtain ⟨x0, x1⟩ := hc3 j y hy
                have m1 : (0 : Int) ≤ (j : Int) := by omega
                have m2 : (j : Int) < (ats.length : Int) := by omega
                have hqm := mapO_len quo_few y.2.data.toList
                rw [sizeB] at hqm
                obtain ⟨E, hE⟩ : ∃ E : ByteArray, E = ⟨(mapO quoO y.2.data.toList).toArray⟩ := ⟨_, rfl⟩
                have hEs : E.size ≤ 6291456 := by rw [hE]; show (mapO quoO y.2.data.toList).length ≤ _; omega
                have HEq : Hid (∀ W, Calls Tryz.prog 20 #[.string y.2] W fun e w' => e = .returned (.string E) ∧ w' = W) := hide (fun W => by rw [hE]; exact refQuote_any y.2 W hy2)
                have HP2 : Hid ((P ++ ((⟨#[32]⟩ : ByteArray) ++ y.1 ++ (⟨#[61, 34]⟩ : ByteArray) ++ E ++ (⟨#[34]⟩ : ByteArray))).data.toList = L.data.toList ++ (ats.take (j + 1)).flatMap attrB) := hide (by
                  rw [List.take_succ_eq_append_getElem hjl, List.flatMap_append, (List.getElem?_eq_some_iff.1 hy).2, ← List.append_assoc, ← unhide HP, hE]
                  simp [attrB, ByteArray.data_append])
                have f1 : (9223372036854775807 < 1 + y.1.size) = False := eq_false (by omega)
                have f2 : (9223372036854775807 < 1 + y.1.size + 2) = False := eq_false (by omega)
                have f3 : (9223372036854775807 < 1 + y.1.size + 2 + E.size) = False := eq_false (by omega)
                have f4 : (9223372036854775807 < 1 + y.1.size + 2 + E.size + 1) = False := eq_false (by omega)
                have f5 : (9223372036854775807 < P.size + (1 + y.1.size + 2 + E.size + 1)) = False := eq_false (by omega)
                have HCE : Hid (∀ w', ClsW wr w' → w'.cell? ⟨bx, 2, none⟩ = some (.slice (some ⟨g3, o3, none⟩) ats.length vc) ∧ w'.cell? ⟨g3, o3 + j * 2, none⟩ = some (.string y.1) ∧ w'.cell? ⟨g3, o3 + j * 2 + 1, none⟩ = some (.string y.2)) := hide fun w' h => ⟨keptC h.bel d2, keptC h.bel x0, keptC h.bel x1⟩
                have HX : Hid (ClsW wr wr.drew) := hide ⟨(Below.refl _ _).drew⟩
                clear hc3 hcells hy hE hqm x0 x1
                go_wp2_with fail
                refine wp_region_cls (ClsW wr) (by kernel_rfl) (by kernel_rfl) (unhide HX) ?_
                repeat
                  (first
                    | go_big_quiet_skip
                    | (go_big_quiet_want
                       go_big_quiet_op
                       first
                         | go_big_quiet_on
                         | (apply Exists.intro
                            refine ⟨fun w' hC => ?_, ?_⟩
                            · (first
                                | (go_at_call 20; refine (unhide HEq _).mono ?_; rintro e w3 ⟨rfl, rfl⟩; exact ⟨rfl, hC⟩)
                                | (obtain ⟨k0, k1, k2⟩ := unhide HCE _ hC; go_simp; first | done | rfl))
                            go_big_quiet_on)))
                refine wpQuiet_nil ?_
                intro w4 hC4
                have hb4 := hC4.bel
                clear HCE hC4 d2
                go_wp2_with fail
                go_round
                case measure => simp [intOf]; omega
                case rel => exact ⟨j + 1, _, by simp, rfl, by omega, unhide HP2, Below.then hbx2 hb4⟩
              · have m2 : ¬ (j : Int) < (ats.length : Int) := by omega
                have hjl2 : j = ats.length := by omega
                have HDX : Hid ((P ++ (⟨#[62]⟩ : ByteArray)).data.toList = writeB (ts.take (k + 1))) := hide (by
                  have h1 := unhide HP
                  rw [hjl2, List.take_length, unhide HLd] at h1
                  rw [unhide HTK, ByteArray.data_append, Array.toList_append, h1]
                  simp [tokB])
                have HSZ : Hid ((P ++ (⟨#[62]⟩ : ByteArray)).size = P.size + 1) := hide (by rw [ByteArray.size_append]; rfl)
                by_cases hbig : 32768 < P.size + 1
                · have HR : Hid (writeR ts = (⟨#[]⟩, 6)) := hide (by
                    unfold writeR
                    rw [if_neg (by rw [unhide HDT]; decide), if_neg (by rw [unhide HPT]; decide), if_pos]
                    have h1 := writeB_mono ts (k + 1)
                    rw [← unhide HDX, sizeB, unhide HSZ] at h1
                    omega)
                  have hbig' : (32768 : Int) < (P.size : Int) + 1 := by omega
                  clear HDX HSZ hbig
                  go_wp2
                  go_ret2
                  rw [unhide HR]
                  exact ⟨rfl, hbw⟩
                · have hbig' : ¬ (32768 : Int) < (P.size : Int) + 1 := by omega
                  have HI2 : Hid (WsSt w ts (k + 1) (P ++ (⟨#[62]⟩ : ByteArray)) wr) := hide ⟨hlt, hbw, unhide HDX, by rw [unhide HSZ]; omega⟩
                  clear HDX HSZ hbig
                  go_wp2_with fail
                  go_round
                  case measure => simp [intOf]; omega
                  case rel => exact ⟨k + 1, _, by simp, rfl, unhide HI2⟩
          · have HSZ : Hid ((O ++ ((⟨#[60, 47]⟩ : ByteArray) ++ nm ++ (⟨#[62]⟩ : ByteArray))).size = O.size + (2 + nm.size + 1)) := hide (by rw [ByteArray.size_append, ByteArray.size_append, ByteArray.size_append]; first | rfl | omega)
            have HDX : Hid ((O ++ ((⟨#[60, 47]⟩ : ByteArray) ++ nm ++ (⟨#[62]⟩ : ByteArray))).data.toList = writeB (ts.take (k + 1))) := hide (by rw [unhide HTK, ← unhide HOd]; simp [tokB, ByteArray.data_append])
            by_cases hbig : 32768 < O.size + (2 + nm.size + 1)
            · have HR : Hid (writeR ts = (⟨#[]⟩, 6)) := hide (by
                unfold writeR
                rw [if_neg (by rw [unhide HDT]; decide), if_neg (by rw [unhide HPT]; decide), if_pos]
                have h1 := writeB_mono ts (k + 1)
                rw [← unhide HDX, sizeB, unhide HSZ] at h1
                omega)
              have hbig' : (32768 : Int) < (O.size : Int) + (2 + (nm.size : Int) + 1) := by omega
              clear HDX HSZ hbig
              go_wp2
              go_ret2
              rw [unhide HR]
              exact ⟨rfl, hbA⟩
            · have hbig' : ¬ (32768 : Int) < (O.size : Int) + (2 + (nm.size : Int) + 1) := by omega
              have HI2 : Hid (WsSt w ts (k + 1) (O ++ ((⟨#[60, 47]⟩ : ByteArray) ++ nm ++ (⟨#[62]⟩ : ByteArray))) (wr.alloc (.cells #[.int .i64 7, .string nm, .slice va ats.length vc, .string tx'] 37 (0, 0)))) := hide ⟨hlt, hbA, unhide HDX, by rw [unhide HSZ]; omega⟩
              clear HDX HSZ hbig
              go_wp2_with fail
              go_round
              case measure => simp [intOf]; omega
              case rel => exact ⟨k + 1, (O ++ ((⟨#[60, 47]⟩ : ByteArray) ++ nm ++ (⟨#[62]⟩ : ByteArray))), by simp, rfl, unhide HI2⟩
          · have hq := mapO_len esc_few tx'.data.toList
            rw [sizeB] at hq
            obtain ⟨E, hE⟩ : ∃ E : ByteArray, E = ⟨(mapO escO tx'.data.toList).toArray⟩ := ⟨_, rfl⟩
            have hEs : E.size ≤ 6291456 := by rw [hE]; show (mapO escO tx'.data.toList).length ≤ _; omega
            have HEd : Hid (E.data.toList = mapO escO tx'.data.toList) := hide (by rw [hE])
            have HEc : Hid (∀ W, Calls Tryz.prog 21 #[.string tx'] W fun e w' => e = .returned (.string E) ∧ w' = W) := hide (fun W => by rw [hE]; exact refEscape_any tx' W htx)
            clear hE hq
            have HSZ : Hid ((O ++ E).size = O.size + E.size) := hide (by rw [ByteArray.size_append])
            have HDX : Hid ((O ++ E).data.toList = writeB (ts.take (k + 1))) := hide (by rw [unhide HTK, ← unhide HOd]; rw [ByteArray.data_append, Array.toList_append, unhide HEd]; simp [tokB])
            by_cases hbig : 32768 < O.size + E.size
            · have HR : Hid (writeR ts = (⟨#[]⟩, 6)) := hide (by
                unfold writeR
                rw [if_neg (by rw [unhide HDT]; decide), if_neg (by rw [unhide HPT]; decide), if_pos]
                have h1 := writeB_mono ts (k + 1)
                rw [← unhide HDX, sizeB, unhide HSZ] at h1
                omega)
              have hbig' : (32768 : Int) < (O.size : Int) + (E.size : Int) := by omega
              clear HDX HSZ hbig
              go_wp2_with fail
              refine (unhide HEc _).mono ?_
              rintro e w2 ⟨rfl, rfl⟩
              go_wp2
              go_ret2
              rw [unhide HR]
              exact ⟨rfl, hbA⟩
            · have hbig' : ¬ (32768 : Int) < (O.size : Int) + (E.size : Int) := by omega
              have HI2 : Hid (WsSt w ts (k + 1) (O ++ E) (wr.alloc (.cells #[.int .i64 4, .string nm, .slice va ats.length vc, .string tx'] 37 (0, 0)))) := hide ⟨hlt, hbA, unhide HDX, by rw [unhide HSZ]; omega⟩
              clear HDX HSZ hbig
              go_wp2_with fail
              refine (unhide HEc _).mono ?_
              rintro e w2 ⟨rfl, rfl⟩
              go_wp2_with fail
              go_round
              case measure => simp [intOf]; omega
              case rel => exact ⟨k + 1, (O ++ E), by simp, rfl, unhide HI2⟩
          · have HSZ : Hid ((O ++ ((⟨#[60, 33, 45, 45]⟩ : ByteArray) ++ tx' ++ (⟨#[45, 45, 62]⟩ : ByteArray))).size = O.size + (4 + tx'.size + 3)) := hide (by rw [ByteArray.size_append, ByteArray.size_append, ByteArray.size_append]; first | rfl | omega)
            have HDX : Hid ((O ++ ((⟨#[60, 33, 45, 45]⟩ : ByteArray) ++ tx' ++ (⟨#[45, 45, 62]⟩ : ByteArray))).data.toList = writeB (ts.take (k + 1))) := hide (by rw [unhide HTK, ← unhide HOd]; simp [tokB, ByteArray.data_append])
            by_cases hbig : 32768 < O.size + (4 + tx'.size + 3)
            · have HR : Hid (writeR ts = (⟨#[]⟩, 6)) := hide (by
                unfold writeR
                rw [if_neg (by rw [unhide HDT]; decide), if_neg (by rw [unhide HPT]; decide), if_pos]
                have h1 := writeB_mono ts (k + 1)
                rw [← unhide HDX, sizeB, unhide HSZ] at h1
                omega)
              have hbig' : (32768 : Int) < (O.size : Int) + (4 + (tx'.size : Int) + 3) := by omega
              clear HDX HSZ hbig
              go_wp2
              go_ret2
              rw [unhide HR]
              exact ⟨rfl, hbA⟩
            · have hbig' : ¬ (32768 : Int) < (O.size : Int) + (4 + (tx'.size : Int) + 3) := by omega
              have HI2 : Hid (WsSt w ts (k + 1) (O ++ ((⟨#[60, 33, 45, 45]⟩ : ByteArray) ++ tx' ++ (⟨#[45, 45, 62]⟩ : ByteArray))) (wr.alloc (.cells #[.int .i64 5, .string nm, .slice va ats.length vc, .string tx'] 37 (0, 0)))) := hide ⟨hlt, hbA, unhide HDX, by rw [unhide HSZ]; omega⟩
              clear HDX HSZ hbig
              go_wp2_with fail
              go_round
              case measure => simp [intOf]; omega
              case rel => exact ⟨k + 1, (O ++ ((⟨#[60, 33, 45, 45]⟩ : ByteArray) ++ tx' ++ (⟨#[45, 45, 62]⟩ : ByteArray))), by simp, rfl, unhide HI2⟩
          · cases hx0 : tx'.toList.isEmpty
            · have HSZ : Hid ((O ++ ((⟨#[60, 63]⟩ : ByteArray) ++ nm) ++ ((⟨#[32]⟩ : ByteArray) ++ tx') ++ (⟨#[63, 62]⟩ : ByteArray)).size = O.size + (2 + nm.size) + (1 + tx'.size) + 2) := hide (by rw [ByteArray.size_append, ByteArray.size_append, ByteArray.size_append, ByteArray.size_append, ByteArray.size_append]; first | rfl | omega)
              have HDX : Hid ((O ++ ((⟨#[60, 63]⟩ : ByteArray) ++ nm) ++ ((⟨#[32]⟩ : ByteArray) ++ tx') ++ (⟨#[63, 62]⟩ : ByteArray)).data.toList = writeB (ts.take (k + 1))) := hide (by rw [unhide HTK, ← unhide HOd]; simp [tokB, ByteArray.data_append, hx0])
              by_cases hbig : 32768 < O.size + (2 + nm.size) + (1 + tx'.size) + 2
              · have HR : Hid (writeR ts = (⟨#[]⟩, 6)) := hide (by
                  unfold writeR
                  rw [if_neg (by rw [unhide HDT]; decide), if_neg (by rw [unhide HPT]; decide), if_pos]
                  have h1 := writeB_mono ts (k + 1)
                  rw [← unhide HDX, sizeB, unhide HSZ] at h1
                  omega)
                have hbig' : (32768 : Int) < (O.size : Int) + (2 + (nm.size : Int)) + (1 + (tx'.size : Int)) + 2 := by omega
                clear HDX HSZ hbig
                go_wp2
                go_ret2
                rw [unhide HR]
                exact ⟨rfl, hbA⟩
              · have hbig' : ¬ (32768 : Int) < (O.size : Int) + (2 + (nm.size : Int)) + (1 + (tx'.size : Int)) + 2 := by omega
                have HI2 : Hid (WsSt w ts (k + 1) (O ++ ((⟨#[60, 63]⟩ : ByteArray) ++ nm) ++ ((⟨#[32]⟩ : ByteArray) ++ tx') ++ (⟨#[63, 62]⟩ : ByteArray)) (wr.alloc (.cells #[.int .i64 6, .string nm, .slice va ats.length vc, .string tx'] 37 (0, 0)))) := hide ⟨hlt, hbA, unhide HDX, by rw [unhide HSZ]; omega⟩
                clear HDX HSZ hbig
                go_wp2_with fail
                go_round
                case measure => simp [intOf]; omega
                case rel => exact ⟨k + 1, (O ++ ((⟨#[60, 63]⟩ : ByteArray) ++ nm) ++ ((⟨#[32]⟩ : ByteArray) ++ tx') ++ (⟨#[63, 62]⟩ : ByteArray)), by simp, rfl, unhide HI2⟩
            · have HSZ : Hid ((O ++ ((⟨#[60, 63]⟩ : ByteArray) ++ nm) ++ (⟨#[63, 62]⟩ : ByteArray)).size = O.size + (2 + nm.size) + 2) := hide (by rw [ByteArray.size_append, ByteArray.size_append, ByteArray.size_append]; first | rfl | omega)
              have HDX : Hid ((O ++ ((⟨#[60, 63]⟩ : ByteArray) ++ nm) ++ (⟨#[63, 62]⟩ : ByteArray)).data.toList = writeB (ts.take (k + 1))) := hide (by rw [unhide HTK, ← unhide HOd]; simp [tokB, ByteArray.data_append, hx0])
              by_cases hbig : 32768 < O.size + (2 + nm.size) + 2
              · have HR : Hid (writeR ts = (⟨#[]⟩, 6)) := hide (by
                  unfold writeR
                  rw [if_neg (by rw [unhide HDT]; decide), if_neg (by rw [unhide HPT]; decide), if_pos]
                  have h1 := writeB_mono ts (k + 1)
                  rw [← unhide HDX, sizeB, unhide HSZ] at h1
                  omega)
                have hbig' : (32768 : Int) < (O.size : Int) + (2 + (nm.size : Int)) + 2 := by omega
                clear HDX HSZ hbig
                go_wp2
                go_ret2
                rw [unhide HR]
                exact ⟨rfl, hbA⟩
              · have hbig' : ¬ (32768 : Int) < (O.size : Int) + (2 + (nm.size : Int)) + 2 := by omega
                have HI2 : Hid (WsSt w ts (k + 1) (O ++ ((⟨#[60, 63]⟩ : ByteArray) ++ nm) ++ (⟨#[63, 62]⟩ : ByteArray)) (wr.alloc (.cells #[.int .i64 6, .string nm, .slice va ats.length vc, .string tx'] 37 (0, 0)))) := hide ⟨hlt, hbA, unhide HDX, by rw [unhide HSZ]; omega⟩
                clear HDX HSZ hbig
                go_wp2_with fail
                go_round
                case measure => simp [intOf]; omega
                case rel => exact ⟨k + 1, (O ++ ((⟨#[60, 63]⟩ : ByteArray) ++ nm) ++ (⟨#[63, 62]⟩ : ByteArray)), by simp, rfl, unhide HI2⟩
        · have n2 : ¬ (k : Int) < (ts.length : Int) := by omega
          have hkl : k = ts.length := by omega
          have HR : Hid (writeR ts = (O, 0)) := hide (by
            have h1 := unhide HOd
            rw [hkl, List.take_length] at h1
            unfold writeR
            rw [if_neg (by rw [unhide HDT]; decide), if_neg (by rw [unhide HPT]; decide), if_neg (by rw [← h1, sizeB]; omega), ← h1, mk_data])
          go_wp2
          go_ret2
          rw [unhide HR]
          exact ⟨rfl, hbr⟩
    · have hd' := hd
      have hr : rightR ts = 6 := by unfold rightR; rw [if_neg (by rw [hd]; decide), if_pos hp]
      have HR : Hid (writeR ts = (⟨#[]⟩, 6)) := hide (by unfold writeR; rw [if_neg (by rw [hd]; decide), if_pos hp])
      rw [hr]
      clear hd hp hr hd'
      go_wp2
      go_ret2
      rw [unhide HR]
      exact ⟨rfl, hb1⟩
end Go.Proofs.YtkklapoceknbcaaGreatDoor
