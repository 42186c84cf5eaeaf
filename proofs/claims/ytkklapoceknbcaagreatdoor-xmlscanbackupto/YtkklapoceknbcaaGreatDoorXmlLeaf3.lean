/- A reader's small steps, more: xmlscan's nameAhead, name, qname, quote, quoted, equals. -/
import Derived.Test.YtkklapoceknbcaaGreatDoorXmlLeaf2
namespace Go.Proofs.YtkklapoceknbcaaGreatDoor
open Go.RowKit
set_option maxHeartbeats 1000000 in
theorem xNameAhead_any (l : List Nat) (w : World) (hl : okL l) :
    Calls Tryz.prog 35 #[.string (T l)] w fun e w' => e = .returned (.string (T (nameA l))) ∧ Below w.heap.size w w' := by
  go_enter Tryz.func35, Tryz.ntmps35
  go_wp2_with fail
  go_loopw [] (fun wr => ∃ p t : List Nat, l = p ++ t ∧ nameA p = p ∧ wr.heap[w.heap.size]? = some (.stringIter (T l) (tx p).length) ∧ Below w.heap.size w wr) (fun wr => (T l).size - wr.iterPos w.heap.size)
  case atStart => exact ⟨[], l, rfl, rfl, World.iter_heap _ _ _, (Below.refl _ _).alloc (Nat.le_refl _) _⟩
  case round =>
    obtain ⟨p, t, hpt, hp, hk, hbr⟩ := hrel
    cases t with
    | nil =>
      have hnx := fun ty => Lib.run_next_end_at (P := Tryz.prog) wr w.heap.size (T l) (tx p).length ty hk (end_at hpt)
      have HPT := hide hpt
      have HP := hide hp
      clear hpt hp hk
      go_wp2
      go_ret
      refine ⟨ret_str ?_, hbr⟩
      rw [unhide HPT, List.append_nil, unhide HP]
    | cons c t =>
      obtain ⟨hd, hlt, hc, hpos⟩ := dec_at hpt hl
      have hnx := fun ty => Lib.run_next_any_at (P := Tryz.prog) wr w.heap.size (T l) (tx p).length ty hk hlt
      rw [hd] at hnx
      simp only at hnx
      have HS := hide (tx_snoc p c)
      have HX := hide (pre_at hpt)
      have HPT := hide hpt
      have HP := hide hp
      have HK := hide hk
      have hbc := begC_eq c hc
      have hgc := goC_eq c hc
      have HB := hide hbc
      have HG := hide hgc
      have H0 : Hid ((tx p).length = 0 ↔ p = []) := hide ⟨fun h => tx_len_zero (okL_left (hpt ▸ hl)) h, fun h => by rw [h]; rfl⟩
      clear hd hpt hp hk hbc hgc
      generalize (tx p).length = n at *
      by_cases hz : n = 0
      · subst hz
        have hp0 := (unhide H0).1 rfl
        cases hb : begC c
        · have HBF := hide hb
          clear hb
          go_wp2_with (go_at_call 65; refine (begins_any _ _).mono ?_; rintro e w1 ⟨rfl, hb1⟩; rw [unhide HB, unhide HBF])
          go_ret
          refine ⟨ret_str ?_, (iter_on (unhide HK) hbr hb1).2⟩
          rw [unhide HPT, hp0, List.nil_append, nameA_no (unhide HBF)]
          rfl
        · have HBT := hide hb
          have HGT := hide (goC_of_beg hb)
          clear hb
          go_wp2_with (first | (go_at_call 65; refine (begins_any _ _).mono ?_; rintro e w1 ⟨rfl, hb1⟩; rw [unhide HB, unhide HBT]) | (go_at_call 66; refine (goesOn_any _ _).mono ?_; rintro e w2 ⟨rfl, hb2⟩; rw [unhide HG, unhide HGT]))
          obtain ⟨q1, q2⟩ := iter_on (unhide HK) hbr (Below.then hb1 hb2)
          refine ⟨⟨p ++ [c], t, by rw [unhide HPT]; simp, by rw [hp0]; exact nameA_one (unhide HBT), by rw [unhide HS, Nat.zero_add]; exact q1, q2⟩, ?_⟩
          rw [iterPos_of q1, iterPos_of (unhide HK)]; omega
      · have hz' : ((n : Int) == 0) = false := by simpa using hz
        have hp0 : p ≠ [] := fun h => hz ((unhide H0).2 h)
        cases hg : goC c
        · have HGF := hide hg
          clear hg
          go_wp2_with (go_at_call 66; refine (goesOn_any _ _).mono ?_; rintro e w2 ⟨rfl, hb2⟩; rw [unhide HG, unhide HGF])
          go_ret
          refine ⟨ret_str ?_, (iter_on (unhide HK) hbr hb2).2⟩
          rw [unhide HX, unhide HPT, nameA_run p (c :: t) (fun x hx => by cases hx; exact unhide HGF) (unhide HP) hp0]
        · have HGT := hide hg
          clear hg
          go_wp2_with (go_at_call 66; refine (goesOn_any _ _).mono ?_; rintro e w2 ⟨rfl, hb2⟩; rw [unhide HG, unhide HGT])
          obtain ⟨q1, q2⟩ := iter_on (unhide HK) hbr hb2
          refine ⟨⟨p ++ [c], t, by rw [unhide HPT]; simp, nameA_snoc (unhide HP) hp0 (unhide HGT), by rw [unhide HS]; exact q1, q2⟩, ?_⟩
          rw [iterPos_of q1, iterPos_of (unhide HK)]; omega
set_option maxHeartbeats 1000000 in
theorem name_any (p : Nat) (s : RS) (w : World) (h : AtS w p s) (hf : Fine s) :
    Calls Tryz.prog 102 #[.pointer (some ⟨p, 0, none⟩)] w fun e w' => e = .returned (.string (T (nameA s.rest))) ∧ Moves p s.name.place w w' := by
  have hok := hf.okR
  have hlt := hf.lt
  have hz := size_pre (nameA_pre s.rest)
  have HPL := hide (show s.name.place = s.place + (T (nameA s.rest)).size from place_pre s (nameA_pre s.rest))
  clear hf
  go_enter Tryz.func102, Tryz.ntmps102
  go_wp2_with fail
  refine (rest_any p s _ h).mono ?_
  rintro e w1 ⟨rfl, hb1⟩
  go_wp2_with fail
  refine (xNameAhead_any s.rest _ hok).mono ?_
  rintro e w2 ⟨rfl, hb2⟩
  have hbb := Below.then hb1 hb2
  have h1 := h.keep hbb
  have hm := h.stay hbb
  have c1 : w2.cell? ⟨p, 1, none⟩ = some (.int .i64 (s.place : Nat)) := h1.pos
  have o1 := h1.thaw
  go_wp2
  go_ret
  refine ⟨rfl, hm.then ?_⟩
  rw [unhide HPL]
  exact Below.refl _ _
set_option maxHeartbeats 2000000 in
theorem qname_any (p : Nat) (s : RS) (w : World) (h : AtS w p s) (hf : Fine s) :
    Calls Tryz.prog 76 #[.pointer (some ⟨p, 0, none⟩)] w fun e w' => e = .returned (.string (T (qnameA s.rest))) ∧ Moves p s.qname.place w w' := by
  have hok := hf.okR
  have hlt := hf.lt
  have hp := nameA_pre s.rest
  have hz := size_pre hp
  have HS := hide (suf_drop hp)
  have hod := okL_drop hok (nameA s.rest).length
  have HQ := hide (qnameA_eq s.rest)
  have hon := okL_pre hok hp
  have hzq := size_pre (qnameA_pre s.rest)
  have HPL := hide (show s.qname.place = s.place + (T (qnameA s.rest)).size from place_pre s (qnameA_pre s.rest))
  have hoq := okL_pre hok (qnameA_pre s.rest)
  have HNA := hide (fun W => xNameAhead_any s.rest W hok)
  clear hf hp
  generalize nameA s.rest = x at *
  generalize s.rest.drop x.length = d at *
  generalize qnameA s.rest = q at *
  go_enter Tryz.func76, Tryz.ntmps76
  go_wp2_with fail
  refine (rest_any p s _ h).mono ?_
  rintro e w1 ⟨rfl, hb1⟩
  go_wp2_with fail
  refine (unhide HNA _).mono ?_
  rintro e w2 ⟨rfl, hb2⟩
  have hbb2 := Below.then hb1 hb2
  go_wp2_with fail
  refine (rest_any p s _ (h.keep hbb2)).mono ?_
  rintro e w3 ⟨rfl, hb3⟩
  have hbb3 := Below.then hbb2 hb3
  by_cases hn : x = []
  · have h1 := nil_T hn
    have hqx : q = x := by rw [unhide HQ, hn]; rfl
    subst hqx
    clear hn HQ
    have h3 := h.keep hbb3
    have hm := h.stay hbb3
    have c1 : w3.cell? ⟨p, 1, none⟩ = some (.int .i64 (s.place : Nat)) := h3.pos
    have o1 := h3.thaw
    go_wp2
    go_ret
    refine ⟨rfl, hm.then ?_⟩
    rw [unhide HPL]
    exact Below.refl _ _
  · have h1 := ne_T hon hn
    have HX := hide (empty_not hn)
    go_wp2_with fail
    rw [unhide HS]
    refine (hasPrefix_T [58] ⟨#[58]⟩ rfl (by decide) d hod _).mono ?_
    rintro e w4 ⟨rfl, rfl⟩
    rw [isPre_one]
    cases hh : heads 58 d
    · have hqx : q = x := by rw [unhide HQ, hh, Bool.false_and, Bool.and_false, if_neg (by decide)]
      subst hqx
      have h3 := h.keep hbb3
      have hm := h.stay hbb3
      have c1 : w4.cell? ⟨p, 1, none⟩ = some (.int .i64 (s.place : Nat)) := h3.pos
      have o1 := h3.thaw
      go_wp2
      go_ret
      refine ⟨rfl, hm.then ?_⟩
      rw [unhide HPL]
      exact Below.refl _ _
    · have hdt : (T d).size = 1 + (T d.tail).size := by
        conv => lhs; rw [heads_true hh]
        exact sz_cons (by decide) _
      have hst : (T d).extract 1 (T d).size = T d.tail := by
        have e := heads_true hh
        have := T_suf [58] d.tail
        rw [show [58] ++ d.tail = d from e.symm] at this
        exact this
      have hot := okL_tl hod
      have HST := hide hst
      have h1d : 1 ≤ (T d).size := by omega
      clear hdt hst
      go_wp2_with fail
      rw [unhide HST]
      refine (xNameAhead_any d.tail _ hot).mono ?_
      rintro e w5 ⟨rfl, hb5⟩
      have hbb5 := Below.then hbb3 hb5
      have h5 := h.keep hbb5
      have hm := h.stay hbb5
      have c1 : w5.cell? ⟨p, 1, none⟩ = some (.int .i64 (s.place : Nat)) := h5.pos
      have o1 := h5.thaw
      have hoy := okL_pre hot (nameA_pre d.tail)
      generalize nameA d.tail = y at *
      by_cases hyn : y = []
      · have h2 := nil_T hyn
        have hqx : q = x := by rw [unhide HQ, hyn]; simp
        subst hqx
        clear hyn HQ
        go_wp2
        go_ret
        refine ⟨rfl, hm.then ?_⟩
        rw [unhide HPL]
        exact Below.refl _ _
      · have h2 := ne_T hoy hyn
        have hqx : q = x ++ 58 :: y := by rw [unhide HQ, unhide HX, hh, empty_not hyn]; rfl
        have hTq : T x ++ (⟨#[58]⟩ ++ T y) = T q := by
          rw [hqx, ← T_app]
          congr 1
        have HTQ := hide hTq
        have hsq : (T q).size = (T x).size + (1 + (T y).size) := by rw [hqx, sz_app, sz_cons (by decide)]
        have HSQ := hide hsq
        have hlq : s.place + ((T x).size + (1 + (T y).size)) ≤ 32768 := by omega
        clear hqx hTq hsq
        go_wp2
        go_ret
        rw [unhide HTQ]
        refine ⟨rfl, hm.then ?_⟩
        rw [unhide HPL, unhide HSQ]
        exact Below.refl _ _
end Go.Proofs.YtkklapoceknbcaaGreatDoor
