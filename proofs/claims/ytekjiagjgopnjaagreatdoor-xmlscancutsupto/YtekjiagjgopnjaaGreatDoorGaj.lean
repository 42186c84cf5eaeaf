/- Several texts, laid as one. -/
import Derived.Test.YtekjiagjgopnjaaGreatDoorGai
/- A reader's small steps, more: xmlscan's takeTo, blanks, nameAhead, name, qname. -/
namespace Go.Proofs.YtekjiagjgopnjaaGreatDoor
open Go.RowKit
/-- strings.Cut of a text at signs below 128. -/
theorem cut_T (a : List Nat) (u : ByteArray) (hu : u.data.toList = a.map UInt8.ofNat) (ha : ∀ c ∈ a, c < 128) (hne : a ≠ []) (l : List Nat) (hl : okL l) (hs : (T l).size ≤ 32768) (w : World) (hE : Env w) :
    Calls Tryz.prog 86 #[.string (T l), .string u] w fun e w' => e = .returned (match cutL a l with | some (x, y) => .tuple #[.string (T x), .string (T y), .bool true] | none => .tuple #[.string (T l), .string ⟨#[]⟩, .bool false]) ∧ Below w.heap.size w w' := by
  obtain ⟨m, hm⟩ := hE.len
  refine (Tryz.strings_Cut (T l) u m w (by omega) hm).mono ?_
  rintro e w' ⟨rfl, nd, rfl⟩
  refine ⟨?_, below_drewN w nd⟩
  rw [T_data, hu, cut_txs a ha hne l hl]
  cases cutL a l with
  | none => rfl
  | some xy => rfl
theorem cut_place {a : List Nat} (ha : ∀ c ∈ a, c < 128) (hne : a ≠ []) {s : RS} (hf : Fine s) {x y : List Nat} (hc : cutL a s.rest = some (x, y)) : (s.adv (x.length + a.length)).place = s.place + ((T x).size + (T a).size) ∧ (T x).size + (T a).size ≤ (T s.rest).size := by
  have e := cutL_app ha hne hf.okR hc
  have hp : x ++ a <+: s.rest := ⟨y, by rw [e]⟩
  have := place_pre s hp
  rw [List.length_append, sz_app] at this
  refine ⟨this, ?_⟩
  have hz := size_pre hp
  rwa [sz_app] at hz
set_option maxHeartbeats 1000000 in
theorem takeTo_yes (a : List Nat) (u : ByteArray) (hu : u.data.toList = a.map UInt8.ofNat) (ha : ∀ c ∈ a, c < 128) (hne : a ≠ []) (p : Nat) (s : RS) (x y : List Nat) (w : World) (h : AtS w p s) (hf : Fine s) (hE : Env w) (hc : cutL a s.rest = some (x, y)) :
    Calls Tryz.prog 79 #[.pointer (some ⟨p, 0, none⟩), .string u] w fun e w' => e = .returned (.tuple #[.string (T x), .bool true]) ∧ Moves p (s.adv (x.length + a.length)).place w w' := by
  have HC : Hid _ := hide (fun W hW => cut_T a u hu ha hne s.rest hf.okR (by have := hf.lt; omega) W hW)
  obtain ⟨hpl, hz⟩ := cut_place ha hne hf hc
  have hlt := hf.lt
  have hus : u.size = (T a).size := (asc_size ha hu).symm
  rw [← hus] at hpl hz
  have HPL := hide hpl
  clear hpl hus hu ha hne
  go_enter Tryz.func79, Tryz.ntmps79
  go_wp2_with fail
  refine (rest_any p s _ h).mono ?_
  rintro e w1 ⟨rfl, hb1⟩
  go_wp2_with fail
  refine (unhide HC _ (hE.below hb1)).mono ?_
  rintro e w2 ⟨rfl, hb2⟩
  rw [hc]
  have hbb := Below.then hb1 hb2
  have h1 := h.keep hbb
  have hm := h.stay hbb
  have c1 : w2.cell? ⟨p, 1, none⟩ = some (.int .i64 (s.place : Nat)) := h1.pos
  have o1 := h1.thaw
  go_wp2
  go_ret2
  refine ⟨rfl, hm.then ?_⟩
  rw [unhide HPL]
  exact Below.refl _ _
set_option maxHeartbeats 1000000 in
theorem takeTo_no (a : List Nat) (u : ByteArray) (hu : u.data.toList = a.map UInt8.ofNat) (ha : ∀ c ∈ a, c < 128) (hne : a ≠ []) (p : Nat) (s : RS) (w : World) (h : AtS w p s) (hf : Fine s) (hE : Env w) (hc : cutL a s.rest = none) :
    Calls Tryz.prog 79 #[.pointer (some ⟨p, 0, none⟩), .string u] w fun e w' => e = .returned (.tuple #[.string (T s.rest), .bool false]) ∧ Below w.heap.size w w' := by
  have HC : Hid _ := hide (fun W hW => cut_T a u hu ha hne s.rest hf.okR (by have := hf.lt; omega) W hW)
  go_enter Tryz.func79, Tryz.ntmps79
  go_wp2_with fail
  refine (rest_any p s _ h).mono ?_
  rintro e w1 ⟨rfl, hb1⟩
  go_wp2_with fail
  refine (unhide HC _ (hE.below hb1)).mono ?_
  rintro e w2 ⟨rfl, hb2⟩
  rw [hc]
  go_wp2
  go_ret2
  exact ⟨rfl, Below.then hb1 hb2⟩
theorem blank_place (s : RS) : s.blanks.place = s.place + (T (s.rest.takeWhile blankC)).size := place_pre s (List.takeWhile_prefix _)
theorem blank_split {s : RS} : (T s.rest).size = (T (s.rest.takeWhile blankC)).size + (T (s.rest.dropWhile blankC)).size := by
  rw [← sz_app, List.takeWhile_append_dropWhile]
theorem blanks_rest (s : RS) : s.blanks.rest = s.rest.dropWhile blankC := by
  show s.rest.drop (s.rest.takeWhile blankC).length = _
  have := List.drop_left (l₁ := s.rest.takeWhile blankC) (l₂ := s.rest.dropWhile blankC)
  rwa [List.takeWhile_append_dropWhile] at this
set_option maxHeartbeats 1000000 in
theorem blanks_any (p : Nat) (s : RS) (w : World) (h : AtS w p s) (hf : Fine s) :
    Calls Tryz.prog 23 #[.pointer (some ⟨p, 0, none⟩)] w fun e w' => e = .returned (.bool s.blank) ∧ Moves p s.blanks.place w w' := by
  have HF := hide hf
  have hlt := hf.lt
  have hok := hf.okR
  have HPL := hide (blank_place s)
  have hsp := blank_split (s := s)
  have HBR := hide (blanks_rest s)
  have HB : Hid (s.blank = decide ((T (s.rest.dropWhile blankC)).size < (T s.rest).size)) := by
    refine hide ?_
    unfold RS.blank
    cases hx : s.rest.takeWhile blankC with
    | nil =>
      rw [hx] at hsp
      have : (T []).size = 0 := rfl
      rw [decide_eq_false (by omega)]
      rfl
    | cons c t =>
      have h1 : 0 < (T (c :: t)).size := by
        rw [T_size]
        exact Nat.pos_of_ne_zero fun h0 => by
          have := tx_len_zero (l := c :: t) (okL_pre hok (by rw [← hx]; exact List.takeWhile_prefix _)) h0
          cases this
      rw [hx] at hsp
      rw [decide_eq_true (by omega)]
      rfl
  have hdz : (T (s.rest.dropWhile blankC)).size ≤ (T s.rest).size := by omega
  have e1 : IntKind.i64.wrap (((T s.rest).size : Int) - ((T (s.rest.dropWhile blankC)).size : Int)) = ((T (s.rest.takeWhile blankC)).size : Int) := by rw [IntKind.wrap_i64]; omega
  have e2 : IntKind.i64.wrap ((s.place : Int) + ((T (s.rest.takeWhile blankC)).size : Int)) = ((s.blanks.place : Nat) : Int) := by rw [IntKind.wrap_i64, unhide HPL]; omega
  have HSP := hide hsp
  clear hsp
  have HT : Hid (∀ W : World, Calls Tryz.prog 45 #[.string (T s.rest), .func (.func 46) #[] #[]] W fun e w' => e = .returned (.string (T (s.rest.dropWhile blankC))) ∧ Below W.heap.size W w') := by
    refine hide fun W => ?_
    have := Tryz.strings_TrimLeftFunc_runes 46 #[] isBlank_enters blankN (T s.rest) W (isBlank_runes _)
    rwa [trim_T hok] at this
  have HR : Hid (∀ W : World, Below w.heap.size w W → Calls Tryz.prog 44 #[.pointer (some ⟨p, 0, none⟩)] W fun e w' => e = .returned (.string (T s.rest)) ∧ Below W.heap.size W w') := hide fun W hW => rest_any p s W (h.keep hW)
  have H1 := hide h
  have hp1 : ∀ W : World, Below w.heap.size w W → W.cell? ⟨p, 1, none⟩ = some (.int .i64 (s.place : Nat)) := fun W hW => (h.keep hW).pos
  have hp2 : ∀ W : World, Below w.heap.size w W → W.frozen? ⟨p, 1, none⟩ = false := fun W hW => (h.keep hW).thaw
  have hpz := h.lt
  clear hf hok h
  go_enter Tryz.func23, Tryz.ntmps23
  go_wp2_with fail
  refine (unhide HR _ (Below.refl _ _)).mono ?_
  rintro e w1 ⟨rfl, hb1⟩
  go_wp2_with fail
  have c1 := hp1 _ hb1
  have o1 := hp2 _ hb1
  go_region_with
    (first
      | (go_at_call 44; refine (unhide HR _ hb1.drew).mono ?_; rintro e w2 ⟨rfl, hb2⟩; have hk2 : Below w.heap.size w w2 := Below.trans hb1.drew (hb2.mono hb1.drew.size); have c2 := hp1 _ hk2; have o2 := hp2 _ hk2)
      | (go_at_call 45; refine (unhide HT _).mono ?_; rintro e w3 ⟨rfl, hb3⟩; have hk3 : Below w.heap.size w w3 := Below.trans hk2 (hb3.mono hk2.size); have c3 := hp1 _ hk3; have o3 := hp2 _ hk3))
  all_goals have ha := (unhide H1).moved (pre' := s.blanks.pre) (rest' := s.blanks.rest) (((unhide H1).stay hk3).then (Below.refl _ _)) (adv_whole s _)
  all_goals have hm := ((unhide H1).stay hk3).then (Below.refl w3.heap.size (w3.setCell ⟨p, 1, none⟩ (.int .i64 (s.blanks.place : Nat))))
  all_goals go_wp2_with (go_at_call 44; refine (rest_any p s.blanks _ ha).mono ?_; rintro e w4 ⟨rfl, hb4⟩; rw [unhide HBR])
  all_goals go_ret
  all_goals exact ⟨by rw [unhide HB]; exact ret_bool (by simp), hm.still hb4⟩
end Go.Proofs.YtekjiagjgopnjaaGreatDoor
/- A reader's small steps, more: xmlscan's nameAhead, name, qname, quote, quoted, equals. -/
namespace Go.Proofs.YtekjiagjgopnjaaGreatDoor
open Go.RowKit
set_option maxHeartbeats 1000000 in
theorem xNameAhead_any (l : List Nat) (w : World) (hl : okL l) :
    Calls Tryz.prog 21 #[.string (T l)] w fun e w' => e = .returned (.string (T (nameA l))) ∧ Below w.heap.size w w' := by
  go_enter Tryz.func21, Tryz.ntmps21
  go_wp2_with fail
  go_loopw [] (fun wr => ∃ p t : List Nat, l = p ++ t ∧ nameA p = p ∧ wr.heap[w.heap.size]? = some (.stringIter (T l) (tx p).length) ∧ Below w.heap.size w wr) (fun wr => (T l).size - wr.iterPos w.heap.size)
  case atStart => exact ⟨[], l, rfl, rfl, World.iter_heap _ _ _, (Below.refl _ _).alloc (Nat.le_refl _) _⟩
  case round =>
    obtain ⟨p, t, hpt, hp, hk, hbr⟩ := hrel
    cases t with
    | nil =>
      have hnx := fun ty => Lib.run_next_end_at (P := Tryz.prog) wr w.heap.size (T l) (tx p).length ty hk (end_at hpt)
      have HPT := hide hpt
      have HP := hide hp
      clear hpt hp hk
      go_wp2
      go_ret
      refine ⟨ret_str ?_, hbr⟩
      rw [unhide HPT, List.append_nil, unhide HP]
    | cons c t =>
      obtain ⟨hd, hlt, hc, hpos⟩ := dec_at hpt hl
      have hnx := fun ty => Lib.run_next_any_at (P := Tryz.prog) wr w.heap.size (T l) (tx p).length ty hk hlt
      rw [hd] at hnx
      simp only at hnx
      have HS := hide (tx_snoc p c)
      have HX := hide (pre_at hpt)
      have HPT := hide hpt
      have HP := hide hp
      have HK := hide hk
      have hbc := begC_eq c hc
      have hgc := goC_eq c hc
      have HB := hide hbc
      have HG := hide hgc
      have H0 : Hid ((tx p).length = 0 ↔ p = []) := hide ⟨fun h => tx_len_zero (okL_left (hpt ▸ hl)) h, fun h => by rw [h]; rfl⟩
      clear hd hpt hp hk hbc hgc
      generalize (tx p).length = n at *
      by_cases hz : n = 0
      · subst hz
        have hp0 := (unhide H0).1 rfl
        cases hb : begC c
        · have HBF := hide hb
          clear hb
          go_wp2_with (go_at_call 41; refine (begins_any _ _).mono ?_; rintro e w1 ⟨rfl, hb1⟩; rw [unhide HB, unhide HBF])
          go_ret
          refine ⟨ret_str ?_, (iter_on (unhide HK) hbr hb1).2⟩
          rw [unhide HPT, hp0, List.nil_append, nameA_no (unhide HBF)]
          rfl
        · have HBT := hide hb
          have HGT := hide (goC_of_beg hb)
          clear hb
          go_wp2_with (first | (go_at_call 41; refine (begins_any _ _).mono ?_; rintro e w1 ⟨rfl, hb1⟩; rw [unhide HB, unhide HBT]) | (go_at_call 42; refine (goesOn_any _ _).mono ?_; rintro e w2 ⟨rfl, hb2⟩; rw [unhide HG, unhide HGT]))
          obtain ⟨q1, q2⟩ := iter_on (unhide HK) hbr (Below.then hb1 hb2)
          refine ⟨⟨p ++ [c], t, by rw [unhide HPT]; simp, by rw [hp0]; exact nameA_one (unhide HBT), by rw [unhide HS, Nat.zero_add]; exact q1, q2⟩, ?_⟩
          rw [iterPos_of q1, iterPos_of (unhide HK)]; omega
      · have hz' : ((n : Int) == 0) = false := by simpa using hz
        have hp0 : p ≠ [] := fun h => hz ((unhide H0).2 h)
        cases hg : goC c
        · have HGF := hide hg
          clear hg
          go_wp2_with (go_at_call 42; refine (goesOn_any _ _).mono ?_; rintro e w2 ⟨rfl, hb2⟩; rw [unhide HG, unhide HGF])
          go_ret
          refine ⟨ret_str ?_, (iter_on (unhide HK) hbr hb2).2⟩
          rw [unhide HX, unhide HPT, nameA_run p (c :: t) (fun x hx => by cases hx; exact unhide HGF) (unhide HP) hp0]
        · have HGT := hide hg
          clear hg
          go_wp2_with (go_at_call 42; refine (goesOn_any _ _).mono ?_; rintro e w2 ⟨rfl, hb2⟩; rw [unhide HG, unhide HGT])
          obtain ⟨q1, q2⟩ := iter_on (unhide HK) hbr hb2
          refine ⟨⟨p ++ [c], t, by rw [unhide HPT]; simp, nameA_snoc (unhide HP) hp0 (unhide HGT), by rw [unhide HS]; exact q1, q2⟩, ?_⟩
          rw [iterPos_of q1, iterPos_of (unhide HK)]; omega
set_option maxHeartbeats 1000000 in
theorem name_any (p : Nat) (s : RS) (w : World) (h : AtS w p s) (hf : Fine s) :
    Calls Tryz.prog 80 #[.pointer (some ⟨p, 0, none⟩)] w fun e w' => e = .returned (.string (T (nameA s.rest))) ∧ Moves p s.name.place w w' := by
  have hok := hf.okR
  have hlt := hf.lt
  have hz := size_pre (nameA_pre s.rest)
  have HPL := hide (show s.name.place = s.place + (T (nameA s.rest)).size from place_pre s (nameA_pre s.rest))
  clear hf
  go_enter Tryz.func80, Tryz.ntmps80
  go_wp2_with fail
  refine (rest_any p s _ h).mono ?_
  rintro e w1 ⟨rfl, hb1⟩
  go_wp2_with fail
  refine (xNameAhead_any s.rest _ hok).mono ?_
  rintro e w2 ⟨rfl, hb2⟩
  have hbb := Below.then hb1 hb2
  have h1 := h.keep hbb
  have hm := h.stay hbb
  have c1 : w2.cell? ⟨p, 1, none⟩ = some (.int .i64 (s.place : Nat)) := h1.pos
  have o1 := h1.thaw
  go_wp2
  go_ret
  refine ⟨rfl, hm.then ?_⟩
  rw [unhide HPL]
  exact Below.refl _ _
set_option maxHeartbeats 2000000 in
theorem qname_any (p : Nat) (s : RS) (w : World) (h : AtS w p s) (hf : Fine s) :
    Calls Tryz.prog 52 #[.pointer (some ⟨p, 0, none⟩)] w fun e w' => e = .returned (.string (T (qnameA s.rest))) ∧ Moves p s.qname.place w w' := by
  have hok := hf.okR
  have hlt := hf.lt
  have hp := nameA_pre s.rest
  have hz := size_pre hp
  have HS := hide (suf_drop hp)
  have hod := okL_drop hok (nameA s.rest).length
  have HQ := hide (qnameA_eq s.rest)
  have hon := okL_pre hok hp
  have hzq := size_pre (qnameA_pre s.rest)
  have HPL := hide (show s.qname.place = s.place + (T (qnameA s.rest)).size from place_pre s (qnameA_pre s.rest))
  have hoq := okL_pre hok (qnameA_pre s.rest)
  have HNA := hide (fun W => xNameAhead_any s.rest W hok)
  clear hf hp
  generalize nameA s.rest = x at *
  generalize s.rest.drop x.length = d at *
  generalize qnameA s.rest = q at *
  go_enter Tryz.func52, Tryz.ntmps52
  go_wp2_with fail
  refine (rest_any p s _ h).mono ?_
  rintro e w1 ⟨rfl, hb1⟩
  go_wp2_with fail
  refine (unhide HNA _).mono ?_
  rintro e w2 ⟨rfl, hb2⟩
  have hbb2 := Below.then hb1 hb2
  go_wp2_with fail
  refine (rest_any p s _ (h.keep hbb2)).mono ?_
  rintro e w3 ⟨rfl, hb3⟩
  have hbb3 := Below.then hbb2 hb3
  by_cases hn : x = []
  · have h1 := nil_T hn
    have hqx : q = x := by rw [unhide HQ, hn]; rfl
    subst hqx
    clear hn HQ
    have h3 := h.keep hbb3
    have hm := h.stay hbb3
    have c1 : w3.cell? ⟨p, 1, none⟩ = some (.int .i64 (s.place : Nat)) := h3.pos
    have o1 := h3.thaw
    go_wp2
    go_ret
    refine ⟨rfl, hm.then ?_⟩
    rw [unhide HPL]
    exact Below.refl _ _
  · have h1 := ne_T hon hn
    have HX := hide (empty_not hn)
    go_wp2_with fail
    rw [unhide HS]
    refine (hasPrefix_T [58] ⟨#[58]⟩ rfl (by decide) d hod _).mono ?_
    rintro e w4 ⟨rfl, rfl⟩
    rw [isPre_one]
    cases hh : heads 58 d
    · have hqx : q = x := by rw [unhide HQ, hh, Bool.false_and, Bool.and_false, if_neg (by decide)]
      subst hqx
      have h3 := h.keep hbb3
      have hm := h.stay hbb3
      have c1 : w4.cell? ⟨p, 1, none⟩ = some (.int .i64 (s.place : Nat)) := h3.pos
      have o1 := h3.thaw
      go_wp2
      go_ret
      refine ⟨rfl, hm.then ?_⟩
      rw [unhide HPL]
      exact Below.refl _ _
    · have hdt : (T d).size = 1 + (T d.tail).size := by
        conv => lhs; rw [heads_true hh]
        exact sz_cons (by decide) _
      have hst : (T d).extract 1 (T d).size = T d.tail := by
        have e := heads_true hh
        have := T_suf [58] d.tail
        rw [show [58] ++ d.tail = d from e.symm] at this
        exact this
      have hot := okL_tl hod
      have HST := hide hst
      have h1d : 1 ≤ (T d).size := by omega
      clear hdt hst
      go_wp2_with fail
      rw [unhide HST]
      refine (xNameAhead_any d.tail _ hot).mono ?_
      rintro e w5 ⟨rfl, hb5⟩
      have hbb5 := Below.then hbb3 hb5
      have h5 := h.keep hbb5
      have hm := h.stay hbb5
      have c1 : w5.cell? ⟨p, 1, none⟩ = some (.int .i64 (s.place : Nat)) := h5.pos
      have o1 := h5.thaw
      have hoy := okL_pre hot (nameA_pre d.tail)
      generalize nameA d.tail = y at *
      by_cases hyn : y = []
      · have h2 := nil_T hyn
        have hqx : q = x := by rw [unhide HQ, hyn]; simp
        subst hqx
        clear hyn HQ
        go_wp2
        go_ret
        refine ⟨rfl, hm.then ?_⟩
        rw [unhide HPL]
        exact Below.refl _ _
      · have h2 := ne_T hoy hyn
        have hqx : q = x ++ 58 :: y := by rw [unhide HQ, unhide HX, hh, empty_not hyn]; rfl
        have hTq : T x ++ (⟨#[58]⟩ ++ T y) = T q := by
          rw [hqx, ← T_app]
          congr 1
        have HTQ := hide hTq
        have hsq : (T q).size = (T x).size + (1 + (T y).size) := by rw [hqx, sz_app, sz_cons (by decide)]
        have HSQ := hide hsq
        have hlq : s.place + ((T x).size + (1 + (T y).size)) ≤ 32768 := by omega
        clear hqx hTq hsq
        go_wp2
        go_ret
        rw [unhide HTQ]
        refine ⟨rfl, hm.then ?_⟩
        rw [unhide HPL, unhide HSQ]
        exact Below.refl _ _
end Go.Proofs.YtekjiagjgopnjaaGreatDoor
