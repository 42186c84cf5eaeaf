/- Several texts, laid as one. -/
import Derived.Test.YtjjggncbhenffaaGreatDoorGai
/- A reader's small steps, more: xmlscan's nameAhead, name, qname, quote, quoted, equals. -/
namespace Go.Proofs.YtjjggncbhenffaaGreatDoor
open Go.RowKit
set_option maxHeartbeats 1000000 in
theorem xNameAhead_any (l : List Nat) (w : World) (hl : okL l) :
    Calls Tryz.prog 114 #[.string (T l)] w fun e w' => e = .returned (.string (T (nameA l))) ∧ Below w.heap.size w w' := by
  go_enter Tryz.func114, Tryz.ntmps114
  go_wp2_with fail
  go_loopw [] (fun wr => ∃ p t : List Nat, l = p ++ t ∧ nameA p = p ∧ wr.heap[w.heap.size]? = some (.stringIter (T l) (tx p).length) ∧ Below w.heap.size w wr) (fun wr => (T l).size - wr.iterPos w.heap.size)
  case atStart => exact ⟨[], l, rfl, rfl, World.iter_heap _ _ _, (Below.refl _ _).alloc (Nat.le_refl _) _⟩
  case round =>
    obtain ⟨p, t, hpt, hp, hk, hbr⟩ := hrel
    cases t with
    | nil =>
      have hnx := fun ty => Lib.run_next_end_at (P := Tryz.prog) wr w.heap.size (T l) (tx p).length ty hk (end_at hpt)
      have HPT := hide hpt
      have HP := hide hp
      clear hpt hp hk
      go_wp2
      go_ret
      refine ⟨ret_str ?_, hbr⟩
      rw [unhide HPT, List.append_nil, unhide HP]
    | cons c t =>
      obtain ⟨hd, hlt, hc, hpos⟩ := dec_at hpt hl
      have hnx := fun ty => Lib.run_next_any_at (P := Tryz.prog) wr w.heap.size (T l) (tx p).length ty hk hlt
      rw [hd] at hnx
      simp only at hnx
      have HS := hide (tx_snoc p c)
      have HX := hide (pre_at hpt)
      have HPT := hide hpt
      have HP := hide hp
      have HK := hide hk
      have hbc := begC_eq c hc
      have hgc := goC_eq c hc
      have HB := hide hbc
      have HG := hide hgc
      have H0 : Hid ((tx p).length = 0 ↔ p = []) := hide ⟨fun h => tx_len_zero (okL_left (hpt ▸ hl)) h, fun h => by rw [h]; rfl⟩
      clear hd hpt hp hk hbc hgc
      generalize (tx p).length = n at *
      by_cases hz : n = 0
      · subst hz
        have hp0 := (unhide H0).1 rfl
        cases hb : begC c
        · have HBF := hide hb
          clear hb
          go_wp2_with (go_at_call 150; refine (begins_any _ _).mono ?_; rintro e w1 ⟨rfl, hb1⟩; rw [unhide HB, unhide HBF])
          go_ret
          refine ⟨ret_str ?_, (iter_on (unhide HK) hbr hb1).2⟩
          rw [unhide HPT, hp0, List.nil_append, nameA_no (unhide HBF)]
          rfl
        · have HBT := hide hb
          have HGT := hide (goC_of_beg hb)
          clear hb
          go_wp2_with (first | (go_at_call 150; refine (begins_any _ _).mono ?_; rintro e w1 ⟨rfl, hb1⟩; rw [unhide HB, unhide HBT]) | (go_at_call 151; refine (goesOn_any _ _).mono ?_; rintro e w2 ⟨rfl, hb2⟩; rw [unhide HG, unhide HGT]))
          obtain ⟨q1, q2⟩ := iter_on (unhide HK) hbr (Below.then hb1 hb2)
          refine ⟨⟨p ++ [c], t, by rw [unhide HPT]; simp, by rw [hp0]; exact nameA_one (unhide HBT), by rw [unhide HS, Nat.zero_add]; exact q1, q2⟩, ?_⟩
          rw [iterPos_of q1, iterPos_of (unhide HK)]; omega
      · have hz' : ((n : Int) == 0) = false := by simpa using hz
        have hp0 : p ≠ [] := fun h => hz ((unhide H0).2 h)
        cases hg : goC c
        · have HGF := hide hg
          clear hg
          go_wp2_with (go_at_call 151; refine (goesOn_any _ _).mono ?_; rintro e w2 ⟨rfl, hb2⟩; rw [unhide HG, unhide HGF])
          go_ret
          refine ⟨ret_str ?_, (iter_on (unhide HK) hbr hb2).2⟩
          rw [unhide HX, unhide HPT, nameA_run p (c :: t) (fun x hx => by cases hx; exact unhide HGF) (unhide HP) hp0]
        · have HGT := hide hg
          clear hg
          go_wp2_with (go_at_call 151; refine (goesOn_any _ _).mono ?_; rintro e w2 ⟨rfl, hb2⟩; rw [unhide HG, unhide HGT])
          obtain ⟨q1, q2⟩ := iter_on (unhide HK) hbr hb2
          refine ⟨⟨p ++ [c], t, by rw [unhide HPT]; simp, nameA_snoc (unhide HP) hp0 (unhide HGT), by rw [unhide HS]; exact q1, q2⟩, ?_⟩
          rw [iterPos_of q1, iterPos_of (unhide HK)]; omega
set_option maxHeartbeats 1000000 in
theorem name_any (p : Nat) (s : RS) (w : World) (h : AtS w p s) (hf : Fine s) :
    Calls Tryz.prog 195 #[.pointer (some ⟨p, 0, none⟩)] w fun e w' => e = .returned (.string (T (nameA s.rest))) ∧ Moves p s.name.place w w' := by
  have hok := hf.okR
  have hlt := hf.lt
  have hz := size_pre (nameA_pre s.rest)
  have HPL := hide (show s.name.place = s.place + (T (nameA s.rest)).size from place_pre s (nameA_pre s.rest))
  clear hf
  go_enter Tryz.func195, Tryz.ntmps195
  go_wp2_with fail
  refine (rest_any p s _ h).mono ?_
  rintro e w1 ⟨rfl, hb1⟩
  go_wp2_with fail
  refine (xNameAhead_any s.rest _ hok).mono ?_
  rintro e w2 ⟨rfl, hb2⟩
  have hbb := Below.then hb1 hb2
  have h1 := h.keep hbb
  have hm := h.stay hbb
  have c1 : w2.cell? ⟨p, 1, none⟩ = some (.int .i64 (s.place : Nat)) := h1.pos
  have o1 := h1.thaw
  go_wp2
  go_ret
  refine ⟨rfl, hm.then ?_⟩
  rw [unhide HPL]
  exact Below.refl _ _
set_option maxHeartbeats 2000000 in
theorem qname_any (p : Nat) (s : RS) (w : World) (h : AtS w p s) (hf : Fine s) :
    Calls Tryz.prog 160 #[.pointer (some ⟨p, 0, none⟩)] w fun e w' => e = .returned (.string (T (qnameA s.rest))) ∧ Moves p s.qname.place w w' := by
  have hok := hf.okR
  have hlt := hf.lt
  have hp := nameA_pre s.rest
  have hz := size_pre hp
  have HS := hide (suf_drop hp)
  have hod := okL_drop hok (nameA s.rest).length
  have HQ := hide (qnameA_eq s.rest)
  have hon := okL_pre hok hp
  have hzq := size_pre (qnameA_pre s.rest)
  have HPL := hide (show s.qname.place = s.place + (T (qnameA s.rest)).size from place_pre s (qnameA_pre s.rest))
  have hoq := okL_pre hok (qnameA_pre s.rest)
  have HNA := hide (fun W => xNameAhead_any s.rest W hok)
  clear hf hp
  generalize nameA s.rest = x at *
  generalize s.rest.drop x.length = d at *
  generalize qnameA s.rest = q at *
  go_enter Tryz.func160, Tryz.ntmps160
  go_wp2_with fail
  refine (rest_any p s _ h).mono ?_
  rintro e w1 ⟨rfl, hb1⟩
  go_wp2_with fail
  refine (unhide HNA _).mono ?_
  rintro e w2 ⟨rfl, hb2⟩
  have hbb2 := Below.then hb1 hb2
  go_wp2_with fail
  refine (rest_any p s _ (h.keep hbb2)).mono ?_
  rintro e w3 ⟨rfl, hb3⟩
  have hbb3 := Below.then hbb2 hb3
  by_cases hn : x = []
  · have h1 := nil_T hn
    have hqx : q = x := by rw [unhide HQ, hn]; rfl
    subst hqx
    clear hn HQ
    have h3 := h.keep hbb3
    have hm := h.stay hbb3
    have c1 : w3.cell? ⟨p, 1, none⟩ = some (.int .i64 (s.place : Nat)) := h3.pos
    have o1 := h3.thaw
    go_wp2
    go_ret
    refine ⟨rfl, hm.then ?_⟩
    rw [unhide HPL]
    exact Below.refl _ _
  · have h1 := ne_T hon hn
    have HX := hide (empty_not hn)
    go_wp2_with fail
    rw [unhide HS]
    refine (hasPrefix_T [58] ⟨#[58]⟩ rfl (by decide) d hod _).mono ?_
    rintro e w4 ⟨rfl, rfl⟩
    rw [isPre_one]
    cases hh : heads 58 d
    · have hqx : q = x := by rw [unhide HQ, hh, Bool.false_and, Bool.and_false, if_neg (by decide)]
      subst hqx
      have h3 := h.keep hbb3
      have hm := h.stay hbb3
      have c1 : w4.cell? ⟨p, 1, none⟩ = some (.int .i64 (s.place : Nat)) := h3.pos
      have o1 := h3.thaw
      go_wp2
      go_ret
      refine ⟨rfl, hm.then ?_⟩
      rw [unhide HPL]
      exact Below.refl _ _
    · have hdt : (T d).size = 1 + (T d.tail).size := by
        conv => lhs; rw [heads_true hh]
        exact sz_cons (by decide) _
      have hst : (T d).extract 1 (T d).size = T d.tail := by
        have e := heads_true hh
        have := T_suf [58] d.tail
        rw [show [58] ++ d.tail = d from e.symm] at this
        exact this
      have hot := okL_tl hod
      have HST := hide hst
      have h1d : 1 ≤ (T d).size := by omega
      clear hdt hst
      go_wp2_with fail
      rw [unhide HST]
      refine (xNameAhead_any d.tail _ hot).mono ?_
      rintro e w5 ⟨rfl, hb5⟩
      have hbb5 := Below.then hbb3 hb5
      have h5 := h.keep hbb5
      have hm := h.stay hbb5
      have c1 : w5.cell? ⟨p, 1, none⟩ = some (.int .i64 (s.place : Nat)) := h5.pos
      have o1 := h5.thaw
      have hoy := okL_pre hot (nameA_pre d.tail)
      generalize nameA d.tail = y at *
      by_cases hyn : y = []
      · have h2 := nil_T hyn
        have hqx : q = x := by rw [unhide HQ, hyn]; simp
        subst hqx
        clear hyn HQ
        go_wp2
        go_ret
        refine ⟨rfl, hm.then ?_⟩
        rw [unhide HPL]
        exact Below.refl _ _
      · have h2 := ne_T hoy hyn
        have hqx : q = x ++ 58 :: y := by rw [unhide HQ, unhide HX, hh, empty_not hyn]; rfl
        have hTq : T x ++ (⟨#[58]⟩ ++ T y) = T q := by
          rw [hqx, ← T_app]
          congr 1
        have HTQ := hide hTq
        have hsq : (T q).size = (T x).size + (1 + (T y).size) := by rw [hqx, sz_app, sz_cons (by decide)]
        have HSQ := hide hsq
        have hlq : s.place + ((T x).size + (1 + (T y).size)) ≤ 32768 := by omega
        clear hqx hTq hsq
        go_wp2
        go_ret
        rw [unhide HTQ]
        refine ⟨rfl, hm.then ?_⟩
        rw [unhide HPL, unhide HSQ]
        exact Below.refl _ _
end Go.Proofs.YtjjggncbhenffaaGreatDoor
/- A reader's small steps, more: xmlscan's quote, quoted, equals, fail. -/
namespace Go.Proofs.YtjjggncbhenffaaGreatDoor
open Go.RowKit
/-- What the package variables of the library hold; they all lie below B. -/
structure XEnv (B : Nat) (w : World) : Prop where
  env : Env w
  x : w.cell? ⟨2, 120, none⟩ = some (.int .u16 88)
  m : w.cell? ⟨2, 109, none⟩ = some (.int .u16 77)
  l : w.cell? ⟨2, 108, none⟩ = some (.int .u16 76)
  X : w.cell? ⟨2, 88, none⟩ = some (.int .u16 120)
  M : w.cell? ⟨2, 77, none⟩ = some (.int .u16 109)
  L : w.cell? ⟨2, 76, none⟩ = some (.int .u16 108)
  g1 : 5 < B
  g2 : 0 < B
  g3 : 1 < B
  g4 : 2 < B
theorem XEnv.low {B : Nat} {w w' : World} (h : XEnv B w) (hb : Below B w w') : XEnv B w' := by
  obtain ⟨⟨⟨m, hm⟩, t1, t2⟩, hx, hmm, hl, hX, hM, hL, g1, g2, g3, g4⟩ := h
  refine ⟨⟨⟨m, ?_⟩, ?_, ?_⟩, ?_, ?_, ?_, ?_, ?_, ?_, g1, g2, g3, g4⟩
  · rw [hb.cell g1]; exact hm
  · intro c hc; rw [hb.cell g2]; exact t1 c hc
  · intro i hi
    rw [hb.cell g3, hb.cell g3]; exact t2 i hi
  · rw [hb.cell g4]; exact hx
  · rw [hb.cell g4]; exact hmm
  · rw [hb.cell g4]; exact hl
  · rw [hb.cell g4]; exact hX
  · rw [hb.cell g4]; exact hM
  · rw [hb.cell g4]; exact hL
theorem XEnv.moved {B : Nat} {w w' : World} {p n : Nat} (h : XEnv B w) (hm : Moves p n w w') (hB : B ≤ p) (hp : p < w.heap.size) : XEnv B w' := h.low (hm.low hB (by omega))
theorem XEnv.on {B : Nat} {w w' : World} (h : XEnv B w) (hB : B ≤ w.heap.size) (hb : Below w.heap.size w w') : XEnv B w' := h.low (hb.mono hB)
theorem adv_adv (s : RS) (n m : Nat) : (s.adv n).adv m = s.adv (n + m) := by
  unfold RS.adv
  simp only [List.drop_drop, List.append_assoc, RS.mk.injEq, and_true, List.append_cancel_left_eq]
  rw [List.take_add]
/-- One state is another one, some characters on. -/
def Adv (s s' : RS) : Prop := ∃ k, s' = s.adv k
theorem Adv.then {a b c : RS} (h : Adv a b) (g : Adv b c) : Adv a c := by
  obtain ⟨k, rfl⟩ := h
  obtain ⟨m, rfl⟩ := g
  exact ⟨k + m, adv_adv _ _ _⟩
theorem Adv.by (s : RS) (n : Nat) : Adv s (s.adv n) := ⟨n, rfl⟩
theorem Adv.fine {s s' : RS} (h : Adv s s') (hf : Fine s) : Fine s' := by
  obtain ⟨k, rfl⟩ := h
  exact hf.adv k
theorem Adv.at {s s' : RS} (h : Adv s s') {w w' : World} {p : Nat} (ha : AtS w p s) (hm : Moves p s'.place w w') : AtS w' p s' := by
  obtain ⟨k, rfl⟩ := h
  exact ha.to hm
theorem Adv.blanks (s : RS) : Adv s s.blanks := ⟨_, rfl⟩
theorem Adv.take (s : RS) (a : List Nat) : Adv s (s.take a) := by
  unfold RS.take
  split
  · exact ⟨_, rfl⟩
  · exact ⟨0, by unfold RS.adv; simp⟩
theorem Adv.name (s : RS) : Adv s s.name := ⟨_, rfl⟩
theorem Adv.qname (s : RS) : Adv s s.qname := ⟨_, rfl⟩
theorem Adv.takeTo {s s' : RS} {a x : List Nat} (h : s.takeTo a = some (x, s')) : Adv s s' ∧ ∃ y, cutL a s.rest = some (x, y) ∧ s' = s.adv (x.length + a.length) := by
  unfold RS.takeTo at h
  cases hc : cutL a s.rest with
  | none => rw [hc] at h; cases h
  | some xy => rw [hc] at h; cases h; exact ⟨⟨_, rfl⟩, xy.2, rfl, rfl⟩
theorem takeTo_none {s : RS} {a : List Nat} (h : s.takeTo a = none) : cutL a s.rest = none := by
  unfold RS.takeTo at h
  cases hc : cutL a s.rest with
  | none => rfl
  | some xy => rw [hc] at h; cases h
theorem quote_some {s s' : RS} {q : Nat} (h : s.quote = some (q, s')) : s' = s.adv 1 ∧ heads q s.rest = true ∧ (q = 34 ∨ q = 39 ∧ heads 34 s.rest = false) := by
  unfold RS.quote at h
  split at h
  · rename_i hh; cases h; exact ⟨rfl, hh, .inl rfl⟩
  · rename_i hh
    split at h
    · rename_i h2; cases h; exact ⟨rfl, h2, .inr ⟨rfl, by simpa using hh⟩⟩
    · cases h
theorem Adv.quote {s s' : RS} {q : Nat} (h : s.quote = some (q, s')) : Adv s s' := ⟨1, (quote_some h).1⟩
theorem Adv.quoted {s s' : RS} {x : List Nat} (h : s.quoted = some (x, s')) : Adv s s' := by
  unfold RS.quoted at h
  cases hq : s.quote with
  | none => rw [hq] at h; cases h
  | some qs =>
    obtain ⟨q, s1⟩ := qs
    rw [hq] at h
    exact (Adv.quote hq).then (Adv.takeTo h).1
theorem Adv.equals {s s' : RS} (h : s.equals = some s') : Adv s s' := by
  unfold RS.equals at h
  split at h
  · cases h; exact (Adv.blanks s).then ((Adv.by _ 1).then (Adv.blanks _))
  · cases h
/-- What quote tells, and where it leaves the reader. -/
def quoteP (o : Option (Nat × RS)) (p : Nat) (e : Ending) (w w' : World) : Prop := match o with
  | some (q, s1) => e = .returned (.tuple #[.string (T [q]), .bool true]) ∧ Moves p s1.place w w'
  | none => e = .returned (.tuple #[.string ⟨#[]⟩, .bool false]) ∧ Below w.heap.size w w'
set_option maxHeartbeats 1000000 in
theorem quote_any (p : Nat) (s : RS) (w : World) (h : AtS w p s) (hf : Fine s) :
    Calls Tryz.prog 217 #[.pointer (some ⟨p, 0, none⟩)] w fun e w' => quoteP s.quote p e w w' := by
  have i0 : ∀ w, (Instr.index 250 (.agg #[.string ⟨#[34]⟩, .string ⟨#[39]⟩]) (.int .i64 0)).run Tryz.prog w = .ok (.string ⟨#[34]⟩) w := fun _ => by kernel_rfl
  have i1 : ∀ w, (Instr.index 250 (.agg #[.string ⟨#[34]⟩, .string ⟨#[39]⟩]) (.int .i64 1)).run Tryz.prog w = .ok (.string ⟨#[39]⟩) w := fun _ => by kernel_rfl
  go_enter Tryz.func217, Tryz.ntmps217
  go_wp2_with fail
  refine wp_loop_rounds 3 ?_
  rw [rounds_succ]
  cases hh : heads 34 s.rest
  · have HH := hide hh
    clear hh
    go_wp2_with fail
    refine (take_no [34] ⟨#[34]⟩ rfl (by decide) p s _ h hf (by rw [isPre_one]; exact unhide HH)).mono ?_
    rintro e w1 ⟨rfl, hb1⟩
    go_wp2_with fail
    rw [rounds_succ]
    have h1 := h.keep hb1
    cases hh : heads 39 s.rest
    · have HH2 := hide hh
      clear hh
      go_wp2_with fail
      refine (take_no [39] ⟨#[39]⟩ rfl (by decide) p s _ h1 hf (by rw [isPre_one]; exact unhide HH2)).mono ?_
      rintro e w2 ⟨rfl, hb2⟩
      go_wp2_with fail
      rw [rounds_succ]
      go_wp2
      go_ret2
      have e : s.quote = none := by unfold RS.quote; rw [if_neg (by rw [unhide HH]; decide), if_neg (by rw [unhide HH2]; decide)]
      rw [e]
      exact ⟨rfl, Below.then hb1 hb2⟩
    · have HH2 := hide hh
      clear hh
      go_wp2_with fail
      refine (take_yes [39] ⟨#[39]⟩ rfl (by decide) p s _ h1 hf (by rw [isPre_one]; exact unhide HH2)).mono ?_
      rintro e w2 ⟨rfl, hm2⟩
      go_wp2
      go_ret2
      have e : s.quote = some (39, s.adv 1) := by unfold RS.quote; rw [if_neg (by rw [unhide HH]; decide), if_pos (unhide HH2)]
      rw [e]
      exact ⟨rfl, (h.stay hb1).then hm2⟩
  · have HH := hide hh
    clear hh
    go_wp2_with fail
    refine (take_yes [34] ⟨#[34]⟩ rfl (by decide) p s _ h hf (by rw [isPre_one]; exact unhide HH)).mono ?_
    rintro e w2 ⟨rfl, hm2⟩
    go_wp2
    go_ret2
    have e : s.quote = some (34, s.adv 1) := by unfold RS.quote; rw [if_pos (unhide HH)]
    rw [e]
    exact ⟨rfl, hm2⟩
/-- What quoted tells, and where it leaves the reader. -/
def quotedP (o : Option (List Nat × RS)) (p : Nat) (e : Ending) (w w' : World) : Prop := match o with
  | some (x, s1) => e = .returned (.tuple #[.string (T x), .bool true]) ∧ Moves p s1.place w w'
  | none => ∃ y k, e = .returned (.tuple #[.string y, .bool false]) ∧ Moves p k w w'
theorem quote_asc {q : Nat} (h : q = 34 ∨ q = 39) : (T [q]).data.toList = [q].map UInt8.ofNat ∧ ∀ c ∈ [q], c < 128 := by
  rcases h with rfl | rfl
  · exact ⟨rfl, by decide⟩
  · exact ⟨rfl, by decide⟩
set_option maxHeartbeats 1000000 in
theorem quoted_any (B p : Nat) (s : RS) (w : World) (h : AtS w p s) (hf : Fine s) (hE : XEnv B w) (hB : B ≤ p) :
    Calls Tryz.prog 213 #[.pointer (some ⟨p, 0, none⟩)] w fun e w' => quotedP s.quoted p e w w' := by
  have HQ := hide (quote_any p s w h hf)
  have hd : s.quoted = match s.quote with | none => none | some (q, s1) => s1.takeTo [q] := rfl
  have HD := hide hd
  clear hd
  go_enter Tryz.func213, Tryz.ntmps213
  go_wp2_with fail
  refine (unhide HQ).mono ?_
  intro e w1 hq1
  cases hq : s.quote with
  | none =>
    rw [hq] at hq1
    obtain ⟨rfl, hb1⟩ := hq1
    have e : s.quoted = none := by rw [unhide HD, hq]
    have HEQ := hide e
    clear e hq
    go_wp2
    go_ret2
    rw [unhide HEQ]
    exact ⟨_, _, rfl, h.stay hb1⟩
  | some qs =>
    obtain ⟨q, s1⟩ := qs
    rw [hq] at hq1
    obtain ⟨rfl, hm1⟩ := hq1
    obtain ⟨hs1, _, hqq⟩ := quote_some hq
    have hqq' : q = 34 ∨ q = 39 := hqq.imp id (·.1)
    obtain ⟨ha1, ha2⟩ := quote_asc hqq'
    have hA := Adv.quote hq
    have e : s.quoted = s1.takeTo [q] := by rw [unhide HD, hq]
    have HEQ := hide e
    have h1 := hA.at h hm1
    have hf1 := hA.fine hf
    have HA1 := hide ha1
    have HA2 := hide ha2
    have hE1 : Env w1 := (hE.moved hm1 hB h.lt).env
    clear e hq hs1 hqq hqq' ha1 ha2
    cases ht : s1.takeTo [q] with
    | none =>
      have HC := hide (takeTo_none ht)
      have HEQ2 := hide ((unhide HEQ).trans ht)
      clear ht
      go_wp2_with fail
      refine (takeTo_no [q] (T [q]) (unhide HA1) (unhide HA2) (by simp) p s1 _ h1 hf1 hE1 (unhide HC)).mono ?_
      rintro e w2 ⟨rfl, hb2⟩
      go_wp2
      go_ret2
      rw [unhide HEQ2]
      exact ⟨_, _, rfl, hm1.then (h1.stay hb2)⟩
    | some xs =>
      obtain ⟨x, s2⟩ := xs
      obtain ⟨_, y, hc, rfl⟩ := Adv.takeTo ht
      have HC := hide hc
      have HEQ2 := hide ((unhide HEQ).trans ht)
      clear ht hc
      go_wp2_with fail
      refine (takeTo_yes [q] (T [q]) (unhide HA1) (unhide HA2) (by simp) p s1 x y _ h1 hf1 hE1 (unhide HC)).mono ?_
      rintro e w2 ⟨rfl, hm2⟩
      go_wp2
      go_ret2
      rw [unhide HEQ2]
      exact ⟨rfl, hm1.then hm2⟩
/-- What a step that may fail tells. -/
def stepP (o : Option RS) (p : Nat) (e : Ending) (w w' : World) : Prop := match o with
  | some s1 => e = .returned (.bool true) ∧ Moves p s1.place w w'
  | none => ∃ k, e = .returned (.bool false) ∧ Moves p k w w'
set_option maxHeartbeats 1000000 in
theorem equals_any (p : Nat) (s : RS) (w : World) (h : AtS w p s) (hf : Fine s) :
    Calls Tryz.prog 197 #[.pointer (some ⟨p, 0, none⟩)] w fun e w' => stepP s.equals p e w w' := by
  have hA := Adv.blanks s
  have hf1 := hA.fine hf
  go_enter Tryz.func197, Tryz.ntmps197
  go_wp2_with fail
  refine (blanks_any p s _ h hf).mono ?_
  rintro e w1 ⟨rfl, hm1⟩
  have h1 := hA.at h hm1
  cases hh : heads 61 s.blanks.rest
  · have HEQ : Hid (s.equals = none) := by refine hide ?_; unfold RS.equals; rw [if_neg (by rw [hh]; decide)]
    have HH := hide hh
    clear hh
    go_wp2_with fail
    refine (take_no [61] ⟨#[61]⟩ rfl (by decide) p s.blanks _ h1 hf1 (by rw [isPre_one]; exact unhide HH)).mono ?_
    rintro e w2 ⟨rfl, hb2⟩
    go_wp2
    go_ret
    rw [unhide HEQ]
    exact ⟨_, rfl, hm1.then (h1.stay hb2)⟩
  · have HEQ : Hid (s.equals = some (s.blanks.adv 1).blanks) := by refine hide ?_; unfold RS.equals; rw [if_pos hh]
    have HH := hide hh
    clear hh
    go_wp2_with fail
    refine (take_yes [61] ⟨#[61]⟩ rfl (by decide) p s.blanks _ h1 hf1 (by rw [isPre_one]; exact unhide HH)).mono ?_
    rintro e w2 ⟨rfl, hm2⟩
    have h2 := (Adv.by s.blanks 1).at h1 hm2
    go_wp2_with fail
    refine (blanks_any p (s.blanks.adv 1) _ h2 (hf1.adv 1)).mono ?_
    rintro e w3 ⟨rfl, hm3⟩
    go_wp2
    go_ret
    rw [unhide HEQ]
    exact ⟨rfl, (hm1.then hm2).then hm3⟩
/-- fail: what is wrong, and where, is kept. -/
theorem fail_any (p : Nat) (c pl : Nat) (w : World) (c8 : ∃ v, w.cell? ⟨p, 8, none⟩ = some v) (c9 : ∃ v, w.cell? ⟨p, 9, none⟩ = some v) (o8 : w.frozen? ⟨p, 8, none⟩ = false) (o9 : w.frozen? ⟨p, 9, none⟩ = false) :
    Calls Tryz.prog 123 #[.pointer (some ⟨p, 0, none⟩), .int .i64 (c : Nat), .int .i64 (pl : Nat)] w fun e w' => e = .returned (.bool false) ∧ w' = (w.setCell ⟨p, 8, none⟩ (.int .i64 (c : Nat))).setCell ⟨p, 9, none⟩ (.int .i64 (pl : Nat)) := by
  obtain ⟨v8, c8⟩ := c8
  obtain ⟨v9, c9⟩ := c9
  go_enter Tryz.func123, Tryz.ntmps123
  go_wp2
  go_ret
  exact ⟨rfl, rfl⟩
end Go.Proofs.YtjjggncbhenffaaGreatDoor
