/- Several texts, laid as one. -/
import Derived.Test.YthkkfldmoflfaaaGreatDoorGaf
import Derived.Test.YthkkfldmoflfaaaGreatDoorGal
import Derived.Deep.RegionWith
import Derived.Deep.RegionHeld3
import Derived.Deep.DeepCutAuto
import Derived.Test.YthkkfldmoflfaaaGreatDoorGai
import Derived.Test.YthkkfldmoflfaaaGreatDoorGbj
import Derived.Test.YthkkfldmoflfaaaGreatDoorGaj
/- Numbers that are right: the reference's Right and the law's right. -/
namespace Go.Proofs.YthkkfldmoflfaaaGreatDoor
open Go.RowKit
def rightB (k v : Int) : Bool := if k = 0 then decide (-1000000000000000000 ≤ v) && decide (v ≤ 1000000000000000000) else if k = 1 ∨ k = 2 ∨ k = 3 then v == 0 else false
set_option maxHeartbeats 1000000 in
theorem refRight_any (k v : Int) (w : World) :
    Calls Tryz.prog 61 #[.agg #[.int .i64 k, .int .i64 v]] w fun e w' => e = .returned (.bool (rightB k v)) ∧ w' = w.alloc (.cells #[.int .i64 k, .int .i64 v] 27) := by
  by_cases h0 : k = 0
  · subst h0
    go_enter Tryz.func61, Tryz.ntmps61
    go_wp2
    all_goals
      go_ret
      exact ⟨ret_bool (by first | (simp [rightB, *]; done) | (simp [rightB, *]; omega)), rfl⟩
  · by_cases h1 : k = 1 ∨ k = 2 ∨ k = 3
    · have HR := hide (show rightB k v = (v == 0) by unfold rightB; rw [if_neg h0, if_pos h1])
      rcases h1 with rfl | rfl | rfl
      all_goals
        go_enter Tryz.func61, Tryz.ntmps61
        go_wp2
        go_ret
        exact ⟨ret_bool (unhide HR).symm, rfl⟩
    · have HR := hide (show rightB k v = false by unfold rightB; rw [if_neg h0, if_neg h1])
      have e0 : (k == 0) = false := by simpa using h0
      have e1 : (k == 1) = false := by simpa using fun h => h1 (.inl h)
      have e2 : (k == 2) = false := by simpa using fun h => h1 (.inr (.inl h))
      have e3 : (k == 3) = false := by simpa using fun h => h1 (.inr (.inr h))
      clear h0 h1
      go_enter Tryz.func61, Tryz.ntmps61
      go_wp2
      go_ret
      exact ⟨ret_bool (unhide HR).symm, rfl⟩
end Go.Proofs.YthkkfldmoflfaaaGreatDoor
/- Whether a number is right: xnum's Right. -/
namespace Go.Proofs.YthkkfldmoflfaaaGreatDoor
open Go.RowKit
set_option maxHeartbeats 1000000 in
theorem xright_any (k v : Int) (w : World) :
    Calls Tryz.prog 133 #[.agg #[.int .i64 k, .int .i64 v]] w fun e w' => e = .returned (.bool (rightB k v)) ∧ Below w.heap.size w w' := by
  by_cases h0 : k = 0
  · subst h0
    go_enter Tryz.func133, Tryz.ntmps133
    go_wp2
    all_goals
      go_ret
      exact ⟨ret_bool (by first | (simp [rightB, *]; done) | (simp [rightB, *]; omega)), by (repeat first | exact Below.refl _ _ | assumption | refine Below.drew ?_ | refine Below.alloc ?_ (by simp <;> omega) _ | refine Below.setCell ?_ (by simp <;> omega) _)⟩
  · by_cases h1 : k = 1 ∨ k = 2 ∨ k = 3
    · have HR := hide (show rightB k v = (v == 0) by unfold rightB; rw [if_neg h0, if_pos h1])
      rcases h1 with rfl | rfl | rfl
      all_goals
        go_enter Tryz.func133, Tryz.ntmps133
        go_wp2
        go_ret
        exact ⟨ret_bool (unhide HR).symm, by (repeat first | exact Below.refl _ _ | assumption | refine Below.drew ?_ | refine Below.alloc ?_ (by simp <;> omega) _ | refine Below.setCell ?_ (by simp <;> omega) _)⟩
    · have HR := hide (show rightB k v = false by unfold rightB; rw [if_neg h0, if_neg h1])
      have e0 : (k == 0) = false := by simpa using h0
      have e1 : (k == 1) = false := by simpa using fun h => h1 (.inl h)
      have e2 : (k == 2) = false := by simpa using fun h => h1 (.inr (.inl h))
      have e3 : (k == 3) = false := by simpa using fun h => h1 (.inr (.inr h))
      clear h0 h1
      go_enter Tryz.func133, Tryz.ntmps133
      go_wp2
      go_ret
      exact ⟨ret_bool (unhide HR).symm, by (repeat first | exact Below.refl _ _ | assumption | refine Below.drew ?_ | refine Below.alloc ?_ (by simp <;> omega) _ | refine Below.setCell ?_ (by simp <;> omega) _)⟩
end Go.Proofs.YthkkfldmoflfaaaGreatDoor
/- The tokens of a text: xplex's Scan. -/
namespace Go.Proofs.YthkkfldmoflfaaaGreatDoor
open Go.RowKit
/-- What Scan tells of a text that is not too long. -/
def scanned (r : Except Nat (List (Tok × Nat))) (B : Nat) (e : Ending) (w' : World) : Prop := match r with
  | .ok ts => ∃ v, e = .returned (.tuple #[v, .int .i64 0, .int .i64 0]) ∧ OwnL w' B v ts
  | .error p => e = .returned (.tuple #[.slice none 0 0, .int .i64 9, .int .i64 (p : Nat)])
/-- Where Scan jumps to: the place of what is no token is told. -/
abbrev jumpsS (cs : List Nat) (w : World) (a : Act) (w' : World) : Prop := ∃ (p : Nat) (u2 u3 u4 u5 u6 u7 u9 u10 u11 u12 u13 u14 u15 u16 u17 u18 u19 u20 u21 u22 u23 u24 u25 u26 u27 u28 u29 u30 u31 u32 u33 u34 u35 u36 u37 u38 u39 u40 u41 u42 u43 u44 u45 u46 u47 u48 u49 u50 u51 u52 u53 u54 u55 u56 u57 : Value), a = { tmps := #[.string (T cs), undef, u2, u3, u4, u5, u6, u7, .int .i64 (p : Nat), u9, u10, u11, u12, u13, u14, u15, u16, u17, u18, u19, u20, u21, u22, u23, u24, u25, u26, u27, u28, u29, u30, u31, u32, u33, u34, u35, u36, u37, u38, u39, u40, u41, u42, u43, u44, u45, u46, u47, u48, u49, u50, u51, u52, u53, u54, u55, u56, u57], defers := [] } ∧ scanOf cs = .error p ∧ Below w.heap.size w w'
theorem scan_start (cs : List Nat) : scanOf cs = scanA (fun l => (tx l).length) (cs.length + 1) [] (cs.takeWhile blankC) (cs.dropWhile blankC) := by
  unfold scanOf; rw [scan_skip]; rfl
theorem LexAt.newA {w w' : World} (hb : Below (w.alloc (.cells #[.int .i64 0, .string ⟨#[]⟩, .int .i64 0] 62)).heap.size (w.alloc (.cells #[.int .i64 0, .string ⟨#[]⟩, .int .i64 0] 62)) w') : LexAt w' w.heap.size 0 ⟨#[]⟩ 0 :=
  (LexAt.new w 0 0 ⟨#[]⟩ 62).below hb
theorem LexAt.newd {w w' : World} (hb : Below (w.alloc (.cells #[.int .i64 0, .string ⟨#[]⟩, .int .i64 0] 62)).drew.heap.size (w.alloc (.cells #[.int .i64 0, .string ⟨#[]⟩, .int .i64 0] 62)).drew w') : LexAt w' w.heap.size 0 ⟨#[]⟩ 0 :=
  LexAt.below (w := (w.alloc (.cells #[.int .i64 0, .string ⟨#[]⟩, .int .i64 0] 62)).drew) ⟨(LexAt.new w 0 0 ⟨#[]⟩ 62).c0, (LexAt.new w 0 0 ⟨#[]⟩ 62).c1, (LexAt.new w 0 0 ⟨#[]⟩ 62).c2, (LexAt.new w 0 0 ⟨#[]⟩ 62).o0, (LexAt.new w 0 0 ⟨#[]⟩ 62).o1, (LexAt.new w 0 0 ⟨#[]⟩ 62).o2⟩ hb
theorem LexAt.put {w : World} {b : Nat} {k0 a0 : Int} {x0 : ByteArray} (h : LexAt w b k0 x0 a0) (k : Int) (x : ByteArray) : LexAt (((w.setCell ⟨b, 0, none⟩ (.int .i64 k)).setCell ⟨b, 1, none⟩ (.string x)).setCell ⟨b, 2, none⟩ (.int .i64 0)) b k x 0 := by
  obtain ⟨c0, c1, c2, o0, o1, o2⟩ := h
  refine ⟨?_, ?_, ?_, ?_, ?_, ?_⟩
  all_goals simp [go_sem, *]
theorem tokV_none {k n : Int} {x : ByteArray} (h : tokV none = .tuple #[.agg #[.int .i64 k, .string x, .int .i64 0], .int .i64 n]) : k = 0 ∧ x = ⟨#[]⟩ ∧ n = 0 := by
  unfold tokV at h
  cases h
  exact ⟨rfl, rfl, rfl⟩
theorem tokV_some {t : Tok} {k n : Int} {x : ByteArray} (h : tokV (some t) = .tuple #[.agg #[.int .i64 k, .string x, .int .i64 0], .int .i64 n]) : k = (t.kind : Nat) ∧ x = T t.text ∧ n = ((T t.raw).size : Nat) := by
  unfold tokV at h
  cases h
  exact ⟨rfl, rfl, rfl⟩
theorem infoLex : (Tryz.prog.info? 62).map (fun i => (i.zero, i.size, i.bytes)) = some (some (.agg #[.int .i64 0, .string ⟨#[]⟩, .int .i64 0]), 3, 32) := by kernel_rfl
theorem lex_news (w : World) (b : Nat) (y : Value) (k a : Int) (x : ByteArray) : ∀ j u, ([.int .i64 k, .string x, .int .i64 a] : List Value)[j]? = some u →
    ((w.setCell ⟨b, 2, none⟩ y).alloc (.cells #[.int .i64 k, .string x, .int .i64 a] 62)).cell? ((⟨w.heap.size, 0, none⟩ : Addr).add j) = some u := by
  intro j u hj
  rw [Addr.add_mid, Nat.zero_add]
  match j, hj with
  | 0, hj => simp at hj; subst hj; simp [go_sem]
  | 1, hj => simp at hj; subst hj; simp [go_sem]
  | 2, hj => simp at hj; subst hj; simp [go_sem]
theorem lex_ones (k a : Int) (x : ByteArray) : ∀ u ∈ ([.int .i64 k, .string x, .int .i64 a] : List Value), u.oneCell' = true := by
  intro u hu
  simp at hu
  rcases hu with rfl | rfl | rfl <;> rfl
theorem scan_head (n : List Nat → Nat) (f : Nat) (acc : List (Tok × Nat)) (pre l : List Nat) (hne : l ≠ []) (hdw : l.dropWhile blankC = l) : scanA n (f + 1) acc pre l =
    match tokA l (plOf acc) with | none => .error (n pre) | some t => scanA n f (acc ++ [(t, n pre)]) (pre ++ t.raw) (l.drop t.raw.length) := by
  have htw : l.takeWhile blankC = [] := by rw [← hdw]; exact (dropWhile_twice l).2
  rw [scanA, hdw, htw, List.append_nil, if_neg (by cases l with | nil => exact absurd rfl hne | cons _ _ => simp)]
  cases tokA l (plOf acc) <;> rfl
theorem tokV_form (o : Option Tok) : ∃ (k : Int) (x : ByteArray) (n : Int), tokV o = .tuple #[.agg #[.int .i64 k, .string x, .int .i64 0], .int .i64 n] := by
  cases o with
  | none => exact ⟨_, _, _, rfl⟩
  | some t => exact ⟨_, _, _, rfl⟩
set_option maxRecDepth 100000 in
set_option maxHeartbeats 4000000 in
theorem scan_any (cs : List Nat) (w : World) (hl : okL cs) (hs : (T cs).size ≤ 512) (hE : Env5 w) :
    Calls Tryz.prog 11 #[.string (T cs)] w fun e w' => scanned (scanOf cs) w.heap.size e w' ∧ Below w.heap.size w w' := by
  have HE := hide hE
  clear hE
  have hf0 : (fault (T cs)).1 = 0 := (fault_txt (T cs) ((T cs).size + 1) 0 (by omega)).2 (T_txt hl)
  have HF0 := hide hf0
  clear hf0
  have hpb := fun W => pastBlanks_any cs [] cs W rfl hl (by omega)
  have HPB := hide hpb
  clear hpb
  go_enter Tryz.func11, Tryz.ntmps11
  go_wp2_with fail
  refine wp_scope_jumps 0 (jumpsS cs w) (fun _ _ => 0) rfl ?_ ?_
  · go_wp2_with fail
    refine (firstBad_any (T cs) _).mono ?_
    rintro e w1 ⟨⟨k, b, rfl, hkb⟩, hb1⟩
    obtain rfl : b = false := hkb.2 (unhide HF0)
    clear hkb
    go_wp2_with fail
    refine (unhide HPB _).mono ?_
    rintro e w2 ⟨rfl, hb2⟩
    rw [List.nil_append]
    have hbb := Below.then hb1 hb2
    go_wp2_with fail
    go_loopw [7, 8] (fun v at' wr => ∃ acc pre l f, at' = .int .i64 ((tx pre).length : Nat) ∧ cs = pre ++ l ∧ l.dropWhile blankC = l ∧ OwnL wr w.heap.size v acc ∧ scanOf cs = scanA (fun l => (tx l).length) f acc pre l ∧ l.length < f ∧ okToks acc ∧ acc.length ≤ pre.length ∧ Below w.heap.size w wr) (fun _ at' _ => (T cs).size - (intOf at').toNat)
    case atStart =>
      refine ⟨[], cs.takeWhile blankC, cs.dropWhile blankC, cs.length + 1, rfl, (List.takeWhile_append_dropWhile).symm, (dropWhile_twice cs).1, World.ownsRow_nil _ _ _ _, scan_start cs, ?_, (fun _ h => by cases h), Nat.zero_le _, hbb⟩
      have := (List.dropWhile_sublist (p := blankC) (l := cs)).length_le
      omega
    case round =>
      obtain ⟨acc, pre, l, f, rfl, hcs, hdw, hown, hR, hlf, hok, hal, hbr⟩ := hrel
      cases l with
      | nil =>
        have hsz : (tx pre).length = (T cs).size := by rw [hcs, List.append_nil, T_size]
        have hR' : scanOf cs = .ok acc := by
          rw [hR]
          cases f with
          | zero => rfl
          | succ f => rfl
        have hn : acc.length ≤ 512 := by
          have := tx_len_ge (l := pre) (by rw [hcs, List.append_nil] at hl; exact hl)
          omega
        obtain ⟨a, c, rfl⟩ := owns_slice hown
        have HR := hide hR'
        have HO := hide hown
        clear hR hR' hown hcs hdw
        rw [hsz]
        clear hsz
        go_wp2
        change bodyPost Tryz.prog Tryz.f11 (fun e w' => scanned (scanOf cs) w.heap.size e w' ∧ Below w.heap.size w w') Exit.ret _ _
        go_ret3
        refine ⟨?_, hbr⟩
        rw [unhide HR]
        exact ⟨_, rfl, unhide HO⟩
      | cons c0 l0 =>
        have hne : (c0 :: l0) ≠ [] := by simp
        generalize c0 :: l0 = l at *
        have hol := okL_right (hcs ▸ hl)
        have hlen := tx_len_app pre l
        rw [← hcs] at hlen
        have hpos : 0 < (tx l).length := Nat.pos_of_ne_zero fun h0 => hne (tx_len_zero hol h0)
        have hsz : (T cs).size = (tx pre).length + (tx l).length := hlen
        have hlt : (tx pre).length < (T cs).size := by omega
        have hsl : (T l).size ≤ 512 := by rw [T_size]; omega
        have hac : acc.length ≤ 512 := by
          have := tx_len_ge (l := pre) (okL_left (hcs ▸ hl))
          omega
        obtain ⟨g, rfl⟩ : ∃ g, f = g + 1 := ⟨f - 1, by omega⟩
        have hst := hR.trans (scan_head (fun l => (tx l).length) g acc pre l hne hdw)
        have HPL : Hid (∀ W, Below wr.heap.size wr W → Calls Tryz.prog 24 #[u7] W fun e w' => e = .returned (plV (plOf acc)) ∧ Below W.heap.size W w') :=
          hide fun W hW => placeBehind_own w.heap.size u7 acc W (owns_below hown hW) hok (by omega)
        have HTK : Hid (∀ W, Below wr.heap.size wr W → Calls Tryz.prog 23 #[.string ((T cs).extract (tx pre).length (T cs).size), plV (plOf acc)] W fun e w' => e = .returned (tokV (tokA l (plOf acc))) ∧ Below W.heap.size W w') :=
          hide fun W hW => by rw [suf_at hcs]; exact tokenAhead_any l (plOf acc) W hol hsl ((unhide HE).below (Below.then hbr hW))
        obtain ⟨k, x, n, htv⟩ := tokV_form (tokA l (plOf acc))
        have HTV := hide htv
        have HST := hide hst
        have HOWN := hide hown
        have HCS := hide hcs
        have HSZ := hide hsz
        clear htv hst hown hcs hR hdw hsz hlen
        have i1 : (0 : Int) ≤ ((tx pre).length : Int) := by omega
        have i2 : ((tx pre).length : Int) ≤ ((T cs).size : Int) := by omega
        go_wp2_with fail
        go_cut [9, 10] (fun s9 s10 wx => ∃ p, s9 = .pointer (some ⟨p, 0, none⟩) ∧ s10 = .int .i64 n ∧ LexAt wx p k x 0 ∧ wr.heap.size ≤ p ∧ Below wr.heap.size wr wx)
        case first =>
          go_region_held3 (fun w' => Below wr.heap.size wr w') ((repeat first | assumption | refine Below.drew ?_ | refine Below.setCell ?_ (by first | omega | (simp; omega) | (simp; done)) _ | refine Below.alloc ?_ (by first | omega | (simp; omega) | (simp; done)) _ | exact Below.refl _ _))
            (first
              | (go_at_call 24; refine (unhide HPL _ (by (repeat first | assumption | refine Below.drew ?_ | refine Below.setCell ?_ (by first | omega | (simp; omega) | (simp; done)) _ | refine Below.alloc ?_ (by first | omega | (simp; omega) | (simp; done)) _ | exact Below.refl _ _))).mono ?_; rintro e w3 ⟨rfl, hb3⟩; (have hk3 : Below wr.heap.size wr w3 := Below.then (by (repeat first | assumption | refine Below.drew ?_ | refine Below.setCell ?_ (by first | omega | (simp; omega) | (simp; done)) _ | refine Below.alloc ?_ (by first | omega | (simp; omega) | (simp; done)) _ | exact Below.refl _ _)) hb3); (have hz3 := hk3.size); (try have pp := LexAt.newd hb3); (try have pp := LexAt.newA hb3))
              | (go_at_call 23; refine (unhide HTK _ (by (repeat first | assumption | refine Below.drew ?_ | refine Below.setCell ?_ (by first | omega | (simp; omega) | (simp; done)) _ | refine Below.alloc ?_ (by first | omega | (simp; omega) | (simp; done)) _ | exact Below.refl _ _))).mono ?_; rintro e w4 ⟨rfl, hb4⟩; (have hk4 : Below wr.heap.size wr w4 := Below.then (by (repeat first | assumption | refine Below.drew ?_ | refine Below.setCell ?_ (by first | omega | (simp; omega) | (simp; done)) _ | refine Below.alloc ?_ (by first | omega | (simp; omega) | (simp; done)) _ | exact Below.refl _ _)) hb4); (have hz4 := hk4.size); (try have qq := pp.below hb4); (try have qq := LexAt.newA hb4); (try have qq := LexAt.newd hb4); (try have q0 := qq.c0); (try have q1 := qq.c1); (try have q2 := qq.c2); (try have q3 := qq.o0); (try have q4 := qq.o1); (try have q5 := qq.o2); rw [unhide HTV]))
          all_goals (try go_wp2_with fail)
          all_goals go_meet
          · exact ⟨_, rfl, rfl, LexAt.new w4 k 0 x _, by omega, by assumption⟩
          all_goals exact ⟨_, rfl, rfl, LexAt.put qq k x, by omega, by assumption⟩
        case rest =>
          obtain ⟨p, rfl, rfl, hlx, hpg, hbx⟩ := hcut
          cases htk : tokA l (plOf acc) with
          | none =>
            have e := unhide HTV
            rw [htk] at e
            obtain ⟨rfl, rfl, rfl⟩ := tokV_none e
            have hst := unhide HST
            rw [htk] at hst
            have HS2 := hide hst
            clear e hst htk
            go_wp2_with fail
            go_step3
            exact ⟨rfl, (tx pre).length, _, _, _, _, _, _, _, _, _, _, _, _, _, _, _, _, _, _, _, _, _, _, _, _, _, _, _, _, _, _, _, _, _, _, _, _, _, _, _, _, _, _, _, _, _, _, _, _, _, _, _, _, _, _, _, rfl, unhide HS2, Below.then hbr hbx⟩
          | some t =>
            have e := unhide HTV
            rw [htk] at e
            obtain ⟨rfl, rfl, rfl⟩ := tokV_some e
            have hst := unhide HST
            rw [htk] at hst
            have hkd := tok_kind htk
            obtain ⟨hot, hor⟩ := tok_ok hol htk
            obtain ⟨hfm, r, hr⟩ := tokA_formed htk
            have hrn : t.raw ≠ [] := formed_ne hfm
            have hrz : 0 < (tx t.raw).length := Nat.pos_of_ne_zero fun h0 => hrn (tx_len_zero hor h0)
            have hnz : (((T t.raw).size : Nat) : Int) ≠ 0 := by rw [T_size]; omega
            have hnb : ((((T t.raw).size : Nat) : Int) == 0) = false := by simpa using hnz
            have hlr : (tx pre).length + (T t.raw).size ≤ (T cs).size := by
              have h1 := unhide HSZ
              have h2 := tx_len_app t.raw r
              rw [hr] at h2
              rw [T_size t.raw]; omega
            obtain ⟨c0, c1, c2, o0, o1, o2⟩ := hlx
            have hown1 := owns_below (unhide HOWN) hbx
            have hob : ∀ b, u7.ownBlock = some b → b < wr.heap.size := fun b hb => ((unhide HOWN).lt b hb).2
            have hown2 := ownsRow_setCell_other hown1 (a := ⟨p, 2, none⟩) (fun h => by have := hob p h; omega) (.int .i64 ((tx pre).length : Nat))
            have HO2 := hide hown2
            have HST2 := hide hst
            have HR := hide hr
            obtain ⟨i0, hi, hz0, hz1, hz2⟩ := info_parts infoLex
            clear e htk hst hr hown1 hown2 hob
            have hwz : w.heap.size ≤ wc.heap.size := Nat.le_trans hbr.size hbx.size
            go_wp2_with (at_builtin; refine wpList_append_own _ rfl _ _ 42 rfl w.heap.size 62 i0 _ 3 32 Tryz.underlying42 hi hz0 hz1 hz2 rfl (by decide) _ _ _ rfl ((unhide HO2).alloc _) ⟨wc.heap.size, 0, none⟩ 1 1 [.int .i64 (t.kind : Nat), .string (T t.text), .int .i64 ((tx pre).length : Nat)] rfl rfl (lex_news _ _ _ _ _ _) (lex_ones _ _ _) (by unfold maxLen; omega) (by omega) (by simp; omega) ?_)
            intro v' w5 hown' hgrow _
            have hb5 : Below w.heap.size w w5 := by
              have h1 := hbr.size
              have hbA : Below w.heap.size w (wc.setCell ⟨p, 2, none⟩ (.int .i64 ((tx pre).length : Nat))) := (Below.then hbr hbx).setCell (show w.heap.size ≤ p by omega) _
              exact Below.grown (hbA.alloc (by simp; omega) _) hgrow (by simp; omega) (owns_ge (unhide HOWN))
            have hown5 : OwnL w5 w.heap.size v' (acc ++ [(t, (tx pre).length)]) := by
              unfold OwnL
              rw [lexRow_snoc, List.length_append]
              exact hown'
            have HO5 := hide hown5
            have hcs2 : cs = (pre ++ t.raw) ++ r := by rw [unhide HCS, ← unhide HR, List.append_assoc]
            have HPB2 : Hid (∀ W, Calls Tryz.prog 22 #[.string (T cs), .int .i64 (((tx pre).length : Int) + ((T t.raw).size : Int))] W fun e w' => e = .returned (.int .i64 ((tx (pre ++ t.raw ++ r.takeWhile blankC)).length : Nat)) ∧ Below W.heap.size W w') := hide fun W => by
              have := pastBlanks_any cs (pre ++ t.raw) r W hcs2 hl (by omega)
              rw [tx_len_app pre t.raw, Int.natCast_add] at this
              exact this
            have HC2 := hide hcs2
            clear hown' hgrow hown5 hcs2
            go_wp2_with fail
            refine (unhide HPB2 _).mono ?_
            rintro e w6 ⟨rfl, hb6⟩
            go_wp2
            have hlr2 : r.length < g := by
              have h1 := congrArg List.length (unhide HR)
              rw [List.length_append] at h1
              have h2 : 0 < t.raw.length := List.length_pos_iff.2 hrn
              omega
            refine ⟨⟨acc ++ [(t, (tx pre).length)], pre ++ (t.raw ++ r.takeWhile blankC), r.dropWhile blankC, g, rfl, ?_, (dropWhile_twice r).1, owns_below (unhide HO5) hb6, ?_, ?_, ?_, ?_, Below.then hb5 hb6⟩, ?_⟩
            · rw [List.append_assoc pre, List.append_assoc t.raw, List.takeWhile_append_dropWhile, ← List.append_assoc]; exact unhide HC2
            · have h1 := unhide HST2
              rw [← unhide HR, List.drop_left] at h1
              obtain ⟨g', rfl⟩ : ∃ g', g = g' + 1 := ⟨g - 1, by omega⟩
              rw [h1, scan_skip, List.append_assoc pre]
            · have := (List.dropWhile_sublist (p := blankC) (l := r)).length_le
              omega
            · intro y hy
              rcases List.mem_append.1 hy with hy | hy
              · exact hok y hy
              · rw [List.mem_singleton.1 hy]; exact ⟨hot, hkd⟩
            · have h2 : 0 < t.raw.length := List.length_pos_iff.2 hrn
              rw [List.length_append, List.length_append, List.length_append, List.length_singleton]
              omega
            · have h1 := tx_len_app pre (t.raw ++ r.takeWhile blankC)
              have h2 := tx_len_app t.raw (r.takeWhile blankC)
              simp only [intOf]
              rw [Int.toNat_natCast, Int.toNat_natCast]
              omega
  · rintro a w' ⟨p, u2, u3, u4, u5, u6, u7, u9, u10, u11, u12, u13, u14, u15, u16, u17, u18, u19, u20, u21, u22, u23, u24, u25, u26, u27, u28, u29, u30, u31, u32, u33, u34, u35, u36, u37, u38, u39, u40, u41, u42, u43, u44, u45, u46, u47, u48, u49, u50, u51, u52, u53, u54, u55, u56, u57, rfl, he, hbb⟩
    go_wp2_with fail
    change bodyPost Tryz.prog Tryz.f11 (fun e w' => scanned (scanOf cs) w.heap.size e w' ∧ Below w.heap.size w w') Exit.ret _ _
    go_ret3
    refine ⟨?_, hbb⟩
    rw [he]
    rfl
end Go.Proofs.YthkkfldmoflfaaaGreatDoor
/- Scan of texts that are too long, or hold what may not be; and the law's 'live'. -/
namespace Go.Proofs.YthkkfldmoflfaaaGreatDoor
open Go.RowKit
set_option maxRecDepth 100000 in
set_option maxHeartbeats 1000000 in
theorem scan_long (s : ByteArray) (w : World) (h : 512 < s.size) :
    Calls Tryz.prog 11 #[.string s] w fun e w' => e = .returned (.tuple #[.slice none 0 0, .int .i64 6, .int .i64 0]) ∧ Below w.heap.size w w' := by
  have h' : (512 : Int) < (s.size : Int) := by omega
  go_enter Tryz.func11, Tryz.ntmps11
  go_wp2_with fail
  go_step3
  go_wp2_with fail
  rw [Exit.noGoto_ret]
  go_ret3
  exact ⟨rfl, Below.refl _ _⟩
set_option maxRecDepth 100000 in
set_option maxHeartbeats 1000000 in
theorem scan_bad (s : ByteArray) (w : World) (h : s.size ≤ 512) (hf : (fault s).1 ≠ 0) :
    Calls Tryz.prog 11 #[.string s] w fun e w' => (∃ k, e = .returned (.tuple #[.slice none 0 0, .int .i64 4, .int .i64 k])) ∧ Below w.heap.size w w' := by
  have HF := hide hf
  clear hf
  go_enter Tryz.func11, Tryz.ntmps11
  go_wp2_with fail
  go_step3
  go_wp2_with fail
  refine (firstBad_any s _).mono ?_
  rintro e w1 ⟨⟨k, b, rfl, hkb⟩, hb1⟩
  obtain rfl : b = true := by
    cases b
    · exact absurd (hkb.1 rfl) (unhide HF)
    · rfl
  clear hkb
  go_wp2_with fail
  rw [Exit.noGoto_ret]
  go_ret3
  exact ⟨⟨k, rfl⟩, hb1⟩
/-- Every text is too long, or holds what may not be, or is one of characters that may be. -/
theorem text_cases (s : ByteArray) : 512 < s.size ∨ (s.size ≤ 512 ∧ (fault s).1 ≠ 0) ∨ (s.size ≤ 512 ∧ ∃ cs, okL cs ∧ s = T cs) := by
  by_cases h : 512 < s.size
  · exact .inl h
  · by_cases hf : (fault s).1 = 0
    · exact .inr (.inr ⟨by omega, txt_T ((fault_txt s (s.size + 1) 0 (by omega)).1 hf)⟩)
    · exact .inr (.inl ⟨by omega, hf⟩)
end Go.Proofs.YthkkfldmoflfaaaGreatDoor
/- XplexLiterals: a string is read as itself; one with both signs is none. -/
namespace Go.Proofs.YthkkfldmoflfaaaGreatDoor
open Go.RowKit
/-- A text with a sign at both ends. -/
def quoted (q : UInt8) (s : ByteArray) : ByteArray := ⟨#[q]⟩ ++ s ++ ⟨#[q]⟩
theorem contains_bytes (s : ByteArray) (c : UInt8) : decide (0 ≤ Lib.indexByte s.data.toList c) = s.data.toList.contains c := by
  by_cases hm : c ∈ s.data.toList
  · obtain ⟨a, b, e, hn⟩ := List.eq_append_cons_of_mem hm
    have : 0 ≤ Lib.indexByte s.data.toList c := by rw [e, indexByte_first _ _ _ hn]; omega
    rw [decide_eq_true this]
    exact (List.contains_iff_mem.2 hm).symm
  · rw [indexByte_none _ _ hm]
    have : s.data.toList.contains c = false := by
      cases hx : s.data.toList.contains c
      · rfl
      · exact absurd (List.contains_iff_mem.1 hx) hm
    rw [this]; rfl
/-- The sign that a text is written with; none: it holds both. -/
def litQ (l : List UInt8) : Option UInt8 := if l.contains 34 then (if l.contains 39 then none else some 39) else some 34
def litV (s : ByteArray) : Value := match litQ s.data.toList with
  | some q => .tuple #[.string (quoted q s), .int .i64 0]
  | none => .tuple #[.string ⟨#[]⟩, .int .i64 9]
set_option maxHeartbeats 1000000 in
theorem literal_any (s : ByteArray) (w : World) (hs : s.size ≤ 2000000) :
    Calls Tryz.prog 92 #[.string s] w fun e w' => e = .returned (litV s) ∧ w' = w := by
  have i0 : ∀ w, (Instr.index 117 (.agg #[.string ⟨#[34]⟩, .string ⟨#[39]⟩]) (.int .i64 0)).run Tryz.prog w = .ok (.string ⟨#[34]⟩) w := fun _ => by kernel_rfl
  have i1 : ∀ w, (Instr.index 117 (.agg #[.string ⟨#[34]⟩, .string ⟨#[39]⟩]) (.int .i64 1)).run Tryz.prog w = .ok (.string ⟨#[39]⟩) w := fun _ => by kernel_rfl
  have hq : ∀ q : UInt8, (⟨#[q]⟩ : ByteArray).size = 1 := fun _ => rfl
  have HV : Hid (litV s = match (if s.data.toList.contains 34 then (if s.data.toList.contains 39 then none else some 39) else some 34 : Option UInt8) with
    | some q => .tuple #[.string (quoted q s), .int .i64 0] | none => .tuple #[.string ⟨#[]⟩, .int .i64 9]) := hide rfl
  go_enter Tryz.func92, Tryz.ntmps92
  go_wp2_with fail
  refine wp_loop_rounds 3 ?_
  rw [rounds_succ]
  go_wp2_with fail
  refine (Tryz.strings_Contains_one s 34 _).mono ?_
  rintro e w1 ⟨rfl, rfl⟩
  rw [contains_bytes]
  cases h1 : s.data.toList.contains 34
  · have H1 := hide h1
    clear h1
    go_wp2
    go_ret2
    refine ⟨?_, rfl⟩
    rw [unhide HV, unhide H1, if_neg (by decide)]
    rfl
  · have H1 := hide h1
    clear h1
    go_wp2_with fail
    rw [rounds_succ]
    go_wp2_with fail
    refine (Tryz.strings_Contains_one s 39 _).mono ?_
    rintro e w1 ⟨rfl, rfl⟩
    rw [contains_bytes]
    cases h2 : s.data.toList.contains 39
    · have H2 := hide h2
      clear h2
      go_wp2
      go_ret2
      refine ⟨?_, rfl⟩
      rw [unhide HV, unhide H1, unhide H2, if_pos rfl, if_neg (by decide)]
      rfl
    · have H2 := hide h2
      clear h2
      go_wp2_with fail
      rw [rounds_succ]
      go_wp2
      go_ret2
      refine ⟨?_, rfl⟩
      rw [unhide HV, unhide H1, unhide H2, if_pos rfl, if_pos rfl]
      rfl
end Go.Proofs.YthkkfldmoflfaaaGreatDoor
/- The fields of an expression: xparse's isQName, isLiteral, rightTest, rightFields. -/
namespace Go.Proofs.YthkkfldmoflfaaaGreatDoor
open Go.RowKit Go.Maps
def litX (t : List Nat) : Bool := (litQ (tx t)).isSome
def testX (k : Nat) (t : List Nat) : Bool := if k = 0 ∨ k = 3 ∨ k = 4 ∨ k = 5 then t == [] else if k = 1 then isNm t else if k = 2 then isQ t else if k = 6 then litX t else false
def restX (t : List Nat) (n : Int) (a k : Nat) : Bool := t == [] && (n == 0 && (a == 0 && k == 0))
def flX (x : Ex) : Bool :=
  if x.op = 16 then (rightB 0 x.num && decide (0 ≤ x.num)) && restX x.text 0 x.axis x.test
  else if x.op = 17 then litX x.text && restX [] x.num x.axis x.test
  else if x.op = 18 then isQ x.text && restX [] x.num x.axis x.test
  else if x.op = 19 then (isQ x.text && (typeNo x.text).isNone) && restX [] x.num x.axis x.test
  else if x.op = 23 then (decide (x.axis < 12) && testX x.test x.text) && restX [] x.num 0 0
  else restX x.text x.num x.axis x.test
theorem pfault_T {t : List Nat} (ht : okL t) : (fault (T t)).1 = 0 := (fault_txt (T t) ((T t).size + 1) 0 (by omega)).2 (T_txt ht)
theorem pisText_T (t : List Nat) (ht : okL t) (w : World) :
    Calls Tryz.prog 157 #[.string (T t)] w fun e w' => e = .returned (.bool true) ∧ Below w.heap.size w w' := by
  have h : textB (T t) = true := by unfold textB; rw [pfault_T ht]; rfl
  rw [← h]
  exact isText_any (T t) w
theorem pisName_T (t : List Nat) (ht : okL t) (hz : (T t).size ≤ 4000) (w : World) (hE : Env w) :
    Calls Tryz.prog 74 #[.string (T t)] w fun e w' => e = .returned (.bool (isNm t)) ∧ Below w.heap.size w w' := by
  rw [← nameB_T ht]
  exact isName_any (T t) w (by unfold maxLen; omega) hE
set_option maxRecDepth 100000 in
set_option maxHeartbeats 4000000 in
theorem pisQName_any (t : List Nat) (w : World) (ht : okL t) (hz : (T t).size ≤ 4000) (hE : Env w) :
    Calls Tryz.prog 135 #[.string (T t)] w fun e w' => e = .returned (.bool (isQ t)) ∧ Below w.heap.size w w' := by
  have hs : ∃ P N, splitV (T t).data.toList = .tuple #[.string P, .string N, .bool (isQ t)] := by
    unfold splitV
    rw [splitB_T ht]
    cases isQ t
    · exact ⟨_, _, rfl⟩
    · exact ⟨_, _, rfl⟩
  obtain ⟨P, N, hs⟩ := hs
  have hC := split_any (T t) w (by omega) hE
  rw [hs] at hC
  have HC := hide hC
  clear hC hs hE
  go_enter Tryz.func135, Tryz.ntmps135
  go_wp2_with fail
  refine (unhide HC).mono ?_
  rintro e w1 ⟨rfl, hb1⟩
  go_wp2_with fail
  go_returns
  exact ⟨rfl, hb1⟩
set_option maxRecDepth 100000 in
set_option maxHeartbeats 4000000 in
theorem pisLiteral_any (t : List Nat) (w : World) (ht : okL t) (hz : (T t).size ≤ 4000) :
    Calls Tryz.prog 134 #[.string (T t)] w fun e w' => e = .returned (.bool (litX t)) ∧ Below w.heap.size w w' := by
  have hC := literal_any (T t) w (by omega)
  have HI := hide (pisText_T t ht w)
  have hs : ∃ P, litV (T t) = .tuple #[.string P, .int .i64 (if litX t then 0 else 9)] := by
    unfold litV litX
    rw [T_data]
    cases litQ (tx t)
    · exact ⟨_, rfl⟩
    · exact ⟨_, rfl⟩
  obtain ⟨P, hs⟩ := hs
  rw [hs] at hC
  cases hb : litX t
  · rw [hb, if_neg (by decide)] at hC
    have HC := hide hC
    clear hC hs hb
    go_enter Tryz.func134, Tryz.ntmps134
    go_wp2_with fail
    refine (unhide HC).mono ?_
    rintro e w1 ⟨rfl, rfl⟩
    go_wp2_with fail
    go_returns
    exact ⟨rfl, Below.refl _ _⟩
  · rw [hb, if_pos rfl] at hC
    have HC := hide hC
    clear hC hs hb
    go_enter Tryz.func134, Tryz.ntmps134
    go_wp2_with fail
    refine (unhide HC).mono ?_
    rintro e w1 ⟨rfl, rfl⟩
    go_wp2_with fail
    refine (unhide HI).mono ?_
    rintro e w2 ⟨rfl, hb2⟩
    go_wp2_with fail
    go_returns
    exact ⟨rfl, hb2⟩
theorem pempty_T {t : List Nat} (ht : okL t) : (T t).toList.isEmpty = (t == []) := by
  cases t with
  | nil => rw [T_toList]; rfl
  | cons c l =>
    have : (T (c :: l)).toList ≠ [] := fun h => by
      have := (T_empty ht).1 h
      cases this
    cases h : (T (c :: l)).toList with
    | nil => exact absurd h this
    | cons _ _ => rfl
set_option maxRecDepth 100000 in
set_option maxHeartbeats 4000000 in
theorem prightTest_any (k : Nat) (t : List Nat) (w : World) (ht : okL t) (hz : (T t).size ≤ 4000) (hE : Env w) :
    Calls Tryz.prog 137 #[.int .i64 (k : Nat), .string (T t)] w fun e w' => e = .returned (.bool (testX k t)) ∧ Below w.heap.size w w' := by
  have HE := hide (pempty_T ht)
  have HN := hide (pisName_T t ht hz w hE)
  have HQ := hide (pisQName_any t w ht hz hE)
  have HL := hide (pisLiteral_any t w ht hz)
  clear hE
  by_cases h0 : k = 0 ∨ k = 3 ∨ k = 4 ∨ k = 5
  · have e1 : testX k t = (t == []) := by unfold testX; rw [if_pos h0]
    rw [e1]
    clear e1
    have q := unhide HE
    cases hb : (t == [])
    all_goals
      rw [hb] at q
      rcases h0 with rfl | rfl | rfl | rfl
      all_goals
        go_enter Tryz.func137, Tryz.ntmps137
        go_wp2_with fail
        go_returns
        exact ⟨rfl, Below.refl _ _⟩
  · by_cases h1 : k = 1
    · subst h1
      have e1 : testX 1 t = isNm t := rfl
      rw [e1]
      go_enter Tryz.func137, Tryz.ntmps137
      go_wp2_with fail
      refine (unhide HN).mono ?_
      rintro e w1 ⟨rfl, hb1⟩
      go_wp2_with fail
      go_returns
      exact ⟨rfl, hb1⟩
    · by_cases h2 : k = 2
      · subst h2
        have e1 : testX 2 t = isQ t := rfl
        rw [e1]
        go_enter Tryz.func137, Tryz.ntmps137
        go_wp2_with fail
        refine (unhide HQ).mono ?_
        rintro e w1 ⟨rfl, hb1⟩
        go_wp2_with fail
        go_returns
        exact ⟨rfl, hb1⟩
      · by_cases h6 : k = 6
        · subst h6
          have e1 : testX 6 t = litX t := rfl
          rw [e1]
          go_enter Tryz.func137, Tryz.ntmps137
          go_wp2_with fail
          refine (unhide HL).mono ?_
          rintro e w1 ⟨rfl, hb1⟩
          go_wp2_with fail
          go_returns
          exact ⟨rfl, hb1⟩
        · have e1 : testX k t = false := by unfold testX; rw [if_neg h0, if_neg h1, if_neg h2, if_neg h6]
          rw [e1]
          have n0 : (((k : Nat) : Int) == 0) = false := icast_ne (by omega)
          have n1 : (((k : Nat) : Int) == 1) = false := icast_ne (by omega)
          have n2 : (((k : Nat) : Int) == 2) = false := icast_ne (by omega)
          have n3 : (((k : Nat) : Int) == 3) = false := icast_ne (by omega)
          have n4 : (((k : Nat) : Int) == 4) = false := icast_ne (by omega)
          have n5 : (((k : Nat) : Int) == 5) = false := icast_ne (by omega)
          have n6 : (((k : Nat) : Int) == 6) = false := icast_ne (by omega)
          clear h0 h1 h2 h6 e1
          go_enter Tryz.func137, Tryz.ntmps137
          go_wp2_with fail
          go_returns
          exact ⟨rfl, Below.refl _ _⟩
end Go.Proofs.YthkkfldmoflfaaaGreatDoor
