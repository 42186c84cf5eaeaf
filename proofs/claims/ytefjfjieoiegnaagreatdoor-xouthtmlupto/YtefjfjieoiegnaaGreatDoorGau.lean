/- Several texts, laid as one. -/
import Derived.Test.YtefjfjieoiegnaaGreatDoorGat
import Derived.Test.YtefjfjieoiegnaaGreatDoorGaq
import Derived.Test.YtefjfjieoiegnaaGreatDoorGar
import Derived.Test.YtefjfjieoiegnaaGreatDoorGas
/- A declaration of an entity: xmlscan's entity. -/
namespace Go.Proofs.YtefjfjieoiegnaaGreatDoor
open Go.RowKit
/-- What reading a declaration leaves: it was none, or the reader behind it, maybe with an entity more. -/
def entP (o : Option RS) (B p m : Nat) (vo vt vr : Value) (e : Ending) (w w' : World) : Prop := Below B w w' ∧ match o with
  | none => e = .returned (.bool false) ∧ ∃ c, w'.heap[p]? = some (.cells c 63 (0, 0)) ∧ c.size = 10
  | some s' => e = .returned (.bool true) ∧ Rd w' B p m vo vt vr s'
theorem entity_eq (s : RS) : s.entity = if !s.blank then none else
    if (nameA s.blanks.rest).isEmpty || !s.blanks.name.blank then none else
    match s.blanks.name.blanks.quoted with
    | none => none
    | some (t, s3) =>
      if !isEntText t then none else
      if !heads 62 s3.blanks.rest then none else
      some (if (entX s.ents (nameA s.blanks.rest)).isSome then s3.blanks.adv 1 else { s3.blanks.adv 1 with ents := s.ents ++ [(nameA s.blanks.rest, t)] }) := rfl
theorem quoted_ok {s s' : RS} {t : List Nat} (hf : Fine s) (h : s.quoted = some (t, s')) : okL t ∧ (T t).size ≤ 32768 := by
  have hd : s.quoted = match s.quote with | none => none | some (q, s1) => s1.takeTo [q] := rfl
  rw [hd] at h
  split at h
  · cases h
  · rename_i q s1 hq
    obtain ⟨e1, _, hqs⟩ := quote_some hq
    have hqa : ∀ c ∈ [q], c < 128 := by
      rcases hqs with rfl | ⟨rfl, _⟩ <;> decide
    obtain ⟨_, y, hc, _⟩ := Adv.takeTo h
    have f1 : Fine s1 := by rw [e1]; exact hf.adv 1
    have h2 := cut_place hqa (by simp) f1 hc
    have h3 := f1.lt
    exact ⟨okL_left (okL_left ((cutL_app hqa (by simp) f1.okR hc) ▸ f1.okR)), by omega⟩
/-- An entity more, in the map. -/
theorem Rd.declared {w w' : World} {B p m : Nat} {vo vt vr : Value} {s : RS} (R : Rd w B p m vo vt vr s) {n t : List Nat} (hn : okL n) (ht : okL t) (hg : w.grownBy w' (some m)) (hown : w'.ownsMap Tryz.prog 9 entElem m (s.ents.length + 1) ((entsD s.ents).put (.string (tx n)) (.agg [.lit (.string (tx t))]))) :
    Rd w' B p m vo vt vr { s with ents := s.ents ++ [(n, t)] } := by
  obtain ⟨es, ck, hm⟩ := R.ents.map
  have hk : ∀ k o, w.heap[k]? = some o → ¬ (k = m) → w'.heap[k]? = some o := fun k o ho hs => by
    rw [hg.block k (Array.getElem?_eq_some_iff.1 ho).1 (fun e => hs (by cases e; rfl))]; exact ho
  have hrow : ∀ {base : Nat} {e : TypeId} {size : Nat} {v : Value} {n : Nat} {xs : List Value}, w.ownsRow base e size v n xs → w'.ownsRow base e size v n xs := fun ho =>
    owns_kept (S := (· = m)) ho hk fun k hk' hs => by
      subst hs
      obtain ⟨c, hc⟩ := owns_type ho hk'
      rw [hm] at hc
      cases hc
  refine ⟨?_, R.low, ⟨R.ents.1, fun x hx => ?_, by rw [List.length_append, entsD_snoc]; exact hown⟩, hrow R.opn, ?_, hrow R.run⟩
  · rw [hg.block p R.lt (fun e => R.ents.ne R.blk (by cases e; rfl))]; exact R.blk
  · rcases List.mem_append.1 hx with hx | hx
    · exact R.ents.2.1 x hx
    · rw [List.mem_singleton.1 hx]; exact ⟨hn, ht⟩
  · refine R.toks.kept (· = m) hk fun k c hs => ?_
    subst hs
    rw [hm]
    exact ⟨fun e => (by cases e), fun e => (by cases e)⟩
set_option maxRecDepth 100000 in
set_option maxHeartbeats 4000000 in
theorem entity_any (B p m : Nat) (vo vt vr : Value) (s : RS) (w : World) (R : Rd w B p m vo vt vr s) (hG : Good s) (hE : XEnv B w) (hN : EOk s.ents) (hle : s.ents.length ≤ 100000) :
    Calls Tryz.prog 136 #[.pointer (some ⟨p, 0, none⟩)] w fun e w' => entP s.entity B p m vo vt vr e w w' := by
  have hlow := R.low
  have hlt := R.lt
  have hBw : B ≤ w.heap.size := by omega
  have HD := hide (entity_eq s)
  go_enter Tryz.func136, Tryz.ntmps136
  go_wp2_with fail
  refine (blanks_any p s _ R.at hG.fine).mono ?_
  rintro e w1 ⟨rfl, hm1⟩
  have R1 := R.moved hm1 (Adv.blanks s)
  have G1 := hG.to (Adv.blanks s)
  have hb1 := hm1.low hlow hBw
  have hen1 : s.blanks.ents = s.ents := rfl
  cases hbl : s.blank
  · have HEQ : Hid (s.entity = none) := hide (by rw [unhide HD, hbl]; rfl)
    clear HD hbl
    go_wp2
    go_ret
    rw [unhide HEQ]
    exact ⟨hb1, rfl, _, R1.blk, rfl⟩
  · have hd := unhide HD
    rw [hbl, if_neg (by decide)] at hd
    clear HD hbl hm1
    generalize hg1 : s.blanks = s1 at *
    clear hg1
    go_wp2_with fail
    refine (name_any p s1 _ R1.at G1.fine).mono ?_
    rintro e w2 ⟨rfl, hm2⟩
    have R2 := R1.moved hm2 (Adv.name s1)
    have G2 := G1.to (Adv.name s1)
    have hb2 := hb1.trans (hm2.low hlow (by have := R1.lt; omega))
    have hon := okL_pre G1.fine.okR (nameA_pre s1.rest)
    have hsn := size_pre (nameA_pre s1.rest)
    have hz1 := G1.fine.lt
    have hen2 : s1.name.ents = s.ents := hen1
    clear hm2
    generalize hgn : nameA s1.rest = n at *
    generalize hg2 : s1.name = s2 at *
    clear hgn hg2
    by_cases hn0 : n = []
    · have e1 := nil_T hn0
      have HEQ : Hid (s.entity = none) := hide (by rw [hd, hn0]; rfl)
      clear hd hn0
      go_wp2
      go_ret
      rw [unhide HEQ]
      exact ⟨hb2, rfl, _, R2.blk, rfl⟩
    · have e1 := ne_T hon hn0
      have hne : n.isEmpty = false := by cases n with | nil => exact absurd rfl hn0 | cons _ _ => rfl
      rw [hne, Bool.false_or] at hd
      have HN0 := hide hn0
      clear hn0
      go_wp2_with fail
      refine (blanks_any p s2 _ R2.at G2.fine).mono ?_
      rintro e w3 ⟨rfl, hm3⟩
      have R3 := R2.moved hm3 (Adv.blanks s2)
      have G3 := G2.to (Adv.blanks s2)
      have hb3 := hb2.trans (hm3.low hlow (by have := R2.lt; omega))
      have hen3 : s2.blanks.ents = s.ents := hen2
      cases hbl2 : s2.blank
      · have HEQ : Hid (s.entity = none) := hide (by rw [hd, hbl2]; rfl)
        clear hd hbl2
        go_wp2
        go_ret
        rw [unhide HEQ]
        exact ⟨hb3, rfl, _, R3.blk, rfl⟩
      · rw [hbl2, if_neg (by decide)] at hd
        clear hbl2 hm3
        generalize hg3 : s2.blanks = s3 at *
        clear hg3
        have HD := hide hd
        clear hd
        go_wp2_with fail
        refine (quoted_any B p s3 _ R3.at G3.fine (hE.low hb3) hlow).mono ?_
        intro e w4 hq
        cases hqu : s3.quoted with
        | none =>
          rw [hqu] at hq
          obtain ⟨y, k, rfl, hm4⟩ := hq
          have HEQ : Hid (s.entity = none) := hide (by rw [unhide HD, hqu])
          obtain ⟨cc, hcc, hcs⟩ := moved_blk R3 hm4
          have hb4 := hb3.trans (hm4.low hlow (by have := R3.lt; omega))
          clear HD hqu hm4
          go_wp2
          go_ret
          rw [unhide HEQ]
          exact ⟨hb4, rfl, cc, hcc, hcs⟩
        | some x =>
          obtain ⟨t, s4⟩ := x
          rw [hqu] at hq
          obtain ⟨rfl, hm4⟩ := hq
          have hd := unhide HD
          rw [hqu] at hd
          simp only at hd
          have R4 := R3.moved hm4 (Adv.quoted hqu)
          have G4 := G3.to (Adv.quoted hqu)
          have hb4 := hb3.trans (hm4.low hlow (by have := R3.lt; omega))
          have hen4 : s4.ents = s.ents := (Adv.quoted hqu).t.same.1.trans hen3
          obtain ⟨hot, hts⟩ := quoted_ok G3.fine hqu
          clear HD hqu hm4
          go_wp2_with fail
          refine (isEntityText_any t _ hot (by omega)).mono ?_
          rintro e w5 ⟨rfl, hb5⟩
          have R5 := R4.on hb5
          have hb05 := hb4.trans (hb5.mono (by have := R4.lt; omega))
          cases hit : isEntText t
          · have HEQ : Hid (s.entity = none) := hide (by rw [hd, hit]; rfl)
            clear hd hit
            go_wp2
            go_ret
            rw [unhide HEQ]
            exact ⟨hb05, rfl, _, R5.blk, rfl⟩
          · rw [hit, Bool.not_true, if_neg (by decide)] at hd
            have HD := hide hd
            clear hd hit
            go_wp2_with fail
            refine (blanks_any p s4 _ R5.at G4.fine).mono ?_
            rintro e w6 ⟨rfl, hm6⟩
            have R6 := R5.moved hm6 (Adv.blanks s4)
            have G6 := G4.to (Adv.blanks s4)
            have hb6 := hb05.trans (hm6.low hlow (by have := R5.lt; omega))
            have hen6 : s4.blanks.ents = s.ents := hen4
            have hd := unhide HD
            clear HD hm6
            generalize hg6 : s4.blanks = s6 at *
            clear hg6
            go_wp2_with fail
            cases h62 : heads 62 s6.rest
            · have HEQ : Hid (s.entity = none) := hide (by rw [hd, h62]; rfl)
              refine (take_no [62] ⟨#[62]⟩ rfl (by decide) p s6 _ R6.at G6.fine (by rw [isPre_one]; exact h62)).mono ?_
              rintro e w7 ⟨rfl, hb7⟩
              have R7 := R6.on hb7
              clear hd h62
              go_wp2
              go_ret
              rw [unhide HEQ]
              exact ⟨hb6.trans (hb7.mono (by have := R6.lt; omega)), rfl, _, R7.blk, rfl⟩
            · refine (take_yes [62] ⟨#[62]⟩ rfl (by decide) p s6 _ R6.at G6.fine (by rw [isPre_one]; exact h62)).mono ?_
              rintro e w7 ⟨rfl, hm7⟩
              rw [h62, Bool.not_true, if_neg (by decide)] at hd
              have R7 := R6.moved hm7 (Adv.by s6 1)
              have hb7 := hb6.trans (hm7.low hlow (by have := R6.lt; omega))
              have hen7 : (s6.adv 1).ents = s.ents := hen6
              generalize hg7 : s6.adv 1 = s7 at *
              clear hm7 h62 hg7
              have c2 : w7.cell? ⟨p, 2, none⟩ = some (.map (some m)) := blk_cell R7.blk 2
              have hlk := look_any R7.ents (by rw [hen7]; exact hN.u) hon (by omega)
              rw [hen7] at hlk
              have HR7 := hide R7
              have HD := hide hd
              clear hd R6 R7
              cases hk : (entX s.ents n).isSome
              · rw [hk] at hlk
                have HEQ : Hid (s.entity = some { s7 with ents := s.ents ++ [(n, t)] }) := hide (by rw [unhide HD, hk]; rfl)
                have hbA : Below w7.heap.size w7 (w7.alloc (.cells #[.string (T (entTxt s.ents n))] 154 (0, 0))) := (Below.refl _ _).alloc (Nat.le_refl _) _
                have R8 := (unhide HR7).on hbA
                have d2 := keptC hbA c2
                have HKY : Hid (keyOf Tryz.prog 9 (.string (T n)) = some (.string (tx n))) := hide (by rw [← T_data]; exact Go.WideMaps.keyOf_string_mk Tryz.underlying9 (by unfold maxLen; omega : (T n).size ≤ maxLen))
                have HPE : Hid (entElem (.agg #[.string (T t)]) = some (.agg [.lit (.string (tx t))], [])) := hide (by show some (DataW.agg [DataW.lit (Lit.string (T t).data.toList)], []) = _; rw [T_data])
                have HM : Hid ((w7.alloc (.cells #[.string (T (entTxt s.ents n))] 154 (0, 0))).ownsMap Tryz.prog 9 entElem m s.ents.length (entsD s.ents)) := hide (by have := R8.ents.2.2; rw [hen7] at this; exact this)
                have hlen : s.ents.length < maxLen := by unfold maxLen; omega
                have HR8 := hide R8
                have hb8 := hb7.trans (hbA.mono (by have := (unhide HR7).lt; omega))
                clear HD hk R8
                go_wp2_with (at_mapUpdate; refine wpList_mapUpdate_own _ rfl _ _ _ 61 rfl 9 154 (Maps.string_keyed Tryz.underlying9) Tryz.underlying61 entElem m s.ents.length (entsD s.ents) rfl (unhide HM) hlen _ _ (.string (tx n)) rfl rfl (unhide HKY) (.agg [.lit (.string (tx t))]) [] (unhide HPE) ?_; intro w9 hown9 hgrow9)
                have hR9 := (unhide HR8).declared hon hot hgrow9 (by rw [hen7]; exact hown9)
                rw [hen7] at hR9
                have hb9 : Below B w w9 := hb8.grown hgrow9 (by have := (unhide HR8).lt; omega) (fun k hk => by cases hk; exact (unhide HR8).ents.1)
                go_ret
                rw [unhide HEQ]
                exact ⟨hb9, rfl, hR9⟩
              · rw [hk] at hlk
                have HEQ : Hid (s.entity = some s7) := hide (by rw [unhide HD, hk]; rfl)
                clear HD hk
                go_wp2
                go_ret
                rw [unhide HEQ]
                exact ⟨hb7.trans ((Below.refl _ _).alloc (by have := (unhide HR7).lt; omega) _), rfl, (unhide HR7).on ((Below.refl _ _).alloc (Nat.le_refl _) _)⟩
end Go.Proofs.YtefjfjieoiegnaaGreatDoor
/- Declarations of a document type: what each leaves. -/
namespace Go.Proofs.YtefjfjieoiegnaaGreatDoor
open Go.RowKit
theorem entX_not {l : List (List Nat × List Nat)} {n : List Nat} (h : (entX l n).isSome = false) : ∀ x ∈ l, x.1 ≠ n := by
  intro x hx he
  unfold entX at h
  rw [Option.isSome_map, List.find?_isSome.2 ⟨x, hx, by simp [he]⟩] at h
  cases h
theorem EOk.snoc {l : List (List Nat × List Nat)} {n t : List Nat} (h : EOk l) (hx : (entX l n).isSome = false) (hn : n ≠ []) (hz : (T t).size ≤ 32768) (on : okL n) (ot : okL t) : EOk (l ++ [(n, t)]) := by
  refine ⟨?_, ?_, ?_, ?_⟩
  · unfold UniqE
    rw [List.pairwise_append]
    refine ⟨h.u, List.pairwise_singleton _ _, fun a ha b hb => ?_⟩
    rw [List.mem_singleton.1 hb]
    exact entX_not hx a ha
  all_goals
    intro x hm
    rcases List.mem_append.1 hm with hm | hm
  · exact h.ne x hm
  · rw [List.mem_singleton.1 hm]; exact hn
  · exact h.z x hm
  · rw [List.mem_singleton.1 hm]; exact hz
  · exact h.ok x hm
  · rw [List.mem_singleton.1 hm]; exact ⟨on, ot⟩
/-- What a declaration leaves. -/
structure Declared (s s' : RS) : Prop where
  good : Good s'
  ents : EOk s'.ents
  opn : s'.opn = s.opn
  len : s'.rest.length ≤ s.rest.length
  more : s'.ents.length ≤ s.ents.length + 1
theorem Declared.of {s s' : RS} (hG : Good s) (hN : EOk s.ents) (h : Adv s s') : Declared s s' :=
  ⟨hG.to h, EOk.of h.same.1 hN, h.same.2.1, h.len, by rw [h.same.1]; omega⟩
theorem entity_ok {s s' : RS} (hG : Good s) (hN : EOk s.ents) (h : s.entity = some s') : Declared s s' := by
  rw [entity_eq] at h
  split at h
  · cases h
  · split at h
    · cases h
    · rename_i hb hn
      split at h
      · cases h
      · rename_i t s3 hq
        split at h
        · cases h
        · split at h
          · cases h
          · have ha : Adv s (s3.blanks.adv 1) := ((((((Adv.blanks s).then (Adv.name _)).then (Adv.blanks _)).then (Adv.quoted hq)).then (Adv.blanks _)).then (Adv.by _ 1))
            have hG1 := hG.to ha
            obtain ⟨ot, hz⟩ := quoted_ok (((hG.to (Adv.blanks s)).to (Adv.name _)).to (Adv.blanks _)).fine hq
            have on := okL_pre (hG.to (Adv.blanks s)).fine.okR (nameA_pre s.blanks.rest)
            split at h
            · cases h
              exact Declared.of hG hN ha
            · rename_i hx
              cases h
              have hn0 : nameA s.blanks.rest ≠ [] := fun e => hn (by rw [e]; rfl)
              refine ⟨⟨⟨hG1.fine.ok, hG1.fine.le⟩, hG1.n1, hG1.n2, hG1.okr, hG1.rl, hG1.sp⟩, hN.snoc (by simpa using hx) hn0 hz on ot, ha.same.2.1, ha.len, ?_⟩
              show (s.ents ++ [_]).length ≤ _
              simp
theorem declOne_ok {s s' : RS} (hG : Good s) (hN : EOk s.ents) (h : s.declOne = some s') : Declared s s' ∧ s'.rest.length < s.rest.length := by
  unfold RS.declOne at h
  split at h
  · rename_i h1
    cases hc : s.comment with
    | none => rw [hc] at h; cases h
    | some x =>
      obtain ⟨t, s1⟩ := x
      rw [hc] at h
      cases h
      have ha := comment_adv h1 hc
      have hl := ha.len
      have hl2 := sees_len 4 rfl h1
      exact ⟨Declared.of hG hN ((Adv.by s 4).then ha), by show s1.rest.length < _; omega⟩
  · split at h
    · rename_i h1
      cases hc : s.instruction with
      | none => rw [hc] at h; cases h
      | some x =>
        obtain ⟨n, t, s1⟩ := x
        rw [hc] at h
        cases h
        have ha := instruction_adv h1 hc
        have hl := ha.len
        have hl2 := sees_len 2 rfl h1
        exact ⟨Declared.of hG hN ((Adv.by s 2).then ha), by show s1.rest.length < _; omega⟩
    · split at h
      · rename_i h1
        have hl2 := sees_len 8 rfl h1
        have hd := entity_ok (hG.adv 8) (show EOk (s.adv 8).ents from hN) h
        have hl := hd.len
        exact ⟨⟨hd.good, hd.ents, hd.opn, by omega, hd.more⟩, by omega⟩
      · cases h
theorem declGo_ok : ∀ (f : Nat) (s s' : RS), Good s → EOk s.ents → RS.declGo f s = .ok s' → s'.rest.length < s.rest.length ∧ Good s' ∧ EOk s'.ents ∧ s'.opn = s.opn
  | 0, s, s', _, _, h => by cases h
  | f + 1, s, s', hG, hN, h => by
    unfold RS.declGo at h
    simp only at h
    have G1 := hG.to (Adv.blanks s)
    have N1 : EOk s.blanks.ents := hN
    have hl := (Adv.blanks s).len
    split at h
    · rename_i h93
      cases h
      have hp : 0 < s.blanks.rest.length := by
        cases hr : s.blanks.rest with
        | nil => rw [hr] at h93; cases h93
        | cons c t => simp
      refine ⟨?_, G1.adv 1, N1, rfl⟩
      show (s.blanks.rest.drop 1).length < _
      rw [List.length_drop]
      omega
    · split at h
      · cases h
      · rename_i s2 h2
        obtain ⟨hd, hlt⟩ := declOne_ok G1 N1 h2
        obtain ⟨k1, k2, k3, k4⟩ := declGo_ok f s2 s' hd.good hd.ents h
        exact ⟨by omega, k2, k3, k4.trans (hd.opn.trans (Adv.blanks s).same.2.1)⟩
end Go.Proofs.YtefjfjieoiegnaaGreatDoor
/- The declarations of a document type: xmlscan's declarations. -/
namespace Go.Proofs.YtefjfjieoiegnaaGreatDoor
open Go.RowKit
attribute [local go_sem] jumps_normal jumps_exit jumps_ret jumps_goto jumps_panic
/-- What stands whenever the declarations are read on. -/
def DeclInv (spec : Except Er RS) (B p m : Nat) (vo vt vr : Value) (w : World) (ok : Bool) (fr n : Nat) (w' : World) : Prop := Below B w w' ∧ match ok with
  | true => ∃ s', Rd w' B p m vo vt vr s' ∧ Good s' ∧ EOk s'.ents ∧ s'.ents.length + s'.rest.length ≤ 40000 ∧ n = s'.rest.length + 1 ∧ ∃ f, s'.rest.length < f ∧ RS.declGo f s' = spec
  | false => n = 0 ∧ (∃ c, w'.heap[p]? = some (.cells c 63 (0, 0)) ∧ c.size = 10) ∧ spec = .error (5, fr)
theorem declGo_eq (f : Nat) (s : RS) : RS.declGo (f + 1) s = if heads 93 s.blanks.rest then .ok (s.blanks.adv 1) else match s.blanks.declOne with
    | none => .error (5, s.blanks.place)
    | some s2 => RS.declGo f s2 := by
  rw [RS.declGo]
  cases s.blanks.declOne <;> rfl
theorem decl_bad {spec : Except Er RS} {B p m fr : Nat} {vo vt vr : Value} {w w2 : World} {s2 : RS} {f k : Nat} (ho : s2.declOne = none)
    (hs : (match s2.declOne with | none => .error (5, s2.place) | some s2 => RS.declGo f s2) = spec) (hb : Below B w w2) (hc : ∃ c, w2.heap[p]? = some (.cells c 63 (0, 0)) ∧ c.size = 10) (hfr : fr = s2.place) :
    ∃ n', n' < k + 1 ∧ DeclInv spec B p m vo vt vr w false fr n' w2 := by
  rw [ho] at hs
  exact ⟨0, by omega, hb, rfl, hc, by rw [hfr]; exact hs.symm⟩
theorem decl_on {spec : Except Er RS} {B p m fr : Nat} {vo vt vr : Value} {w w2 : World} {s2 s3 : RS} {f k : Nat} (G : Good s2) (N : EOk s2.ents) (hl : s2.ents.length + s2.rest.length ≤ 40000) (hk : s2.rest.length ≤ k) (hkf : k < f + 1) (ho : s2.declOne = some s3)
    (hs : (match s2.declOne with | none => .error (5, s2.place) | some s2 => RS.declGo f s2) = spec) (hb : Below B w w2) (R : Rd w2 B p m vo vt vr s3) :
    ∃ n', n' < k + 1 ∧ DeclInv spec B p m vo vt vr w true fr n' w2 := by
  obtain ⟨hd, hlt⟩ := declOne_ok G N ho
  rw [ho] at hs
  have := hd.more
  exact ⟨s3.rest.length + 1, by omega, hb, s3, R, hd.good, hd.ents, by omega, rfl, f, by omega, hs⟩
set_option maxRecDepth 100000 in
theorem decl_frame {a : Act} {x0 x3 x4 : Value} (hd : a.defers = []) (hs : a.tmps.size = 45) (h0 : a.tmps[0]? = some x0) (h3 : a.tmps[3]? = some x3) (h4 : a.tmps[4]? = some x4) : ∃ u : Nat → Value, a = { tmps := #[x0, u 1, u 2, x3, x4, u 5, u 6, u 7, u 8, u 9, u 10, u 11, u 12, u 13, u 14, u 15, u 16, u 17, u 18, u 19, u 20, u 21, u 22, u 23, u 24, u 25, u 26, u 27, u 28, u 29, u 30, u 31, u 32, u 33, u 34, u 35, u 36, u 37, u 38, u 39, u 40, u 41, u 42, u 43, u 44], defers := [] } := by
  obtain ⟨tmps, defers⟩ := a
  simp only at hd hs h0 h3 h4
  subst hd
  refine ⟨fun i => tmps[i]!, ?_⟩
  have e := arr_of hs
  have e0 : tmps[0]! = x0 := by rw [getElem!_def, h0]
  have e3 : tmps[3]! = x3 := by rw [getElem!_def, h3]
  have e4 : tmps[4]! = x4 := by rw [getElem!_def, h4]
  have e' : tmps = #[tmps[0]!, tmps[1]!, tmps[2]!, tmps[3]!, tmps[4]!, tmps[5]!, tmps[6]!, tmps[7]!, tmps[8]!, tmps[9]!, tmps[10]!, tmps[11]!, tmps[12]!, tmps[13]!, tmps[14]!, tmps[15]!, tmps[16]!, tmps[17]!, tmps[18]!, tmps[19]!, tmps[20]!, tmps[21]!, tmps[22]!, tmps[23]!, tmps[24]!, tmps[25]!, tmps[26]!, tmps[27]!, tmps[28]!, tmps[29]!, tmps[30]!, tmps[31]!, tmps[32]!, tmps[33]!, tmps[34]!, tmps[35]!, tmps[36]!, tmps[37]!, tmps[38]!, tmps[39]!, tmps[40]!, tmps[41]!, tmps[42]!, tmps[43]!, tmps[44]!] := e
  rw [e0, e3, e4] at e'
  exact congrArg (fun t => ({ tmps := t, defers := [] } : Act)) e'
set_option maxRecDepth 100000 in
theorem decl_goto {spec : Except Er RS} {B p m n fr : Nat} {vo vt vr : Value} {w w' : World} {ok : Bool} {a' : Act} (h1 : a'.defers = []) (h2 : a'.tmps.size = 45) (h3 : a'.tmps[0]? = some (.pointer (some ⟨p, 0, none⟩))) (h4 : a'.tmps[3]? = some (.int .i64 (fr : Nat))) (h5 : a'.tmps[4]? = some (.bool ok))
    (hI : DeclInv spec B p m vo vt vr w ok fr n w') : ∃ (ok : Bool) (fr : Nat) (u : Nat → Value), DeclInv spec B p m vo vt vr w ok fr n w' ∧ a' = { tmps := #[.pointer (some ⟨p, 0, none⟩), u 1, u 2, .int .i64 (fr : Nat), .bool ok, u 5, u 6, u 7, u 8, u 9, u 10, u 11, u 12, u 13, u 14, u 15, u 16, u 17, u 18, u 19, u 20, u 21, u 22, u 23, u 24, u 25, u 26, u 27, u 28, u 29, u 30, u 31, u 32, u 33, u 34, u 35, u 36, u 37, u 38, u 39, u 40, u 41, u 42, u 43, u 44], defers := [] } := by
  obtain ⟨u, hu⟩ := decl_frame h1 h2 h3 h4 h5
  exact ⟨ok, fr, u, hI, hu⟩
set_option maxRecDepth 100000 in
set_option maxHeartbeats 8000000 in
theorem declarations_any (B p m : Nat) (vo vt vr : Value) (s : RS) (w : World) (R : Rd w B p m vo vt vr s) (hG : Good s) (hE : XEnv B w) (hN : EOk s.ents) (hle : s.ents.length + s.rest.length ≤ 40000) :
    Calls Tryz.prog 103 #[.pointer (some ⟨p, 0, none⟩)] w fun e w' => outP (RS.declGo (s.rest.length + 1) s) B p m e w w' := by
  have hlow := R.low
  have hlt := R.lt
  have c1 : w.cell? ⟨p, 1, none⟩ = some (.int .i64 (s.place : Nat)) := R.at.pos
  go_enter Tryz.func103, Tryz.ntmps103
  go_wp2_with fail
  refine wp_scope_next 0 1 (fun n a' w' => ∃ (ok : Bool) (fr : Nat) (u : Nat → Value), DeclInv (RS.declGo (s.rest.length + 1) s) B p m vo vt vr w ok fr n w' ∧ a' = { tmps := #[.pointer (some ⟨p, 0, none⟩), u 1, u 2, .int .i64 (fr : Nat), .bool ok, u 5, u 6, u 7, u 8, u 9, u 10, u 11, u 12, u 13, u 14, u 15, u 16, u 17, u 18, u 19, u 20, u 21, u 22, u 23, u 24, u 25, u 26, u 27, u 28, u 29, u 30, u 31, u 32, u 33, u 34, u 35, u 36, u 37, u 38, u 39, u 40, u 41, u 42, u 43, u 44], defers := [] }) rfl rfl ?_ ?_
  · rintro n a' w' ⟨ok, fr, u, hI, rfl⟩
    obtain ⟨hbw, hI⟩ := hI
    cases ok
    · obtain ⟨rfl, ⟨c, hc, hcs⟩, hsp⟩ := hI
      have HSP := hide hsp
      clear hsp
      go_wp2_with fail
      go_step3
      refine .inl ⟨rfl, ?_⟩
      go_wp2_with (go_at_call 63; refine (fail_rd B p 5 fr _ hc hcs hlow).mono ?_; rintro e w5 ⟨rfl, hw5, hb5⟩)
      try rw [jumps_ret]
      go_ret
      rw [unhide HSP]
      exact ⟨hbw.trans hb5, rfl, hw5⟩
    · obtain ⟨s1, R1, G1, N1, hle1, rfl, f, hf, hsp⟩ := hI
      obtain ⟨g, rfl⟩ : ∃ g, f = g + 1 := ⟨f - 1, by omega⟩
      rw [declGo_eq] at hsp
      have HSP0 := hide hsp
      clear hsp
      go_wp2_with fail
      refine (blanks_any p s1 _ R1.at G1.fine).mono ?_
      rintro e w2 ⟨rfl, hm2⟩
      have R2 := R1.moved hm2 (Adv.blanks s1)
      have G2 := G1.to (Adv.blanks s1)
      have N2 : EOk s1.blanks.ents := N1
      have hln : s1.blanks.rest.length ≤ s1.rest.length := (Adv.blanks s1).len
      have hle2 : s1.blanks.ents.length + s1.blanks.rest.length ≤ 40000 := by
        show s1.ents.length + s1.blanks.rest.length ≤ _
        omega
      have hb2 := hbw.trans (hm2.low hlow (by have := R1.lt; omega))
      have hsp := unhide HSP0
      clear HSP0
      generalize hg : s1.blanks = s2 at *
      clear hg R1 hm2 G1 N1
      have HSP0 := hide hsp
      clear hsp
      have c12 : w2.cell? ⟨p, 1, none⟩ = some (.int .i64 (s2.place : Nat)) := R2.at.pos
      go_wp2_with fail
      cases h93 : heads 93 s2.rest
      · refine (take_no [93] ⟨#[93]⟩ rfl (by decide) p s2 _ R2.at G2.fine (by rw [isPre_one]; exact h93)).mono ?_
        rintro e w3 ⟨rfl, hc3⟩
        have R3 := R2.on hc3
        have hb3 := hb2.trans (hc3.mono (by have := R2.lt; omega))
        have hsp := unhide HSP0
        rw [h93, if_neg (by decide)] at hsp
        have HSP := hide hsp
        clear hsp HSP0 R2 hc3 h93 c12
        go_wp2_with fail
        refine (sees_any [60, 33, 45, 45] ⟨#[60, 33, 45, 45]⟩ rfl (by decide) p s2 _ R3.at G2.fine).mono ?_
        rintro e w4 ⟨rfl, hc4⟩
        have R4 := R3.on hc4
        have hb4 := hb3.trans (hc4.mono (by have := R3.lt; omega))
        clear R3 hc4
        rw [show [60, 33, 45, 45].isPrefixOf s2.rest = s2.sees [60, 33, 45, 45] from rfl]
        cases h1 : s2.sees [60, 33, 45, 45]
        · have H1 := hide h1
          clear h1
          go_wp2_with fail
          refine (sees_any [60, 63] ⟨#[60, 63]⟩ rfl (by decide) p s2 _ R4.at G2.fine).mono ?_
          rintro e w5 ⟨rfl, hc5⟩
          have R5 := R4.on hc5
          have hb5 := hb4.trans (hc5.mono (by have := R4.lt; omega))
          clear R4 hc5
          rw [show [60, 63].isPrefixOf s2.rest = s2.sees [60, 63] from rfl]
          cases h2 : s2.sees [60, 63]
          · have H2 := hide h2
            clear h2
            go_wp2_with fail
            cases h3 : s2.sees [60, 33, 69, 78, 84, 73, 84, 89]
            · refine (take_no [60, 33, 69, 78, 84, 73, 84, 89] ⟨#[60, 33, 69, 78, 84, 73, 84, 89]⟩ rfl (by decide) p s2 _ R5.at G2.fine h3).mono ?_
              rintro e w6 ⟨rfl, hc6⟩
              have R6 := R5.on hc6
              have hb6 := hb5.trans (hc6.mono (by have := R5.lt; omega))
              have ho : s2.declOne = none := by
                unfold RS.declOne
                rw [unhide H1, if_neg (by decide), unhide H2, if_neg (by decide), h3, if_neg (by decide)]
              have hsp := unhide HSP
              rw [ho] at hsp
              have HE' := hide hsp.symm
              clear hsp HSP ho h3 R5 hc6
              go_wp2_with fail
              go_step3
              rename_i hK
              refine hK _ _ ?_
              go_wp2_with (go_at_call 63; refine (fail_rd B p 5 s2.place _ R6.blk rfl hlow).mono ?_; rintro e w9 ⟨rfl, hw9, hb9⟩)
              try rw [jumps_ret]
              go_ret
              rw [unhide HE']
              exact ⟨hb6.trans hb9, rfl, hw9⟩
            · refine (take_yes [60, 33, 69, 78, 84, 73, 84, 89] ⟨#[60, 33, 69, 78, 84, 73, 84, 89]⟩ rfl (by decide) p s2 _ R5.at G2.fine h3).mono ?_
              rintro e w6 ⟨rfl, hm6⟩
              have R6 := R5.moved hm6 (Adv.by s2 8)
              have hb6 := hb5.trans (hm6.low hlow (by have := R5.lt; omega))
              have ho : s2.declOne = (s2.adv 8).entity := by
                unfold RS.declOne
                rw [unhide H1, if_neg (by decide), unhide H2, if_neg (by decide), h3, if_pos rfl]
              have HO := hide ho
              clear ho h3 R5 hm6
              go_wp2_with fail
              refine (entity_any B p m vo vt vr (s2.adv 8) _ R6 (G2.adv 8) (hE.low hb6) N2 (show s2.ents.length ≤ 100000 by omega)).mono ?_
              intro e w7 hP
              obtain ⟨hb7, hP⟩ := hP
              cases hen : (s2.adv 8).entity with
              | none =>
                rw [hen] at hP
                obtain ⟨rfl, hc7⟩ := hP
                obtain ⟨n', hn', hC⟩ := decl_bad (m := m) (vo := vo) (vt := vt) (vr := vr) (k := s1.rest.length) ((unhide HO).trans hen) (unhide HSP) (hb6.trans hb7) hc7 rfl
                have HCI := hide hC
                clear hC
                go_wp2_with fail
                go_step3
                exact .inr ⟨rfl, n', hn', decl_goto rfl rfl rfl rfl rfl (unhide HCI)⟩
              | some s3 =>
                rw [hen] at hP
                obtain ⟨rfl, R7⟩ := hP
                obtain ⟨n', hn', hC⟩ := decl_on (fr := s2.place) (k := s1.rest.length) G2 N2 hle2 hln hf ((unhide HO).trans hen) (unhide HSP) (hb6.trans hb7) R7
                have HCI := hide hC
                clear hC
                go_wp2_with fail
                go_step3
                exact .inr ⟨rfl, n', hn', decl_goto rfl rfl rfl rfl rfl (unhide HCI)⟩
          · have ho : s2.declOne = s2.instruction.map (·.2.2) := by
              unfold RS.declOne
              rw [unhide H1, if_neg (by decide), h2, if_pos rfl]
            have HO := hide ho
            have H2 := hide h2
            clear ho h2
            go_wp2_with fail
            refine (instruction_any B p s2 _ R5.at G2.fine (hE.low hb5) hlow (unhide H2)).mono ?_
            intro e w6 hP
            cases hen : s2.instruction with
            | none =>
              rw [hen] at hP
              obtain ⟨y, z, k, rfl, hm6⟩ := hP
              have hb6 := hb5.trans (hm6.low hlow (by have := R5.lt; omega))
              obtain ⟨n', hn', hC⟩ := decl_bad (m := m) (vo := vo) (vt := vt) (vr := vr) (k := s1.rest.length) ((unhide HO).trans (by rw [hen]; rfl)) (unhide HSP) hb6 (moved_blk R5 hm6) rfl
              have HCI := hide hC
              clear hC
              go_wp2_with fail
              go_step3
              exact .inr ⟨rfl, n', hn', decl_goto rfl rfl rfl rfl rfl (unhide HCI)⟩
            | some x =>
              obtain ⟨y, z, s3⟩ := x
              rw [hen] at hP
              obtain ⟨rfl, hm6⟩ := hP
              have hb6 := hb5.trans (hm6.low hlow (by have := R5.lt; omega))
              have R6 := R5.moved hm6 (Adv.instruction hen).1
              obtain ⟨n', hn', hC⟩ := decl_on (fr := s2.place) (k := s1.rest.length) G2 N2 hle2 hln hf ((unhide HO).trans (by rw [hen]; rfl)) (unhide HSP) hb6 R6
              have HCI := hide hC
              clear hC
              go_wp2_with fail
              go_step3
              exact .inr ⟨rfl, n', hn', decl_goto rfl rfl rfl rfl rfl (unhide HCI)⟩
        · have ho : s2.declOne = s2.comment.map (·.2) := by
            unfold RS.declOne
            rw [h1, if_pos rfl]
          have HO := hide ho
          have H1 := hide h1
          clear ho h1
          go_wp2_with fail
          refine (comment_any B p s2 _ R4.at G2.fine (hE.low hb4) hlow (unhide H1)).mono ?_
          intro e w6 hP
          cases hen : s2.comment with
          | none =>
            rw [hen] at hP
            obtain ⟨y, k, rfl, hm6⟩ := hP
            have hb6 := hb4.trans (hm6.low hlow (by have := R4.lt; omega))
            obtain ⟨n', hn', hC⟩ := decl_bad (m := m) (vo := vo) (vt := vt) (vr := vr) (k := s1.rest.length) ((unhide HO).trans (by rw [hen]; rfl)) (unhide HSP) hb6 (moved_blk R4 hm6) rfl
            have HCI := hide hC
            clear hC
            go_wp2_with fail
            go_step3
            exact .inr ⟨rfl, n', hn', decl_goto rfl rfl rfl rfl rfl (unhide HCI)⟩
          | some x =>
            obtain ⟨y, s3⟩ := x
            rw [hen] at hP
            obtain ⟨rfl, hm6⟩ := hP
            have hb6 := hb4.trans (hm6.low hlow (by have := R4.lt; omega))
            have R6 := R4.moved hm6 (Adv.comment hen)
            obtain ⟨n', hn', hC⟩ := decl_on (fr := s2.place) (k := s1.rest.length) G2 N2 hle2 hln hf ((unhide HO).trans (by rw [hen]; rfl)) (unhide HSP) hb6 R6
            have HCI := hide hC
            clear hC
            go_wp2_with fail
            go_step3
            exact .inr ⟨rfl, n', hn', decl_goto rfl rfl rfl rfl rfl (unhide HCI)⟩
      · refine (take_yes [93] ⟨#[93]⟩ rfl (by decide) p s2 _ R2.at G2.fine (by rw [isPre_one]; exact h93)).mono ?_
        rintro e w3 ⟨rfl, hm3⟩
        have R3 := R2.moved hm3 (Adv.by s2 1)
        have hb3 := hb2.trans (hm3.low hlow (by have := R2.lt; omega))
        have hsp := unhide HSP0
        rw [h93, if_pos rfl] at hsp
        have HSP := hide hsp.symm
        have HR3 := hide R3
        clear hsp HSP0 R2 R3 hm3 h93 c12
        go_wp2_with fail
        try rw [jumps_ret]
        go_ret
        rw [unhide HSP]
        exact ⟨hb3, rfl, _, _, _, unhide HR3⟩
  · intro HR1
    have HR := hide HR1
    clear HR1
    have HI0 : Hid (DeclInv (RS.declGo (s.rest.length + 1) s) B p m vo vt vr w true s.place (s.rest.length + 1) w) := hide ⟨Below.refl _ _, s, R, hG, hN, hle, rfl, _, Nat.lt_succ_self _, rfl⟩
    go_wp2_with fail
    go_step3
    rename_i hK
    exact hK _ _ (unhide HR (s.rest.length + 1) _ _ (decl_goto rfl rfl rfl rfl rfl (unhide HI0)))
end Go.Proofs.YtefjfjieoiegnaaGreatDoor
