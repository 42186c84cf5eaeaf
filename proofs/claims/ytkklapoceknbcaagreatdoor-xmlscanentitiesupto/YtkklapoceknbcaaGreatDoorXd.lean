/- Several texts, laid as one. -/
import Derived.Test.YtkklapoceknbcaaGreatDoorXg
import Derived.Test.YtkklapoceknbcaaGreatDoorXmlOne
import Derived.Test.YtkklapoceknbcaaGreatDoorXmlContent
/- Declarations of a document type: what each leaves. -/
namespace Go.Proofs.YtkklapoceknbcaaGreatDoor
open Go.RowKit
theorem entX_not {l : List (List Nat × List Nat)} {n : List Nat} (h : (entX l n).isSome = false) : ∀ x ∈ l, x.1 ≠ n := by
  intro x hx he
  unfold entX at h
  rw [Option.isSome_map, List.find?_isSome.2 ⟨x, hx, by simp [he]⟩] at h
  cases h
theorem EOk.snoc {l : List (List Nat × List Nat)} {n t : List Nat} (h : EOk l) (hx : (entX l n).isSome = false) (hn : n ≠ []) (hz : (T t).size ≤ 32768) (on : okL n) (ot : okL t) : EOk (l ++ [(n, t)]) := by
  refine ⟨?_, ?_, ?_, ?_⟩
  · unfold UniqE
    rw [List.pairwise_append]
    refine ⟨h.u, List.pairwise_singleton _ _, fun a ha b hb => ?_⟩
    rw [List.mem_singleton.1 hb]
    exact entX_not hx a ha
  all_goals
    intro x hm
    rcases List.mem_append.1 hm with hm | hm
  · exact h.ne x hm
  · rw [List.mem_singleton.1 hm]; exact hn
  · exact h.z x hm
  · rw [List.mem_singleton.1 hm]; exact hz
  · exact h.ok x hm
  · rw [List.mem_singleton.1 hm]; exact ⟨on, ot⟩
/-- What a declaration leaves. -/
structure Declared (s s' : RS) : Prop where
  good : Good s'
  ents : EOk s'.ents
  opn : s'.opn = s.opn
  len : s'.rest.length ≤ s.rest.length
  more : s'.ents.length ≤ s.ents.length + 1
theorem Declared.of {s s' : RS} (hG : Good s) (hN : EOk s.ents) (h : Adv s s') : Declared s s' :=
  ⟨hG.to h, EOk.of h.same.1 hN, h.same.2.1, h.len, by rw [h.same.1]; omega⟩
theorem entity_ok {s s' : RS} (hG : Good s) (hN : EOk s.ents) (h : s.entity = some s') : Declared s s' := by
  rw [entity_eq] at h
  split at h
  · cases h
  · split at h
    · cases h
    · rename_i hb hn
      split at h
      · cases h
      · rename_i t s3 hq
        split at h
        · cases h
        · split at h
          · cases h
          · have ha : Adv s (s3.blanks.adv 1) := ((((((Adv.blanks s).then (Adv.name _)).then (Adv.blanks _)).then (Adv.quoted hq)).then (Adv.blanks _)).then (Adv.by _ 1))
            have hG1 := hG.to ha
            obtain ⟨ot, hz⟩ := quoted_ok (((hG.to (Adv.blanks s)).to (Adv.name _)).to (Adv.blanks _)).fine hq
            have on := okL_pre (hG.to (Adv.blanks s)).fine.okR (nameA_pre s.blanks.rest)
            split at h
            · cases h
              exact Declared.of hG hN ha
            · rename_i hx
              cases h
              have hn0 : nameA s.blanks.rest ≠ [] := fun e => hn (by rw [e]; rfl)
              refine ⟨⟨⟨hG1.fine.ok, hG1.fine.le⟩, hG1.n1, hG1.n2, hG1.okr, hG1.rl, hG1.sp⟩, hN.snoc (by simpa using hx) hn0 hz on ot, ha.same.2.1, ha.len, ?_⟩
              show (s.ents ++ [_]).length ≤ _
              simp
theorem declOne_ok {s s' : RS} (hG : Good s) (hN : EOk s.ents) (h : s.declOne = some s') : Declared s s' ∧ s'.rest.length < s.rest.length := by
  unfold RS.declOne at h
  split at h
  · rename_i h1
    cases hc : s.comment with
    | none => rw [hc] at h; cases h
    | some x =>
      obtain ⟨t, s1⟩ := x
      rw [hc] at h
      cases h
      have ha := comment_adv h1 hc
      have hl := ha.len
      have hl2 := sees_len 4 rfl h1
      exact ⟨Declared.of hG hN ((Adv.by s 4).then ha), by show s1.rest.length < _; omega⟩
  · split at h
    · rename_i h1
      cases hc : s.instruction with
      | none => rw [hc] at h; cases h
      | some x =>
        obtain ⟨n, t, s1⟩ := x
        rw [hc] at h
        cases h
        have ha := instruction_adv h1 hc
        have hl := ha.len
        have hl2 := sees_len 2 rfl h1
        exact ⟨Declared.of hG hN ((Adv.by s 2).then ha), by show s1.rest.length < _; omega⟩
    · split at h
      · rename_i h1
        have hl2 := sees_len 8 rfl h1
        have hd := entity_ok (hG.adv 8) (show EOk (s.adv 8).ents from hN) h
        have hl := hd.len
        exact ⟨⟨hd.good, hd.ents, hd.opn, by omega, hd.more⟩, by omega⟩
      · cases h
theorem declGo_ok : ∀ (f : Nat) (s s' : RS), Good s → EOk s.ents → RS.declGo f s = .ok s' → s'.rest.length < s.rest.length ∧ Good s' ∧ EOk s'.ents ∧ s'.opn = s.opn
  | 0, s, s', _, _, h => by cases h
  | f + 1, s, s', hG, hN, h => by
    unfold RS.declGo at h
    simp only at h
    have G1 := hG.to (Adv.blanks s)
    have N1 : EOk s.blanks.ents := hN
    have hl := (Adv.blanks s).len
    split at h
    · rename_i h93
      cases h
      have hp : 0 < s.blanks.rest.length := by
        cases hr : s.blanks.rest with
        | nil => rw [hr] at h93; cases h93
        | cons c t => simp
      refine ⟨?_, G1.adv 1, N1, rfl⟩
      show (s.blanks.rest.drop 1).length < _
      rw [List.length_drop]
      omega
    · split at h
      · cases h
      · rename_i s2 h2
        obtain ⟨hd, hlt⟩ := declOne_ok G1 N1 h2
        obtain ⟨k1, k2, k3, k4⟩ := declGo_ok f s2 s' hd.good hd.ents h
        exact ⟨by omega, k2, k3, k4.trans (hd.opn.trans (Adv.blanks s).same.2.1)⟩
end Go.Proofs.YtkklapoceknbcaaGreatDoor
/- The declarations of a document type: xmlscan's declarations. -/
namespace Go.Proofs.YtkklapoceknbcaaGreatDoor
open Go.RowKit
attribute [local go_sem] jumps_normal jumps_exit jumps_ret jumps_goto jumps_panic
/-- What stands whenever the declarations are read on. -/
def DeclInv (spec : Except Er RS) (B p m : Nat) (vo vt vr : Value) (w : World) (ok : Bool) (fr n : Nat) (w' : World) : Prop := Below B w w' ∧ match ok with
  | true => ∃ s', Rd w' B p m vo vt vr s' ∧ Good s' ∧ EOk s'.ents ∧ s'.ents.length + s'.rest.length ≤ 40000 ∧ n = s'.rest.length + 1 ∧ ∃ f, s'.rest.length < f ∧ RS.declGo f s' = spec
  | false => n = 0 ∧ (∃ c, w'.heap[p]? = some (.cells c 56 (0, 0)) ∧ c.size = 10) ∧ spec = .error (5, fr)
theorem declGo_eq (f : Nat) (s : RS) : RS.declGo (f + 1) s = if heads 93 s.blanks.rest then .ok (s.blanks.adv 1) else match s.blanks.declOne with
    | none => .error (5, s.blanks.place)
    | some s2 => RS.declGo f s2 := by
  rw [RS.declGo]
  cases s.blanks.declOne <;> rfl
theorem decl_bad {spec : Except Er RS} {B p m fr : Nat} {vo vt vr : Value} {w w2 : World} {s2 : RS} {f k : Nat} (ho : s2.declOne = none)
    (hs : (match s2.declOne with | none => .error (5, s2.place) | some s2 => RS.declGo f s2) = spec) (hb : Below B w w2) (hc : ∃ c, w2.heap[p]? = some (.cells c 56 (0, 0)) ∧ c.size = 10) (hfr : fr = s2.place) :
    ∃ n', n' < k + 1 ∧ DeclInv spec B p m vo vt vr w false fr n' w2 := by
  rw [ho] at hs
  exact ⟨0, by omega, hb, rfl, hc, by rw [hfr]; exact hs.symm⟩
theorem decl_on {spec : Except Er RS} {B p m fr : Nat} {vo vt vr : Value} {w w2 : World} {s2 s3 : RS} {f k : Nat} (G : Good s2) (N : EOk s2.ents) (hl : s2.ents.length + s2.rest.length ≤ 40000) (hk : s2.rest.length ≤ k) (hkf : k < f + 1) (ho : s2.declOne = some s3)
    (hs : (match s2.declOne with | none => .error (5, s2.place) | some s2 => RS.declGo f s2) = spec) (hb : Below B w w2) (R : Rd w2 B p m vo vt vr s3) :
    ∃ n', n' < k + 1 ∧ DeclInv spec B p m vo vt vr w true fr n' w2 := by
  obtain ⟨hd, hlt⟩ := declOne_ok G N ho
  rw [ho] at hs
  have := hd.more
  exact ⟨s3.rest.length + 1, by omega, hb, s3, R, hd.good, hd.ents, by omega, rfl, f, by omega, hs⟩
set_option maxRecDepth 100000 in
theorem decl_frame {a : Act} {x0 x3 x4 : Value} (hd : a.defers = []) (hs : a.tmps.size = 45) (h0 : a.tmps[0]? = some x0) (h3 : a.tmps[3]? = some x3) (h4 : a.tmps[4]? = some x4) : ∃ u : Nat → Value, a = { tmps := #[x0, u 1, u 2, x3, x4, u 5, u 6, u 7, u 8, u 9, u 10, u 11, u 12, u 13, u 14, u 15, u 16, u 17, u 18, u 19, u 20, u 21, u 22, u 23, u 24, u 25, u 26, u 27, u 28, u 29, u 30, u 31, u 32, u 33, u 34, u 35, u 36, u 37, u 38, u 39, u 40, u 41, u 42, u 43, u 44], defers := [] } := by
  obtain ⟨tmps, defers⟩ := a
  simp only at hd hs h0 h3 h4
  subst hd
  refine ⟨fun i => tmps[i]!, ?_⟩
  have e := arr_of hs
  have e0 : tmps[0]! = x0 := by rw [getElem!_def, h0]
  have e3 : tmps[3]! = x3 := by rw [getElem!_def, h3]
  have e4 : tmps[4]! = x4 := by rw [getElem!_def, h4]
  have e' : tmps = #[tmps[0]!, tmps[1]!, tmps[2]!, tmps[3]!, tmps[4]!, tmps[5]!, tmps[6]!, tmps[7]!, tmps[8]!, tmps[9]!, tmps[10]!, tmps[11]!, tmps[12]!, tmps[13]!, tmps[14]!, tmps[15]!, tmps[16]!, tmps[17]!, tmps[18]!, tmps[19]!, tmps[20]!, tmps[21]!, tmps[22]!, tmps[23]!, tmps[24]!, tmps[25]!, tmps[26]!, tmps[27]!, tmps[28]!, tmps[29]!, tmps[30]!, tmps[31]!, tmps[32]!, tmps[33]!, tmps[34]!, tmps[35]!, tmps[36]!, tmps[37]!, tmps[38]!, tmps[39]!, tmps[40]!, tmps[41]!, tmps[42]!, tmps[43]!, tmps[44]!] := e
  rw [e0, e3, e4] at e'
  exact congrArg (fun t => ({ tmps := t, defers := [] } : Act)) e'
set_option maxRecDepth 100000 in
theorem decl_goto {spec : Except Er RS} {B p m n fr : Nat} {vo vt vr : Value} {w w' : World} {ok : Bool} {a' : Act} (h1 : a'.defers = []) (h2 : a'.tmps.size = 45) (h3 : a'.tmps[0]? = some (.pointer (some ⟨p, 0, none⟩))) (h4 : a'.tmps[3]? = some (.int .i64 (fr : Nat))) (h5 : a'.tmps[4]? = some (.bool ok))
    (hI : DeclInv spec B p m vo vt vr w ok fr n w') : ∃ (ok : Bool) (fr : Nat) (u : Nat → Value), DeclInv spec B p m vo vt vr w ok fr n w' ∧ a' = { tmps := #[.pointer (some ⟨p, 0, none⟩), u 1, u 2, .int .i64 (fr : Nat), .bool ok, u 5, u 6, u 7, u 8, u 9, u 10, u 11, u 12, u 13, u 14, u 15, u 16, u 17, u 18, u 19, u 20, u 21, u 22, u 23, u 24, u 25, u 26, u 27, u 28, u 29, u 30, u 31, u 32, u 33, u 34, u 35, u 36, u 37, u 38, u 39, u 40, u 41, u 42, u 43, u 44], defers := [] } := by
  obtain ⟨u, hu⟩ := decl_frame h1 h2 h3 h4 h5
  exact ⟨ok, fr, u, hI, hu⟩
set_option maxRecDepth 100000 in
set_option maxHeartbeats 8000000 in
theorem declarations_any (B p m : Nat) (vo vt vr : Value) (s : RS) (w : World) (R : Rd w B p m vo vt vr s) (hG : Good s) (hE : XEnv B w) (hN : EOk s.ents) (hle : s.ents.length + s.rest.length ≤ 40000) :
    Calls Tryz.prog 77 #[.pointer (some ⟨p, 0, none⟩)] w fun e w' => outP (RS.declGo (s.rest.length + 1) s) B p m e w w' := by
  have hlow := R.low
  have hlt := R.lt
  have c1 : w.cell? ⟨p, 1, none⟩ = some (.int .i64 (s.place : Nat)) := R.at.pos
  go_enter Tryz.func77, Tryz.ntmps77
  go_wp2_with fail
  refine wp_scope_next 0 1 (fun n a' w' => ∃ (ok : Bool) (fr : Nat) (u : Nat → Value), DeclInv (RS.declGo (s.rest.length + 1) s) B p m vo vt vr w ok fr n w' ∧ a' = { tmps := #[.pointer (some ⟨p, 0, none⟩), u 1, u 2, .int .i64 (fr : Nat), .bool ok, u 5, u 6, u 7, u 8, u 9, u 10, u 11, u 12, u 13, u 14, u 15, u 16, u 17, u 18, u 19, u 20, u 21, u 22, u 23, u 24, u 25, u 26, u 27, u 28, u 29, u 30, u 31, u 32, u 33, u 34, u 35, u 36, u 37, u 38, u 39, u 40, u 41, u 42, u 43, u 44], defers := [] }) rfl rfl ?_ ?_
  · rintro n a' w' ⟨ok, fr, u, hI, rfl⟩
    obtain ⟨hbw, hI⟩ := hI
    cases ok
    · obtain ⟨rfl, ⟨c, hc, hcs⟩, hsp⟩ := hI
      have HSP := hide hsp
      clear hsp
      go_wp2_with fail
      go_step3
      refine .inl ⟨rfl, ?_⟩
      go_wp2_with (go_at_call 44; refine (fail_rd B p 5 fr _ hc hcs hlow).mono ?_; rintro e w5 ⟨rfl, hw5, hb5⟩)
      try rw [jumps_ret]
      go_ret
      rw [unhide HSP]
      exact ⟨hbw.trans hb5, rfl, hw5⟩
    · obtain ⟨s1, R1, G1, N1, hle1, rfl, f, hf, hsp⟩ := hI
      obtain ⟨g, rfl⟩ : ∃ g, f = g + 1 := ⟨f - 1, by omega⟩
      rw [declGo_eq] at hsp
      have HSP0 := hide hsp
      clear hsp
      go_wp2_with fail
      refine (blanks_any p s1 _ R1.at G1.fine).mono ?_
      rintro e w2 ⟨rfl, hm2⟩
      have R2 := R1.moved hm2 (Adv.blanks s1)
      have G2 := G1.to (Adv.blanks s1)
      have N2 : EOk s1.blanks.ents := N1
      have hln : s1.blanks.rest.length ≤ s1.rest.length := (Adv.blanks s1).len
      have hle2 : s1.blanks.ents.length + s1.blanks.rest.length ≤ 40000 := by
        show s1.ents.length + s1.blanks.rest.length ≤ _
        omega
      have hb2 := hbw.trans (hm2.low hlow (by have := R1.lt; omega))
      have hsp := unhide HSP0
      clear HSP0
      generalize hg : s1.blanks = s2 at *
      clear hg R1 hm2 G1 N1
      have HSP0 := hide hsp
      clear hsp
      have c12 : w2.cell? ⟨p, 1, none⟩ = some (.int .i64 (s2.place : Nat)) := R2.at.pos
      go_wp2_with fail
      cases h93 : heads 93 s2.rest
      · refine (take_no [93] ⟨#[93]⟩ rfl (by decide) p s2 _ R2.at G2.fine (by rw [isPre_one]; exact h93)).mono ?_
        rintro e w3 ⟨rfl, hc3⟩
        have R3 := R2.on hc3
        have hb3 := hb2.trans (hc3.mono (by have := R2.lt; omega))
        have hsp := unhide HSP0
        rw [h93, if_neg (by decide)] at hsp
        have HSP := hide hsp
        clear hsp HSP0 R2 hc3 h93 c12
        go_wp2_with fail
        refine (sees_any [60, 33, 45, 45] ⟨#[60, 33, 45, 45]⟩ rfl (by decide) p s2 _ R3.at G2.fine).mono ?_
        rintro e w4 ⟨rfl, hc4⟩
        have R4 := R3.on hc4
        have hb4 := hb3.trans (hc4.mono (by have := R3.lt; omega))
        clear R3 hc4
        rw [show [60, 33, 45, 45].isPrefixOf s2.rest = s2.sees [60, 33, 45, 45] from rfl]
        cases h1 : s2.sees [60, 33, 45, 45]
        · have H1 := hide h1
          clear h1
          go_wp2_with fail
          refine (sees_any [60, 63] ⟨#[60, 63]⟩ rfl (by decide) p s2 _ R4.at G2.fine).mono ?_
          rintro e w5 ⟨rfl, hc5⟩
          have R5 := R4.on hc5
          have hb5 := hb4.trans (hc5.mono (by have := R4.lt; omega))
          clear R4 hc5
          rw [show [60, 63].isPrefixOf s2.rest = s2.sees [60, 63] from rfl]
          cases h2 : s2.sees [60, 63]
          · have H2 := hide h2
            clear h2
            go_wp2_with fail
            cases h3 : s2.sees [60, 33, 69, 78, 84, 73, 84, 89]
            · refine (take_no [60, 33, 69, 78, 84, 73, 84, 89] ⟨#[60, 33, 69, 78, 84, 73, 84, 89]⟩ rfl (by decide) p s2 _ R5.at G2.fine h3).mono ?_
              rintro e w6 ⟨rfl, hc6⟩
              have R6 := R5.on hc6
              have hb6 := hb5.trans (hc6.mono (by have := R5.lt; omega))
              have ho : s2.declOne = none := by
                unfold RS.declOne
                rw [unhide H1, if_neg (by decide), unhide H2, if_neg (by decide), h3, if_neg (by decide)]
              have hsp := unhide HSP
              rw [ho] at hsp
              have HE' := hide hsp.symm
              clear hsp HSP ho h3 R5 hc6
              go_wp2_with fail
              go_step3
              rename_i hK
              refine hK _ _ ?_
              go_wp2_with (go_at_call 44; refine (fail_rd B p 5 s2.place _ R6.blk rfl hlow).mono ?_; rintro e w9 ⟨rfl, hw9, hb9⟩)
              try rw [jumps_ret]
              go_ret
              rw [unhide HE']
              exact ⟨hb6.trans hb9, rfl, hw9⟩
            · refine (take_yes [60, 33, 69, 78, 84, 73, 84, 89] ⟨#[60, 33, 69, 78, 84, 73, 84, 89]⟩ rfl (by decide) p s2 _ R5.at G2.fine h3).mono ?_
              rintro e w6 ⟨rfl, hm6⟩
              have R6 := R5.moved hm6 (Adv.by s2 8)
              have hb6 := hb5.trans (hm6.low hlow (by have := R5.lt; omega))
              have ho : s2.declOne = (s2.adv 8).entity := by
                unfold RS.declOne
                rw [unhide H1, if_neg (by decide), unhide H2, if_neg (by decide), h3, if_pos rfl]
              have HO := hide ho
              clear ho h3 R5 hm6
              go_wp2_with fail
              refine (entity_any B p m vo vt vr (s2.adv 8) _ R6 (G2.adv 8) (hE.low hb6) N2 (show s2.ents.length ≤ 100000 by omega)).mono ?_
              intro e w7 hP
              obtain ⟨hb7, hP⟩ := hP
              cases hen : (s2.adv 8).entity with
              | none =>
                rw [hen] at hP
                obtain ⟨rfl, hc7⟩ := hP
                obtain ⟨n', hn', hC⟩ := decl_bad (m := m) (vo := vo) (vt := vt) (vr := vr) (k := s1.rest.length) ((unhide HO).trans hen) (unhide HSP) (hb6.trans hb7) hc7 rfl
                have HCI := hide hC
                clear hC
                go_wp2_with fail
                go_step3
                exact .inr ⟨rfl, n', hn', decl_goto rfl rfl rfl rfl rfl (unhide HCI)⟩
              | some s3 =>
                rw [hen] at hP
                obtain ⟨rfl, R7⟩ := hP
                obtain ⟨n', hn', hC⟩ := decl_on (fr := s2.place) (k := s1.rest.length) G2 N2 hle2 hln hf ((unhide HO).trans hen) (unhide HSP) (hb6.trans hb7) R7
                have HCI := hide hC
                clear hC
                go_wp2_with fail
                go_step3
                exact .inr ⟨rfl, n', hn', decl_goto rfl rfl rfl rfl rfl (unhide HCI)⟩
          · have ho : s2.declOne = s2.instruction.map (·.2.2) := by
              unfold RS.declOne
              rw [unhide H1, if_neg (by decide), h2, if_pos rfl]
            have HO := hide ho
            have H2 := hide h2
            clear ho h2
            go_wp2_with fail
            refine (instruction_any B p s2 _ R5.at G2.fine (hE.low hb5) hlow (unhide H2)).mono ?_
            intro e w6 hP
            cases hen : s2.instruction with
            | none =>
              rw [hen] at hP
              obtain ⟨y, z, k, rfl, hm6⟩ := hP
              have hb6 := hb5.trans (hm6.low hlow (by have := R5.lt; omega))
              obtain ⟨n', hn', hC⟩ := decl_bad (m := m) (vo := vo) (vt := vt) (vr := vr) (k := s1.rest.length) ((unhide HO).trans (by rw [hen]; rfl)) (unhide HSP) hb6 (moved_blk R5 hm6) rfl
              have HCI := hide hC
              clear hC
              go_wp2_with fail
              go_step3
              exact .inr ⟨rfl, n', hn', decl_goto rfl rfl rfl rfl rfl (unhide HCI)⟩
            | some x =>
              obtain ⟨y, z, s3⟩ := x
              rw [hen] at hP
              obtain ⟨rfl, hm6⟩ := hP
              have hb6 := hb5.trans (hm6.low hlow (by have := R5.lt; omega))
              have R6 := R5.moved hm6 (Adv.instruction hen).1
              obtain ⟨n', hn', hC⟩ := decl_on (fr := s2.place) (k := s1.rest.length) G2 N2 hle2 hln hf ((unhide HO).trans (by rw [hen]; rfl)) (unhide HSP) hb6 R6
              have HCI := hide hC
              clear hC
              go_wp2_with fail
              go_step3
              exact .inr ⟨rfl, n', hn', decl_goto rfl rfl rfl rfl rfl (unhide HCI)⟩
        · have ho : s2.declOne = s2.comment.map (·.2) := by
            unfold RS.declOne
            rw [h1, if_pos rfl]
          have HO := hide ho
          have H1 := hide h1
          clear ho h1
          go_wp2_with fail
          refine (comment_any B p s2 _ R4.at G2.fine (hE.low hb4) hlow (unhide H1)).mono ?_
          intro e w6 hP
          cases hen : s2.comment with
          | none =>
            rw [hen] at hP
            obtain ⟨y, k, rfl, hm6⟩ := hP
            have hb6 := hb4.trans (hm6.low hlow (by have := R4.lt; omega))
            obtain ⟨n', hn', hC⟩ := decl_bad (m := m) (vo := vo) (vt := vt) (vr := vr) (k := s1.rest.length) ((unhide HO).trans (by rw [hen]; rfl)) (unhide HSP) hb6 (moved_blk R4 hm6) rfl
            have HCI := hide hC
            clear hC
            go_wp2_with fail
            go_step3
            exact .inr ⟨rfl, n', hn', decl_goto rfl rfl rfl rfl rfl (unhide HCI)⟩
          | some x =>
            obtain ⟨y, s3⟩ := x
            rw [hen] at hP
            obtain ⟨rfl, hm6⟩ := hP
            have hb6 := hb4.trans (hm6.low hlow (by have := R4.lt; omega))
            have R6 := R4.moved hm6 (Adv.comment hen)
            obtain ⟨n', hn', hC⟩ := decl_on (fr := s2.place) (k := s1.rest.length) G2 N2 hle2 hln hf ((unhide HO).trans (by rw [hen]; rfl)) (unhide HSP) hb6 R6
            have HCI := hide hC
            clear hC
            go_wp2_with fail
            go_step3
            exact .inr ⟨rfl, n', hn', decl_goto rfl rfl rfl rfl rfl (unhide HCI)⟩
      · refine (take_yes [93] ⟨#[93]⟩ rfl (by decide) p s2 _ R2.at G2.fine (by rw [isPre_one]; exact h93)).mono ?_
        rintro e w3 ⟨rfl, hm3⟩
        have R3 := R2.moved hm3 (Adv.by s2 1)
        have hb3 := hb2.trans (hm3.low hlow (by have := R2.lt; omega))
        have hsp := unhide HSP0
        rw [h93, if_pos rfl] at hsp
        have HSP := hide hsp.symm
        have HR3 := hide R3
        clear hsp HSP0 R2 R3 hm3 h93 c12
        go_wp2_with fail
        try rw [jumps_ret]
        go_ret
        rw [unhide HSP]
        exact ⟨hb3, rfl, _, _, _, unhide HR3⟩
  · intro HR1
    have HR := hide HR1
    clear HR1
    have HI0 : Hid (DeclInv (RS.declGo (s.rest.length + 1) s) B p m vo vt vr w true s.place (s.rest.length + 1) w) := hide ⟨Below.refl _ _, s, R, hG, hN, hle, rfl, _, Nat.lt_succ_self _, rfl⟩
    go_wp2_with fail
    go_step3
    rename_i hK
    exact hK _ _ (unhide HR (s.rest.length + 1) _ _ (decl_goto rfl rfl rfl rfl rfl (unhide HI0)))
end Go.Proofs.YtkklapoceknbcaaGreatDoor
/- The document type: xmlscan's doctype. -/
namespace Go.Proofs.YtkklapoceknbcaaGreatDoor
open Go.RowKit
/-- The declarations, where a [ begins them. -/
def typeMid (s : RS) : Except Er RS := if heads 91 s.rest then RS.declGo ((s.adv 1).rest.length + 1) (s.adv 1) else .ok s
theorem doctype_eq (s : RS) : s.doctype = if !(s.take [60, 33, 68, 79, 67, 84, 89, 80, 69]).blank || (qnameA (s.take [60, 33, 68, 79, 67, 84, 89, 80, 69]).blanks.rest).isEmpty then .error (5, s.place) else
    match typeMid (s.take [60, 33, 68, 79, 67, 84, 89, 80, 69]).blanks.qname.blanks with
    | .error e => .error e
    | .ok s3 => if heads 62 s3.blanks.rest then .ok (s3.blanks.adv 1) else .error (5, s.place) := rfl
theorem typeMid_ok {s s' : RS} (hG : Good s) (hN : EOk s.ents) (h : typeMid s = .ok s') : s'.rest.length ≤ s.rest.length ∧ Good s' ∧ EOk s'.ents ∧ s'.opn = s.opn := by
  unfold typeMid at h
  split at h
  · obtain ⟨k1, k2, k3, k4⟩ := declGo_ok _ _ _ (hG.adv 1) (show EOk (s.adv 1).ents from hN) h
    have hl := (Adv.by s 1).len
    exact ⟨by omega, k2, k3, k4⟩
  · cases h
    exact ⟨Nat.le_refl _, hG, hN, rfl⟩
theorem doctype_less {s s' : RS} (hG : Good s) (hO : OpnOk s) (hN : EOk s.ents) (hs : s.sees [60, 33, 68, 79, 67, 84, 89, 80, 69] = true) (h : s.doctype = .ok s') : Less s s' := by
  rw [doctype_eq, take_adv hs] at h
  split at h
  · cases h
  · split at h
    · cases h
    · rename_i s3 h3
      split at h
      · cases h
        have ha : Adv (s.adv 9) (s.adv 9).blanks.qname.blanks := ((Adv.blanks _).then (Adv.qname _)).then (Adv.blanks _)
        have ha' := (Adv.by s 9).then ha
        obtain ⟨k1, k2, k3, k4⟩ := typeMid_ok (hG.to ha') (EOk.of ha'.same.1 hN) h3
        have hl := ha.len
        have hl2 := sees_len 9 rfl hs
        have hb : Adv s3 (s3.blanks.adv 1) := (Adv.blanks s3).then (Adv.by _ 1)
        have hl3 := hb.len
        exact ⟨by omega, k2.to hb, hO.to (hb.same.2.1.trans (k4.trans ha'.same.2.1)), EOk.of hb.same.1 k3⟩
      · cases h
set_option maxRecDepth 100000 in
set_option maxHeartbeats 4000000 in
theorem doctype_any (B p m : Nat) (vo vt vr : Value) (s : RS) (w : World) (R : Rd w B p m vo vt vr s) (hG : Good s) (hE : XEnv B w) (hN : EOk s.ents) (hle : s.ents.length + s.rest.length ≤ 40000) (hs : s.sees [60, 33, 68, 79, 67, 84, 89, 80, 69] = true) :
    Calls Tryz.prog 41 #[.pointer (some ⟨p, 0, none⟩)] w fun e w' => outP s.doctype B p m e w w' := by
  have hlow := R.low
  have hlt := R.lt
  have c1 : w.cell? ⟨p, 1, none⟩ = some (.int .i64 (s.place : Nat)) := R.at.pos
  have hd := doctype_eq s
  rw [take_adv hs] at hd
  have HD : Hid (s.doctype = if !(s.adv 9).blank || (qnameA (s.adv 9).blanks.rest).isEmpty then .error (5, s.place) else
    match typeMid (s.adv 9).blanks.qname.blanks with
    | .error e => .error e
    | .ok s3 => if heads 62 s3.blanks.rest then .ok (s3.blanks.adv 1) else .error (5, s.place)) := hide hd
  clear hd
  go_enter Tryz.func41, Tryz.ntmps41
  go_wp2_with fail
  refine (take_yes [60, 33, 68, 79, 67, 84, 89, 80, 69] ⟨#[60, 33, 68, 79, 67, 84, 89, 80, 69]⟩ rfl (by decide) p s _ R.at hG.fine hs).mono ?_
  rintro e w1 ⟨rfl, hm1⟩
  have R1 := R.moved hm1 (Adv.by s 9)
  have G1 := hG.adv 9
  have hb1 := hm1.low hlow (show B ≤ w.heap.size by omega)
  have ha1 := Adv.by s 9
  generalize hg1 : s.adv 9 = s1 at *
  clear hg1 hm1
  go_wp2_with fail
  refine (blanks_any p s1 _ R1.at G1.fine).mono ?_
  rintro e w2 ⟨rfl, hm2⟩
  have R2 := R1.moved hm2 (Adv.blanks s1)
  have G2 := G1.to (Adv.blanks s1)
  have hb2 := hb1.trans (hm2.low hlow (by have := R1.lt; omega))
  have ha2 := ha1.then (Adv.blanks s1)
  cases hbl : s1.blank
  · have HEQ : Hid (s.doctype = .error (5, s.place)) := hide (by rw [unhide HD, hbl]; rfl)
    clear HD hbl
    go_wp2_with (go_at_call 44; refine (fail_rd B p 5 s.place _ R2.blk rfl hlow).mono ?_; rintro e w9 ⟨rfl, hw9, hb9⟩)
    go_ret
    rw [unhide HEQ]
    exact ⟨hb2.trans hb9, rfl, hw9⟩
  · have hd := unhide HD
    rw [hbl, Bool.not_true, Bool.false_or] at hd
    clear HD hbl hm2
    generalize hg2 : s1.blanks = s2 at *
    clear hg2
    go_wp2_with fail
    refine (qname_any p s2 _ R2.at G2.fine).mono ?_
    rintro e w3 ⟨rfl, hm3⟩
    have R3 := R2.moved hm3 (Adv.qname s2)
    have G3 := G2.to (Adv.qname s2)
    have hb3 := hb2.trans (hm3.low hlow (by have := R2.lt; omega))
    have ha3 := ha2.then (Adv.qname s2)
    have hon := okL_pre G2.fine.okR (qnameA_pre s2.rest)
    have hsn := size_pre (qnameA_pre s2.rest)
    have hz2 := G2.fine.lt
    clear hm3
    generalize hgn : qnameA s2.rest = n at *
    generalize hg3 : s2.qname = s3 at *
    clear hgn hg3
    by_cases hn0 : n = []
    · have e1 := nil_T hn0
      have HEQ : Hid (s.doctype = .error (5, s.place)) := hide (by rw [hd, hn0]; rfl)
      clear hd hn0
      go_wp2_with (go_at_call 44; refine (fail_rd B p 5 s.place _ R3.blk rfl hlow).mono ?_; rintro e w9 ⟨rfl, hw9, hb9⟩)
      go_ret
      rw [unhide HEQ]
      exact ⟨hb3.trans hb9, rfl, hw9⟩
    · have e1 := ne_T hon hn0
      have hne : n.isEmpty = false := by cases n with | nil => exact absurd rfl hn0 | cons _ _ => rfl
      rw [hne, if_neg (by decide)] at hd
      have HD := hide hd
      clear hn0 hd hne
      go_wp2_with fail
      refine (blanks_any p s3 _ R3.at G3.fine).mono ?_
      rintro e w4 ⟨rfl, hm4⟩
      have R4 := R3.moved hm4 (Adv.blanks s3)
      have G4 := G3.to (Adv.blanks s3)
      have hb4 := hb3.trans (hm4.low hlow (by have := R3.lt; omega))
      have ha4 := ha3.then (Adv.blanks s3)
      have hd := unhide HD
      clear HD hm4
      generalize hg4 : s3.blanks = s4 at *
      clear hg4
      have N4 : EOk s4.ents := EOk.of ha4.same.1 hN
      have hle4 : s4.ents.length + s4.rest.length ≤ 40000 := by
        have := ha4.len
        rw [ha4.same.1]
        omega
      have HD := hide hd
      clear hd
      go_wp2_with fail
      cases h91 : heads 91 s4.rest
      · have ht : typeMid s4 = .ok s4 := by unfold typeMid; rw [h91]; rfl
        refine (take_no [91] ⟨#[91]⟩ rfl (by decide) p s4 _ R4.at G4.fine (by rw [isPre_one]; exact h91)).mono ?_
        rintro e w5 ⟨rfl, hc5⟩
        have R5 := R4.on hc5
        have hb5 := hb4.trans (hc5.mono (by have := R4.lt; omega))
        have hd := unhide HD
        rw [ht] at hd
        simp only at hd
        have HD1 := hide hd
        clear hd HD ht h91 R4 hc5
        go_wp2_with fail
        refine (blanks_any p s4 _ R5.at G4.fine).mono ?_
        rintro e w6 ⟨rfl, hm6⟩
        have R6 := R5.moved hm6 (Adv.blanks s4)
        have G6 := G4.to (Adv.blanks s4)
        have hb6 := hb5.trans (hm6.low hlow (by have := R5.lt; omega))
        have hd := unhide HD1
        clear HD1 hm6
        generalize hg6 : s4.blanks = s6 at *
        clear hg6
        go_wp2_with fail
        cases h62 : heads 62 s6.rest
        · have HEQ : Hid (s.doctype = .error (5, s.place)) := hide (by rw [hd, h62]; rfl)
          refine (take_no [62] ⟨#[62]⟩ rfl (by decide) p s6 _ R6.at G6.fine (by rw [isPre_one]; exact h62)).mono ?_
          rintro e w7 ⟨rfl, hb7⟩
          have R7 := R6.on hb7
          have hb07 := hb6.trans (hb7.mono (by have := R6.lt; omega))
          clear hd h62
          go_wp2_with (go_at_call 44; refine (fail_rd B p 5 s.place _ R7.blk rfl hlow).mono ?_; rintro e w9 ⟨rfl, hw9, hb9⟩)
          go_ret
          rw [unhide HEQ]
          exact ⟨hb07.trans hb9, rfl, hw9⟩
        · have HEQ : Hid (s.doctype = .ok (s6.adv 1)) := hide (by rw [hd, h62]; rfl)
          refine (take_yes [62] ⟨#[62]⟩ rfl (by decide) p s6 _ R6.at G6.fine (by rw [isPre_one]; exact h62)).mono ?_
          rintro e w7 ⟨rfl, hm7⟩
          have R7 := R6.moved hm7 (Adv.by s6 1)
          have hb7 := hb6.trans (hm7.low hlow (by have := R6.lt; omega))
          have HR7 := hide R7
          clear hd h62 hm7 R7
          go_wp2_with fail
          go_ret
          rw [unhide HEQ]
          exact ⟨hb7, rfl, _, _, _, unhide HR7⟩
      · have ht : typeMid s4 = RS.declGo ((s4.adv 1).rest.length + 1) (s4.adv 1) := by unfold typeMid; rw [h91]; rfl
        refine (take_yes [91] ⟨#[91]⟩ rfl (by decide) p s4 _ R4.at G4.fine (by rw [isPre_one]; exact h91)).mono ?_
        rintro e w5 ⟨rfl, hm5⟩
        have R5 := R4.moved hm5 (Adv.by s4 1)
        have G5 := G4.adv 1
        have hb5 := hb4.trans (hm5.low hlow (by have := R4.lt; omega))
        have hl5 := (Adv.by s4 1).len
        have hd := unhide HD
        rw [ht] at hd
        have HD1 := hide hd
        clear hd HD ht h91 R4 hm5
        go_wp2_with fail
        refine (declarations_any B p m vo vt vr (s4.adv 1) _ R5 G5 (hE.low hb5) N4 (show s4.ents.length + (s4.adv 1).rest.length ≤ 40000 by omega)).mono ?_
        intro e w6 ho
        cases hdg : RS.declGo ((s4.adv 1).rest.length + 1) (s4.adv 1) with
        | error x =>
          obtain ⟨c, pl⟩ := x
          rw [hdg] at ho
          obtain ⟨hb6, rfl, hw6⟩ := ho
          have HEQ : Hid (s.doctype = .error (c, pl)) := hide (by rw [unhide HD1, hdg])
          clear HD1 hdg
          go_wp2_with fail
          go_ret
          rw [unhide HEQ]
          exact ⟨hb5.trans hb6, rfl, hw6⟩
        | ok s6 =>
          rw [hdg] at ho
          obtain ⟨hb6', rfl, vo6, vt6, vr6, R6⟩ := ho
          have hb6 := hb5.trans hb6'
          obtain ⟨_, G6, _⟩ := declGo_ok _ _ _ G5 N4 hdg
          have hd := unhide HD1
          rw [hdg] at hd
          simp only at hd
          have HD2 := hide hd
          clear hd HD1 hdg R5 hb6'
          go_wp2_with fail
          refine (blanks_any p s6 _ R6.at G6.fine).mono ?_
          rintro e w7 ⟨rfl, hm7⟩
          have R7 := R6.moved hm7 (Adv.blanks s6)
          have G7 := G6.to (Adv.blanks s6)
          have hb7 := hb6.trans (hm7.low hlow (by have := R6.lt; omega))
          have hd := unhide HD2
          clear HD2 hm7
          generalize hg7 : s6.blanks = s7 at *
          clear hg7
          go_wp2_with fail
          cases h62 : heads 62 s7.rest
          · have HEQ : Hid (s.doctype = .error (5, s.place)) := hide (by rw [hd, h62]; rfl)
            refine (take_no [62] ⟨#[62]⟩ rfl (by decide) p s7 _ R7.at G7.fine (by rw [isPre_one]; exact h62)).mono ?_
            rintro e w8 ⟨rfl, hb8⟩
            have R8 := R7.on hb8
            have hb08 := hb7.trans (hb8.mono (by have := R7.lt; omega))
            clear hd h62
            go_wp2_with (go_at_call 44; refine (fail_rd B p 5 s.place _ R8.blk rfl hlow).mono ?_; rintro e w9 ⟨rfl, hw9, hb9⟩)
            go_ret
            rw [unhide HEQ]
            exact ⟨hb08.trans hb9, rfl, hw9⟩
          · have HEQ : Hid (s.doctype = .ok (s7.adv 1)) := hide (by rw [hd, h62]; rfl)
            refine (take_yes [62] ⟨#[62]⟩ rfl (by decide) p s7 _ R7.at G7.fine (by rw [isPre_one]; exact h62)).mono ?_
            rintro e w8 ⟨rfl, hm8⟩
            have R8 := R7.moved hm8 (Adv.by s7 1)
            have hb8 := hb7.trans (hm8.low hlow (by have := R7.lt; omega))
            have HR8 := hide R8
            clear hd h62 hm8 R8
            go_wp2_with fail
            go_ret
            rw [unhide HEQ]
            exact ⟨hb8, rfl, _, _, _, unhide HR8⟩
end Go.Proofs.YtkklapoceknbcaaGreatDoor
