/- The law XdmScopes. -/
import Derived.Test.YtjjggncbhenffaaGreatDoorXdmOut
import Derived.Test.YtjjggncbhenffaaGreatDoorGbw
namespace Go.Proofs.YtjjggncbhenffaaGreatDoor
open Go.RowKit Go.Maps
theorem node_told {ns : List XNode} (h : InvS (ns.map strip0)) {k : Nat} {x : XNode} (hx : ns[k]? = some x) :
    (x.kind = 3 ∧ x.name.pre = [] ∧ x.name.uri = []) ∨ (x.kind = 3 ∧ x.name.pre ≠ [] ∧ ∃ (j : Nat) (y : XNode), x.parent = (j : Int) ∧ ns[j]? = some y ∧ lookR y.scope x.name.pre = some x.name.uri) ∨ (x.kind = 2 ∧ lookR x.scope x.name.pre = some x.name.uri) ∨ (x.kind ≠ 2 ∧ x.kind ≠ 3 ∧ x.scope = []) := by
  have hm : strip0 x ∈ ns.map strip0 := List.mem_map_of_mem (List.mem_of_getElem? hx)
  by_cases h3 : x.kind = 3
  · rcases h.atr _ hm h3 with ha | ⟨ha, j, hj, y', hy, hl⟩
    · exact .inl ⟨h3, ha.1, ha.2⟩
    · rw [List.getElem?_map] at hy
      obtain ⟨y, hy1, rfl⟩ := Option.map_eq_some_iff.1 hy
      exact .inr (.inl ⟨h3, ha, j, y, hj, hy1, hl⟩)
  · by_cases h2 : x.kind = 2
    · exact .inr (.inr (.inl ⟨h2, h.el (strip0 x) hm h2⟩))
    · exact .inr (.inr (.inr ⟨h2, h3, h.oth (strip0 x) hm h2⟩))
theorem TreeAt.okSc {w : World} {B q : Nat} {ns : List XNode} (h : TreeAt w B q ns) : ∀ x ∈ ns, OkSc x.scope := by
  intro x hx
  obtain ⟨_, vn, _, hn⟩ := h
  obtain ⟨i, hi⟩ := List.getElem?_of_mem hx
  have hpos : 0 < ns.length := by
    have := (List.getElem?_eq_some_iff.1 hi).1
    omega
  obtain ⟨g, cap, _, _, _, hcs⟩ := nodes_cells hn hpos
  obtain ⟨u, hu, _⟩ := hcs i x hi
  exact hu.1
theorem fldNm1 (a b c : Value) (W : World) : (Instr.field 47 (.agg #[a, b, c]) 1).run Tryz.prog W = .ok b W := by kernel_rfl
structure SpSt (w : World) (ns : List XNode) (k : Nat) (w' : World) : Prop where
  le : k ≤ ns.length
  bel : Below w.heap.size w w'
set_option maxRecDepth 100000 in
set_option maxHeartbeats 4000000 in
theorem scopes_walk (s : ByteArray) (w : World) (hE : XEnv w.heap.size w) :
    Calls Tryz.prog 5 #[.string s] w fun e w' => e = .returned (.bool true) ∧ Below w.heap.size w w' := by
  have HE := hide hE
  have HW := hide (parse_out s w hE)
  clear hE
  go_enter Tryz.func5, Tryz.ntmps5
  go_wp2_with fail
  refine (unhide HW).mono ?_
  rintro e w1 ⟨v, er, rfl, hb1, hO⟩
  have HE1 := hide ((unhide HE).at hb1)
  clear HW HE
  rcases hO with ⟨he, rfl⟩ | ⟨rfl, cs, ns, q, hl, hs, hpd, rfl, hT⟩
  · have HL := hide (live4_any w1 (unhide HE1))
    rcases he with rfl | rfl | rfl | rfl | rfl
    all_goals
      go_wp2_with fail
      refine (unhide HL).mono ?_
      rintro e w2 ⟨rfl, hb2⟩
      go_wp2
      go_returns
      exact ⟨rfl, Below.then hb1 hb2⟩
  · have hok := parse_ok hl hs hpd
    have hsc : InvS (ns.map strip0) ∧ ∀ x ∈ ns, x.scope.length ≤ 262144 := by
      unfold parseD at hpd
      split at hpd
      · cases hpd
      · rename_i ts hts
        exact (doc_ok hl hs hts).scopes hpd
    have hnl := hok.len
    have hTV : TreeV w1 w.heap.size (.pointer (some ⟨q, 0, none⟩)) ns := .inr ⟨q, rfl, hT⟩
    have HOS := hide hT.okSc
    have HIS := hide hsc.1
    have HSL := hide hsc.2
    have HLn := hide (fun W (hb : Below w1.heap.size w1 W) => len_any _ _ _ W (hTV.on hb))
    have HNm := hide (fun n W (hb : Below w1.heap.size w1 W) => trName_any _ _ _ n W (hTV.on hb))
    have HKd := hide (fun n W (hb : Below w1.heap.size w1 W) => trKind_any _ _ _ n W (hTV.on hb))
    have HPt := hide (fun n W (hb : Below w1.heap.size w1 W) => trParent_any _ _ _ n W (hTV.on hb))
    have HSc := hide (fun n W (hb : Below w1.heap.size w1 W) h => scope_any _ _ _ n W (hTV.on hb) h)
    have HLV := hide (fun W (hb : Below w1.heap.size w1 W) => live4_any W ((unhide HE1).at hb))
    have hfn0 := fldNm0
    have hfn1 := fldNm1
    have HI0 : Hid (SpSt w1 ns 0 w1) := hide ⟨Nat.zero_le _, Below.refl _ _⟩
    clear hok hsc hTV hT hpd hs hl
    go_wp2_with fail
    go_loopw [5] (fun i wr => ∃ k : Nat, i = .int .i64 (k : Nat) ∧ SpSt w1 ns k wr) (fun i _ => ns.length - (intOf i).toNat)
    case atStart => exact ⟨0, rfl, unhide HI0⟩
    case round =>
      clear HI0
      obtain ⟨k, rfl, hI⟩ := hrel
      have hk := hI.le
      have hb0 := hI.bel
      have hc := unhide HLn wr hb0
      clear hI
      go_wp2_with fail
      refine hc.mono ?_
      rintro e w2 ⟨rfl, hbn⟩
      have hb2 := Below.then hb0 hbn
      clear hc hbn
      by_cases hlt : k < ns.length
      · obtain ⟨x, hx⟩ : ∃ x, ns[k]? = some x := ⟨ns[k], List.getElem?_eq_getElem hlt⟩
        have n2 : (k : Int) < (ns.length : Int) := by omega
        have n3 : wrap64 ((k : Int) + 1) = ((k + 1 : Nat) : Int) := by unfold wrap64; omega
        rcases node_told (unhide HIS) hx with ⟨h3, hp0, hu0⟩ | ⟨h3, hp0, j, y, hpj, hy, hlk⟩ | ⟨h2, hlk⟩ | ⟨h2, h3, h0⟩
        · clear HSc HSL HOS
          have hc := unhide HKd (k : Int) w2 hb2
          rw [nodeD_at hx] at hc
          rw [h3] at hc
          go_wp2_with fail
          refine hc.mono ?_
          rintro e w3 ⟨rfl, hbn⟩
          have hb3 := Below.then hb2 hbn
          clear hc hbn
          have hc := unhide HPt (k : Int) w3 hb3
          rw [nodeD_at hx] at hc
          go_wp2_with fail
          refine hc.mono ?_
          rintro e w4 ⟨rfl, hbn⟩
          have hb4 := Below.then hb3 hbn
          clear hc hbn
          have hc := unhide HNm (k : Int) w4 hb4
          rw [nodeD_at hx] at hc
          unfold nmV at hc
          rw [hp0, hu0, T_nil0] at hc
          go_wp2_with fail
          refine hc.mono ?_
          rintro e w5 ⟨rfl, hbn⟩
          have hb5 := Below.then hb4 hbn
          clear hc hbn
          have hc := unhide HNm (k : Int) w5 hb5
          rw [nodeD_at hx] at hc
          unfold nmV at hc
          rw [hp0, hu0, T_nil0] at hc
          go_wp2_with fail
          refine hc.mono ?_
          rintro e w6 ⟨rfl, hbn⟩
          have hb6 := Below.then hb5 hbn
          clear hc hbn
          go_wp2_with fail
          go_round
          case measure => simp [intOf]; omega
          case rel => exact ⟨k + 1, by simp, ⟨hlt, hb6⟩⟩
        · have HPO := hide (lookR_ok (unhide HOS _ (List.mem_of_getElem? hy)) hlk)
          have hne : (T x.name.pre).toList.isEmpty = false := by rw [is_empty (unhide HPO)]; simpa using hp0
          clear hp0
          have hc := unhide HKd (k : Int) w2 hb2
          rw [nodeD_at hx] at hc
          rw [h3] at hc
          go_wp2_with fail
          refine hc.mono ?_
          rintro e w3 ⟨rfl, hbn⟩
          have hb3 := Below.then hb2 hbn
          clear hc hbn
          have hc := unhide HPt (k : Int) w3 hb3
          rw [nodeD_at hx] at hc
          rw [hpj] at hc
          go_wp2_with fail
          refine hc.mono ?_
          rintro e w4 ⟨rfl, hbn⟩
          have hb4 := Below.then hb3 hbn
          clear hc hbn
          have hc := unhide HNm (k : Int) w4 hb4
          rw [nodeD_at hx] at hc
          unfold nmV at hc
          go_wp2_with fail
          refine hc.mono ?_
          rintro e w5 ⟨rfl, hbn⟩
          have hb5 := Below.then hb4 hbn
          clear hc hbn
          have hc := unhide HSc (j : Int) w5 hb5 (by rw [nodeD_at hy]; have := unhide HSL _ (List.mem_of_getElem? hy); omega)
          rw [nodeD_at hy] at hc
          go_wp2_with fail
          refine hc.mono ?_
          rintro e w6 ⟨⟨u, ks, rfl, hks, _, hat⟩, hbn⟩
          have hb6 := Below.then hb5 hbn
          have HAT := hide (attrs_arg hat)
          have HLK := hide (refLook_scope hks hlk)
          have HKL : Hid ((scopeOf y.scope ks).length ≤ 1048576) := hide (by
            have h1 := hks.length_eq
            have h2 := unhide HSL _ (List.mem_of_getElem? hy)
            unfold scopeOf
            rw [List.length_map] at h1 ⊢
            omega)
          have HKO : Hid (∀ z ∈ scopeOf y.scope ks, okL z.1) := hide (fun z hz => by
            obtain ⟨p, hp, rfl⟩ := List.mem_map.1 hz
            obtain ⟨z', hz', rfl⟩ := List.mem_map.1 (hks.mem_iff.1 hp)
            exact (unhide HOS _ (List.mem_of_getElem? hy) z' hz').1.1)
          clear hat hks hc hbn
          have hc := unhide HNm (k : Int) w6 hb6
          rw [nodeD_at hx] at hc
          unfold nmV at hc
          go_wp2_with fail
          refine hc.mono ?_
          rintro e w7 ⟨rfl, hbn⟩
          have hb7 := Below.then hb6 hbn
          have HL2 := hide (refLook_any (scopeOf y.scope ks) u x.name.pre w7 ((unhide HAT).below hbn) (unhide HKO) (unhide HPO) (unhide HKL))
          rw [unhide HLK] at HL2
          unfold lookV at HL2
          clear hc hbn HAT HLK HKL HKO
          go_wp2_with fail
          refine (unhide HL2).mono ?_
          rintro e w8 ⟨rfl, rfl⟩
          clear HL2
          have hc := unhide HNm (k : Int) _ hb7
          rw [nodeD_at hx] at hc
          unfold nmV at hc
          go_wp2_with fail
          refine hc.mono ?_
          rintro e w9 ⟨rfl, hbn⟩
          have hb9 := Below.then hb7 hbn
          clear hc hbn
          go_wp2_with fail
          go_round
          case measure => simp [intOf]; omega
          case rel => exact ⟨k + 1, by simp, ⟨hlt, hb9⟩⟩
        · have HPO := hide (lookR_ok (unhide HOS _ (List.mem_of_getElem? hx)) hlk)
          have hc := unhide HKd (k : Int) w2 hb2
          rw [nodeD_at hx] at hc
          rw [h2] at hc
          go_wp2_with fail
          refine hc.mono ?_
          rintro e w3 ⟨rfl, hbn⟩
          have hb3 := Below.then hb2 hbn
          clear hc hbn
          have hc := unhide HKd (k : Int) w3 hb3
          rw [nodeD_at hx] at hc
          rw [h2] at hc
          go_wp2_with fail
          refine hc.mono ?_
          rintro e w4 ⟨rfl, hbn⟩
          have hb4 := Below.then hb3 hbn
          clear hc hbn
          have hc := unhide HSc (k : Int) w4 hb4 (by rw [nodeD_at hx]; have := unhide HSL _ (List.mem_of_getElem? hx); omega)
          rw [nodeD_at hx] at hc
          go_wp2_with fail
          refine hc.mono ?_
          rintro e w5 ⟨⟨u, ks, rfl, hks, _, hat⟩, hbn⟩
          have hb5 := Below.then hb4 hbn
          have HAT := hide (attrs_arg hat)
          have HLK := hide (refLook_scope hks hlk)
          have HKL : Hid ((scopeOf x.scope ks).length ≤ 1048576) := hide (by
            have h1 := hks.length_eq
            have h2 := unhide HSL _ (List.mem_of_getElem? hx)
            unfold scopeOf
            rw [List.length_map] at h1 ⊢
            omega)
          have HKO : Hid (∀ z ∈ scopeOf x.scope ks, okL z.1) := hide (fun z hz => by
            obtain ⟨p, hp, rfl⟩ := List.mem_map.1 hz
            obtain ⟨z', hz', rfl⟩ := List.mem_map.1 (hks.mem_iff.1 hp)
            exact (unhide HOS _ (List.mem_of_getElem? hx) z' hz').1.1)
          clear hat hks hc hbn
          have hc := unhide HNm (k : Int) w5 hb5
          rw [nodeD_at hx] at hc
          unfold nmV at hc
          go_wp2_with fail
          refine hc.mono ?_
          rintro e w6 ⟨rfl, hbn⟩
          have hb6 := Below.then hb5 hbn
          have HL2 := hide (refLook_any (scopeOf x.scope ks) u x.name.pre w6 ((unhide HAT).below hbn) (unhide HKO) (unhide HPO) (unhide HKL))
          rw [unhide HLK] at HL2
          unfold lookV at HL2
          clear hc hbn HAT HLK HKL HKO
          go_wp2_with fail
          refine (unhide HL2).mono ?_
          rintro e w7 ⟨rfl, rfl⟩
          clear HL2
          have hc := unhide HNm (k : Int) _ hb6
          rw [nodeD_at hx] at hc
          unfold nmV at hc
          go_wp2_with fail
          refine hc.mono ?_
          rintro e w8 ⟨rfl, hbn⟩
          have hb8 := Below.then hb6 hbn
          clear hc hbn
          go_wp2_with fail
          go_round
          case measure => simp [intOf]; omega
          case rel => exact ⟨k + 1, by simp, ⟨hlt, hb8⟩⟩
        · have e2 : ((x.kind : Int) == 2) = false := by simpa using (by omega : ¬ (x.kind : Int) = 2)
          have e3 : ((x.kind : Int) == 3) = false := by simpa using (by omega : ¬ (x.kind : Int) = 3)
          clear h2 h3
          have hc := unhide HKd (k : Int) w2 hb2
          rw [nodeD_at hx] at hc
          go_wp2_with fail
          refine hc.mono ?_
          rintro e w3 ⟨rfl, hbn⟩
          have hb3 := Below.then hb2 hbn
          clear hc hbn
          have hc := unhide HKd (k : Int) w3 hb3
          rw [nodeD_at hx] at hc
          go_wp2_with fail
          refine hc.mono ?_
          rintro e w4 ⟨rfl, hbn⟩
          have hb4 := Below.then hb3 hbn
          clear hc hbn
          have hc := unhide HSc (k : Int) w4 hb4 (by rw [nodeD_at hx, h0]; exact Nat.zero_le _)
          rw [nodeD_at hx] at hc
          rw [h0] at hc
          go_wp2_with fail
          refine hc.mono ?_
          rintro e w5 ⟨⟨u, ks, rfl, hks, _, hat⟩, hbn⟩
          have hb5 := Below.then hb4 hbn
          have hk0 : ks = [] := List.perm_nil.1 hks
          subst hk0
          obtain ⟨ua, uc, hue⟩ := owns_slice hat
          have hue' : u = .slice ua 0 uc := hue
          subst hue'
          clear hat hks hue hc hbn
          go_wp2_with fail
          go_round
          case measure => simp [intOf]; omega
          case rel => exact ⟨k + 1, by simp, ⟨hlt, hb5⟩⟩
      · have n2 : ¬ (k : Int) < (ns.length : Int) := by omega
        have hc := unhide HLV w2 hb2
        go_wp2_with fail
        refine hc.mono ?_
        rintro e w3 ⟨rfl, hb3⟩
        go_wp2
        go_returns
        exact ⟨rfl, Below.then hb1 (Below.then hb2 hb3)⟩
end Go.Proofs.YtjjggncbhenffaaGreatDoor
