/- Several texts, laid as one. -/
import Derived.Test.YtjjggncbhenffaaGreatDoorGan
import Derived.Test.YtjjggncbhenffaaGreatDoorGao
import Derived.DeepKeys4
import Derived.Test.YtjjggncbhenffaaGreatDoorXdmM
/- What prefixes stand for in an element: xdm's with. -/
namespace Go.Proofs.YtjjggncbhenffaaGreatDoor
open Go.RowKit Go.Maps
/-- Attributes of characters that may be, and none long. -/
def OkAt (l : List (List Nat × List Nat)) : Prop := ∀ x ∈ l, (okL x.1 ∧ okL x.2) ∧ (T x.1).size ≤ 1048576 ∧ (T x.2).size ≤ 1048576
abbrev pairsT (l : List (List Nat × List Nat)) : List (ByteArray × ByteArray) := l.map fun x => (T x.1, T x.2)
/-- Where the loop stands: what prefixes stand for so far, and whether it is a map of its own. -/
structure WithInv (w : World) (B : Nat) (v : Value) (s : Sc) (l : List (List Nat × List Nat)) (k : Nat) (vi : Value) (sh : Bool) (t : Sc) (w' : World) : Prop where
  le : k ≤ l.length
  bel : Below w.heap.size w w'
  spec : withD s l = withD t (l.drop k)
  len : t.length ≤ s.length + k
  ok : OkSc t
  old : sh = true → vi = v ∧ t = s
  new : sh = false → ∃ b, vi = .map (some b) ∧ w.heap.size ≤ b ∧ w'.ownsMap Tryz.prog 9 entElem b t.length (scD t)
theorem owns_on {w w' : World} {b n : Nat} {D : DataW Unit} (h : w.ownsMap Tryz.prog 9 entElem b n D) (hb : Below w.heap.size w w') : w'.ownsMap Tryz.prog 9 entElem b n D := by
  have hlt := h.lt
  obtain ⟨es, clock, h1, h2⟩ := h
  exact ⟨es, clock, by rw [hb.block b hlt]; exact h1, h2⟩
theorem WithInv.skip {w : World} {B : Nat} {v : Value} {s : Sc} {l : List (List Nat × List Nat)} {k : Nat} {vi : Value} {sh : Bool} {t : Sc} {w1 w2 : World} (h : WithInv w B v s l k vi sh t w1) (hb : Below w1.heap.size w1 w2) (hk : k < l.length) (hs : withD s l = withD t (l.drop (k + 1))) : WithInv w B v s l (k + 1) vi sh t w2 :=
  ⟨hk, Below.then h.bel hb, hs, by have := h.len; omega, h.ok, h.old, fun e => by
    obtain ⟨b, h1, h2, h3⟩ := h.new e
    exact ⟨b, h1, h2, owns_on h3 hb⟩⟩
theorem declD_ok {n p : List Nat} (h : declD n = some p) (hn : okL n) : okL p ∧ (T p).size ≤ (T n).size := by
  unfold declD at h
  split at h
  · cases h; exact ⟨okL_e, Nat.zero_le _⟩
  · split at h
    · cases h
      refine ⟨okL_drop hn 6, ?_⟩
      rw [T_size, T_size]
      conv => rhs; rw [← List.take_append_drop 6 n, tx_len_app]
      omega
    · cases h
def WithOut (w' : World) (B : Nat) (o : Option Sc) (e : Ending) : Prop := match o with
  | some t => ∃ v', e = .returned (.tuple #[v', .bool true]) ∧ ScV w' B v' t
  | none => e = .returned (.tuple #[.map none, .bool false])
set_option maxRecDepth 100000 in
set_option maxHeartbeats 4000000 in
theorem with_any (B : Nat) (v va : Value) (s : Sc) (l : List (List Nat × List Nat)) (w : World) (hv : ScV w B v s) (ha : PairsArg w va (pairsT l)) (hl : OkAt l) (hn : l.length ≤ 1000) (hs : s.length ≤ 500000) (hB : B ≤ w.heap.size) :
    Calls Tryz.prog 103 #[v, va] w fun e w' => WithOut w' B (withD s l) e ∧ Below w.heap.size w w' := by
  have HV := hide hv
  have HA := hide ha
  have HL := hide hl
  have hpl : (pairsT l).length = l.length := List.length_map ..
  obtain ⟨aa, cap, rfl, _⟩ := ha
  rw [hpl] at HA ⊢
  obtain ⟨m, rfl⟩ := hv.one
  have HI0 : Hid (WithInv w B (.map m) s l 0 (.map m) true s w) := hide ⟨Nat.zero_le _, Below.refl _ _, rfl, by omega, hv.1, fun _ => ⟨rfl, rfl⟩, fun h => by cases h⟩
  clear hv hl
  go_enter Tryz.func103, Tryz.ntmps103
  go_wp2_with fail
  go_loopw [6, 7, 15] (fun vi vs i wr => ∃ (k : Nat) (sh : Bool) (t : Sc), i = .int .i64 (k : Nat) ∧ vs = .bool sh ∧ WithInv w B (.map m) s l k vi sh t wr) (fun _ _ i _ => l.length - (intOf i).toNat)
  case atStart => exact ⟨0, true, s, rfl, rfl, unhide HI0⟩
  case round =>
    clear HI0
    obtain ⟨k, sh, t, rfl, rfl, hI⟩ := hrel
    have hk := hI.le
    by_cases hlt : k < l.length
    · obtain ⟨x, hx⟩ : ∃ x, l[k]? = some x := ⟨l[k], List.getElem?_eq_getElem hlt⟩
      obtain ⟨⟨hx1, hx2⟩, hz1, hz2⟩ := unhide HL x (List.mem_of_getElem? hx)
      obtain ⟨a', cap', he, hcells⟩ := (unhide HA).below hI.bel
      obtain ⟨g, o, ha, hc⟩ := hcells (by intro h0; rw [List.map_eq_nil_iff] at h0; rw [h0] at hlt; cases hlt)
      rw [hpl] at he
      cases he
      subst ha
      obtain ⟨c0, c1⟩ := hc k (T x.1, T x.2) (by rw [List.getElem?_map, hx]; rfl)
      simp only at c0 c1
      have n1 : (0 : Int) ≤ (k : Int) := by omega
      have n2 : (k : Int) < (l.length : Int) := by omega
      have hdr : l.drop k = x :: l.drop (k + 1) := by
        rw [← List.getElem_cons_drop hlt]
        congr 1
        exact (List.getElem?_eq_some_iff.1 hx).2
      have hspec := hI.spec
      rw [hdr] at hspec
      have hbA : Below wr.heap.size wr (wr.alloc (.cells #[.string (T x.1), .string (T x.2)] 36 (0, 0))) := (Below.refl _ _).alloc (Nat.le_refl _) _
      have hb0 := Below.then hI.bel hbA
      have HI := hide hI
      have HDC := hide (fun W => declared_any x.1 W hx1)
      clear hc hI hcells hdr hx
      cases hdc : declD x.1 with
      | none =>
        have HV2 : Hid (declV x.1 = .tuple #[.string (T x.1), .bool false]) := hide (by unfold declV; rw [hdc])
        rw [unhide HV2] at HDC
        have HSP : Hid (withD s l = withD t (l.drop (k + 1))) := hide (by rw [hspec, withD, hdc])
        clear hdc hspec HV2
        go_wp2_with fail
        refine (unhide HDC _).mono ?_
        rintro e w1 ⟨rfl, rfl⟩
        go_wp2_with fail
        exact ⟨⟨k + 1, sh, t, by simp, rfl, (unhide HI).skip hbA hlt (unhide HSP)⟩, by simp [intOf]; omega⟩
      | some p =>
        obtain ⟨hp, hpz⟩ := declD_ok hdc hx1
        have HV2 : Hid (declV x.1 = .tuple #[.string (T p), .bool true]) := hide (by unfold declV; rw [hdc])
        rw [unhide HV2] at HDC
        have hspec2 : withD s l = if mayD p x.2 then withD (declareD t p x.2) (l.drop (k + 1)) else none := by rw [hspec, withD, hdc]
        have HMD := hide (fun W => mayDeclare_any p x.2 W hp hx2)
        have d1 : (wr.alloc (.cells #[.string (T x.1), .string (T x.2)] 36 (0, 0))).cell? ⟨wr.heap.size, 1, none⟩ = some (.string (T x.2)) := by simp [go_sem]
        have HD1 := hide d1
        clear hdc hspec HV2 d1
        cases hmd : mayD p x.2
        · rw [hmd] at HMD hspec2
          rw [if_neg (by decide)] at hspec2
          have HSPN := hide hspec2
          clear hmd hspec2
          go_wp2_with fail
          refine (unhide HDC _).mono ?_
          rintro e w1 ⟨rfl, rfl⟩
          go_wp2_with fail
          refine (unhide HMD _).mono ?_
          rintro e w1 ⟨rfl, rfl⟩
          go_wp2
          go_returns
          rw [unhide HSPN]
          exact ⟨rfl, hb0⟩
        · rw [hmd, if_pos rfl] at hspec2
          rw [hmd] at HMD
          have HSP := hide hspec2
          have hok := (unhide HI).ok.declare hp hx2 (by omega) hz2
          have hlen := (unhide HI).len
          have hdlen := declareD_len t p x.2
          have HOK := hide hok
          clear hmd hspec2 hok
          cases sh with
          | true =>
            obtain ⟨e6, et⟩ := (unhide HI).old rfl
            subst e6 et
            have HCP := hide (copied_any B (.map m) t (wr.alloc (.cells #[.string (T x.1), .string (T x.2)] 36 (0, 0))) ((unhide HV).on hb0) (by omega))
            have hsz0 : (wr.alloc (.cells #[.string (T x.1), .string (T x.2)] 36 (0, 0))).heap.size = wr.heap.size + 1 := by simp
            rw [hsz0] at HCP
            clear hsz0
            go_wp2_with fail
            refine (unhide HDC _).mono ?_
            rintro e w1 ⟨rfl, rfl⟩
            go_wp2_with fail
            refine (unhide HMD _).mono ?_
            rintro e w1 ⟨rfl, rfl⟩
            go_wp2_with fail
            refine (unhide HCP).mono ?_
            rintro e w1 ⟨rfl, hown, hb1⟩
            have hb1 : Below (wr.alloc (.cells #[.string (T x.1), .string (T x.2)] 36 (0, 0))).heap.size (wr.alloc (.cells #[.string (T x.1), .string (T x.2)] 36 (0, 0))) w1 := by simpa using hb1
            have hb01 := Below.then hb0 hb1
            have d1 := keptC hb1 (unhide HD1)
            have HDE := hide (declare_any _ t p x.2 w1 hown (unhide HI).ok (by omega) hp hx2 (by omega))
            have hlt1 := hown.lt
            clear hown
            go_wp2_with fail
            refine (unhide HDE).mono ?_
            rintro e w2 ⟨rfl, hown2, hk2⟩
            have HO2 := hide hown2
            have HK2 := hide hk2
            clear hown2 hk2
            go_wp2_with fail
            have hbz := (unhide HI).bel.size
            have hb02 : Below w.heap.size w w2 := hb01.trans ((unhide HK2).low hb01.size (fun j hj => by subst hj; omega))
            exact ⟨⟨k + 1, false, declareD t p x.2, by simp, rfl, ⟨hlt, hb02, unhide HSP, by omega, unhide HOK, (fun h => by cases h), fun _ => ⟨_, rfl, by omega, unhide HO2⟩⟩⟩, by simp [intOf]; omega⟩
          | false =>
            obtain ⟨b, e6, hbb, hown⟩ := (unhide HI).new rfl
            subst e6
            have HDE := hide (declare_any b t p x.2 (wr.alloc (.cells #[.string (T x.1), .string (T x.2)] 36 (0, 0))) (owns_on hown hbA) (unhide HI).ok (by omega) hp hx2 (by omega))
            have d1 := unhide HD1
            clear hown
            go_wp2_with fail
            refine (unhide HDC _).mono ?_
            rintro e w1 ⟨rfl, rfl⟩
            go_wp2_with fail
            refine (unhide HMD _).mono ?_
            rintro e w1 ⟨rfl, rfl⟩
            go_wp2_with fail
            refine (unhide HDE).mono ?_
            rintro e w2 ⟨rfl, hown2, hk2⟩
            have HO2 := hide hown2
            have HK2 := hide hk2
            have hb01 := hb0
            clear hown2 hk2
            go_wp2_with fail
            have hbz := (unhide HI).bel.size
            have hb02 : Below w.heap.size w w2 := hb01.trans ((unhide HK2).low hb01.size (fun j hj => by subst hj; omega))
            exact ⟨⟨k + 1, false, declareD t p x.2, by simp, rfl, ⟨hlt, hb02, unhide HSP, by omega, unhide HOK, (fun h => by cases h), fun _ => ⟨_, rfl, by omega, unhide HO2⟩⟩⟩, by simp [intOf]; omega⟩
    · have n2 : ¬ (k : Int) < (l.length : Int) := by omega
      have hkl : k = l.length := by omega
      have hsp := hI.spec
      rw [hkl, List.drop_length] at hsp
      have HSP : Hid (withD s l = some t) := hide hsp
      have HI := hide hI
      have HSC : Hid (ScV wr B u6 t) := hide (by
        cases sh with
        | true =>
          obtain ⟨e1, e2⟩ := hI.old rfl
          rw [e1, e2]
          exact (unhide HV).on hI.bel
        | false =>
          obtain ⟨b, e1, e2, e3⟩ := hI.new rfl
          exact ⟨hI.ok, .inr ⟨b, e1, by omega, e3⟩⟩)
      obtain ⟨mm, e6⟩ := (unhide HSC).one
      subst e6
      clear hI hsp hkl
      go_wp2
      go_returns
      rw [unhide HSP]
      exact ⟨⟨_, rfl, unhide HSC⟩, (unhide HI).bel⟩
end Go.Proofs.YtjjggncbhenffaaGreatDoor
/- Names as keys of a map. -/
namespace Go.Proofs.YtjjggncbhenffaaGreatDoor
open Go.RowKit Go.Maps
theorem nmLaid : laidOutB Tryz.prog = true := by kernel_rfl
theorem nmKeyed : Maps.Keyed Tryz.prog 47 := Keyed.of_law (deep_law_laid nmLaid (m := 2) (by omega) (of_decide_eq_true (by kernel_rfl)) (by kernel_rfl) (by kernel_rfl))
theorem key_some (a b c : ByteArray) (ha : a.size ≤ maxLen) (hb : b.size ≤ maxLen) (hc : c.size ≤ maxLen) : keyOf Tryz.prog 47 (.agg #[.string a, .string b, .string c]) = some (.string (keyBytes [.string a.data.toList, .string b.data.toList, .string c.data.toList])) := by
  have h1 : Tryz.prog.keyType 47 = true := by kernel_rfl
  have h2 : Tryz.prog.cellsOf 47 = 3 := by kernel_rfl
  have h3 : Tryz.prog.cellsOf 9 = 1 := by kernel_rfl
  obtain ⟨n, h4⟩ : ∃ n, Tryz.prog.types.size = n + 1 := ⟨Tryz.prog.types.size - 1, by have : 0 < Tryz.prog.types.size := of_decide_eq_true (by kernel_rfl); omega⟩
  have hs : ∀ (d : Nat) (x : ByteArray), x.size ≤ maxLen → Tryz.prog.keyLits (d + 1) 9 [.string x] = some [.string x.data.toList] := fun d x hx => by
    rw [Program.keyLits]
    · rw [if_pos hx]
    · exact Tryz.underlying9
  unfold keyOf
  rw [Tryz.underlying47]
  simp only [h1, Value.formed, Tryz.underlying47, h2]
  rw [h4, if_pos (show (true && #[Value.string a, Value.string b, Value.string c].size == 3) = true from rfl)]
  have h5 : Tryz.prog.keyLits (n + 1 + 1) 47 [.string a, .string b, .string c] = some [.string a.data.toList, .string b.data.toList, .string c.data.toList] := by
    unfold Program.keyLits
    rw [Tryz.underlying47]
    simp only [h2, List.length_cons, List.length_nil]
    rw [if_pos (by decide +kernel)]
    simp [h3, hs _ a ha, hs _ b hb, hs _ c hc]
  show Option.map _ (Tryz.prog.keyLits (n + 1 + 1) 47 [.string a, .string b, .string c]) = _
  rw [h5]
  rfl
def keyT (k : List Nat × List Nat) : Value := .agg #[.string (T k.1), .string ⟨#[]⟩, .string (T k.2)]
def keyL (k : List Nat × List Nat) : Lit := .string (keyBytes [.string (tx k.1), .string [], .string (tx k.2)])
structure OkKey (k : List Nat × List Nat) : Prop where
  u : okL k.1
  l : okL k.2
  un : (T k.1).size ≤ 1048576
  ln : (T k.2).size ≤ 1048576
theorem keyL_eq {k : List Nat × List Nat} (h : OkKey k) : keyOf Tryz.prog 47 (keyT k) = some (keyL k) := by
  have h1 := h.un
  have h2 := h.ln
  have hl := key_some (T k.1) ⟨#[]⟩ (T k.2) (by unfold maxLen; omega) (Nat.zero_le _) (by unfold maxLen; omega)
  rw [T_data, T_data] at hl
  exact hl
theorem T_inj2 {a b : List Nat} (ha : okL a) (hb : okL b) (h : T a = T b) : a = b := by
  have : (T a).data.toList = (T b).data.toList := by rw [h]
  rw [T_data, T_data] at this
  exact tx_inj ha hb this
theorem keyL_inj {a b : List Nat × List Nat} (ha : OkKey a) (hb : OkKey b) (h : keyL a = keyL b) : a = b := by
  have h1 := keyL_eq ha
  have h2 := keyL_eq hb
  rw [← h] at h2
  have e := nmKeyed.inj h1 h2
  unfold keyT at e
  have e' := Array.toList_inj.2 (Value.agg.inj e)
  simp only [List.cons.injEq, Value.string.injEq] at e'
  exact Prod.ext (T_inj2 ha.u hb.u e'.1) (T_inj2 ha.l hb.l e'.2.2.1)
/-- Names in a map: each is there, and it is as long as they are just if none is there twice. -/
def KnownAt (w : World) (b : Nat) (ks : List (List Nat × List Nat)) : Prop := ∃ D, w.ownsMap (H := Unit) Tryz.prog 47 (plainElem Tryz.prog 3) b ks.length D ∧ (∀ k, OkKey k → Maps.has D (keyL k) = ks.contains k) ∧
  (ks.Nodup → Maps.size D = ks.length) ∧ (¬ ks.Nodup → Maps.size D < ks.length)
theorem KnownAt.kept {w w' : World} {b : Nat} {ks : List (List Nat × List Nat)} (h : KnownAt w b ks) (hk : ∀ es c, w.heap[b]? = some (.map es c) → w'.heap[b]? = some (.map es c)) : KnownAt w' b ks := by
  obtain ⟨D, ⟨es, clock, h1, h2⟩, h3⟩ := h
  exact ⟨D, ⟨es, clock, hk es clock h1, h2⟩, h3⟩
theorem KnownAt.blk {w : World} {b : Nat} {ks : List (List Nat × List Nat)} (h : KnownAt w b ks) : ∃ es c, w.heap[b]? = some (.map es c) ∧ b < w.heap.size := by
  obtain ⟨D, ⟨es, clock, h1, _⟩, _⟩ := h
  exact ⟨es, clock, h1, (Array.getElem?_eq_some_iff.1 h1).1⟩
theorem KnownAt.put {w w' : World} {b : Nat} {ks : List (List Nat × List Nat)} {D : DataW Unit} {d : DataW Unit} {k : List Nat × List Nat} (hown : w.ownsMap (H := Unit) Tryz.prog 47 (plainElem Tryz.prog 3) b ks.length D) (hh : ∀ k, OkKey k → Maps.has D (keyL k) = ks.contains k)
    (h1 : ks.Nodup → Maps.size D = ks.length) (h2 : ¬ ks.Nodup → Maps.size D < ks.length) (hk : OkKey k) (hW : w'.ownsMap (H := Unit) Tryz.prog 47 (plainElem Tryz.prog 3) b (ks.length + 1) (D.put (keyL k) d)) : KnownAt w' b (ks ++ [k]) := by
  have hkl : WideAt.IsKeyLit (keyL k) := nmKeyed.key (keyL_eq hk)
  have htd := hown.tidy nmKeyed
  have him := hown.isMap
  have hsz := Maps.size_put (k := keyL k) htd d
  rw [hh k hk] at hsz
  refine ⟨_, by rw [List.length_append]; exact hW, fun j hj => ?_, fun hn => ?_, fun hn => ?_⟩
  · by_cases e : j = k
    · subst e
      rw [Maps.has_put_same him hkl]
      simp
    · have hne : keyL j ≠ keyL k := fun h => e (keyL_inj hj hk h)
      rw [Maps.has_put_other hne, hh j hj]
      simp [e]
  · rw [List.nodup_append] at hn
    have hc : ks.contains k = false := by
      cases hc : ks.contains k
      · rfl
      · exact absurd rfl (hn.2.2 k (List.contains_iff_mem.1 hc) k (by simp))
    rw [hc] at hsz
    rw [hsz, List.length_append, h1 hn.1]
    rfl
  · rw [hsz, List.length_append]
    show _ < ks.length + 1
    by_cases hks : ks.Nodup
    · have hc : ks.contains k = true := by
        cases hc : ks.contains k
        · exfalso
          apply hn
          rw [List.nodup_append]
          refine ⟨hks, by simp, fun x hx y hy => ?_⟩
          rw [List.mem_singleton.1 hy]
          intro e
          subst e
          rw [List.contains_iff_mem.2 hx] at hc
          cases hc
        · rfl
      rw [hc, if_pos rfl, h1 hks]
      omega
    · have := h2 hks
      split <;> omega
theorem KnownAt.made (w : World) : KnownAt (w.alloc (.map #[] 0)) w.heap.size [] := ⟨.map [], World.ownsMap_made _ _ _ _, fun _ _ => rfl, fun _ => rfl, fun h => absurd List.nodup_nil h⟩
end Go.Proofs.YtjjggncbhenffaaGreatDoor
/- A builder's methods: begin, finish, placed, leaf. -/
namespace Go.Proofs.YtjjggncbhenffaaGreatDoor
open Go.RowKit
theorem infoNode : (Tryz.prog.info? 69).map (fun i => (i.zero, i.size, i.bytes)) = some (some (.agg #[.int .i64 0, .string ⟨#[]⟩, .string ⟨#[]⟩, .string ⟨#[]⟩, .string ⟨#[]⟩, .int .i64 0, .int .i64 0, .int .i64 0, .map none]), 9, 104) := by kernel_rfl
theorem infoInt : (Tryz.prog.info? 3).map (fun i => (i.zero, i.size, i.bytes)) = some (some (.int .i64 0), 1, 8) := by kernel_rfl
theorem news9 {W : World} {g : Nat} {a b c d e f i j k : Value} (h0 : W.cell? ⟨g, 0, none⟩ = some a) (h1 : W.cell? ⟨g, 1, none⟩ = some b) (h2 : W.cell? ⟨g, 2, none⟩ = some c) (h3 : W.cell? ⟨g, 3, none⟩ = some d) (h4 : W.cell? ⟨g, 4, none⟩ = some e) (h5 : W.cell? ⟨g, 5, none⟩ = some f) (h6 : W.cell? ⟨g, 6, none⟩ = some i) (h7 : W.cell? ⟨g, 7, none⟩ = some j) (h8 : W.cell? ⟨g, 8, none⟩ = some k) :
    ∀ n u, [a, b, c, d, e, f, i, j, k][n]? = some u → W.cell? ((⟨g, 0, none⟩ : Addr).add n) = some u := by
  intro n u h
  rw [Addr.add_mid, Nat.zero_add]
  match n, h with
  | 0, h => cases h; exact h0
  | 1, h => cases h; exact h1
  | 2, h => cases h; exact h2
  | 3, h => cases h; exact h3
  | 4, h => cases h; exact h4
  | 5, h => cases h; exact h5
  | 6, h => cases h; exact h6
  | 7, h => cases h; exact h7
  | 8, h => cases h; exact h8
set_option maxRecDepth 100000 in
set_option maxHeartbeats 4000000 in
theorem begin_any (B p : Nat) (vn vo v : Value) (s : BS) (x : XNode) (w : World) (H : Bd w B p vn vo s) (hv : ScV w B v x.scope) (hn : s.nodes.length ≤ 1000000) (ho : s.opn.length ≤ 1000000) (hB : B ≤ w.heap.size) :
    Calls Tryz.prog 33 #[.pointer (some ⟨p, 0, none⟩), .agg (nodeCells x v).toArray] w fun e w' => e = .returned (.tuple #[]) ∧ ∃ vn' vo', BdTo B p vn vo w w' vn' vo' (s.begin x) := by
  have hlow := H.low
  have hlt := H.lt
  obtain ⟨m, rfl⟩ := hv.one
  have HB := hide H
  have HV := hide hv
  have HRO := hide H.opn
  obtain ⟨ao, co, rfl⟩ := owns_slice H.opn
  obtain ⟨vs, h1, h2, h3⟩ := H.nodes
  obtain ⟨an, cn, rfl⟩ := owns_slice h2
  have c0 : w.cell? ⟨p, 0, none⟩ = some (.slice an s.nodes.length cn) := blk_cell H.blk 0
  have c1 : w.cell? ⟨p, 1, none⟩ = some (.slice ao s.opn.length co) := blk_cell H.blk 1
  have o0 := blk_open H.blk 0
  have o1 := blk_open H.blk 1
  obtain ⟨i0, hi, hz0, hz1, hz2⟩ := info_parts infoInt
  obtain ⟨j0, hj, hy0, hy1, hy2⟩ := info_parts infoNode
  have hself := Below.refl w.heap.size w
  have HVO : Hid (∀ k, (Value.slice ao s.opn.length co).ownBlock = some k → k < w.heap.size) := hide fun k hk => (H.opn.lt k hk).2
  have hbox : (w.alloc (.cells (nodeCells x (.map m)).toArray 69)).heap[w.heap.size]? = some (.cells (nodeCells x (.map m)).toArray 69 (0, 0)) := alloc_new _ _
  have HBX : Hid (∀ W, Below (w.alloc (.cells (nodeCells x (.map m)).toArray 69)).heap.size (w.alloc (.cells (nodeCells x (.map m)).toArray 69)) W → W.heap[w.heap.size]? = some (.cells (nodeCells x (.map m)).toArray 69 (0, 0))) := hide fun W hW => block_below hbox hW
  have hself1 := Below.refl (w.alloc (.cells (nodeCells x (.map m)).toArray 69)).heap.size (w.alloc (.cells (nodeCells x (.map m)).toArray 69))
  clear h1 h2 h3 H hv hbox
  go_enter Tryz.func33, Tryz.ntmps33
  go_upto_region 1 with fail
  go_cut [] (fun wx => Hid (∃ vo1, BdTo B p (.slice an s.nodes.length cn) (.slice ao s.opn.length co) w wx (.slice an s.nodes.length cn) vo1 ⟨s.nodes, s.opn ++ [s.nodes.length]⟩) ∧ wx.heap[w.heap.size]? = some (.cells (nodeCells x (.map m)).toArray 69 (0, 0)))
  case first =>
    go_region_law (refine step_append_where rfl (.tmp 8) (.tmp 14) 41 rfl B 3 i0 _ 1 8 Tryz.underlying41 hi hz0 hz1 hz2 rfl (by decide) (.slice ao s.opn.length co) s.opn.length (intRow s.opn) rfl (owns_below (unhide HRO) (by (repeat first | with_reducible exact hself | refine Below.drew ?_ | refine Below.alloc ?_ (by simp) _))) _ 1 1 [.int .i64 (s.nodes.length : Nat)] rfl rfl (newsI1 (by simp [go_sem])) (fun u hu => by simp at hu; subst hu; rfl) (by unfold maxLen; omega) (by omega) (by simp; omega) ?_; intro v' w' hown hgrow hat; obtain ⟨a5, b5, rfl⟩ := owns_slice hown; have hR := (unhide HB).opened (by (repeat first | with_reducible exact hself | refine Below.drew ?_ | refine Below.alloc ?_ (by simp) _)) hgrow hat hown; have c1' : w'.cell? ⟨p, 1, none⟩ = some (.slice ao s.opn.length co) := blk_cell hR.2 1; have o1' := blk_open hR.2 1)
    all_goals have HR := hide hR.1
    all_goals clear hR
    all_goals go_wp2_with fail
    all_goals go_meet
    all_goals refine ⟨hide ⟨_, unhide HR⟩, ?_⟩
    all_goals rw [blk_other (by omega), hgrow.block w.heap.size (by simp; omega) (fun e => by have := unhide HVO _ e.symm; omega)]
    all_goals exact unhide HBX _ (by (repeat first | with_reducible exact hself1 | refine Below.drew ?_ | refine Below.alloc ?_ (by simp) _))
  case rest =>
    obtain ⟨hto, hbx⟩ := hcut
    obtain ⟨vo1, hto⟩ := unhide hto
    have H1 := hto.bd
    have HTO := hide hto
    have HB1 := hide H1
    have hvx := hto.sc (unhide HB) (unhide HV)
    have HVX := hide hvx
    obtain ⟨vs1, h1, h2, h3⟩ := H1.nodes
    have HVS := hide h1
    have HROW := hide h2
    have HAT := hide h3
    have hltc := H1.lt
    have hsz : w.heap.size < wc.heap.size := (Array.getElem?_eq_some_iff.1 hbx).1
    obtain ⟨ao1, co1, rfl⟩ := owns_slice H1.opn
    have c0' : wc.cell? ⟨p, 0, none⟩ = some (.slice an s.nodes.length cn) := blk_cell H1.blk 0
    have o0' := blk_open H1.blk 0
    have b0 : wc.cell? ⟨w.heap.size, 0, none⟩ = some (.int .i64 (x.kind : Nat)) := blk_cell hbx 0
    have b1 : wc.cell? ⟨w.heap.size, 1, none⟩ = some (.string (T x.name.uri)) := blk_cell hbx 1
    have b2 : wc.cell? ⟨w.heap.size, 2, none⟩ = some (.string (T x.name.pre)) := blk_cell hbx 2
    have b3 : wc.cell? ⟨w.heap.size, 3, none⟩ = some (.string (T x.name.loc)) := blk_cell hbx 3
    have b4 : wc.cell? ⟨w.heap.size, 4, none⟩ = some (.string (T x.text)) := blk_cell hbx 4
    have b5 : wc.cell? ⟨w.heap.size, 5, none⟩ = some (.int .i64 x.parent) := blk_cell hbx 5
    have b6 : wc.cell? ⟨w.heap.size, 6, none⟩ = some (.int .i64 (x.fin : Nat)) := blk_cell hbx 6
    have b7 : wc.cell? ⟨w.heap.size, 7, none⟩ = some (.int .i64 (x.deep : Nat)) := blk_cell hbx 7
    have b8 : wc.cell? ⟨w.heap.size, 8, none⟩ = some (.map m) := blk_cell hbx 8
    have hselfc := Below.refl wc.heap.size wc
    have hBc : B ≤ wc.heap.size := by omega
    clear h1 h2 h3 H1 hto hbx HBX hself1 hvx hself c0 c1 o0 o1
    go_wp2_with fail
    go_region_law (refine step_append_where rfl (.tmp 22) (.tmp 24) 62 rfl B 69 j0 _ 9 104 Tryz.underlying62 hj hy0 hy1 hy2 rfl (by decide) (.slice an s.nodes.length cn) s.nodes.length (nodeRow s.nodes vs1) rfl (owns_below (unhide HROW) (by (repeat first | with_reducible exact hselfc | refine Below.drew ?_ | refine Below.alloc ?_ (by simp) _))) _ 1 1 (nodeCells x (.map m)) rfl rfl (news9 (by simp [go_sem]) (by simp [go_sem]) (by simp [go_sem]) (by simp [go_sem]) (by simp [go_sem]) (by simp [go_sem]) (by simp [go_sem]) (by simp [go_sem]) (by simp [go_sem])) (fun u hu => by simp [nodeCells] at hu; rcases hu with rfl | rfl | rfl | rfl | rfl | rfl | rfl | rfl | rfl <;> rfl) (by unfold maxLen; omega) (by omega) (by simp; omega) ?_; intro v' w' hown hgrow hat; obtain ⟨a5, b5, rfl⟩ := owns_slice hown; have hR := Bd.grew (unhide HB1) (by (repeat first | with_reducible exact hselfc | refine Below.drew ?_ | refine Below.alloc ?_ (by simp) _)) (unhide HVS) (unhide HAT) (unhide HVX) (unhide HROW) hgrow hat hown; have c0'' : w'.cell? ⟨p, 0, none⟩ = some (.slice an s.nodes.length cn) := blk_cell hR.2 0; have o0'' := blk_open hR.2 0)
    all_goals have HR := hide hR.1
    all_goals clear hR
    all_goals go_wp2
    all_goals go_returns
    all_goals exact ⟨rfl, _, _, (unhide HTO).then (unhide HR)⟩
end Go.Proofs.YtjjggncbhenffaaGreatDoor
