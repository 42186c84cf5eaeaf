/- Several texts, laid as one. -/
import Derived.Test.YtefjfjieoiegnaaGreatDoorGaq
import Derived.Test.YtefjfjieoiegnaaGreatDoorGap
/- CDATA and end tags: xmlscan's section and endTag. -/
namespace Go.Proofs.YtefjfjieoiegnaaGreatDoor
open Go.RowKit
end Go.Proofs.YtefjfjieoiegnaaGreatDoor
/- End tags: xmlscan's endTag. -/
namespace Go.Proofs.YtefjfjieoiegnaaGreatDoor
open Go.RowKit
/-- The names that are open are texts, and not too many. -/
def OpnOk (s : RS) : Prop := (∀ x ∈ s.opn, okL x ∧ (T x).size ≤ 32768) ∧ s.opn.length ≤ 32
end Go.Proofs.YtefjfjieoiegnaaGreatDoor
/- Whether tokens are a document's: xmlscan's isDocument. -/
namespace Go.Proofs.YtefjfjieoiegnaaGreatDoor
open Go.RowKit
structure DocSt (w : World) (ts : List BTok) (k : Nat) (o : List ByteArray) (r : Bool) (last : Int) (vo : Value) (w' : World) : Prop where
  le : k ≤ ts.length
  bel : Below w.heap.size w w'
  row : w'.ownsRow w.heap.size 9 1 vo o.length (o.map Value.string)
  few : o.length ≤ k
  spec : docB [] false 0 ts = docB o r last (ts.drop k)
theorem docB_cons (o : List ByteArray) (r : Bool) (last : Int) (t : BTok) (ts : List BTok) : docB o r last (t :: ts) = (okB t && (match docStp o r last t with
    | none => false
    | some x => docB x.1 x.2 t.kind ts)) := rfl
theorem ok_kinds {t : BTok} (h : okB t = true) : t.kind = 2 ∨ t.kind = 7 ∨ t.kind = 4 ∨ t.kind = 5 ∨ t.kind = 6 := by
  unfold okB at h
  by_cases h2 : t.kind = 2
  · exact .inl h2
  · by_cases h7 : t.kind = 7
    · exact .inr (.inl h7)
    · by_cases h4 : t.kind = 4
      · exact .inr (.inr (.inl h4))
      · by_cases h5 : t.kind = 5
        · exact .inr (.inr (.inr (.inl h5)))
        · by_cases h6 : t.kind = 6
          · exact .inr (.inr (.inr (.inr h6)))
          · simp only [if_neg h2, if_neg h7, if_neg h4, if_neg h5, if_neg h6] at h
            cases h
theorem strs_last {w : World} {B : Nat} {vo : Value} {o : List ByteArray} (h : w.ownsRow B 9 1 vo o.length (o.map Value.string)) {y : ByteArray} (hy : o.getLast? = some y) : ∃ g c, vo = .slice (some ⟨g, 0, none⟩) o.length c ∧ w.cell? ⟨g, o.length - 1, none⟩ = some (.string y) ∧ o.length ≤ c := by
  have hne : o ≠ [] := fun h0 => by rw [h0] at hy; cases hy
  have hl := List.length_pos_iff.2 hne
  rcases h.2 with ⟨_, h0⟩ | ⟨g, c, cur, rfl, h2, h3, h4⟩
  · omega
  · refine ⟨g, c, rfl, ?_, h4.1⟩
    have hc := h.cellAt (o.length - 1) (by omega)
    rw [List.getLast?_eq_getElem?] at hy
    rw [hc, List.getElem?_map, hy]
    rfl
theorem strs_drop {w : World} {B : Nat} {a : Option Addr} {c : Nat} {o : List ByteArray} (h : w.ownsRow B 9 1 (.slice a o.length c) o.length (o.map Value.string)) : w.ownsRow B 9 1 (.slice a (o.length - 1) c) o.dropLast.length (o.dropLast.map Value.string) := by
  have h1 := owns_pre h (k := o.length - 1) (by omega)
  rw [Nat.mul_one, ← List.map_take, ← List.dropLast_eq_take] at h1
  rw [List.length_dropLast]
  exact h1
theorem box_kept {W W' : World} {p : Nat} {c : Array Value} {t : TypeId} {z : Nat × Nat} {own : Option Nat} (hp : W.heap[p]? = some (.cells c t z)) (hg : W.grownBy W' own) (hne : own ≠ some p) : W'.heap[p]? = some (.cells c t z) := by
  rw [hg.block p (Array.getElem?_eq_some_iff.1 hp).1 (fun e => hne e.symm)]
  exact hp
theorem alloc_blk (w : World) (o : Obj) : (w.alloc o).heap[w.heap.size]? = some o := by
  show (w.heap.push o)[w.heap.size]? = some o
  exact Array.getElem?_push_size
theorem infoStrD : (Tryz.prog.info? 9).map (fun i => (i.zero, i.size, i.bytes)) = some (some (.string ⟨#[]⟩), 1, 16) := by kernel_rfl
theorem newsOne {W : World} {g : Nat} {a : Value} (h0 : W.cell? ⟨g, 0, none⟩ = some a) : ∀ j u, [a][j]? = some u → W.cell? ((⟨g, 0, none⟩ : Addr).add j) = some u := by
  intro j u h
  rw [Addr.add_mid, Nat.zero_add]
  match j, h with
  | 0, h => cases h; exact h0
theorem docS2 (o : List ByteArray) (r : Bool) (last : Int) (n : ByteArray) (l : List (ByteArray × ByteArray)) (x : ByteArray) : docStp o r last ⟨2, n, l, x⟩ = if (o.isEmpty && r) = true then none else some (o ++ [n], true) := rfl
theorem docS7 (o : List ByteArray) (r : Bool) (last : Int) (n : ByteArray) (l : List (ByteArray × ByteArray)) (x : ByteArray) : docStp o r last ⟨7, n, l, x⟩ = match o.getLast? with | none => none | some y => if (y.toList == n.toList) = true then some (o.dropLast, r) else none := rfl
theorem docS4 (o : List ByteArray) (r : Bool) (last : Int) (n : ByteArray) (l : List (ByteArray × ByteArray)) (x : ByteArray) : docStp o r last ⟨4, n, l, x⟩ = if (o.isEmpty || last == 4) = true then none else some (o, r) := rfl
set_option maxRecDepth 100000 in
set_option maxHeartbeats 8000000 in
theorem isDocument_any (ts : List BTok) (a : Option Addr) (cap : Nat) (w : World) (hv : ToksArg w a ts) (hn : ts.length ≤ 1048580) (hs : ∀ t ∈ ts, Small t) (B : Nat) (hB : B ≤ w.heap.size) (hE : XEnv B w) :
    Calls Tryz.prog 115 #[.slice a ts.length cap] w fun e w' => e = .returned (.bool (docB [] false 0 ts)) ∧ Below w.heap.size w w' := by
  have HV := hide hv
  have HS := hide hs
  have HE := hide hE
  have HI0 : Hid (DocSt w ts 0 [] false 0 (.slice none 0 0) w) := hide ⟨Nat.zero_le _, Below.refl _ _, World.ownsRow_nil _ _ _ _, Nat.le_refl _, rfl⟩
  clear hv hs hE
  go_enter Tryz.func115, Tryz.ntmps115
  go_wp2_with fail
  go_loopw [3, 4, 5, 11] (fun s3 s4 s5 i wr => ∃ (k : Nat) (o : List ByteArray) (r : Bool) (last : Int), i = .int .i64 (k : Nat) ∧ s4 = .bool r ∧ s5 = .int .i64 last ∧ DocSt w ts k o r last s3 wr) (fun _ _ _ i _ => ts.length - (intOf i).toNat)
  case atStart => exact ⟨0, [], false, 0, rfl, rfl, rfl, unhide HI0⟩
  case round =>
    clear HI0
    obtain ⟨k, o, r, last, rfl, rfl, rfl, hI⟩ := hrel
    have hk := hI.le
    obtain ⟨ao, co, rfl⟩ := owns_slice hI.row
    by_cases hlt : k < ts.length
    · obtain ⟨t, ht⟩ : ∃ t, ts[k]? = some t := ⟨ts[k], List.getElem?_eq_getElem hlt⟩
      have hts := unhide HS t (List.mem_of_getElem? ht)
      obtain ⟨g, oo, ha, hc⟩ := ((unhide HV).below hI.bel) (by intro h0; rw [h0] at hlt; cases hlt)
      subst ha
      obtain ⟨c0, c1, ⟨v, c2, hpv⟩, c3⟩ := hc k t ht
      obtain ⟨va, vc, hve, _⟩ := id hpv
      subst hve
      have n1 : (0 : Int) ≤ (k : Int) := by omega
      have n2 : (k : Int) < (ts.length : Int) := by omega
      have hdr : ts.drop k = t :: ts.drop (k + 1) := by
        rw [← List.getElem_cons_drop hlt]
        congr 1
        exact (List.getElem?_eq_some_iff.1 ht).2
      have hspec := hI.spec
      rw [hdr, docB_cons] at hspec
      have HSP := hide hspec
      have hbA : Below wr.heap.size wr (wr.alloc (.cells (tokV t (.slice va t.attrs.length vc)) 37 (0, 0))) := (Below.refl _ _).alloc (Nat.le_refl _) _
      have HBX : Hid (TokBox wr t (.slice va t.attrs.length vc) (wr.alloc (.cells (tokV t (.slice va t.attrs.length vc)) 37 (0, 0)))) := hide (by
        unfold tokV
        refine ⟨(Below.refl _ _).alloc (Nat.le_refl _) _, by simp, ?_, ?_, ?_, ?_⟩
        all_goals simp [go_sem])
      have hb00 := hI.bel.size
      have hb0 := Below.then hI.bel hbA
      have HR := hide (owns_below hI.row hbA)
      have hfew := hI.few
      have HPV := hide (hpv.below hbA)
      unfold tokV at hbA HBX hb0 HR HPV
      clear hc hI hdr ht hspec hpv
      go_wp2_with fail
      refine (isToken_any t _ _ (unhide HPV) hts B (Nat.le_trans (Nat.le_trans hB hb00) hbA.size) ((unhide HE).low (hb0.mono hB))).mono ?_
      rintro e w2 ⟨rfl, hb2⟩
      have hb02 := Below.then hb0 hb2
      have hbk := block_below (show (wr.alloc (.cells #[.int .i64 t.kind, .string t.name, .slice va t.attrs.length vc, .string t.text] 37 (0, 0))).heap[wr.heap.size]? = some (.cells #[.int .i64 t.kind, .string t.name, .slice va t.attrs.length vc, .string t.text] 37 (0, 0)) from alloc_blk _ _) hb2
      have HBK := hide hbk
      have HR2 := hide (owns_below (unhide HR) hb2)
      have hlt2 : w.heap.size ≤ w2.heap.size := hb02.size
      have d0 : w2.cell? ⟨wr.heap.size, 0, none⟩ = some (.int .i64 t.kind) := blk_cell hbk 0
      have d1 : w2.cell? ⟨wr.heap.size, 1, none⟩ = some (.string t.name) := blk_cell hbk 1
      clear HR HBX HPV hbk c0 c1 c2 c3
      cases hok : okB t
      · have HF : Hid (docB [] false 0 ts = false) := hide (by rw [unhide HSP, hok]; rfl)
        clear HSP hok
        go_wp2
        go_ret
        exact ⟨ret_bool (unhide HF).symm, hb02⟩
      · have HS2 : Hid (docB [] false 0 ts = (match docStp o r last t with | none => false | some x => docB x.1 x.2 t.kind (ts.drop (k + 1)))) := hide (by rw [unhide HSP, hok, Bool.true_and])
        have hkk := ok_kinds hok
        clear HSP hok
        obtain ⟨kd, nm, ats, tx'⟩ := t
        simp only at *
        have HI := hide (fun (o' : List ByteArray) (r' : Bool) (v' : Value) (W' : World) (h1 : Below w.heap.size w W') (h2 : W'.ownsRow w.heap.size 9 1 v' o'.length (o'.map Value.string)) (h3 : o'.length ≤ k + 1) (h4 : docStp o r last ⟨kd, nm, ats, tx'⟩ = some (o', r')) => (⟨by omega, h1, h2, h3, by rw [unhide HS2, h4]⟩ : DocSt w ts (k + 1) o' r' kd v' W'))
        have HF : Hid (docStp o r last ⟨kd, nm, ats, tx'⟩ = none → docB [] false 0 ts = false) := hide fun h => by rw [unhide HS2, h]
        clear HS2
        rcases hkk with rfl | rfl | rfl | rfl | rfl
        · -- an element
          have HD := hide (docS2 o r last nm ats tx')
          cases hoe : o.isEmpty
          · have htop : (((o.length : Nat) : Int) == 0) = false := by cases o with | nil => cases hoe | cons _ _ => simp; omega
            have HDS : Hid (docStp o r last ⟨2, nm, ats, tx'⟩ = some (o ++ [nm], true)) := hide (by rw [unhide HD, hoe, Bool.false_and]; rfl)
            obtain ⟨i0, hi, hz0, hz1, hz2⟩ := info_parts infoStrD
            go_wp2_with (at_builtin; refine wpList_append_own _ rfl _ _ 45 rfl w.heap.size 9 i0 _ 1 16 Tryz.underlying45 hi hz0 hz1 hz2 rfl (by decide) _ o.length (o.map Value.string) rfl (owns_below (unhide HR2) ((Below.refl _ _).alloc (Nat.le_refl _) _)) ⟨w2.heap.size, 0, none⟩ 1 1 [.string nm] rfl rfl (newsOne (by simp [go_sem])) (fun u hu => by simp at hu; subst hu; rfl) (by unfold maxLen; omega) (by omega) (by simp; omega) ?_; intro v8 w8 hown8 hgrow8 _; have e0 : w8.cell? ⟨wr.heap.size, 0, none⟩ = some (.int .i64 2) := blk_cell (box_kept (block_below (unhide HBK) ((Below.refl _ _).alloc (Nat.le_refl _) _)) hgrow8 (owns_not (unhide HR2) (unhide HBK) (by decide))) 0)
            have hb8 : Below w.heap.size w w8 := (Below.then hb02 ((Below.refl _ _).alloc (Nat.le_refl _) _)).grown hgrow8 (by simp; omega) (fun j hj => ((unhide HR2).lt j hj).1)
            have HI8 := hide (unhide HI (o ++ [nm]) true v8 w8 hb8 (by rw [List.length_append, List.map_append]; exact hown8) (by rw [List.length_append]; simp; omega) (unhide HDS))
            clear HI HF HDS HD hown8 hgrow8 hi hz0 hz1 hz2
            go_round
            case measure => simp [intOf]; omega
            case rel => exact ⟨k + 1, o ++ [nm], true, 2, by simp, rfl, rfl, unhide HI8⟩
          · have htop : (((o.length : Nat) : Int) == 0) = true := by cases o with | nil => rfl | cons _ _ => cases hoe
            cases r
            · have HDS : Hid (docStp o false last ⟨2, nm, ats, tx'⟩ = some (o ++ [nm], true)) := hide (by rw [unhide HD, hoe, Bool.and_false]; rfl)
              obtain ⟨i0, hi, hz0, hz1, hz2⟩ := info_parts infoStrD
              go_wp2_with (at_builtin; refine wpList_append_own _ rfl _ _ 45 rfl w.heap.size 9 i0 _ 1 16 Tryz.underlying45 hi hz0 hz1 hz2 rfl (by decide) _ o.length (o.map Value.string) rfl (owns_below (unhide HR2) ((Below.refl _ _).alloc (Nat.le_refl _) _)) ⟨w2.heap.size, 0, none⟩ 1 1 [.string nm] rfl rfl (newsOne (by simp [go_sem])) (fun u hu => by simp at hu; subst hu; rfl) (by unfold maxLen; omega) (by omega) (by simp; omega) ?_; intro v8 w8 hown8 hgrow8 _; have e0 : w8.cell? ⟨wr.heap.size, 0, none⟩ = some (.int .i64 2) := blk_cell (box_kept (block_below (unhide HBK) ((Below.refl _ _).alloc (Nat.le_refl _) _)) hgrow8 (owns_not (unhide HR2) (unhide HBK) (by decide))) 0)
              have hb8 : Below w.heap.size w w8 := (Below.then hb02 ((Below.refl _ _).alloc (Nat.le_refl _) _)).grown hgrow8 (by simp; omega) (fun j hj => ((unhide HR2).lt j hj).1)
              have HI8 := hide (unhide HI (o ++ [nm]) true v8 w8 hb8 (by rw [List.length_append, List.map_append]; exact hown8) (by rw [List.length_append]; simp; omega) (unhide HDS))
              clear HI HF HDS HD hown8 hgrow8 hi hz0 hz1 hz2
              go_round
              case measure => simp [intOf]; omega
              case rel => exact ⟨k + 1, o ++ [nm], true, 2, by simp, rfl, rfl, unhide HI8⟩
            · have HNO : docStp o true last ⟨2, nm, ats, tx'⟩ = none := by rw [unhide HD, hoe]; rfl
              clear HI
              go_wp2
              go_ret
              exact ⟨ret_bool (unhide HF HNO).symm, hb02⟩
        · have HD := hide (docS7 o r last nm ats tx')
          cases hg : o.getLast? with
          | none =>
            have HNO : Hid (docStp o r last ⟨7, nm, ats, tx'⟩ = none) := hide (by rw [unhide HD, hg])
            have hoe : o = [] := List.getLast?_eq_none_iff.1 hg
            have htop : (((o.length : Nat) : Int) == 0) = true := by rw [hoe]; rfl
            clear HI HD hg hoe
            go_wp2_with fail
            rw [htop]
            clear htop
            go_quiet (fail)
            go_wp2
            go_ret
            exact ⟨ret_bool (unhide HF (unhide HNO)).symm, Below.then hb02 (below_drewN _ _)⟩
          | some y =>
            have hne : o ≠ [] := fun h0 => by rw [h0] at hg; cases hg
            have hol := List.length_pos_iff.2 hne
            have htop : (((o.length : Nat) : Int) == 0) = false := by simp; omega
            obtain ⟨g7, c7, he7, hc7, hle7⟩ := strs_last (unhide HR2) hg
            cases he7
            have i1 : (0 : Int) ≤ (o.length : Int) - 1 := by omega
            have i2 : (o.length : Int) - 1 < (o.length : Int) := by omega
            have i3 : ((o.length : Int) - 1).toNat = o.length - 1 := by omega
            have i4 : IntKind.i64.wrap ((o.length : Int) - 1) = (o.length : Int) - 1 := by rw [IntKind.wrap_i64]; omega
            cases hcmp : (y.toList == nm.toList)
            · have HNO : Hid (docStp o r last ⟨7, nm, ats, tx'⟩ = none) := hide (by rw [unhide HD, hg]; simp only; rw [hcmp]; rfl)
              clear HI HD hg hne
              go_wp2_with fail
              rw [htop]
              clear htop
              go_quiet (fail)
              go_wp2
              go_ret
              exact ⟨ret_bool (unhide HF (unhide HNO)).symm, Below.then hb02 (below_drewN _ _)⟩
            · have HDS : Hid (docStp o r last ⟨7, nm, ats, tx'⟩ = some (o.dropLast, r)) := hide (by rw [unhide HD, hg]; simp only; rw [hcmp]; rfl)
              clear HF HD hg hne
              go_wp2_with fail
              rw [htop]
              clear htop
              go_quiet (fail)
              have hbq := below_drewN w2 nq
              have e0 := keptC hbq d0
              have HI8 := hide (unhide HI o.dropLast r _ (w2.drewN nq) (Below.then hb02 hbq) (strs_drop (owns_below (unhide HR2) hbq)) (by rw [List.length_dropLast]; omega) (unhide HDS))
              clear HI HDS
              generalize w2.drewN nq = W at *
              go_wp2_with fail
              go_round
              case measure => simp [intOf]; omega
              case rel => exact ⟨k + 1, o.dropLast, r, 7, by simp, rfl, rfl, unhide HI8⟩
        · have HD := hide (docS4 o r last nm ats tx')
          have htop : (((o.length : Nat) : Int) == 0) = o.isEmpty := by cases o with | nil => rfl | cons _ _ => simp; omega
          cases hoe : o.isEmpty
          · rw [hoe] at htop
            cases hla : (last == 4)
            · have HDS : Hid (docStp o r last ⟨4, nm, ats, tx'⟩ = some (o, r)) := hide (by rw [unhide HD, hoe, hla]; rfl)
              clear HF HD hoe
              go_wp2_with fail
              rw [htop]
              clear htop
              go_quiet (fail)
              have hbq := below_drewN w2 nq
              have e0 := keptC hbq d0
              have HI8 := hide (unhide HI o r (.slice ao o.length co) (w2.drewN nq) (Below.then hb02 hbq) (owns_below (unhide HR2) hbq) (by omega) (unhide HDS))
              clear HI HDS
              generalize w2.drewN nq = W at *
              go_wp2_with fail
              go_round
              case measure => simp [intOf]; omega
              case rel => exact ⟨k + 1, o, r, 4, by simp, rfl, rfl, unhide HI8⟩
            · have HNO : Hid (docStp o r last ⟨4, nm, ats, tx'⟩ = none) := hide (by rw [unhide HD, hoe, hla]; rfl)
              have hl4 : last = 4 := by simpa using hla
              subst hl4
              clear HI HD hoe hla
              go_wp2_with fail
              rw [htop]
              clear htop
              go_quiet (fail)
              have hbq := below_drewN w2 nq
              have e0 := keptC hbq d0
              generalize w2.drewN nq = W at *
              go_wp2
              go_ret
              exact ⟨ret_bool (unhide HF (unhide HNO)).symm, Below.then hb02 hbq⟩
          · rw [hoe] at htop
            have HNO : Hid (docStp o r last ⟨4, nm, ats, tx'⟩ = none) := hide (by rw [unhide HD, hoe]; rfl)
            clear HI HD hoe
            go_wp2_with fail
            rw [htop]
            clear htop
            go_quiet (fail)
            have hbq := below_drewN w2 nq
            have e0 := keptC hbq d0
            generalize w2.drewN nq = W at *
            go_wp2
            go_ret
            exact ⟨ret_bool (unhide HF (unhide HNO)).symm, Below.then hb02 hbq⟩
        · have HDS : Hid (docStp o r last ⟨5, nm, ats, tx'⟩ = some (o, r)) := hide rfl
          clear HF
          go_wp2_with fail
          generalize (((o.length : Nat) : Int) == 0) = b at *
          go_quiet (fail)
          have hbq := below_drewN w2 nq
          have e0 := keptC hbq d0
          have HI8 := hide (unhide HI o r (.slice ao o.length co) (w2.drewN nq) (Below.then hb02 hbq) (owns_below (unhide HR2) hbq) (by omega) (unhide HDS))
          clear HI HDS
          generalize w2.drewN nq = W at *
          go_wp2_with fail
          go_round
          case measure => simp [intOf]; omega
          case rel => exact ⟨k + 1, o, r, 5, by simp, rfl, rfl, unhide HI8⟩
        · have HDS : Hid (docStp o r last ⟨6, nm, ats, tx'⟩ = some (o, r)) := hide rfl
          clear HF
          go_wp2_with fail
          generalize (((o.length : Nat) : Int) == 0) = b at *
          go_quiet (fail)
          have hbq := below_drewN w2 nq
          have e0 := keptC hbq d0
          have HI8 := hide (unhide HI o r (.slice ao o.length co) (w2.drewN nq) (Below.then hb02 hbq) (owns_below (unhide HR2) hbq) (by omega) (unhide HDS))
          clear HI HDS
          generalize w2.drewN nq = W at *
          go_wp2_with fail
          go_round
          case measure => simp [intOf]; omega
          case rel => exact ⟨k + 1, o, r, 6, by simp, rfl, rfl, unhide HI8⟩
    · have n2 : ¬ (k : Int) < (ts.length : Int) := by omega
      have hkl : k = ts.length := by omega
      have hsp := hI.spec
      rw [hkl, List.drop_length] at hsp
      have HSP : Hid (docB [] false 0 ts = (r && o.isEmpty)) := hide hsp
      have hbI := hI.bel
      have htop : (((o.length : Nat) : Int) == 0) = o.isEmpty := by cases o with | nil => rfl | cons _ _ => simp; omega
      clear hI hsp
      cases r
      · clear htop
        go_wp2
        go_ret
        exact ⟨ret_bool (by rw [unhide HSP]; rfl), hbI⟩
      · go_wp2
        go_ret
        exact ⟨ret_bool (by rw [unhide HSP]; rfl), hbI⟩
end Go.Proofs.YtefjfjieoiegnaaGreatDoor
