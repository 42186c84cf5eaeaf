/- Several texts, laid as one. -/
import Derived.Test.YtiembljlhmgpjaaGreatDoorGal
import Derived.Deep.DeepCutAuto
import Derived.Test.YtiembljlhmgpjaaGreatDoorGaa
import Derived.ScopeJumps
import Derived.BigQuiet
import Derived.BigGuard
import Derived.BigCall
import Derived.Deep.QuietTactic
/- A token more: xmlscan's tell and roomForRun. -/
namespace Go.Proofs.YtiembljlhmgpjaaGreatDoor
open Go.RowKit
theorem infoTok : (Tryz.prog.info? 56).map (fun i => (i.zero, i.size, i.bytes)) = some (some (.agg #[.int .i64 0, .string ⟨#[]⟩, .slice none 0 0, .string ⟨#[]⟩]), 4, 64) := by kernel_rfl
theorem news4 {W : World} {g : Nat} {a b c d : Value} (h0 : W.cell? ⟨g, 0, none⟩ = some a) (h1 : W.cell? ⟨g, 1, none⟩ = some b) (h2 : W.cell? ⟨g, 2, none⟩ = some c) (h3 : W.cell? ⟨g, 3, none⟩ = some d) :
    ∀ j u, [a, b, c, d][j]? = some u → W.cell? ((⟨g, 0, none⟩ : Addr).add j) = some u := by
  intro j u h
  rw [Addr.add_mid, Nat.zero_add]
  match j, h with
  | 0, h => cases h; exact h0
  | 1, h => cases h; exact h1
  | 2, h => cases h; exact h2
  | 3, h => cases h; exact h3
/-- Behind an append onto the tokens. -/
theorem toks_snoc {w w' : World} {B : Nat} {vt v' va : Value} {ts : List XTok} {t : XTok} {vs : List Value} (h1 : vs.length = ts.length) (h2 : w.ownsRow B 56 4 vt ts.length (tokRow ts vs))
    (h3 : ∀ (i : Nat) (t : XTok) (v : Value), ts[i]? = some t → vs[i]? = some v → AttrsAt w B v t.attrs) (ha : AttrsAt w B va t.attrs) (hg : w.grownBy w' vt.ownBlock)
    (hown : w'.ownsRow B 56 4 v' (ts.length + 1) (tokRow ts vs ++ tokCells t va)) : Toks w' B v' (ts ++ [t]) := by
  have hrow : ∀ {v : Value} {l : List (List Nat × List Nat)}, AttrsAt w B v l → AttrsAt w' B v l := fun {v l} hv => by
    refine ⟨hv.1, ?_⟩
    rcases hv.2 with e | ⟨g, cap, cur, e1, e2, e3, e4⟩
    · exact .inl e
    · refine .inr ⟨g, cap, cur, e1, e2, ?_, e4⟩
      rw [hg.block g (Array.getElem?_eq_some_iff.1 e3).1 (fun e => owns_apart hv h2 (by decide) g (by rw [e1]; rfl) e.symm)]
      exact e3
  refine ⟨vs ++ [va], by simp [h1], ?_, ?_⟩
  · rw [tokRow_snoc ts vs t va h1, List.length_append]
    exact hown
  · intro i x v hx hv
    by_cases hi : i < ts.length
    · rw [List.getElem?_append_left hi] at hx
      rw [List.getElem?_append_left (by omega)] at hv
      exact hrow (h3 i x v hx hv)
    · rw [List.getElem?_append_right (by omega)] at hx
      rw [List.getElem?_append_right (by omega), h1] at hv
      have : i - ts.length = 0 := by
        have := (List.getElem?_eq_some_iff.1 hx).1
        simp at this
        omega
      rw [this] at hx hv
      cases hx
      cases hv
      exact hrow ha
/-- Where the tokens' row was written, and all else stands. -/
theorem Rd.told {X W w' : World} {B p m : Nat} {vo vt vr v' va : Value} {s : RS} {t : XTok} {vs : List Value} (R : Rd X B p m vo vt vr s) (hb : Below X.heap.size X W) (h1 : vs.length = s.toks.length) (h2 : X.ownsRow B 56 4 vt s.toks.length (tokRow s.toks vs))
    (h3 : ∀ (i : Nat) (t : XTok) (v : Value), s.toks[i]? = some t → vs[i]? = some v → AttrsAt X B v t.attrs) (ha : AttrsAt X B va t.attrs) (hg : W.grownBy w' vt.ownBlock)
    (hown : w'.ownsRow B 56 4 v' (s.toks.length + 1) (tokRow s.toks vs ++ tokCells t va)) :
    Rd (w'.setCell ⟨p, 5, none⟩ v') B p m vo v' vr { s with toks := s.toks ++ [t] } ∧ w'.heap[p]? = some (.cells (rdArr s m vo vt vr) 47 (0, 0)) ∧
      (∀ v l, AttrsAt X B v l → AttrsAt (w'.setCell ⟨p, 5, none⟩ v') B v l) ∧ (∀ k o, W.heap[k]? = some o → vt.ownBlock ≠ some k → k ≠ p → (w'.setCell ⟨p, 5, none⟩ v').heap[k]? = some o) := by
  have RW := R.on hb
  have hvt : vt.ownBlock ≠ some p := owns_not h2 R.blk (by decide)
  have hp : w'.heap[p]? = some (.cells (rdArr s m vo vt vr) 47 (0, 0)) := by
    rw [hg.block p RW.lt (fun e => hvt e.symm)]; exact RW.blk
  have hk : ∀ k o, W.heap[k]? = some o → vt.ownBlock ≠ some k → k ≠ p → (w'.setCell ⟨p, 5, none⟩ v').heap[k]? = some o := fun k o ho h1 h2 => by
    rw [blk_other h2, hg.block k (Array.getElem?_eq_some_iff.1 ho).1 (fun e => h1 e.symm)]; exact ho
  have hrow : ∀ {base : Nat} {e : TypeId} {size : Nat} {v : Value} {n : Nat} {xs : List Value}, W.ownsRow base e size v n xs → e ≠ 56 → e ≠ 47 → (w'.setCell ⟨p, 5, none⟩ v').ownsRow base e size v n xs := fun ho e1 e2 =>
    owns_kept (S := fun k => vt.ownBlock = some k ∨ k = p) ho (fun k o hk' hs => hk k o hk' (fun e => hs (.inl e)) (fun e => hs (.inr e))) fun k hk' hs => by
      rcases hs with hs | rfl
      · exact owns_apart ho (owns_below h2 hb) e1 k hk' hs
      · exact owns_not ho RW.blk e2 hk'
  refine ⟨⟨?_, R.low, ?_, hrow RW.opn (by decide) (by decide), ?_, hrow RW.run (by decide) (by decide)⟩, hp, fun v l hv => hrow (owns_below hv hb) (by decide) (by decide), hk⟩
  · rw [blk_set hp]; rfl
  · refine RW.ents.kept ?_
    obtain ⟨es, clock, hm⟩ := RW.ents.map
    rw [hm]
    refine hk m _ hm (fun e => ?_) (RW.ents.ne RW.blk)
    obtain ⟨c, hc⟩ := owns_type (owns_below h2 hb) e
    rw [hm] at hc
    cases hc
  · have ht := toks_snoc h1 (owns_below h2 hb) (fun i t v a b => owns_below (h3 i t v a b) hb) (owns_below ha hb) hg hown
    refine ht.kept (· = p) (fun k o ho hs => by rw [blk_other hs]; exact ho) fun k c hs => ?_
    subst hs
    rw [hp]
    exact ⟨fun e => (by cases e), fun e => (by cases e)⟩
theorem Rd.from {w : World} {B p m : Nat} {vo vt vr : Value} {s : RS} (R : Rd w B p m vo vt vr s) (n : Nat) : Rd (w.setCell ⟨p, 7, none⟩ (.int .i64 (n : Nat))) B p m vo vt vr { s with runAt := n } := by
  refine R.keep (· = p) (fun k o hk hs => by rw [blk_other hs]; exact hk) (fun k hs => ?_) ?_ rfl rfl rfl rfl
  · subst hs
    exact ⟨_, _, R.blk, by decide, by decide, by decide, by decide⟩
  · rw [blk_set R.blk]; rfl
theorem attrs_set {w : World} {B p m i : Nat} {vo vt vr v va : Value} {s : RS} {l : List (List Nat × List Nat)} (R : Rd w B p m vo vt vr s) (ha : AttrsAt w B va l) : AttrsAt (w.setCell ⟨p, i, none⟩ v) B va l :=
  owns_kept (S := (· = p)) ha (fun k o hk hs => by rw [blk_other hs]; exact hk) fun k hk hs => by
    subst hs
    exact owns_not ha R.blk (by decide) hk
theorem Rd.cleared {w : World} {B p m n cr : Nat} {ar : Option Addr} {vo vt : Value} {s : RS} (R : Rd w B p m vo vt (.slice ar n cr) s) : Rd (w.setCell ⟨p, 6, none⟩ (.slice ar 0 cr)) B p m vo vt (.slice ar 0 cr) { s with run := [] } := by
  have hk : ∀ k o, w.heap[k]? = some o → ¬ k = p → (w.setCell ⟨p, 6, none⟩ (.slice ar 0 cr)).heap[k]? = some o := fun k o hk hs => by rw [blk_other hs]; exact hk
  have R' : Rd (w.setCell ⟨p, 6, none⟩ (.slice ar n cr)) B p m vo vt (.slice ar n cr) s := by
    refine R.keep (· = p) (fun k o hk hs => by rw [blk_other hs]; exact hk) (fun k hs => ?_) ?_ rfl rfl rfl rfl
    · subst hs
      exact ⟨_, _, R.blk, by decide, by decide, by decide, by decide⟩
    · rw [blk_set R.blk]; rfl
  have hrow : ∀ {base : Nat} {e : TypeId} {size : Nat} {v : Value} {n : Nat} {xs : List Value}, w.ownsRow base e size v n xs → e ≠ 47 → (w.setCell ⟨p, 6, none⟩ (.slice ar 0 cr)).ownsRow base e size v n xs := fun ho he => owns_kept ho hk fun k hb hs => by
    subst hs
    exact owns_not ho R.blk he hb
  refine ⟨by rw [blk_set R.blk]; rfl, R.low, R.ents.kept (by rw [blk_other (R.ents.ne R.blk)]), hrow R.opn (by decide), ?_, ?_⟩
  · refine R.toks.kept (· = p) hk fun k c hs => ?_
    subst hs
    rw [R.blk]
    exact ⟨fun e => (by cases e), fun e => (by cases e)⟩
  · have hf := R.run
    obtain ⟨a, c, e⟩ := owns_slice hf
    cases e
    exact hrow (owns_pre hf (Nat.zero_le _)) (by decide)
/-- A token in a block of its own. -/
def BoxAt (w : World) (b : Nat) (t : XTok) (va : Value) : Prop := w.cell? ⟨b, 0, none⟩ = some (.int .i64 (t.kind : Nat)) ∧ w.cell? ⟨b, 1, none⟩ = some (.string (T t.name)) ∧ w.cell? ⟨b, 2, none⟩ = some va ∧ w.cell? ⟨b, 3, none⟩ = some (.string (T t.text))
theorem BoxAt.kept {w w' : World} {b : Nat} {t : XTok} {va : Value} (h : BoxAt w b t va) (hk : w'.heap[b]? = w.heap[b]?) : BoxAt w' b t va := by
  unfold BoxAt World.cell? at *
  rw [hk]; exact h
theorem flush_eq (s : RS) : (s.run = [] → s.flush = s) ∧ (s.run ≠ [] → s.flush = { s with toks := s.toks ++ [⟨4, [], [], s.run⟩], run := [] }) := by
  unfold RS.flush
  exact ⟨fun h => by rw [if_pos h], fun h => by rw [if_neg h]⟩
/-- What is told behind the text. -/
theorem tell_eq (s : RS) (t : XTok) (pl : Nat) : s.tell t pl = if s.flush.toks.length = 4096 then .error (6, pl) else .ok { s.flush with runAt := s.place, toks := s.flush.toks ++ [t] } := rfl
theorem flush_place (s : RS) : s.flush.place = s.place := by
  unfold RS.flush
  split <;> rfl
set_option maxRecDepth 100000 in
set_option maxHeartbeats 4000000 in
theorem tell_any (B p m : Nat) (vo vt vr va : Value) (s : RS) (t : XTok) (pl : Nat) (w : World) (R : Rd w B p m vo vt vr s) (ha : AttrsAt w B va t.attrs) (hn : s.flush.toks.length ≤ 4096) (hrp : s.run ≠ [] → 0 < (tx s.run).length) (hB : B ≤ w.heap.size) :
    Calls Tryz.prog 67 #[.pointer (some ⟨p, 0, none⟩), .agg #[.int .i64 (t.kind : Nat), .string (T t.name), va, .string (T t.text)], .int .i64 (pl : Nat)] w fun e w' => outP (s.tell t pl) B p m e w w' := by
  have hlow := R.low
  have hlt := R.lt
  obtain ⟨aa, ca, rfl⟩ := owns_slice ha
  have HTE := hide (tell_eq s t pl)
  have hw1 : Below w.heap.size w (w.alloc (.cells #[.int .i64 (t.kind : Nat), .string (T t.name), .slice aa t.attrs.length ca, .string (T t.text)] 56)) := (Below.refl _ _).alloc (Nat.le_refl _) _
  have R1 := R.on hw1
  have ha1 := owns_below ha hw1
  have HB1 := hide (hw1.mono hB)
  have hbox : BoxAt (w.alloc (.cells #[.int .i64 (t.kind : Nat), .string (T t.name), .slice aa t.attrs.length ca, .string (T t.text)] 56)) w.heap.size t (.slice aa t.attrs.length ca) := ⟨by simp [go_sem], by simp [go_sem], by simp [go_sem], by simp [go_sem]⟩
  have HR1 := hide R1
  have hself := Below.refl (w.alloc (.cells #[.int .i64 (t.kind : Nat), .string (T t.name), .slice aa t.attrs.length ca, .string (T t.text)] 56)).heap.size (w.alloc (.cells #[.int .i64 (t.kind : Nat), .string (T t.name), .slice aa t.attrs.length ca, .string (T t.text)] 56))
  have HA1 := hide ha1
  have HBX := hide hbox
  obtain ⟨vs0, _, hrow0, _⟩ := R.toks
  have HVB : Hid (∀ k, vt.ownBlock = some k → k < w.heap.size) := hide fun k hk => (hrow0.lt k hk).2
  clear hrow0
  obtain ⟨vs, hvs, hrow, hat⟩ := R1.toks
  have HVS := hide hvs
  have HROW := hide hrow
  have HAT := hide hat
  have hfrm := hrow
  obtain ⟨at', ct, rfl⟩ := owns_slice hfrm
  obtain ⟨ar, cr, rfl⟩ := owns_slice R.run
  have c0 := fun i => blk_cell R.blk i
  have o0 := fun i => blk_open R.blk i
  have c5 : _ = some (Value.slice at' s.toks.length ct) := c0 5
  have c6 : _ = some (Value.slice ar (tx s.run).length cr) := c0 6
  have o5 := o0 5
  have o6 := o0 6
  have hcv := conv_owned (Rd.run R1)
  have hcv' : (convert 31 9 (.slice ar (tx s.run).length cr)).run Tryz.prog (w.alloc (.cells #[.int .i64 (t.kind : Nat), .string (T t.name), .slice aa t.attrs.length ca, .string (T t.text)] 56)).drew = .ok (.string (T s.run)) (w.alloc (.cells #[.int .i64 (t.kind : Nat), .string (T t.name), .slice aa t.attrs.length ca, .string (T t.text)] 56)).drew := conv_owned (owns_below (Rd.run R1) (Below.drew (Below.refl _ _)))
  have hfl := flush_eq s
  have HFL := hide hfl
  have HFP := hide (flush_place s)
  obtain ⟨i0, hi, hz0, hz1, hz2⟩ := info_parts infoTok
  clear c0 o0 hfrm hrow R R1 ha ha1 hat hvs hw1 hbox hcv hfl
  go_enter Tryz.func67, Tryz.ntmps67
  go_upto_if 12 with fail
  go_cut [] (fun wx => ∃ vt1 vr1, Rd wx B p m vo vt1 vr1 s.flush ∧ AttrsAt wx B (.slice aa t.attrs.length ca) t.attrs ∧ BoxAt wx w.heap.size t (.slice aa t.attrs.length ca) ∧ Below B w wx ∧ w.heap.size < wx.heap.size)
  case first =>
    by_cases hr : s.run = []
    · have hz : (tx s.run).length = 0 := by rw [hr]; rfl
      rw [hz] at c6 hcv' ⊢
      have HRE := hide hr
      clear hr hz
      go_wp2_with fail
      go_meet
      rw [(unhide HFL).1 (unhide HRE)]
      exact ⟨_, _, unhide HR1, unhide HA1, unhide HBX, unhide HB1, by simp⟩
    · have hz : 0 < (tx s.run).length := hrp hr
      have hn2 : s.toks.length + 1 ≤ 4096 := by
        have := hn
        rw [(unhide HFL).2 hr] at this
        simpa using this
      have HRE := hide hr
      clear hr
      go_wp2_with fail
      go_region_law (refine step_append_own rfl (.tmp 17) (.tmp 24) 26 rfl B 56 i0 _ 4 64 Tryz.underlying26 hi hz0 hz1 hz2 rfl (by decide) (.slice at' s.toks.length ct) s.toks.length (tokRow s.toks vs) rfl (owns_below (unhide HROW) (by (repeat first | with_reducible exact hself | refine Below.drew ?_ | refine Below.alloc ?_ (by simp) _))) _ 1 1 [.int .i64 4, .string ⟨#[]⟩, .slice none 0 0, .string (T s.run)] rfl rfl (news4 (by simp [go_sem]) (by simp [go_sem]) (by simp [go_sem]) (by simp [go_sem])) (fun u hu => by simp at hu; rcases hu with rfl | rfl | rfl | rfl <;> rfl) (by unfold maxLen; omega) (by omega) (by simp; omega) ?_; intro v' w' hown hgrow; obtain ⟨a5, b5, rfl⟩ := owns_slice hown; have hR := (unhide HR1).told (t := ⟨4, [], [], s.run⟩) (va := .slice none 0 0) (by (repeat first | with_reducible exact hself | refine Below.drew ?_ | refine Below.alloc ?_ (by simp) _)) (unhide HVS) (unhide HROW) (unhide HAT) (World.ownsRow_nil _ _ _ _) hgrow hown; have c5' : w'.cell? ⟨p, 5, none⟩ = some (.slice at' s.toks.length ct) := blk_cell hR.2.1 5; have o5' := blk_open hR.2.1 5; have c6' : w'.cell? ⟨p, 6, none⟩ = some (.slice ar (tx s.run).length cr) := blk_cell hR.2.1 6; have o6' := blk_open hR.2.1 6; have hB' := Below.grown (B := B) (((unhide HB1).alloc (by simp; omega) _).drew) hgrow (by simp; omega) (owns_ge (unhide HROW)))
      all_goals have HRC := hide (Rd.cleared hR.1)
      all_goals have HAC := hide (attrs_set (i := 6) (v := .slice ar 0 cr) hR.1 (hR.2.2.1 _ _ (unhide HA1)))
      all_goals have HBC := hide (BoxAt.kept (w' := (w'.setCell ⟨p, 5, none⟩ (.slice a5 (s.toks.length + 1) b5)).setCell ⟨p, 6, none⟩ (.slice ar 0 cr)) (unhide HBX) (by obtain ⟨c, tt, z, hc, _⟩ := cell_blk (unhide HBX).1; rw [hc, blk_other (by omega)]; exact hR.2.2.2 _ _ (block_below hc (by (repeat first | with_reducible exact hself | refine Below.drew ?_ | refine Below.alloc ?_ (by simp) _))) (fun e => by have := unhide HVB _ e; omega) (by omega)))
      all_goals have hsz : w.heap.size < w'.heap.size := (by have := hgrow.size; simp at this; omega)
      all_goals clear hR
      all_goals go_wp2_with fail
      all_goals go_meet
      all_goals rw [(unhide HFL).2 (unhide HRE)]
      all_goals exact ⟨_, _, unhide HRC, unhide HAC, unhide HBC, (hB'.setCell hlow _).setCell hlow _, by simp; exact hsz⟩
  case rest =>
    obtain ⟨vt1, vr1, R2, ha2, hbx, hb2, hsz⟩ := hcut
    have R7 := R2.from s.place
    have HA7 := hide (attrs_set (i := 7) (v := .int .i64 (s.place : Nat)) R2 ha2)
    have HR7 := hide R7
    clear HR1 HA1 HBX HVS HROW HAT hcv' c5 c6 o5 o6 hself HB1 HVB
    obtain ⟨vs2, hvs, hrow, hat⟩ := R7.toks
    have HVS := hide hvs
    have HROW := hide hrow
    have HAT := hide hat
    have hfrm := hrow
    obtain ⟨at2, ct2, rfl⟩ := owns_slice hfrm
    have hlt2 := R2.lt
    have c0 := fun i => blk_cell R2.blk i
    have o0 := fun i => blk_open R2.blk i
    have c1 : wc.cell? ⟨p, 1, none⟩ = some (Value.int .i64 (s.place : Nat)) := by
      have := c0 1
      rw [← unhide HFP]; exact this
    have c5 : _ = some (Value.slice at2 s.flush.toks.length ct2) := c0 5
    have c7 : _ = some (Value.int .i64 (s.flush.runAt : Nat)) := c0 7
    have o5 := o0 5
    have o7 := o0 7
    have b1 := hbx.1
    have b2 := hbx.2.1
    have b3 := hbx.2.2.1
    have b4 := hbx.2.2.2
    have hne : w.heap.size ≠ p := by omega
    have HB7 : Hid (Below B w (wc.setCell ⟨p, 7, none⟩ (.int .i64 (s.place : Nat)))) := hide (hb2.setCell hlow _)
    have hBc : B ≤ wc.heap.size := by omega
    clear c0 o0 hfrm hrow R2 R7 ha2 hat hvs hbx hb2
    by_cases hf : s.flush.toks.length = 4096
    · have HF := hide hf
      have hf' : ((s.flush.toks.length : Int) == 4096) = true := by rw [hf]; rfl
      clear hf
      go_wp2_with (go_at_call 41; refine (fail_rd B p 6 pl _ (unhide HR7).blk rfl hlow).mono ?_; rintro e w2 ⟨rfl, hw2, hb2⟩)
      go_ret
      rw [unhide HTE, if_pos (unhide HF)]
      exact ⟨(unhide HB7).trans hb2, rfl, hw2⟩
    · have HF := hide hf
      have hf' : ((s.flush.toks.length : Int) == 4096) = false := by simpa using (by omega : ¬ (s.flush.toks.length : Int) = 4096)
      have hn' : s.flush.toks.length + 1 ≤ 4096 := by omega
      clear hf
      have hself := Below.refl (wc.setCell ⟨p, 7, none⟩ (.int .i64 (s.place : Nat))).heap.size (wc.setCell ⟨p, 7, none⟩ (.int .i64 (s.place : Nat)))
      go_wp2_with fail
      go_region_law (refine step_append_own rfl (.tmp 56) (.tmp 58) 26 rfl B 56 i0 _ 4 64 Tryz.underlying26 hi hz0 hz1 hz2 rfl (by decide) (.slice at2 s.flush.toks.length ct2) s.flush.toks.length (tokRow s.flush.toks vs2) rfl (owns_below (unhide HROW) (by (repeat first | with_reducible exact hself | refine Below.drew ?_ | refine Below.alloc ?_ (by simp) _))) _ 1 1 (tokCells t (.slice aa t.attrs.length ca)) rfl rfl (news4 (by simp [go_sem]) (by simp [go_sem]) (by simp [go_sem]) (by simp [go_sem])) (fun u hu => by simp [tokCells] at hu; rcases hu with rfl | rfl | rfl | rfl <;> rfl) (by unfold maxLen; omega) (by omega) (by simp; omega) ?_; intro v' w' hown hgrow; obtain ⟨a5, b5, rfl⟩ := owns_slice hown; have hR := (unhide HR7).told (by (repeat first | with_reducible exact hself | refine Below.drew ?_ | refine Below.alloc ?_ (by simp) _)) (unhide HVS) (unhide HROW) (unhide HAT) (unhide HA7) hgrow hown; have c5' : w'.cell? ⟨p, 5, none⟩ = some (.slice at2 s.flush.toks.length ct2) := blk_cell hR.2.1 5; have o5' := blk_open hR.2.1 5; have hB' := Below.grown (B := B) (((unhide HB7).alloc (by simp; omega) _).drew) hgrow (by simp; omega) (owns_ge (unhide HROW)))
      all_goals have HRR := hide hR.1
      all_goals clear hR
      all_goals go_wp2
      all_goals go_ret
      all_goals rw [unhide HTE, if_neg (unhide HF)]
      all_goals exact ⟨hB'.setCell hlow _, rfl, _, _, _, unhide HRR⟩
end Go.Proofs.YtiembljlhmgpjaaGreatDoor
/- Walks with one label, and regions over a class of worlds. -/
namespace Go.Proofs.YtiembljlhmgpjaaGreatDoor
open Go.RowKit
/-- As Q; by a goto: J of its label. -/
def jumps (J : Nat → Act → World → Prop) (Q : Exit → Act → World → Prop) : Exit → Act → World → Prop
  | .goto l, a, w => J l a w
  | e, a, w => Q e a w
section
variable {P : Program} {a : Act} {w : World} {Q : Exit → Act → World → Prop} {J : Nat → Act → World → Prop}
theorem jumps_normal : jumps J Q .normal a w = Q .normal a w := rfl
theorem jumps_exit (id : Nat) : jumps J Q (.exit id) a w = Q (.exit id) a w := rfl
theorem jumps_ret : jumps J Q .ret a w = Q .ret a w := rfl
theorem jumps_goto (l : Nat) : jumps J Q (.goto l) a w = J l a w := rfl
theorem jumps_panic (ch : List PanicEntry) : jumps J Q (.panic ch) a w = Q (.panic ch) a w := rfl
theorem jumps_mono {J J' : Nat → Act → World → Prop} (h : ∀ l a w, J l a w → J' l a w) (e : Exit) (a : Act) (w : World) (hq : jumps J Q e a w) : jumps J' Q e a w := by
  cases e with
  | goto l => exact h l a w hq
  | _ => exact hq
/-- Two labels: from one the run ends; to the other it comes back with less to do. -/
theorem wp_scope_next {c rest0 rest1 : Code} (l0 l1 : Nat) (Inv : Nat → Act → World → Prop) (hf0 : findLabel c l0 = some rest0) (hf1 : findLabel c l1 = some (Code.skip.seq rest1))
    (round' : ∀ n a w, Inv n a w → rest1.wp P (jumps (fun l a' w' => l = l0 ∧ rest0.wp P (jumps (fun _ _ _ => False) Q) a' w' ∨ l = l1 ∧ ∃ n', n' < n ∧ Inv n' a' w') Q) a w)
    (first : (∀ n a w, Inv n a w → rest1.wp P (jumps (fun l a' w' => l = l0 ∧ rest0.wp P (jumps (fun _ _ _ => False) Q) a' w' ∨ l = l1 ∧ ∃ n', Inv n' a' w') Q) a w) → c.wp P (jumps (fun l a' w' => l = l0 ∧ rest0.wp P (jumps (fun _ _ _ => False) Q) a' w' ∨ l = l1 ∧ ∃ n', Inv n' a' w') Q) a w) : (Code.scope c).wp P Q a w := by
  have round := fun n a w hI => wp_seq (wp_skip (round' n a w hI))
  have hfirst := first fun n a w hI => Code.wp_mono (fun e a w hq => jumps_mono (fun l a w h => by
    rcases h with h | ⟨h1, n', _, h3⟩
    · exact .inl h
    · exact .inr ⟨h1, n', h3⟩) e a w hq) (round' n a w hI)
  intro b k cs
  have key0 : ∀ a w, rest0.wp P (jumps (fun _ _ _ => False) Q) a w → ∃ e a' w', Q e a' w' ∧ Arrives P (lone (b.at a (.code rest0 :: .inScope c :: k)) cs w) b k cs e a' w' := by
    intro a w h
    obtain ⟨e, a₁, w₁, hq, harr⟩ := h b (.inScope c :: k) cs
    cases e with
    | normal => exact ⟨.normal, a₁, w₁, hq, Steps.trans harr (.one step_inScope)⟩
    | exit id => exact ⟨.exit id, a₁, w₁, hq, fun k' hk => harr k' (by simp [exitTo, hk])⟩
    | goto l' => exact hq.elim
    | ret => exact ⟨_, a₁, w₁, hq, harr⟩
    | panic ch => exact ⟨_, a₁, w₁, hq, harr⟩
    | outgrown => exact ⟨_, a₁, w₁, hq, harr⟩
  have key1 : ∀ n a w, Inv n a w → ∃ e a' w', Q e a' w' ∧ Arrives P (lone (b.at a (.code (Code.skip.seq rest1) :: .inScope c :: k)) cs w) b k cs e a' w' := by
    intro n
    induction n using Nat.strongRecOn with
    | _ n ih =>
      intro a w hI
      obtain ⟨e, a₁, w₁, hq, harr⟩ := round n a w hI b (.inScope c :: k) cs
      cases e with
      | normal => exact ⟨.normal, a₁, w₁, hq, Steps.trans harr (.one step_inScope)⟩
      | exit id => exact ⟨.exit id, a₁, w₁, hq, fun k' hk => harr k' (by simp [exitTo, hk])⟩
      | goto l' =>
        rcases hq with ⟨rfl, hq⟩ | ⟨rfl, n', hlt, hI'⟩
        · obtain ⟨e₂, a₂, w₂, hq₂, harr₂⟩ := key0 a₁ w₁ hq
          exact ⟨e₂, a₂, w₂, hq₂, .of_steps (harr _ (by simp [gotoIn, hf0])) harr₂⟩
        · obtain ⟨e₂, a₂, w₂, hq₂, harr₂⟩ := ih n' hlt a₁ w₁ hI'
          exact ⟨e₂, a₂, w₂, hq₂, .of_steps (harr _ (by simp [gotoIn, hf1])) harr₂⟩
      | ret => exact ⟨_, a₁, w₁, hq, harr⟩
      | panic ch => exact ⟨_, a₁, w₁, hq, harr⟩
      | outgrown => exact ⟨_, a₁, w₁, hq, harr⟩
  obtain ⟨e, a₁, w₁, hq, harr⟩ := hfirst b (.inScope c :: k) cs
  cases e with
  | normal => exact ⟨.normal, a₁, w₁, hq, .head step_scope (Steps.trans harr (.one step_inScope))⟩
  | exit id => exact ⟨.exit id, a₁, w₁, hq, fun k' hk => .head step_scope (harr k' (by simp [exitTo, hk]))⟩
  | goto l' =>
    rcases hq with ⟨rfl, hq⟩ | ⟨rfl, n', hI'⟩
    · obtain ⟨e₂, a₂, w₂, hq₂, harr₂⟩ := key0 a₁ w₁ hq
      exact ⟨e₂, a₂, w₂, hq₂, .of_steps (.head step_scope (harr _ (by simp [gotoIn, hf0]))) harr₂⟩
    · obtain ⟨e₂, a₂, w₂, hq₂, harr₂⟩ := key1 n' a₁ w₁ hI'
      exact ⟨e₂, a₂, w₂, hq₂, .of_steps (.head step_scope (harr _ (by simp [gotoIn, hf1]))) harr₂⟩
  | ret => exact ⟨_, a₁, w₁, hq, .of_steps (.one step_scope) harr⟩
  | panic ch => exact ⟨_, a₁, w₁, hq, .of_steps (.one step_scope) harr⟩
  | outgrown => exact ⟨_, a₁, w₁, hq, .of_steps (.one step_scope) harr⟩
end
attribute [local go_sem] jumps_normal jumps_exit jumps_ret jumps_goto jumps_panic
section
variable {P : Program} {a : Act} {w : World} {Q : Exit → Act → World → Prop}
/-- One label, to which the run comes back with less to do. -/
theorem wp_scope_one {c rest1 : Code} (l1 : Nat) (Inv : Nat → Act → World → Prop) (hf1 : findLabel c l1 = some (Code.skip.seq rest1))
    (round' : ∀ n a w, Inv n a w → rest1.wp P (jumps (fun l a' w' => l = l1 ∧ ∃ n', n' < n ∧ Inv n' a' w') Q) a w)
    (first : (∀ n a w, Inv n a w → rest1.wp P (jumps (fun l a' w' => l = l1 ∧ ∃ n', Inv n' a' w') Q) a w) → c.wp P (jumps (fun l a' w' => l = l1 ∧ ∃ n', Inv n' a' w') Q) a w) : (Code.scope c).wp P Q a w := by
  have round := fun n a w hI => wp_seq (wp_skip (round' n a w hI))
  have hfirst := first fun n a w hI => Code.wp_mono (fun e a w hq => jumps_mono (fun l a w h => ⟨h.1, h.2.choose, h.2.choose_spec.2⟩) e a w hq) (round' n a w hI)
  intro b k cs
  have key1 : ∀ n a w, Inv n a w → ∃ e a' w', Q e a' w' ∧ Arrives P (lone (b.at a (.code (Code.skip.seq rest1) :: .inScope c :: k)) cs w) b k cs e a' w' := by
    intro n
    induction n using Nat.strongRecOn with
    | _ n ih =>
      intro a w hI
      obtain ⟨e, a₁, w₁, hq, harr⟩ := round n a w hI b (.inScope c :: k) cs
      cases e with
      | normal => exact ⟨.normal, a₁, w₁, hq, Steps.trans harr (.one step_inScope)⟩
      | exit id => exact ⟨.exit id, a₁, w₁, hq, fun k' hk => harr k' (by simp [exitTo, hk])⟩
      | goto l' =>
        obtain ⟨rfl, n', hlt, hI'⟩ := hq
        obtain ⟨e₂, a₂, w₂, hq₂, harr₂⟩ := ih n' hlt a₁ w₁ hI'
        exact ⟨e₂, a₂, w₂, hq₂, .of_steps (harr _ (by simp [gotoIn, hf1])) harr₂⟩
      | ret => exact ⟨_, a₁, w₁, hq, harr⟩
      | panic ch => exact ⟨_, a₁, w₁, hq, harr⟩
      | outgrown => exact ⟨_, a₁, w₁, hq, harr⟩
  obtain ⟨e, a₁, w₁, hq, harr⟩ := hfirst b (.inScope c :: k) cs
  cases e with
  | normal => exact ⟨.normal, a₁, w₁, hq, .head step_scope (Steps.trans harr (.one step_inScope))⟩
  | exit id => exact ⟨.exit id, a₁, w₁, hq, fun k' hk => .head step_scope (harr k' (by simp [exitTo, hk]))⟩
  | goto l' =>
    obtain ⟨rfl, n', hI'⟩ := hq
    obtain ⟨e₂, a₂, w₂, hq₂, harr₂⟩ := key1 n' a₁ w₁ hI'
    exact ⟨e₂, a₂, w₂, hq₂, .of_steps (.head step_scope (harr _ (by simp [gotoIn, hf1]))) harr₂⟩
  | ret => exact ⟨_, a₁, w₁, hq, .of_steps (.one step_scope) harr⟩
  | panic ch => exact ⟨_, a₁, w₁, hq, .of_steps (.one step_scope) harr⟩
  | outgrown => exact ⟨_, a₁, w₁, hq, .of_steps (.one step_scope) harr⟩
end
theorem wp_region_cls {P : Program} {id : Nat} {Q : Exit → Act → World → Prop} {a : Act} {w : World} {l : List Oper} (C : World → Prop) (hm : P.follows .mixedOrders = true) (hB : Region.lexB .any l.toArray = true) (hC : C w.drew)
    (h : wpQuiet P l.toArray C (fun a' => ∀ w', C w' → Q .normal a' w') l a) : (Code.region id l.toArray true).wp P Q a w :=
  wp_region_quiet (C := C) hm hB hC (by simpa using h)
/-- Worlds behind one. -/
structure ClsW (W0 : World) (u : World) : Prop where
  bel : Below W0.heap.size W0 u
theorem arr_of {t : Array Value} {n : Nat} (h : t.size = n) : t = ((List.range n).map fun i => t[i]!).toArray := by
  apply Array.ext
  · simp [h]
  · intro i h1 h2
    simp [h1]
end Go.Proofs.YtiembljlhmgpjaaGreatDoor
