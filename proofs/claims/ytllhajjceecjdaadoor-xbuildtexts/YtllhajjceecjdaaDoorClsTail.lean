/- A statement that leaves its order open, whose steps read and call, and whose last steps (its stores) come behind all others, in one order. -/
import Derived.Test.YtllhajjceecjdaaDoorGbe
import Derived.StillTail
namespace Go.Proofs.YtllhajjceecjdaaDoor
open Go.RowKit
section
variable {P : Program} {Q : Exit → Act → World → Prop}
theorem wpAny_more {md : Region.Mode} {ops : Array Oper} : ∀ (f : Nat) (L : Array Bool) (a : Act) (w : World), wpAny P md ops Q f L a w → wpAny P md ops Q (f + 1) L a w := by
  intro f
  induction f with
  | zero => exact fun L a w h => ⟨fun _ => h.2, fun i hi => by rw [h.1] at hi; cases hi⟩
  | succ f ih => exact fun L a w h => ⟨h.1, fun i hi => wpOp_mono (fun a' w' h' => ih _ _ _ h') (h.2 i hi)⟩
theorem wpAny_add {md : Region.Mode} {ops : Array Oper} (f : Nat) (L : Array Bool) (a : Act) (w : World) (h : wpAny P md ops Q f L a w) : ∀ g, wpAny P md ops Q (g + f) L a w := by
  intro g
  induction g with
  | zero => rw [Nat.zero_add]; exact h
  | succ g ih => rw [show g + 1 + f = (g + f) + 1 by omega]; exact wpAny_more _ _ _ _ ih
/-- The steps ahead look back alone, and at none of the last ones; each of these waits for all of them. -/
def tailB (l : List Oper) (n : Nat) : Bool :=
  decide (n ≤ l.length) && ((List.range n).all fun i => ((l[i]?).map fun o => o.after.all (fun e => decide (e.on < i)) && (match o.guard with | none => true | some g => decide (g.1 < n))).getD true) &&
  ((List.range l.length).all fun t => decide (t < n) || (List.range n).all fun i => Region.waitsFor .any l.toArray t i) &&
  Region.seqB .any l.toArray (l.length - n) n (Array.replicate n true ++ Array.replicate (l.length - n) false)
theorem getD_app {L M : Array Bool} {i : Nat} {b : Bool} (h : i < L.size) : (L ++ M).getD i b = L.getD i b := by
  simp only [Array.getD_eq_getD_getElem?]
  rw [Array.getElem?_append_left h]
theorem getD_behind (L : Array Bool) (t i : Nat) (h : L.size ≤ i) : (L ++ Array.replicate t false).getD i false = false := by
  simp only [Array.getD_eq_getD_getElem?]
  rw [Array.getElem?_append_right h]
  by_cases h2 : i - L.size < t
  · simp [h2]
  · simp [h2]
theorem none_ready {pre : List Oper} {L : Array Bool} (hsz : L.size = pre.length) (hback : ∀ (i : Nat) (o : Oper), pre[i]? = some o → ∀ e ∈ o.after, e.on < i) (h : Region.ready .any pre.toArray L = []) : L = Array.replicate pre.length true := by
  have key : ∀ i, i < pre.length → L.getD i true = true := by
    intro i
    induction i using Nat.strongRecOn with
    | _ i ih =>
      intro hi
      cases hx : L.getD i true with
      | true => rfl
      | false =>
        exfalso
        have ho : pre[i]? = some pre[i] := List.getElem?_eq_getElem hi
        have hm : i ∈ Region.ready .any pre.toArray L := mem_ready.2 ⟨hx, pre[i], by simp [hi], fun e he _ => by
          have h1 := hback i _ ho e he
          have h2 := ih e.on h1 (by omega)
          simp only [Array.getD_eq_getD_getElem?] at h2 ⊢
          rw [Array.getElem?_eq_getElem (by omega)] at h2 ⊢
          simpa using h2⟩
        rw [h] at hm
        cases hm
  refine Array.ext (by simpa using hsz) fun i h1 h2 => ?_
  have h3 := key i (by omega)
  simp only [Array.getD_eq_getD_getElem?] at h3
  rw [Array.getElem?_eq_getElem h1] at h3
  simpa using h3
theorem wpOp_pre {l : List Oper} {n i : Nat} {K : Act → World → Prop} {a : Act} {w : World} (hin : i < n) (hg : ∀ o, l[i]? = some o → ∀ g, o.guard = some g → g.1 < n) (h : wpOp P (l.take n).toArray Q i K a w) : wpOp P l.toArray Q i K a w := by
  have e1 : ∀ j, j < n → (l.take n).toArray[j]? = l.toArray[j]? := fun j hj => by simp [hj]
  unfold wpOp at h ⊢
  rw [e1 i hin] at h
  cases ho : l.toArray[i]? with
  | none => rw [ho] at h; exact h
  | some o =>
    rw [ho] at h
    have e2 : Region.wanted o (yielded (l.take n).toArray a.tmps) = Region.wanted o (yielded l.toArray a.tmps) := by
      unfold Region.wanted
      cases hgd : o.guard with
      | none => rfl
      | some g =>
        have hlt := hg o (by simpa using ho) g hgd
        simp only [yielded, e1 g.1 hlt]
    simp only [e2] at h
    exact h
theorem wpAny_tail {l : List Oper} {n : Nat} {C : World → Prop} (hn : n ≤ l.length) (hback : ∀ (i : Nat) (o : Oper), (l.take n)[i]? = some o → ∀ e ∈ o.after, e.on < i) (hg : ∀ (i : Nat) (o : Oper), i < n → l[i]? = some o → ∀ g, o.guard = some g → g.1 < n)
    (hw : ∀ t, n ≤ t → ∀ i, i < n → t < l.length → Region.waitsFor .any l.toArray t i = true)
    (hs : Region.seqB .any l.toArray (l.length - n) n (Array.replicate n true ++ Array.replicate (l.length - n) false) = true) :
    ∀ (f : Nat) (L : Array Bool) (a : Act) (w : World), L.size = n → C w → wpAnyQ P .any (l.take n).toArray C (fun a' => ∀ w', C w' → wpList P l.toArray Q (l.drop n) a' w') f L a →
      wpAny P .any l.toArray Q (f + (l.length - n)) (L ++ Array.replicate (l.length - n) false) a w := by
  have htl : (l.take n).length = n := by simp; omega
  have done : ∀ (L : Array Bool) (a : Act) (w : World), L.size = n → C w → Region.ready .any (l.take n).toArray L = [] → (∀ w', C w' → wpList P l.toArray Q (l.drop n) a w') → wpAny P .any l.toArray Q (l.length - n) (L ++ Array.replicate (l.length - n) false) a w := by
    intro L a w hL hC hr h
    have e := none_ready (pre := l.take n) (by rw [htl]; exact hL) hback hr
    rw [htl] at e
    rw [e]
    have := wpAny_of_seq (Q' := Q) (P := P) (l.drop n) n (Array.replicate n true ++ Array.replicate (l.length - n) false) a w (fun j => by simp) (by simpa using hs) (h w hC)
    simpa using this
  intro f
  induction f with
  | zero => exact fun L a w hL hC h => by rw [Nat.zero_add]; exact done L a w hL hC h.1 h.2
  | succ f ih =>
    intro L a w hL hC h
    by_cases hr : Region.ready .any (l.take n).toArray L = []
    · exact wpAny_add _ _ _ _ (done L a w hL hC hr (h.1 hr)) _
    · obtain ⟨k, hk⟩ := List.exists_mem_of_ne_nil _ hr
      have hkn : k < n := by
        obtain ⟨_, o, ho, _⟩ := mem_ready.1 hk
        have := (Array.getElem?_eq_some_iff.1 ho).1
        simp at this
        omega
      have hku : L.getD k false = false := getD_both (mem_ready.1 hk).1
      have hsame : ∀ i, i ∈ Region.ready .any l.toArray (L ++ Array.replicate (l.length - n) false) → i < n ∧ i ∈ Region.ready .any (l.take n).toArray L := by
        intro i hi
        obtain ⟨h1, o, ho, h2⟩ := mem_ready.1 hi
        have hil : i < l.length := by simpa using (Array.getElem?_eq_some_iff.1 ho).1
        have hin : i < n := by
          rcases Nat.lt_or_ge i n with h | h
          · exact h
          · obtain ⟨o', ho', e, he, hb, hon⟩ := Region.waitsFor_spec (hw i h k hkn hil)
            obtain rfl := Option.some.inj (ho.symm.trans ho')
            have h3 := h2 e he hb
            rw [hon, getD_app (by omega), hku] at h3
            cases h3
        refine ⟨hin, mem_ready.2 ⟨by rw [getD_app (by omega)] at h1; exact h1, o, by simpa [List.getElem?_take, hin] using ho, fun e he hb => ?_⟩⟩
        have h3 := h2 e he hb
        by_cases h4 : e.on < L.size
        · rw [getD_app h4] at h3; exact h3
        · rw [getD_behind _ _ _ (by omega)] at h3; cases h3
      rw [show f + 1 + (l.length - n) = (f + (l.length - n)) + 1 by omega]
      refine ⟨fun h0 => ?_, fun i hi => ?_⟩
      · exfalso
        obtain ⟨h1, o, ho, h2⟩ := mem_ready.1 hk
        have hm : k ∈ Region.ready .any l.toArray (L ++ Array.replicate (l.length - n) false) := mem_ready.2 ⟨by rw [getD_app (by omega)]; exact h1, o, by simpa [List.getElem?_take, hkn] using ho, fun e he hb => by
          have h3 := h2 e he hb
          have h4 := hback k o (by simpa using ho) e he
          rw [getD_app (by omega)]; exact h3⟩
        rw [h0] at hm
        cases hm
      · obtain ⟨hin, hm⟩ := hsame i hi
        refine wpOp_pre hin (fun o ho g hgd => hg i o hin ho g hgd) (wpOp_of_qOp hC (fun a' w' hC' h' => ?_) (h.2 i hm))
        have h5 := ih (L.setIfInBounds i true) a' w' (by simpa using hL) hC' h'
        rw [show (L ++ Array.replicate (l.length - n) false).setIfInBounds i true = L.setIfInBounds i true ++ Array.replicate (l.length - n) false from ?_]
        · exact h5
        · apply Array.toList_inj.1
          simp [Array.toList_setIfInBounds, List.set_append]
          intro h6; omega
theorem wp_region_cls_tail {id : Nat} {a : Act} {w : World} {l : List Oper} (n : Nat) (C : World → Prop) (hm : P.follows .mixedOrders = true) (hB : Region.lexB .any (l.take n).toArray = true) (hT : tailB l n = true) (hC : C w.drew)
    (h : wpQuiet P (l.take n).toArray C (fun a' => ∀ w', C w' → wpList P l.toArray Q (l.drop n) a' w') (l.take n) a) : (Code.region id l.toArray true).wp P Q a w := by
  simp only [tailB, Bool.and_eq_true, decide_eq_true_eq] at hT
  obtain ⟨⟨⟨hn, h1⟩, h2⟩, h3⟩ := hT
  have htl : (l.take n).length = n := by simp; omega
  have h1' : ∀ (i : Nat) (o : Oper), i < n → l[i]? = some o → (∀ e ∈ o.after, e.on < i) ∧ ∀ g, o.guard = some g → g.1 < n := by
    intro i o hi ho
    have h4 := List.all_eq_true.1 h1 i (List.mem_range.2 hi)
    rw [ho] at h4
    simp only [Option.map_some, Option.getD_some, Bool.and_eq_true] at h4
    refine ⟨fun e he => of_decide_eq_true (Array.all_eq_true'.1 h4.1 e he), fun g hg => ?_⟩
    have h5 := h4.2
    rw [hg] at h5
    exact of_decide_eq_true h5
  have hs2 := hB
  simp only [Region.lexB, Bool.and_eq_true] at hs2
  refine wp_region_any hm ?_
  have H := wpAnyQ_lex (C := C) (md := .any) hs2.1 (l.take n) 0 (Array.replicate (l.take n).toArray.size false) a (by simp) (by simpa using hs2.2) h
  rw [htl] at H
  have := wpAny_tail (Q := Q) hn (fun i o ho => by
      have hi : i < n := by rw [← htl]; exact (List.getElem?_eq_some_iff.1 ho).1
      exact (h1' i o hi (by simpa [List.getElem?_take, hi] using ho)).1) (fun i o hi ho => (h1' i o hi ho).2)
    (fun t ht i hi hl => by
      have h4 := List.all_eq_true.1 h2 t (List.mem_range.2 hl)
      simp only [Bool.or_eq_true, decide_eq_true_eq] at h4
      rcases h4 with h4 | h4
      · omega
      · exact List.all_eq_true.1 h4 i (List.mem_range.2 hi)) h3 n (Array.replicate (l.take n).toArray.size false) a w.drew (by simp; omega) hC H
  have e1 : n + (l.length - n) = l.toArray.size := by simp; omega
  have e2 : Array.replicate (l.take n).toArray.size false ++ Array.replicate (l.length - n) false = Array.replicate l.toArray.size false := by
    apply Array.toList_inj.1
    simp only [Array.toList_append, Array.toList_replicate, List.replicate_append_replicate]
    rw [show (l.take n).toArray.size + (l.length - n) = l.toArray.size by simp; omega]
  rw [e1, e2] at this
  exact this
end
end Go.Proofs.YtllhajjceecjdaaDoor
