/- Several texts, laid as one. -/
import Derived.Test.YtefjfjieoiegnaaGreatDoorGbt
import Derived.Test.YtefjfjieoiegnaaGreatDoorGas
import Derived.Test.YtefjfjieoiegnaaGreatDoorGbc
/- What must be whatever is asked: stencillaw03's live; tokens in memory, read. -/
namespace Go.Proofs.YtefjfjieoiegnaaGreatDoor
open Go.RowKit
end Go.Proofs.YtefjfjieoiegnaaGreatDoor
/- A text, escaped, is read as itself: the law XmlscanTexts. -/
namespace Go.Proofs.YtefjfjieoiegnaaGreatDoor
open Go.RowKit
theorem XEnv.up {B B' : Nat} {w : World} (h : XEnv B w) (hb : B ≤ B') : XEnv B' w := ⟨h.env, h.x, h.m, h.l, h.X, h.M, h.L, Nat.lt_of_lt_of_le h.g1 hb, Nat.lt_of_lt_of_le h.g2 hb, Nat.lt_of_lt_of_le h.g3 hb, Nat.lt_of_lt_of_le h.g4 hb⟩
theorem XEnv.at {w w' : World} (h : XEnv w.heap.size w) (hb : Below w.heap.size w w') : XEnv w'.heap.size w' := (h.low hb).up hb.size
end Go.Proofs.YtefjfjieoiegnaaGreatDoor
/- Are tokens those of a tree: xout's isForest, Right. -/
namespace Go.Proofs.YtefjfjieoiegnaaGreatDoor
open Go.RowKit Go.Maps
def aroS : ByteArray := ⟨#[97, 114, 111, 117, 110, 100]⟩
def aroE : BTok := ⟨2, aroS, [], ⟨#[]⟩⟩
def aroF : BTok := ⟨7, aroS, [], ⟨#[]⟩⟩
/-- Are the tokens, in an element, those of a document? -/
def forB (ts : List BTok) : Bool := !((writeR (aroE :: (ts ++ [aroF]))).2 == 5)
theorem aroE_small : Small aroE := ⟨Nat.zero_le _, (fun x h => by cases h), by decide, by decide⟩
theorem aroF_small : Small aroF := ⟨Nat.zero_le _, (fun x h => by cases h), by decide, by decide⟩
theorem pairs_nil (w : World) : PairsArg w (.slice none 0 0) [] := ⟨none, 0, rfl, fun h => absurd rfl h⟩
/-- Where Concat is called: the tokens around, and the three slices. -/
structure ForW (w : World) (a : Option Addr) (ts : List BTok) (cap : Nat) (W : World) : Prop where
  bel : Below w.heap.size w W
  e : TokArg W w.heap.size (0 + 0 * 4) aroE
  f : TokArg W w.heap.size (4 + 0 * 4) aroF
  s0 : W.cell? ⟨w.heap.size + 1, 0, none⟩ = some (.slice (some ⟨w.heap.size, 0, none⟩) 1 2)
  s1 : W.cell? ⟨w.heap.size + 1, 1, none⟩ = some (.slice a ts.length cap)
  s2 : W.cell? ⟨w.heap.size + 1, 2, none⟩ = some (.slice (some ⟨w.heap.size, 4, none⟩) 1 1)
set_option maxRecDepth 100000 in
set_option maxHeartbeats 4000000 in
theorem isForest_any (ts : List BTok) (a : Option Addr) (cap : Nat) (w : World) (hv : ToksArg w a ts) (hn : ts.length ≤ 1048576) (hs : ∀ t ∈ ts, Small t) (B : Nat) (hB : B ≤ w.heap.size) (hE : XEnv B w) :
    Calls Tryz.prog 38 #[.slice a ts.length cap] w fun e w' => e = .returned (.bool (forB ts)) ∧ Below w.heap.size w w' := by
  have HV := hide hv
  have HS := hide hs
  have hE0 := hE
  have HCC : Hid (∀ W, ForW w a ts cap W → Calls Tryz.prog 74 #[.slice (some ⟨w.heap.size + 1, 0, none⟩) 3 3] W fun e w' => ∃ b c, e = .returned (.slice b (ts.length + 2) c) ∧ ToksArg w' b (aroE :: (ts ++ [aroF])) ∧ Below w.heap.size w w') := hide fun W hW => by
    have hfl : [[aroE], ts, [aroF]].flatten = aroE :: (ts ++ [aroF]) := by simp
    have hln : (aroE :: (ts ++ [aroF])).length = ts.length + 2 := by simp
    have h := concat_any [[aroE], ts, [aroF]] (w.heap.size + 1) 3 W (fun k p hk => by
      match k, hk with
      | 0, e => cases e; exact ⟨_, _, hW.s0, fun _ => ⟨_, _, rfl, fun i t ht => by
          match i, ht with
          | 0, e => cases e; exact hW.e⟩⟩
      | 1, e => cases e; exact ⟨_, _, hW.s1, (unhide HV).below hW.bel⟩
      | 2, e => cases e; exact ⟨_, _, hW.s2, fun _ => ⟨_, _, rfl, fun i t ht => by
          match i, ht with
          | 0, e => cases e; exact hW.f⟩⟩) (by rw [hfl, hln]; omega) (by rw [hfl, hln]; omega) (show (3 : Nat) ≤ 10 by decide)
    rw [hfl, hln] at h
    refine h.mono ?_
    rintro e w' ⟨⟨b, c, rfl, hT⟩, hb⟩
    exact ⟨b, c, rfl, hT, Below.then hW.bel hb⟩
  have HWR : Hid (∀ W b c, Below w.heap.size w W → ToksArg W b (aroE :: (ts ++ [aroF])) → Calls Tryz.prog 73 #[.slice b (ts.length + 2) c] W fun e w' => e = .returned (.tuple #[.string (writeR (aroE :: (ts ++ [aroF]))).1, .int .i64 ((writeR (aroE :: (ts ++ [aroF]))).2 : Nat)]) ∧ Below W.heap.size W w') := hide fun W b c hb hT => by
    have hln : (aroE :: (ts ++ [aroF])).length = ts.length + 2 := by simp
    have h := write_any (aroE :: (ts ++ [aroF])) b c W hT (by rw [hln]; omega) (fun t ht => by
      rcases List.mem_cons.1 ht with rfl | ht
      · exact aroE_small
      · rcases List.mem_append.1 ht with ht | ht
        · exact unhide HS t ht
        · rw [List.mem_singleton.1 ht]; exact aroF_small) W.heap.size (Nat.le_refl _) ((hE0.low (hb.mono hB)).up (Nat.le_trans hB hb.size))
    rw [hln] at h
    exact h
  have HFB : Hid (forB ts = !((writeR (aroE :: (ts ++ [aroF]))).2 == 5)) := hide rfl
  generalize writeR (aroE :: (ts ++ [aroF])) = R at *
  obtain ⟨r1, r2⟩ := R
  simp only at HWR HFB
  have HFE : Hid (forB ts = ((r2 : Int) != 5)) := hide (by
    rw [unhide HFB]
    by_cases h : r2 = 5
    · subst h; rfl
    · have h2 : ¬ ((r2 : Int) = 5) := by omega
      rw [beq_eq_false_iff_ne.2 h, bne, beq_eq_false_iff_ne.2 h2])
  clear hv hs hE
  go_enter Tryz.func38, Tryz.ntmps38
  go_wp2_with fail
  have HF0 : Hid (ForW w a ts cap (((w.alloc (.cells #[.int .i64 2, .string aroS, .slice none 0 0, .string ⟨#[]⟩, .int .i64 7, .string aroS, .slice none 0 0, .string ⟨#[]⟩] 91)).drew).alloc (.cells #[.slice (some ⟨w.heap.size, 0, none⟩) 1 2, .slice a ts.length cap, .slice (some ⟨w.heap.size, 4, none⟩) 1 1] 24))) := hide (by
    refine ⟨?_, ⟨?_, ?_, ⟨.slice none 0 0, ?_, pairs_nil _⟩, ?_⟩, ⟨?_, ?_, ⟨.slice none 0 0, ?_, pairs_nil _⟩, ?_⟩, ?_, ?_, ?_⟩
    · exact (((Below.refl _ _).alloc (Nat.le_refl _) _).drew).alloc (by simp) _
    all_goals simp [go_sem, aroE, aroF])
  go_region_with (first
    | (go_at_call 74; refine (unhide HCC _ (unhide HF0)).mono ?_; rintro e w1 ⟨b, c, rfl, hT1, hb1⟩)
    | (go_at_call 73; refine (unhide HWR _ _ _ hb1 hT1).mono ?_; rintro e w2 ⟨rfl, hb2⟩))
  all_goals (try go_wp2_with fail)
  all_goals (go_returns; exact ⟨by rw [unhide HFE]; rfl, Below.then hb1 hb2⟩)
/-- What Right answers. -/
def rightO (ts : List BTok) : Nat := if forB ts then (if pastD ts then 6 else 0) else 5
set_option maxRecDepth 100000 in
set_option maxHeartbeats 4000000 in
theorem right_any (ts : List BTok) (a : Option Addr) (cap : Nat) (w : World) (hv : ToksArg w a ts) (hn : ts.length ≤ 1048576) (hs : ∀ t ∈ ts, Small t) (B : Nat) (hB : B ≤ w.heap.size) (hE : XEnv B w) :
    Calls Tryz.prog 23 #[.slice a ts.length cap] w fun e w' => e = .returned (.int .i64 (rightO ts : Nat)) ∧ Below w.heap.size w w' := by
  have HV := hide hv
  have HF := hide (isForest_any ts a cap w hv hn hs B hB hE)
  have HR : Hid (rightO ts = if forB ts then (if pastD ts then 6 else 0) else 5) := hide rfl
  clear hs hv
  go_enter Tryz.func23, Tryz.ntmps23
  go_wp2_with fail
  go_at_call 38; refine (unhide HF).mono ?_
  rintro e w1 ⟨rfl, hb1⟩
  cases hf : forB ts with
  | false =>
    go_wp2_with fail
    go_returns
    exact ⟨by rw [unhide HR, hf]; rfl, hb1⟩
  | true =>
    go_wp2_with fail
    go_at_call 39; refine (outPast_any ts a cap w1 ((unhide HV).below hb1) hn).mono ?_
    rintro e w2 ⟨rfl, hb2⟩
    cases hp : pastD ts with
    | false =>
      go_wp2_with fail
      go_returns
      exact ⟨by rw [unhide HR, hf, hp]; rfl, Below.then hb1 hb2⟩
    | true =>
      go_wp2_with fail
      go_returns
      exact ⟨by rw [unhide HR, hf, hp]; rfl, Below.then hb1 hb2⟩
end Go.Proofs.YtefjfjieoiegnaaGreatDoor
/- Tokens as a text, told plainly: what xout's Write answers. -/
namespace Go.Proofs.YtefjfjieoiegnaaGreatDoor
open Go.RowKit
theorem both_len {f : ByteArray × ByteArray → List UInt8} {t : BTok} (h : Small t) (hl : t.kind = 2 → (t.attrs.flatMap f).length ≤ 469762304) : (bothB f t).length ≤ 500000000 := by
  have h1 := h.n
  have h2 := h.x
  have h4 := mapO_len esc_few t.text.data.toList
  have e1 : t.name.data.toList.length = t.name.size := rfl
  have e2 : t.text.data.toList.length = t.text.size := rfl
  unfold bothB
  split
  · rename_i h3
    have h5 := hl h3
    simp only [List.length_cons, List.length_append, List.length_nil]
    omega
  · split
    · simp only [List.length_cons, List.length_append, List.length_nil]
      omega
    · split
      · omega
      · split
        · simp only [List.length_cons, List.length_append, List.length_nil]
          omega
        · simp only [List.length_nil]
          omega
theorem instr_len {t : BTok} {last : ByteArray} (h : Small t) (hl : last.size ≤ 2) : (instrO t last).length ≤ 500000000 := by
  have h1 := h.n
  have h2 := h.x
  have e1 : t.name.data.toList.length = t.name.size := rfl
  have e2 : t.text.data.toList.length = t.text.size := rfl
  have e3 : last.data.toList.length = last.size := rfl
  unfold instrO
  split
  · simp only [List.length_cons, List.length_append, List.length_nil]
    omega
  · simp only [List.length_cons, List.length_append]
    omega
theorem flatX_len {t : BTok} (h : Small t) (hl : t.attrs.length ≤ 64) : (t.attrs.flatMap attrB).length ≤ 469762304 := by
  have h1 := TagX_len h.a
  have h5 : t.attrs.length * 7340036 ≤ 469762304 := by omega
  omega
theorem flatH_len {t : BTok} (h : Small t) (hl : t.attrs.length ≤ 64) : (t.attrs.flatMap hAttrB).length ≤ 469762304 := by
  have h1 := TagH_len h.a
  have h5 : t.attrs.length * 7340036 ≤ 469762304 := by omega
  omega
theorem xmlO_len {t a c : BTok} (h : Small t) (hl : t.kind = 2 → t.attrs.length ≤ 64) : (xmlO t a c).length ≤ 500000000 := by
  have h1 := h.n
  have e1 : t.name.data.toList.length = t.name.size := rfl
  unfold xmlO
  split
  · rename_i h3
    have h5 := flatX_len h (hl h3.1)
    simp only [List.length_cons, List.length_append, List.length_nil]
    omega
  · split
    · exact Nat.zero_le _
    · split
      · exact instr_len h (by decide)
      · exact both_len h (fun e => flatX_len h (hl e))
theorem htmlO_len {t a : BTok} (h : Small t) (hl : t.kind = 2 → t.attrs.length ≤ 64) : (htmlO t a).length ≤ 500000000 := by
  have h1 := h.x
  have e1 : t.text.data.toList.length = t.text.size := rfl
  unfold htmlO
  split
  · exact Nat.zero_le _
  · split
    · omega
    · split
      · exact instr_len h (by decide)
      · exact both_len h (fun e => flatH_len h (hl e))
theorem plainO_len {t : BTok} (h : Small t) : (plainO t).length ≤ 500000000 := by
  have h1 := h.x
  have e1 : t.text.data.toList.length = t.text.size := rfl
  unfold plainO
  split
  · omega
  · exact Nat.zero_le _
/-- What is written of the token at a place, by a method. -/
def spotO (m : Int) (ts : List BTok) : Nat → List UInt8 := if m = 1 then htmlAt ts else if m = 2 then plainAt ts else xmlAt ts
def textO (m : Int) (ts : List BTok) : List UInt8 := (List.range ts.length).flatMap (spotO m ts)
def writeO (m : Int) (ts : List BTok) : ByteArray × Nat :=
  if m < 0 ∨ 2 < m then (⟨#[]⟩, 2) else if rightO ts ≠ 0 then (⟨#[]⟩, rightO ts) else if m = 1 ∧ htmlOk ts = false then (⟨#[]⟩, 5) else if 32768 < (textO m ts).length then (⟨#[]⟩, 6) else (⟨(textO m ts).toArray⟩, 0)
theorem right_past {ts : List BTok} (h : rightO ts = 0) : pastD ts = false := by
  unfold rightO at h
  split at h
  · split at h
    · cases h
    · rename_i h1
      exact eq_false_of_ne_true h1
  · cases h
theorem spotO_len {ts : List BTok} (hs : ∀ t ∈ ts, Small t) (h : rightO ts = 0) (m : Int) (x : Nat) : (spotO m ts x).length ≤ 500000000 := by
  have hp := right_past h
  unfold spotO
  split
  · exact htmlO_len (small_tk hs x) (right_few hp x)
  · split
    · exact plainO_len (small_tk hs x)
    · exact xmlO_len (small_tk hs x) (right_few hp x)
def wayF (m : Int) : Nat := if m = 1 then 42 else if m = 2 then 43 else 44
theorem all_any (m : Int) (w0 : World) (b : Nat) (ts : List BTok) (a : Option Addr) (cap : Nat) (w : World) (hv : ToksArg w0 a ts) (hb : Below w0.heap.size w0 w) (h : IsW w0.heap.size b (Lib.byteCells []) w) (hs : ∀ t ∈ ts, Small t) (hr : rightO ts = 0) (hE : XEnv w0.heap.size w) :
    Calls Tryz.prog 25 #[.pointer (some ⟨b, 0, none⟩), .slice a ts.length cap, .func (.func (wayF m)) #[.pointer (some ⟨b, 0, none⟩)] #[]] w fun e W' => e = .returned (.tuple #[]) ∧ WOut w0.heap.size b (textO m ts) w W' := by
  have hl := (past_few (right_past hr)).1
  have hM := spotO_len hs hr m
  have hz : ([] : List UInt8).length + (ts.length + 1) * 500000000 ≤ 80000000000000 := by
    have h0 : ([] : List UInt8).length = 0 := rfl
    rw [h0]; omega
  unfold textO
  unfold spotO at hM ⊢
  unfold wayF
  by_cases h1 : m = 1
  · simp only [if_pos h1] at hM ⊢
    exact callsIn_wide.1 (allH_in 3 (Nat.le_refl _) w0 b [] ts a cap _ w hv hb h (by omega) hs hM hz hE)
  · simp only [if_neg h1] at hM ⊢
    by_cases h2 : m = 2
    · simp only [if_pos h2] at hM ⊢
      exact callsIn_wide.1 (allP_in 3 (Nat.le_refl _) w0 b [] ts a cap _ w hv hb h (by omega) hs hM hz hE)
    · simp only [if_neg h2] at hM ⊢
      exact callsIn_wide.1 (allX_in 3 (Nat.le_refl _) w0 b [] ts a cap _ w hv hb h (by omega) hs hM hz hE)
end Go.Proofs.YtefjfjieoiegnaaGreatDoor
