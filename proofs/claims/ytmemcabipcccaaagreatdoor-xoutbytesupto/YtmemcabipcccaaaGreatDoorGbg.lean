/- Several texts, laid as one. -/
import Derived.Test.YtmemcabipcccaaaGreatDoorGbf
/- Tokens one behind the other: the writer's all. -/
namespace Go.Proofs.YtmemcabipcccaaaGreatDoor
open Go.RowKit Go.Maps Go.Sort Go.Shelf
attribute [local go_sem] Oper.semAt_some
def xmlAt (ts : List BTok) (i : Nat) : List UInt8 := xmlO (tkAt ts i) (ahT ts i) (tkAt ts (i + 1))
theorem sp_read0 {w0 w : World} {a : Option Addr} {ts : List BTok} (cap : Nat) (h : ToksArg w0 a ts) (hb0 : Below w0.heap.size w0 w) (T : TypeId) : ∃ us, SpRd w.heap.size a cap ts us (w.alloc (.cells #[.slice a ts.length cap] T)) ∧ PlOk w0 ts us := by
  have hb : Below w0.heap.size w0 (w.alloc (.cells #[.slice a ts.length cap] T)) := hb0.trans (((Below.refl _ _).alloc (Nat.le_refl _) _).mono hb0.size)
  have hbox : (w.alloc (.cells #[.slice a ts.length cap] T)).cell? ⟨w.heap.size, 0, none⟩ = some (.slice a ts.length cap) := by rw [Lib.cell_of_heap (alloc_newO w _)]; rfl
  by_cases hne : ts = []
  · subst hne
    exact ⟨[], ⟨hbox, rfl, fun e => absurd rfl e⟩, fun i t u e => by cases e⟩
  · obtain ⟨g, o, rfl, ht⟩ := h hne
    obtain ⟨us, h1, h2⟩ := toks_pl ts o ht
    refine ⟨us, ⟨hbox, h1, fun _ => ⟨g, o, rfl, fun i t u e1 e2 => ?_⟩⟩, fun i t u e1 e2 => (h2 i t u e1 e2).2⟩
    obtain ⟨⟨a0, a1, a2, a3⟩, _⟩ := h2 i t u e1 e2
    exact ⟨keptC hb a0, keptC hb a1, keptC hb a2, keptC hb a3⟩
set_option maxRecDepth 100000 in
theorem spots_seq0 (w0 : World) (ts : List BTok) (a : Option Addr) (cap : Nat) (w : World) (hv : ToksArg w0 a ts) (hb : Below w0.heap.size w0 w) :
    Calls Tryz.prog 29 #[.slice a ts.length cap] w fun e W => ∃ us, e = .returned (.func (.func 52) #[] #[.pointer (some ⟨w.heap.size, 0, none⟩)]) ∧ SpRd w.heap.size a cap ts us W ∧ PlOk w0 ts us ∧ W.heap.size = w.heap.size + 1 ∧ Below w.heap.size w W ∧ Boxed W w.heap.size 23 (.slice a ts.length cap) := by
  have HS := hide (sp_read0 cap hv hb 23)
  obtain ⟨N, hN⟩ : ∃ N, N = ts.length := ⟨_, rfl⟩
  rw [← hN] at HS ⊢
  clear hv hN hb
  go_enter Tryz.func29, Tryz.ntmps29
  go_wp2_with fail
  go_returns
  obtain ⟨us, h1, h2⟩ := unhide HS
  exact ⟨us, rfl, h1, h2, by simp, (Below.refl _ _).alloc (Nat.le_refl _) _, Boxed.new _ _ _⟩
theorem pl_tk {w0 : World} {ts : List BTok} {us : List Pl} (h : PlOk w0 ts us) (hl : us.length = ts.length) (i : Nat) : PairsArg w0 (.slice (plAt us i).1 (tkAt ts i).attrs.length (plAt us i).2) (tkAt ts i).attrs := by
  by_cases hi : i < ts.length
  · have h1 : ts[i]? = some ts[i] := List.getElem?_eq_getElem hi
    have h2 : us[i]? = some (us[i]'(by omega)) := List.getElem?_eq_getElem _
    rw [tk_at h1, pl_at h2]
    exact h i _ _ h1 h2
  · rw [tk_no (by omega), pl_no (by omega)]
    exact ⟨none, 0, rfl, fun h => absurd rfl h⟩
theorem flat_len {f : Nat → List UInt8} {M : Nat} (h : ∀ x, (f x).length ≤ M) : ∀ pre : List Nat, (pre.flatMap f).length ≤ pre.length * M
  | [] => Nat.zero_le _
  | x :: pre => by
    have h1 := h x
    have h2 := flat_len h pre
    rw [List.flatMap_cons, List.length_append, List.length_cons, Nat.add_mul]
    omega
theorem IsW.turned {B b : Nat} {bs : List Value} {w W : World} {row : Option Nat} (h : IsW B b bs w) (hg : w.grownBy W row) (hr : ∀ r, row = some r → ∃ o : Obj, w.heap[r]? = some o ∧ o.isCells = false) : IsW B b bs W := by
  have one : ∀ p, Lib.BuilderAtF 43 5 B b p bs w → Lib.BuilderAtF 43 5 B b p bs W := by
    rintro p ⟨hB, v, hb, ho, hne⟩
    have hno : ∀ k c T fz, w.heap[k]? = some (.cells c T fz) → some k ≠ row := fun k c T fz hk e => by
      obtain ⟨o, h1, h2⟩ := hr k e.symm
      rw [hk] at h1
      cases h1
      cases h2
    refine ⟨hB, v, (hg.block b (Array.getElem?_eq_some_iff.1 hb).1 (hno _ _ _ _ hb)).trans hb, ho.kept hg ?_, hne⟩
    cases hv : v.ownBlock with
    | none => exact .inl rfl
    | some g =>
      obtain ⟨c, fz, hc⟩ := Lib.ownsRowF_kind ho g hv
      exact .inr (hno g _ _ _ hc)
  rcases h with h | h
  · exact .inl (one _ h)
  · exact .inr (one _ h)
theorem SpRd.wkept {w0 : World} {Bl b : Nat} {a : Option Addr} {cap : Nat} {ts : List BTok} {us : List Pl} {l : List UInt8} {W W2 : World} (h : SpRd Bl a cap ts us W) (hO : WOut w0.heap.size b l W W2) (hv : ToksArg w0 a ts) (hbx : Boxed W2 Bl 23 (.slice a ts.length cap)) : SpRd Bl a cap ts us W2 := by
  refine ⟨hbx.cell, h.len, fun hne => ?_⟩
  obtain ⟨g, o, e, hc⟩ := h.toks hne
  obtain ⟨g', o', e', ht⟩ := hv hne
  rw [e] at e'
  cases e'
  obtain ⟨t0, ht0⟩ : ∃ t0, ts[0]? = some t0 := by
    cases ts with
    | nil => exact absurd rfl hne
    | cons t0 r => exact ⟨t0, rfl⟩
  have hg : g < w0.heap.size := cell_ltO (ht 0 t0 ht0).k
  refine ⟨g, o, e, fun i t u h1 h2 => ?_⟩
  obtain ⟨a0, a1, a2, a3⟩ := hc i t u h1 h2
  exact ⟨(hO.bel.cell (p := ⟨g, _, none⟩) hg).trans a0, (hO.bel.cell (p := ⟨g, _, none⟩) hg).trans a1, (hO.bel.cell (p := ⟨g, _, none⟩) hg).trans a2, (hO.bel.cell (p := ⟨g, _, none⟩) hg).trans a3⟩
theorem WOut.box {B b : Nat} {l : List UInt8} {W W2 : World} (hO : WOut B b l W W2) {g : Nat} {T : TypeId} {v : Value} (h : Boxed W g T v) (hT : T ≠ 5) (hg : g ≠ b) : Boxed W2 g T v := hO.blk h hT hg
theorem wout_own {β : Type} (B' B b : Nat) (f : β → List UInt8) (w : World) (hw : w.heap.size ≤ B') (hB : B ≤ w.heap.size) : OwnFrom B' (fun s W => WOut B b (f s) w W) := fun s W W' row hs hg hr =>
  ⟨hs.bld.turned hg (fun r e => (hr r e).2), hs.bel.grown hg (Nat.le_trans hB hs.bel.size) (fun k e => Nat.le_trans hB (Nat.le_trans hw (hr k e).1)), fun k o hk hb ho => by
    have h1 := hs.kept k o hk hb ho
    rw [hg.block k (Array.getElem?_eq_some_iff.1 h1).1 (fun e => by
      have h2 := (hr k e.symm).1
      have h3 := (Array.getElem?_eq_some_iff.1 hk).1
      omega)]
    exact h1⟩
set_option maxRecDepth 100000 in
set_option maxHeartbeats 4000000 in
theorem allX_in (n : Nat) (hn : 3 ≤ n) (w0 : World) (b : Nat) (l : List UInt8) (ts : List BTok) (a : Option Addr) (cap M : Nat) (w : World) (hv : ToksArg w0 a ts) (hb : Below w0.heap.size w0 w) (h : IsW w0.heap.size b (Lib.byteCells l) w) (hlen : ts.length ≤ 1048576) (hs : ∀ t ∈ ts, Small t) (hM : ∀ x, (xmlAt ts x).length ≤ M) (hz : l.length + (ts.length + 1) * M ≤ 80000000000000) (hE : XEnv w0.heap.size w) :
    CallsIn Fence.wide n Tryz.prog 14 #[.pointer (some ⟨b, 0, none⟩), .slice a ts.length cap, .func (.func 33) #[.pointer (some ⟨b, 0, none⟩)] #[]] w fun e W' => e = .returned (.tuple #[]) ∧ WOut w0.heap.size b (l ++ (List.range ts.length).flatMap (xmlAt ts)) w W' := by
  have h1 : 1 ≤ n := by omega
  have hB := hb.size
  have hbR : Below w.heap.size w (w.alloc (.cells #[.func (.func 33) #[.pointer (some ⟨b, 0, none⟩)] #[]] 45)) := (Below.refl _ _).alloc (Nat.le_refl _) _
  have HSQ := hide (spots_seq0 w0 ts a cap _ hv (hb.trans (hbR.mono hB)))
  simp only [World.size_alloc] at HSQ
  have HBX := hide (Boxed.new w 45 (.func (.func 33) #[.pointer (some ⟨b, 0, none⟩)] #[]))
  have HBR := hide hbR
  refine callsIn_of_wp_marks Tryz.func14 rfl trivial ?_ rfl
  simp only [Tryz.ntmps14, List.size_toArray, List.length_cons, List.length_nil, Nat.reduceAdd, Nat.reduceSub, Array.replicate_succ, Array.replicate_zero, List.push_toArray, List.append_toArray, List.nil_append, List.cons_append]
  have HV := hide hv
  clear hv hbR
  gi_wp2_with (refine ⟨trivial, ?_⟩; gi_at_call 29; refine (callsIn_wide.2 (unhide HSQ)).mono ?_; rintro e W1 ⟨us, rfl, hR, hP, hsz, hb1, hbl1⟩)
  have hbW : Below w.heap.size w W1 := (unhide HBR).trans (hb1.mono (by omega))
  have hBX : Boxed W1 w.heap.size 45 (.func (.func 33) #[.pointer (some ⟨b, 0, none⟩)] #[]) := (hb1.block w.heap.size (by omega)).trans (unhide HBX)
  have HZ : Hid (w.heap.size + 1 + 1 = W1.heap.size) := hide hsz.symm
  have hlt := h.lt
  have hO1 : WOut w0.heap.size b (l ++ ([] : List Nat).flatMap (xmlAt ts)) w W1 := by
    rw [List.flatMap_nil, List.append_nil]
    exact WOut.start h hB hbW
  have HSM := hide hs
  have HEE := hide hE
  have HBB := hide hb
  have HPL := hide hP
  have HM := hide hM
  have HLZ := hide hz
  have HUL : Hid (us.length = ts.length) := hide hR.len
  clear hsz hb1 HSQ HBX HBR hP hs hE hb h hM hz hbW
  refine wpIn_rangeFunc_ownH rfl h1 (gf := 52) (lb := #[.pointer (some ⟨w.heap.size + 1, 0, none⟩)]) rfl trivial (enters_of Tryz.func52 (by kernel_rfl) rfl)
    (spots_stops (n - 1) (by omega) (w.heap.size + 1) a cap ts us hlen W1 hR) (fun h k x => k (h x)) (fun W l o o' _ ho hc _ hr => hr.turned (grownBy_putObj' W l o') (fun r e => by cases e; exact ⟨o, ho, hc⟩)) (Below.refl _ _) (fun _ => rfl)
    (fun pre W => (Boxed W w.heap.size 45 (.func (.func 33) #[.pointer (some ⟨b, 0, none⟩)] #[]) ∧ Boxed W (w.heap.size + 1) 23 (.slice a ts.length cap)) ∧ WOut w0.heap.size b (l ++ pre.flatMap (xmlAt ts)) w W)
    (fun _ _ _ => False)
    (((Own.from (boxed_own w.heap.size 45 (fun _ => .func (.func 33) #[.pointer (some ⟨b, 0, none⟩)] #[])) _).and (Own.from (boxed_own (w.heap.size + 1) 23 (fun _ => .slice a ts.length cap)) _)).and (wout_own W1.heap.size w0.heap.size b (fun pre : List Nat => l ++ pre.flatMap (xmlAt ts)) w (by have := unhide HZ; omega) hB))
    (fun _ _ _ _ _ hs _ _ => hs)
    ⟨⟨hBX, hbl1⟩, hO1⟩
    (fun x a' W => ∃ Bs, a' = { tmps := #[.pointer (some ⟨b, 0, none⟩), .slice a ts.length cap, .func (.func 33) #[.pointer (some ⟨b, 0, none⟩)] #[], undef, undef, .pointer (some ⟨w.heap.size, 0, none⟩), .pointer (some ⟨Bs, 0, none⟩), .slice a ts.length cap, .func (.func 52) #[] #[.pointer (some ⟨w.heap.size + 1, 0, none⟩)], spotV ts us x, undef, undef, undef], defers := [] } ∧ W.heap[Bs]? = some (.cells (spotA (tkAt ts x) (plAt us x) (ahT ts x) (ahU us x) (tkAt ts (x + 1)) (plAt us (x + 1))) 62 (0, 0)))
    ?hAx ?assign ?body ?done ?stop
  case hAx =>
    rintro x a' s W W' row ⟨Bs, e, hb⟩ hg hr
    exact ⟨Bs, e, blk_own (β := Unit) _ Bs _ _ s W W' row hb hg hr⟩
  case assign =>
    intro l pre x W K hI hK
    simp only [spotV, spotCs]
    gi_wp2
    obtain ⟨⟨hbx, hbl⟩, hO⟩ := hI
    have hbA : ∀ o : Obj, Below W.heap.size W (W.alloc o) := fun o => (Below.refl _ _).alloc (Nat.le_refl _) _
    exact hK _ _ (KeepsFrom.of_grownBy (World.grownBy_alloc W _ none) (fun j e => by cases e)) (fun hr => hr.below (hbA _)) ⟨⟨hbx.alloc _, hbl.alloc _⟩, hO.more hB (hbA _)⟩ ⟨W.heap.size, rfl, alloc_newO W _⟩
  case body =>
    rintro lp pre x a' W hl hlo ⟨⟨hbx, hbl⟩, hO⟩ ⟨Bs, rfl, hblk⟩ hpl
    have q0 : W.cell? ⟨Bs, 0, none⟩ = some (.int .i64 (tkAt ts x).kind) := by rw [Lib.cell_of_heap hblk]; rfl
    have q1 : W.cell? ⟨Bs, 1, none⟩ = some (.string (tkAt ts x).name) := by rw [Lib.cell_of_heap hblk]; rfl
    have q2 : W.cell? ⟨Bs, 2, none⟩ = some (.slice (plAt us x).1 (tkAt ts x).attrs.length (plAt us x).2) := by rw [Lib.cell_of_heap hblk]; rfl
    have q3 : W.cell? ⟨Bs, 3, none⟩ = some (.string (tkAt ts x).text) := by rw [Lib.cell_of_heap hblk]; rfl
    have q4 : W.cell? ⟨Bs, 4, none⟩ = some (.int .i64 (ahT ts x).kind) := by rw [Lib.cell_of_heap hblk]; rfl
    have q5 : W.cell? ⟨Bs, 5, none⟩ = some (.string (ahT ts x).name) := by rw [Lib.cell_of_heap hblk]; rfl
    have q6 : W.cell? ⟨Bs, 6, none⟩ = some (.slice (ahU us x).1 (ahT ts x).attrs.length (ahU us x).2) := by rw [Lib.cell_of_heap hblk]; rfl
    have q7 : W.cell? ⟨Bs, 7, none⟩ = some (.string (ahT ts x).text) := by rw [Lib.cell_of_heap hblk]; rfl
    have q8 : W.cell? ⟨Bs, 8, none⟩ = some (.int .i64 (tkAt ts (x + 1)).kind) := by rw [Lib.cell_of_heap hblk]; rfl
    have q9 : W.cell? ⟨Bs, 9, none⟩ = some (.string (tkAt ts (x + 1)).name) := by rw [Lib.cell_of_heap hblk]; rfl
    have q10 : W.cell? ⟨Bs, 10, none⟩ = some (.slice (plAt us (x + 1)).1 (tkAt ts (x + 1)).attrs.length (plAt us (x + 1)).2) := by rw [Lib.cell_of_heap hblk]; rfl
    have q11 : W.cell? ⟨Bs, 11, none⟩ = some (.string (tkAt ts (x + 1)).text) := by rw [Lib.cell_of_heap hblk]; rfl
    have z1 := hbx.cell
    have hlen2 : (l ++ pre.flatMap (xmlAt ts)).length ≤ 80000000000000 := by
      have h2 := flat_len (unhide HM) pre
      have h3 := unhide HLZ
      have h4 : pre.length * M ≤ (ts.length + 1) * M := Nat.mul_le_mul_right _ (by omega)
      rw [List.length_append]
      omega
    have HC := hide (wXml_any w0 b _ (tkAt ts x) (plAt us x) (ahT ts x) (ahU us x) (tkAt ts (x + 1)) (plAt us (x + 1)) W (pl_tk (unhide HPL) (unhide HUL) x) ((unhide HBB).trans hO.bel) hO.bld (small_tk (unhide HSM) x) hlen2)
    unfold spotCs at HC
    have HI : Hid ((Boxed W w.heap.size 45 (.func (.func 33) #[.pointer (some ⟨b, 0, none⟩)] #[]) ∧ Boxed W (w.heap.size + 1) 23 (.slice a ts.length cap)) ∧ WOut w0.heap.size b (l ++ pre.flatMap (xmlAt ts)) w W) := hide ⟨⟨hbx, hbl⟩, hO⟩
    clear hbx hbl hO hblk hlen2
    gi_wp2
    refine ⟨trivial, fun h => (by cases h), ((callsIn_wide.2 (unhide HC)).inRound lp).mono ?_⟩
    rintro e W2 ⟨rfl, hO2⟩
    obtain ⟨⟨hbx, hbl⟩, hO⟩ := unhide HI
    have hbx2 := hO2.box hbx (by decide) (by omega)
    have hbl2 := hO2.box hbl (by decide) (by omega)
    have HZ' := unhide HZ
    gi_wp2
    refine ⟨⟨hO2.bel.size, fun k o hk1 hk2 hk3 => hO2.kept k o hk2 (fun e => by cases e; omega) (fun c fz e => by rw [e] at hk3; cases hk3)⟩, fun hr => hr.wkept hO2 (unhide HV) hbl2, ⟨hbx2, hbl2⟩, ?_⟩
    rw [List.flatMap_append, List.flatMap_singleton, ← List.append_assoc]
    exact hO.next hO2
  case done =>
    rintro D ys W hD rfl ⟨_, hO⟩ hKK
    have hO' := wout_own W1.heap.size w0.heap.size b (fun ys : List Nat => l ++ ys.flatMap (xmlAt ts)) w (by have := unhide HZ; omega) hB (List.range ts.length) W _ (some D) hO (grownBy_putObj' W D (.deferred none)) (fun r e => by cases e; exact ⟨hD, _, hKK, rfl⟩)
    gi_wp2
    refine ⟨by simp, .inl ⟨_, _, rfl, run_takeDeferred hKK, ?_⟩⟩
    exact ⟨_, results_none rfl _ _ _, rfl, hO'⟩
  case stop =>
    rintro D c pre W _ _ h _
    exact h.elim
end Go.Proofs.YtmemcabipcccaaaGreatDoor
/- Tokens one behind the other: the writer's all. -/
namespace Go.Proofs.YtmemcabipcccaaaGreatDoor
open Go.RowKit Go.Maps Go.Sort Go.Shelf
attribute [local go_sem] Oper.semAt_some
def htmlAt (ts : List BTok) (i : Nat) : List UInt8 := htmlO (tkAt ts i) (ahT ts i)
set_option maxRecDepth 100000 in
set_option maxHeartbeats 4000000 in
theorem allH_in (n : Nat) (hn : 3 ≤ n) (w0 : World) (b : Nat) (l : List UInt8) (ts : List BTok) (a : Option Addr) (cap M : Nat) (w : World) (hv : ToksArg w0 a ts) (hb : Below w0.heap.size w0 w) (h : IsW w0.heap.size b (Lib.byteCells l) w) (hlen : ts.length ≤ 1048576) (hs : ∀ t ∈ ts, Small t) (hM : ∀ x, (htmlAt ts x).length ≤ M) (hz : l.length + (ts.length + 1) * M ≤ 80000000000000) (hE : XEnv w0.heap.size w) :
    CallsIn Fence.wide n Tryz.prog 14 #[.pointer (some ⟨b, 0, none⟩), .slice a ts.length cap, .func (.func 31) #[.pointer (some ⟨b, 0, none⟩)] #[]] w fun e W' => e = .returned (.tuple #[]) ∧ WOut w0.heap.size b (l ++ (List.range ts.length).flatMap (htmlAt ts)) w W' := by
  have h1 : 1 ≤ n := by omega
  have hB := hb.size
  have hbR : Below w.heap.size w (w.alloc (.cells #[.func (.func 31) #[.pointer (some ⟨b, 0, none⟩)] #[]] 45)) := (Below.refl _ _).alloc (Nat.le_refl _) _
  have HSQ := hide (spots_seq0 w0 ts a cap _ hv (hb.trans (hbR.mono hB)))
  simp only [World.size_alloc] at HSQ
  have HBX := hide (Boxed.new w 45 (.func (.func 31) #[.pointer (some ⟨b, 0, none⟩)] #[]))
  have HBR := hide hbR
  refine callsIn_of_wp_marks Tryz.func14 rfl trivial ?_ rfl
  simp only [Tryz.ntmps14, List.size_toArray, List.length_cons, List.length_nil, Nat.reduceAdd, Nat.reduceSub, Array.replicate_succ, Array.replicate_zero, List.push_toArray, List.append_toArray, List.nil_append, List.cons_append]
  have HV := hide hv
  clear hv hbR
  gi_wp2_with (refine ⟨trivial, ?_⟩; gi_at_call 29; refine (callsIn_wide.2 (unhide HSQ)).mono ?_; rintro e W1 ⟨us, rfl, hR, hP, hsz, hb1, hbl1⟩)
  have hbW : Below w.heap.size w W1 := (unhide HBR).trans (hb1.mono (by omega))
  have hBX : Boxed W1 w.heap.size 45 (.func (.func 31) #[.pointer (some ⟨b, 0, none⟩)] #[]) := (hb1.block w.heap.size (by omega)).trans (unhide HBX)
  have HZ : Hid (w.heap.size + 1 + 1 = W1.heap.size) := hide hsz.symm
  have hlt := h.lt
  have hO1 : WOut w0.heap.size b (l ++ ([] : List Nat).flatMap (htmlAt ts)) w W1 := by
    rw [List.flatMap_nil, List.append_nil]
    exact WOut.start h hB hbW
  have HSM := hide hs
  have HEE := hide hE
  have HBB := hide hb
  have HPL := hide hP
  have HM := hide hM
  have HLZ := hide hz
  have HUL : Hid (us.length = ts.length) := hide hR.len
  clear hsz hb1 HSQ HBX HBR hP hs hE hb h hM hz hbW
  refine wpIn_rangeFunc_ownH rfl h1 (gf := 52) (lb := #[.pointer (some ⟨w.heap.size + 1, 0, none⟩)]) rfl trivial (enters_of Tryz.func52 (by kernel_rfl) rfl)
    (spots_stops (n - 1) (by omega) (w.heap.size + 1) a cap ts us hlen W1 hR) (fun h k x => k (h x)) (fun W l o o' _ ho hc _ hr => hr.turned (grownBy_putObj' W l o') (fun r e => by cases e; exact ⟨o, ho, hc⟩)) (Below.refl _ _) (fun _ => rfl)
    (fun pre W => (Boxed W w.heap.size 45 (.func (.func 31) #[.pointer (some ⟨b, 0, none⟩)] #[]) ∧ Boxed W (w.heap.size + 1) 23 (.slice a ts.length cap)) ∧ WOut w0.heap.size b (l ++ pre.flatMap (htmlAt ts)) w W)
    (fun _ _ _ => False)
    (((Own.from (boxed_own w.heap.size 45 (fun _ => .func (.func 31) #[.pointer (some ⟨b, 0, none⟩)] #[])) _).and (Own.from (boxed_own (w.heap.size + 1) 23 (fun _ => .slice a ts.length cap)) _)).and (wout_own W1.heap.size w0.heap.size b (fun pre : List Nat => l ++ pre.flatMap (htmlAt ts)) w (by have := unhide HZ; omega) hB))
    (fun _ _ _ _ _ hs _ _ => hs)
    ⟨⟨hBX, hbl1⟩, hO1⟩
    (fun x a' W => ∃ Bs, a' = { tmps := #[.pointer (some ⟨b, 0, none⟩), .slice a ts.length cap, .func (.func 31) #[.pointer (some ⟨b, 0, none⟩)] #[], undef, undef, .pointer (some ⟨w.heap.size, 0, none⟩), .pointer (some ⟨Bs, 0, none⟩), .slice a ts.length cap, .func (.func 52) #[] #[.pointer (some ⟨w.heap.size + 1, 0, none⟩)], spotV ts us x, undef, undef, undef], defers := [] } ∧ W.heap[Bs]? = some (.cells (spotA (tkAt ts x) (plAt us x) (ahT ts x) (ahU us x) (tkAt ts (x + 1)) (plAt us (x + 1))) 62 (0, 0)))
    ?hAx ?assign ?body ?done ?stop
  case hAx =>
    rintro x a' s W W' row ⟨Bs, e, hb⟩ hg hr
    exact ⟨Bs, e, blk_own (β := Unit) _ Bs _ _ s W W' row hb hg hr⟩
  case assign =>
    intro l pre x W K hI hK
    simp only [spotV, spotCs]
    gi_wp2
    obtain ⟨⟨hbx, hbl⟩, hO⟩ := hI
    have hbA : ∀ o : Obj, Below W.heap.size W (W.alloc o) := fun o => (Below.refl _ _).alloc (Nat.le_refl _) _
    exact hK _ _ (KeepsFrom.of_grownBy (World.grownBy_alloc W _ none) (fun j e => by cases e)) (fun hr => hr.below (hbA _)) ⟨⟨hbx.alloc _, hbl.alloc _⟩, hO.more hB (hbA _)⟩ ⟨W.heap.size, rfl, alloc_newO W _⟩
  case body =>
    rintro lp pre x a' W hl hlo ⟨⟨hbx, hbl⟩, hO⟩ ⟨Bs, rfl, hblk⟩ hpl
    have q0 : W.cell? ⟨Bs, 0, none⟩ = some (.int .i64 (tkAt ts x).kind) := by rw [Lib.cell_of_heap hblk]; rfl
    have q1 : W.cell? ⟨Bs, 1, none⟩ = some (.string (tkAt ts x).name) := by rw [Lib.cell_of_heap hblk]; rfl
    have q2 : W.cell? ⟨Bs, 2, none⟩ = some (.slice (plAt us x).1 (tkAt ts x).attrs.length (plAt us x).2) := by rw [Lib.cell_of_heap hblk]; rfl
    have q3 : W.cell? ⟨Bs, 3, none⟩ = some (.string (tkAt ts x).text) := by rw [Lib.cell_of_heap hblk]; rfl
    have q4 : W.cell? ⟨Bs, 4, none⟩ = some (.int .i64 (ahT ts x).kind) := by rw [Lib.cell_of_heap hblk]; rfl
    have q5 : W.cell? ⟨Bs, 5, none⟩ = some (.string (ahT ts x).name) := by rw [Lib.cell_of_heap hblk]; rfl
    have q6 : W.cell? ⟨Bs, 6, none⟩ = some (.slice (ahU us x).1 (ahT ts x).attrs.length (ahU us x).2) := by rw [Lib.cell_of_heap hblk]; rfl
    have q7 : W.cell? ⟨Bs, 7, none⟩ = some (.string (ahT ts x).text) := by rw [Lib.cell_of_heap hblk]; rfl
    have q8 : W.cell? ⟨Bs, 8, none⟩ = some (.int .i64 (tkAt ts (x + 1)).kind) := by rw [Lib.cell_of_heap hblk]; rfl
    have q9 : W.cell? ⟨Bs, 9, none⟩ = some (.string (tkAt ts (x + 1)).name) := by rw [Lib.cell_of_heap hblk]; rfl
    have q10 : W.cell? ⟨Bs, 10, none⟩ = some (.slice (plAt us (x + 1)).1 (tkAt ts (x + 1)).attrs.length (plAt us (x + 1)).2) := by rw [Lib.cell_of_heap hblk]; rfl
    have q11 : W.cell? ⟨Bs, 11, none⟩ = some (.string (tkAt ts (x + 1)).text) := by rw [Lib.cell_of_heap hblk]; rfl
    have z1 := hbx.cell
    have hlen2 : (l ++ pre.flatMap (htmlAt ts)).length ≤ 80000000000000 := by
      have h2 := flat_len (unhide HM) pre
      have h3 := unhide HLZ
      have h4 : pre.length * M ≤ (ts.length + 1) * M := Nat.mul_le_mul_right _ (by omega)
      rw [List.length_append]
      omega
    have HC := hide (wHtml_any w0 b _ (tkAt ts x) (plAt us x) (ahT ts x) (ahU us x) (tkAt ts (x + 1)) (plAt us (x + 1)) W (pl_tk (unhide HPL) (unhide HUL) x) ((unhide HBB).trans hO.bel) hO.bld (small_tk (unhide HSM) x) (small_ah (unhide HSM) x).n hlen2 ((unhide HEE).low hO.bel))
    unfold spotCs at HC
    have HI : Hid ((Boxed W w.heap.size 45 (.func (.func 31) #[.pointer (some ⟨b, 0, none⟩)] #[]) ∧ Boxed W (w.heap.size + 1) 23 (.slice a ts.length cap)) ∧ WOut w0.heap.size b (l ++ pre.flatMap (htmlAt ts)) w W) := hide ⟨⟨hbx, hbl⟩, hO⟩
    clear hbx hbl hO hblk hlen2
    gi_wp2
    refine ⟨trivial, fun h => (by cases h), ((callsIn_wide.2 (unhide HC)).inRound lp).mono ?_⟩
    rintro e W2 ⟨rfl, hO2⟩
    obtain ⟨⟨hbx, hbl⟩, hO⟩ := unhide HI
    have hbx2 := hO2.box hbx (by decide) (by omega)
    have hbl2 := hO2.box hbl (by decide) (by omega)
    have HZ' := unhide HZ
    gi_wp2
    refine ⟨⟨hO2.bel.size, fun k o hk1 hk2 hk3 => hO2.kept k o hk2 (fun e => by cases e; omega) (fun c fz e => by rw [e] at hk3; cases hk3)⟩, fun hr => hr.wkept hO2 (unhide HV) hbl2, ⟨hbx2, hbl2⟩, ?_⟩
    rw [List.flatMap_append, List.flatMap_singleton, ← List.append_assoc]
    exact hO.next hO2
  case done =>
    rintro D ys W hD rfl ⟨_, hO⟩ hKK
    have hO' := wout_own W1.heap.size w0.heap.size b (fun ys : List Nat => l ++ ys.flatMap (htmlAt ts)) w (by have := unhide HZ; omega) hB (List.range ts.length) W _ (some D) hO (grownBy_putObj' W D (.deferred none)) (fun r e => by cases e; exact ⟨hD, _, hKK, rfl⟩)
    gi_wp2
    refine ⟨by simp, .inl ⟨_, _, rfl, run_takeDeferred hKK, ?_⟩⟩
    exact ⟨_, results_none rfl _ _ _, rfl, hO'⟩
  case stop =>
    rintro D c pre W _ _ h _
    exact h.elim
end Go.Proofs.YtmemcabipcccaaaGreatDoor
/- Tokens one behind the other: the writer's all. -/
namespace Go.Proofs.YtmemcabipcccaaaGreatDoor
open Go.RowKit Go.Maps Go.Sort Go.Shelf
attribute [local go_sem] Oper.semAt_some
def plainAt (ts : List BTok) (i : Nat) : List UInt8 := plainO (tkAt ts i)
set_option maxRecDepth 100000 in
set_option maxHeartbeats 4000000 in
theorem allP_in (n : Nat) (hn : 3 ≤ n) (w0 : World) (b : Nat) (l : List UInt8) (ts : List BTok) (a : Option Addr) (cap M : Nat) (w : World) (hv : ToksArg w0 a ts) (hb : Below w0.heap.size w0 w) (h : IsW w0.heap.size b (Lib.byteCells l) w) (hlen : ts.length ≤ 1048576) (hs : ∀ t ∈ ts, Small t) (hM : ∀ x, (plainAt ts x).length ≤ M) (hz : l.length + (ts.length + 1) * M ≤ 80000000000000) (hE : XEnv w0.heap.size w) :
    CallsIn Fence.wide n Tryz.prog 14 #[.pointer (some ⟨b, 0, none⟩), .slice a ts.length cap, .func (.func 32) #[.pointer (some ⟨b, 0, none⟩)] #[]] w fun e W' => e = .returned (.tuple #[]) ∧ WOut w0.heap.size b (l ++ (List.range ts.length).flatMap (plainAt ts)) w W' := by
  have h1 : 1 ≤ n := by omega
  have hB := hb.size
  have hbR : Below w.heap.size w (w.alloc (.cells #[.func (.func 32) #[.pointer (some ⟨b, 0, none⟩)] #[]] 45)) := (Below.refl _ _).alloc (Nat.le_refl _) _
  have HSQ := hide (spots_seq0 w0 ts a cap _ hv (hb.trans (hbR.mono hB)))
  simp only [World.size_alloc] at HSQ
  have HBX := hide (Boxed.new w 45 (.func (.func 32) #[.pointer (some ⟨b, 0, none⟩)] #[]))
  have HBR := hide hbR
  refine callsIn_of_wp_marks Tryz.func14 rfl trivial ?_ rfl
  simp only [Tryz.ntmps14, List.size_toArray, List.length_cons, List.length_nil, Nat.reduceAdd, Nat.reduceSub, Array.replicate_succ, Array.replicate_zero, List.push_toArray, List.append_toArray, List.nil_append, List.cons_append]
  have HV := hide hv
  clear hv hbR
  gi_wp2_with (refine ⟨trivial, ?_⟩; gi_at_call 29; refine (callsIn_wide.2 (unhide HSQ)).mono ?_; rintro e W1 ⟨us, rfl, hR, hP, hsz, hb1, hbl1⟩)
  have hbW : Below w.heap.size w W1 := (unhide HBR).trans (hb1.mono (by omega))
  have hBX : Boxed W1 w.heap.size 45 (.func (.func 32) #[.pointer (some ⟨b, 0, none⟩)] #[]) := (hb1.block w.heap.size (by omega)).trans (unhide HBX)
  have HZ : Hid (w.heap.size + 1 + 1 = W1.heap.size) := hide hsz.symm
  have hlt := h.lt
  have hO1 : WOut w0.heap.size b (l ++ ([] : List Nat).flatMap (plainAt ts)) w W1 := by
    rw [List.flatMap_nil, List.append_nil]
    exact WOut.start h hB hbW
  have HSM := hide hs
  have HEE := hide hE
  have HBB := hide hb
  have HPL := hide hP
  have HM := hide hM
  have HLZ := hide hz
  have HUL : Hid (us.length = ts.length) := hide hR.len
  clear hsz hb1 HSQ HBX HBR hP hs hE hb h hM hz hbW
  refine wpIn_rangeFunc_ownH rfl h1 (gf := 52) (lb := #[.pointer (some ⟨w.heap.size + 1, 0, none⟩)]) rfl trivial (enters_of Tryz.func52 (by kernel_rfl) rfl)
    (spots_stops (n - 1) (by omega) (w.heap.size + 1) a cap ts us hlen W1 hR) (fun h k x => k (h x)) (fun W l o o' _ ho hc _ hr => hr.turned (grownBy_putObj' W l o') (fun r e => by cases e; exact ⟨o, ho, hc⟩)) (Below.refl _ _) (fun _ => rfl)
    (fun pre W => (Boxed W w.heap.size 45 (.func (.func 32) #[.pointer (some ⟨b, 0, none⟩)] #[]) ∧ Boxed W (w.heap.size + 1) 23 (.slice a ts.length cap)) ∧ WOut w0.heap.size b (l ++ pre.flatMap (plainAt ts)) w W)
    (fun _ _ _ => False)
    (((Own.from (boxed_own w.heap.size 45 (fun _ => .func (.func 32) #[.pointer (some ⟨b, 0, none⟩)] #[])) _).and (Own.from (boxed_own (w.heap.size + 1) 23 (fun _ => .slice a ts.length cap)) _)).and (wout_own W1.heap.size w0.heap.size b (fun pre : List Nat => l ++ pre.flatMap (plainAt ts)) w (by have := unhide HZ; omega) hB))
    (fun _ _ _ _ _ hs _ _ => hs)
    ⟨⟨hBX, hbl1⟩, hO1⟩
    (fun x a' W => ∃ Bs, a' = { tmps := #[.pointer (some ⟨b, 0, none⟩), .slice a ts.length cap, .func (.func 32) #[.pointer (some ⟨b, 0, none⟩)] #[], undef, undef, .pointer (some ⟨w.heap.size, 0, none⟩), .pointer (some ⟨Bs, 0, none⟩), .slice a ts.length cap, .func (.func 52) #[] #[.pointer (some ⟨w.heap.size + 1, 0, none⟩)], spotV ts us x, undef, undef, undef], defers := [] } ∧ W.heap[Bs]? = some (.cells (spotA (tkAt ts x) (plAt us x) (ahT ts x) (ahU us x) (tkAt ts (x + 1)) (plAt us (x + 1))) 62 (0, 0)))
    ?hAx ?assign ?body ?done ?stop
  case hAx =>
    rintro x a' s W W' row ⟨Bs, e, hb⟩ hg hr
    exact ⟨Bs, e, blk_own (β := Unit) _ Bs _ _ s W W' row hb hg hr⟩
  case assign =>
    intro l pre x W K hI hK
    simp only [spotV, spotCs]
    gi_wp2
    obtain ⟨⟨hbx, hbl⟩, hO⟩ := hI
    have hbA : ∀ o : Obj, Below W.heap.size W (W.alloc o) := fun o => (Below.refl _ _).alloc (Nat.le_refl _) _
    exact hK _ _ (KeepsFrom.of_grownBy (World.grownBy_alloc W _ none) (fun j e => by cases e)) (fun hr => hr.below (hbA _)) ⟨⟨hbx.alloc _, hbl.alloc _⟩, hO.more hB (hbA _)⟩ ⟨W.heap.size, rfl, alloc_newO W _⟩
  case body =>
    rintro lp pre x a' W hl hlo ⟨⟨hbx, hbl⟩, hO⟩ ⟨Bs, rfl, hblk⟩ hpl
    have q0 : W.cell? ⟨Bs, 0, none⟩ = some (.int .i64 (tkAt ts x).kind) := by rw [Lib.cell_of_heap hblk]; rfl
    have q1 : W.cell? ⟨Bs, 1, none⟩ = some (.string (tkAt ts x).name) := by rw [Lib.cell_of_heap hblk]; rfl
    have q2 : W.cell? ⟨Bs, 2, none⟩ = some (.slice (plAt us x).1 (tkAt ts x).attrs.length (plAt us x).2) := by rw [Lib.cell_of_heap hblk]; rfl
    have q3 : W.cell? ⟨Bs, 3, none⟩ = some (.string (tkAt ts x).text) := by rw [Lib.cell_of_heap hblk]; rfl
    have q4 : W.cell? ⟨Bs, 4, none⟩ = some (.int .i64 (ahT ts x).kind) := by rw [Lib.cell_of_heap hblk]; rfl
    have q5 : W.cell? ⟨Bs, 5, none⟩ = some (.string (ahT ts x).name) := by rw [Lib.cell_of_heap hblk]; rfl
    have q6 : W.cell? ⟨Bs, 6, none⟩ = some (.slice (ahU us x).1 (ahT ts x).attrs.length (ahU us x).2) := by rw [Lib.cell_of_heap hblk]; rfl
    have q7 : W.cell? ⟨Bs, 7, none⟩ = some (.string (ahT ts x).text) := by rw [Lib.cell_of_heap hblk]; rfl
    have q8 : W.cell? ⟨Bs, 8, none⟩ = some (.int .i64 (tkAt ts (x + 1)).kind) := by rw [Lib.cell_of_heap hblk]; rfl
    have q9 : W.cell? ⟨Bs, 9, none⟩ = some (.string (tkAt ts (x + 1)).name) := by rw [Lib.cell_of_heap hblk]; rfl
    have q10 : W.cell? ⟨Bs, 10, none⟩ = some (.slice (plAt us (x + 1)).1 (tkAt ts (x + 1)).attrs.length (plAt us (x + 1)).2) := by rw [Lib.cell_of_heap hblk]; rfl
    have q11 : W.cell? ⟨Bs, 11, none⟩ = some (.string (tkAt ts (x + 1)).text) := by rw [Lib.cell_of_heap hblk]; rfl
    have z1 := hbx.cell
    have hlen2 : (l ++ pre.flatMap (plainAt ts)).length ≤ 80000000000000 := by
      have h2 := flat_len (unhide HM) pre
      have h3 := unhide HLZ
      have h4 : pre.length * M ≤ (ts.length + 1) * M := Nat.mul_le_mul_right _ (by omega)
      rw [List.length_append]
      omega
    have HC := hide (wPlain_any w0.heap.size b _ (tkAt ts x) (plAt us x) (ahT ts x) (ahU us x) (tkAt ts (x + 1)) (plAt us (x + 1)) W hO.bld (by have := (small_tk (unhide HSM) x).x; omega) (Nat.le_trans hB hO.bel.size))
    unfold spotCs at HC
    have HI : Hid ((Boxed W w.heap.size 45 (.func (.func 32) #[.pointer (some ⟨b, 0, none⟩)] #[]) ∧ Boxed W (w.heap.size + 1) 23 (.slice a ts.length cap)) ∧ WOut w0.heap.size b (l ++ pre.flatMap (plainAt ts)) w W) := hide ⟨⟨hbx, hbl⟩, hO⟩
    clear hbx hbl hO hblk hlen2
    gi_wp2
    refine ⟨trivial, fun h => (by cases h), ((callsIn_wide.2 (unhide HC)).inRound lp).mono ?_⟩
    rintro e W2 ⟨rfl, hO2⟩
    obtain ⟨⟨hbx, hbl⟩, hO⟩ := unhide HI
    have hbx2 := hO2.box hbx (by decide) (by omega)
    have hbl2 := hO2.box hbl (by decide) (by omega)
    have HZ' := unhide HZ
    gi_wp2
    refine ⟨⟨hO2.bel.size, fun k o hk1 hk2 hk3 => hO2.kept k o hk2 (fun e => by cases e; omega) (fun c fz e => by rw [e] at hk3; cases hk3)⟩, fun hr => hr.wkept hO2 (unhide HV) hbl2, ⟨hbx2, hbl2⟩, ?_⟩
    rw [List.flatMap_append, List.flatMap_singleton, ← List.append_assoc]
    exact hO.next hO2
  case done =>
    rintro D ys W hD rfl ⟨_, hO⟩ hKK
    have hO' := wout_own W1.heap.size w0.heap.size b (fun ys : List Nat => l ++ ys.flatMap (plainAt ts)) w (by have := unhide HZ; omega) hB (List.range ts.length) W _ (some D) hO (grownBy_putObj' W D (.deferred none)) (fun r e => by cases e; exact ⟨hD, _, hKK, rfl⟩)
    gi_wp2
    refine ⟨by simp, .inl ⟨_, _, rfl, run_takeDeferred hKK, ?_⟩⟩
    exact ⟨_, results_none rfl _ _ _, rfl, hO'⟩
  case stop =>
    rintro D c pre W _ _ h _
    exact h.elim
end Go.Proofs.YtmemcabipcccaaaGreatDoor
