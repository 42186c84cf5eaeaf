/- Several texts, laid as one. -/
import Derived.Test.YtefjfjieoiegnaaGreatDoorGak
import Derived.Test.YtefjfjieoiegnaaGreatDoorGaa
import Derived.ScopeJumps
import Derived.BigQuiet
import Derived.BigGuard
import Derived.BigCall
import Derived.Deep.QuietTactic
/- The first character that may not be: xmlscan's firstBad. -/
namespace Go.Proofs.YtefjfjieoiegnaaGreatDoor
open Go.RowKit
theorem txt_app {a b : List UInt8} (ha : Txt a) (hb : Txt b) : Txt (a ++ b) := by
  obtain ⟨r, h1, rfl⟩ := ha
  obtain ⟨t, h2, rfl⟩ := hb
  refine ⟨r ++ t, fun c hc => ?_, by rw [List.flatMap_append]⟩
  rcases List.mem_append.1 hc with h | h
  · exact h1 c h
  · exact h2 c h
theorem textB_txt (s : ByteArray) : textB s = true ↔ Txt s.data.toList := by
  have h := fault_txt s (s.size + 1) 0 (by omega)
  unfold textB
  rw [List.drop_zero] at h
  constructor
  · intro e
    exact h.1 (by simpa [fault] using e)
  · intro e
    have := h.2 e
    simpa [fault] using this
/-- Where a text goes on: its next character is decoded as it is. -/
theorem txt_step (s : ByteArray) (pos : Nat) (hp : pos < s.size) (h1 : Txt (s.data.toList.take pos)) (h2 : Txt (s.data.toList.drop pos)) :
    Txt ((s.data.toList.drop pos).take (Utf8.decode s pos).2) ∧ Txt (s.data.toList.drop (pos + (Utf8.decode s pos).2)) := by
  obtain ⟨p, hp1, hp2⟩ := h1
  obtain ⟨q, hq1, hq2⟩ := h2
  have hsz : s.data.toList.length = s.size := rfl
  cases q with
  | nil =>
    have := congrArg List.length hq2
    simp at this
    omega
  | cons c t =>
    have e : s.data.toList = tx (p ++ c :: t) := by
      rw [tx_append, ← List.take_append_drop pos s.data.toList, hp2, hq2]
      rfl
    have es : s = T (p ++ c :: t) := by
      apply ByteArray.ext
      apply Array.toList_inj.1
      rw [e, T_data]
    have hpl : (tx p).length = pos := by
      have := congrArg List.length hp2
      rw [List.length_take, Nat.min_eq_left (by omega)] at this
      exact this.symm
    have hd := (dec_T p c t (hq1 c (List.mem_cons_self ..))).1
    rw [← es, hpl] at hd
    rw [hd]
    have e2 : s.data.toList.drop pos = runeB c ++ tx t := by rw [hq2]; rfl
    refine ⟨?_, ?_⟩
    · rw [e2, List.take_left]
      exact ⟨[c], fun x hx => by rw [List.mem_singleton.1 hx]; exact hq1 c (List.mem_cons_self ..), by simp⟩
    · rw [← List.drop_drop, e2, List.drop_left]
      exact ⟨t, fun x hx => hq1 x (List.mem_cons_of_mem _ hx), rfl⟩
theorem piece_data (s : ByteArray) (a b : Nat) : (s.extract a (a + b)).data.toList = (s.data.toList.drop a).take b := by
  rw [ByteArray.data_extract, Array.toList_extract, List.extract_eq_take_drop]
  congr 1
  omega
/-- What firstBad tells: no place of a text, some place of what is none. -/
def badP (s : ByteArray) (e : Ending) : Prop := (Txt s.data.toList ∧ e = .returned (.tuple #[.int .i64 0, .bool false])) ∨ (¬ Txt s.data.toList ∧ ∃ at' : Nat, at' < s.size ∧ e = .returned (.tuple #[.int .i64 (at' : Nat), .bool true]))
set_option maxHeartbeats 1000000 in
theorem firstBad_any (s : ByteArray) (w : World) (hs : s.size ≤ 32768) (hE : Env w) :
    Calls Tryz.prog 30 #[.string s] w fun e w' => badP s e ∧ Below w.heap.size w w' := by
  have HE := hide hE
  clear hE
  go_enter Tryz.func30, Tryz.ntmps30
  go_wp2_with fail
  go_loopw [4, 5, 6] (fun _ _ _ wr => ∃ pos : Nat, pos ≤ s.size ∧ Txt (s.data.toList.take pos) ∧ (Txt s.data.toList → Txt (s.data.toList.drop pos)) ∧ wr.heap[w.heap.size]? = some (.stringIter s pos) ∧ Below w.heap.size w wr) (fun _ _ _ wr => s.size - wr.iterPos w.heap.size)
  case atStart =>
    refine ⟨0, Nat.zero_le _, ⟨[], (fun _ h => by cases h), rfl⟩, fun h => h, ?_, ?_⟩
    · exact World.iter_heap w s 0
    · exact (Below.refl _ _).alloc (Nat.le_refl _) _
  case round =>
    obtain ⟨pos, hps, h1, h2, hk, hbr⟩ := hrel
    by_cases hp : pos < s.size
    · have hwd := width_pos s pos hp
      obtain ⟨_, _, hwe⟩ := decode_bytes s pos hp
      have hnx := fun ty => Lib.run_next_any_at (P := Tryz.prog) wr w.heap.size s pos ty hk hp
      have HK := hide hk
      have hbl : w.heap.size < wr.heap.size := (Array.getElem?_eq_some_iff.1 hk).1
      have HST := hide (fun h => txt_step s pos hp h1 (h2 h))
      have HT := hide h1
      have HD := hide (decodeRune_at s pos)
      generalize hd : Utf8.decode s pos = d at *
      have hbI : Below w.heap.size w (wr.iterAt w.heap.size s (pos + d.2)) := Lib.below_iterAt hbr (by omega) _ _
      have hszI : w.heap.size ≤ (wr.iterAt w.heap.size s (pos + d.2)).heap.size := by rw [Lib.iterAt_size]; omega
      have HKI : Hid ((wr.iterAt w.heap.size s (pos + d.2)).heap[w.heap.size]? = some (.stringIter s (pos + d.2))) := hide (Lib.iterAt_heap wr _ _ _ _ (unhide HK))
      have hw1 : wrap64 ((pos : Int) + (d.2 : Int)) = ((pos + d.2 : Nat) : Int) := by unfold wrap64; omega
      have HPD := hide (piece_data s pos d.2)
      clear hd hk h1 h2
      go_wp2_with fail
      refine (unhide HD _ hp ((unhide HE).below hbI)).mono ?_
      rintro e w1 ⟨rfl, hb1⟩
      go_wp2_with fail
      refine (isText_any _ _).mono ?_
      rintro e w2 ⟨rfl, hb2⟩
      have hb12 : Below w.heap.size w w2 := (hbI.trans (hb1.mono hszI)).trans (hb2.mono (Nat.le_trans hszI hb1.size))
      have hbw2 := hb1.trans (hb2.mono hb1.size)
      have HTB := hide (textB_txt (s.extract pos (pos + d.2)))
      rw [unhide HPD] at HTB
      cases htb : textB (s.extract pos (pos + d.2))
      · have HN : Hid (¬ Txt s.data.toList) := hide (fun h => by
          have := (unhide HTB).2 (unhide HST h).1
          rw [htb] at this
          cases this)
        go_wp2
        go_ret2
        exact ⟨.inr ⟨unhide HN, pos, hp, rfl⟩, hb12⟩
      · have HTT : Hid (Txt (s.data.toList.take (pos + d.2))) := hide (by
          have h := txt_app (unhide HT) ((unhide HTB).1 htb)
          rwa [← List.take_add] at h)
        go_wp2
        refine ⟨⟨pos + d.2, hwe, unhide HTT, fun h => (unhide HST h).2, block_below (unhide HKI) hbw2, hb12⟩, ?_⟩
        rw [iterPos_of (block_below (unhide HKI) hbw2), iterPos_of (unhide HK)]
        omega
    · have hnx := fun ty => Lib.run_next_end_at (P := Tryz.prog) wr w.heap.size s pos ty hk hp
      have HA : Hid (Txt s.data.toList) := by
        rw [List.take_of_length_le (show s.data.toList.length ≤ pos by show s.size ≤ pos; omega)] at h1
        exact hide h1
      clear hk h1 h2
      go_wp2
      go_ret2
      exact ⟨.inl ⟨unhide HA, rfl⟩, hbr⟩
end Go.Proofs.YtefjfjieoiegnaaGreatDoor
/- Walks with one label, and regions over a class of worlds. -/
namespace Go.Proofs.YtefjfjieoiegnaaGreatDoor
open Go.RowKit
/-- As Q; by a goto: J of its label. -/
def jumps (J : Nat → Act → World → Prop) (Q : Exit → Act → World → Prop) : Exit → Act → World → Prop
  | .goto l, a, w => J l a w
  | e, a, w => Q e a w
section
variable {P : Program} {a : Act} {w : World} {Q : Exit → Act → World → Prop} {J : Nat → Act → World → Prop}
theorem jumps_normal : jumps J Q .normal a w = Q .normal a w := rfl
theorem jumps_exit (id : Nat) : jumps J Q (.exit id) a w = Q (.exit id) a w := rfl
theorem jumps_ret : jumps J Q .ret a w = Q .ret a w := rfl
theorem jumps_goto (l : Nat) : jumps J Q (.goto l) a w = J l a w := rfl
theorem jumps_panic (ch : List PanicEntry) : jumps J Q (.panic ch) a w = Q (.panic ch) a w := rfl
theorem jumps_mono {J J' : Nat → Act → World → Prop} (h : ∀ l a w, J l a w → J' l a w) (e : Exit) (a : Act) (w : World) (hq : jumps J Q e a w) : jumps J' Q e a w := by
  cases e with
  | goto l => exact h l a w hq
  | _ => exact hq
/-- Two labels: from one the run ends; to the other it comes back with less to do. -/
theorem wp_scope_next {c rest0 rest1 : Code} (l0 l1 : Nat) (Inv : Nat → Act → World → Prop) (hf0 : findLabel c l0 = some rest0) (hf1 : findLabel c l1 = some (Code.skip.seq rest1))
    (round' : ∀ n a w, Inv n a w → rest1.wp P (jumps (fun l a' w' => l = l0 ∧ rest0.wp P (jumps (fun _ _ _ => False) Q) a' w' ∨ l = l1 ∧ ∃ n', n' < n ∧ Inv n' a' w') Q) a w)
    (first : (∀ n a w, Inv n a w → rest1.wp P (jumps (fun l a' w' => l = l0 ∧ rest0.wp P (jumps (fun _ _ _ => False) Q) a' w' ∨ l = l1 ∧ ∃ n', Inv n' a' w') Q) a w) → c.wp P (jumps (fun l a' w' => l = l0 ∧ rest0.wp P (jumps (fun _ _ _ => False) Q) a' w' ∨ l = l1 ∧ ∃ n', Inv n' a' w') Q) a w) : (Code.scope c).wp P Q a w := by
  have round := fun n a w hI => wp_seq (wp_skip (round' n a w hI))
  have hfirst := first fun n a w hI => Code.wp_mono (fun e a w hq => jumps_mono (fun l a w h => by
    rcases h with h | ⟨h1, n', _, h3⟩
    · exact .inl h
    · exact .inr ⟨h1, n', h3⟩) e a w hq) (round' n a w hI)
  intro b k cs
  have key0 : ∀ a w, rest0.wp P (jumps (fun _ _ _ => False) Q) a w → ∃ e a' w', Q e a' w' ∧ Arrives P (lone (b.at a (.code rest0 :: .inScope c :: k)) cs w) b k cs e a' w' := by
    intro a w h
    obtain ⟨e, a₁, w₁, hq, harr⟩ := h b (.inScope c :: k) cs
    cases e with
    | normal => exact ⟨.normal, a₁, w₁, hq, Steps.trans harr (.one step_inScope)⟩
    | exit id => exact ⟨.exit id, a₁, w₁, hq, fun k' hk => harr k' (by simp [exitTo, hk])⟩
    | goto l' => exact hq.elim
    | ret => exact ⟨_, a₁, w₁, hq, harr⟩
    | panic ch => exact ⟨_, a₁, w₁, hq, harr⟩
    | outgrown => exact ⟨_, a₁, w₁, hq, harr⟩
  have key1 : ∀ n a w, Inv n a w → ∃ e a' w', Q e a' w' ∧ Arrives P (lone (b.at a (.code (Code.skip.seq rest1) :: .inScope c :: k)) cs w) b k cs e a' w' := by
    intro n
    induction n using Nat.strongRecOn with
    | _ n ih =>
      intro a w hI
      obtain ⟨e, a₁, w₁, hq, harr⟩ := round n a w hI b (.inScope c :: k) cs
      cases e with
      | normal => exact ⟨.normal, a₁, w₁, hq, Steps.trans harr (.one step_inScope)⟩
      | exit id => exact ⟨.exit id, a₁, w₁, hq, fun k' hk => harr k' (by simp [exitTo, hk])⟩
      | goto l' =>
        rcases hq with ⟨rfl, hq⟩ | ⟨rfl, n', hlt, hI'⟩
        · obtain ⟨e₂, a₂, w₂, hq₂, harr₂⟩ := key0 a₁ w₁ hq
          exact ⟨e₂, a₂, w₂, hq₂, .of_steps (harr _ (by simp [gotoIn, hf0])) harr₂⟩
        · obtain ⟨e₂, a₂, w₂, hq₂, harr₂⟩ := ih n' hlt a₁ w₁ hI'
          exact ⟨e₂, a₂, w₂, hq₂, .of_steps (harr _ (by simp [gotoIn, hf1])) harr₂⟩
      | ret => exact ⟨_, a₁, w₁, hq, harr⟩
      | panic ch => exact ⟨_, a₁, w₁, hq, harr⟩
      | outgrown => exact ⟨_, a₁, w₁, hq, harr⟩
  obtain ⟨e, a₁, w₁, hq, harr⟩ := hfirst b (.inScope c :: k) cs
  cases e with
  | normal => exact ⟨.normal, a₁, w₁, hq, .head step_scope (Steps.trans harr (.one step_inScope))⟩
  | exit id => exact ⟨.exit id, a₁, w₁, hq, fun k' hk => .head step_scope (harr k' (by simp [exitTo, hk]))⟩
  | goto l' =>
    rcases hq with ⟨rfl, hq⟩ | ⟨rfl, n', hI'⟩
    · obtain ⟨e₂, a₂, w₂, hq₂, harr₂⟩ := key0 a₁ w₁ hq
      exact ⟨e₂, a₂, w₂, hq₂, .of_steps (.head step_scope (harr _ (by simp [gotoIn, hf0]))) harr₂⟩
    · obtain ⟨e₂, a₂, w₂, hq₂, harr₂⟩ := key1 n' a₁ w₁ hI'
      exact ⟨e₂, a₂, w₂, hq₂, .of_steps (.head step_scope (harr _ (by simp [gotoIn, hf1]))) harr₂⟩
  | ret => exact ⟨_, a₁, w₁, hq, .of_steps (.one step_scope) harr⟩
  | panic ch => exact ⟨_, a₁, w₁, hq, .of_steps (.one step_scope) harr⟩
  | outgrown => exact ⟨_, a₁, w₁, hq, .of_steps (.one step_scope) harr⟩
end
attribute [local go_sem] jumps_normal jumps_exit jumps_ret jumps_goto jumps_panic
section
variable {P : Program} {a : Act} {w : World} {Q : Exit → Act → World → Prop}
/-- One label, to which the run comes back with less to do. -/
theorem wp_scope_one {c rest1 : Code} (l1 : Nat) (Inv : Nat → Act → World → Prop) (hf1 : findLabel c l1 = some (Code.skip.seq rest1))
    (round' : ∀ n a w, Inv n a w → rest1.wp P (jumps (fun l a' w' => l = l1 ∧ ∃ n', n' < n ∧ Inv n' a' w') Q) a w)
    (first : (∀ n a w, Inv n a w → rest1.wp P (jumps (fun l a' w' => l = l1 ∧ ∃ n', Inv n' a' w') Q) a w) → c.wp P (jumps (fun l a' w' => l = l1 ∧ ∃ n', Inv n' a' w') Q) a w) : (Code.scope c).wp P Q a w := by
  have round := fun n a w hI => wp_seq (wp_skip (round' n a w hI))
  have hfirst := first fun n a w hI => Code.wp_mono (fun e a w hq => jumps_mono (fun l a w h => ⟨h.1, h.2.choose, h.2.choose_spec.2⟩) e a w hq) (round' n a w hI)
  intro b k cs
  have key1 : ∀ n a w, Inv n a w → ∃ e a' w', Q e a' w' ∧ Arrives P (lone (b.at a (.code (Code.skip.seq rest1) :: .inScope c :: k)) cs w) b k cs e a' w' := by
    intro n
    induction n using Nat.strongRecOn with
    | _ n ih =>
      intro a w hI
      obtain ⟨e, a₁, w₁, hq, harr⟩ := round n a w hI b (.inScope c :: k) cs
      cases e with
      | normal => exact ⟨.normal, a₁, w₁, hq, Steps.trans harr (.one step_inScope)⟩
      | exit id => exact ⟨.exit id, a₁, w₁, hq, fun k' hk => harr k' (by simp [exitTo, hk])⟩
      | goto l' =>
        obtain ⟨rfl, n', hlt, hI'⟩ := hq
        obtain ⟨e₂, a₂, w₂, hq₂, harr₂⟩ := ih n' hlt a₁ w₁ hI'
        exact ⟨e₂, a₂, w₂, hq₂, .of_steps (harr _ (by simp [gotoIn, hf1])) harr₂⟩
      | ret => exact ⟨_, a₁, w₁, hq, harr⟩
      | panic ch => exact ⟨_, a₁, w₁, hq, harr⟩
      | outgrown => exact ⟨_, a₁, w₁, hq, harr⟩
  obtain ⟨e, a₁, w₁, hq, harr⟩ := hfirst b (.inScope c :: k) cs
  cases e with
  | normal => exact ⟨.normal, a₁, w₁, hq, .head step_scope (Steps.trans harr (.one step_inScope))⟩
  | exit id => exact ⟨.exit id, a₁, w₁, hq, fun k' hk => .head step_scope (harr k' (by simp [exitTo, hk]))⟩
  | goto l' =>
    obtain ⟨rfl, n', hI'⟩ := hq
    obtain ⟨e₂, a₂, w₂, hq₂, harr₂⟩ := key1 n' a₁ w₁ hI'
    exact ⟨e₂, a₂, w₂, hq₂, .of_steps (.head step_scope (harr _ (by simp [gotoIn, hf1]))) harr₂⟩
  | ret => exact ⟨_, a₁, w₁, hq, .of_steps (.one step_scope) harr⟩
  | panic ch => exact ⟨_, a₁, w₁, hq, .of_steps (.one step_scope) harr⟩
  | outgrown => exact ⟨_, a₁, w₁, hq, .of_steps (.one step_scope) harr⟩
end
theorem wp_region_cls {P : Program} {id : Nat} {Q : Exit → Act → World → Prop} {a : Act} {w : World} {l : List Oper} (C : World → Prop) (hm : P.follows .mixedOrders = true) (hB : Region.lexB .any l.toArray = true) (hC : C w.drew)
    (h : wpQuiet P l.toArray C (fun a' => ∀ w', C w' → Q .normal a' w') l a) : (Code.region id l.toArray true).wp P Q a w :=
  wp_region_quiet (C := C) hm hB hC (by simpa using h)
/-- Worlds behind one. -/
structure ClsW (W0 : World) (u : World) : Prop where
  bel : Below W0.heap.size W0 u
theorem arr_of {t : Array Value} {n : Nat} (h : t.size = n) : t = ((List.range n).map fun i => t[i]!).toArray := by
  apply Array.ext
  · simp [h]
  · intro i h1 h2
    simp [h1]
end Go.Proofs.YtefjfjieoiegnaaGreatDoor
