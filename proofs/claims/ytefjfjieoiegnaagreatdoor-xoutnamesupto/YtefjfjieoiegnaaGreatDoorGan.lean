/- Several texts, laid as one. -/
import Derived.Test.YtefjfjieoiegnaaGreatDoorXmlFold
import Derived.Test.YtefjfjieoiegnaaGreatDoorGal
import Derived.Test.YtefjfjieoiegnaaGreatDoorGai
import Derived.Test.YtefjfjieoiegnaaGreatDoorShelf
import Derived.Test.YtefjfjieoiegnaaGreatDoorGaa
import Derived.Shelf.Strings.BuilderK
/- Comments and processing instructions: xmlscan's comment, instruction, and what tells them. -/
namespace Go.Proofs.YtefjfjieoiegnaaGreatDoor
open Go.RowKit
theorem comment_eq (s : RS) : s.comment = match (s.take [60, 33, 45, 45]).takeTo [45, 45] with | none => none | some (t, s1) => if heads 62 s1.rest then some (t, s1.adv 1) else none := rfl
theorem Adv.comment {s s' : RS} {x : List Nat} (h : s.comment = some (x, s')) : Adv s s' := by
  rw [comment_eq] at h
  cases ht : (s.take [60, 33, 45, 45]).takeTo [45, 45] with
  | none => rw [ht] at h; cases h
  | some xs =>
    rw [ht] at h
    simp only at h
    split at h
    · cases h
      exact (Adv.take s _).then ((Adv.takeTo ht).1.then (Adv.by _ 1))
    · cases h
theorem instruction_eq (s : RS) : s.instruction = if !isTarget (nameA (s.take [60, 63]).rest) then none else
  if (s.take [60, 63]).name.sees [63, 62] then some (nameA (s.take [60, 63]).rest, [], (s.take [60, 63]).name.adv 2) else
  if !(s.take [60, 63]).name.blank then none else
  ((s.take [60, 63]).name.blanks.takeTo [63, 62]).map fun x => (nameA (s.take [60, 63]).rest, x.1, x.2) := rfl
theorem Adv.instruction {s s' : RS} {n x : List Nat} (h : s.instruction = some (n, x, s')) : Adv s s' ∧ n = nameA (s.take [60, 63]).rest := by
  rw [instruction_eq] at h
  split at h
  · cases h
  · split at h
    · cases h
      exact ⟨(Adv.take s _).then ((Adv.name _).then (Adv.by _ 2)), rfl⟩
    · split at h
      · cases h
      · cases ht : (s.take [60, 63]).name.blanks.takeTo [63, 62] with
        | none => rw [ht] at h; cases h
        | some xs =>
          rw [ht] at h
          cases h
          exact ⟨(Adv.take s _).then ((Adv.name _).then ((Adv.blanks _).then (Adv.takeTo ht).1)), rfl⟩
end Go.Proofs.YtefjfjieoiegnaaGreatDoor
/- Tokens in bytes, as they may be handed in, and whether one may stand in a document: xmlscan's isQName, isComment, isInstruction, isTarget. -/
namespace Go.Proofs.YtefjfjieoiegnaaGreatDoor
open Go.RowKit
structure BTok where
  kind : Int
  name : ByteArray
  attrs : List (ByteArray × ByteArray)
  text : ByteArray
/-- Pairs in memory: a row that was handed in, or one of one's own. -/
def PairsArg (w : World) (v : Value) (l : List (ByteArray × ByteArray)) : Prop := ∃ a cap, v = .slice a l.length cap ∧ (l ≠ [] → ∃ g o, a = some ⟨g, o, none⟩ ∧
  ∀ i x, l[i]? = some x → w.cell? ⟨g, o + i * 2, none⟩ = some (.string x.1) ∧ w.cell? ⟨g, o + i * 2 + 1, none⟩ = some (.string x.2))
structure TokArg (w : World) (g o : Nat) (t : BTok) : Prop where
  k : w.cell? ⟨g, o, none⟩ = some (.int .i64 t.kind)
  n : w.cell? ⟨g, o + 1, none⟩ = some (.string t.name)
  a : ∃ v, w.cell? ⟨g, o + 2, none⟩ = some v ∧ PairsArg w v t.attrs
  x : w.cell? ⟨g, o + 3, none⟩ = some (.string t.text)
def ToksArg (w : World) (a : Option Addr) (ts : List BTok) : Prop := ts ≠ [] → ∃ g o, a = some ⟨g, o, none⟩ ∧ ∀ i t, ts[i]? = some t → TokArg w g (o + i * 4) t
theorem PairsArg.below {w w' : World} {v : Value} {l : List (ByteArray × ByteArray)} (h : PairsArg w v l) (hb : Below w.heap.size w w') : PairsArg w' v l := by
  obtain ⟨a, cap, h1, h2⟩ := h
  refine ⟨a, cap, h1, fun hl => ?_⟩
  obtain ⟨g, o, h3, h4⟩ := h2 hl
  exact ⟨g, o, h3, fun i x hx => ⟨keptC hb (h4 i x hx).1, keptC hb (h4 i x hx).2⟩⟩
theorem TokArg.below {w w' : World} {g o : Nat} {t : BTok} (h : TokArg w g o t) (hb : Below w.heap.size w w') : TokArg w' g o t := by
  obtain ⟨h1, h2, ⟨v, h3, h4⟩, h5⟩ := h
  exact ⟨keptC hb h1, keptC hb h2, ⟨v, keptC hb h3, h4.below hb⟩, keptC hb h5⟩
theorem ToksArg.below {w w' : World} {a : Option Addr} {ts : List BTok} (h : ToksArg w a ts) (hb : Below w.heap.size w w') : ToksArg w' a ts := fun hl => by
  obtain ⟨g, o, h1, h2⟩ := h hl
  exact ⟨g, o, h1, fun i t ht => (h2 i t ht).below hb⟩
def qB (s : ByteArray) : Bool := splitB s.data.toList
def lowB (s : ByteArray) : Bool := s.data.toList.map (fun b => lowC b.toNat) == [120, 109, 108]
def tarB (s : ByteArray) : Bool := nameB s && !lowB s
def comB (s : ByteArray) : Bool := textB s && (!Lib.contains s.data.toList [45, 45] && !Lib.hasSuffix s.data.toList [45])
def insB (s : ByteArray) : Bool := textB s && (!Lib.contains s.data.toList [63, 62] && ((Lib.trimLeftF blankN s).toList == s.toList))
theorem nameB_txt {s : ByteArray} (h : nameB s = true) : ∃ l, okL l ∧ s = T l := by
  have h1 : textB s = true := by
    rw [textB_eq]
    rw [nameB_eq] at h
    simp only [Bool.and_eq_true] at h
    exact h.1.1
  exact txt_T ((textB_txt s).1 h1)
theorem low_tx {l : List Nat} (h : okL l) : ((tx l).map (fun b => lowC b.toNat) == [120, 109, 108]) = (l.map lowC == [120, 109, 108]) := by
  by_cases hh : ∃ c ∈ l, 128 ≤ c
  · obtain ⟨c, hc, h128⟩ := hh
    have e1 : (l.map lowC == [120, 109, 108]) = false := by
      apply beq_eq_false_iff_ne.2
      intro hx
      have h1 : lowC c ∈ l.map lowC := List.mem_map.2 ⟨c, hc, rfl⟩
      rw [hx] at h1
      have h2 : lowC c = c := by unfold lowC; rw [if_neg (by omega)]
      rw [h2] at h1
      simp at h1
      omega
    have e2 : ((tx l).map (fun b => lowC b.toNat) == [120, 109, 108]) = false := by
      apply beq_eq_false_iff_ne.2
      intro hx
      obtain ⟨b, hb⟩ : ∃ b, b ∈ runeB c := by
        have := runeB_pos (h c hc)
        cases hr : runeB c with
        | nil => rw [hr] at this; simp at this
        | cons b t => exact ⟨b, by simp⟩
      have hb1 := runeB_high (charR_ok (h c hc)) h128 b hb
      have hb2 : b ∈ tx l := List.mem_flatMap.2 ⟨c, hc, hb⟩
      have h1 : lowC b.toNat ∈ (tx l).map (fun b => lowC b.toNat) := List.mem_map.2 ⟨b, hb2, rfl⟩
      rw [hx] at h1
      have h2 : lowC b.toNat = b.toNat := by unfold lowC; rw [if_neg (by omega)]
      rw [h2] at h1
      simp at h1
      omega
    rw [e1, e2]
  · have ha : ∀ c ∈ l, c < 128 := fun c hc => by
      by_cases h : c < 128
      · exact h
      · exact absurd ⟨c, hc, by omega⟩ hh
    rw [sign_len_tx ha, List.map_map]
    have : l.map ((fun b : UInt8 => lowC b.toNat) ∘ UInt8.ofNat) = l.map lowC := List.map_congr_left fun c hc => by
      show lowC (UInt8.ofNat c).toNat = lowC c
      rw [asc_toNat (ha c hc)]
    rw [this]
set_option maxHeartbeats 1000000 in
theorem isQName_any (s : ByteArray) (w : World) (hs : s.size ≤ 1048576) (hE : Env w) :
    Calls Tryz.prog 169 #[.string s] w fun e w' => e = .returned (.bool (qB s)) ∧ Below w.heap.size w w' := by
  obtain ⟨p, n, hv⟩ := splitV_cases s.data.toList
  have HV := hide hv
  have HS := hide (split_any s w (by omega) hE)
  clear hv hE
  go_enter Tryz.func169, Tryz.ntmps169
  go_wp2_with fail
  refine (unhide HS).mono ?_
  rintro e w1 ⟨rfl, hb1⟩
  rw [unhide HV]
  go_wp2
  go_ret
  exact ⟨rfl, hb1⟩
set_option maxHeartbeats 1000000 in
theorem isTargetB_any (s : ByteArray) (w : World) (hs : s.size ≤ 1048576) (B : Nat) (hB : B ≤ w.heap.size) (hE : XEnv B w) :
    Calls Tryz.prog 135 #[.string s] w fun e w' => e = .returned (.bool (tarB s)) ∧ Below w.heap.size w w' := by
  have HE := hide hE
  have HN := hide (isName_any s w (by unfold maxLen; omega) hE.env)
  have HD : Hid (tarB s = (nameB s && !lowB s)) := hide rfl
  cases hn : nameB s
  · rw [hn] at HN HD
    clear hE hn
    go_enter Tryz.func135, Tryz.ntmps135
    go_wp2_with (go_at_call 157; refine (unhide HN).mono ?_; rintro e w1 ⟨rfl, hb1⟩)
    go_ret
    exact ⟨ret_bool (by rw [unhide HD]; rfl), hb1⟩
  · obtain ⟨l, hl, hT⟩ := nameB_txt hn
    rw [hn] at HN HD
    have HL : Hid (lowB s = (l.map lowC == [120, 109, 108])) := hide (by unfold lowB; rw [hT, T_data, low_tx hl])
    have HF : Hid (∀ W, XEnv B W → B ≤ W.heap.size → Calls Tryz.prog 158 #[.string s, .string ⟨#[120, 109, 108]⟩] W fun e w' => e = .returned (.bool (l.map lowC == [120, 109, 108])) ∧ Below W.heap.size W w') := hide fun W hW hBW => by
      rw [hT] at hs ⊢
      exact foldXml_big l W hl hs B hW hBW
    clear hE hn hT
    go_enter Tryz.func135, Tryz.ntmps135
    go_wp2_with (first | (go_at_call 157; refine (unhide HN).mono ?_; rintro e w1 ⟨rfl, hb1⟩) | (go_at_call 158; refine (unhide HF _ ((unhide HE).on hB hb1) (Nat.le_trans hB hb1.size)).mono ?_; rintro e w2 ⟨rfl, hb2⟩))
    go_ret
    exact ⟨ret_bool (by rw [unhide HD, unhide HL, Bool.true_and]), Below.then hb1 hb2⟩
set_option maxHeartbeats 1000000 in
theorem isComment_any (s : ByteArray) (w : World) (hs : s.size ≤ 1048576) (B : Nat) (hB : B ≤ w.heap.size) (hE : XEnv B w) :
    Calls Tryz.prog 171 #[.string s] w fun e w' => e = .returned (.bool (comB s)) ∧ Below w.heap.size w w' := by
  have HE := hide hE
  have HT := hide (isText_any s w)
  have HX := hide (fun W => Tryz.strings_HasSuffix s ⟨#[45]⟩ W (by omega))
  have HD : Hid (comB s = (textB s && (!Lib.contains s.data.toList [45, 45] && !Lib.hasSuffix s.data.toList [45]))) := hide rfl
  have hcd : ∃ b, Lib.contains s.data.toList (⟨#[45, 45]⟩ : ByteArray).data.toList = b := ⟨_, rfl⟩
  obtain ⟨b, hc⟩ := hcd
  have HC := hide hc
  have HD2 : Hid (comB s = (textB s && (!b && !Lib.hasSuffix s.data.toList [45]))) := hide (by rw [← hc]; rfl)
  clear hE hc HD
  go_enter Tryz.func171, Tryz.ntmps171
  go_wp2_with fail
  refine (unhide HT).mono ?_
  rintro e w1 ⟨rfl, hb1⟩
  obtain ⟨m, hm⟩ := ((unhide HE).on hB hb1).env.1
  have HM := hide hm
  clear hm
  cases ht : textB s
  · rw [ht] at HD2
    clear ht
    go_wp2
    go_ret
    exact ⟨ret_bool (by rw [unhide HD2]; rfl), hb1⟩
  · rw [ht] at HD2
    clear ht
    go_wp2_with fail
    refine (Tryz.strings_Contains s ⟨#[45, 45]⟩ m _ (by omega) (unhide HM)).mono ?_
    rintro e w2 ⟨rfl, rfl⟩
    rw [unhide HC]
    cases b
    · go_wp2_with fail
      refine (unhide HX _).mono ?_
      rintro e w2 ⟨rfl, rfl⟩
      go_wp2
      go_ret
      exact ⟨ret_bool (by rw [unhide HD2]; rfl), hb1⟩
    · go_wp2
      go_ret
      exact ⟨ret_bool (by rw [unhide HD2]; rfl), hb1⟩
set_option maxHeartbeats 1000000 in
theorem isInstruction_any (s : ByteArray) (w : World) (hs : s.size ≤ 1048576) (B : Nat) (hB : B ≤ w.heap.size) (hE : XEnv B w) :
    Calls Tryz.prog 172 #[.string s] w fun e w' => e = .returned (.bool (insB s)) ∧ Below w.heap.size w w' := by
  have HE := hide hE
  have HT := hide (isText_any s w)
  have HX := hide (fun W => Tryz.strings_TrimLeftFunc_runes 96 #[] isBlank_enters blankN s W (isBlank_runes _))
  have hcd : ∃ b, Lib.contains s.data.toList (⟨#[63, 62]⟩ : ByteArray).data.toList = b := ⟨_, rfl⟩
  obtain ⟨b, hc⟩ := hcd
  have HC := hide hc
  have HD2 : Hid (insB s = (textB s && (!b && ((Lib.trimLeftF blankN s).toList == s.toList)))) := hide (by rw [← hc]; rfl)
  clear hE hc
  go_enter Tryz.func172, Tryz.ntmps172
  go_wp2_with fail
  refine (unhide HT).mono ?_
  rintro e w1 ⟨rfl, hb1⟩
  obtain ⟨m, hm⟩ := ((unhide HE).on hB hb1).env.1
  have HM := hide hm
  clear hm
  cases ht : textB s
  · rw [ht] at HD2
    clear ht
    go_wp2
    go_ret
    exact ⟨ret_bool (by rw [unhide HD2]; rfl), hb1⟩
  · rw [ht] at HD2
    clear ht
    go_wp2_with fail
    refine (Tryz.strings_Contains s ⟨#[63, 62]⟩ m _ (by omega) (unhide HM)).mono ?_
    rintro e w2 ⟨rfl, rfl⟩
    rw [unhide HC]
    cases b
    · go_wp2_with fail
      refine (unhide HX _).mono ?_
      rintro e w2 ⟨rfl, hb2⟩
      generalize Lib.trimLeftF blankN s = u at *
      go_wp2
      go_ret
      exact ⟨ret_bool (by rw [unhide HD2]; rfl), Below.then hb1 hb2⟩
    · go_wp2
      go_ret
      exact ⟨ret_bool (by rw [unhide HD2]; rfl), hb1⟩
end Go.Proofs.YtefjfjieoiegnaaGreatDoor
/- strings.Builder where the dump's copyCheck has lost its panic: copyCheck and WriteString. -/
namespace Go.Proofs.YtefjfjieoiegnaaGreatDoor
open Go.RowKit Go.Shelf
set_option maxRecDepth 100000 in
theorem bld_used (b : Nat) (w : World) (h0 : w.cell? ⟨b, 0, none⟩ = some (.pointer (some ⟨b, 0, none⟩))) :
    Calls Tryz.prog 112 #[.pointer (some ⟨b, 0, none⟩)] w fun e w' => e = .returned (.tuple #[]) ∧ w' = w := by
  obtain ⟨j, hj, _⟩ := Option.map_eq_some_iff.1 (show (Tryz.prog.info? 50).map (·.size) = some 2 by kernel_rfl)
  go_enter Tryz.func112, Tryz.ntmps112
  go_wp2
  rw [Lib.run_neq_ptr_same w _ Tryz.underlying47 hj]
  go_wp2
  go_end0
  exact ⟨rfl, rfl⟩
set_option maxRecDepth 100000 in
theorem bld_fresh (b : Nat) (w : World) (h0 : w.cell? ⟨b, 0, none⟩ = some (.pointer none)) (hsh : w.shape? b = some (50, 2)) (hfz : w.frozen? ⟨b, 0, none⟩ = false) :
    Calls Tryz.prog 112 #[.pointer (some ⟨b, 0, none⟩)] w fun e w' => e = .returned (.tuple #[]) ∧ w' = w.setCell ⟨b, 0, none⟩ (.pointer (some ⟨b, 0, none⟩)) := by
  obtain ⟨j, hj, hjs⟩ := Option.map_eq_some_iff.1 (show (Tryz.prog.info? 50).map (·.size) = some 2 by kernel_rfl)
  go_enter Tryz.func112, Tryz.ntmps112
  go_wp2
  rw [Lib.run_to_unsafe w ⟨b, 0, none⟩ Tryz.underlying47 Tryz.underlying142 hj (by rw [hjs]; decide) hsh (Nat.zero_lt_succ 1)]
  simp only [Result.andThen]
  rw [Oper.upon_value]
  go_wp2
  rw [run_callFunc_extern Tryz.func142 (by kernel_rfl) (by kernel_rfl) (by kernel_rfl) (e := Extern.AbiNoEscape.same) (by kernel_rfl)]
  rw [Lib.run_noEscape]
  simp only [Result.andThen]
  rw [Oper.upon_value]
  go_wp2
  rw [Lib.run_from_unsafe w ⟨b, 0, none⟩ Tryz.underlying142 Tryz.underlying47 hj hsh (by kernel_rfl)]
  simp only [Result.andThen]
  rw [Oper.upon_value]
  go_wp2
  go_end0
  exact ⟨rfl, rfl⟩
/-- A builder, whether it was written or not. -/
abbrev IsB (B b : Nat) (bs : List Value) (w : World) : Prop := Lib.IsBuilderF 50 5 B b bs w
abbrev KeptB (b : Nat) (w w' : World) : Prop := Lib.OthersKept 5 (some b) w w'
theorem copyCheck_any (B b : Nat) (bs : List Value) (w : World) (h : IsB B b bs w) :
    Calls Tryz.prog 112 #[.pointer (some ⟨b, 0, none⟩)] w fun e w' => e = .returned (.tuple #[]) ∧ Lib.BuilderAtF 50 5 B b (.pointer (some ⟨b, 0, none⟩)) bs w' ∧ Below B w w' ∧ KeptB b w w' := by
  rcases h with h | h
  · refine (bld_fresh b w h.cell0 h.shape h.frozen0).mono ?_
    rintro e w' ⟨rfl, rfl⟩
    exact ⟨rfl, h.used _, (Below.refl B w).setCell (p := ⟨b, 0, none⟩) h.1 _, (Lib.OthersKept.refl _ _ w).setCell ⟨b, 0, none⟩ rfl _⟩
  · refine (bld_used b w h.cell0).mono ?_
    rintro e w' ⟨rfl, rfl⟩
    exact ⟨rfl, h, Below.refl B _, Lib.OthersKept.refl _ _ _⟩
set_option maxHeartbeats 2000000 in
set_option maxRecDepth 100000 in
theorem writeString_any (B b : Nat) (bs : List Value) (s : ByteArray) (w : World) (h : IsB B b bs w) (hlen : bs.length + s.size ≤ 140737488355328) (hBw : B ≤ w.heap.size) :
    Calls Tryz.prog 69 #[.pointer (some ⟨b, 0, none⟩), .string s] w fun e w' => e = .returned (.tuple #[.int .i64 s.size, .nilIface]) ∧ IsB B b (bs ++ Lib.strCells s) w' ∧ Below B w w' ∧ KeptB b w w' := by
  obtain ⟨i0, hi, hz0, hz1, hz2⟩ := info_parts Tryz.Builder_Extra_169.infoByte
  have HC := hide (copyCheck_any B b bs w h)
  clear h
  go_enter Tryz.func69, Tryz.ntmps69
  go_wp2_with fail
  refine (unhide HC).mono ?_
  rintro e w1 ⟨rfl, h1, hb1, hk1⟩
  obtain ⟨hB, v, hbk, hown, hne⟩ := h1
  have c0 : w1.cell? ⟨b, 0, none⟩ = some (.pointer (some ⟨b, 0, none⟩)) := by rw [Lib.cell_of_heap hbk]; rfl
  have c1 : w1.cell? ⟨b, 1, none⟩ = some v := by rw [Lib.cell_of_heap hbk]; rfl
  go_wp2_with (at_builtin; refine Lib.wpList_append_own_stringF _ rfl _ _ 48 9 rfl B 5 i0 Tryz.underlying48 Tryz.underlying9 hi hz0 hz1 hz2 _ _ _ rfl hown s rfl ?c3 ?c4 ?c5 ?_)
  case c3 => unfold maxLen; omega
  case c4 => omega
  case c5 => have := hb1.size; omega
  intro v' w2 hown' hgrow _
  have hlt : b < w1.heap.size := (Array.getElem?_eq_some_iff.1 hbk).1
  have hb2 : w2.heap[b]? = some (.cells #[.pointer (some ⟨b, 0, none⟩), v] 50 (0, 0)) := by
    rw [hgrow.block b hlt (fun e => hne e.symm)]
    exact hbk
  have d0 : w2.cell? ⟨b, 0, none⟩ = some (.pointer (some ⟨b, 0, none⟩)) := by rw [Lib.cell_of_heap hb2]; rfl
  have d1 : w2.cell? ⟨b, 1, none⟩ = some v := by rw [Lib.cell_of_heap hb2]; rfl
  have f1 : w2.frozen? ⟨b, 1, none⟩ = false := Lib.frozen_of_heap hb2 1
  obtain ⟨ao, n', cap, rfl⟩ : ∃ ao n' cap, v' = .slice ao n' cap := by
    rcases hown'.2 with ⟨hv, _⟩ | ⟨g, cap, cur, fz, hv, _⟩
    · exact ⟨_, _, _, hv⟩
    · exact ⟨_, _, _, hv⟩
  go_wp2
  go_ret2
  refine ⟨rfl, .inr ?_, ?_, (hk1.grown hgrow (Lib.ownsRowF_kind hown)).setCell ⟨b, 1, none⟩ rfl _⟩
  · exact Lib.BuilderAtF.put (T := 50) (e := 5) hB hb2 (bs' := bs ++ Lib.strCells s) (by simpa [Lib.strCells_length] using hown') Tryz.Builder_Extra_169.neB5
  · exact (hb1.grown hgrow (by have := hb1.size; omega) (fun k hk => (hown.lt k hk).1)).setCell (p := ⟨b, 1, none⟩) hB _
end Go.Proofs.YtefjfjieoiegnaaGreatDoor
