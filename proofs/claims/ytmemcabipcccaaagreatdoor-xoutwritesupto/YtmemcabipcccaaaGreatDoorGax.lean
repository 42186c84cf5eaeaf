/- Several texts, laid as one. -/
import Derived.Test.YtmemcabipcccaaaGreatDoorGak
import Derived.Test.YtmemcabipcccaaaGreatDoorGam
import Derived.Test.YtmemcabipcccaaaGreatDoorGaj
/- The first character that may not be: xmlscan's firstBad. -/
namespace Go.Proofs.YtmemcabipcccaaaGreatDoor
open Go.RowKit
theorem textB_txt (s : ByteArray) : textB s = true ↔ Txt s.data.toList := by
  have h := fault_txt s (s.size + 1) 0 (by omega)
  unfold textB
  rw [List.drop_zero] at h
  constructor
  · intro e
    exact h.1 (by simpa [fault] using e)
  · intro e
    have := h.2 e
    simpa [fault] using this
end Go.Proofs.YtmemcabipcccaaaGreatDoor
/- Tokens in bytes, as they may be handed in, and whether one may stand in a document: xmlscan's isQName, isComment, isInstruction, isTarget. -/
namespace Go.Proofs.YtmemcabipcccaaaGreatDoor
open Go.RowKit
structure BTok where
  kind : Int
  name : ByteArray
  attrs : List (ByteArray × ByteArray)
  text : ByteArray
/-- Pairs in memory: a row that was handed in, or one of one's own. -/
def PairsArg (w : World) (v : Value) (l : List (ByteArray × ByteArray)) : Prop := ∃ a cap, v = .slice a l.length cap ∧ (l ≠ [] → ∃ g o, a = some ⟨g, o, none⟩ ∧
  ∀ i x, l[i]? = some x → w.cell? ⟨g, o + i * 2, none⟩ = some (.string x.1) ∧ w.cell? ⟨g, o + i * 2 + 1, none⟩ = some (.string x.2))
structure TokArg (w : World) (g o : Nat) (t : BTok) : Prop where
  k : w.cell? ⟨g, o, none⟩ = some (.int .i64 t.kind)
  n : w.cell? ⟨g, o + 1, none⟩ = some (.string t.name)
  a : ∃ v, w.cell? ⟨g, o + 2, none⟩ = some v ∧ PairsArg w v t.attrs
  x : w.cell? ⟨g, o + 3, none⟩ = some (.string t.text)
def ToksArg (w : World) (a : Option Addr) (ts : List BTok) : Prop := ts ≠ [] → ∃ g o, a = some ⟨g, o, none⟩ ∧ ∀ i t, ts[i]? = some t → TokArg w g (o + i * 4) t
theorem PairsArg.below {w w' : World} {v : Value} {l : List (ByteArray × ByteArray)} (h : PairsArg w v l) (hb : Below w.heap.size w w') : PairsArg w' v l := by
  obtain ⟨a, cap, h1, h2⟩ := h
  refine ⟨a, cap, h1, fun hl => ?_⟩
  obtain ⟨g, o, h3, h4⟩ := h2 hl
  exact ⟨g, o, h3, fun i x hx => ⟨keptC hb (h4 i x hx).1, keptC hb (h4 i x hx).2⟩⟩
theorem TokArg.below {w w' : World} {g o : Nat} {t : BTok} (h : TokArg w g o t) (hb : Below w.heap.size w w') : TokArg w' g o t := by
  obtain ⟨h1, h2, ⟨v, h3, h4⟩, h5⟩ := h
  exact ⟨keptC hb h1, keptC hb h2, ⟨v, keptC hb h3, h4.below hb⟩, keptC hb h5⟩
theorem ToksArg.below {w w' : World} {a : Option Addr} {ts : List BTok} (h : ToksArg w a ts) (hb : Below w.heap.size w w') : ToksArg w' a ts := fun hl => by
  obtain ⟨g, o, h1, h2⟩ := h hl
  exact ⟨g, o, h1, fun i t ht => (h2 i t ht).below hb⟩
def qB (s : ByteArray) : Bool := splitB s.data.toList
def lowB (s : ByteArray) : Bool := s.data.toList.map (fun b => lowC b.toNat) == [120, 109, 108]
def tarB (s : ByteArray) : Bool := nameB s && !lowB s
def comB (s : ByteArray) : Bool := textB s && (!Lib.contains s.data.toList [45, 45] && !Lib.hasSuffix s.data.toList [45])
def insB (s : ByteArray) : Bool := textB s && (!Lib.contains s.data.toList [63, 62] && ((Lib.trimLeftF blankN s).toList == s.toList))
theorem nameB_txt {s : ByteArray} (h : nameB s = true) : ∃ l, okL l ∧ s = T l := by
  have h1 : textB s = true := by
    rw [textB_eq]
    rw [nameB_eq] at h
    simp only [Bool.and_eq_true] at h
    exact h.1.1
  exact txt_T ((textB_txt s).1 h1)
theorem low_tx {l : List Nat} (h : okL l) : ((tx l).map (fun b => lowC b.toNat) == [120, 109, 108]) = (l.map lowC == [120, 109, 108]) := by
  by_cases hh : ∃ c ∈ l, 128 ≤ c
  · obtain ⟨c, hc, h128⟩ := hh
    have e1 : (l.map lowC == [120, 109, 108]) = false := by
      apply beq_eq_false_iff_ne.2
      intro hx
      have h1 : lowC c ∈ l.map lowC := List.mem_map.2 ⟨c, hc, rfl⟩
      rw [hx] at h1
      have h2 : lowC c = c := by unfold lowC; rw [if_neg (by omega)]
      rw [h2] at h1
      simp at h1
      omega
    have e2 : ((tx l).map (fun b => lowC b.toNat) == [120, 109, 108]) = false := by
      apply beq_eq_false_iff_ne.2
      intro hx
      obtain ⟨b, hb⟩ : ∃ b, b ∈ runeB c := by
        have := runeB_pos (h c hc)
        cases hr : runeB c with
        | nil => rw [hr] at this; simp at this
        | cons b t => exact ⟨b, by simp⟩
      have hb1 := runeB_high (charR_ok (h c hc)) h128 b hb
      have hb2 : b ∈ tx l := List.mem_flatMap.2 ⟨c, hc, hb⟩
      have h1 : lowC b.toNat ∈ (tx l).map (fun b => lowC b.toNat) := List.mem_map.2 ⟨b, hb2, rfl⟩
      rw [hx] at h1
      have h2 : lowC b.toNat = b.toNat := by unfold lowC; rw [if_neg (by omega)]
      rw [h2] at h1
      simp at h1
      omega
    rw [e1, e2]
  · have ha : ∀ c ∈ l, c < 128 := fun c hc => by
      by_cases h : c < 128
      · exact h
      · exact absurd ⟨c, hc, by omega⟩ hh
    rw [sign_len_tx ha, List.map_map]
    have : l.map ((fun b : UInt8 => lowC b.toNat) ∘ UInt8.ofNat) = l.map lowC := List.map_congr_left fun c hc => by
      show lowC (UInt8.ofNat c).toNat = lowC c
      rw [asc_toNat (ha c hc)]
    rw [this]
set_option maxHeartbeats 1000000 in
theorem isQName_any (s : ByteArray) (w : World) (hs : s.size ≤ 1048576) (hE : Env w) :
    Calls Tryz.prog 101 #[.string s] w fun e w' => e = .returned (.bool (qB s)) ∧ Below w.heap.size w w' := by
  obtain ⟨p, n, hv⟩ := splitV_cases s.data.toList
  have HV := hide hv
  have HS := hide (split_any s w (by omega) hE)
  clear hv hE
  go_enter Tryz.func101, Tryz.ntmps101
  go_wp2_with fail
  refine (unhide HS).mono ?_
  rintro e w1 ⟨rfl, hb1⟩
  rw [unhide HV]
  go_wp2
  go_ret
  exact ⟨rfl, hb1⟩
set_option maxHeartbeats 1000000 in
theorem isTargetB_any (s : ByteArray) (w : World) (hs : s.size ≤ 1048576) (B : Nat) (hB : B ≤ w.heap.size) (hE : XEnv B w) :
    Calls Tryz.prog 105 #[.string s] w fun e w' => e = .returned (.bool (tarB s)) ∧ Below w.heap.size w w' := by
  have HE := hide hE
  have HN := hide (isName_any s w (by unfold maxLen; omega) hE.env)
  have HD : Hid (tarB s = (nameB s && !lowB s)) := hide rfl
  cases hn : nameB s
  · rw [hn] at HN HD
    clear hE hn
    go_enter Tryz.func105, Tryz.ntmps105
    go_wp2_with (go_at_call 119; refine (unhide HN).mono ?_; rintro e w1 ⟨rfl, hb1⟩)
    go_ret
    exact ⟨ret_bool (by rw [unhide HD]; rfl), hb1⟩
  · obtain ⟨l, hl, hT⟩ := nameB_txt hn
    rw [hn] at HN HD
    have HL : Hid (lowB s = (l.map lowC == [120, 109, 108])) := hide (by unfold lowB; rw [hT, T_data, low_tx hl])
    have HF : Hid (∀ W, XEnv B W → B ≤ W.heap.size → Calls Tryz.prog 120 #[.string s, .string ⟨#[120, 109, 108]⟩] W fun e w' => e = .returned (.bool (l.map lowC == [120, 109, 108])) ∧ Below W.heap.size W w') := hide fun W hW hBW => by
      rw [hT] at hs ⊢
      exact foldXml_big l W hl hs B hW hBW
    clear hE hn hT
    go_enter Tryz.func105, Tryz.ntmps105
    go_wp2_with (first | (go_at_call 119; refine (unhide HN).mono ?_; rintro e w1 ⟨rfl, hb1⟩) | (go_at_call 120; refine (unhide HF _ ((unhide HE).on hB hb1) (Nat.le_trans hB hb1.size)).mono ?_; rintro e w2 ⟨rfl, hb2⟩))
    go_ret
    exact ⟨ret_bool (by rw [unhide HD, unhide HL, Bool.true_and]), Below.then hb1 hb2⟩
set_option maxHeartbeats 1000000 in
theorem isComment_any (s : ByteArray) (w : World) (hs : s.size ≤ 1048576) (B : Nat) (hB : B ≤ w.heap.size) (hE : XEnv B w) :
    Calls Tryz.prog 104 #[.string s] w fun e w' => e = .returned (.bool (comB s)) ∧ Below w.heap.size w w' := by
  have HE := hide hE
  have HT := hide (isText_any s w)
  have HX := hide (fun W => Tryz.strings_HasSuffix s ⟨#[45]⟩ W (by omega))
  have HD : Hid (comB s = (textB s && (!Lib.contains s.data.toList [45, 45] && !Lib.hasSuffix s.data.toList [45]))) := hide rfl
  have hcd : ∃ b, Lib.contains s.data.toList (⟨#[45, 45]⟩ : ByteArray).data.toList = b := ⟨_, rfl⟩
  obtain ⟨b, hc⟩ := hcd
  have HC := hide hc
  have HD2 : Hid (comB s = (textB s && (!b && !Lib.hasSuffix s.data.toList [45]))) := hide (by rw [← hc]; rfl)
  clear hE hc HD
  go_enter Tryz.func104, Tryz.ntmps104
  go_wp2_with fail
  refine (unhide HT).mono ?_
  rintro e w1 ⟨rfl, hb1⟩
  obtain ⟨m, hm⟩ := ((unhide HE).on hB hb1).env.1
  have HM := hide hm
  clear hm
  cases ht : textB s
  · rw [ht] at HD2
    clear ht
    go_wp2
    go_ret
    exact ⟨ret_bool (by rw [unhide HD2]; rfl), hb1⟩
  · rw [ht] at HD2
    clear ht
    go_wp2_with fail
    refine (Tryz.strings_Contains s ⟨#[45, 45]⟩ m _ (by omega) (unhide HM)).mono ?_
    rintro e w2 ⟨rfl, rfl⟩
    rw [unhide HC]
    cases b
    · go_wp2_with fail
      refine (unhide HX _).mono ?_
      rintro e w2 ⟨rfl, rfl⟩
      go_wp2
      go_ret
      exact ⟨ret_bool (by rw [unhide HD2]; rfl), hb1⟩
    · go_wp2
      go_ret
      exact ⟨ret_bool (by rw [unhide HD2]; rfl), hb1⟩
set_option maxHeartbeats 1000000 in
theorem isInstruction_any (s : ByteArray) (w : World) (hs : s.size ≤ 1048576) (B : Nat) (hB : B ≤ w.heap.size) (hE : XEnv B w) :
    Calls Tryz.prog 106 #[.string s] w fun e w' => e = .returned (.bool (insB s)) ∧ Below w.heap.size w w' := by
  have HE := hide hE
  have HT := hide (isText_any s w)
  have HX := hide (fun W => Tryz.strings_TrimLeftFunc_runes 122 #[] isBlank_enters blankN s W (isBlank_runes _))
  have hcd : ∃ b, Lib.contains s.data.toList (⟨#[63, 62]⟩ : ByteArray).data.toList = b := ⟨_, rfl⟩
  obtain ⟨b, hc⟩ := hcd
  have HC := hide hc
  have HD2 : Hid (insB s = (textB s && (!b && ((Lib.trimLeftF blankN s).toList == s.toList)))) := hide (by rw [← hc]; rfl)
  clear hE hc
  go_enter Tryz.func106, Tryz.ntmps106
  go_wp2_with fail
  refine (unhide HT).mono ?_
  rintro e w1 ⟨rfl, hb1⟩
  obtain ⟨m, hm⟩ := ((unhide HE).on hB hb1).env.1
  have HM := hide hm
  clear hm
  cases ht : textB s
  · rw [ht] at HD2
    clear ht
    go_wp2
    go_ret
    exact ⟨ret_bool (by rw [unhide HD2]; rfl), hb1⟩
  · rw [ht] at HD2
    clear ht
    go_wp2_with fail
    refine (Tryz.strings_Contains s ⟨#[63, 62]⟩ m _ (by omega) (unhide HM)).mono ?_
    rintro e w2 ⟨rfl, rfl⟩
    rw [unhide HC]
    cases b
    · go_wp2_with fail
      refine (unhide HX _).mono ?_
      rintro e w2 ⟨rfl, hb2⟩
      generalize Lib.trimLeftF blankN s = u at *
      go_wp2
      go_ret
      exact ⟨ret_bool (by rw [unhide HD2]; rfl), Below.then hb1 hb2⟩
    · go_wp2
      go_ret
      exact ⟨ret_bool (by rw [unhide HD2]; rfl), hb1⟩
end Go.Proofs.YtmemcabipcccaaaGreatDoor
