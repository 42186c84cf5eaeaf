/- Several texts, laid as one. -/
import Derived.Test.YtmemcabipcccaaaGreatDoorGak
import Derived.Test.YtmemcabipcccaaaGreatDoorGam
import Derived.Test.YtmemcabipcccaaaGreatDoorGaj
import Derived.Test.YtmemcabipcccaaaGreatDoorXmlEsc
import Derived.BigQuiet
/- The first character that may not be: xmlscan's firstBad. -/
namespace Go.Proofs.YtmemcabipcccaaaGreatDoor
open Go.RowKit
theorem textB_txt (s : ByteArray) : textB s = true ↔ Txt s.data.toList := by
  have h := fault_txt s (s.size + 1) 0 (by omega)
  unfold textB
  rw [List.drop_zero] at h
  constructor
  · intro e
    exact h.1 (by simpa [fault] using e)
  · intro e
    have := h.2 e
    simpa [fault] using this
end Go.Proofs.YtmemcabipcccaaaGreatDoor
/- Tokens in bytes, as they may be handed in, and whether one may stand in a document: xmlscan's isQName, isComment, isInstruction, isTarget. -/
namespace Go.Proofs.YtmemcabipcccaaaGreatDoor
open Go.RowKit
structure BTok where
  kind : Int
  name : ByteArray
  attrs : List (ByteArray × ByteArray)
  text : ByteArray
/-- Pairs in memory: a row that was handed in, or one of one's own. -/
def PairsArg (w : World) (v : Value) (l : List (ByteArray × ByteArray)) : Prop := ∃ a cap, v = .slice a l.length cap ∧ (l ≠ [] → ∃ g o, a = some ⟨g, o, none⟩ ∧
  ∀ i x, l[i]? = some x → w.cell? ⟨g, o + i * 2, none⟩ = some (.string x.1) ∧ w.cell? ⟨g, o + i * 2 + 1, none⟩ = some (.string x.2))
structure TokArg (w : World) (g o : Nat) (t : BTok) : Prop where
  k : w.cell? ⟨g, o, none⟩ = some (.int .i64 t.kind)
  n : w.cell? ⟨g, o + 1, none⟩ = some (.string t.name)
  a : ∃ v, w.cell? ⟨g, o + 2, none⟩ = some v ∧ PairsArg w v t.attrs
  x : w.cell? ⟨g, o + 3, none⟩ = some (.string t.text)
def ToksArg (w : World) (a : Option Addr) (ts : List BTok) : Prop := ts ≠ [] → ∃ g o, a = some ⟨g, o, none⟩ ∧ ∀ i t, ts[i]? = some t → TokArg w g (o + i * 4) t
theorem PairsArg.below {w w' : World} {v : Value} {l : List (ByteArray × ByteArray)} (h : PairsArg w v l) (hb : Below w.heap.size w w') : PairsArg w' v l := by
  obtain ⟨a, cap, h1, h2⟩ := h
  refine ⟨a, cap, h1, fun hl => ?_⟩
  obtain ⟨g, o, h3, h4⟩ := h2 hl
  exact ⟨g, o, h3, fun i x hx => ⟨keptC hb (h4 i x hx).1, keptC hb (h4 i x hx).2⟩⟩
theorem TokArg.below {w w' : World} {g o : Nat} {t : BTok} (h : TokArg w g o t) (hb : Below w.heap.size w w') : TokArg w' g o t := by
  obtain ⟨h1, h2, ⟨v, h3, h4⟩, h5⟩ := h
  exact ⟨keptC hb h1, keptC hb h2, ⟨v, keptC hb h3, h4.below hb⟩, keptC hb h5⟩
theorem ToksArg.below {w w' : World} {a : Option Addr} {ts : List BTok} (h : ToksArg w a ts) (hb : Below w.heap.size w w') : ToksArg w' a ts := fun hl => by
  obtain ⟨g, o, h1, h2⟩ := h hl
  exact ⟨g, o, h1, fun i t ht => (h2 i t ht).below hb⟩
def qB (s : ByteArray) : Bool := splitB s.data.toList
def lowB (s : ByteArray) : Bool := s.data.toList.map (fun b => lowC b.toNat) == [120, 109, 108]
def tarB (s : ByteArray) : Bool := nameB s && !lowB s
def comB (s : ByteArray) : Bool := textB s && (!Lib.contains s.data.toList [45, 45] && !Lib.hasSuffix s.data.toList [45])
def insB (s : ByteArray) : Bool := textB s && (!Lib.contains s.data.toList [63, 62] && ((Lib.trimLeftF blankN s).toList == s.toList))
theorem nameB_txt {s : ByteArray} (h : nameB s = true) : ∃ l, okL l ∧ s = T l := by
  have h1 : textB s = true := by
    rw [textB_eq]
    rw [nameB_eq] at h
    simp only [Bool.and_eq_true] at h
    exact h.1.1
  exact txt_T ((textB_txt s).1 h1)
theorem low_tx {l : List Nat} (h : okL l) : ((tx l).map (fun b => lowC b.toNat) == [120, 109, 108]) = (l.map lowC == [120, 109, 108]) := by
  by_cases hh : ∃ c ∈ l, 128 ≤ c
  · obtain ⟨c, hc, h128⟩ := hh
    have e1 : (l.map lowC == [120, 109, 108]) = false := by
      apply beq_eq_false_iff_ne.2
      intro hx
      have h1 : lowC c ∈ l.map lowC := List.mem_map.2 ⟨c, hc, rfl⟩
      rw [hx] at h1
      have h2 : lowC c = c := by unfold lowC; rw [if_neg (by omega)]
      rw [h2] at h1
      simp at h1
      omega
    have e2 : ((tx l).map (fun b => lowC b.toNat) == [120, 109, 108]) = false := by
      apply beq_eq_false_iff_ne.2
      intro hx
      obtain ⟨b, hb⟩ : ∃ b, b ∈ runeB c := by
        have := runeB_pos (h c hc)
        cases hr : runeB c with
        | nil => rw [hr] at this; simp at this
        | cons b t => exact ⟨b, by simp⟩
      have hb1 := runeB_high (charR_ok (h c hc)) h128 b hb
      have hb2 : b ∈ tx l := List.mem_flatMap.2 ⟨c, hc, hb⟩
      have h1 : lowC b.toNat ∈ (tx l).map (fun b => lowC b.toNat) := List.mem_map.2 ⟨b, hb2, rfl⟩
      rw [hx] at h1
      have h2 : lowC b.toNat = b.toNat := by unfold lowC; rw [if_neg (by omega)]
      rw [h2] at h1
      simp at h1
      omega
    rw [e1, e2]
  · have ha : ∀ c ∈ l, c < 128 := fun c hc => by
      by_cases h : c < 128
      · exact h
      · exact absurd ⟨c, hc, by omega⟩ hh
    rw [sign_len_tx ha, List.map_map]
    have : l.map ((fun b : UInt8 => lowC b.toNat) ∘ UInt8.ofNat) = l.map lowC := List.map_congr_left fun c hc => by
      show lowC (UInt8.ofNat c).toNat = lowC c
      rw [asc_toNat (ha c hc)]
    rw [this]
set_option maxHeartbeats 1000000 in
theorem isQName_any (s : ByteArray) (w : World) (hs : s.size ≤ 1048576) (hE : Env w) :
    Calls Tryz.prog 101 #[.string s] w fun e w' => e = .returned (.bool (qB s)) ∧ Below w.heap.size w w' := by
  obtain ⟨p, n, hv⟩ := splitV_cases s.data.toList
  have HV := hide hv
  have HS := hide (split_any s w (by omega) hE)
  clear hv hE
  go_enter Tryz.func101, Tryz.ntmps101
  go_wp2_with fail
  refine (unhide HS).mono ?_
  rintro e w1 ⟨rfl, hb1⟩
  rw [unhide HV]
  go_wp2
  go_ret
  exact ⟨rfl, hb1⟩
set_option maxHeartbeats 1000000 in
theorem isTargetB_any (s : ByteArray) (w : World) (hs : s.size ≤ 1048576) (B : Nat) (hB : B ≤ w.heap.size) (hE : XEnv B w) :
    Calls Tryz.prog 105 #[.string s] w fun e w' => e = .returned (.bool (tarB s)) ∧ Below w.heap.size w w' := by
  have HE := hide hE
  have HN := hide (isName_any s w (by unfold maxLen; omega) hE.env)
  have HD : Hid (tarB s = (nameB s && !lowB s)) := hide rfl
  cases hn : nameB s
  · rw [hn] at HN HD
    clear hE hn
    go_enter Tryz.func105, Tryz.ntmps105
    go_wp2_with (go_at_call 119; refine (unhide HN).mono ?_; rintro e w1 ⟨rfl, hb1⟩)
    go_ret
    exact ⟨ret_bool (by rw [unhide HD]; rfl), hb1⟩
  · obtain ⟨l, hl, hT⟩ := nameB_txt hn
    rw [hn] at HN HD
    have HL : Hid (lowB s = (l.map lowC == [120, 109, 108])) := hide (by unfold lowB; rw [hT, T_data, low_tx hl])
    have HF : Hid (∀ W, XEnv B W → B ≤ W.heap.size → Calls Tryz.prog 120 #[.string s, .string ⟨#[120, 109, 108]⟩] W fun e w' => e = .returned (.bool (l.map lowC == [120, 109, 108])) ∧ Below W.heap.size W w') := hide fun W hW hBW => by
      rw [hT] at hs ⊢
      exact foldXml_big l W hl hs B hW hBW
    clear hE hn hT
    go_enter Tryz.func105, Tryz.ntmps105
    go_wp2_with (first | (go_at_call 119; refine (unhide HN).mono ?_; rintro e w1 ⟨rfl, hb1⟩) | (go_at_call 120; refine (unhide HF _ ((unhide HE).on hB hb1) (Nat.le_trans hB hb1.size)).mono ?_; rintro e w2 ⟨rfl, hb2⟩))
    go_ret
    exact ⟨ret_bool (by rw [unhide HD, unhide HL, Bool.true_and]), Below.then hb1 hb2⟩
set_option maxHeartbeats 1000000 in
theorem isComment_any (s : ByteArray) (w : World) (hs : s.size ≤ 1048576) (B : Nat) (hB : B ≤ w.heap.size) (hE : XEnv B w) :
    Calls Tryz.prog 104 #[.string s] w fun e w' => e = .returned (.bool (comB s)) ∧ Below w.heap.size w w' := by
  have HE := hide hE
  have HT := hide (isText_any s w)
  have HX := hide (fun W => Tryz.strings_HasSuffix s ⟨#[45]⟩ W (by omega))
  have HD : Hid (comB s = (textB s && (!Lib.contains s.data.toList [45, 45] && !Lib.hasSuffix s.data.toList [45]))) := hide rfl
  have hcd : ∃ b, Lib.contains s.data.toList (⟨#[45, 45]⟩ : ByteArray).data.toList = b := ⟨_, rfl⟩
  obtain ⟨b, hc⟩ := hcd
  have HC := hide hc
  have HD2 : Hid (comB s = (textB s && (!b && !Lib.hasSuffix s.data.toList [45]))) := hide (by rw [← hc]; rfl)
  clear hE hc HD
  go_enter Tryz.func104, Tryz.ntmps104
  go_wp2_with fail
  refine (unhide HT).mono ?_
  rintro e w1 ⟨rfl, hb1⟩
  obtain ⟨m, hm⟩ := ((unhide HE).on hB hb1).env.1
  have HM := hide hm
  clear hm
  cases ht : textB s
  · rw [ht] at HD2
    clear ht
    go_wp2
    go_ret
    exact ⟨ret_bool (by rw [unhide HD2]; rfl), hb1⟩
  · rw [ht] at HD2
    clear ht
    go_wp2_with fail
    refine (Tryz.strings_Contains s ⟨#[45, 45]⟩ m _ (by omega) (unhide HM)).mono ?_
    rintro e w2 ⟨rfl, rfl⟩
    rw [unhide HC]
    cases b
    · go_wp2_with fail
      refine (unhide HX _).mono ?_
      rintro e w2 ⟨rfl, rfl⟩
      go_wp2
      go_ret
      exact ⟨ret_bool (by rw [unhide HD2]; rfl), hb1⟩
    · go_wp2
      go_ret
      exact ⟨ret_bool (by rw [unhide HD2]; rfl), hb1⟩
set_option maxHeartbeats 1000000 in
theorem isInstruction_any (s : ByteArray) (w : World) (hs : s.size ≤ 1048576) (B : Nat) (hB : B ≤ w.heap.size) (hE : XEnv B w) :
    Calls Tryz.prog 106 #[.string s] w fun e w' => e = .returned (.bool (insB s)) ∧ Below w.heap.size w w' := by
  have HE := hide hE
  have HT := hide (isText_any s w)
  have HX := hide (fun W => Tryz.strings_TrimLeftFunc_runes 122 #[] isBlank_enters blankN s W (isBlank_runes _))
  have hcd : ∃ b, Lib.contains s.data.toList (⟨#[63, 62]⟩ : ByteArray).data.toList = b := ⟨_, rfl⟩
  obtain ⟨b, hc⟩ := hcd
  have HC := hide hc
  have HD2 : Hid (insB s = (textB s && (!b && ((Lib.trimLeftF blankN s).toList == s.toList)))) := hide (by rw [← hc]; rfl)
  clear hE hc
  go_enter Tryz.func106, Tryz.ntmps106
  go_wp2_with fail
  refine (unhide HT).mono ?_
  rintro e w1 ⟨rfl, hb1⟩
  obtain ⟨m, hm⟩ := ((unhide HE).on hB hb1).env.1
  have HM := hide hm
  clear hm
  cases ht : textB s
  · rw [ht] at HD2
    clear ht
    go_wp2
    go_ret
    exact ⟨ret_bool (by rw [unhide HD2]; rfl), hb1⟩
  · rw [ht] at HD2
    clear ht
    go_wp2_with fail
    refine (Tryz.strings_Contains s ⟨#[63, 62]⟩ m _ (by omega) (unhide HM)).mono ?_
    rintro e w2 ⟨rfl, rfl⟩
    rw [unhide HC]
    cases b
    · go_wp2_with fail
      refine (unhide HX _).mono ?_
      rintro e w2 ⟨rfl, hb2⟩
      generalize Lib.trimLeftF blankN s = u at *
      go_wp2
      go_ret
      exact ⟨ret_bool (by rw [unhide HD2]; rfl), Below.then hb1 hb2⟩
    · go_wp2
      go_ret
      exact ⟨ret_bool (by rw [unhide HD2]; rfl), hb1⟩
end Go.Proofs.YtmemcabipcccaaaGreatDoor
/- Tokens in bytes: which are a document's, and what they are as a text. -/
namespace Go.Proofs.YtmemcabipcccaaaGreatDoor
def attrsB : List (List UInt8) → List (ByteArray × ByteArray) → Bool
  | _, [] => true
  | seen, x :: l => !seen.contains x.1.data.toList && (qB x.1 && (textB x.2 && attrsB (seen ++ [x.1.data.toList]) l))
/-- May it stand in some document? -/
def okB (t : BTok) : Bool :=
  if t.kind = 2 then t.text.toList.isEmpty && (qB t.name && attrsB [] t.attrs) else
  if t.kind = 7 then t.text.toList.isEmpty && (t.attrs.isEmpty && qB t.name) else
  if t.kind = 4 then t.name.toList.isEmpty && (t.attrs.isEmpty && (!t.text.toList.isEmpty && textB t.text)) else
  if t.kind = 5 then t.name.toList.isEmpty && (t.attrs.isEmpty && comB t.text) else
  if t.kind = 6 then t.attrs.isEmpty && (tarB t.name && insB t.text) else false
/-- What stands open behind a token, and whether there was an element; none: it may not stand there. -/
def docStp (o : List ByteArray) (r : Bool) (last : Int) (t : BTok) : Option (List ByteArray × Bool) :=
  if t.kind = 2 then (if o.isEmpty && r then none else some (o ++ [t.name], true)) else
  if t.kind = 7 then (match o.getLast? with
    | none => none
    | some x => if x.toList == t.name.toList then some (o.dropLast, r) else none) else
  if t.kind = 4 then (if o.isEmpty || last == 4 then none else some (o, r)) else some (o, r)
def docB : List ByteArray → Bool → Int → List BTok → Bool
  | o, r, _, [] => r && o.isEmpty
  | o, r, last, t :: ts => okB t && (match docStp o r last t with
    | none => false
    | some x => docB x.1 x.2 t.kind ts)
def deepGo : Int → Int → List BTok → Int
  | _, m, [] => m
  | d, m, t :: ts => if t.kind = 2 then deepGo (d + 1) (max m (d + 1)) ts else if t.kind = 7 then deepGo (d - 1) m ts else deepGo d m ts
def pastB (ts : List BTok) : Bool := decide (4096 < ts.length) || (decide (32 < deepGo 0 0 ts) || ts.any fun t => decide (64 < t.attrs.length))
def attrB (x : ByteArray × ByteArray) : List UInt8 := 32 :: (x.1.data.toList ++ 61 :: 34 :: (mapO quoO x.2.data.toList ++ [34]))
def tokB (t : BTok) : List UInt8 :=
  if t.kind = 2 then 60 :: (t.name.data.toList ++ (t.attrs.flatMap attrB ++ [62])) else
  if t.kind = 7 then 60 :: 47 :: (t.name.data.toList ++ [62]) else
  if t.kind = 4 then mapO escO t.text.data.toList else
  if t.kind = 5 then 60 :: 33 :: 45 :: 45 :: (t.text.data.toList ++ [45, 45, 62]) else
  if t.kind = 6 then 60 :: 63 :: (t.name.data.toList ++ ((if t.text.toList.isEmpty then [] else 32 :: t.text.data.toList) ++ [63, 62])) else []
def writeB (ts : List BTok) : List UInt8 := ts.flatMap tokB
/-- What Write tells: an error's number, or a text. -/
def writeR (ts : List BTok) : ByteArray × Nat :=
  if docB [] false 0 ts = false then (⟨#[]⟩, 5) else if pastB ts = true then (⟨#[]⟩, 6) else if 32768 < (writeB ts).length then (⟨#[]⟩, 6) else (⟨(writeB ts).toArray⟩, 0)
end Go.Proofs.YtmemcabipcccaaaGreatDoor
/- Whether a token may stand in some document: xmlscan's areAttributes, isToken. -/
namespace Go.Proofs.YtmemcabipcccaaaGreatDoor
open Go.RowKit
abbrev PlacesB (w : World) (b n : Nat) (D : DataW Unit) : Prop := w.ownsMap Tryz.prog 9 (plainElem Tryz.prog 3) b n D
def hasB (D : DataW Unit) (names : List (List UInt8)) : Prop := ∀ x : List UInt8, Maps.has D (.string x) = names.contains x
/-- The names that were met, in their map. -/
def NamesAt (w : World) (b : Nat) (names : List (List UInt8)) : Prop := ∃ D, PlacesB w b names.length D ∧ hasB D names
theorem str_keyB (x : List UInt8) : WideAt.IsKeyLit (.string x) := by
  first | exact trivial | simp [WideAt.IsKeyLit] | rfl
theorem NamesAt.kept {w w' : World} {b : Nat} {names : List (List UInt8)} (h : NamesAt w b names) (hk : w'.heap[b]? = w.heap[b]?) : NamesAt w' b names := by
  obtain ⟨D, ⟨es, ck, h1, h2⟩, h3⟩ := h
  exact ⟨D, ⟨es, ck, by rw [hk]; exact h1, h2⟩, h3⟩
theorem NamesAt.lt {w : World} {b : Nat} {names : List (List UInt8)} (h : NamesAt w b names) : b < w.heap.size := by
  obtain ⟨D, hD, _⟩ := h
  exact hD.lt
theorem NamesAt.on {w w' : World} {b : Nat} {names : List (List UInt8)} (h : NamesAt w b names) (hb : Below w.heap.size w w') : NamesAt w' b names := h.kept (hb.block b h.lt)
theorem NamesAt.look {w : World} {b : Nat} {names : List (List UInt8)} (h : NamesAt w b names) {n : ByteArray} (hz : n.size ≤ 1048576) : ∃ c, (Instr.lookup 129 (.map (some b)) (.string n) true).run Tryz.prog w = .ok (.tuple #[.int .i64 c, .bool (names.contains n.data.toList)]) w := by
  obtain ⟨D, hD, hh⟩ := h
  have hz0 : (zeroValue 3).run Tryz.prog w = .ok (.int .i64 0) w := by kernel_rfl
  obtain ⟨v, ps, hrun, hv⟩ := hD.look_ok (Maps.string_keyed Tryz.underlying9) Tryz.underlying129 hz0 (plainElem_int Tryz.underlying3 (by decide)) (Go.WideMaps.keyOf_string_mk Tryz.underlying9 (by unfold maxLen; omega : n.size ≤ maxLen))
  obtain ⟨c, rfl, _, _⟩ := plainElem_int_inv Tryz.underlying3 hv
  rw [hh n.data.toList] at hrun
  exact ⟨c, hrun⟩
theorem NamesAt.named {w W : World} {b : Nat} {names : List (List UInt8)} {n : List UInt8} {D d : DataW Unit} (hk : WideAt.IsKeyLit (.string n)) (hD : PlacesB w b names.length D) (hh : hasB D names) (hW : PlacesB W b (names.length + 1) (D.put (.string n) d)) : NamesAt W b (names ++ [n]) := by
  refine ⟨_, by rw [List.length_append]; exact hW, fun x => ?_⟩
  by_cases e : x = n
  · subst e
    rw [Maps.has_put_same hD.isMap hk]
    simp
  · rw [Maps.has_put_other (fun e' => e (Lit.string.inj e')), hh x]
    simp [e]
theorem attrsB_cons (seen : List (List UInt8)) (x : ByteArray × ByteArray) (l : List (ByteArray × ByteArray)) : attrsB seen (x :: l) = (!seen.contains x.1.data.toList && (qB x.1 && (textB x.2 && attrsB (seen ++ [x.1.data.toList]) l))) := rfl
theorem wf_i64b {n : Nat} (h : n ≤ 1048576) : (Lit.int .i64 (n : Nat)).wf = true := by
  have h1 : IntKind.i64.min = -9223372036854775808 := by decide
  have h2 : IntKind.i64.max = 9223372036854775807 := by decide
  simp only [Lit.wf, Bool.and_eq_true, decide_eq_true_eq]
  rw [h1, h2]
  omega
structure AreInv (w : World) (l : List (ByteArray × ByteArray)) (k : Nat) (w' : World) : Prop where
  le : k ≤ l.length
  bel : Below w.heap.size w w'
  map : NamesAt w' w.heap.size ((l.take k).map (·.1.data.toList))
  spec : attrsB [] l = attrsB ((l.take k).map (·.1.data.toList)) (l.drop k)
set_option maxRecDepth 100000 in
set_option maxHeartbeats 4000000 in
theorem areAttributes_any (l : List (ByteArray × ByteArray)) (v : Value) (w : World) (hv : PairsArg w v l) (hn : l.length ≤ 1048576) (hx : ∀ x ∈ l, x.1.size ≤ 1048576 ∧ x.2.size ≤ 1048576) (B : Nat) (hB : B ≤ w.heap.size) (hE : XEnv B w) :
    Calls Tryz.prog 102 #[v] w fun e w' => e = .returned (.bool (attrsB [] l)) ∧ Below w.heap.size w w' := by
  have HV := hide hv
  have HX := hide hx
  have HE := hide hE
  obtain ⟨a, cap, rfl, _⟩ := hv
  have hmk : ∀ W : World, (Instr.makeMap 129 none).run Tryz.prog W = .ok (.map (some W.heap.size)) (W.alloc (.map #[] 0)) := fun W => rfl
  have h0 : AreInv w l 0 (w.alloc (.map #[] 0)) := ⟨Nat.zero_le _, (Below.refl _ _).alloc (Nat.le_refl _) _, ⟨.map [], World.ownsMap_made _ _ _ _, fun x => rfl⟩, rfl⟩
  have HI0 := hide h0
  clear h0 hx hE
  go_enter Tryz.func102, Tryz.ntmps102
  go_wp2_with fail
  clear hmk
  go_loopw [11] (fun i wr => ∃ k : Nat, i = .int .i64 (k : Nat) ∧ AreInv w l k wr) (fun i _ => l.length - (intOf i).toNat)
  case atStart => exact ⟨0, rfl, unhide HI0⟩
  case round =>
    clear HI0
    obtain ⟨k, rfl, hI⟩ := hrel
    have hk := hI.le
    by_cases hlt : k < l.length
    · obtain ⟨x, hx⟩ : ∃ x, l[k]? = some x := ⟨l[k], List.getElem?_eq_getElem hlt⟩
      have hxs := unhide HX x (List.mem_of_getElem? hx)
      obtain ⟨a', cap', he, hcells⟩ := (unhide HV).below hI.bel
      obtain ⟨g, o, ha, hc⟩ := hcells (by intro h0; rw [h0] at hlt; cases hlt)
      cases he
      subst ha
      obtain ⟨c0, c1⟩ := hc k x hx
      have n1 : (0 : Int) ≤ (k : Int) := by omega
      have n2 : (k : Int) < (l.length : Int) := by omega
      have hdr : l.drop k = x :: l.drop (k + 1) := by
        rw [← List.getElem_cons_drop hlt]
        congr 1
        exact (List.getElem?_eq_some_iff.1 hx).2
      have htk : (l.take (k + 1)).map (·.1.data.toList) = (l.take k).map (·.1.data.toList) ++ [x.1.data.toList] := by
        rw [List.take_succ_eq_append_getElem hlt, List.map_append, (List.getElem?_eq_some_iff.1 hx).2]
        rfl
      have hnl : ((l.take k).map (·.1.data.toList)).length = k := by rw [List.length_map, List.length_take]; omega
      have hspec := hI.spec
      rw [hdr, attrsB_cons] at hspec
      have hbA : Below wr.heap.size wr (wr.alloc (.cells #[.string x.1, .string x.2] 72 (0, 0))) := (Below.refl _ _).alloc (Nat.le_refl _) _
      have NA := hI.map.on hbA
      have hb0 := Below.then hI.bel hbA
      obtain ⟨c, hlk⟩ := NA.look hxs.1
      have HTK := hide htk
      have HNA := hide NA
      have HNL := hide hnl
      clear hc hI hcells hdr hx htk NA hnl
      generalize (l.take k).map (·.1.data.toList) = names at *
      cases htw : names.contains x.1.data.toList
      · rw [htw] at hlk hspec
        rw [Bool.not_false, Bool.true_and] at hspec
        have HSP := hide hspec
        clear htw hspec
        go_wp2_with fail
        refine (isQName_any x.1 _ hxs.1 ((unhide HE).low (hb0.mono hB)).env).mono ?_
        rintro e w1 ⟨rfl, hb1⟩
        have hb01 := Below.then hb0 hb1
        cases hq : qB x.1
        · have HQ : Hid (attrsB [] l = false) := hide (by rw [unhide HSP, hq]; rfl)
          clear HSP hq
          go_wp2
          go_ret
          exact ⟨ret_bool (unhide HQ).symm, hb01⟩
        · have HSP2 : Hid (attrsB [] l = (textB x.2 && attrsB (names ++ [x.1.data.toList]) (l.drop (k + 1)))) := hide (by rw [unhide HSP, hq, Bool.true_and])
          have c1' := keptC hb1 (show (wr.alloc (.cells #[.string x.1, .string x.2] 72 (0, 0))).cell? ⟨wr.heap.size, 1, none⟩ = some (.string x.2) by simp [go_sem])
          have c0' := keptC hb1 (show (wr.alloc (.cells #[.string x.1, .string x.2] 72 (0, 0))).cell? ⟨wr.heap.size, 0, none⟩ = some (.string x.1) by simp [go_sem])
          have HC0 := hide c0'
          clear HSP hq c0'
          go_wp2_with fail
          refine (isText_any x.2 _).mono ?_
          rintro e w2 ⟨rfl, hb2⟩
          have hb02 := Below.then hb01 hb2
          cases ht : textB x.2
          · have HQ : Hid (attrsB [] l = false) := hide (by rw [unhide HSP2, ht]; rfl)
            clear HSP2 ht
            go_wp2
            go_ret
            exact ⟨ret_bool (unhide HQ).symm, hb02⟩
          · have HSP3 : Hid (attrsB [] l = attrsB (names ++ [x.1.data.toList]) (l.drop (k + 1))) := hide (by rw [unhide HSP2, ht, Bool.true_and])
            have c0' := keptC hb2 (unhide HC0)
            obtain ⟨D, hD, hh⟩ := ((unhide HNA).on hb1).on hb2
            have hlen : names.length < maxLen := by rw [unhide HNL]; unfold maxLen; omega
            have HKY : Hid (keyOf Tryz.prog 9 (.string x.1) = some (.string x.1.data.toList)) := hide (Go.WideMaps.keyOf_string_mk Tryz.underlying9 (by unfold maxLen; omega : x.1.size ≤ maxLen))
            have HPE : Hid (plainElem (H := Unit) Tryz.prog 3 (.int .i64 (k : Nat)) = some (.lit (.int .i64 (k : Nat)), [])) := hide (plainElem_int Tryz.underlying3 (wf_i64b (by omega)))
            have HD := hide hD
            have HH := hide hh
            have hmlt : w.heap.size < w2.heap.size := hD.lt
            clear HSP2 ht hD hh HC0 hlk
            go_wp2_with (at_mapUpdate; refine wpList_mapUpdate_own _ rfl _ _ _ 129 rfl 9 3 (Maps.string_keyed Tryz.underlying9) Tryz.underlying129 (plainElem Tryz.prog 3) w.heap.size names.length D rfl (unhide HD) hlen _ _ (.string x.1.data.toList) rfl rfl (unhide HKY) (.lit (.int .i64 (k : Nat))) [] (unhide HPE) ?_; intro w6 hown6 hgrow6)
            have hb6 : Below w.heap.size w w6 := hb02.grown hgrow6 (by omega) (fun j hj => by cases hj; exact Nat.le_refl _)
            have N6 := NamesAt.named (str_keyB _) (unhide HD) (unhide HH) hown6
            have HI6 : Hid (AreInv w l (k + 1) w6) := hide ⟨by omega, hb6, by rw [unhide HTK]; exact N6, by rw [unhide HTK]; exact unhide HSP3⟩
            clear HD HH N6 hown6 hgrow6 HKY HPE
            go_round
            case measure => simp [intOf]; omega
            case rel => exact ⟨k + 1, by simp, unhide HI6⟩
      · rw [htw] at hlk hspec
        have HSP := hide hspec
        clear htw hspec
        go_wp2
        go_ret
        exact ⟨ret_bool (by rw [unhide HSP]; rfl), hb0⟩
    · have n2 : ¬ (k : Int) < (l.length : Int) := by omega
      have hkl : k = l.length := by omega
      have HI := hide hI
      clear hI
      go_wp2
      go_ret
      refine ⟨ret_bool ?_, (unhide HI).bel⟩
      rw [(unhide HI).spec, hkl, List.drop_length]
      rfl
end Go.Proofs.YtmemcabipcccaaaGreatDoor
/- Whether a token may stand in some document: xmlscan's isToken. -/
namespace Go.Proofs.YtmemcabipcccaaaGreatDoor
open Go.RowKit
/-- A token as it is handed in: none of its parts is great. -/
structure Small (t : BTok) : Prop where
  l : t.attrs.length ≤ 1048576
  a : ∀ x ∈ t.attrs, x.1.size ≤ 1048576 ∧ x.2.size ≤ 1048576
  n : t.name.size ≤ 1048576
  x : t.text.size ≤ 1048576
def tokV (t : BTok) (v : Value) : Array Value := #[.int .i64 t.kind, .string t.name, v, .string t.text]
/-- A token's own cells, and nothing else new that matters. -/
structure TokBox (w : World) (t : BTok) (v : Value) (W : World) : Prop where
  bel : Below w.heap.size w W
  lt : w.heap.size < W.heap.size
  c0 : W.cell? ⟨w.heap.size, 0, none⟩ = some (.int .i64 t.kind)
  c1 : W.cell? ⟨w.heap.size, 1, none⟩ = some (.string t.name)
  c2 : W.cell? ⟨w.heap.size, 2, none⟩ = some v
  c3 : W.cell? ⟨w.heap.size, 3, none⟩ = some (.string t.text)
theorem TokBox.on {w W W' : World} {t : BTok} {v : Value} (h : TokBox w t v W) (hb : Below W.heap.size W W') : TokBox w t v W' :=
  ⟨Below.then h.bel hb, Nat.lt_of_lt_of_le h.lt hb.size, keptC hb h.c0, keptC hb h.c1, keptC hb h.c2, keptC hb h.c3⟩
theorem okB2 (n : ByteArray) (l : List (ByteArray × ByteArray)) (x : ByteArray) : okB ⟨2, n, l, x⟩ = (x.toList.isEmpty && (qB n && attrsB [] l)) := rfl
theorem okB7 (n : ByteArray) (l : List (ByteArray × ByteArray)) (x : ByteArray) : okB ⟨7, n, l, x⟩ = (x.toList.isEmpty && (l.isEmpty && qB n)) := rfl
theorem okB4 (n : ByteArray) (l : List (ByteArray × ByteArray)) (x : ByteArray) : okB ⟨4, n, l, x⟩ = (n.toList.isEmpty && (l.isEmpty && (!x.toList.isEmpty && textB x))) := rfl
theorem okB5 (n : ByteArray) (l : List (ByteArray × ByteArray)) (x : ByteArray) : okB ⟨5, n, l, x⟩ = (n.toList.isEmpty && (l.isEmpty && comB x)) := rfl
theorem okB6 (n : ByteArray) (l : List (ByteArray × ByteArray)) (x : ByteArray) : okB ⟨6, n, l, x⟩ = (l.isEmpty && (tarB n && insB x)) := rfl
set_option maxRecDepth 100000 in
set_option maxHeartbeats 8000000 in
theorem isToken_any (t : BTok) (v : Value) (w : World) (hv : PairsArg w v t.attrs) (hs : Small t) (B : Nat) (hB : B ≤ w.heap.size) (hE : XEnv B w) :
    Calls Tryz.prog 87 #[.agg #[.int .i64 t.kind, .string t.name, v, .string t.text]] w fun e w' => e = .returned (.bool (okB t)) ∧ Below w.heap.size w w' := by
  have HV := hide hv
  have HS := hide hs
  have HE := hide hE
  obtain ⟨a, cap, rfl, _⟩ := hv
  have HB0 : Hid (TokBox w t (.slice a t.attrs.length cap) (w.alloc (.cells (tokV t (.slice a t.attrs.length cap)) 53 (0, 0)))) := hide (by
    unfold tokV
    refine ⟨(Below.refl _ _).alloc (Nat.le_refl _) _, by simp, ?_, ?_, ?_, ?_⟩
    all_goals simp [go_sem])
  obtain ⟨k, n, l, x⟩ := t
  simp only at *
  clear hs hE
  go_enter Tryz.func87, Tryz.ntmps87
  go_wp2_with fail
  go_quiet (fail)
  have HB1 : Hid (TokBox w ⟨k, n, l, x⟩ (.slice a l.length cap) _) := hide ((unhide HB0).on (below_drewN _ nq))
  unfold tokV at HB1
  simp only at HB1
  generalize (w.alloc (.cells #[.int .i64 k, .string n, .slice a l.length cap, .string x] 53 (0, 0))).drewN nq = W at *
  clear HB0
  have hbW := (unhide HB1).bel
  have c0 := (unhide HB1).c0
  have c1 := (unhide HB1).c1
  have c2 := (unhide HB1).c2
  have c3 := (unhide HB1).c3
  simp only at c0 c1 c2 c3
  have HEW := hide ((unhide HE).low (hbW.mono hB))
  have hBW : B ≤ W.heap.size := Nat.le_trans hB hbW.size
  by_cases k2 : k = 2
  · subst k2
    have HOK := hide (okB2 n l x)
    cases hx0 : x.toList.isEmpty
    · have HR : Hid (okB ⟨2, n, l, x⟩ = false) := hide (by rw [unhide HOK, hx0]; rfl)
      clear HOK
      go_wp2
      go_ret
      exact ⟨ret_bool (unhide HR).symm, hbW⟩
    · rw [hx0, Bool.true_and] at HOK
      go_wp2_with fail
      refine (isQName_any n _ (unhide HS).n (unhide HEW).env).mono ?_
      rintro e w1 ⟨rfl, hb1⟩
      have hbW1 := Below.then hbW hb1
      have d2 := keptC hb1 c2
      cases hq : qB n
      · have HR : Hid (okB ⟨2, n, l, x⟩ = false) := hide (by rw [unhide HOK, hq]; rfl)
        clear HOK hq
        go_wp2
        go_ret
        exact ⟨ret_bool (unhide HR).symm, hbW1⟩
      · have HR : Hid (okB ⟨2, n, l, x⟩ = attrsB [] l) := hide (by rw [unhide HOK, hq, Bool.true_and])
        clear HOK hq
        go_wp2_with fail
        refine (areAttributes_any l _ _ ((unhide HV).below hbW1) (unhide HS).l (unhide HS).a B (Nat.le_trans hBW hb1.size) ((unhide HEW).on hBW hb1)).mono ?_
        rintro e w2 ⟨rfl, hb2⟩
        go_wp2
        go_ret
        exact ⟨ret_bool (unhide HR).symm, Below.then hbW1 hb2⟩
  · have g2 : (k == 2) = false := by simpa using k2
    by_cases k7 : k = 7
    · subst k7
      have HOK := hide (okB7 n l x)
      cases hx0 : x.toList.isEmpty
      · have HR : Hid (okB ⟨7, n, l, x⟩ = false) := hide (by rw [unhide HOK, hx0]; rfl)
        clear HOK
        go_wp2
        go_ret
        exact ⟨ret_bool (unhide HR).symm, hbW⟩
      · rw [hx0, Bool.true_and] at HOK
        cases hl0 : l.isEmpty
        · have HR : Hid (okB ⟨7, n, l, x⟩ = false) := hide (by rw [unhide HOK, hl0]; rfl)
          have hl1 : 0 < l.length := by cases l with | nil => cases hl0 | cons _ _ => simp
          clear HOK hl0
          go_wp2
          go_ret
          exact ⟨ret_bool (unhide HR).symm, hbW⟩
        · have HR : Hid (okB ⟨7, n, l, x⟩ = qB n) := hide (by rw [unhide HOK, hl0, Bool.true_and])
          have hl1 : ¬ 0 < l.length := by cases l with | nil => simp | cons _ _ => cases hl0
          clear HOK hl0
          go_wp2_with fail
          refine (isQName_any n _ (unhide HS).n (unhide HEW).env).mono ?_
          rintro e w1 ⟨rfl, hb1⟩
          go_wp2
          go_ret
          exact ⟨ret_bool (unhide HR).symm, Below.then hbW hb1⟩
    · have g7 : (k == 7) = false := by simpa using k7
      by_cases k4 : k = 4
      · subst k4
        have HOK := hide (okB4 n l x)
        cases hn0 : n.toList.isEmpty
        · have HR : Hid (okB ⟨4, n, l, x⟩ = false) := hide (by rw [unhide HOK, hn0]; rfl)
          clear HOK
          go_wp2
          go_ret
          exact ⟨ret_bool (unhide HR).symm, hbW⟩
        · rw [hn0, Bool.true_and] at HOK
          cases hl0 : l.isEmpty
          · have HR : Hid (okB ⟨4, n, l, x⟩ = false) := hide (by rw [unhide HOK, hl0]; rfl)
            have hl1 : 0 < l.length := by cases l with | nil => cases hl0 | cons _ _ => simp
            clear HOK hl0
            go_wp2
            go_ret
            exact ⟨ret_bool (unhide HR).symm, hbW⟩
          · rw [hl0, Bool.true_and] at HOK
            have hl1 : ¬ 0 < l.length := by cases l with | nil => simp | cons _ _ => cases hl0
            clear hl0
            cases hx0 : x.toList.isEmpty
            · have HR : Hid (okB ⟨4, n, l, x⟩ = textB x) := hide (by rw [unhide HOK, hx0]; rfl)
              clear HOK
              go_wp2_with fail
              refine (isText_any x _).mono ?_
              rintro e w1 ⟨rfl, hb1⟩
              go_wp2
              go_ret
              exact ⟨ret_bool (unhide HR).symm, Below.then hbW hb1⟩
            · have HR : Hid (okB ⟨4, n, l, x⟩ = false) := hide (by rw [unhide HOK, hx0]; rfl)
              clear HOK
              go_wp2
              go_ret
              exact ⟨ret_bool (unhide HR).symm, hbW⟩
      · have g4 : (k == 4) = false := by simpa using k4
        by_cases k5 : k = 5
        · subst k5
          have HOK := hide (okB5 n l x)
          cases hn0 : n.toList.isEmpty
          · have HR : Hid (okB ⟨5, n, l, x⟩ = false) := hide (by rw [unhide HOK, hn0]; rfl)
            clear HOK
            go_wp2
            go_ret
            exact ⟨ret_bool (unhide HR).symm, hbW⟩
          · rw [hn0, Bool.true_and] at HOK
            cases hl0 : l.isEmpty
            · have HR : Hid (okB ⟨5, n, l, x⟩ = false) := hide (by rw [unhide HOK, hl0]; rfl)
              have hl1 : 0 < l.length := by cases l with | nil => cases hl0 | cons _ _ => simp
              clear HOK hl0
              go_wp2
              go_ret
              exact ⟨ret_bool (unhide HR).symm, hbW⟩
            · have HR : Hid (okB ⟨5, n, l, x⟩ = comB x) := hide (by rw [unhide HOK, hl0, Bool.true_and])
              have hl1 : ¬ 0 < l.length := by cases l with | nil => simp | cons _ _ => cases hl0
              clear HOK hl0
              go_wp2_with fail
              refine (isComment_any x _ (unhide HS).x B hBW (unhide HEW)).mono ?_
              rintro e w1 ⟨rfl, hb1⟩
              go_wp2
              go_ret
              exact ⟨ret_bool (unhide HR).symm, Below.then hbW hb1⟩
        · have g5 : (k == 5) = false := by simpa using k5
          by_cases k6 : k = 6
          · subst k6
            have HOK := hide (okB6 n l x)
            cases hl0 : l.isEmpty
            · have HR : Hid (okB ⟨6, n, l, x⟩ = false) := hide (by rw [unhide HOK, hl0]; rfl)
              have hl1 : 0 < l.length := by cases l with | nil => cases hl0 | cons _ _ => simp
              clear HOK hl0
              go_wp2
              go_ret
              exact ⟨ret_bool (unhide HR).symm, hbW⟩
            · rw [hl0, Bool.true_and] at HOK
              have hl1 : ¬ 0 < l.length := by cases l with | nil => simp | cons _ _ => cases hl0
              clear hl0
              go_wp2_with fail
              refine (isTargetB_any n _ (unhide HS).n B hBW (unhide HEW)).mono ?_
              rintro e w1 ⟨rfl, hb1⟩
              have hbW1 := Below.then hbW hb1
              have d3 := keptC hb1 c3
              cases hq : tarB n
              · have HR : Hid (okB ⟨6, n, l, x⟩ = false) := hide (by rw [unhide HOK, hq]; rfl)
                clear HOK hq
                go_wp2
                go_ret
                exact ⟨ret_bool (unhide HR).symm, hbW1⟩
              · have HR : Hid (okB ⟨6, n, l, x⟩ = insB x) := hide (by rw [unhide HOK, hq, Bool.true_and])
                clear HOK hq
                go_wp2_with fail
                refine (isInstruction_any x _ (unhide HS).x B (Nat.le_trans hBW hb1.size) ((unhide HEW).on hBW hb1)).mono ?_
                rintro e w2 ⟨rfl, hb2⟩
                go_wp2
                go_ret
                exact ⟨ret_bool (unhide HR).symm, Below.then hbW1 hb2⟩
          · have g6 : (k == 6) = false := by simpa using k6
            have HR : Hid (okB ⟨k, n, l, x⟩ = false) := hide (by unfold okB; simp only [if_neg k2, if_neg k7, if_neg k4, if_neg k5, if_neg k6])
            clear k2 k7 k4 k5 k6
            go_wp2
            go_ret
            exact ⟨ret_bool (unhide HR).symm, hbW⟩
end Go.Proofs.YtmemcabipcccaaaGreatDoor
