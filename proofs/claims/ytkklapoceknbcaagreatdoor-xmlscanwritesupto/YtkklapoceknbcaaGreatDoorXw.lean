/- Several texts, laid as one. -/
import Derived.Test.YtkklapoceknbcaaGreatDoorXmlBad
import Derived.Test.YtkklapoceknbcaaGreatDoorXmlCom
import Derived.Test.YtkklapoceknbcaaGreatDoorGr
import Derived.Test.YtkklapoceknbcaaGreatDoorXmlEsc
import Derived.BigQuiet
import Derived.Test.YtkklapoceknbcaaGreatDoorXmlEndTag
/- Tokens in bytes, as they may be handed in, and whether one may stand in a document: xmlscan's isQName, isComment, isInstruction, isTarget. -/
namespace Go.Proofs.YtkklapoceknbcaaGreatDoor
open Go.RowKit
structure BTok where
  kind : Int
  name : ByteArray
  attrs : List (ByteArray × ByteArray)
  text : ByteArray
/-- Pairs in memory: a row that was handed in, or one of one's own. -/
def PairsArg (w : World) (v : Value) (l : List (ByteArray × ByteArray)) : Prop := ∃ a cap, v = .slice a l.length cap ∧ (l ≠ [] → ∃ g o, a = some ⟨g, o, none⟩ ∧
  ∀ i x, l[i]? = some x → w.cell? ⟨g, o + i * 2, none⟩ = some (.string x.1) ∧ w.cell? ⟨g, o + i * 2 + 1, none⟩ = some (.string x.2))
structure TokArg (w : World) (g o : Nat) (t : BTok) : Prop where
  k : w.cell? ⟨g, o, none⟩ = some (.int .i64 t.kind)
  n : w.cell? ⟨g, o + 1, none⟩ = some (.string t.name)
  a : ∃ v, w.cell? ⟨g, o + 2, none⟩ = some v ∧ PairsArg w v t.attrs
  x : w.cell? ⟨g, o + 3, none⟩ = some (.string t.text)
def ToksArg (w : World) (a : Option Addr) (ts : List BTok) : Prop := ts ≠ [] → ∃ g o, a = some ⟨g, o, none⟩ ∧ ∀ i t, ts[i]? = some t → TokArg w g (o + i * 4) t
theorem PairsArg.below {w w' : World} {v : Value} {l : List (ByteArray × ByteArray)} (h : PairsArg w v l) (hb : Below w.heap.size w w') : PairsArg w' v l := by
  obtain ⟨a, cap, h1, h2⟩ := h
  refine ⟨a, cap, h1, fun hl => ?_⟩
  obtain ⟨g, o, h3, h4⟩ := h2 hl
  exact ⟨g, o, h3, fun i x hx => ⟨keptC hb (h4 i x hx).1, keptC hb (h4 i x hx).2⟩⟩
theorem TokArg.below {w w' : World} {g o : Nat} {t : BTok} (h : TokArg w g o t) (hb : Below w.heap.size w w') : TokArg w' g o t := by
  obtain ⟨h1, h2, ⟨v, h3, h4⟩, h5⟩ := h
  exact ⟨keptC hb h1, keptC hb h2, ⟨v, keptC hb h3, h4.below hb⟩, keptC hb h5⟩
theorem ToksArg.below {w w' : World} {a : Option Addr} {ts : List BTok} (h : ToksArg w a ts) (hb : Below w.heap.size w w') : ToksArg w' a ts := fun hl => by
  obtain ⟨g, o, h1, h2⟩ := h hl
  exact ⟨g, o, h1, fun i t ht => (h2 i t ht).below hb⟩
def qB (s : ByteArray) : Bool := splitB s.data.toList
def lowB (s : ByteArray) : Bool := s.data.toList.map (fun b => lowC b.toNat) == [120, 109, 108]
def tarB (s : ByteArray) : Bool := nameB s && !lowB s
def comB (s : ByteArray) : Bool := textB s && (!Lib.contains s.data.toList [45, 45] && !Lib.hasSuffix s.data.toList [45])
def insB (s : ByteArray) : Bool := textB s && (!Lib.contains s.data.toList [63, 62] && ((Lib.trimLeftF blankN s).toList == s.toList))
theorem nameB_txt {s : ByteArray} (h : nameB s = true) : ∃ l, okL l ∧ s = T l := by
  have h1 : textB s = true := by
    rw [textB_eq]
    rw [nameB_eq] at h
    simp only [Bool.and_eq_true] at h
    exact h.1.1
  exact txt_T ((textB_txt s).1 h1)
theorem low_tx {l : List Nat} (h : okL l) : ((tx l).map (fun b => lowC b.toNat) == [120, 109, 108]) = (l.map lowC == [120, 109, 108]) := by
  by_cases hh : ∃ c ∈ l, 128 ≤ c
  · obtain ⟨c, hc, h128⟩ := hh
    have e1 : (l.map lowC == [120, 109, 108]) = false := by
      apply beq_eq_false_iff_ne.2
      intro hx
      have h1 : lowC c ∈ l.map lowC := List.mem_map.2 ⟨c, hc, rfl⟩
      rw [hx] at h1
      have h2 : lowC c = c := by unfold lowC; rw [if_neg (by omega)]
      rw [h2] at h1
      simp at h1
      omega
    have e2 : ((tx l).map (fun b => lowC b.toNat) == [120, 109, 108]) = false := by
      apply beq_eq_false_iff_ne.2
      intro hx
      obtain ⟨b, hb⟩ : ∃ b, b ∈ runeB c := by
        have := runeB_pos (h c hc)
        cases hr : runeB c with
        | nil => rw [hr] at this; simp at this
        | cons b t => exact ⟨b, by simp⟩
      have hb1 := runeB_high (charR_ok (h c hc)) h128 b hb
      have hb2 : b ∈ tx l := List.mem_flatMap.2 ⟨c, hc, hb⟩
      have h1 : lowC b.toNat ∈ (tx l).map (fun b => lowC b.toNat) := List.mem_map.2 ⟨b, hb2, rfl⟩
      rw [hx] at h1
      have h2 : lowC b.toNat = b.toNat := by unfold lowC; rw [if_neg (by omega)]
      rw [h2] at h1
      simp at h1
      omega
    rw [e1, e2]
  · have ha : ∀ c ∈ l, c < 128 := fun c hc => by
      by_cases h : c < 128
      · exact h
      · exact absurd ⟨c, hc, by omega⟩ hh
    rw [sign_len_tx ha, List.map_map]
    have : l.map ((fun b : UInt8 => lowC b.toNat) ∘ UInt8.ofNat) = l.map lowC := List.map_congr_left fun c hc => by
      show lowC (UInt8.ofNat c).toNat = lowC c
      rw [asc_toNat (ha c hc)]
    rw [this]
theorem tarB_T {l : List Nat} (h : okL l) : tarB (T l) = isTarget l := by
  unfold tarB lowB isTarget
  rw [nameB_T h, T_data, low_tx h]
set_option maxHeartbeats 1000000 in
theorem isQName_any (s : ByteArray) (w : World) (hs : s.size ≤ 1048576) (hE : Env w) :
    Calls Tryz.prog 46 #[.string s] w fun e w' => e = .returned (.bool (qB s)) ∧ Below w.heap.size w w' := by
  obtain ⟨p, n, hv⟩ := splitV_cases s.data.toList
  have HV := hide hv
  have HS := hide (split_any s w (by omega) hE)
  clear hv hE
  go_enter Tryz.func46, Tryz.ntmps46
  go_wp2_with fail
  refine (unhide HS).mono ?_
  rintro e w1 ⟨rfl, hb1⟩
  rw [unhide HV]
  go_wp2
  go_ret
  exact ⟨rfl, hb1⟩
set_option maxHeartbeats 1000000 in
theorem isTargetB_any (s : ByteArray) (w : World) (hs : s.size ≤ 1048576) (B : Nat) (hB : B ≤ w.heap.size) (hE : XEnv B w) :
    Calls Tryz.prog 49 #[.string s] w fun e w' => e = .returned (.bool (tarB s)) ∧ Below w.heap.size w w' := by
  have HE := hide hE
  have HN := hide (isName_any s w (by unfold maxLen; omega) hE.env)
  have HD : Hid (tarB s = (nameB s && !lowB s)) := hide rfl
  cases hn : nameB s
  · rw [hn] at HN HD
    clear hE hn
    go_enter Tryz.func49, Tryz.ntmps49
    go_wp2_with (go_at_call 87; refine (unhide HN).mono ?_; rintro e w1 ⟨rfl, hb1⟩)
    go_ret
    exact ⟨ret_bool (by rw [unhide HD]; rfl), hb1⟩
  · obtain ⟨l, hl, hT⟩ := nameB_txt hn
    rw [hn] at HN HD
    have HL : Hid (lowB s = (l.map lowC == [120, 109, 108])) := hide (by unfold lowB; rw [hT, T_data, low_tx hl])
    have HF : Hid (∀ W, XEnv B W → B ≤ W.heap.size → Calls Tryz.prog 88 #[.string s, .string ⟨#[120, 109, 108]⟩] W fun e w' => e = .returned (.bool (l.map lowC == [120, 109, 108])) ∧ Below W.heap.size W w') := hide fun W hW hBW => by
      rw [hT] at hs ⊢
      exact foldXml_big l W hl hs B hW hBW
    clear hE hn hT
    go_enter Tryz.func49, Tryz.ntmps49
    go_wp2_with (first | (go_at_call 87; refine (unhide HN).mono ?_; rintro e w1 ⟨rfl, hb1⟩) | (go_at_call 88; refine (unhide HF _ ((unhide HE).on hB hb1) (Nat.le_trans hB hb1.size)).mono ?_; rintro e w2 ⟨rfl, hb2⟩))
    go_ret
    exact ⟨ret_bool (by rw [unhide HD, unhide HL, Bool.true_and]), Below.then hb1 hb2⟩
set_option maxHeartbeats 1000000 in
theorem isComment_any (s : ByteArray) (w : World) (hs : s.size ≤ 1048576) (B : Nat) (hB : B ≤ w.heap.size) (hE : XEnv B w) :
    Calls Tryz.prog 48 #[.string s] w fun e w' => e = .returned (.bool (comB s)) ∧ Below w.heap.size w w' := by
  have HE := hide hE
  have HT := hide (isText_any s w)
  have HX := hide (fun W => Tryz.strings_HasSuffix s ⟨#[45]⟩ W (by omega))
  have HD : Hid (comB s = (textB s && (!Lib.contains s.data.toList [45, 45] && !Lib.hasSuffix s.data.toList [45]))) := hide rfl
  have hcd : ∃ b, Lib.contains s.data.toList (⟨#[45, 45]⟩ : ByteArray).data.toList = b := ⟨_, rfl⟩
  obtain ⟨b, hc⟩ := hcd
  have HC := hide hc
  have HD2 : Hid (comB s = (textB s && (!b && !Lib.hasSuffix s.data.toList [45]))) := hide (by rw [← hc]; rfl)
  clear hE hc HD
  go_enter Tryz.func48, Tryz.ntmps48
  go_wp2_with fail
  refine (unhide HT).mono ?_
  rintro e w1 ⟨rfl, hb1⟩
  obtain ⟨m, hm⟩ := ((unhide HE).on hB hb1).env.1
  have HM := hide hm
  clear hm
  cases ht : textB s
  · rw [ht] at HD2
    clear ht
    go_wp2
    go_ret
    exact ⟨ret_bool (by rw [unhide HD2]; rfl), hb1⟩
  · rw [ht] at HD2
    clear ht
    go_wp2_with fail
    refine (Tryz.strings_Contains s ⟨#[45, 45]⟩ m _ (by omega) (unhide HM)).mono ?_
    rintro e w2 ⟨rfl, rfl⟩
    rw [unhide HC]
    cases b
    · go_wp2_with fail
      refine (unhide HX _).mono ?_
      rintro e w2 ⟨rfl, rfl⟩
      go_wp2
      go_ret
      exact ⟨ret_bool (by rw [unhide HD2]; rfl), hb1⟩
    · go_wp2
      go_ret
      exact ⟨ret_bool (by rw [unhide HD2]; rfl), hb1⟩
set_option maxHeartbeats 1000000 in
theorem isInstruction_any (s : ByteArray) (w : World) (hs : s.size ≤ 1048576) (B : Nat) (hB : B ≤ w.heap.size) (hE : XEnv B w) :
    Calls Tryz.prog 50 #[.string s] w fun e w' => e = .returned (.bool (insB s)) ∧ Below w.heap.size w w' := by
  have HE := hide hE
  have HT := hide (isText_any s w)
  have HX := hide (fun W => Tryz.strings_TrimLeftFunc_runes 70 #[] isBlank_enters blankN s W (isBlank_runes _))
  have hcd : ∃ b, Lib.contains s.data.toList (⟨#[63, 62]⟩ : ByteArray).data.toList = b := ⟨_, rfl⟩
  obtain ⟨b, hc⟩ := hcd
  have HC := hide hc
  have HD2 : Hid (insB s = (textB s && (!b && ((Lib.trimLeftF blankN s).toList == s.toList)))) := hide (by rw [← hc]; rfl)
  clear hE hc
  go_enter Tryz.func50, Tryz.ntmps50
  go_wp2_with fail
  refine (unhide HT).mono ?_
  rintro e w1 ⟨rfl, hb1⟩
  obtain ⟨m, hm⟩ := ((unhide HE).on hB hb1).env.1
  have HM := hide hm
  clear hm
  cases ht : textB s
  · rw [ht] at HD2
    clear ht
    go_wp2
    go_ret
    exact ⟨ret_bool (by rw [unhide HD2]; rfl), hb1⟩
  · rw [ht] at HD2
    clear ht
    go_wp2_with fail
    refine (Tryz.strings_Contains s ⟨#[63, 62]⟩ m _ (by omega) (unhide HM)).mono ?_
    rintro e w2 ⟨rfl, rfl⟩
    rw [unhide HC]
    cases b
    · go_wp2_with fail
      refine (unhide HX _).mono ?_
      rintro e w2 ⟨rfl, hb2⟩
      generalize Lib.trimLeftF blankN s = u at *
      go_wp2
      go_ret
      exact ⟨ret_bool (by rw [unhide HD2]; rfl), Below.then hb1 hb2⟩
    · go_wp2
      go_ret
      exact ⟨ret_bool (by rw [unhide HD2]; rfl), hb1⟩
end Go.Proofs.YtkklapoceknbcaaGreatDoor
/- Tokens in bytes: which are a document's, and what they are as a text. -/
namespace Go.Proofs.YtkklapoceknbcaaGreatDoor
def attrsB : List (List UInt8) → List (ByteArray × ByteArray) → Bool
  | _, [] => true
  | seen, x :: l => !seen.contains x.1.data.toList && (qB x.1 && (textB x.2 && attrsB (seen ++ [x.1.data.toList]) l))
/-- May it stand in some document? -/
def okB (t : BTok) : Bool :=
  if t.kind = 2 then t.text.toList.isEmpty && (qB t.name && attrsB [] t.attrs) else
  if t.kind = 7 then t.text.toList.isEmpty && (t.attrs.isEmpty && qB t.name) else
  if t.kind = 4 then t.name.toList.isEmpty && (t.attrs.isEmpty && (!t.text.toList.isEmpty && textB t.text)) else
  if t.kind = 5 then t.name.toList.isEmpty && (t.attrs.isEmpty && comB t.text) else
  if t.kind = 6 then t.attrs.isEmpty && (tarB t.name && insB t.text) else false
/-- What stands open behind a token, and whether there was an element; none: it may not stand there. -/
def docStp (o : List ByteArray) (r : Bool) (last : Int) (t : BTok) : Option (List ByteArray × Bool) :=
  if t.kind = 2 then (if o.isEmpty && r then none else some (o ++ [t.name], true)) else
  if t.kind = 7 then (match o.getLast? with
    | none => none
    | some x => if x.toList == t.name.toList then some (o.dropLast, r) else none) else
  if t.kind = 4 then (if o.isEmpty || last == 4 then none else some (o, r)) else some (o, r)
def docB : List ByteArray → Bool → Int → List BTok → Bool
  | o, r, _, [] => r && o.isEmpty
  | o, r, last, t :: ts => okB t && (match docStp o r last t with
    | none => false
    | some x => docB x.1 x.2 t.kind ts)
def deepGo : Int → Int → List BTok → Int
  | _, m, [] => m
  | d, m, t :: ts => if t.kind = 2 then deepGo (d + 1) (max m (d + 1)) ts else if t.kind = 7 then deepGo (d - 1) m ts else deepGo d m ts
def pastB (ts : List BTok) : Bool := decide (4096 < ts.length) || (decide (32 < deepGo 0 0 ts) || ts.any fun t => decide (64 < t.attrs.length))
def attrB (x : ByteArray × ByteArray) : List UInt8 := 32 :: (x.1.data.toList ++ 61 :: 34 :: (mapO quoO x.2.data.toList ++ [34]))
def tokB (t : BTok) : List UInt8 :=
  if t.kind = 2 then 60 :: (t.name.data.toList ++ (t.attrs.flatMap attrB ++ [62])) else
  if t.kind = 7 then 60 :: 47 :: (t.name.data.toList ++ [62]) else
  if t.kind = 4 then mapO escO t.text.data.toList else
  if t.kind = 5 then 60 :: 33 :: 45 :: 45 :: (t.text.data.toList ++ [45, 45, 62]) else
  if t.kind = 6 then 60 :: 63 :: (t.name.data.toList ++ ((if t.text.toList.isEmpty then [] else 32 :: t.text.data.toList) ++ [63, 62])) else []
def writeB (ts : List BTok) : List UInt8 := ts.flatMap tokB
/-- What Write tells: an error's number, or a text. -/
def writeR (ts : List BTok) : ByteArray × Nat :=
  if docB [] false 0 ts = false then (⟨#[]⟩, 5) else if pastB ts = true then (⟨#[]⟩, 6) else if 32768 < (writeB ts).length then (⟨#[]⟩, 6) else (⟨(writeB ts).toArray⟩, 0)
end Go.Proofs.YtkklapoceknbcaaGreatDoor
/- Whether a token may stand in some document: xmlscan's areAttributes, isToken. -/
namespace Go.Proofs.YtkklapoceknbcaaGreatDoor
open Go.RowKit
abbrev PlacesB (w : World) (b n : Nat) (D : DataW Unit) : Prop := w.ownsMap Tryz.prog 9 (plainElem Tryz.prog 3) b n D
def hasB (D : DataW Unit) (names : List (List UInt8)) : Prop := ∀ x : List UInt8, Maps.has D (.string x) = names.contains x
/-- The names that were met, in their map. -/
def NamesAt (w : World) (b : Nat) (names : List (List UInt8)) : Prop := ∃ D, PlacesB w b names.length D ∧ hasB D names
theorem str_keyB (x : List UInt8) : WideAt.IsKeyLit (.string x) := by
  first | exact trivial | simp [WideAt.IsKeyLit] | rfl
theorem NamesAt.kept {w w' : World} {b : Nat} {names : List (List UInt8)} (h : NamesAt w b names) (hk : w'.heap[b]? = w.heap[b]?) : NamesAt w' b names := by
  obtain ⟨D, ⟨es, ck, h1, h2⟩, h3⟩ := h
  exact ⟨D, ⟨es, ck, by rw [hk]; exact h1, h2⟩, h3⟩
theorem NamesAt.lt {w : World} {b : Nat} {names : List (List UInt8)} (h : NamesAt w b names) : b < w.heap.size := by
  obtain ⟨D, hD, _⟩ := h
  exact hD.lt
theorem NamesAt.on {w w' : World} {b : Nat} {names : List (List UInt8)} (h : NamesAt w b names) (hb : Below w.heap.size w w') : NamesAt w' b names := h.kept (hb.block b h.lt)
theorem NamesAt.look {w : World} {b : Nat} {names : List (List UInt8)} (h : NamesAt w b names) {n : ByteArray} (hz : n.size ≤ 1048576) : ∃ c, (Instr.lookup 89 (.map (some b)) (.string n) true).run Tryz.prog w = .ok (.tuple #[.int .i64 c, .bool (names.contains n.data.toList)]) w := by
  obtain ⟨D, hD, hh⟩ := h
  have hz0 : (zeroValue 3).run Tryz.prog w = .ok (.int .i64 0) w := by kernel_rfl
  obtain ⟨v, ps, hrun, hv⟩ := hD.look_ok (Maps.string_keyed Tryz.underlying9) Tryz.underlying89 hz0 (plainElem_int Tryz.underlying3 (by decide)) (Go.WideMaps.keyOf_string_mk Tryz.underlying9 (by unfold maxLen; omega : n.size ≤ maxLen))
  obtain ⟨c, rfl, _, _⟩ := plainElem_int_inv Tryz.underlying3 hv
  rw [hh n.data.toList] at hrun
  exact ⟨c, hrun⟩
theorem NamesAt.named {w W : World} {b : Nat} {names : List (List UInt8)} {n : List UInt8} {D d : DataW Unit} (hk : WideAt.IsKeyLit (.string n)) (hD : PlacesB w b names.length D) (hh : hasB D names) (hW : PlacesB W b (names.length + 1) (D.put (.string n) d)) : NamesAt W b (names ++ [n]) := by
  refine ⟨_, by rw [List.length_append]; exact hW, fun x => ?_⟩
  by_cases e : x = n
  · subst e
    rw [Maps.has_put_same hD.isMap hk]
    simp
  · rw [Maps.has_put_other (fun e' => e (Lit.string.inj e')), hh x]
    simp [e]
theorem attrsB_cons (seen : List (List UInt8)) (x : ByteArray × ByteArray) (l : List (ByteArray × ByteArray)) : attrsB seen (x :: l) = (!seen.contains x.1.data.toList && (qB x.1 && (textB x.2 && attrsB (seen ++ [x.1.data.toList]) l))) := rfl
theorem wf_i64b {n : Nat} (h : n ≤ 1048576) : (Lit.int .i64 (n : Nat)).wf = true := by
  have h1 : IntKind.i64.min = -9223372036854775808 := by decide
  have h2 : IntKind.i64.max = 9223372036854775807 := by decide
  simp only [Lit.wf, Bool.and_eq_true, decide_eq_true_eq]
  rw [h1, h2]
  omega
structure AreInv (w : World) (l : List (ByteArray × ByteArray)) (k : Nat) (w' : World) : Prop where
  le : k ≤ l.length
  bel : Below w.heap.size w w'
  map : NamesAt w' w.heap.size ((l.take k).map (·.1.data.toList))
  spec : attrsB [] l = attrsB ((l.take k).map (·.1.data.toList)) (l.drop k)
set_option maxRecDepth 100000 in
set_option maxHeartbeats 4000000 in
theorem areAttributes_any (l : List (ByteArray × ByteArray)) (v : Value) (w : World) (hv : PairsArg w v l) (hn : l.length ≤ 1048576) (hx : ∀ x ∈ l, x.1.size ≤ 1048576 ∧ x.2.size ≤ 1048576) (B : Nat) (hB : B ≤ w.heap.size) (hE : XEnv B w) :
    Calls Tryz.prog 47 #[v] w fun e w' => e = .returned (.bool (attrsB [] l)) ∧ Below w.heap.size w w' := by
  have HV := hide hv
  have HX := hide hx
  have HE := hide hE
  obtain ⟨a, cap, rfl, _⟩ := hv
  have hmk : ∀ W : World, (Instr.makeMap 89 none).run Tryz.prog W = .ok (.map (some W.heap.size)) (W.alloc (.map #[] 0)) := fun W => rfl
  have h0 : AreInv w l 0 (w.alloc (.map #[] 0)) := ⟨Nat.zero_le _, (Below.refl _ _).alloc (Nat.le_refl _) _, ⟨.map [], World.ownsMap_made _ _ _ _, fun x => rfl⟩, rfl⟩
  have HI0 := hide h0
  clear h0 hx hE
  go_enter Tryz.func47, Tryz.ntmps47
  go_wp2_with fail
  clear hmk
  go_loopw [11] (fun i wr => ∃ k : Nat, i = .int .i64 (k : Nat) ∧ AreInv w l k wr) (fun i _ => l.length - (intOf i).toNat)
  case atStart => exact ⟨0, rfl, unhide HI0⟩
  case round =>
    clear HI0
    obtain ⟨k, rfl, hI⟩ := hrel
    have hk := hI.le
    by_cases hlt : k < l.length
    · obtain ⟨x, hx⟩ : ∃ x, l[k]? = some x := ⟨l[k], List.getElem?_eq_getElem hlt⟩
      have hxs := unhide HX x (List.mem_of_getElem? hx)
      obtain ⟨a', cap', he, hcells⟩ := (unhide HV).below hI.bel
      obtain ⟨g, o, ha, hc⟩ := hcells (by intro h0; rw [h0] at hlt; cases hlt)
      cases he
      subst ha
      obtain ⟨c0, c1⟩ := hc k x hx
      have n1 : (0 : Int) ≤ (k : Int) := by omega
      have n2 : (k : Int) < (l.length : Int) := by omega
      have hdr : l.drop k = x :: l.drop (k + 1) := by
        rw [← List.getElem_cons_drop hlt]
        congr 1
        exact (List.getElem?_eq_some_iff.1 hx).2
      have htk : (l.take (k + 1)).map (·.1.data.toList) = (l.take k).map (·.1.data.toList) ++ [x.1.data.toList] := by
        rw [List.take_succ_eq_append_getElem hlt, List.map_append, (List.getElem?_eq_some_iff.1 hx).2]
        rfl
      have hnl : ((l.take k).map (·.1.data.toList)).length = k := by rw [List.length_map, List.length_take]; omega
      have hspec := hI.spec
      rw [hdr, attrsB_cons] at hspec
      have hbA : Below wr.heap.size wr (wr.alloc (.cells #[.string x.1, .string x.2] 40 (0, 0))) := (Below.refl _ _).alloc (Nat.le_refl _) _
      have NA := hI.map.on hbA
      have hb0 := Below.then hI.bel hbA
      obtain ⟨c, hlk⟩ := NA.look hxs.1
      have HTK := hide htk
      have HNA := hide NA
      have HNL := hide hnl
      clear hc hI hcells hdr hx htk NA hnl
      generalize (l.take k).map (·.1.data.toList) = names at *
      cases htw : names.contains x.1.data.toList
      · rw [htw] at hlk hspec
        rw [Bool.not_false, Bool.true_and] at hspec
        have HSP := hide hspec
        clear htw hspec
        go_wp2_with fail
        refine (isQName_any x.1 _ hxs.1 ((unhide HE).low (hb0.mono hB)).env).mono ?_
        rintro e w1 ⟨rfl, hb1⟩
        have hb01 := Below.then hb0 hb1
        cases hq : qB x.1
        · have HQ : Hid (attrsB [] l = false) := hide (by rw [unhide HSP, hq]; rfl)
          clear HSP hq
          go_wp2
          go_ret
          exact ⟨ret_bool (unhide HQ).symm, hb01⟩
        · have HSP2 : Hid (attrsB [] l = (textB x.2 && attrsB (names ++ [x.1.data.toList]) (l.drop (k + 1)))) := hide (by rw [unhide HSP, hq, Bool.true_and])
          have c1' := keptC hb1 (show (wr.alloc (.cells #[.string x.1, .string x.2] 40 (0, 0))).cell? ⟨wr.heap.size, 1, none⟩ = some (.string x.2) by simp [go_sem])
          have c0' := keptC hb1 (show (wr.alloc (.cells #[.string x.1, .string x.2] 40 (0, 0))).cell? ⟨wr.heap.size, 0, none⟩ = some (.string x.1) by simp [go_sem])
          have HC0 := hide c0'
          clear HSP hq c0'
          go_wp2_with fail
          refine (isText_any x.2 _).mono ?_
          rintro e w2 ⟨rfl, hb2⟩
          have hb02 := Below.then hb01 hb2
          cases ht : textB x.2
          · have HQ : Hid (attrsB [] l = false) := hide (by rw [unhide HSP2, ht]; rfl)
            clear HSP2 ht
            go_wp2
            go_ret
            exact ⟨ret_bool (unhide HQ).symm, hb02⟩
          · have HSP3 : Hid (attrsB [] l = attrsB (names ++ [x.1.data.toList]) (l.drop (k + 1))) := hide (by rw [unhide HSP2, ht, Bool.true_and])
            have c0' := keptC hb2 (unhide HC0)
            obtain ⟨D, hD, hh⟩ := ((unhide HNA).on hb1).on hb2
            have hlen : names.length < maxLen := by rw [unhide HNL]; unfold maxLen; omega
            have HKY : Hid (keyOf Tryz.prog 9 (.string x.1) = some (.string x.1.data.toList)) := hide (Go.WideMaps.keyOf_string_mk Tryz.underlying9 (by unfold maxLen; omega : x.1.size ≤ maxLen))
            have HPE : Hid (plainElem (H := Unit) Tryz.prog 3 (.int .i64 (k : Nat)) = some (.lit (.int .i64 (k : Nat)), [])) := hide (plainElem_int Tryz.underlying3 (wf_i64b (by omega)))
            have HD := hide hD
            have HH := hide hh
            have hmlt : w.heap.size < w2.heap.size := hD.lt
            clear HSP2 ht hD hh HC0 hlk
            go_wp2_with (at_mapUpdate; refine wpList_mapUpdate_own _ rfl _ _ _ 89 rfl 9 3 (Maps.string_keyed Tryz.underlying9) Tryz.underlying89 (plainElem Tryz.prog 3) w.heap.size names.length D rfl (unhide HD) hlen _ _ (.string x.1.data.toList) rfl rfl (unhide HKY) (.lit (.int .i64 (k : Nat))) [] (unhide HPE) ?_; intro w6 hown6 hgrow6)
            have hb6 : Below w.heap.size w w6 := hb02.grown hgrow6 (by omega) (fun j hj => by cases hj; exact Nat.le_refl _)
            have N6 := NamesAt.named (str_keyB _) (unhide HD) (unhide HH) hown6
            have HI6 : Hid (AreInv w l (k + 1) w6) := hide ⟨by omega, hb6, by rw [unhide HTK]; exact N6, by rw [unhide HTK]; exact unhide HSP3⟩
            clear HD HH N6 hown6 hgrow6 HKY HPE
            go_round
            case measure => simp [intOf]; omega
            case rel => exact ⟨k + 1, by simp, unhide HI6⟩
      · rw [htw] at hlk hspec
        have HSP := hide hspec
        clear htw hspec
        go_wp2
        go_ret
        exact ⟨ret_bool (by rw [unhide HSP]; rfl), hb0⟩
    · have n2 : ¬ (k : Int) < (l.length : Int) := by omega
      have hkl : k = l.length := by omega
      have HI := hide hI
      clear hI
      go_wp2
      go_ret
      refine ⟨ret_bool ?_, (unhide HI).bel⟩
      rw [(unhide HI).spec, hkl, List.drop_length]
      rfl
end Go.Proofs.YtkklapoceknbcaaGreatDoor
/- Whether a token may stand in some document: xmlscan's isToken. -/
namespace Go.Proofs.YtkklapoceknbcaaGreatDoor
open Go.RowKit
/-- A token as it is handed in: none of its parts is great. -/
structure Small (t : BTok) : Prop where
  l : t.attrs.length ≤ 1048576
  a : ∀ x ∈ t.attrs, x.1.size ≤ 1048576 ∧ x.2.size ≤ 1048576
  n : t.name.size ≤ 1048576
  x : t.text.size ≤ 1048576
def tokV (t : BTok) (v : Value) : Array Value := #[.int .i64 t.kind, .string t.name, v, .string t.text]
/-- A token's own cells, and nothing else new that matters. -/
structure TokBox (w : World) (t : BTok) (v : Value) (W : World) : Prop where
  bel : Below w.heap.size w W
  lt : w.heap.size < W.heap.size
  c0 : W.cell? ⟨w.heap.size, 0, none⟩ = some (.int .i64 t.kind)
  c1 : W.cell? ⟨w.heap.size, 1, none⟩ = some (.string t.name)
  c2 : W.cell? ⟨w.heap.size, 2, none⟩ = some v
  c3 : W.cell? ⟨w.heap.size, 3, none⟩ = some (.string t.text)
theorem TokBox.on {w W W' : World} {t : BTok} {v : Value} (h : TokBox w t v W) (hb : Below W.heap.size W W') : TokBox w t v W' :=
  ⟨Below.then h.bel hb, Nat.lt_of_lt_of_le h.lt hb.size, keptC hb h.c0, keptC hb h.c1, keptC hb h.c2, keptC hb h.c3⟩
theorem okB2 (n : ByteArray) (l : List (ByteArray × ByteArray)) (x : ByteArray) : okB ⟨2, n, l, x⟩ = (x.toList.isEmpty && (qB n && attrsB [] l)) := rfl
theorem okB7 (n : ByteArray) (l : List (ByteArray × ByteArray)) (x : ByteArray) : okB ⟨7, n, l, x⟩ = (x.toList.isEmpty && (l.isEmpty && qB n)) := rfl
theorem okB4 (n : ByteArray) (l : List (ByteArray × ByteArray)) (x : ByteArray) : okB ⟨4, n, l, x⟩ = (n.toList.isEmpty && (l.isEmpty && (!x.toList.isEmpty && textB x))) := rfl
theorem okB5 (n : ByteArray) (l : List (ByteArray × ByteArray)) (x : ByteArray) : okB ⟨5, n, l, x⟩ = (n.toList.isEmpty && (l.isEmpty && comB x)) := rfl
theorem okB6 (n : ByteArray) (l : List (ByteArray × ByteArray)) (x : ByteArray) : okB ⟨6, n, l, x⟩ = (l.isEmpty && (tarB n && insB x)) := rfl
set_option maxRecDepth 100000 in
set_option maxHeartbeats 8000000 in
theorem isToken_any (t : BTok) (v : Value) (w : World) (hv : PairsArg w v t.attrs) (hs : Small t) (B : Nat) (hB : B ≤ w.heap.size) (hE : XEnv B w) :
    Calls Tryz.prog 25 #[.agg #[.int .i64 t.kind, .string t.name, v, .string t.text]] w fun e w' => e = .returned (.bool (okB t)) ∧ Below w.heap.size w w' := by
  have HV := hide hv
  have HS := hide hs
  have HE := hide hE
  obtain ⟨a, cap, rfl, _⟩ := hv
  have HB0 : Hid (TokBox w t (.slice a t.attrs.length cap) (w.alloc (.cells (tokV t (.slice a t.attrs.length cap)) 37 (0, 0)))) := hide (by
    unfold tokV
    refine ⟨(Below.refl _ _).alloc (Nat.le_refl _) _, by simp, ?_, ?_, ?_, ?_⟩
    all_goals simp [go_sem])
  obtain ⟨k, n, l, x⟩ := t
  simp only at *
  clear hs hE
  go_enter Tryz.func25, Tryz.ntmps25
  go_wp2_with fail
  go_quiet (fail)
  have HB1 : Hid (TokBox w ⟨k, n, l, x⟩ (.slice a l.length cap) _) := hide ((unhide HB0).on (below_drewN _ nq))
  unfold tokV at HB1
  simp only at HB1
  generalize (w.alloc (.cells #[.int .i64 k, .string n, .slice a l.length cap, .string x] 37 (0, 0))).drewN nq = W at *
  clear HB0
  have hbW := (unhide HB1).bel
  have c0 := (unhide HB1).c0
  have c1 := (unhide HB1).c1
  have c2 := (unhide HB1).c2
  have c3 := (unhide HB1).c3
  simp only at c0 c1 c2 c3
  have HEW := hide ((unhide HE).low (hbW.mono hB))
  have hBW : B ≤ W.heap.size := Nat.le_trans hB hbW.size
  by_cases k2 : k = 2
  · subst k2
    have HOK := hide (okB2 n l x)
    cases hx0 : x.toList.isEmpty
    · have HR : Hid (okB ⟨2, n, l, x⟩ = false) := hide (by rw [unhide HOK, hx0]; rfl)
      clear HOK
      go_wp2
      go_ret
      exact ⟨ret_bool (unhide HR).symm, hbW⟩
    · rw [hx0, Bool.true_and] at HOK
      go_wp2_with fail
      refine (isQName_any n _ (unhide HS).n (unhide HEW).env).mono ?_
      rintro e w1 ⟨rfl, hb1⟩
      have hbW1 := Below.then hbW hb1
      have d2 := keptC hb1 c2
      cases hq : qB n
      · have HR : Hid (okB ⟨2, n, l, x⟩ = false) := hide (by rw [unhide HOK, hq]; rfl)
        clear HOK hq
        go_wp2
        go_ret
        exact ⟨ret_bool (unhide HR).symm, hbW1⟩
      · have HR : Hid (okB ⟨2, n, l, x⟩ = attrsB [] l) := hide (by rw [unhide HOK, hq, Bool.true_and])
        clear HOK hq
        go_wp2_with fail
        refine (areAttributes_any l _ _ ((unhide HV).below hbW1) (unhide HS).l (unhide HS).a B (Nat.le_trans hBW hb1.size) ((unhide HEW).on hBW hb1)).mono ?_
        rintro e w2 ⟨rfl, hb2⟩
        go_wp2
        go_ret
        exact ⟨ret_bool (unhide HR).symm, Below.then hbW1 hb2⟩
  · have g2 : (k == 2) = false := by simpa using k2
    by_cases k7 : k = 7
    · subst k7
      have HOK := hide (okB7 n l x)
      cases hx0 : x.toList.isEmpty
      · have HR : Hid (okB ⟨7, n, l, x⟩ = false) := hide (by rw [unhide HOK, hx0]; rfl)
        clear HOK
        go_wp2
        go_ret
        exact ⟨ret_bool (unhide HR).symm, hbW⟩
      · rw [hx0, Bool.true_and] at HOK
        cases hl0 : l.isEmpty
        · have HR : Hid (okB ⟨7, n, l, x⟩ = false) := hide (by rw [unhide HOK, hl0]; rfl)
          have hl1 : 0 < l.length := by cases l with | nil => cases hl0 | cons _ _ => simp
          clear HOK hl0
          go_wp2
          go_ret
          exact ⟨ret_bool (unhide HR).symm, hbW⟩
        · have HR : Hid (okB ⟨7, n, l, x⟩ = qB n) := hide (by rw [unhide HOK, hl0, Bool.true_and])
          have hl1 : ¬ 0 < l.length := by cases l with | nil => simp | cons _ _ => cases hl0
          clear HOK hl0
          go_wp2_with fail
          refine (isQName_any n _ (unhide HS).n (unhide HEW).env).mono ?_
          rintro e w1 ⟨rfl, hb1⟩
          go_wp2
          go_ret
          exact ⟨ret_bool (unhide HR).symm, Below.then hbW hb1⟩
    · have g7 : (k == 7) = false := by simpa using k7
      by_cases k4 : k = 4
      · subst k4
        have HOK := hide (okB4 n l x)
        cases hn0 : n.toList.isEmpty
        · have HR : Hid (okB ⟨4, n, l, x⟩ = false) := hide (by rw [unhide HOK, hn0]; rfl)
          clear HOK
          go_wp2
          go_ret
          exact ⟨ret_bool (unhide HR).symm, hbW⟩
        · rw [hn0, Bool.true_and] at HOK
          cases hl0 : l.isEmpty
          · have HR : Hid (okB ⟨4, n, l, x⟩ = false) := hide (by rw [unhide HOK, hl0]; rfl)
            have hl1 : 0 < l.length := by cases l with | nil => cases hl0 | cons _ _ => simp
            clear HOK hl0
            go_wp2
            go_ret
            exact ⟨ret_bool (unhide HR).symm, hbW⟩
          · rw [hl0, Bool.true_and] at HOK
            have hl1 : ¬ 0 < l.length := by cases l with | nil => simp | cons _ _ => cases hl0
            clear hl0
            cases hx0 : x.toList.isEmpty
            · have HR : Hid (okB ⟨4, n, l, x⟩ = textB x) := hide (by rw [unhide HOK, hx0]; rfl)
              clear HOK
              go_wp2_with fail
              refine (isText_any x _).mono ?_
              rintro e w1 ⟨rfl, hb1⟩
              go_wp2
              go_ret
              exact ⟨ret_bool (unhide HR).symm, Below.then hbW hb1⟩
            · have HR : Hid (okB ⟨4, n, l, x⟩ = false) := hide (by rw [unhide HOK, hx0]; rfl)
              clear HOK
              go_wp2
              go_ret
              exact ⟨ret_bool (unhide HR).symm, hbW⟩
      · have g4 : (k == 4) = false := by simpa using k4
        by_cases k5 : k = 5
        · subst k5
          have HOK := hide (okB5 n l x)
          cases hn0 : n.toList.isEmpty
          · have HR : Hid (okB ⟨5, n, l, x⟩ = false) := hide (by rw [unhide HOK, hn0]; rfl)
            clear HOK
            go_wp2
            go_ret
            exact ⟨ret_bool (unhide HR).symm, hbW⟩
          · rw [hn0, Bool.true_and] at HOK
            cases hl0 : l.isEmpty
            · have HR : Hid (okB ⟨5, n, l, x⟩ = false) := hide (by rw [unhide HOK, hl0]; rfl)
              have hl1 : 0 < l.length := by cases l with | nil => cases hl0 | cons _ _ => simp
              clear HOK hl0
              go_wp2
              go_ret
              exact ⟨ret_bool (unhide HR).symm, hbW⟩
            · have HR : Hid (okB ⟨5, n, l, x⟩ = comB x) := hide (by rw [unhide HOK, hl0, Bool.true_and])
              have hl1 : ¬ 0 < l.length := by cases l with | nil => simp | cons _ _ => cases hl0
              clear HOK hl0
              go_wp2_with fail
              refine (isComment_any x _ (unhide HS).x B hBW (unhide HEW)).mono ?_
              rintro e w1 ⟨rfl, hb1⟩
              go_wp2
              go_ret
              exact ⟨ret_bool (unhide HR).symm, Below.then hbW hb1⟩
        · have g5 : (k == 5) = false := by simpa using k5
          by_cases k6 : k = 6
          · subst k6
            have HOK := hide (okB6 n l x)
            cases hl0 : l.isEmpty
            · have HR : Hid (okB ⟨6, n, l, x⟩ = false) := hide (by rw [unhide HOK, hl0]; rfl)
              have hl1 : 0 < l.length := by cases l with | nil => cases hl0 | cons _ _ => simp
              clear HOK hl0
              go_wp2
              go_ret
              exact ⟨ret_bool (unhide HR).symm, hbW⟩
            · rw [hl0, Bool.true_and] at HOK
              have hl1 : ¬ 0 < l.length := by cases l with | nil => simp | cons _ _ => cases hl0
              clear hl0
              go_wp2_with fail
              refine (isTargetB_any n _ (unhide HS).n B hBW (unhide HEW)).mono ?_
              rintro e w1 ⟨rfl, hb1⟩
              have hbW1 := Below.then hbW hb1
              have d3 := keptC hb1 c3
              cases hq : tarB n
              · have HR : Hid (okB ⟨6, n, l, x⟩ = false) := hide (by rw [unhide HOK, hq]; rfl)
                clear HOK hq
                go_wp2
                go_ret
                exact ⟨ret_bool (unhide HR).symm, hbW1⟩
              · have HR : Hid (okB ⟨6, n, l, x⟩ = insB x) := hide (by rw [unhide HOK, hq, Bool.true_and])
                clear HOK hq
                go_wp2_with fail
                refine (isInstruction_any x _ (unhide HS).x B (Nat.le_trans hBW hb1.size) ((unhide HEW).on hBW hb1)).mono ?_
                rintro e w2 ⟨rfl, hb2⟩
                go_wp2
                go_ret
                exact ⟨ret_bool (unhide HR).symm, Below.then hbW1 hb2⟩
          · have g6 : (k == 6) = false := by simpa using k6
            have HR : Hid (okB ⟨k, n, l, x⟩ = false) := hide (by unfold okB; simp only [if_neg k2, if_neg k7, if_neg k4, if_neg k5, if_neg k6])
            clear k2 k7 k4 k5 k6
            go_wp2
            go_ret
            exact ⟨ret_bool (unhide HR).symm, hbW⟩
end Go.Proofs.YtkklapoceknbcaaGreatDoor
/- Whether tokens are a document's: xmlscan's isDocument. -/
namespace Go.Proofs.YtkklapoceknbcaaGreatDoor
open Go.RowKit
structure DocSt (w : World) (ts : List BTok) (k : Nat) (o : List ByteArray) (r : Bool) (last : Int) (vo : Value) (w' : World) : Prop where
  le : k ≤ ts.length
  bel : Below w.heap.size w w'
  row : w'.ownsRow w.heap.size 9 1 vo o.length (o.map Value.string)
  few : o.length ≤ k
  spec : docB [] false 0 ts = docB o r last (ts.drop k)
theorem docB_cons (o : List ByteArray) (r : Bool) (last : Int) (t : BTok) (ts : List BTok) : docB o r last (t :: ts) = (okB t && (match docStp o r last t with
    | none => false
    | some x => docB x.1 x.2 t.kind ts)) := rfl
theorem ok_kinds {t : BTok} (h : okB t = true) : t.kind = 2 ∨ t.kind = 7 ∨ t.kind = 4 ∨ t.kind = 5 ∨ t.kind = 6 := by
  unfold okB at h
  by_cases h2 : t.kind = 2
  · exact .inl h2
  · by_cases h7 : t.kind = 7
    · exact .inr (.inl h7)
    · by_cases h4 : t.kind = 4
      · exact .inr (.inr (.inl h4))
      · by_cases h5 : t.kind = 5
        · exact .inr (.inr (.inr (.inl h5)))
        · by_cases h6 : t.kind = 6
          · exact .inr (.inr (.inr (.inr h6)))
          · simp only [if_neg h2, if_neg h7, if_neg h4, if_neg h5, if_neg h6] at h
            cases h
theorem strs_last {w : World} {B : Nat} {vo : Value} {o : List ByteArray} (h : w.ownsRow B 9 1 vo o.length (o.map Value.string)) {y : ByteArray} (hy : o.getLast? = some y) : ∃ g c, vo = .slice (some ⟨g, 0, none⟩) o.length c ∧ w.cell? ⟨g, o.length - 1, none⟩ = some (.string y) ∧ o.length ≤ c := by
  have hne : o ≠ [] := fun h0 => by rw [h0] at hy; cases hy
  have hl := List.length_pos_iff.2 hne
  rcases h.2 with ⟨_, h0⟩ | ⟨g, c, cur, rfl, h2, h3, h4⟩
  · omega
  · refine ⟨g, c, rfl, ?_, h4.1⟩
    have hc := h.cellAt (o.length - 1) (by omega)
    rw [List.getLast?_eq_getElem?] at hy
    rw [hc, List.getElem?_map, hy]
    rfl
theorem strs_drop {w : World} {B : Nat} {a : Option Addr} {c : Nat} {o : List ByteArray} (h : w.ownsRow B 9 1 (.slice a o.length c) o.length (o.map Value.string)) : w.ownsRow B 9 1 (.slice a (o.length - 1) c) o.dropLast.length (o.dropLast.map Value.string) := by
  have h1 := owns_pre h (k := o.length - 1) (by omega)
  rw [Nat.mul_one, ← List.map_take, ← List.dropLast_eq_take] at h1
  rw [List.length_dropLast]
  exact h1
theorem box_kept {W W' : World} {p : Nat} {c : Array Value} {t : TypeId} {z : Nat × Nat} {own : Option Nat} (hp : W.heap[p]? = some (.cells c t z)) (hg : W.grownBy W' own) (hne : own ≠ some p) : W'.heap[p]? = some (.cells c t z) := by
  rw [hg.block p (Array.getElem?_eq_some_iff.1 hp).1 (fun e => hne e.symm)]
  exact hp
theorem alloc_blk (w : World) (o : Obj) : (w.alloc o).heap[w.heap.size]? = some o := by
  show (w.heap.push o)[w.heap.size]? = some o
  exact Array.getElem?_push_size
theorem infoStrD : (Tryz.prog.info? 9).map (fun i => (i.zero, i.size, i.bytes)) = some (some (.string ⟨#[]⟩), 1, 16) := by kernel_rfl
theorem newsOne {W : World} {g : Nat} {a : Value} (h0 : W.cell? ⟨g, 0, none⟩ = some a) : ∀ j u, [a][j]? = some u → W.cell? ((⟨g, 0, none⟩ : Addr).add j) = some u := by
  intro j u h
  rw [Addr.add_mid, Nat.zero_add]
  match j, h with
  | 0, h => cases h; exact h0
theorem docS2 (o : List ByteArray) (r : Bool) (last : Int) (n : ByteArray) (l : List (ByteArray × ByteArray)) (x : ByteArray) : docStp o r last ⟨2, n, l, x⟩ = if (o.isEmpty && r) = true then none else some (o ++ [n], true) := rfl
theorem docS7 (o : List ByteArray) (r : Bool) (last : Int) (n : ByteArray) (l : List (ByteArray × ByteArray)) (x : ByteArray) : docStp o r last ⟨7, n, l, x⟩ = match o.getLast? with | none => none | some y => if (y.toList == n.toList) = true then some (o.dropLast, r) else none := rfl
theorem docS4 (o : List ByteArray) (r : Bool) (last : Int) (n : ByteArray) (l : List (ByteArray × ByteArray)) (x : ByteArray) : docStp o r last ⟨4, n, l, x⟩ = if (o.isEmpty || last == 4) = true then none else some (o, r) := rfl
set_option maxRecDepth 100000 in
set_option maxHeartbeats 8000000 in
theorem isDocument_any (ts : List BTok) (a : Option Addr) (cap : Nat) (w : World) (hv : ToksArg w a ts) (hn : ts.length ≤ 1048576) (hs : ∀ t ∈ ts, Small t) (B : Nat) (hB : B ≤ w.heap.size) (hE : XEnv B w) :
    Calls Tryz.prog 14 #[.slice a ts.length cap] w fun e w' => e = .returned (.bool (docB [] false 0 ts)) ∧ Below w.heap.size w w' := by
  have HV := hide hv
  have HS := hide hs
  have HE := hide hE
  have HI0 : Hid (DocSt w ts 0 [] false 0 (.slice none 0 0) w) := hide ⟨Nat.zero_le _, Below.refl _ _, World.ownsRow_nil _ _ _ _, Nat.le_refl _, rfl⟩
  clear hv hs hE
  go_enter Tryz.func14, Tryz.ntmps14
  go_wp2_with fail
  go_loopw [3, 4, 5, 11] (fun s3 s4 s5 i wr => ∃ (k : Nat) (o : List ByteArray) (r : Bool) (last : Int), i = .int .i64 (k : Nat) ∧ s4 = .bool r ∧ s5 = .int .i64 last ∧ DocSt w ts k o r last s3 wr) (fun _ _ _ i _ => ts.length - (intOf i).toNat)
  case atStart => exact ⟨0, [], false, 0, rfl, rfl, rfl, unhide HI0⟩
  case round =>
    clear HI0
    obtain ⟨k, o, r, last, rfl, rfl, rfl, hI⟩ := hrel
    have hk := hI.le
    obtain ⟨ao, co, rfl⟩ := owns_slice hI.row
    by_cases hlt : k < ts.length
    · obtain ⟨t, ht⟩ : ∃ t, ts[k]? = some t := ⟨ts[k], List.getElem?_eq_getElem hlt⟩
      have hts := unhide HS t (List.mem_of_getElem? ht)
      obtain ⟨g, oo, ha, hc⟩ := ((unhide HV).below hI.bel) (by intro h0; rw [h0] at hlt; cases hlt)
      subst ha
      obtain ⟨c0, c1, ⟨v, c2, hpv⟩, c3⟩ := hc k t ht
      obtain ⟨va, vc, hve, _⟩ := id hpv
      subst hve
      have n1 : (0 : Int) ≤ (k : Int) := by omega
      have n2 : (k : Int) < (ts.length : Int) := by omega
      have hdr : ts.drop k = t :: ts.drop (k + 1) := by
        rw [← List.getElem_cons_drop hlt]
        congr 1
        exact (List.getElem?_eq_some_iff.1 ht).2
      have hspec := hI.spec
      rw [hdr, docB_cons] at hspec
      have HSP := hide hspec
      have hbA : Below wr.heap.size wr (wr.alloc (.cells (tokV t (.slice va t.attrs.length vc)) 37 (0, 0))) := (Below.refl _ _).alloc (Nat.le_refl _) _
      have HBX : Hid (TokBox wr t (.slice va t.attrs.length vc) (wr.alloc (.cells (tokV t (.slice va t.attrs.length vc)) 37 (0, 0)))) := hide (by
        unfold tokV
        refine ⟨(Below.refl _ _).alloc (Nat.le_refl _) _, by simp, ?_, ?_, ?_, ?_⟩
        all_goals simp [go_sem])
      have hb00 := hI.bel.size
      have hb0 := Below.then hI.bel hbA
      have HR := hide (owns_below hI.row hbA)
      have hfew := hI.few
      have HPV := hide (hpv.below hbA)
      unfold tokV at hbA HBX hb0 HR HPV
      clear hc hI hdr ht hspec hpv
      go_wp2_with fail
      refine (isToken_any t _ _ (unhide HPV) hts B (Nat.le_trans (Nat.le_trans hB hb00) hbA.size) ((unhide HE).low (hb0.mono hB))).mono ?_
      rintro e w2 ⟨rfl, hb2⟩
      have hb02 := Below.then hb0 hb2
      have hbk := block_below (show (wr.alloc (.cells #[.int .i64 t.kind, .string t.name, .slice va t.attrs.length vc, .string t.text] 37 (0, 0))).heap[wr.heap.size]? = some (.cells #[.int .i64 t.kind, .string t.name, .slice va t.attrs.length vc, .string t.text] 37 (0, 0)) from alloc_blk _ _) hb2
      have HBK := hide hbk
      have HR2 := hide (owns_below (unhide HR) hb2)
      have hlt2 : w.heap.size ≤ w2.heap.size := hb02.size
      have d0 : w2.cell? ⟨wr.heap.size, 0, none⟩ = some (.int .i64 t.kind) := blk_cell hbk 0
      have d1 : w2.cell? ⟨wr.heap.size, 1, none⟩ = some (.string t.name) := blk_cell hbk 1
      clear HR HBX HPV hbk c0 c1 c2 c3
      cases hok : okB t
      · have HF : Hid (docB [] false 0 ts = false) := hide (by rw [unhide HSP, hok]; rfl)
        clear HSP hok
        go_wp2
        go_ret
        exact ⟨ret_bool (unhide HF).symm, hb02⟩
      · have HS2 : Hid (docB [] false 0 ts = (match docStp o r last t with | none => false | some x => docB x.1 x.2 t.kind (ts.drop (k + 1)))) := hide (by rw [unhide HSP, hok, Bool.true_and])
        have hkk := ok_kinds hok
        clear HSP hok
        obtain ⟨kd, nm, ats, tx'⟩ := t
        simp only at *
        have HI := hide (fun (o' : List ByteArray) (r' : Bool) (v' : Value) (W' : World) (h1 : Below w.heap.size w W') (h2 : W'.ownsRow w.heap.size 9 1 v' o'.length (o'.map Value.string)) (h3 : o'.length ≤ k + 1) (h4 : docStp o r last ⟨kd, nm, ats, tx'⟩ = some (o', r')) => (⟨by omega, h1, h2, h3, by rw [unhide HS2, h4]⟩ : DocSt w ts (k + 1) o' r' kd v' W'))
        have HF : Hid (docStp o r last ⟨kd, nm, ats, tx'⟩ = none → docB [] false 0 ts = false) := hide fun h => by rw [unhide HS2, h]
        clear HS2
        rcases hkk with rfl | rfl | rfl | rfl | rfl
        · -- an element
          have HD := hide (docS2 o r last nm ats tx')
          cases hoe : o.isEmpty
          · have htop : (((o.length : Nat) : Int) == 0) = false := by cases o with | nil => cases hoe | cons _ _ => simp; omega
            have HDS : Hid (docStp o r last ⟨2, nm, ats, tx'⟩ = some (o ++ [nm], true)) := hide (by rw [unhide HD, hoe, Bool.false_and]; rfl)
            obtain ⟨i0, hi, hz0, hz1, hz2⟩ := info_parts infoStrD
            go_wp2_with (at_builtin; refine wpList_append_own _ rfl _ _ 54 rfl w.heap.size 9 i0 _ 1 16 Tryz.underlying54 hi hz0 hz1 hz2 rfl (by decide) _ o.length (o.map Value.string) rfl (owns_below (unhide HR2) ((Below.refl _ _).alloc (Nat.le_refl _) _)) ⟨w2.heap.size, 0, none⟩ 1 1 [.string nm] rfl rfl (newsOne (by simp [go_sem])) (fun u hu => by simp at hu; subst hu; rfl) (by unfold maxLen; omega) (by omega) (by simp; omega) ?_; intro v8 w8 hown8 hgrow8 _; have e0 : w8.cell? ⟨wr.heap.size, 0, none⟩ = some (.int .i64 2) := blk_cell (box_kept (block_below (unhide HBK) ((Below.refl _ _).alloc (Nat.le_refl _) _)) hgrow8 (owns_not (unhide HR2) (unhide HBK) (by decide))) 0)
            have hb8 : Below w.heap.size w w8 := (Below.then hb02 ((Below.refl _ _).alloc (Nat.le_refl _) _)).grown hgrow8 (by simp; omega) (fun j hj => ((unhide HR2).lt j hj).1)
            have HI8 := hide (unhide HI (o ++ [nm]) true v8 w8 hb8 (by rw [List.length_append, List.map_append]; exact hown8) (by rw [List.length_append]; simp; omega) (unhide HDS))
            clear HI HF HDS HD hown8 hgrow8 hi hz0 hz1 hz2
            go_round
            case measure => simp [intOf]; omega
            case rel => exact ⟨k + 1, o ++ [nm], true, 2, by simp, rfl, rfl, unhide HI8⟩
          · have htop : (((o.length : Nat) : Int) == 0) = true := by cases o with | nil => rfl | cons _ _ => cases hoe
            cases r
            · have HDS : Hid (docStp o false last ⟨2, nm, ats, tx'⟩ = some (o ++ [nm], true)) := hide (by rw [unhide HD, hoe, Bool.and_false]; rfl)
              obtain ⟨i0, hi, hz0, hz1, hz2⟩ := info_parts infoStrD
              go_wp2_with (at_builtin; refine wpList_append_own _ rfl _ _ 54 rfl w.heap.size 9 i0 _ 1 16 Tryz.underlying54 hi hz0 hz1 hz2 rfl (by decide) _ o.length (o.map Value.string) rfl (owns_below (unhide HR2) ((Below.refl _ _).alloc (Nat.le_refl _) _)) ⟨w2.heap.size, 0, none⟩ 1 1 [.string nm] rfl rfl (newsOne (by simp [go_sem])) (fun u hu => by simp at hu; subst hu; rfl) (by unfold maxLen; omega) (by omega) (by simp; omega) ?_; intro v8 w8 hown8 hgrow8 _; have e0 : w8.cell? ⟨wr.heap.size, 0, none⟩ = some (.int .i64 2) := blk_cell (box_kept (block_below (unhide HBK) ((Below.refl _ _).alloc (Nat.le_refl _) _)) hgrow8 (owns_not (unhide HR2) (unhide HBK) (by decide))) 0)
              have hb8 : Below w.heap.size w w8 := (Below.then hb02 ((Below.refl _ _).alloc (Nat.le_refl _) _)).grown hgrow8 (by simp; omega) (fun j hj => ((unhide HR2).lt j hj).1)
              have HI8 := hide (unhide HI (o ++ [nm]) true v8 w8 hb8 (by rw [List.length_append, List.map_append]; exact hown8) (by rw [List.length_append]; simp; omega) (unhide HDS))
              clear HI HF HDS HD hown8 hgrow8 hi hz0 hz1 hz2
              go_round
              case measure => simp [intOf]; omega
              case rel => exact ⟨k + 1, o ++ [nm], true, 2, by simp, rfl, rfl, unhide HI8⟩
            · have HNO : docStp o true last ⟨2, nm, ats, tx'⟩ = none := by rw [unhide HD, hoe]; rfl
              clear HI
              go_wp2
              go_ret
              exact ⟨ret_bool (unhide HF HNO).symm, hb02⟩
        · have HD := hide (docS7 o r last nm ats tx')
          cases hg : o.getLast? with
          | none =>
            have HNO : Hid (docStp o r last ⟨7, nm, ats, tx'⟩ = none) := hide (by rw [unhide HD, hg])
            have hoe : o = [] := List.getLast?_eq_none_iff.1 hg
            have htop : (((o.length : Nat) : Int) == 0) = true := by rw [hoe]; rfl
            clear HI HD hg hoe
            go_wp2_with fail
            rw [htop]
            clear htop
            go_quiet (fail)
            go_wp2
            go_ret
            exact ⟨ret_bool (unhide HF (unhide HNO)).symm, Below.then hb02 (below_drewN _ _)⟩
          | some y =>
            have hne : o ≠ [] := fun h0 => by rw [h0] at hg; cases hg
            have hol := List.length_pos_iff.2 hne
            have htop : (((o.length : Nat) : Int) == 0) = false := by simp; omega
            obtain ⟨g7, c7, he7, hc7, hle7⟩ := strs_last (unhide HR2) hg
            cases he7
            have i1 : (0 : Int) ≤ (o.length : Int) - 1 := by omega
            have i2 : (o.length : Int) - 1 < (o.length : Int) := by omega
            have i3 : ((o.length : Int) - 1).toNat = o.length - 1 := by omega
            have i4 : IntKind.i64.wrap ((o.length : Int) - 1) = (o.length : Int) - 1 := by rw [IntKind.wrap_i64]; omega
            cases hcmp : (y.toList == nm.toList)
            · have HNO : Hid (docStp o r last ⟨7, nm, ats, tx'⟩ = none) := hide (by rw [unhide HD, hg]; simp only; rw [hcmp]; rfl)
              clear HI HD hg hne
              go_wp2_with fail
              rw [htop]
              clear htop
              go_quiet (fail)
              go_wp2
              go_ret
              exact ⟨ret_bool (unhide HF (unhide HNO)).symm, Below.then hb02 (below_drewN _ _)⟩
            · have HDS : Hid (docStp o r last ⟨7, nm, ats, tx'⟩ = some (o.dropLast, r)) := hide (by rw [unhide HD, hg]; simp only; rw [hcmp]; rfl)
              clear HF HD hg hne
              go_wp2_with fail
              rw [htop]
              clear htop
              go_quiet (fail)
              have hbq := below_drewN w2 nq
              have e0 := keptC hbq d0
              have HI8 := hide (unhide HI o.dropLast r _ (w2.drewN nq) (Below.then hb02 hbq) (strs_drop (owns_below (unhide HR2) hbq)) (by rw [List.length_dropLast]; omega) (unhide HDS))
              clear HI HDS
              generalize w2.drewN nq = W at *
              go_wp2_with fail
              go_round
              case measure => simp [intOf]; omega
              case rel => exact ⟨k + 1, o.dropLast, r, 7, by simp, rfl, rfl, unhide HI8⟩
        · have HD := hide (docS4 o r last nm ats tx')
          have htop : (((o.length : Nat) : Int) == 0) = o.isEmpty := by cases o with | nil => rfl | cons _ _ => simp; omega
          cases hoe : o.isEmpty
          · rw [hoe] at htop
            cases hla : (last == 4)
            · have HDS : Hid (docStp o r last ⟨4, nm, ats, tx'⟩ = some (o, r)) := hide (by rw [unhide HD, hoe, hla]; rfl)
              clear HF HD hoe
              go_wp2_with fail
              rw [htop]
              clear htop
              go_quiet (fail)
              have hbq := below_drewN w2 nq
              have e0 := keptC hbq d0
              have HI8 := hide (unhide HI o r (.slice ao o.length co) (w2.drewN nq) (Below.then hb02 hbq) (owns_below (unhide HR2) hbq) (by omega) (unhide HDS))
              clear HI HDS
              generalize w2.drewN nq = W at *
              go_wp2_with fail
              go_round
              case measure => simp [intOf]; omega
              case rel => exact ⟨k + 1, o, r, 4, by simp, rfl, rfl, unhide HI8⟩
            · have HNO : Hid (docStp o r last ⟨4, nm, ats, tx'⟩ = none) := hide (by rw [unhide HD, hoe, hla]; rfl)
              have hl4 : last = 4 := by simpa using hla
              subst hl4
              clear HI HD hoe hla
              go_wp2_with fail
              rw [htop]
              clear htop
              go_quiet (fail)
              have hbq := below_drewN w2 nq
              have e0 := keptC hbq d0
              generalize w2.drewN nq = W at *
              go_wp2
              go_ret
              exact ⟨ret_bool (unhide HF (unhide HNO)).symm, Below.then hb02 hbq⟩
          · rw [hoe] at htop
            have HNO : Hid (docStp o r last ⟨4, nm, ats, tx'⟩ = none) := hide (by rw [unhide HD, hoe]; rfl)
            clear HI HD hoe
            go_wp2_with fail
            rw [htop]
            clear htop
            go_quiet (fail)
            have hbq := below_drewN w2 nq
            have e0 := keptC hbq d0
            generalize w2.drewN nq = W at *
            go_wp2
            go_ret
            exact ⟨ret_bool (unhide HF (unhide HNO)).symm, Below.then hb02 hbq⟩
        · have HDS : Hid (docStp o r last ⟨5, nm, ats, tx'⟩ = some (o, r)) := hide rfl
          clear HF
          go_wp2_with fail
          generalize (((o.length : Nat) : Int) == 0) = b at *
          go_quiet (fail)
          have hbq := below_drewN w2 nq
          have e0 := keptC hbq d0
          have HI8 := hide (unhide HI o r (.slice ao o.length co) (w2.drewN nq) (Below.then hb02 hbq) (owns_below (unhide HR2) hbq) (by omega) (unhide HDS))
          clear HI HDS
          generalize w2.drewN nq = W at *
          go_wp2_with fail
          go_round
          case measure => simp [intOf]; omega
          case rel => exact ⟨k + 1, o, r, 5, by simp, rfl, rfl, unhide HI8⟩
        · have HDS : Hid (docStp o r last ⟨6, nm, ats, tx'⟩ = some (o, r)) := hide rfl
          clear HF
          go_wp2_with fail
          generalize (((o.length : Nat) : Int) == 0) = b at *
          go_quiet (fail)
          have hbq := below_drewN w2 nq
          have e0 := keptC hbq d0
          have HI8 := hide (unhide HI o r (.slice ao o.length co) (w2.drewN nq) (Below.then hb02 hbq) (owns_below (unhide HR2) hbq) (by omega) (unhide HDS))
          clear HI HDS
          generalize w2.drewN nq = W at *
          go_wp2_with fail
          go_round
          case measure => simp [intOf]; omega
          case rel => exact ⟨k + 1, o, r, 6, by simp, rfl, rfl, unhide HI8⟩
    · have n2 : ¬ (k : Int) < (ts.length : Int) := by omega
      have hkl : k = ts.length := by omega
      have hsp := hI.spec
      rw [hkl, List.drop_length] at hsp
      have HSP : Hid (docB [] false 0 ts = (r && o.isEmpty)) := hide hsp
      have hbI := hI.bel
      have htop : (((o.length : Nat) : Int) == 0) = o.isEmpty := by cases o with | nil => rfl | cons _ _ => simp; omega
      clear hI hsp
      cases r
      · clear htop
        go_wp2
        go_ret
        exact ⟨ret_bool (by rw [unhide HSP]; rfl), hbI⟩
      · go_wp2
        go_ret
        exact ⟨ret_bool (by rw [unhide HSP]; rfl), hbI⟩
end Go.Proofs.YtkklapoceknbcaaGreatDoor
/- Whether tokens are too many, or too deep: xmlscan's pastLimits. -/
namespace Go.Proofs.YtkklapoceknbcaaGreatDoor
open Go.RowKit
set_option maxRecDepth 100000 in
theorem crowded_any (t : BTok) (v : Value) (w : World) (hv : PairsArg w v t.attrs) :
    Calls Tryz.prog 26 #[.agg #[.int .i64 t.kind, .string t.name, v, .string t.text]] w fun e w' => e = .returned (.bool (decide (64 < t.attrs.length))) ∧ Below w.heap.size w w' := by
  obtain ⟨a, cap, rfl, _⟩ := hv
  go_enter Tryz.func26, Tryz.ntmps26
  go_wp2
  go_ret
  refine ⟨ret_bool ?_, (Below.refl _ _).alloc (Nat.le_refl _) _⟩
  exact decide_eq_decide.2 (by omega)
def crowd (t : BTok) : Bool := decide (64 < t.attrs.length)
theorem any_take {ts : List BTok} {k : Nat} {t : BTok} (h : ts[k]? = some t) : (ts.take (k + 1)).any crowd = ((ts.take k).any crowd || crowd t) := by
  obtain ⟨hk, hx⟩ := List.getElem?_eq_some_iff.1 h
  rw [List.take_succ_eq_append_getElem hk, List.any_append, hx]
  simp
theorem any_at {ts : List BTok} {k : Nat} {t : BTok} (h : ts[k]? = some t) (hc : crowd t = true) : ts.any crowd = true := List.any_eq_true.2 ⟨t, List.mem_of_getElem? h, hc⟩
set_option maxRecDepth 100000 in
set_option maxHeartbeats 4000000 in
theorem indexFunc_any (ts : List BTok) (a : Option Addr) (cap : Nat) (w : World) (hv : ToksArg w a ts) (hn : ts.length ≤ 1048576) :
    Calls Tryz.prog 51 #[.slice a ts.length cap, .func (.func 26) #[] #[]] w fun e w' => (∃ j : Int, e = .returned (.int .i64 j) ∧ decide (0 ≤ j) = ts.any crowd) ∧ Below w.heap.size w w' := by
  have HV := hide hv
  clear hv
  go_enter Tryz.func51, Tryz.ntmps51
  go_wp2_with fail
  go_loopw [8] (fun i wr => ∃ k : Nat, i = .int .i64 (k : Nat) ∧ k ≤ ts.length ∧ Below w.heap.size w wr ∧ (ts.take k).any crowd = false) (fun i _ => ts.length - (intOf i).toNat)
  case atStart => exact ⟨0, rfl, Nat.zero_le _, Below.refl _ _, rfl⟩
  case round =>
    obtain ⟨k, rfl, hk, hbr, han⟩ := hrel
    have HAN := hide han
    clear han
    by_cases hlt : k < ts.length
    · obtain ⟨t, ht⟩ : ∃ t, ts[k]? = some t := ⟨ts[k], List.getElem?_eq_getElem hlt⟩
      obtain ⟨g, oo, ha, hc⟩ := ((unhide HV).below hbr) (by intro h0; rw [h0] at hlt; cases hlt)
      subst ha
      obtain ⟨c0, c1, ⟨v, c2, hpv⟩, c3⟩ := hc k t ht
      obtain ⟨va, vc, hve, _⟩ := id hpv
      subst hve
      have n1 : (0 : Int) ≤ (k : Int) := by omega
      have n2 : (k : Int) < (ts.length : Int) := by omega
      have HT := hide ht
      have HPV := hide hpv
      clear hc ht hpv
      go_wp2_with fail
      refine (crowded_any t _ _ (unhide HPV)).mono ?_
      rintro e w1 ⟨rfl, hb1⟩
      have hb01 := Below.then hbr hb1
      cases hcr : decide (64 < t.attrs.length)
      · have HA2 : Hid ((ts.take (k + 1)).any crowd = false) := hide (by rw [any_take (unhide HT), unhide HAN]; exact hcr)
        clear HAN hcr
        go_wp2_with fail
        go_round
        case measure => simp [intOf]; omega
        case rel => exact ⟨k + 1, by simp, by omega, hb01, unhide HA2⟩
      · have HA2 : Hid (ts.any crowd = true) := hide (any_at (unhide HT) hcr)
        clear HAN hcr
        go_wp2
        go_ret
        exact ⟨⟨(k : Nat), rfl, by rw [unhide HA2]; simp⟩, hb01⟩
    · have n2 : ¬ (k : Int) < (ts.length : Int) := by omega
      have HA2 : Hid (ts.any crowd = false) := hide (by
        have := unhide HAN
        rwa [List.take_of_length_le (by omega)] at this)
      go_wp2
      go_ret
      exact ⟨⟨-1, rfl, by rw [unhide HA2]; rfl⟩, hbr⟩
set_option maxRecDepth 100000 in
theorem containsFunc_any (ts : List BTok) (a : Option Addr) (cap : Nat) (w : World) (hv : ToksArg w a ts) (hn : ts.length ≤ 1048576) :
    Calls Tryz.prog 27 #[.slice a ts.length cap, .func (.func 26) #[] #[]] w fun e w' => e = .returned (.bool (ts.any crowd)) ∧ Below w.heap.size w w' := by
  have HI := hide (indexFunc_any ts a cap w hv hn)
  clear hv
  go_enter Tryz.func27, Tryz.ntmps27
  go_wp2_with fail
  refine (unhide HI).mono ?_
  rintro e w1 ⟨⟨j, rfl, hj⟩, hb1⟩
  have HJ := hide hj
  clear hj
  go_wp2
  go_ret
  exact ⟨ret_bool (unhide HJ), hb1⟩
structure LimSt (w : World) (ts : List BTok) (k : Nat) (d m : Int) (w' : World) : Prop where
  le : k ≤ ts.length
  bel : Below w.heap.size w w'
  d1 : -(k : Int) ≤ d
  d2 : d ≤ k
  m1 : 0 ≤ m
  m2 : m ≤ k
  spec : deepGo 0 0 ts = deepGo d m (ts.drop k)
theorem deepGo_cons (d m : Int) (t : BTok) (ts : List BTok) : deepGo d m (t :: ts) = if t.kind = 2 then deepGo (d + 1) (max m (d + 1)) ts else if t.kind = 7 then deepGo (d - 1) m ts else deepGo d m ts := rfl
set_option maxRecDepth 100000 in
set_option maxHeartbeats 4000000 in
theorem pastLimits_any (ts : List BTok) (a : Option Addr) (cap : Nat) (w : World) (hv : ToksArg w a ts) (hn : ts.length ≤ 1048576) :
    Calls Tryz.prog 15 #[.slice a ts.length cap] w fun e w' => e = .returned (.bool (pastB ts)) ∧ Below w.heap.size w w' := by
  have HV := hide hv
  have HI0 : Hid (LimSt w ts 0 0 0 w) := hide ⟨Nat.zero_le _, Below.refl _ _, by omega, by omega, by omega, by omega, rfl⟩
  clear hv
  go_enter Tryz.func15, Tryz.ntmps15
  go_wp2_with fail
  go_loopw [3, 4, 10] (fun s3 s4 i wr => ∃ (k : Nat) (d m : Int), i = .int .i64 (k : Nat) ∧ s3 = .int .i64 d ∧ s4 = .int .i64 m ∧ LimSt w ts k d m wr) (fun _ _ i _ => ts.length - (intOf i).toNat)
  case atStart => exact ⟨0, 0, 0, rfl, rfl, rfl, unhide HI0⟩
  case round =>
    clear HI0
    obtain ⟨k, d, m, rfl, rfl, rfl, hI⟩ := hrel
    have hk := hI.le
    have hbr := hI.bel
    have d1 := hI.d1
    have d2 := hI.d2
    have m1 := hI.m1
    have m2 := hI.m2
    by_cases hlt : k < ts.length
    · obtain ⟨t, ht⟩ : ∃ t, ts[k]? = some t := ⟨ts[k], List.getElem?_eq_getElem hlt⟩
      obtain ⟨g, oo, ha, hc⟩ := ((unhide HV).below hbr) (by intro h0; rw [h0] at hlt; cases hlt)
      subst ha
      obtain ⟨c0, c1, ⟨v, c2, hpv⟩, c3⟩ := hc k t ht
      obtain ⟨va, vc, hve, _⟩ := id hpv
      subst hve
      have n1 : (0 : Int) ≤ (k : Int) := by omega
      have n2 : (k : Int) < (ts.length : Int) := by omega
      have hdr : ts.drop k = t :: ts.drop (k + 1) := by
        rw [← List.getElem_cons_drop hlt]
        congr 1
        exact (List.getElem?_eq_some_iff.1 ht).2
      have hspec := hI.spec
      rw [hdr, deepGo_cons] at hspec
      have hbA : Below wr.heap.size wr (wr.alloc (.cells #[.int .i64 t.kind, .string t.name, .slice va t.attrs.length vc, .string t.text] 37 (0, 0))) := (Below.refl _ _).alloc (Nat.le_refl _) _
      have hb0 := Below.then hbr hbA
      obtain ⟨kd, nm, ats, tx'⟩ := t
      simp only at *
      clear hI hc hdr ht hpv hbA
      by_cases k2 : kd = 2
      · subst k2
        rw [if_pos rfl] at hspec
        have HI2 : Hid (LimSt w ts (k + 1) (d + 1) (max m (d + 1)) (wr.alloc (.cells #[.int .i64 2, .string nm, .slice va ats.length vc, .string tx'] 37 (0, 0)))) := hide ⟨by omega, hb0, by omega, by omega, by omega, by omega, hspec⟩
        have e1 : wrap64 (d + 1) = d + 1 := by unfold wrap64; omega
        clear hspec
        go_wp2_with fail
        go_round
        case measure => simp [intOf]; omega
        case rel => exact ⟨k + 1, d + 1, max m (d + 1), by simp, rfl, rfl, unhide HI2⟩
      · rw [if_neg k2] at hspec
        have g2 : (kd == 2) = false := by simpa using k2
        by_cases k7 : kd = 7
        · subst k7
          rw [if_pos rfl] at hspec
          have HI2 : Hid (LimSt w ts (k + 1) (d - 1) m (wr.alloc (.cells #[.int .i64 7, .string nm, .slice va ats.length vc, .string tx'] 37 (0, 0)))) := hide ⟨by omega, hb0, by omega, by omega, by omega, by omega, hspec⟩
          have e1 : wrap64 (d - 1) = d - 1 := by unfold wrap64; omega
          clear hspec
          go_wp2_with fail
          go_round
          case measure => simp [intOf]; omega
          case rel => exact ⟨k + 1, d - 1, m, by simp, rfl, rfl, unhide HI2⟩
        · have g7 : (kd == 7) = false := by simpa using k7
          rw [if_neg k7] at hspec
          have HI2 : Hid (LimSt w ts (k + 1) d m (wr.alloc (.cells #[.int .i64 kd, .string nm, .slice va ats.length vc, .string tx'] 37 (0, 0)))) := hide ⟨by omega, hb0, by omega, by omega, by omega, by omega, hspec⟩
          clear hspec k2 k7
          go_wp2_with fail
          go_round
          case measure => simp [intOf]; omega
          case rel => exact ⟨k + 1, d, m, by simp, rfl, rfl, unhide HI2⟩
    · have n2 : ¬ (k : Int) < (ts.length : Int) := by omega
      have hkl : k = ts.length := by omega
      have hsp := hI.spec
      rw [hkl, List.drop_length] at hsp
      have HSP : Hid (pastB ts = (decide (4096 < ts.length) || (decide (32 < m) || ts.any crowd))) := hide (by
        unfold pastB
        rw [hsp]
        rfl)
      have HC := hide (containsFunc_any ts a cap wr ((unhide HV).below hbr) hn)
      clear hI hsp
      by_cases hl : 4096 < ts.length
      · have hl' : (4096 : Int) < (ts.length : Int) := by omega
        have HF : Hid (pastB ts = true) := hide (by rw [unhide HSP, decide_eq_true hl]; rfl)
        go_wp2
        go_ret
        exact ⟨ret_bool (unhide HF).symm, hbr⟩
      · have hl' : ¬ (4096 : Int) < (ts.length : Int) := by omega
        have HSP2 : Hid (pastB ts = (decide (32 < m) || ts.any crowd)) := hide (by rw [unhide HSP, decide_eq_false hl, Bool.false_or])
        clear HSP
        by_cases hm : 32 < m
        · have HF : Hid (pastB ts = true) := hide (by rw [unhide HSP2, decide_eq_true hm]; rfl)
          go_wp2
          go_ret
          exact ⟨ret_bool (unhide HF).symm, hbr⟩
        · have HF : Hid (pastB ts = ts.any crowd) := hide (by rw [unhide HSP2, decide_eq_false hm, Bool.false_or])
          go_wp2_with fail
          refine (unhide HC).mono ?_
          rintro e w1 ⟨rfl, hb1⟩
          go_wp2
          go_ret
          exact ⟨ret_bool (unhide HF).symm, Below.then hbr hb1⟩
end Go.Proofs.YtkklapoceknbcaaGreatDoor
