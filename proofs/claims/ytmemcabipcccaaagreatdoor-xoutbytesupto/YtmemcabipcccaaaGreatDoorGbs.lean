/- Several texts, laid as one. -/
import Derived.Test.YtmemcabipcccaaaGreatDoorGbq
import Derived.Test.YtmemcabipcccaaaGreatDoorGbl
/- The reference's start: a start tag without its end. -/
namespace Go.Proofs.YtmemcabipcccaaaGreatDoor
open Go.RowKit
def startW (h : Bool) : ByteArray × ByteArray → List UInt8 := if h then hAttrB else attrB
def startO (h : Bool) (t : BTok) : List UInt8 := 60 :: (t.name.data.toList ++ t.attrs.flatMap (startW h))
def startK (h : Bool) (t : BTok) (k : Nat) : List UInt8 := 60 :: (t.name.data.toList ++ (t.attrs.take k).flatMap (startW h))
theorem startK_step {h : Bool} {t : BTok} {k : Nat} {y : ByteArray × ByteArray} (hy : t.attrs[k]? = some y) : startK h t (k + 1) = startK h t k ++ startW h y := by
  obtain ⟨hk, he⟩ := List.getElem?_eq_some_iff.1 hy
  unfold startK
  rw [List.take_succ_eq_append_getElem hk, he, List.flatMap_append]
  simp
theorem startK_len {h : Bool} {t : BTok} (k : Nat) (hs : Small t) (hl : t.attrs.length ≤ 64) : (startK h t k).length ≤ 480000000 := by
  have h1 : ((t.attrs.take k).flatMap (startW h)).length ≤ (t.attrs.take k).length * 7340036 := by
    cases h with
    | true => exact TagH_len (fun y hy => hs.a y (List.mem_of_mem_take hy))
    | false => exact TagX_len (fun y hy => hs.a y (List.mem_of_mem_take hy))
  have h2 : (t.attrs.take k).length ≤ 64 := by rw [List.length_take]; omega
  have h3 : (t.attrs.take k).length * 7340036 ≤ 469762304 := by omega
  have h4 : t.name.data.toList.length = t.name.size := rfl
  have h5 := hs.n
  unfold startK
  simp only [List.length_cons, List.length_append]
  omega
set_option maxRecDepth 100000 in
set_option maxHeartbeats 8000000 in
theorem refStart_any (h : Bool) (t : BTok) (u : Pl) (w : World) (hv : PairsArg w (.slice u.1 t.attrs.length u.2) t.attrs) (hs : Small t) (hl : t.attrs.length ≤ 64) :
    Calls Tryz.prog 37 #[.agg #[.int .i64 t.kind, .string t.name, .slice u.1 t.attrs.length u.2, .string t.text], .bool h] w fun e w' => ∃ s : ByteArray, e = .returned (.string s) ∧ s.data.toList = startO h t ∧ Below w.heap.size w w' := by
  have hbA : Below w.heap.size w (w.alloc (.cells #[.int .i64 t.kind, .string t.name, .slice u.1 t.attrs.length u.2, .string t.text] 53)) := (Below.refl _ _).alloc (Nat.le_refl _) _
  have HBA := hide hbA
  have HSZ := hide hbA.size
  have HPV := hide (hv.below hbA)
  have HLN : Hid (∀ k, (startK h t k).length ≤ 480000000) := hide fun k => startK_len k hs hl
  have HTA := hide hs.a
  have HAL : Hid (startK h t t.attrs.length = startO h t) := hide (by unfold startK startO; rw [List.take_length])
  have hnm := hs.n
  have HC2 : Hid ((w.alloc (.cells #[.int .i64 t.kind, .string t.name, .slice u.1 t.attrs.length u.2, .string t.text] 53)).cell? ⟨w.heap.size, 2, none⟩ = some (.slice u.1 t.attrs.length u.2)) := hide (by simp [go_sem])
  obtain ⟨ua, uc⟩ := u
  simp only at *
  clear hv hs hbA
  go_enter Tryz.func37, Tryz.ntmps37
  go_wp2_with fail
  generalize hW1 : w.alloc (.cells #[.int .i64 t.kind, .string t.name, .slice ua t.attrs.length uc, .string t.text] 53) = W1 at *
  clear hW1
  generalize hbx : w.heap.size = bx at *
  have HBX := hide hbx
  clear hbx
  go_loopw [5, 6] (fun s i wr => ∃ (k : Nat) (O : ByteArray), i = .int .i64 (k : Nat) ∧ s = .string O ∧ k ≤ t.attrs.length ∧ Hid (O.data.toList = startK h t k) ∧ Below W1.heap.size W1 wr) (fun _ i _ => t.attrs.length - (intOf i).toNat)
  case atStart => exact ⟨0, _, rfl, rfl, Nat.zero_le _, hide (by simp [startK, ByteArray.data_append]), Below.refl _ _⟩
  case round =>
    obtain ⟨k, P, rfl, rfl, hk, HP, hbr⟩ := hrel
    have hPs : P.size ≤ 480000000 := by
      have h1 := unhide HLN k
      rw [← unhide HP] at h1
      exact h1
    have d2 := keptC hbr (unhide HC2)
    by_cases hlt : k < t.attrs.length
    · obtain ⟨y, hy⟩ : ∃ y, t.attrs[k]? = some y := ⟨t.attrs[k], List.getElem?_eq_getElem hlt⟩
      obtain ⟨hy1, hy2⟩ := unhide HTA y (List.mem_of_getElem? hy)
      obtain ⟨q1, q2, hq, hcells⟩ := (unhide HPV).below hbr
      obtain ⟨g3, o3, ha3, hc3⟩ := hcells (by intro h0; rw [h0] at hlt; cases hlt)
      cases hq
      subst ha3
      obtain ⟨x0, x1⟩ := hc3 k y hy
      have m1 : (0 : Int) ≤ (k : Int) := by omega
      have m2 : (k : Int) < (t.attrs.length : Int) := by omega
      have HST := hide (startK_step (h := h) hy)
      clear hcells hc3 hy
      cases h with
      | true =>
        have HA : Hid (∀ W, Calls Tryz.prog 62 #[.agg #[.string y.1, .string y.2]] W fun e w' => ∃ s : ByteArray, e = .returned (.string s) ∧ s.data.toList = hAttrB y ∧ Below W.heap.size W w') := hide fun W => refAttr_any y W ⟨hy1, hy2⟩
        have HAS : Hid ((hAttrB y).length ≤ 7340036) := hide (hAttrB_len ⟨hy1, hy2⟩)
        go_wp2_with fail
        refine (unhide HA _).mono ?_
        rintro e w3 ⟨E, rfl, hE, hb3⟩
        have hEs : E.size ≤ 7340036 := by
          have h1 := unhide HAS
          rw [← hE] at h1
          exact h1
        have HF : Hid ((P ++ E).data.toList = startK true t (k + 1)) := hide (by rw [unhide HST]; exact bytes_two _ _ _ _ (unhide HP) hE)
        clear hE HST
        go_wp2_with fail
        exact ⟨⟨k + 1, _, by go_num, rfl, hlt, HF, Below.then hbr hb3⟩, by simp [intOf]; omega⟩
      | false =>
        have hqm := mapO_len quo_few y.2.data.toList
        rw [sizeB] at hqm
        obtain ⟨E, hE⟩ : ∃ E : ByteArray, E = ⟨(mapO quoO y.2.data.toList).toArray⟩ := ⟨_, rfl⟩
        have hEs : E.size ≤ 6291456 := by rw [hE]; show (mapO quoO y.2.data.toList).length ≤ _; omega
        have HEq : Hid (∀ W, Calls Tryz.prog 63 #[.string y.2] W fun e w' => e = .returned (.string E) ∧ w' = W) := hide (fun W => by rw [hE]; exact refQuote_any y.2 W hy2)
        have HF : Hid ((P ++ ((⟨#[32]⟩ : ByteArray) ++ y.1 ++ (⟨#[61, 34]⟩ : ByteArray) ++ E ++ (⟨#[34]⟩ : ByteArray))).data.toList = startK false t (k + 1)) := hide (by
          rw [unhide HST, ← unhide HP, hE]
          simp [startW, attrB, ByteArray.data_append])
        have f1 : (9223372036854775807 < 1 + y.1.size) = False := eq_false (by omega)
        have f2 : (9223372036854775807 < 1 + y.1.size + 2) = False := eq_false (by omega)
        have f3 : (9223372036854775807 < 1 + y.1.size + 2 + E.size) = False := eq_false (by omega)
        have f4 : (9223372036854775807 < 1 + y.1.size + 2 + E.size + 1) = False := eq_false (by omega)
        have f5 : (9223372036854775807 < P.size + (1 + y.1.size + 2 + E.size + 1)) = False := eq_false (by omega)
        have HCE : Hid (∀ w', ClsW wr w' → w'.cell? ⟨bx, 2, none⟩ = some (.slice (some ⟨g3, o3, none⟩) t.attrs.length uc) ∧ w'.cell? ⟨g3, o3 + k * 2, none⟩ = some (.string y.1) ∧ w'.cell? ⟨g3, o3 + k * 2 + 1, none⟩ = some (.string y.2)) := hide fun w' h => ⟨keptC h.bel d2, keptC h.bel x0, keptC h.bel x1⟩
        have HX : Hid (ClsW wr wr.drew) := hide ⟨(Below.refl _ _).drew⟩
        clear hE hqm x0 x1 HST
        go_wp2_with fail
        refine wp_region_cls (ClsW wr) (by kernel_rfl) (by kernel_rfl) (unhide HX) ?_
        repeat
          (first
            | go_big_quiet_skip
            | (go_big_quiet_want
               go_big_quiet_op
               first
                 | go_big_quiet_on
                 | (apply Exists.intro
                    refine ⟨fun w' hC => ?_, ?_⟩
                    · (first
                        | (go_at_call 63; refine (unhide HEq _).mono ?_; rintro e w3 ⟨rfl, rfl⟩; exact ⟨rfl, hC⟩)
                        | (obtain ⟨k0, k1, k2⟩ := unhide HCE _ hC; go_simp; first | done | rfl))
                    go_big_quiet_on)))
        refine wpQuiet_nil ?_
        intro w4 hC4
        have hb4 := hC4.bel
        clear HCE hC4 d2
        go_wp2_with fail
        exact ⟨⟨k + 1, _, by go_num, rfl, hlt, HF, Below.then hbr hb4⟩, by simp [intOf]; omega⟩
    · have n2 : ¬ (k : Int) < (t.attrs.length : Int) := by omega
      have HF : Hid (P.data.toList = startO h t) := hide (by rw [unhide HP, ← unhide HAL, show k = t.attrs.length by omega])
      go_wp2
      go_ret
      exact ⟨_, rfl, unhide HF, by rw [unhide HBX]; exact (unhide HBA).trans (hbr.mono (unhide HSZ))⟩
end Go.Proofs.YtmemcabipcccaaaGreatDoor
/- The reference's one: a token as text, among those next to it. -/
namespace Go.Proofs.YtmemcabipcccaaaGreatDoor
open Go.RowKit
/-- What one tells. -/
def soleO (h : Bool) (t a c : BTok) : List UInt8 := if h then htmlO t a else xmlO t a c
/-- Tokens that may be asked for: an element has one behind it, an end one ahead. -/
structure OneOk (ts : List BTok) (k : Nat) : Prop where
  lt : k < ts.length
  ok : okB (tkAt ts k) = true
  few : (tkAt ts k).attrs.length ≤ 64
  behind : (tkAt ts k).kind = 2 → k + 1 < ts.length
  ahead : (tkAt ts k).kind = 7 → 0 < k
theorem one_elem (h : Bool) {t a c : BTok} (hk : t.kind = 2) : soleO h t a c = startO h t ++ (if c.kind = 7 ∧ h = false then [47, 62] else [62]) := by
  cases h with
  | true =>
    show htmlO t a = 60 :: (t.name.data.toList ++ t.attrs.flatMap hAttrB) ++ _
    rw [if_neg (by simp)]
    unfold htmlO bothB
    rw [if_neg (by omega), if_neg (by omega), if_neg (by omega), if_pos hk]
    simp
  | false =>
    show xmlO t a c = 60 :: (t.name.data.toList ++ t.attrs.flatMap attrB) ++ _
    unfold xmlO bothB
    by_cases hc : c.kind = 7
    · rw [if_pos ⟨hk, hc⟩, if_pos ⟨hc, rfl⟩]
      simp
    · rw [if_neg (fun e => hc e.2), if_neg (by omega), if_neg (by omega), if_pos hk, if_neg (fun e => hc e.1)]
      simp
theorem one_fin (h : Bool) {t a c : BTok} (hk : t.kind = 7) : soleO h t a c = if (a.kind = 2 ∧ h = false) ∨ (h = true ∧ voidB t.name = true) then [] else 60 :: 47 :: (t.name.data.toList ++ [62]) := by
  unfold soleO
  cases h with
  | true =>
    rw [if_pos rfl]
    unfold htmlO bothB
    by_cases hv : voidB t.name = true
    · rw [if_pos ⟨hk, hv⟩, if_pos (.inr ⟨rfl, hv⟩)]
    · rw [if_neg (fun e => hv e.2), if_neg (by omega), if_neg (by omega), if_neg (by omega), if_pos hk, if_neg (by simp [hv])]
  | false =>
    unfold xmlO bothB
    by_cases ha : a.kind = 2
    · rw [if_neg (by decide), if_neg (by omega), if_pos ⟨hk, ha⟩, if_pos (.inl ⟨ha, rfl⟩)]
    · rw [if_neg (by decide), if_neg (by omega), if_neg (fun e => ha e.2), if_neg (by omega), if_neg (by omega), if_pos hk, if_neg (by simp [ha])]
theorem one_text (h : Bool) {t a c : BTok} (hk : t.kind = 4) : soleO h t a c = if h = true ∧ rawS a = true then t.text.data.toList else mapO escO t.text.data.toList := by
  unfold soleO
  cases h with
  | true =>
    rw [if_pos rfl]
    unfold htmlO bothB
    by_cases hv : rawS a = true
    · rw [if_neg (by omega), if_pos ⟨hk, hv⟩, if_pos ⟨rfl, hv⟩]
    · rw [if_neg (by omega), if_neg (fun e => hv e.2), if_neg (by omega), if_neg (by omega), if_neg (by omega), if_pos hk, if_neg (fun e => hv e.2)]
  | false =>
    unfold xmlO bothB
    rw [if_neg (by decide), if_neg (by omega), if_neg (by omega), if_neg (by omega), if_neg (by omega), if_neg (by omega), if_pos hk, if_neg (by simp)]
theorem one_com (h : Bool) {t a c : BTok} (hk : t.kind = 5) : soleO h t a c = 60 :: 33 :: 45 :: 45 :: (t.text.data.toList ++ [45, 45, 62]) := by
  unfold soleO
  cases h with
  | true =>
    rw [if_pos rfl]
    unfold htmlO bothB
    rw [if_neg (by omega), if_neg (by omega), if_neg (by omega), if_neg (by omega), if_neg (by omega), if_neg (by omega), if_pos hk]
  | false =>
    unfold xmlO bothB
    rw [if_neg (by decide), if_neg (by omega), if_neg (by omega), if_neg (by omega), if_neg (by omega), if_neg (by omega), if_neg (by omega), if_pos hk]
theorem one_ins (h : Bool) {t a c : BTok} (hk : t.kind = 6) : soleO h t a c = 60 :: 63 :: (t.name.data.toList ++ ((if t.text.toList.isEmpty then [] else 32 :: t.text.data.toList) ++ (if h then [62] else [63, 62]))) := by
  unfold soleO
  cases h with
  | true =>
    rw [if_pos rfl]
    unfold htmlO instrO
    rw [if_neg (by omega), if_neg (by omega), if_pos hk]
    rfl
  | false =>
    unfold xmlO instrO
    rw [if_neg (by decide), if_neg (by omega), if_neg (by omega), if_pos hk]
    rfl
end Go.Proofs.YtmemcabipcccaaaGreatDoor
