/- What Roman signs may say: xsort's saidByRoman. -/
import Derived.Test.YtmjjckindnffdaaDoorSortSaid
namespace Go.Proofs.YtmjjckindnffdaaDoor
open Go.RowKit
theorem strip_fuel (s : List Nat) (k : Nat) (hs : 1 ≤ s.length) : ∀ (f g n : Nat) (l : List Nat), l.length ≤ f → l.length ≤ g → stripN s k f n l = stripN s k g n l := by
  intro f
  induction f with
  | zero =>
    intro g n l hf hg
    have : l = [] := List.eq_nil_of_length_eq_zero (by omega)
    subst this
    cases g with
    | zero => rfl
    | succ g =>
      cases s with
      | nil => simp at hs
      | cons x r => rfl
  | succ f ih =>
    intro g n l hf hg
    cases g with
    | zero =>
      have : l = [] := List.eq_nil_of_length_eq_zero (by omega)
      subst this
      cases s with
      | nil => simp at hs
      | cons x r => rfl
    | succ g =>
      unfold stripN
      split
      · exact ih g _ _ (by rw [List.length_drop]; omega) (by rw [List.length_drop]; omega)
      · rfl
theorem romV_at (k m : Nat) (l : List Nat) (h : k < 13) : romVGo (romS.drop k) m l = romVGo (romS.drop (k + 1)) (stripN (sgN k) (wtN k) l.length m l).1 (stripN (sgN k) (wtN k) l.length m l).2 := by
  have : romS.drop k = (sgN k, wtN k) :: romS.drop (k + 1) := by
    have hall : ∀ j : Fin 13, romS.drop j.val = (sgN j.val, wtN j.val) :: romS.drop (j.val + 1) := by decide +kernel
    exact hall ⟨k, h⟩
  rw [this]
  rfl
theorem sg_len (k : Nat) (h : k < 13) : 1 ≤ (sgN k).length ∧ (sgN k).length ≤ 2 ∧ ∀ x ∈ sgN k, x < 256 := by
  have hall : ∀ j : Fin 13, 1 ≤ (sgN j.val).length ∧ (sgN j.val).length ≤ 2 ∧ ∀ x ∈ sgN j.val, x < 256 := by decide +kernel
  exact hall ⟨k, h⟩
theorem romV_more (k m : Nat) (l : List Nat) (h : k < 13) (hp : (sgN k).isPrefixOf l = true) : romVGo (romS.drop k) (m + wtN k) (l.drop (sgN k).length) = romVGo (romS.drop k) m l := by
  have hs := (sg_len k h).1
  have hl : (sgN k).length ≤ l.length := (List.isPrefixOf_iff_prefix.1 hp).length_le
  rw [romV_at k _ _ h, romV_at k m l h]
  have e : stripN (sgN k) (wtN k) l.length m l = stripN (sgN k) (wtN k) (l.drop (sgN k).length).length (m + wtN k) (l.drop (sgN k).length) := by
    obtain ⟨f, hf⟩ : ∃ f, l.length = f + 1 := ⟨l.length - 1, by omega⟩
    rw [hf]
    conv => lhs; unfold stripN
    rw [if_pos hp]
    exact strip_fuel _ _ hs _ _ _ _ (by rw [List.length_drop]; omega) (Nat.le_refl _)
  rw [e]
theorem romV_past (k m : Nat) (l : List Nat) (h : k < 13) (hp : (sgN k).isPrefixOf l = false) : romVGo (romS.drop (k + 1)) m l = romVGo (romS.drop k) m l := by
  rw [romV_at k m l h]
  have e : stripN (sgN k) (wtN k) l.length m l = (m, l) := by
    cases l.length with
    | zero => rfl
    | succ f =>
      unfold stripN
      rw [if_neg (by simp [hp])]
  rw [e]
theorem pre_nums (l s : List UInt8) : Lib.hasPrefix l s = (numsOf s).isPrefixOf (numsOf l) := by
  unfold Lib.hasPrefix
  induction s generalizing l with
  | nil => cases l <;> rfl
  | cons x r ih =>
    cases l with
    | nil => rfl
    | cons y t =>
      show (x == y && r.isPrefixOf t) = (x.toNat == y.toNat && (numsOf r).isPrefixOf (numsOf t))
      rw [ih t]
      congr 1
      by_cases e : x = y
      · subst e
        rw [beq_self_eq_true, beq_self_eq_true]
      · have : x.toNat ≠ y.toNat := fun h => e (UInt8.toNat_inj.1 h)
        rw [beq_eq_false_iff_ne.2 e, beq_eq_false_iff_ne.2 this]
/-- What the loops of saidByRoman keep: so much is said already, so much is left. -/
def RomSaid (t : List UInt8) (k : Nat) (x : Int) (l : List UInt8) : Prop := t.length ≤ 100 → ∃ m : Nat, x = (m : Int) ∧ m + 1000 * l.length ≤ 1000 * t.length ∧ romVGo (romS.drop k) m (numsOf l) = romVGo romS 0 (numsOf t)
theorem RomSaid.more {t : List UInt8} {k : Nat} {x : Int} {l : List UInt8} (h : RomSaid t k x l) (hk : k < 13) (hp : Lib.hasPrefix l (sgB k).data.toList = true) : RomSaid t k (wrap64 (x + (wtN k : Int))) (l.drop (sgB k).size) := by
  intro ht
  obtain ⟨m, rfl, h2, h3⟩ := h ht
  have hw := wt_pos k hk
  have hg := sg_len k hk
  rw [pre_nums] at hp
  have e1 : numsOf (sgB k).data.toList = sgN k := numsOf_bytesN (sgN k) hg.2.2
  have e2 : (sgB k).size = (sgN k).length := by
    show (bytesN (sgN k)).toArray.size = _
    simp [bytesN]
  rw [e1] at hp
  have hl : (sgN k).length ≤ l.length := by
    have := (List.isPrefixOf_iff_prefix.1 hp).length_le
    simpa [numsOf] using this
  refine ⟨m + wtN k, ?_, ?_, ?_⟩
  · rw [wrap_same _ (by omega) (by omega)]
    omega
  · rw [List.length_drop, e2]
    omega
  · rw [← h3, ← romV_more k m (numsOf l) hk hp, e2]
    congr 1
    simp [numsOf, List.map_drop]
theorem RomSaid.past {t : List UInt8} {k : Nat} {x : Int} {l : List UInt8} (h : RomSaid t k x l) (hk : k < 13) (hp : Lib.hasPrefix l (sgB k).data.toList = false) : RomSaid t (k + 1) x l := by
  intro ht
  obtain ⟨m, rfl, h2, h3⟩ := h ht
  have e1 : numsOf (sgB k).data.toList = sgN k := numsOf_bytesN (sgN k) (sg_len k hk).2.2
  rw [pre_nums, e1] at hp
  exact ⟨m, rfl, h2, by rw [← h3, romV_past k m (numsOf l) hk hp]⟩
theorem pre_size (l : List UInt8) (k : Nat) (hp : Lib.hasPrefix l (sgB k).data.toList = true) : (sgB k).size ≤ (⟨l.toArray⟩ : ByteArray).size := by
  rw [mk_size]
  exact (List.isPrefixOf_iff_prefix.1 hp).length_le
theorem drop_mk (l : List UInt8) (j : Nat) : (⟨l.toArray⟩ : ByteArray).extract j (⟨l.toArray⟩ : ByteArray).size = ⟨(l.drop j).toArray⟩ := by
  apply ByteArray.ext
  rw [ByteArray.data_extract, mk_size]
  simp [List.take_of_length_le]
/-- A text's size, as a loop's measure. -/
def vLen : Value → Nat
  | .string s => s.size
  | _ => 0
attribute [local go_sem ↓] Go.wp_at_zero Go.wp_at_succ
set_option maxRecDepth 100000 in
set_option maxHeartbeats 1000000 in
theorem saidByRoman_any (s : ByteArray) (w : World) (hs : s.size ≤ 15) (hE : SEnv2 w) :
    Calls Tryd.prog 30 #[.string s] w fun e w' => (∃ x, e = .returned (.int .i64 x) ∧ ((Lib.toUpperD s.data.toList).length ≤ 100 → x = (romT (Lib.toUpperD s.data.toList) : Int))) ∧ Below w.heap.size w w' := by
  have HL := hide (Tryd.strings_ToUpper_any s w (by omega) hE.cas hE.tabs)
  have hs' : ¬ 15 < (s.size : Int) := by omega
  clear hE
  generalize Lib.toUpperD s.data.toList = t at *
  go_enter Tryd.func30, Tryd.ntmps30
  go_wp2_with fail
  refine (unhide HL).mono ?_
  rintro e w0 ⟨rfl, hb0⟩
  clear HL
  go_wp2_with fail
  refine (romanParts_any _).mono ?_
  rintro e w1 ⟨rfl, hb1⟩
  go_wp2_with fail
  have hR0 := romAt_new w1 61 62
  have hB0 : Below w.heap.size w ((w1.alloc (.cells #[.string ⟨#[77]⟩, .string ⟨#[67, 77]⟩, .string ⟨#[68]⟩, .string ⟨#[67, 68]⟩, .string ⟨#[67]⟩, .string ⟨#[88, 67]⟩, .string ⟨#[76]⟩, .string ⟨#[88, 76]⟩, .string ⟨#[88]⟩, .string ⟨#[73, 88]⟩, .string ⟨#[86]⟩, .string ⟨#[73, 86]⟩, .string ⟨#[73]⟩] 61)).alloc (.cells #[.int .i64 1000, .int .i64 900, .int .i64 500, .int .i64 400, .int .i64 100, .int .i64 90, .int .i64 50, .int .i64 40, .int .i64 10, .int .i64 9, .int .i64 5, .int .i64 4, .int .i64 1] 62)) := Below.then (Below.then hb0 hb1) (((Below.refl _ w1).alloc (Nat.le_refl _) _).alloc (by simp) _)
  generalize ((w1.alloc (.cells #[.string ⟨#[77]⟩, .string ⟨#[67, 77]⟩, .string ⟨#[68]⟩, .string ⟨#[67, 68]⟩, .string ⟨#[67]⟩, .string ⟨#[88, 67]⟩, .string ⟨#[76]⟩, .string ⟨#[88, 76]⟩, .string ⟨#[88]⟩, .string ⟨#[73, 88]⟩, .string ⟨#[86]⟩, .string ⟨#[73, 86]⟩, .string ⟨#[73]⟩] 61)).alloc (.cells #[.int .i64 1000, .int .i64 900, .int .i64 500, .int .i64 400, .int .i64 100, .int .i64 90, .int .i64 50, .int .i64 40, .int .i64 10, .int .i64 9, .int .i64 5, .int .i64 4, .int .i64 1] 62)) = W at *
  generalize (Value.agg #[.string ⟨#[77]⟩, .string ⟨#[67, 77]⟩, .string ⟨#[68]⟩, .string ⟨#[67, 68]⟩, .string ⟨#[67]⟩, .string ⟨#[88, 67]⟩, .string ⟨#[76]⟩, .string ⟨#[88, 76]⟩, .string ⟨#[88]⟩, .string ⟨#[73, 88]⟩, .string ⟨#[86]⟩, .string ⟨#[73, 86]⟩, .string ⟨#[73]⟩]) = A1 at *
  generalize (Value.agg #[.int .i64 1000, .int .i64 900, .int .i64 500, .int .i64 400, .int .i64 100, .int .i64 90, .int .i64 50, .int .i64 40, .int .i64 10, .int .i64 9, .int .i64 5, .int .i64 4, .int .i64 1]) = A2 at *
  generalize w1.heap.size = p at *
  generalize hq : p + 1 = q at *
  clear hq hb1 hb0 hs hs'
  go_loopw [3, 4, 17] (fun v s i wr => ∃ (k : Nat) (x : Int) (l : List UInt8), i = .int .i64 (k : Int) ∧ k ≤ 13 ∧ v = .int .i64 x ∧ s = .string ⟨l.toArray⟩ ∧ Hid (RomSaid t k x l) ∧ RomAt p q wr ∧ Below w.heap.size w wr) (fun _ _ i _ => 13 - vNat i)
  case atStart => exact ⟨0, 0, t, rfl, by omega, rfl, rfl, hide (fun _ => ⟨0, rfl, by omega, rfl⟩), hR0, hB0⟩
  case round =>
    obtain ⟨k, x, l, rfl, hk, rfl, rfl, hl, hR, hB⟩ := hrel
    clear hR0 hB0
    by_cases h13 : k = 13
    · subst h13
      cases l with
      | nil =>
        go_wp2_with fail
        go_ret
        refine ⟨⟨x, rfl, fun ht => ?_⟩, hB⟩
        obtain ⟨m, rfl, _, h3⟩ := unhide hl ht
        unfold romT romVN
        rw [← h3]
        rfl
      | cons c r =>
        have hc : ((⟨(c :: r).toArray⟩ : ByteArray).toList == []) = false := by
          rw [ByteArray.toList_eq]
          rfl
        generalize hV : (⟨(c :: r).toArray⟩ : ByteArray) = V at *
        go_wp2_with fail
        go_ret
        refine ⟨⟨0, rfl, fun ht => ?_⟩, hB⟩
        obtain ⟨m, rfl, _, h3⟩ := unhide hl ht
        unfold romT romVN
        rw [← h3]
        rfl
    · have hk13 : k < 13 := by omega
      have hk1 : (k : Int) < 13 := by omega
      have HK := hide hk13
      clear hk h13 hk13
      go_wp2_with fail
      go_loopw [3, 4] (fun v s wr => ∃ (x : Int) (l : List UInt8), v = .int .i64 x ∧ s = .string ⟨l.toArray⟩ ∧ Hid (RomSaid t k x l) ∧ RomAt p q wr ∧ Below w.heap.size w wr) (fun _ s _ => vLen s)
      case atStart => exact ⟨x, l, rfl, rfl, hl, hR, hB⟩
      case round =>
        clear hl hR hB
        obtain ⟨x, l, rfl, rfl, hl, hR, hB⟩ := hrel
        have hcs := hR.sg k (unhide HK)
        have hcw := hR.wt k (unhide HK)
        have HP := hide (fun w => Tryd.strings_HasPrefix ⟨l.toArray⟩ (sgB k) w)
        cases hp : Lib.hasPrefix (⟨l.toArray⟩ : ByteArray).data.toList (sgB k).data.toList with
        | false =>
          have HN := hide ((unhide hl).past (unhide HK) hp)
          rw [hp] at HP
          clear hl hp
          generalize hV : (⟨l.toArray⟩ : ByteArray) = V at *
          have HV := hide hV
          clear hV
          go_wp2_with fail
          refine (unhide HP _).mono ?_
          rintro e w2 ⟨rfl, rfl⟩
          go_wp2_with fail
          refine ⟨⟨k + 1, x, l, ?_, unhide HK, rfl, by rw [unhide HV], HN, hR, hB⟩, ?_⟩
          · rw [Int.natCast_add]
            rfl
          · show 13 - ((k : Int) + 1).toNat < 13 - (k : Int).toNat
            have := unhide HK
            omega
        | true =>
          have HN := hide ((unhide hl).more (unhide HK) hp)
          have hps := pre_size l k hp
          have hd := drop_mk l (sgB k).size
          have hw := wt_pos k (unhide HK)
          have hsg : (sgB k).size = (bytesN (sgN k)).length := mk_size _
          have HM := hide (show vLen (.string (⟨(l.drop (sgB k).size).toArray⟩ : ByteArray)) < vLen (.string (⟨l.toArray⟩ : ByteArray)) by
            show (⟨(l.drop (sgB k).size).toArray⟩ : ByteArray).size < (⟨l.toArray⟩ : ByteArray).size
            have e3 : (⟨l.toArray⟩ : ByteArray).size = l.length := mk_size l
            have e4 : (⟨(l.drop (sgB k).size).toArray⟩ : ByteArray).size = (l.drop (sgB k).size).length := mk_size _
            rw [e4, e3, List.length_drop]
            omega)
          rw [hp] at HP
          have HW := hide hR
          have HB := hide hB
          have HX := hide (show ∃ l' : List UInt8, (⟨(l.drop (sgB k).size).toArray⟩ : ByteArray) = ⟨l'.toArray⟩ ∧ RomSaid t k (wrap64 (x + (wtN k : Int))) l' from ⟨_, rfl, unhide HN⟩)
          generalize (⟨(l.drop (sgB k).size).toArray⟩ : ByteArray) = Y at *
          generalize hD : (wtN k : Int) = D at *
          generalize (⟨l.toArray⟩ : ByteArray) = V at *
          generalize sgB k = S at *
          clear hl hp HN hw hsg hD hR hB
          go_wp2_with fail
          refine (unhide HP _).mono ?_
          rintro e w2 ⟨rfl, rfl⟩
          go_wp2_with fail
          go_region_with fail
          all_goals (try go_wp2_with fail)
          all_goals (
            obtain ⟨l', e1, e2⟩ := unhide HX
            refine ⟨⟨_, _, _, _, _, _, _, _, _, _, _, _, _, _, _, _, _, _, ?_, rfl⟩, ?_⟩
            · exact ⟨_, l', congrArg (Value.int IntKind.i64) (i64_is _), by rw [e1], hide e2, (unhide HW).below ((Below.refl _ _).drew), (unhide HB).drew⟩
            · exact unhide HM)
set_option maxRecDepth 100000 in
set_option maxHeartbeats 1000000 in
theorem saidByRoman_long (s : ByteArray) (w : World) (hs : ¬ s.size ≤ 15) :
    Calls Tryd.prog 30 #[.string s] w fun e w' => e = .returned (.int .i64 0) ∧ Below w.heap.size w w' := by
  have hs' : 15 < (s.size : Int) := by omega
  go_enter Tryd.func30, Tryd.ntmps30
  go_wp2
  go_ret
  exact ⟨rfl, Below.refl _ _⟩
end Go.Proofs.YtmjjckindnffdaaDoor
