/- Texts one behind the other: the law XbuildTexts. -/
import Derived.Test.YtllhajjceecjdaaDoorGbt
import Derived.Test.YtllhajjceecjdaaDoorGbu
namespace Go.Proofs.YtllhajjceecjdaaDoor
open Go.RowKit Go.Maps
/-- Texts that a slice holds. -/
def StrsAt (w : World) (ad : Option Addr) (n : Nat) (t : Nat → ByteArray) : Prop := 0 < n → ∃ g o, ad = some ⟨g, o, none⟩ ∧ ∀ i, i < n → w.cell? ⟨g, o + i, none⟩ = some (.string (t i))
theorem StrsAt.below {w w' : World} {ad : Option Addr} {n : Nat} {t : Nat → ByteArray} (h : StrsAt w ad n t) (hb : Below w.heap.size w w') : StrsAt w' ad n t := fun h0 => by
  obtain ⟨g, o, e, hc⟩ := h h0
  exact ⟨g, o, e, fun i hi => keptC hb (hc i hi)⟩
/-- A builder that holds one text, or nothing yet. -/
def TxB (B : Nat) (w : World) (p : Nat) (want : ByteArray) : Prop :=
  B ≤ p ∧ ((want = ⟨#[]⟩ ∧ BV w p (.slice none 0 0) (.slice none 0 0) 0) ∨
  (0 < want.size ∧ ∃ q v vn, WdV B w q v want ∧ BV w p (.slice none 0 0) vn 1 ∧ w.ownsRow B 80 1 vn 1 [.iface 49 (.pointer (some ⟨q, 0, none⟩))] ∧ B ≤ q))
def okText (s : ByteArray) : Int := if textB s then 0 else 5
def addText (want s : ByteArray) : ByteArray := if textB s then want ++ s else want
theorem empty_list (s : ByteArray) : (s.toList == []) = (s.size == 0) := by
  rw [Bool.eq_iff_iff, beq_iff_eq, beq_iff_eq, toList_data]
  constructor
  · intro h; show s.data.size = 0; rw [← Array.length_toList, h]; rfl
  · intro h; exact List.length_eq_zero_iff.1 (by rw [Array.length_toList]; exact h)
theorem size_zero {s : ByteArray} (h : s.size = 0) : s = ⟨#[]⟩ := by
  cases s with
  | mk d =>
    congr
    exact Array.eq_empty_of_size_eq_zero h
theorem app_none (s : ByteArray) : s ++ (⟨#[]⟩ : ByteArray) = s := by
  apply ByteArray.ext
  rw [ByteArray.data_append]
  simp
theorem none_app (s : ByteArray) : (⟨#[]⟩ : ByteArray) ++ s = s := by
  apply ByteArray.ext
  rw [ByteArray.data_append]
  simp
theorem text_any (B p : Nat) (want s : ByteArray) (w : World) (h : TxB B w p want) (hB : B ≤ w.heap.size) (hn : want.size + s.size ≤ 1000000) :
    Calls Tryd.prog 5 #[.pointer (some ⟨p, 0, none⟩), .string s] w fun e w' => e = .returned (.int .i64 (okText s)) ∧ TxB B w' p (addText want s) ∧ Below B w w' := by
  have hlow : ∀ {S : Nat → Prop} {w' : World}, Kp S w w' → (∀ j, S j → B ≤ j) → Below B w w' := fun hk hS => hk.low hB hS
  obtain ⟨hp, hT⟩ := h
  have hTb : ∀ w', Below w.heap.size w w' → TxB B w' p want := fun w' hb => ⟨hp, hT.elim (fun h => .inl ⟨h.1, block_below h.2 hb⟩) (fun h => by
    obtain ⟨h0, q, v, vn, h1, h2, h3, h4⟩ := h
    exact .inr ⟨h0, q, v, vn, ⟨block_below h1.blk hb, rowM_below h1.row hb⟩, block_below h2 hb, owns_below h3 hb, h4⟩)⟩
  cases ht : textB s with
  | false =>
    refine (text_form p s w ht).mono ?_
    rintro e w' ⟨rfl, hb⟩
    have e1 : okText s = 5 := by unfold okText; rw [ht]; rfl
    have e2 : addText want s = want := by unfold addText; rw [ht]; rfl
    rw [e1, e2]
    exact ⟨rfl, hTb w' hb, hb.mono hB⟩
  | true =>
    have e1 : okText s = 0 := by unfold okText; rw [ht]; rfl
    have e2 : addText want s = want ++ s := by unfold addText; rw [ht]; rfl
    rw [e1, e2]
    by_cases h0 : s.size = 0
    · refine (text_empty p s w ht (by rw [empty_list]; simpa using h0)).mono ?_
      rintro e w' ⟨rfl, hb⟩
      rw [size_zero h0, app_none]
      exact ⟨rfl, hTb w' hb, hb.mono hB⟩
    · have hs : (s.toList == []) = false := by rw [empty_list]; simpa using h0
      rcases hT with ⟨rfl, hv⟩ | ⟨hw0, q, v, vn, h1, h2, h3, h4⟩
      · refine (text_first B p none 0 s w hv hB (by have : (⟨#[]⟩ : ByteArray).size = 0 := rfl; omega) ht hs).mono ?_
        rintro e w' ⟨rfl, q, v, vn, r1, r2, r3, r4, r5⟩
        have e3 := none_app s
        rw [e3]
        exact ⟨rfl, ⟨hp, .inr ⟨by omega, q, v, vn, r1, r2, r3, Nat.le_trans hB r4⟩⟩, hlow r5 (fun j hj => by subst hj; exact hp)⟩
      · obtain ⟨g, cap, rfl, _, hg1, _, hgc⟩ := owns_at h3 (by omega)
        refine (text_more B p g cap q none 0 1 v want s w h2 (hgc 0 _ rfl) h1 hn hB ht hs).mono ?_
        rintro e w' ⟨rfl, v', r1, r2⟩
        have hqp : q ≠ p := by
          rintro rfl
          have := h1.blk
          rw [h2] at this
          injection this with this
          injection this with _ h9 _
          cases h9
        have hvp : ∀ k, v.ownBlock = some k → k ≠ p := rowM_apart h1.row h2 (by decide)
        have hge : ∀ k, v.ownBlock = some k → B ≤ k := fun k hk => by
          obtain ⟨_, g', c', cu, fz, rfl, h7, _⟩ := h1.row
          cases hk
          exact h7
        have hgq : g ≠ q := by
          rintro rfl
          exact own_apart h3 h1.blk (by decide) g rfl rfl
        have hgv : v.ownBlock ≠ some g := fun e => by
          rcases h3.2 with ⟨e3, _⟩ | ⟨g', cap', cur', e3, _, h3b, _⟩
          · cases e3
          · cases e3
            exact rowM_apart h1.row h3b (by decide) g e rfl
        refine ⟨rfl, ⟨hp, .inr ⟨by rw [ByteArray.size_append]; omega, q, v', _, r1, blk_kp r2 h2 (fun h => h.elim (fun e => hqp e.symm) (fun e => hvp p e rfl)), owns_kp h3 r2 (fun k hk => ?_), h4⟩⟩, hlow r2 (fun j hj => hj.elim (fun e => by subst e; exact h4) (fun e => hge j e))⟩
        cases hk
        exact fun h => h.elim hgq hgv
theorem ownsRow_low {w : World} {B B' : Nat} {e : TypeId} {size n : Nat} {v : Value} {xs : List Value} (h : w.ownsRow B e size v n xs) (hB : B' ≤ B) : w.ownsRow B' e size v n xs := by
  refine ⟨h.1, ?_⟩
  rcases h.2 with h0 | ⟨g, cap, cur, rfl, h2, h3⟩
  · exact .inl h0
  · exact .inr ⟨g, cap, cur, rfl, Nat.le_trans hB h2, h3⟩
theorem less_rounds {k : Nat} (hk : k < 50) : 50 - (intOf (.int .i64 ((k : Int) + 1))).toNat < 50 - (intOf (.int .i64 (k : Int))).toNat := by
  show 50 - ((k : Int) + 1).toNat < 50 - ((k : Int)).toNat
  omega
set_option maxRecDepth 100000 in
set_option maxHeartbeats 4000000 in
theorem texts14_walk (ad : Option Addr) (n cap : Nat) (t : Nat → ByteArray) (w : World) (h : StrsAt w ad n t) (hE : BEnv w) :
    Calls Tryd.prog 3 #[.slice ad n cap] w fun e w' => e = .returned (.bool true) ∧ Below w.heap.size w w' := by
  have HE := hide hE
  have HS := hide h
  clear hE h
  go_enter Tryd.func3, Tryd.ntmps3
  go_wp2_with fail
  refine (new_any w).mono ?_
  rintro e w1 ⟨rfl, rfl⟩
  have HB1 := hide ((Below.refl w.heap.size w).alloc (Nat.le_refl _) (.cells #[.slice none 0 0, .slice none 0 0, .int .i64 0] 44))
  have HT1 : Hid (TxB w.heap.size (w.alloc (.cells #[.slice none 0 0, .slice none 0 0, .int .i64 0] 44)) w.heap.size ⟨#[]⟩) := hide ⟨Nat.le_refl _, .inl ⟨rfl, alloc_new _ _⟩⟩
  generalize (w.alloc (.cells #[.slice none 0 0, .slice none 0 0, .int .i64 0] 44)) = W1 at HB1 HT1 ⊢
  generalize hp : w.heap.size = p at HB1 HT1 ⊢
  have HP := hide hp
  clear hp
  go_upto_block 0 with fail
  go_cut [4, 5] (fun x i wx => ∃ (want : ByteArray) (k : Int), x = .string want ∧ i = .int .i64 k ∧ want.size ≤ 50000 ∧ Hid (TxB p wx p want) ∧ Hid (Below p w wx))
  case first =>
    go_wp2_with fail
    go_loopw [4, 5] (fun x i wr => ∃ (want : ByteArray) (k : Nat), x = .string want ∧ i = .int .i64 (k : Int) ∧ k ≤ 50 ∧ want.size ≤ 1000 * k ∧ Hid (TxB p wr p want) ∧ Hid (Below p w wr)) (fun _ i _ => 50 - (intOf i).toNat)
    case atStart => exact ⟨_, 0, rfl, rfl, by omega, by decide, HT1, HB1⟩
    case round =>
      obtain ⟨want, k, rfl, rfl, hk, hwz, HT, HB⟩ := hrel
      have HWZ := hide hwz
      clear hwz HT1 HB1
      by_cases hkn : k < n
      · have n1 : (k : Int) < (n : Int) := by omega
        have n0 : (0 : Int) ≤ (k : Int) := by omega
        by_cases hk50 : k < 50
        · have HK2 := hide hk50
          have n2 : (k : Int) < 50 := by omega
          have HK2 := hide hk50
          obtain ⟨g, o, rfl, hc⟩ := (StrsAt.below (unhide HS) (by rw [unhide HP]; exact unhide HB)) (by omega)
          have hck := hc k hkn
          have HCB := hide (fun w' (hb : Below p wr w') => show w'.cell? ⟨g, o + k, none⟩ = some (.string (t k)) from by
            have hp := unhide HP
            obtain ⟨g', o', e', hc'⟩ := unhide HS (by omega)
            cases e'
            have hlt := block_lt_of_cell (hc' k hkn)
            rw [hb.cell (by rw [← hp]; exact hlt)]
            exact hck)
          by_cases hsz : (t k).size ≤ 1000
          · have n3 : ¬ (1000 : Int) < ((t k).size : Int) := by omega
            have HTX := hide (text_any p p want (t k) wr (unhide HT) (by have := (unhide HB).size; rw [unhide HP] at this; exact this) (by have := unhide HWZ; omega))
            clear hkn hk50 hc HS
            have HK := hide hk
            have HSZ := hide hsz
            clear hk hsz
            go_wp2_with fail
            refine (unhide HTX).mono ?_
            rintro e w3 ⟨rfl, r1, r2⟩
            have HT3 := hide r1
            have HB3 := hide ((unhide HB).trans r2)
            have hck3 := unhide HCB w3 r2
            clear r1 r2 HTX hck HCB HT HB
            cases hb : textB (t k) with
            | true =>
              have e1 : okText (t k) = 0 := by unfold okText; rw [hb]; rfl
              have e2 : addText want (t k) = want ++ t k := by unfold addText; rw [hb]; rfl
              rw [e2] at HT3
              have HSW := hide (ByteArray.size_append (a := want) (b := t k))
              have n5 : want.size + (t k).size ≤ 100000 := by have := unhide HWZ; have := unhide HSZ; have := unhide HK; omega
              clear e2 hb
              go_wp2_with fail
              refine ⟨⟨_, k + 1, rfl, rfl, by have := unhide HK; omega, by rw [unhide HSW]; have := unhide HWZ; have := unhide HSZ; omega, HT3, HB3⟩, less_rounds (unhide HK2)⟩
            | false =>
              have e1 : okText (t k) = 5 := by unfold okText; rw [hb]; rfl
              have e2 : addText want (t k) = want := by unfold addText; rw [hb]; rfl
              rw [e2] at HT3
              clear e2 hb
              go_wp2_with fail
              refine ⟨⟨want, k + 1, rfl, rfl, by have := unhide HK; omega, by have := unhide HWZ; omega, HT3, HB3⟩, less_rounds (unhide HK2)⟩
          · have n3 : (1000 : Int) < ((t k).size : Int) := by omega
            clear hkn hk50 hc HS
            have HK := hide hk
            clear hk hsz
            go_wp2_with fail
            refine ⟨⟨want, k + 1, rfl, rfl, by have := unhide HK; omega, by have := unhide HWZ; omega, HT, HB⟩, less_rounds (unhide HK2)⟩
        · have n2 : ¬ (k : Int) < 50 := by omega
          go_wp2_with fail
          go_meet
          exact ⟨want, k, rfl, rfl, by have := unhide HWZ; omega, HT, HB⟩
      · have n1 : ¬ (k : Int) < (n : Int) := by omega
        go_wp2_with fail
        go_meet
        exact ⟨want, k, rfl, rfl, by have := unhide HWZ; omega, HT, HB⟩
  case rest =>
    rename World => wx
    obtain ⟨want, k, rfl, rfl, hz, HT, HB⟩ := hcut
    have HZ := hide hz
    clear hz HT1 HB1 HS
    have hb0 := unhide HB
    rw [← unhide HP] at hb0
    have HW0 := hide hb0
    clear hb0 HB
    obtain ⟨hp, hT⟩ := unhide HT
    clear HT
    rcases hT with ⟨rfl, hv⟩ | ⟨hw0, q, v, vn, h1, h2, h3, h4⟩
    · have HTK := hide (tokens_empty p none 0 0 wx hv)
      clear hv hp
      go_wp2_with fail
      refine (unhide HTK).mono ?_
      rintro e w5 ⟨rfl, hb5⟩
      have HB5 := hide (Below.then (unhide HW0) hb5)
      clear hb5 HTK
      go_wp2_with fail
      refine (live14_any _ ((unhide HE).below (unhide HB5))).mono ?_
      rintro e w6 ⟨rfl, hb6⟩
      have HB6 := hide (Below.then (unhide HB5) hb6)
      clear hb6
      go_wp2_with fail
      go_returns
      exact ⟨rfl, unhide HB6⟩
    · have hne : (want.toList == []) = false := by rw [empty_list]; exact beq_false_of_ne (by omega)
      have HTK := hide (tokens_words p p q none 0 vn 1 v want wx h2 (ownsRow_low h3 (Nat.zero_le _)) h1)
      obtain ⟨g, cap, rfl, _, hg1, _, hgc⟩ := owns_at h3 (by omega)
      have HST := hide (fun w' (hb : Below wx.heap.size wx w') => string_words p p g q cap (.slice none 0 0) 1 v want w' (block_below h2 hb) (keptC hb (hgc 0 _ rfl)) ⟨block_below h1.blk hb, rowM_below h1.row hb⟩ (by have := unhide HZ; omega))
      clear h1 h2 h3 h4 hgc hw0 hp hg1
      have HNE := hide hne
      clear hne
      have hne := unhide HNE
      go_wp2_with fail
      refine (unhide HTK).mono ?_
      rintro e w5 ⟨al, n5, c5, rfl, hr5, hb5⟩
      have HBX := hide hb5
      have HB5 := hide (Below.then (unhide HW0) hb5)
      have HR5 := hide hr5
      clear hb5 hr5 HTK
      go_wp2_with fail
      refine (live14_any _ ((unhide HE).below (unhide HB5))).mono ?_
      rintro e w6 ⟨rfl, hb6⟩
      have HBY := hide (Below.then (unhide HBX) hb6)
      have HB6 := hide (Below.then (unhide HB5) hb6)
      have hr6 := owns_below (unhide HR5) hb6
      obtain ⟨g6, cap6, e6, _, _, _, hg6⟩ := owns_at hr6 (by omega)
      cases e6
      have t0 : w6.cell? ⟨g6, 0, none⟩ = some (.int .i64 4) := hg6 0 _ rfl
      have t1 : w6.cell? ⟨g6, 3, none⟩ = some (.string want) := hg6 3 _ rfl
      have HST6 := hide (unhide HST w6 (unhide HBY))
      clear hb6 hr6 hg6 HST HR5
      go_wp2_with fail
      refine (unhide HST6).mono ?_
      rintro e w7 ⟨rfl, hb7⟩
      have HB7 := hide (Below.then (unhide HB6) hb7)
      clear hb7 HST6
      go_wp2_with fail
      go_returns
      exact ⟨rfl, unhide HB7⟩
end Go.Proofs.YtllhajjceecjdaaDoor
