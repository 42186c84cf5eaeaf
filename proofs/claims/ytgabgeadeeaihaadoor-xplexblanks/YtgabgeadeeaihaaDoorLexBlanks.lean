/- XplexBlanks: blanks between tokens play no part. -/
import Derived.Test.YtgabgeadeeaihaaDoorLexBack
import Derived.Test.YtgabgeadeeaihaaDoorLexTrim
import Derived.Deep.DeepCutAuto
namespace Go.Proofs.YtgabgeadeeaihaaDoor
open Go.RowKit
/-- Tokens with blanks ahead of each. -/
def blkN (bl : List Nat) (ts : List (Tok × Nat)) : List Nat := ts.flatMap fun x => bl ++ x.1.raw
theorem alike_refl (t : Tok) : alike t t := ⟨rfl, rfl, .inl rfl⟩
theorem blk_head {bl : List Nat} (h0 : bl ≠ []) (hb : ∀ c ∈ bl, blankC c = true) (ts : List (Tok × Nat)) : parted (blkN bl ts ++ bl) := by
  intro c hc
  cases bl with
  | nil => exact absurd rfl h0
  | cons d u =>
    cases ts with
    | nil => cases hc; exact hb _ (by simp)
    | cons x ts => cases hc; exact hb _ (by simp)
theorem blk_resp {bl : List Nat} (h0 : bl ≠ []) (hb : ∀ c ∈ bl, blankC c = true) : ∀ ts : List (Tok × Nat), Resp (ts.map (·.1)) (ts.map (·.1)) (blkN bl ts ++ bl)
  | [] => Resp.nil bl hb
  | x :: ts => by
    have := Resp.cons bl x.1 x.1 _ _ _ hb (alike_refl _) (blk_resp h0 hb ts) (blk_head h0 hb ts)
    have e : blkN bl (x :: ts) ++ bl = bl ++ x.1.raw ++ (blkN bl ts ++ bl) := by unfold blkN; simp
    rw [e]; exact this
theorem blk_scan {cs bl : List Nat} {ts : List (Tok × Nat)} (h0 : bl ≠ []) (hb : ∀ c ∈ bl, blankC c = true) (h : scanOf cs = .ok ts) : ∃ res, scanOf (blkN bl ts ++ bl) = .ok res ∧ res.map (·.1) = (ts.map (·.1)).map id := by
  obtain ⟨res, e1, e2⟩ := respace (fun l => (tx l).length) (fun l => (tx l).length) (cs.length + 1) [] [] cs ts [] [] ((blkN bl ts ++ bl).length + 1) _ _ (by rw [List.nil_append]; exact h) (by omega) (blk_resp h0 hb ts) (by omega) rfl
  exact ⟨res, by unfold scanOf; rw [e1, List.nil_append], by rw [e2, List.map_id]⟩
theorem blk_snoc (bl : List Nat) (ts : List (Tok × Nat)) (k : Nat) (x : Tok × Nat) (h : ts[k]? = some x) : blkN bl (ts.take (k + 1)) = blkN bl (ts.take k) ++ (bl ++ x.1.raw) := by
  have hk : k < ts.length := (List.getElem?_eq_some_iff.1 h).1
  have hx : ts[k] = x := (List.getElem?_eq_some_iff.1 h).2
  unfold blkN
  rw [List.take_succ_eq_append_getElem hk, List.flatMap_append, hx]
  simp
theorem blk_len {bl : List Nat} (hb : (tx bl).length ≤ 2) : ∀ ts : List (Tok × Nat), (∀ x ∈ ts, (tx x.1.raw).length ≤ 512) → (tx (blkN bl ts)).length ≤ ts.length * 514
  | [], _ => Nat.zero_le _
  | x :: ts, h => by
    have ih := blk_len hb ts (fun y hy => h y (by simp [hy]))
    have h1 := h x (by simp)
    have e : blkN bl (x :: ts) = (bl ++ x.1.raw) ++ blkN bl ts := by unfold blkN; simp
    rw [e, tx_len_app, tx_len_app, List.length_cons]
    omega
theorem blk_ok {bl : List Nat} (hb : okL bl) (ts : List (Tok × Nat)) (h : ∀ x ∈ ts, okL x.1.raw) : okL (blkN bl ts) := by
  intro c hc
  unfold blkN at hc
  obtain ⟨x, hx, hc⟩ := List.mem_flatMap.1 hc
  rcases List.mem_append.1 hc with hc | hc
  · exact hb c hc
  · exact h x hx c hc
/-- What stands from a token on, up to the next one, or to the end. -/
theorem piece_at {cs : List Nat} {ts : List (Tok × Nat)} (hl : okL cs) (h : scanOf cs = .ok ts) {k : Nat} {x : Tok × Nat} (hx : ts[k]? = some x) :
    ∃ b a d, (∀ c ∈ b, blankC c = true) ∧ x.1.raw = a ++ [d] ∧ blankC d = false ∧ okL (x.1.raw ++ b) ∧ (T (x.1.raw ++ b)).size ≤ (T cs).size ∧ (tx x.1.raw).length ≤ (T cs).size ∧
      (ts[k + 1]? = none → x.2 ≤ (T cs).size ∧ (T cs).extract x.2 (T cs).size = T (x.1.raw ++ b)) ∧
      (∀ y, ts[k + 1]? = some y → x.2 ≤ y.2 ∧ y.2 ≤ (T cs).size ∧ (T cs).extract x.2 y.2 = T (x.1.raw ++ b)) := by
  obtain ⟨hf, p, b, r, e, h2, h3, h4, h5⟩ := laid_at _ ts [] cs (scan_laid_all h) k x hx
  rw [List.nil_append] at e
  obtain ⟨_, d, a, _, hd, _, hr⟩ := formed_ends hf
  have e' : cs = p ++ (x.1.raw ++ b) ++ r := by rw [e]; simp
  have hsz : (T cs).size = (tx p).length + (tx (x.1.raw ++ b)).length + (tx r).length := by
    rw [T_size]; conv => lhs; rw [e']
    rw [tx_len_app, tx_len_app]
  have h6 : x.2 = (tx p).length := h2
  have h7 := tx_len_app x.1.raw b
  refine ⟨b, a, d, h3, hr, hd, ?_, by rw [T_size]; omega, by omega, fun hn => ⟨by omega, ?_⟩, fun y hy => ?_⟩
  · rw [e'] at hl; exact okL_right (okL_left hl)
  · have hr0 := h4 hn
    rw [hr0, List.append_nil] at e'
    rw [h6]
    exact suf_at e'
  · obtain ⟨h8, _⟩ := h5 y hy
    have h9 : y.2 = (tx p).length + (tx (x.1.raw ++ b)).length := by
      rw [h8]
      show (tx (p ++ x.1.raw ++ b)).length = _
      rw [List.append_assoc, tx_len_app]
    refine ⟨by omega, by omega, ?_⟩
    rw [h6, h9]
    conv => lhs; rw [e']
    exact T_mid _ _ _
/-- The four blanks that are put between. -/
theorem bl_of (n : Int) : ∃ bl : List Nat, ([.string ⟨#[32]⟩, .string ⟨#[9]⟩, .string ⟨#[10, 32]⟩, .string ⟨#[32, 13]⟩] : List Value)[(n % 4).toNat]? = some (.string (T bl)) ∧ bl ≠ [] ∧ (∀ c ∈ bl, blankC c = true) ∧ okL bl ∧ (tx bl).length ≤ 2 := by
  have key : ∀ l : List Nat, l ∈ [[32], [9], [10, 32], [32, 13]] → l ≠ [] ∧ (∀ c ∈ l, blankC c = true) ∧ (∀ c ∈ l, charR (c : Int) = true) ∧ (tx l).length ≤ 2 := by decide +kernel
  rcases (show n % 4 = 0 ∨ n % 4 = 1 ∨ n % 4 = 2 ∨ n % 4 = 3 by omega) with e | e | e | e
  · exact ⟨[32], by rw [e]; rfl, key _ (by simp)⟩
  · exact ⟨[9], by rw [e]; rfl, key _ (by simp)⟩
  · exact ⟨[10, 32], by rw [e]; rfl, key _ (by simp)⟩
  · exact ⟨[32, 13], by rw [e]; rfl, key _ (by simp)⟩
set_option maxRecDepth 100000 in
set_option maxHeartbeats 4000000 in
theorem blanks_walk (s : ByteArray) (n : Int) (w : World) (hn0 : 0 ≤ n) (hn1 : n < 256) (hE : Env5 w) :
    Calls Tryd.prog 5 #[.string s, .int .u8 n] w fun e w' => e = .returned (.bool true) ∧ Below w.heap.size w w' := by
  have HE := hide hE
  clear hE
  rcases text_cases s with h | ⟨h, hf⟩ | ⟨h, cs, hl, rfl⟩
  · go_enter Tryd.func5, Tryd.ntmps5
    go_wp2_with fail
    refine (scan_long s _ h).mono ?_
    rintro e w1 ⟨rfl, hb1⟩
    go_wp2_with fail
    refine (live_any _ ((unhide HE).below hb1)).mono ?_
    rintro e w2 ⟨rfl, hb2⟩
    go_wp2
    go_ret
    exact ⟨rfl, Below.then hb1 hb2⟩
  · go_enter Tryd.func5, Tryd.ntmps5
    go_wp2_with fail
    refine (scan_bad s _ h hf).mono ?_
    rintro e w1 ⟨⟨k, rfl⟩, hb1⟩
    go_wp2_with fail
    refine (live_any _ ((unhide HE).below hb1)).mono ?_
    rintro e w2 ⟨rfl, hb2⟩
    go_wp2
    go_ret
    exact ⟨rfl, Below.then hb1 hb2⟩
  · cases hsc : scanOf cs with
    | error p =>
      have hcon := scan_any cs w hl h (unhide HE)
      rw [hsc] at hcon
      have HC := hide hcon
      clear hcon hsc
      go_enter Tryd.func5, Tryd.ntmps5
      go_wp2_with fail
      refine (unhide HC).mono ?_
      rintro e w1 ⟨rfl, hb1⟩
      go_wp2_with fail
      refine (live_any _ ((unhide HE).below hb1)).mono ?_
      rintro e w2 ⟨rfl, hb2⟩
      go_wp2
      go_ret
      exact ⟨rfl, Below.then hb1 hb2⟩
    | ok ts =>
      have hcon := scan_any cs w hl h (unhide HE)
      rw [hsc] at hcon
      have hn : ts.length ≤ 512 := by
        have h1 := laid_count _ ts [] cs (scan_laid_all hsc)
        have h2 := tx_len_ge hl
        rw [T_size] at h
        omega
      have HPC := hide (fun k x (hx : ts[k]? = some x) => piece_at hl hsc hx)
      have hfm := scan_formed hl hsc
      have HBS := hide (fun bl h0 hb => @blk_scan cs bl ts h0 hb hsc)
      have HFM := hide hfm
      have HC := hide hcon
      clear hcon hsc hfm
      go_enter Tryd.func5, Tryd.ntmps5
      go_wp2_with fail
      refine (unhide HC).mono ?_
      rintro e w1 ⟨⟨v, rfl, hown⟩, hb1⟩
      have HO := hide hown
      obtain ⟨a, c, rfl⟩ := owns_slice hown
      clear hown
      obtain ⟨bl, hix, hbl0, hblb, hblo, hbl2⟩ := bl_of n
      have HB0 := hide hbl0
      have HBB := hide hblb
      have hbz : (T bl).size ≤ 2 := hbl2
      clear hbl0 hblb hbl2
      go_wp2_with fail
      go_loop [8, 10] (fun t i => ∃ k : Nat, i = .int .i64 (k : Nat) ∧ k ≤ ts.length ∧ t = .string (T (blkN bl (ts.take k)))) (fun _ i => ts.length - (intOf i).toNat)
      case atStart => exact ⟨0, rfl, Nat.zero_le _, rfl⟩
      case round =>
        obtain ⟨k, rfl, hk, rfl⟩ := hrel
        by_cases hlt : k < ts.length
        · obtain ⟨x, hx⟩ : ∃ x, ts[k]? = some x := ⟨ts[k], List.getElem?_eq_getElem hlt⟩
          have HSN := hide (blk_snoc bl ts k x hx)
          obtain ⟨b, a0, d, p1, p2, p3, p4, p5, p6, p7, p8⟩ := unhide HPC k x hx
          have HTR := hide (fun W => trimmed_any x.1.raw b W p4 (by omega) p1 a0 d p2 p3)
          rcases own_cells (unhide HO) with ⟨h0, _⟩ | ⟨g, cap, hv, _, _, _, hc⟩
          · rw [h0] at hlt; exact absurd hlt (by simp)
          obtain ⟨rfl, rfl⟩ : a = some ⟨g, 0, none⟩ ∧ c = cap := by cases hv; exact ⟨rfl, rfl⟩
          have hbA : Below w1.heap.size w1 (w1.alloc (.cells #[.string ⟨#[32]⟩, .string ⟨#[9]⟩, .string ⟨#[10, 32]⟩, .string ⟨#[32, 13]⟩] 9)) := (Below.refl _ _).alloc (Nat.le_refl _) _
          have c2 := kept_cell hbA (hc k x hx).2.2
          have hrz : (T x.1.raw).size ≤ 512 := by rw [T_size]; omega
          have hNz : (T (blkN bl (ts.take k))).size ≤ 300000 := by
            have h1 := blk_len (bl := bl) hbz (ts.take k) (fun y hy => by
              obtain ⟨q, hq, e⟩ := List.getElem_of_mem (List.mem_of_mem_take hy)
              obtain ⟨_, _, _, _, _, _, _, _, q6, _⟩ := unhide HPC q y (by rw [List.getElem?_eq_getElem hq, e])
              omega)
            rw [List.length_take] at h1
            rw [T_size]; omega
          have n1 : (0 : Int) ≤ (k : Int) := by omega
          have n2 : (k : Int) < (ts.length : Int) := by omega
          cases hy : ts[k + 1]? with
          | none =>
            obtain ⟨q1, q2⟩ := p7 hy
            have HX := hide q2
            have hk1 : ts.length ≤ k + 1 := List.getElem?_eq_none_iff.1 hy
            have hd : ¬ ((k : Int) + 1 < (ts.length : Int)) := by omega
            have m1 : (0 : Int) ≤ (x.2 : Int) := by omega
            have m2 : (x.2 : Int) ≤ ((T cs).size : Int) := by omega
            clear hx p1 p2 p3 p4 p5 p6 p7 p8 hc q2 hy hv
            go_wp2_with fail
            rw [unhide HX]
            refine (unhide HTR _).mono ?_
            rintro e w2 ⟨rfl, rfl⟩
            go_wp2
            refine ⟨⟨k + 1, by go_num, by omega, ?_⟩, by simp [intOf]; omega⟩
            rw [unhide HSN, ← T_app, ← T_app]
          | some y =>
            obtain ⟨q1, q2, q3⟩ := p8 y hy
            have c3 := kept_cell hbA (hc (k + 1) y hy).2.2
            have HX := hide q3
            have hk1 : k + 1 < ts.length := (List.getElem?_eq_some_iff.1 hy).1
            have hd : (k : Int) + 1 < (ts.length : Int) := by omega
            have m1 : (0 : Int) ≤ (x.2 : Int) := by omega
            have m2 : (x.2 : Int) ≤ (y.2 : Int) := by omega
            have m3 : (y.2 : Int) ≤ ((T cs).size : Int) := by omega
            clear hx p1 p2 p3 p4 p5 p6 p7 p8 hc q3 hy hv
            go_wp2_with fail
            rw [unhide HX]
            refine (unhide HTR _).mono ?_
            rintro e w2 ⟨rfl, rfl⟩
            go_wp2
            refine ⟨⟨k + 1, by go_num, by omega, ?_⟩, by simp [intOf]; omega⟩
            rw [unhide HSN, ← T_app, ← T_app]
        · obtain rfl : k = ts.length := by omega
          rw [List.take_length]
          have hbA : Below w1.heap.size w1 (w1.alloc (.cells #[.string ⟨#[32]⟩, .string ⟨#[9]⟩, .string ⟨#[10, 32]⟩, .string ⟨#[32, 13]⟩] 9)) := (Below.refl _ _).alloc (Nat.le_refl _) _
          have hbbA := Below.then hb1 hbA
          have hNz : (T (blkN bl ts)).size ≤ 300000 := by
            have h1 := blk_len (bl := bl) hbz ts (fun y hy => by
              obtain ⟨q, hq, e⟩ := List.getElem_of_mem hy
              obtain ⟨_, _, _, _, _, _, _, _, q6, _⟩ := unhide HPC q y (by rw [List.getElem?_eq_getElem hq, e])
              omega)
            rw [T_size]; omega
          have hoN : okL (blkN bl ts ++ bl) := okL_app (blk_ok hblo ts (fun y hy => (unhide HFM y hy).2.2.1)) hblo
          obtain ⟨res, hr1, hr2⟩ := unhide HBS bl (unhide HB0) (unhide HBB)
          have hsum : (T (blkN bl ts ++ bl)).size = (T (blkN bl ts)).size + (T bl).size := sz_app _ _
          have HSM := hide (fun (B C : Nat) (v u : Value) W h1 h2 => same_own B C v u ts res W h1 h2 hn id (fun _ => ⟨rfl, rfl⟩) hr2)
          have hTA := T_app (blkN bl ts) bl
          by_cases h512 : 512 < (T (blkN bl ts ++ bl)).size
          · have HSL := hide (fun W => scan_long (T (blkN bl ts ++ bl)) W h512)
            have h5 : decide ((512 : Int) < ((T (blkN bl ts)).size : Int) + ((T bl).size : Int)) = true := by simp; omega
            have HTA := hide hTA
            clear hr1 hr2 hsum hTA
            generalize blkN bl ts = N at *
            go_wp2_with fail
            rw [unhide HTA]
            refine (unhide HSL _).mono ?_
            rintro e w3 ⟨rfl, hb3⟩
            have hbb3 := Below.then hbbA hb3
            go_wp2_with fail
            refine (live_any _ ((unhide HE).below hbb3)).mono ?_
            rintro e w4 ⟨rfl, hb4⟩
            go_wp2
            go_ret
            exact ⟨rfl, Below.then hbb3 hb4⟩
          · have HSC := hide (fun W hW => scan_any (blkN bl ts ++ bl) W hoN (by omega) hW)
            have h5 : decide ((512 : Int) < ((T (blkN bl ts)).size : Int) + ((T bl).size : Int)) = false := by simp; omega
            have HTA := hide hTA
            have HR1 := hide hr1
            clear hr1 hr2 hsum hTA
            generalize blkN bl ts = N at *
            go_wp2_with fail
            rw [unhide HTA]
            refine (unhide HSC _ ((unhide HE).below hbbA)).mono ?_
            rw [unhide HR1]
            rintro e w3 ⟨⟨u, rfl, hown3⟩, hb3⟩
            have hbb3 := Below.then hbbA hb3
            have HO3 := hide hown3
            clear hown3
            go_wp2_with fail
            refine (live_any _ ((unhide HE).below hbb3)).mono ?_
            rintro e w4 ⟨rfl, hb4⟩
            go_wp2_with fail
            refine (unhide HSM _ _ _ u _ (owns_below (unhide HO) (Below.then hbA (Below.then hb3 hb4))) (owns_below (unhide HO3) hb4)).mono ?_
            rintro e w5 ⟨rfl, hb5⟩
            go_wp2
            go_ret
            exact ⟨rfl, Below.then hbb3 (Below.then hb4 hb5)⟩
end Go.Proofs.YtgabgeadeeaihaaDoor
