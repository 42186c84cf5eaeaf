/- XplexPlaces: places rise, and each token stands at its own. -/
import Derived.Test.YtgabgeadeeaihaaDoorLexLive
import Derived.Deep.QuietTactic
import Derived.BigQuiet
namespace Go.Proofs.YtgabgeadeeaihaaDoor
open Go.RowKit
theorem laid_count (n : List Nat → Nat) : ∀ ts pre l, Laid n pre l ts → ts.length ≤ l.length
  | [], _, _, _ => Nat.zero_le _
  | x :: ts, pre, l, ⟨hf, b, r, _, e, _, hL⟩ => by
    have ih := laid_count n ts _ _ hL
    have h1 := congrArg List.length e
    rw [List.length_append, List.length_append] at h1
    have h2 : 0 < x.1.raw.length := List.length_pos_iff.2 (formed_ne hf)
    simp only [List.length_cons]
    omega
def offOf (t : Tok) : Nat := if t.kind == 2 || t.kind == 7 then 1 else 0
theorem scan_laid_all {cs : List Nat} {ts : List (Tok × Nat)} (h : scanOf cs = .ok ts) : Laid (fun l => (tx l).length) [] cs ts :=
  scan_laid _ (cs.length + 1) [] [] cs ts (by rw [List.nil_append]; exact h) (by omega)
theorem off_raw {t : Tok} (h : formed t) : ∃ a b, t.raw = a ++ t.text ++ b ∧ (tx a).length = offOf t := by
  rcases h with ⟨hk, q, hq, _, e⟩ | ⟨hk, e, _⟩ | ⟨h2, h7, e, _⟩
  · refine ⟨[q], [q], by rw [e]; rfl, ?_⟩
    unfold offOf
    rw [hk]
    rcases hq with rfl | rfl <;> rfl
  · refine ⟨[36], [], by rw [e, List.append_nil]; rfl, ?_⟩
    unfold offOf
    rw [hk]
    rfl
  · refine ⟨[], [], by rw [e]; simp, ?_⟩
    unfold offOf
    rw [show (t.kind == 2) = false by simpa using h2, show (t.kind == 7) = false by simpa using h7]
    rfl
theorem place_at {cs : List Nat} {ts : List (Tok × Nat)} (h : scanOf cs = .ok ts) {k : Nat} {x : Tok × Nat} (hx : ts[k]? = some x) :
    x.2 + offOf x.1 + (T x.1.text).size ≤ (T cs).size ∧ (T cs).extract (x.2 + offOf x.1) (x.2 + offOf x.1 + (T x.1.text).size) = T x.1.text := by
  obtain ⟨hf, p, b, r, e, h2, _⟩ := laid_at _ ts [] cs (scan_laid_all h) k x hx
  obtain ⟨a, c, e2, e3⟩ := off_raw hf
  rw [List.nil_append] at e
  have e4 : cs = (p ++ a) ++ x.1.text ++ (c ++ b ++ r) := by rw [e, e2]; simp
  have e5 : x.2 + offOf x.1 = (tx (p ++ a)).length := by rw [tx_len_app, e3, h2]
  rw [e5]
  refine ⟨?_, ?_⟩
  · rw [T_size, T_size]
    have h1 := tx_len_app (p ++ a) x.1.text
    have h2 := tx_len_app (p ++ a ++ x.1.text) (c ++ b ++ r)
    rw [← e4] at h2
    omega
  · conv => lhs; rw [e4]
    exact T_mid _ _ _
theorem place_rise {cs : List Nat} {ts : List (Tok × Nat)} (hl : okL cs) (h : scanOf cs = .ok ts) {k : Nat} {x y : Tok × Nat} (hx : ts[k]? = some x) (hy : ts[k + 1]? = some y) : x.2 < y.2 := by
  obtain ⟨hf, p, b, r, e, h2, _, _, h5⟩ := laid_at _ ts [] cs (scan_laid_all h) k x hx
  obtain ⟨h6, _⟩ := h5 y hy
  rw [h2, h6]
  show (tx p).length < (tx (p ++ x.1.raw ++ b)).length
  rw [tx_len_app, tx_len_app]
  have : okL x.1.raw := by
    rw [List.nil_append] at e
    rw [e] at hl
    exact okL_right (okL_left (okL_left hl))
  have := Nat.pos_of_ne_zero fun h0 => formed_ne hf (tx_len_zero this h0)
  omega
set_option maxRecDepth 100000 in
set_option maxHeartbeats 4000000 in
theorem places_walk (s : ByteArray) (w : World) (hE : Env5 w) :
    Calls Tryd.prog 8 #[.string s] w fun e w' => e = .returned (.bool true) ∧ Below w.heap.size w w' := by
  have HE := hide hE
  clear hE
  rcases text_cases s with h | ⟨h, hf⟩ | ⟨h, cs, hl, rfl⟩
  · go_enter Tryd.func8, Tryd.ntmps8
    go_wp2_with fail
    refine (scan_long s _ h).mono ?_
    rintro e w1 ⟨rfl, hb1⟩
    go_wp2_with fail
    refine (live_any _ ((unhide HE).below hb1)).mono ?_
    rintro e w2 ⟨rfl, hb2⟩
    go_wp2
    go_ret
    exact ⟨rfl, Below.then hb1 hb2⟩
  · go_enter Tryd.func8, Tryd.ntmps8
    go_wp2_with fail
    refine (scan_bad s _ h hf).mono ?_
    rintro e w1 ⟨⟨k, rfl⟩, hb1⟩
    go_wp2_with fail
    refine (live_any _ ((unhide HE).below hb1)).mono ?_
    rintro e w2 ⟨rfl, hb2⟩
    go_wp2
    go_ret
    exact ⟨rfl, Below.then hb1 hb2⟩
  · cases hsc : scanOf cs with
    | error p =>
      have hcon := scan_any cs w hl h (unhide HE)
      rw [hsc] at hcon
      have HC := hide hcon
      clear hcon hsc
      go_enter Tryd.func8, Tryd.ntmps8
      go_wp2_with fail
      refine (unhide HC).mono ?_
      rintro e w1 ⟨rfl, hb1⟩
      go_wp2_with fail
      refine (live_any _ ((unhide HE).below hb1)).mono ?_
      rintro e w2 ⟨rfl, hb2⟩
      go_wp2
      go_ret
      exact ⟨rfl, Below.then hb1 hb2⟩
    | ok ts =>
      have hcon := scan_any cs w hl h (unhide HE)
      rw [hsc] at hcon
      have hn : ts.length ≤ 512 := by
        have h1 := laid_count _ ts [] cs (scan_laid_all hsc)
        have h2 := tx_len_ge hl
        rw [T_size] at h
        omega
      have HC := hide hcon
      have HP := hide (fun k x (hx : ts[k]? = some x) => place_at hsc hx)
      have HR := hide (fun k x y (hx : ts[k]? = some x) (hy : ts[k + 1]? = some y) => place_rise hl hsc hx hy)
      clear hcon hsc
      go_enter Tryd.func8, Tryd.ntmps8
      go_wp2_with fail
      refine (unhide HC).mono ?_
      rintro e w1 ⟨⟨v, rfl, hown⟩, hb1⟩
      rcases own_cells hown with ⟨rfl, a, c, rfl⟩ | ⟨g, cap, rfl, hg1, hg2, hg3, hc⟩
      · clear hown
        go_wp2_with fail
        refine wp_loop_rounds 1 ?_
        rw [rounds_succ]
        go_wp2_with fail
        refine (live_any _ ((unhide HE).below hb1)).mono ?_
        rintro e w2 ⟨rfl, hb2⟩
        go_wp2
        go_ret
        exact ⟨rfl, Below.then hb1 hb2⟩
      have HCC := hide hc
      clear hc hown
      go_wp2_with fail
      go_loopw [6] (fun i wr => ∃ k : Nat, i = .int .i64 (k : Nat) ∧ k ≤ ts.length ∧ Below w1.heap.size w1 wr) (fun i _ => ts.length - (intOf i).toNat)
      case atStart => exact ⟨0, rfl, Nat.zero_le _, Below.refl _ _⟩
      case round =>
        obtain ⟨k, rfl, hk, hbr⟩ := hrel
        by_cases hlt : k < ts.length
        · obtain ⟨x, hx⟩ : ∃ x, ts[k]? = some x := ⟨ts[k], List.getElem?_eq_getElem hlt⟩
          obtain ⟨c0, c1, c2⟩ := unhide HCC k x hx
          replace c0 := kept_cell hbr c0
          replace c1 := kept_cell hbr c1
          replace c2 := kept_cell hbr c2
          obtain ⟨p1, p2⟩ := unhide HP k x hx
          cases k with
          | zero =>
            clear hx
            obtain ⟨⟨kd, t, rw0⟩, at0⟩ := x
            simp only [Nat.zero_mul, Nat.zero_add] at c0 c1 c2 p1 p2
            by_cases h2 : kd = 2
            · subst h2
              rw [show offOf ⟨2, t, rw0⟩ = 1 from rfl] at p1 p2
              have d1 : decide ((at0 : Int) + 1 < 0) = false := by simp; omega
              have d2 : decide (((T cs).size : Int) < (at0 : Int) + 1 + ((T t).size : Int)) = false := by simp; omega
              have i1 : (0 : Int) ≤ (at0 : Int) + 1 := by omega
              have i4 : IntKind.i64.wrap ((at0 : Int) + 1 + ((T t).size : Int)) = (at0 : Int) + 1 + ((T t).size : Int) := by rw [IntKind.wrap_i64]; omega
              have i5 : ((at0 : Int) + 1 + ((T t).size : Int)).toNat = at0 + 1 + (T t).size := by omega
              have i2 : (at0 : Int) + 1 ≤ (at0 : Int) + 1 + ((T t).size : Int) := by omega
              have i3 : (at0 : Int) + 1 + ((T t).size : Int) ≤ ((T cs).size : Int) := by omega
              go_wp2_with fail
              go_quiet (fail)
              go_wp2_with fail
              go_quiet (fail)
              go_wp2
              exact ⟨⟨1, by go_num, by omega, Below.then hbr (below_drewN _ _)⟩, by simp [intOf]; omega⟩
            · by_cases h7 : kd = 7
              · subst h7
                rw [show offOf ⟨7, t, rw0⟩ = 1 from rfl] at p1 p2
                have d1 : decide ((at0 : Int) + 1 < 0) = false := by simp; omega
                have d2 : decide (((T cs).size : Int) < (at0 : Int) + 1 + ((T t).size : Int)) = false := by simp; omega
                have i1 : (0 : Int) ≤ (at0 : Int) + 1 := by omega
                have i4 : IntKind.i64.wrap ((at0 : Int) + 1 + ((T t).size : Int)) = (at0 : Int) + 1 + ((T t).size : Int) := by rw [IntKind.wrap_i64]; omega
                have i5 : ((at0 : Int) + 1 + ((T t).size : Int)).toNat = at0 + 1 + (T t).size := by omega
                have i2 : (at0 : Int) + 1 ≤ (at0 : Int) + 1 + ((T t).size : Int) := by omega
                have i3 : (at0 : Int) + 1 + ((T t).size : Int) ≤ ((T cs).size : Int) := by omega
                go_wp2_with fail
                go_quiet (fail)
                go_wp2_with fail
                go_quiet (fail)
                go_wp2
                exact ⟨⟨1, by go_num, by omega, Below.then hbr (below_drewN _ _)⟩, by simp [intOf]; omega⟩
              · skip
                have g2 : ((kd : Int) == 2) = false := by simp; omega
                have g7 : ((kd : Int) == 7) = false := by simp; omega
                rw [show offOf ⟨kd, t, rw0⟩ = 0 by unfold offOf; rw [show (kd == 2) = false by simpa using h2, show (kd == 7) = false by simpa using h7]; rfl, Nat.add_zero] at p1 p2
                have d1 : decide ((at0 : Int) < 0) = false := by simp
                have d2 : decide (((T cs).size : Int) < (at0 : Int) + ((T t).size : Int)) = false := by simp; omega
                have i1 : (0 : Int) ≤ (at0 : Int) := by omega
                have i4 : IntKind.i64.wrap ((at0 : Int) + ((T t).size : Int)) = (at0 : Int) + ((T t).size : Int) := by rw [IntKind.wrap_i64]; omega
                have i5 : ((at0 : Int) + ((T t).size : Int)).toNat = at0 + (T t).size := by omega
                have i2 : (at0 : Int) ≤ (at0 : Int) + ((T t).size : Int) := by omega
                have i3 : (at0 : Int) + ((T t).size : Int) ≤ ((T cs).size : Int) := by omega
                go_wp2_with fail
                go_quiet (fail)
                go_wp2_with fail
                go_quiet (fail)
                go_wp2
                exact ⟨⟨1, by go_num, by omega, Below.then hbr (below_drewN _ _)⟩, by simp [intOf]; omega⟩
          | succ j =>
            obtain ⟨y, hy⟩ : ∃ y, ts[j]? = some y := ⟨ts[j], List.getElem?_eq_getElem (by omega)⟩
            obtain ⟨_, _, b2⟩ := unhide HCC j y hy
            replace b2 := kept_cell hbr b2
            have hr := unhide HR j y x hy hx
            have hwr : IntKind.i64.wrap (j : Int) = (j : Int) := by rw [IntKind.wrap_i64]; omega
            have n0 : (0 : Int) ≤ (j : Int) := by omega
            have n1 : (0 : Int) ≤ (j : Int) + 1 := by omega
            have n2 : (j : Int) + 1 < (ts.length : Int) := by omega
            have n3 : (j : Int) < (ts.length : Int) := by omega
            clear hx hy
            obtain ⟨⟨kd, t, rw0⟩, at0⟩ := x
            obtain ⟨_, at1⟩ := y
            simp only at c0 c1 c2 b2 p1 p2 hr
            have d0 : decide ((at0 : Int) ≤ (at1 : Int)) = false := by simp; omega
            have d5 : ¬ at0 ≤ at1 := by omega
            by_cases h2 : kd = 2
            · subst h2
              rw [show offOf ⟨2, t, rw0⟩ = 1 from rfl] at p1 p2
              have d1 : decide ((at0 : Int) + 1 < 0) = false := by simp; omega
              have d2 : decide (((T cs).size : Int) < (at0 : Int) + 1 + ((T t).size : Int)) = false := by simp; omega
              have i1 : (0 : Int) ≤ (at0 : Int) + 1 := by omega
              have i4 : IntKind.i64.wrap ((at0 : Int) + 1 + ((T t).size : Int)) = (at0 : Int) + 1 + ((T t).size : Int) := by rw [IntKind.wrap_i64]; omega
              have i5 : ((at0 : Int) + 1 + ((T t).size : Int)).toNat = at0 + 1 + (T t).size := by omega
              have i2 : (at0 : Int) + 1 ≤ (at0 : Int) + 1 + ((T t).size : Int) := by omega
              have i3 : (at0 : Int) + 1 + ((T t).size : Int) ≤ ((T cs).size : Int) := by omega
              go_wp2_with fail
              go_quiet (fail)
              go_wp2_with fail
              go_quiet (fail)
              go_wp2
              exact ⟨⟨j + 1 + 1, by go_num, by omega, Below.then hbr (below_drewN _ _)⟩, by simp [intOf]; omega⟩
            · by_cases h7 : kd = 7
              · subst h7
                rw [show offOf ⟨7, t, rw0⟩ = 1 from rfl] at p1 p2
                have d1 : decide ((at0 : Int) + 1 < 0) = false := by simp; omega
                have d2 : decide (((T cs).size : Int) < (at0 : Int) + 1 + ((T t).size : Int)) = false := by simp; omega
                have i1 : (0 : Int) ≤ (at0 : Int) + 1 := by omega
                have i4 : IntKind.i64.wrap ((at0 : Int) + 1 + ((T t).size : Int)) = (at0 : Int) + 1 + ((T t).size : Int) := by rw [IntKind.wrap_i64]; omega
                have i5 : ((at0 : Int) + 1 + ((T t).size : Int)).toNat = at0 + 1 + (T t).size := by omega
                have i2 : (at0 : Int) + 1 ≤ (at0 : Int) + 1 + ((T t).size : Int) := by omega
                have i3 : (at0 : Int) + 1 + ((T t).size : Int) ≤ ((T cs).size : Int) := by omega
                go_wp2_with fail
                go_quiet (fail)
                go_wp2_with fail
                go_quiet (fail)
                go_wp2
                exact ⟨⟨j + 1 + 1, by go_num, by omega, Below.then hbr (below_drewN _ _)⟩, by simp [intOf]; omega⟩
              · skip
                have g2 : ((kd : Int) == 2) = false := by simp; omega
                have g7 : ((kd : Int) == 7) = false := by simp; omega
                rw [show offOf ⟨kd, t, rw0⟩ = 0 by unfold offOf; rw [show (kd == 2) = false by simpa using h2, show (kd == 7) = false by simpa using h7]; rfl, Nat.add_zero] at p1 p2
                have d1 : decide ((at0 : Int) < 0) = false := by simp
                have d2 : decide (((T cs).size : Int) < (at0 : Int) + ((T t).size : Int)) = false := by simp; omega
                have i1 : (0 : Int) ≤ (at0 : Int) := by omega
                have i4 : IntKind.i64.wrap ((at0 : Int) + ((T t).size : Int)) = (at0 : Int) + ((T t).size : Int) := by rw [IntKind.wrap_i64]; omega
                have i5 : ((at0 : Int) + ((T t).size : Int)).toNat = at0 + (T t).size := by omega
                have i2 : (at0 : Int) ≤ (at0 : Int) + ((T t).size : Int) := by omega
                have i3 : (at0 : Int) + ((T t).size : Int) ≤ ((T cs).size : Int) := by omega
                go_wp2_with fail
                go_quiet (fail)
                go_wp2_with fail
                go_quiet (fail)
                go_wp2
                exact ⟨⟨j + 1 + 1, by go_num, by omega, Below.then hbr (below_drewN _ _)⟩, by simp [intOf]; omega⟩
        · obtain rfl : k = ts.length := by omega
          go_wp2_with fail
          refine (live_any _ ((unhide HE).below (Below.then hb1 hbr))).mono ?_
          rintro e w2 ⟨rfl, hb2⟩
          go_wp2
          go_ret
          exact ⟨rfl, Below.then hb1 (Below.then hbr hb2)⟩
end Go.Proofs.YtgabgeadeeaihaaDoor
