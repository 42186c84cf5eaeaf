/- By the picture 0.###### a number is written as it is, and with groups, without the commas, too: the law TopPictures. -/
import Derived.Test.YtndoodiimjkojaaGreatDoorPicForm
import Derived.Test.YtndoodiimjkojaaGreatDoorPicRead
import Derived.Test.YtndoodiimjkojaaGreatDoorNumXRight
import Derived.Test.YtndoodiimjkojaaGreatDoorNumTextAny
import Derived.Test.YtndoodiimjkojaaGreatDoorNumMath
import Derived.Test.YtndoodiimjkojaaGreatDoorNumCls
import Derived.WalkSmall
namespace Go.Proofs.YtndoodiimjkojaaGreatDoor
open Go.RowKit
attribute [local go_sem ↓] Go.wp_at_zero Go.wp_at_succ
theorem minus12 (w : World) (hE : NumEnv w) : Calls Tryz.prog 5 #[.agg #[.int .i64 0, .int .i64 (-12000000)]] w fun e w' => e = .returned (.string ⟨#[45, 49, 50]⟩) ∧ Below w.heap.size w w' := by
  have h := text_fin (-12000000) w hE.pow (by decide) (by decide)
  rw [show (⟨(textL (decide ((-12000000 : Int) < 0)) ((-12000000 : Int).natAbs / 1000000) ((-12000000 : Int).natAbs % 1000000)).toArray⟩ : ByteArray) = ⟨#[45, 49, 50]⟩ by decide +kernel] at h
  exact h
theorem twelve (w : World) : Calls Tryz.prog 6 #[.int .i64 (-12)] w fun e w' => e = .returned (.agg #[.int .i64 0, .int .i64 (-12000000)]) ∧ Below w.heap.size w w' :=
  int_any (-12) w (by decide) (by decide)
set_option maxRecDepth 100000 in
set_option maxHeartbeats 1000000 in
theorem pics_not (k v : Int) (w : World) (hE : NumEnv w) (h : rightB k v = false ∨ (rightB k v = true ∧ (k != 0) = true)) :
    Calls Tryz.prog 3 #[.agg #[.int .i64 k, .int .i64 v]] w fun e w' => e = .returned (.bool true) ∧ Below w.heap.size w w' := by
  have HE := hide hE
  clear hE
  go_enter Tryz.func3, Tryz.ntmps3
  go_wp2_with fail
  refine (xright_any k v _).mono ?_
  rintro e w1 ⟨rfl, hb1⟩
  have hA : NumAt w1 w.heap.size k v := NumAt.below (w := (w.alloc (.cells #[.int .i64 k, .int .i64 v] 24))) ⟨by simp [go_sem], by simp [go_sem], by simp [go_sem], by simp [go_sem]⟩ hb1
  have hb01 : Below w.heap.size w w1 := Below.then (by (repeat first | exact Below.refl _ _ | assumption | refine Below.drew ?_ | refine Below.alloc ?_ (by simp <;> omega) _ | refine Below.setCell ?_ (by simp <;> omega) _)) hb1
  clear hb1
  have HA := hide hA
  obtain ⟨a0, a1, _, _⟩ := hA
  rcases h with hr | ⟨hr, hk⟩
  all_goals
    rw [hr]
    clear hr
    go_wp2_with fail
    refine (twelve _).mono ?_
    rintro e w2 ⟨rfl, hb2⟩
    have hb02 := Below.then hb01 hb2
    go_wp2_with fail
    refine (minus12 _ ((unhide HE).below hb02)).mono ?_
    rintro e w3 ⟨rfl, hb3⟩
    go_wp2
    go_ret
    exact ⟨rfl, Below.then hb02 hb3⟩
/-- Worlds in which the number's variable stands. -/
structure Cls2 (X : World) (p : Nat) (k v : Int) (w' : World) : Prop where
  bel : Below X.heap.size X w'
  a0 : w'.cell? ⟨p, 0, none⟩ = some (.int .i64 k)
  a1 : w'.cell? ⟨p, 1, none⟩ = some (.int .i64 v)
theorem Cls2.below {X w w' : World} {p : Nat} {k v : Int} (h : Cls2 X p k v w) (hb : Below w.heap.size w w') : Cls2 X p k v w' :=
  ⟨Below.then h.bel hb, kept_cell hb h.a0, kept_cell hb h.a1⟩
/-- The first k bytes, without commas. -/
def bare (t : ByteArray) (k : Nat) : ByteArray := ⟨((t.data.toList.take k).filter (· != 44)).toArray⟩
theorem bare_size (t : ByteArray) (k : Nat) : (bare t k).size ≤ k := by
  unfold bare
  rw [mk_size]
  exact Nat.le_trans (List.length_filter_le _ _) (by rw [List.length_take]; omega)
theorem bare_on (t : ByteArray) (k : Nat) (h : k < t.size) : bare t (k + 1) = if t[k] = 44 then bare t k else bare t k ++ t.extract k (k + 1) := by
  have hl : k < t.data.toList.length := h
  have hg : t.data.toList[k] = t[k] := rfl
  unfold bare
  rw [List.take_succ_eq_append_getElem hl, List.filter_append, hg]
  by_cases h44 : t[k] = 44
  · rw [if_pos h44, h44]
    simp
  · rw [if_neg h44]
    apply ByteArray.ext
    rw [ByteArray.data_append, ByteArray.data_extract]
    apply Array.ext'
    have hf : List.filter (· != 44) [t[k]] = [t[k]] := by simp [h44]
    rw [hf]
    simp only [Array.toList_append, Array.toList_extract, List.extract_eq_take_drop]
    rw [List.drop_eq_getElem_cons hl, show k + 1 - k = 1 by omega]
    simp [hg]
set_option maxRecDepth 100000 in
set_option maxHeartbeats 1000000 in
theorem pics_core (v : Int) (s t : ByteArray) (w : World) (hE : NumEnv w) (hr : rightB 0 v = true) (ht : t.size ≤ 1000) (hst : bare t t.size = s)
    (HTX : ∀ w, NumEnv w → Calls Tryz.prog 5 #[.agg #[.int .i64 0, .int .i64 v]] w fun e w' => e = .returned (.string s) ∧ Below w.heap.size w w')
    (HPS : ∀ w, NumEnv w → Calls Tryz.prog 8 #[.string s] w fun e w' => e = .returned (.agg #[.int .i64 0, .int .i64 v]) ∧ Below w.heap.size w w')
    (HF1 : ∀ w, NumEnv w → Calls Tryz.prog 7 #[.agg #[.int .i64 0, .int .i64 v], .string ⟨#[48, 46, 35, 35, 35, 35, 35, 35]⟩] w fun e w' => e = .returned (.tuple #[.string s, .int .i64 0]) ∧ Below w.heap.size w w')
    (HF2 : ∀ w, NumEnv w → Calls Tryz.prog 7 #[.agg #[.int .i64 0, .int .i64 v], .string ⟨#[35, 44, 35, 35, 48, 46, 35, 35, 35, 35, 35, 35]⟩] w fun e w' => e = .returned (.tuple #[.string t, .int .i64 0]) ∧ Below w.heap.size w w') :
    Calls Tryz.prog 3 #[.agg #[.int .i64 0, .int .i64 v]] w fun e w' => e = .returned (.bool true) ∧ Below w.heap.size w w' := by
  have HE := hide hE
  have HX := hide HTX
  have HP := hide HPS
  have H1 := hide HF1
  have H2 := hide HF2
  have HST := hide hst
  have HON := hide (bare_on t)
  clear hE HTX HPS HF1 HF2 hst
  go_enter Tryz.func3, Tryz.ntmps3
  go_wp2_with fail
  refine (xright_any 0 v _).mono ?_
  rintro e w1 ⟨rfl, hb1⟩
  have hA : NumAt w1 w.heap.size 0 v := NumAt.below (w := (w.alloc (.cells #[.int .i64 0, .int .i64 v] 24))) ⟨by simp [go_sem], by simp [go_sem], by simp [go_sem], by simp [go_sem]⟩ hb1
  have hb01 : Below w.heap.size w w1 := Below.then (by (repeat first | exact Below.refl _ _ | assumption | refine Below.drew ?_ | refine Below.alloc ?_ (by simp <;> omega) _ | refine Below.setCell ?_ (by simp <;> omega) _)) hb1
  clear hb1
  have HA := hide hA
  obtain ⟨a0, a1, _, _⟩ := hA
  rw [hr]
  clear hr
  go_wp2_with fail
  refine (unhide H1 _ ((unhide HE).below hb01)).mono ?_
  rintro e w2 ⟨rfl, hb2⟩
  have hb02 := Below.then hb01 hb2
  have hN2 := (unhide HA).below hb2
  clear a0 a1 HA hb01 hb2
  have HA := hide hN2
  obtain ⟨a0, a1, _, _⟩ := hN2
  go_wp2_with fail
  refine (unhide H2 _ ((unhide HE).below hb02)).mono ?_
  rintro e w3 ⟨rfl, hb3⟩
  have hb03 := Below.then hb02 hb3
  have hN3 := (unhide HA).below hb3
  have HE3 := hide ((unhide HE).below hb03)
  clear a0 a1 HA hb02 hb3 H1 H2 HE
  go_wp2_with fail
  go_loop [7, 8] (fun u i => ∃ k : Nat, k ≤ t.size ∧ i = .int .i64 (k : Int) ∧ u = .string (bare t k)) (fun _ i => t.size - (intOf i).toNat)
  case atStart => exact ⟨0, Nat.zero_le _, rfl, rfl⟩
  case round =>
    obtain ⟨k, hk, rfl, rfl⟩ := hrel
    have hbs := bare_size t k
    by_cases hlt : k < t.size
    · have hon := unhide HON k hlt
      clear HX HP HST HON HE3 hN3 hb03
      generalize bare t k = U at *
      by_cases h44 : t[k] = 44
      · have t44 : ((t[k].toNat : Nat) : Int) = 44 := by rw [h44]; rfl
        rw [if_pos h44] at hon
        have HO := hide hon
        clear h44 hon
        go_wp2
        exact ⟨⟨k + 1, by omega, by go_num, by rw [unhide HO]⟩, by simp [intOf]; omega⟩
      · have t44 : ((t[k].toNat : Nat) : Int) ≠ 44 := fun e => h44 (UInt8.toNat_inj.1 (by show t[k].toNat = 44; omega))
        have t44' : (((t[k].toNat : Nat) : Int) == 44) = false := by simpa using t44
        rw [if_neg h44] at hon
        have HO := hide hon
        clear h44 hon
        go_wp2
        exact ⟨⟨k + 1, by omega, by go_num, by rw [unhide HO]⟩, by simp [intOf]; omega⟩
    · obtain rfl : k = t.size := by omega
      rw [unhide HST]
      clear HST HON hbs
      go_upto_region 11 with fail
      have hC : Cls2 w3 w.heap.size 0 v w3.drew := ⟨(Below.refl _ _).drew, hN3.kind, hN3.val⟩
      clear hN3 hlt hk
      refine wp_region_cls (Cls2 w3 w.heap.size 0 v) (by kernel_rfl) (by kernel_rfl) hC ?_
      repeat
        (first
          | go_big_quiet_skip
          | (go_big_quiet_want
             go_big_quiet_op
             first
               | go_big_quiet_on
               | (apply Exists.intro
                  refine ⟨fun w' hC => ?_, ?_⟩
                  · (first
                      | (go_at_call 8; refine (unhide HP _ ((unhide HE3).below hC.bel)).mono ?_; rintro e w5 ⟨rfl, hb5⟩; exact ⟨rfl, hC.below hb5⟩)
                      | (go_at_call 5; refine (unhide HX _ ((unhide HE3).below hC.bel)).mono ?_; rintro e w5 ⟨rfl, hb5⟩; exact ⟨rfl, hC.below hb5⟩)
                      | (have c0 := hC.a0; have c1 := hC.a1; go_simp; first | done | rfl))
                  go_big_quiet_on)))
      refine wpQuiet_nil ?_
      intro w6 hC6
      have hb6 := Below.then hb03 hC6.bel
      clear hC hC6 hb03 HX HP HE3
      go_wp2
      go_ret
      exact ⟨rfl, hb6⟩
theorem part_bare (n g : Nat) : ∀ (l : List UInt8) (pos : Nat), (∀ b ∈ l, b ≠ 44) → (partF n g pos l).filter (· != 44) = l
  | [], _, _ => by simp [partF]
  | c :: r, pos, h => by
    have hc : (c != 44) = true := by simpa using h c (List.mem_cons_self ..)
    rw [partF, List.filter_append, List.filter_cons, if_pos hc, part_bare n g r (pos + 1) (fun b hb => h b (List.mem_cons_of_mem _ hb))]
    split <;> simp
theorem part_len (n g : Nat) : ∀ (l : List UInt8) (pos : Nat), (partF n g pos l).length ≤ 2 * l.length
  | [], _ => by simp [partF]
  | c :: r, pos => by
    have := part_len n g r (pos + 1)
    rw [partF, List.length_append, List.length_cons, List.length_cons]
    split <;> simp <;> omega
theorem bare_whole (l : List UInt8) : bare ⟨l.toArray⟩ (⟨l.toArray⟩ : ByteArray).size = ⟨(l.filter (· != 44)).toArray⟩ := by
  unfold bare
  rw [mk_size, mk_list, List.take_length]
theorem no_comma {l : List UInt8} (h : ∀ b ∈ l, 45 ≤ b.toNat ∧ b.toNat ≤ 57) : ∀ b ∈ l, b ≠ 44 := fun b hb e => by
  have := (h b hb).1
  rw [e] at this
  exact absurd this (by decide)
theorem filter_none {l : List UInt8} (h : ∀ b ∈ l, b ≠ 44) : l.filter (· != 44) = l := List.filter_eq_self.2 fun b hb => by simpa using h b hb
theorem sign_back (v : Int) (h1 : -1000000000000000000 ≤ v) (h2 : v ≤ 1000000000000000000) : signK (decide (v < 0)) (v.natAbs / 1000000 * 1000000 + v.natAbs % 1000000) = 0 ∧ signN (decide (v < 0)) (v.natAbs / 1000000 * 1000000 + v.natAbs % 1000000) = v := by
  rw [show v.natAbs / 1000000 * 1000000 + v.natAbs % 1000000 = v.natAbs by omega]
  unfold signK signN
  rw [if_neg (by omega), if_neg (by omega)]
  refine ⟨rfl, ?_⟩
  by_cases h : v < 0
  · simp [h]; omega
  · simp [h]; omega
theorem sign_cat (l : List UInt8) : (⟨#[45]⟩ ++ ⟨l.toArray⟩ : ByteArray) = ⟨(45 :: l).toArray⟩ := by
  apply ByteArray.ext
  rw [ByteArray.data_append]
  apply Array.ext'
  simp
/-- Format of a Fin number by a picture of six places that may stand: its sign, its whole part as it is parted, its places. -/
theorem format_fin (pic : ByteArray) (g v : Int) (R : List UInt8) (h1 : -1000000000000000000 ≤ v) (h2 : v ≤ 1000000000000000000) (hR : R.length ≤ 40)
    (hP : ∀ w, NumEnv w → Calls Tryz.prog 15 #[.string pic] w fun e w' => e = .returned (.tuple #[.agg #[.string ⟨#[]⟩, .string ⟨#[]⟩, .int .i64 1, .int .i64 0, .int .i64 6, .int .i64 g], .agg #[.string ⟨#[45]⟩, .string ⟨#[]⟩, .int .i64 0, .int .i64 0, .int .i64 0, .int .i64 0], .bool true]) ∧ Below w.heap.size w w')
    (hD : ∀ w, Calls Tryz.prog 61 #[.string ⟨(Lib.decDigits (v.natAbs / 1000000)).toArray⟩, .int .i64 g] w fun e w' => e = .returned (.string ⟨R.toArray⟩) ∧ Below w.heap.size w w') (w : World) (hE : NumEnv w) :
    Calls Tryz.prog 7 #[.agg #[.int .i64 0, .int .i64 v], .string pic] w fun e w' => e = .returned (.tuple #[.string ⟨((if decide (v < 0) = true then [45] else []) ++ (R ++ tailL (v.natAbs % 1000000))).toArray⟩, .int .i64 0]) ∧ Below w.heap.size w w' := by
  have hpl := places_len (v.natAbs % 1000000) (by omega)
  have htl : (tailL (v.natAbs % 1000000)).length ≤ 7 := by unfold tailL; split <;> simp; omega
  have hsz : (⟨(R ++ tailL (v.natAbs % 1000000)).toArray⟩ : ByteArray).size ≤ 1000 := by rw [mk_size, List.length_append]; omega
  have hW := fun (w : World) (hE : NumEnv w) => writeSize_of g v R w h1 h2 (by omega) hE.pow hD
  by_cases hv : v < 0
  · have h := format_below pic _ g v w hE (by simp [belowB, hv]) hsz hP hW
    rw [sign_cat] at h
    rw [if_pos (decide_eq_true hv)]
    exact h
  · have h := format_above pic _ g v w hE (by simp [belowB, hv]) hsz hP hW
    rw [if_neg (by simpa using hv), List.nil_append]
    exact h
theorem pics_walk (k v : Int) (w : World) (hE : NumEnv w) :
    Calls Tryz.prog 3 #[.agg #[.int .i64 k, .int .i64 v]] w fun e w' => e = .returned (.bool true) ∧ Below w.heap.size w w' := by
  cases hr : rightB k v
  · exact pics_not k v w hE (.inl hr)
  · rcases right_cases hr with ⟨rfl, h1, h2⟩ | ⟨rfl, rfl⟩ | ⟨rfl, rfl⟩ | ⟨rfl, rfl⟩
    · obtain ⟨e1, e2⟩ := sign_back v h1 h2
      have hm : v.natAbs % 1000000 < 1000000 := by omega
      have hn : v.natAbs / 1000000 * 1000000 + v.natAbs % 1000000 ≤ 1000000000000000000 := by omega
      have hX := fun (w : World) (hE : NumEnv w) => text_fin v w hE.pow h1 h2
      have hP := fun (w : World) (hE : NumEnv w) => parse_text (decide (v < 0)) (v.natAbs / 1000000) (v.natAbs % 1000000) w hE.len hE.tabs hm hn
      rw [e1, e2] at hP
      have hl := text_len (decide (v < 0)) (v.natAbs / 1000000) (v.natAbs % 1000000) hm hn
      have hg := text_range (decide (v < 0)) (v.natAbs / 1000000) (v.natAbs % 1000000) hm
      have hdl := digits_small (v.natAbs / 1000000) (by omega)
      have hpt := part_len (Lib.decDigits (v.natAbs / 1000000)).length 3 (Lib.decDigits (v.natAbs / 1000000)) 0
      have hdr := dig_range (dec_all (v.natAbs / 1000000)).2.1
      have hD3 := fun (w : World) => partDigits_any ⟨(Lib.decDigits (v.natAbs / 1000000)).toArray⟩ 3 w (by rw [mk_size]; omega) (by decide) (by decide) (fun p h => by
        have hp : p < (Lib.decDigits (v.natAbs / 1000000)).length := by rw [mk_size] at h; exact h
        have := (hdr _ (List.getElem_mem hp)).2
        show ((Lib.decDigits (v.natAbs / 1000000)).toArray[p]'_).toNat < 128
        simp only [List.getElem_toArray]
        omega)
      rw [mk_size, mk_list] at hD3
      have f1 := format_fin ⟨#[48, 46, 35, 35, 35, 35, 35, 35]⟩ 0 v _ h1 h2 (by omega) readPicture_a (fun w => partDigits_0 ⟨(Lib.decDigits (v.natAbs / 1000000)).toArray⟩ w)
      have f2 := format_fin ⟨#[35, 44, 35, 35, 48, 46, 35, 35, 35, 35, 35, 35]⟩ 3 v _ h1 h2 (by omega) readPicture_b hD3
      refine pics_core v _ _ w hE hr ?_ ?_ hX hP f1 f2
      · have hpl := places_len (v.natAbs % 1000000) hm
        have htl : (tailL (v.natAbs % 1000000)).length ≤ 7 := by unfold tailL; split <;> simp; omega
        rw [mk_size, List.length_append, List.length_append]
        split <;> simp <;> omega
      · rw [bare_whole]
        have hc := no_comma hg
        have hsg : (if decide (v < 0) = true then [45] else [] : List UInt8).filter (· != 44) = if decide (v < 0) = true then [45] else [] := by split <;> rfl
        unfold textL bodyL at hc ⊢
        rw [List.filter_append, List.filter_append, part_bare _ _ _ _ (no_comma hdr), filter_none (l := tailL _) (fun b hb => hc b (by simp [hb])), hsg]
    · exact pics_not 1 0 w hE (.inr ⟨hr, rfl⟩)
    · exact pics_not 2 0 w hE (.inr ⟨hr, rfl⟩)
    · exact pics_not 3 0 w hE (.inr ⟨hr, rfl⟩)
end Go.Proofs.YtndoodiimjkojaaGreatDoor
