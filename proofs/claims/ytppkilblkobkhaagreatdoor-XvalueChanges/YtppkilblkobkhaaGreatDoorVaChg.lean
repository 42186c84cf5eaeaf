/- The law XvalueChanges. -/
import Derived.Test.YtppkilblkobkhaaGreatDoorVaTx
import Derived.Test.YtppkilblkobkhaaGreatDoorLines
import Derived.Deep.Slices
namespace Go.Proofs.YtppkilblkobkhaaGreatDoor
open Go.RowKit
/-- A slice of truths that was handed in. -/
def BoolsAt (w : World) (ad : Option Addr) (n : Nat) (t : Nat → Bool) : Prop := 0 < n → ∃ R o, ad = some ⟨R, o, none⟩ ∧ ∀ i, i < n → w.cell? ⟨R, o + i, none⟩ = some (.bool (t i))
theorem cellsBool : Tryz.prog.cellsOf 4 = 1 := by kernel_rfl
section
variable {H : Type} {enc : TypeId × Value → H} {W : World} {held : Bool}
theorem open_bools {fuel : Nat} {a : Option Addr} {len cap : Nat} {d : DataW H} {q : List MemPlace}
    (h : DataW.trod enc Tryz.prog W 0 (fun _ => true) held fuel 42 [.slice a len cap] = some (d, q)) :
    ∃ t : Nat → Bool, BoolsAt W a len t := by
  rcases Deep.open_slice Tryz.underlying42 h with ⟨h0, _⟩ | ⟨ad, len', cap', m, n, D, Pl, hcs, hb, hl, hm, hmm, hx, hall⟩
  · cases h0
    exact ⟨fun _ => false, fun h => absurd h (Nat.not_lt_zero 0)⟩
  · cases hcs
    have hlm : len ≤ m := by rw [hmm]; simp; omega
    have each : ∀ i, i < len → ∃ y : Bool, W.cell? (ad.add i) = some (.bool y) := by
      intro i hi
      obtain ⟨cs', h1, h2⟩ := hall i (by omega)
      rw [cellsBool] at h1
      obtain ⟨z, e, _⟩ := DataW.trod_bool Tryz.underlying4 h2
      obtain ⟨_, _, hcell⟩ := World.cells?_some h1
      have e0 := hcell 0 (by omega)
      subst e
      rw [Deep.add_add] at e0
      exact ⟨z, by simpa using e0⟩
    obtain ⟨f, hf⟩ := Deep.choose_lt each
    refine ⟨f, fun h0 => ?_⟩
    obtain ⟨b, o, sp⟩ := ad
    have hsp : sp = none := by
      have := hf 0 h0
      simpa [Addr.add] using World.cell?_spot this
    subst hsp
    refine ⟨b, o, rfl, fun i hi => ?_⟩
    have := hf i hi
    rw [Addr.add_mid] at this
    exact this
end
/-- The first truths; what the law makes of them. -/
def boolL (t : Nat → Bool) (k : Nat) : List Bool := (List.range k).map t
def abL (l : List Bool) : List UInt8 := l.map fun b => if b then 97 else 98
def xyL (l : List Bool) : List UInt8 := l.map fun b => if b then 120 else 121
def onesL (l : List Bool) : List UInt8 := List.replicate (l.countP id) 97
theorem boolL_snoc (t : Nat → Bool) (k : Nat) : boolL t (k + 1) = boolL t k ++ [t k] := by simp [boolL, List.range_succ]
theorem boolL_len (t : Nat → Bool) (k : Nat) : (boolL t k).length = k := by simp [boolL]
theorem tr_there (l : List Bool) : trL [97, 98] [120, 121] (abL l) = xyL l := by
  induction l with
  | nil => rfl
  | cons b r ih => unfold trL abL xyL at *; rw [List.map_cons, List.flatMap_cons, ih]; cases b <;> rfl
theorem tr_back (l : List Bool) : trL [120, 121] [97, 98] (xyL l) = abL l := by
  induction l with
  | nil => rfl
  | cons b r ih => unfold trL abL xyL at *; rw [List.map_cons, List.flatMap_cons, ih]; cases b <;> rfl
theorem tr_gone (l : List Bool) : trL [97, 98] [97] (abL l) = onesL l := by
  induction l with
  | nil => rfl
  | cons b r ih =>
    unfold trL abL at *
    rw [List.map_cons, List.flatMap_cons, ih]
    cases b
    · unfold onesL; rw [List.countP_cons_of_neg (by simp)]; rfl
    · unfold onesL; rw [List.countP_cons_of_pos (by simp), List.replicate_succ]; rfl
theorem ab_low (l : List Bool) : ∀ x ∈ abL l, x.toNat < 128 := by
  intro x hx
  simp only [abL, List.mem_map] at hx
  obtain ⟨b, _, rfl⟩ := hx
  cases b <;> decide
theorem xy_low (l : List Bool) : ∀ x ∈ xyL l, x.toNat < 128 := by
  intro x hx
  simp only [xyL, List.mem_map] at hx
  obtain ⟨b, _, rfl⟩ := hx
  cases b <;> decide
theorem tr_text (s f t : List UInt8) (w : World) (gl cl : Nat) (hs : ∀ x ∈ s, x.toNat < 128) (hf : ∀ x ∈ f, x.toNat < 128) (ht : ∀ x ∈ t, x.toNat < 128) (ls : s.length ≤ 2000) (lf : f.length ≤ 2) (lt : t.length ≤ 2)
    (h0 : w.cell? ⟨gl, 0, none⟩ = some (.string (bsT s))) (h1 : w.cell? ⟨gl, 1, none⟩ = some (.string (bsT f))) (h2 : w.cell? ⟨gl, 2, none⟩ = some (.string (bsT t))) :
    Calls Tryz.prog 12 #[.string ⟨#[116, 114, 97, 110, 115, 108, 97, 116, 101]⟩, .slice (some ⟨gl, 0, none⟩) 3 cl] w fun e w' => e = .returned (.tuple #[.string (bsT (trL f t s)), .bool true]) ∧ Below w.heap.size w w' := by
  refine text_law _ [bsT s, bsT f, bsT t] gl cl _ w (by simp) (by simp) (fun i z hz => ?_) 0 0 false (fun W' g cap hb hv => ?_)
  · match i, hz with
    | 0, hz => cases hz; exact h0
    | 1, hz => cases hz; exact h1
    | 2, hz => cases hz; exact h2
  · exact call_translate W' g 0 cap _ hv 2 0 0 _ false (by rw [bsT_size]; have := trL_le f t s; omega) (fun W2 hW2 => translate_low g 0 cap s f t _ rfl hs hf ht (by omega) (by omega) (by omega) W2 hW2)
theorem bsT_of' (s : ByteArray) : bsT s.data.toList = s := by
  cases s; simp [bsT]
theorem bsT_add (l m : List UInt8) : bsT l ++ bsT m = bsT (l ++ m) := by
  rw [← bsT_of' (bsT l ++ bsT m)]
  simp [bsT]
theorem ab_snoc (t : Nat → Bool) (k : Nat) (b : Bool) (h : t k = b) : abL (boolL t (k + 1)) = abL (boolL t k) ++ [if b then 97 else 98] := by rw [boolL_snoc, h]; simp [abL]
theorem xy_snoc (t : Nat → Bool) (k : Nat) (b : Bool) (h : t k = b) : xyL (boolL t (k + 1)) = xyL (boolL t k) ++ [if b then 120 else 121] := by rw [boolL_snoc, h]; simp [xyL]
theorem up_cast (k : Nat) : Value.int .i64 ((k : Int) + 1) = .int .i64 ((k + 1 : Nat) : Int) := by rw [Int.natCast_add]; rfl
theorem up_less (k : Nat) (h : k < 2000) : 2000 - (intOf (Value.int .i64 ((k : Int) + 1))).toNat < 2000 - (intOf (Value.int .i64 (k : Int))).toNat := by
  simp only [intOf]
  omega
theorem wrap_cast (k : Nat) (h : k < 2000) : Value.int .i64 (wrap64 ((k : Int) + 1)) = .int .i64 ((k + 1 : Nat) : Int) := congrArg (Value.int .i64) (wrap_up k (by omega))
theorem wrap_less (k : Nat) (h : k < 2000) : 2000 - (intOf (Value.int .i64 (wrap64 ((k : Int) + 1)))).toNat < 2000 - (intOf (Value.int .i64 (k : Int))).toNat := by
  rw [wrap_cast k h, ← up_cast]
  exact up_less k h
theorem bsT_rep (D i : Nat) (h : i < (bsT (List.replicate D 97)).size) : (bsT (List.replicate D 97))[i]'h = 97 := by
  have h' : i < (List.replicate D (97 : UInt8)).length := by rw [bsT_size] at h; exact h
  exact (List.getElem_toArray (h := by simpa using h')).trans (List.getElem_replicate ..)
theorem count_le_M (t : Nat → Bool) (M : Nat) : (boolL t M).countP id ≤ M := by
  have h := List.countP_le_length (p := id) (l := boolL t M)
  rw [boolL_len] at h
  exact h
set_option maxRecDepth 100000 in
set_option maxHeartbeats 4000000 in
theorem changes_walk (a : Option Addr) (len cap : Nat) (t : Nat → Bool) (w : World) (hA : BoolsAt w a len t) (_hE : Env w) :
    Calls Tryz.prog 6 #[.slice a len cap] w fun e w' => e = .returned (.bool true) ∧ Below w.heap.size w w' := by
  obtain ⟨M, hM⟩ : ∃ M, min len 2000 = M := ⟨_, rfl⟩
  have HM := hide hM
  have HA := hide hA
  clear hM hA
  go_enter Tryz.func6, Tryz.ntmps6
  go_upto_block 0 with fail
  go_cut [3, 4] (fun x y wx => x = .string (bsT (abL (boolL t M))) ∧ y = .string (bsT (xyL (boolL t M))) ∧ wx = w)
  case first =>
    go_wp2_with fail
    go_loop [3, 4, 5] (fun x y i => ∃ k : Nat, i = .int .i64 (k : Nat) ∧ k ≤ M ∧ x = .string (bsT (abL (boolL t k))) ∧ y = .string (bsT (xyL (boolL t k)))) (fun _ _ i => 2000 - (intOf i).toNat)
    case atStart => exact ⟨0, rfl, Nat.zero_le _, rfl, rfl⟩
    case round =>
      obtain ⟨k, rfl, hk, rfl, rfl⟩ := hrel
      have hM := unhide HM
      by_cases h1 : k < len
      · have n1 : (k : Int) < (len : Int) := by omega
        by_cases h2 : k < 2000
        · have n2 : (k : Int) < 2000 := by omega
          have n0 : (0 : Int) ≤ (k : Int) := by omega
          have hw1 := wrap_up k (by omega)
          obtain ⟨R, o, rfl, hc⟩ := unhide HA (by omega)
          have hck := hc k h1
          have hlx : (abL (boolL t k)).length = k := by simp [abL, boolL_len]
          have hly : (xyL (boolL t k)).length = k := by simp [xyL, boolL_len]
          have e1 : ¬ 9223372036854775807 < (bsT (abL (boolL t k))).size + 1 := by rw [bsT_size, hlx]; omega
          have e2 : ¬ 9223372036854775807 < (bsT (xyL (boolL t k))).size + 1 := by rw [bsT_size, hly]; omega
          have HK1 : Hid (k + 1 ≤ M) := hide (by omega)
          cases htk : t k
          · have HX := hide (show bsT (abL (boolL t k)) ++ ⟨#[98]⟩ = bsT (abL (boolL t (k + 1))) by rw [ab_snoc t k _ htk]; exact bsT_add _ [98])
            have HY := hide (show bsT (xyL (boolL t k)) ++ ⟨#[121]⟩ = bsT (xyL (boolL t (k + 1))) by rw [xy_snoc t k _ htk]; exact bsT_add _ [121])
            rw [htk] at hck
            clear hc htk hM hlx hly
            generalize bsT (abL (boolL t k)) = X at *
            generalize bsT (xyL (boolL t k)) = Y at *
            go_wp2_with fail
            exact ⟨⟨k + 1, by go_num, unhide HK1, by rw [unhide HX], by rw [unhide HY]⟩, by simp [intOf]; omega⟩
          · have HX := hide (show bsT (abL (boolL t k)) ++ ⟨#[97]⟩ = bsT (abL (boolL t (k + 1))) by rw [ab_snoc t k _ htk]; exact bsT_add _ [97])
            have HY := hide (show bsT (xyL (boolL t k)) ++ ⟨#[120]⟩ = bsT (xyL (boolL t (k + 1))) by rw [xy_snoc t k _ htk]; exact bsT_add _ [120])
            rw [htk] at hck
            clear hc htk hM hlx hly
            generalize bsT (abL (boolL t k)) = X at *
            generalize bsT (xyL (boolL t k)) = Y at *
            go_wp2_with fail
            exact ⟨⟨k + 1, by go_num, unhide HK1, by rw [unhide HX], by rw [unhide HY]⟩, by simp [intOf]; omega⟩
        · have n2 : ¬ (k : Int) < 2000 := by omega
          obtain rfl : k = M := by omega
          clear hM HA
          go_wp2_with fail
          go_meet
          exact ⟨rfl, rfl, rfl⟩
      · have n1 : ¬ (k : Int) < (len : Int) := by omega
        obtain rfl : k = M := by omega
        clear hM HA
        go_wp2_with fail
        go_meet
        exact ⟨rfl, rfl, rfl⟩
  case rest =>
    obtain ⟨rfl, rfl, rfl⟩ := hcut
    have hML : M ≤ 2000 := by have := unhide HM; omega
    have lx : (abL (boolL t M)).length ≤ 2000 := by simp [abL, boolL_len]; exact hML
    have ly : (xyL (boolL t M)).length ≤ 2000 := by simp [xyL, boolL_len]; exact hML
    have HT1 := hide (fun W gl cl => tr_text (abL (boolL t M)) [97, 98] [120, 121] W gl cl (ab_low _) (by decide) (by decide) lx (by decide) (by decide))
    rw [tr_there] at HT1
    have HT2 := hide (fun W gl cl => tr_text (xyL (boolL t M)) [120, 121] [97, 98] W gl cl (xy_low _) (by decide) (by decide) ly (by decide) (by decide))
    rw [tr_back] at HT2
    have HT3 := hide (fun W gl cl => tr_text (abL (boolL t M)) [97, 98] [97] W gl cl (ab_low _) (by decide) (by decide) lx (by decide) (by decide))
    rw [tr_gone] at HT3
    clear lx ly
    have HL := hide live7_any
    go_wp2_with fail
    refine (unhide HT1 _ _ _ (by simp [go_sem]) (by simp [go_sem, bsT]) (by simp [go_sem, bsT])).mono ?_
    rintro e w1 ⟨rfl, hb1⟩
    have HB1 := hide (Below.then ((Below.refl wc.heap.size wc).alloc (Nat.le_refl _) _) hb1)
    clear hb1 HT1
    go_wp2_with fail
    refine (unhide HT2 _ _ _ (by simp [go_sem]) (by simp [go_sem, bsT]) (by simp [go_sem, bsT])).mono ?_
    rintro e w2 ⟨rfl, hb2⟩
    have HB2 := hide (Below.then ((unhide HB1).alloc (unhide HB1).size _) hb2)
    clear hb2 HT2 HB1
    go_wp2_with fail
    refine (unhide HT3 _ _ _ (by simp [go_sem]) (by simp [go_sem, bsT]) (by simp [go_sem, bsT])).mono ?_
    rintro e w3 ⟨rfl, hb3⟩
    have HB3 := hide (Below.then ((unhide HB2).alloc (unhide HB2).size _) hb3)
    clear hb3 HT3 HB2
    obtain ⟨D, hD⟩ : ∃ D, (boolL t M).countP id = D := ⟨_, rfl⟩
    have hDM : D ≤ M := by rw [← hD]; exact count_le_M t M
    have hones : onesL (boolL t M) = List.replicate D 97 := by unfold onesL; rw [hD]
    rw [hones]
    have hosz : (bsT (List.replicate D 97)).size = D := by rw [bsT_size]; simp
    have hoget := bsT_rep D
    have HD := hide hD
    clear hD hones
    generalize bsT (abL (boolL t M)) = X at *
    generalize bsT (xyL (boolL t M)) = Y at *
    generalize bsT (List.replicate D 97) = V at *
    have HSZ := hide hosz
    have HGT := hide hoget
    have HDM := hide hDM
    have HHM := hide hML
    clear hosz hoget hDM hML
    go_upto_block 2 with fail
    go_cut [12] (fun n wx => n = .int .i64 (D : Nat) ∧ wx = w3)
    case first =>
      go_wp2_with fail
      go_loop [12, 13] (fun n i => ∃ k : Nat, n = .int .i64 (k : Nat) ∧ i = .int .i64 (k : Nat) ∧ k ≤ D) (fun _ i => 2000 - (intOf i).toNat)
      case atStart => exact ⟨0, rfl, rfl, Nat.zero_le _⟩
      case round =>
        obtain ⟨k, rfl, rfl, hk⟩ := hrel
        have hosz := unhide HSZ
        have hd1 := unhide HDM
        have hd2 := unhide HHM
        by_cases h1 : k < D
        · have n1 : (k : Int) < (V.size : Int) := by omega
          have n0 : (0 : Int) ≤ (k : Int) := by omega
          have hkV : k < V.size := by omega
          obtain ⟨c, hg⟩ : ∃ c : UInt8, V[k]'hkV = c := ⟨_, rfl⟩
          have hcn : c.toNat = 97 := by rw [← hg, unhide HGT k hkV]; decide
          have hw1 := wrap_up k (by omega)
          have HK : Hid (k + 1 ≤ D ∧ k < 2000) := hide (by omega)
          clear hosz hd1 hd2
          go_wp2_with fail
          have hK := unhide HK
          exact ⟨⟨k + 1, wrap_cast k hK.2, wrap_cast k hK.2, hK.1⟩, wrap_less k hK.2⟩
        · have n1 : ¬ (k : Int) < (V.size : Int) := by omega
          obtain rfl : k = D := by omega
          clear hosz hd1 hd2
          go_wp2_with fail
          go_meet
          exact ⟨rfl, rfl⟩
    case rest =>
      obtain ⟨rfl, rfl⟩ := hcut
      rename World => w4
      go_upto_block 4 with fail
      go_cut [14] (fun n wx => n = .int .i64 (D : Nat) ∧ wx = w4)
      case first =>
        go_wp2_with fail
        go_loop [14, 15] (fun n i => ∃ j : Nat, i = .int .i64 (j : Nat) ∧ j ≤ M ∧ n = .int .i64 (((boolL t j).countP id : Nat) : Int)) (fun _ i => 2000 - (intOf i).toNat)
        case atStart => exact ⟨0, rfl, Nat.zero_le _, rfl⟩
        case round =>
          obtain ⟨j, rfl, hj, rfl⟩ := hrel
          have hM := unhide HM
          by_cases h2 : j < len
          · have m1 : (j : Int) < (len : Int) := by omega
            by_cases h3 : j < 2000
            · have m2 : (j : Int) < 2000 := by omega
              have m0 : (0 : Int) ≤ (j : Int) := by omega
              have hw2 := wrap_up j (by omega)
              have hcj := count_le_M t j
              have hw3 := wrap_up ((boolL t j).countP id) (by omega)
              obtain ⟨R, o, rfl, hc⟩ := unhide HA (by omega)
              have hck := kept_cell (unhide HB3) (hc j h2)
              have HK1 : Hid (j + 1 ≤ M) := hide (by omega)
              cases htk : t j
              · have HX := hide (show (boolL t (j + 1)).countP id = (boolL t j).countP id by rw [boolL_snoc, htk]; simp [List.countP_append])
                rw [htk] at hck
                clear hc htk hM hcj hw3
                generalize (boolL t j).countP id = C at *
                go_wp2_with fail
                exact ⟨⟨j + 1, by go_num, unhide HK1, by rw [unhide HX]⟩, by simp [intOf]; omega⟩
              · have HX := hide (show (boolL t (j + 1)).countP id = (boolL t j).countP id + 1 by rw [boolL_snoc, htk]; simp [List.countP_append])
                rw [htk] at hck
                clear hc htk hM hcj
                generalize (boolL t j).countP id = C at *
                go_wp2_with fail
                exact ⟨⟨j + 1, by go_num, unhide HK1, by rw [unhide HX]; go_num⟩, by simp [intOf]; omega⟩
            · have m2 : ¬ (j : Int) < 2000 := by omega
              obtain rfl : j = M := by omega
              clear hM
              go_wp2_with fail
              go_meet
              exact ⟨by rw [unhide HD], rfl⟩
          · have m1 : ¬ (j : Int) < (len : Int) := by omega
            obtain rfl : j = M := by omega
            clear hM
            go_wp2_with fail
            go_meet
            exact ⟨by rw [unhide HD], rfl⟩
      case rest =>
        obtain ⟨rfl, rfl⟩ := hcut
        go_wp2_with fail
        refine (unhide HL _).mono ?_
        rintro e w9 ⟨rfl, hb9⟩
        have HB9 := hide (Below.then (unhide HB3) hb9)
        clear hb9
        go_wp2
        go_ret
        exact ⟨rfl, unhide HB9⟩
end Go.Proofs.YtppkilblkobkhaaGreatDoor
