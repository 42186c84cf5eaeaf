/- Rows of keys that are handed in, copied: the law's rows. -/
import Derived.Test.YtoeahagloobmoaaGreatDoorRowsT
import Derived.Deep.AppendLies
import Derived.Deep.DrawnRows
import Derived.Deep.RegionHeld3
namespace Go.Proofs.YtoeahagloobmoaaGreatDoor
open Go.RowKit
/-- A row of keys that was handed in. -/
def RowArg (w : World) (v : Value) (l : List KeyD) : Prop := ∃ a c, v = .slice a l.length c ∧ (l ≠ [] → ∃ b o, a = some ⟨b, o, none⟩ ∧ ∀ i x, l[i]? = some x → KeyAt w b (o + i * 5) x)
theorem RowArg.below {w w' : World} {v : Value} {l : List KeyD} (h : RowArg w v l) (hb : Below w.heap.size w w') : RowArg w' v l := by
  obtain ⟨a, c, e, h⟩ := h
  refine ⟨a, c, e, fun hl => ?_⟩
  obtain ⟨b, o, e', h'⟩ := h hl
  exact ⟨b, o, e', fun i x hx => (h' i x hx).below hb⟩
/-- Rows of keys that were handed in. -/
def RowsArg (w : World) (ad : Option Addr) (n : Nat) (V : Nat → Value) (L : Nat → List KeyD) : Prop := 0 < n → ∃ R o, ad = some ⟨R, o, none⟩ ∧ ∀ i, i < n → w.cell? ⟨R, o + i, none⟩ = some (V i) ∧ RowArg w (V i) (L i)
theorem RowsArg.below {w w' : World} {ad : Option Addr} {n : Nat} {V : Nat → Value} {L : Nat → List KeyD} (h : RowsArg w ad n V L) (hb : Below w.heap.size w w') : RowsArg w' ad n V L := fun h0 => by
  obtain ⟨R, o, e, h1⟩ := h h0
  exact ⟨R, o, e, fun i hi => ⟨kept_cell hb (h1 i hi).1, (h1 i hi).2.below hb⟩⟩
/-- The first keys of a row. -/
def sixOf (L : Nat → List KeyD) (i : Nat) : List KeyD := (L i).take 6
theorem RowArg.open {w : World} {v : Value} {l : List KeyD} {k : Nat} {x : KeyD} (h : RowArg w v l) (hx : l[k]? = some x) : ∃ b o c, v = .slice (some ⟨b, o, none⟩) l.length c ∧ KeyAt w b (o + k * 5) x := by
  obtain ⟨a, c, e, h⟩ := h
  have hl : l ≠ [] := by
    intro h0
    rw [h0] at hx
    simp at hx
  obtain ⟨b, o, e', h'⟩ := h hl
  subst e'
  exact ⟨b, o, c, e, h' k x hx⟩
theorem take_snoc (l : List KeyD) (k : Nat) (x : KeyD) (h : l[k]? = some x) : l.take (k + 1) = l.take k ++ [x] := by
  obtain ⟨hk, rfl⟩ := List.getElem?_eq_some_iff.1 h
  rw [List.take_succ_eq_append_getElem hk]
theorem key_news (w : World) (x : KeyD) (ty : Nat) : ∀ j u, (keyCells x)[j]? = some u → (w.alloc (.cells #[.bool x.num, .bool x.down, .string x.t, .int .i64 x.k, .int .i64 x.v] ty)).cell? ((⟨w.heap.size, 0, none⟩ : Addr).add j) = some u :=
  World.news_of_block (w := w.alloc (.cells #[.bool x.num, .bool x.down, .string x.t, .int .i64 x.k, .int .i64 x.v] ty)) (heap_alloc_new w _)
theorem own_slice {w : World} {base : Nat} {e : TypeId} {size : Nat} {v : Value} {n : Nat} {xs : List Value} (h : w.ownsRow base e size v n xs) : ∃ a c, v = .slice a n c := by
  rcases h.2 with ⟨rfl, h0⟩ | ⟨g, cap, cur, rfl, _⟩
  · exact ⟨none, 0, by rw [h0]⟩
  · exact ⟨_, _, rfl⟩
theorem row_ones' (a : Option Addr) (m c : Nat) : ∀ u ∈ ([.slice a m c] : List Value), u.oneCell' = true := by
  intro u hu
  simp at hu
  subst hu
  rfl
/-- What the law's rows tells: that a number is not right, or both rows of rows. -/
def RowsOut (B : Nat) (L : Nat → List KeyD) (e : Ending) (w' : World) : Prop := e = .returned (.tuple #[.slice none 0 0, .slice none 0 0, .bool false]) ∨ ∃ m va vb X Y, m ≤ 40 ∧ e = .returned (.tuple #[va, vb, .bool true]) ∧ RowsT 32 w' B va m X (sixOf L) ∧ RowsT 33 w' B vb m Y (sixOf L) ∧ (∀ i, i < m → rightL (sixOf L i))
set_option maxRecDepth 100000 in
set_option maxHeartbeats 4000000 in
theorem rows_any (ad : Option Addr) (n cap : Nat) (V : Nat → Value) (L : Nat → List KeyD) (w : World) (h : RowsArg w ad n V L) :
    Calls Tryz.prog 4 #[.slice ad n cap] w fun e w' => RowsOut w.heap.size L e w' ∧ Below w.heap.size w w' := by
  have HT := hide h
  clear h
  obtain ⟨iX, hiX, hzX0, hzX1, hzX2⟩ := info_parts infoKeyX
  obtain ⟨iY, hiY, hzY0, hzY1, hzY2⟩ := info_parts infoKeyY
  obtain ⟨iA, hiA, hzA0, hzA1, hzA2⟩ := info_parts infoRow
  obtain ⟨iB, hiB, hzB0, hzB1, hzB2⟩ := info_parts infoRowY
  have HIX := hide (And.intro hiX (And.intro hzX0 (And.intro hzX1 hzX2)))
  have HIY := hide (And.intro hiY (And.intro hzY0 (And.intro hzY1 hzY2)))
  have HIA := hide (And.intro hiA (And.intro hzA0 (And.intro hzA1 hzA2)))
  have HIB := hide (And.intro hiB (And.intro hzB0 (And.intro hzB1 hzB2)))
  clear hiX hzX0 hzX1 hzX2 hiY hzY0 hzY1 hzY2 hiA hzA0 hzA1 hzA2 hiB hzB0 hzB1 hzB2
  go_enter Tryz.func4, Tryz.ntmps4
  go_wp2_with fail
  go_loopw [5, 6, 7] (fun va vb vi wr => ∃ (i : Nat) (X Y : Nat → Value), vi = .int .i64 (i : Int) ∧ i ≤ 40 ∧ i ≤ n ∧ Hid (RowsT 32 wr w.heap.size va i X (sixOf L)) ∧ Hid (RowsT 33 wr w.heap.size vb i Y (sixOf L)) ∧ Hid (∀ j, j < i → rightL (sixOf L j)) ∧ Below w.heap.size w wr) (fun _ _ vi _ => 40 - vNat vi)
  case atStart => exact ⟨0, _, _, rfl, by omega, Nat.zero_le _, hide (RowsT.start _ _ _ _), hide (RowsT.start _ _ _ _), hide (fun j h => absurd h (Nat.not_lt_zero j)), Below.refl _ _⟩
  case round =>
    rename World => W0
    obtain ⟨i, X, Y, rfl, hi1, hi2, hA, hB, hRt, hbr⟩ := hrel
    by_cases hlt : i < n
    · have hlt1 := nat_lt hlt
      by_cases hlt0 : i < 40
      · have hlt2 : (i : Int) < 40 := by omega
        obtain ⟨R, o, rfl, hc⟩ := (unhide HT) (by omega)
        obtain ⟨hcv, hca⟩ := hc i hlt
        have HCV := hide hcv
        have HCA := hide hca
        have HBR := hide hbr
        clear hc hcv hca hbr
        go_upto_block 2 with fail
        go_cut [8, 9] (fun vx vy wx => Hid (wx.ownsRow W0.heap.size 39 5 vx (sixOf L i).length (keyRow (sixOf L i))) ∧ Hid (wx.ownsRow W0.heap.size 40 5 vy (sixOf L i).length (keyRow (sixOf L i))) ∧ Below W0.heap.size W0 wx ∧ Hid (rightL (sixOf L i)))
        case first =>
          go_wp2_with fail
          go_loopw [8, 9, 10] (fun vx vy vk wx => ∃ k : Nat, vk = .int .i64 (k : Int) ∧ k ≤ 6 ∧ k ≤ (L i).length ∧ Hid (wx.ownsRow W0.heap.size 39 5 vx ((L i).take k).length (keyRow ((L i).take k))) ∧ Hid (wx.ownsRow W0.heap.size 40 5 vy ((L i).take k).length (keyRow ((L i).take k))) ∧ Below W0.heap.size W0 wx ∧ Hid (rightL ((L i).take k))) (fun _ _ vk _ => 6 - vNat vk)
          case atStart => exact ⟨0, rfl, by omega, Nat.zero_le _, hide (by rw [List.take_zero]; exact World.ownsRow_nil _ _ _ _), hide (by rw [List.take_zero]; exact World.ownsRow_nil _ _ _ _), Below.refl _ _, hide (by rw [List.take_zero]; exact fun x hx => by cases hx)⟩
          case round =>
            obtain ⟨k, rfl, hk6, hkl, hX, hY, hbk, hrk⟩ := hrel
            have hcv := kept_cell (Below.then (unhide HBR) hbk) (unhide HCV)
            have hca := (unhide HCA).below (Below.then (unhide HBR) hbk)
            have HDONE : k = 6 ∨ k = (L i).length → (L i).take k = sixOf L i := fun h => by
              unfold sixOf
              rcases h with rfl | rfl
              · rfl
              · rw [List.take_of_length_le (Nat.le_refl _), List.take_of_length_le hk6]
            by_cases hkn : k < (L i).length
            · obtain ⟨x, hx⟩ : ∃ x, (L i)[k]? = some x := ⟨_, List.getElem?_eq_getElem hkn⟩
              obtain ⟨b, ob, cb, hV, hkw⟩ := (unhide HCA).open hx
              have hka := hkw.below (Below.then (unhide HBR) hbk)
              have HKW := hide hkw
              have HCW := hide (show w.cell? ⟨R, o + i, none⟩ = some (.slice (some ⟨b, ob, none⟩) (L i).length cb) by rw [← hV]; exact unhide HCV)
              rw [hV] at hcv
              have hkn' := nat_lt hkn
              by_cases hk0 : k < 6
              · have hk0' : (k : Int) < 6 := by omega
                have HBK := hide hbk
                have HKA := hide hka
                have HCV2 := hide hcv
                obtain ⟨c0, c1, c2, c3, c4⟩ := hka
                have hlen : ((L i).take k).length = k := by rw [List.length_take]; omega
                have HLEN := hide hlen
                have HLEN2 := hide (show ((L i).take (k + 1)).length = k + 1 by rw [List.length_take]; omega)
                have HTS := hide (take_snoc (L i) k x hx)
                have HK0 := hide (And.intro hk0 hkn)
                rw [hlen] at hX hY
                have hsw := (unhide HBR).size
                have hsk := hbk.size
                have HRB := hide (show R < w.heap.size ∧ b < w.heap.size from ⟨block_lt_of_cell (unhide HCV), block_lt_of_cell hkw.c0⟩)
                clear hbk hca HDONE hV hlen hkw
                cases hr : rightB x.k x.v with
                | false =>
                  have HR1 := hide (refRight_any x.k x.v wr)
                  rw [hr] at HR1
                  clear hr
                  go_wp2_with fail
                  refine (unhide HR1).mono ?_
                  rintro e w1 ⟨rfl, hw1⟩
                  have hb1 : Below wr.heap.size wr w1 := by rw [hw1]; exact (Below.refl _ _).alloc (Nat.le_refl _) _
                  have HB1 := hide hb1
                  clear hw1 hb1
                  go_wp2_with fail
                  change bodyPost Tryz.prog Tryz.f4 (fun e w' => RowsOut w.heap.size L e w' ∧ Below w.heap.size w w') Exit.ret _ _
                  go_ret3
                  exact ⟨.inl rfl, Below.then (unhide HBR) (Below.then (unhide HBK) (unhide HB1))⟩
                | true =>
                  have HR1 := hide (refRight_any x.k x.v wr)
                  rw [hr] at HR1
                  have HRX := hide (show rightL ((L i).take (k + 1)) by
                    rw [unhide HTS]
                    intro y hy
                    rcases List.mem_append.1 hy with hy | hy
                    · exact unhide hrk y hy
                    · simp at hy
                      subst hy
                      exact hr)
                  clear hr
                  go_wp2_with fail
                  refine (unhide HR1).mono ?_
                  rintro e w1 ⟨rfl, hw1⟩
                  have hb1 : Below wr.heap.size wr w1 := by rw [hw1]; exact (Below.refl _ _).alloc (Nat.le_refl _) _
                  have HB1 := hide hb1
                  have hs1 := hb1.size
                  have q0 := kept_cell hb1 (unhide HCV2)
                  obtain ⟨q1, q2, q3, q4, q5⟩ := (unhide HKA).below hb1
                  have HX1 := hide (own_below (unhide hX) hb1)
                  have HY1 := hide (own_below (unhide hY) hb1)
                  obtain ⟨z1, z2, z3, z4⟩ := unhide HIX
                  clear hw1 hb1 hcv c0 c1 c2 c3 c4
                  go_wp2_with (at_builtin; refine wpList_append_own _ rfl _ _ 32 rfl W0.heap.size 39 iX _ 5 40 Tryz.underlying32 z1 z2 z3 z4 rfl (by decide) _ _ _ rfl ((unhide HX1).alloc _) ⟨w1.heap.size, 0, none⟩ 1 1 (keyCells x) rfl rfl (key_news w1 x _) (key_ones x) (by unfold maxLen; omega) (by omega) (by simp; omega) ?_)
                  intro v8' w5 hown5 hgrow5 _
                  have hbA : Below w1.heap.size w1 (w1.alloc (.cells #[.bool x.num, .bool x.down, .string x.t, .int .i64 x.k, .int .i64 x.v] 39)) := (Below.refl _ _).alloc (Nat.le_refl _) _
                  have HY5 := hide (own_other (own_below (unhide HY1) hbA) (own_below (unhide HX1) hbA) (by decide) hgrow5)
                  have hb5 : Below W0.heap.size W0 w5 := Below.grown (Below.then (Below.then (unhide HBK) (unhide HB1)) hbA) hgrow5 (by simp; omega) (own_ge (unhide HX1))
                  have hw5 := Below.then (unhide HBR) hb5
                  have p0 := kept_cell hw5 (unhide HCW)
                  obtain ⟨p1, p2, p3, p4, p5⟩ := (unhide HKW).below hw5
                  have HX5 := hide hown5
                  have HB5 := hide hb5
                  have hs5 := hb5.size
                  have agR : some R ≠ u9.ownBlock := fun e => by
                    have := own_ge (unhide HY5) R e.symm
                    have := (unhide HRB).1
                    omega
                  have agb : some b ≠ u9.ownBlock := fun e => by
                    have := own_ge (unhide HY5) b e.symm
                    have := (unhide HRB).2
                    omega
                  have AGR := hide agR
                  have AGB := hide agb
                  have lR : R < w5.heap.size := by have := (unhide HRB).1; omega
                  have lb : b < w5.heap.size := by have := (unhide HRB).2; omega
                  obtain ⟨y1, y2, y3, y4⟩ := unhide HIY
                  have hin0 : (0 : Int) ≤ (i : Int) := Int.natCast_nonneg _
                  have hkn0 : (0 : Int) ≤ (k : Int) := Int.natCast_nonneg _
                  clear hown5 hgrow5 hbA hb5 hw5 q0 q1 q2 q3 q4 q5 z1 z2 z3 z4 agR agb
                  go_wp2_with fail
                  go_region_held3 (fun w' => w'.cell? ⟨R, o + i, none⟩ = some (.slice (some ⟨b, ob, none⟩) (L i).length cb) ∧ w'.cell? ⟨b, ob + k * 5, none⟩ = some (.bool x.num) ∧ w'.cell? ⟨b, ob + k * 5 + 1, none⟩ = some (.bool x.down) ∧ w'.cell? ⟨b, ob + k * 5 + 2, none⟩ = some (.string x.t) ∧ w'.cell? ⟨b, ob + k * 5 + 3, none⟩ = some (.int .i64 x.k) ∧ w'.cell? ⟨b, ob + k * 5 + 4, none⟩ = some (.int .i64 x.v))
                    (first
                      | go_keep
                      | (go_split_ands
                         refine ⟨?_, ?_, ?_, ?_, ?_, ?_⟩
                         · (rw [hgrow7.cell_far _ (by simp; omega) (unhide AGR)]; assumption)
                         all_goals (rw [hgrow7.cell_far _ (by simp; omega) (unhide AGB)]; assumption)))
                    ((refine step_append_lies _ (by rfl) _ _ _ (by rfl) W0.heap.size 40 iY _ 5 40 Tryz.underlying33 y1 y2 y3 y4 rfl (by omega) u9 k (keyRow ((L i).take k)) (by rfl) (((unhide HY5).alloc _).drew) ⟨w5.heap.size, 0, none⟩ 1 1 (keyCells x) (by rfl) (by rfl) (key_news w5 x 40) (key_ones x) (by omega) (by unfold maxLen; omega) (by omega) (by simp; omega) (w5.heap.size + 1) (by simp) ?_; intro g7 cap7 w7 hown7 hgrow7 hat7 hlt7))
                  have hbB : Below w5.heap.size w5 (w5.alloc (.cells #[.bool x.num, .bool x.down, .string x.t, .int .i64 x.k, .int .i64 x.v] 40)).drew := ((Below.refl _ _).alloc (Nat.le_refl _) _).drew
                  have HX7 := hide (show w7.ownsRow W0.heap.size 39 5 v8' ((L i).take (k + 1)).length (keyRow ((L i).take (k + 1))) by
                    rw [unhide HLEN2, unhide HTS, keyRow_snoc]
                    exact own_other (own_below (unhide HX5) hbB) (own_below (unhide HY5) hbB) (by decide) hgrow7)
                  have HY7 := hide (show w7.ownsRow W0.heap.size 40 5 (.slice (some ⟨g7, 0, none⟩) (k + 1) cap7) ((L i).take (k + 1)).length (keyRow ((L i).take (k + 1))) by
                    rw [unhide HLEN2, unhide HTS, keyRow_snoc]
                    exact hown7)
                  have HB7 := hide (show Below W0.heap.size W0 w7 from Below.grown (Below.then (unhide HB5) hbB) hgrow7 (by simp; omega) (own_ge (unhide HY5)))
                  have HM := hide (show 6 - (((k + 1 : Nat) : Int)).toNat < 6 - ((k : Nat) : Int).toNat by rw [Int.toNat_natCast, Int.toNat_natCast]; omega)
                  have HE1 := hide (show (k : Int) + 1 = ((k + 1 : Nat) : Int) by omega)
                  clear hown7 hgrow7 hat7 hlt7 hbB
                  go_wp2_with fail
                  refine ⟨⟨k + 1, ?_, (unhide HK0).1, (unhide HK0).2, HX7, HY7, unhide HB7, HRX⟩, ?_⟩
                  · first | (rw [unhide HE1]) | rfl
                  · first | (rw [unhide HE1]; exact unhide HM) | exact unhide HM
              · have hk0' : ¬ (k : Int) < 6 := by omega
                have e6 := HDONE (.inl (by omega))
                rw [e6] at hX hY hrk
                have HBK := hide hbk
                clear hbk hca HDONE hV e6 hka hkw HKW HCW
                go_wp2_with fail
                go_meet
                exact ⟨hX, hY, unhide HBK, hrk⟩
            · have hkn' := nat_nlt hkn
              have e6 := HDONE (.inr (by omega))
              rw [e6] at hX hY hrk
              obtain ⟨aV, cV, hV, _⟩ := hca
              rw [hV] at hcv
              have HBK := hide hbk
              clear hbk HDONE hV e6
              go_wp2_with fail
              go_meet
              exact ⟨hX, hY, unhide HBK, hrk⟩
        case rest =>
          obtain ⟨hX, hY, hbc, hRi⟩ := hcut
          have HKX := hide (own_rowKey (unhide hX))
          have HKY := hide (own_rowKey (unhide hY))
          obtain ⟨ax, cx, rfl⟩ := own_slice (unhide hX)
          obtain ⟨ay, cy, rfl⟩ := own_slice (unhide hY)
          have HA1 := hide ((unhide hA).below hbc)
          have HB1 := hide ((unhide hB).below hbc)
          have HBC := hide (Below.then (unhide HBR) hbc)
          have hsw := (Below.then (unhide HBR) hbc).size
          obtain ⟨z1, z2, z3, z4⟩ := unhide HIA
          obtain ⟨y1, y2, y3, y4⟩ := unhide HIB
          clear hbc hX hY
          go_wp2_with (at_builtin; refine wpList_append_own _ rfl _ _ 22 rfl w.heap.size 32 iA _ 1 24 Tryz.underlying22 z1 z2 z3 z4 rfl (by decide) _ _ _ rfl ((unhide HA1).own.alloc _) ⟨wc.heap.size, 0, none⟩ 1 1 [.slice ax (sixOf L i).length cx] rfl rfl (World.news_of_block (cs := #[.slice ax (sixOf L i).length cx]) (heap_alloc_new wc _)) (row_ones' _ _ _) (by unfold maxLen; omega) (by omega) (by simp; omega) ?_)
          intro va' w5 hown5 hgrow5 _
          have hbA : Below wc.heap.size wc (wc.alloc (.cells #[.slice ax (sixOf L i).length cx] 32)) := (Below.refl _ _).alloc (Nat.le_refl _) _
          have HA5 := hide (RowsT.more ((unhide HA1).below hbA) ⟨_, _, _, rfl⟩ ((unhide HKX).below hbA) hown5 hgrow5)
          have HB5 := hide (RowsT.other ((unhide HA1).below hbA) ((unhide HB1).below hbA) (by decide) hgrow5)
          have HKY5 := hide (((unhide HA1).below hbA).keeps hgrow5 ((unhide HKY).below hbA))
          have hb5 := Below.grown (Below.then (unhide HBC) hbA) hgrow5 (by simp; omega) (unhide HA1).ge
          have hs5 := hb5.size
          have HBB5 := hide hb5
          clear hown5 hgrow5 hbA hb5
          go_wp2_with (at_builtin; refine wpList_append_own _ rfl _ _ 23 rfl w.heap.size 33 iB _ 1 24 Tryz.underlying23 y1 y2 y3 y4 rfl (by decide) _ _ _ rfl ((unhide HB5).own.alloc _) ⟨w5.heap.size, 0, none⟩ 1 1 [.slice ay (sixOf L i).length cy] rfl rfl (World.news_of_block (cs := #[.slice ay (sixOf L i).length cy]) (heap_alloc_new w5 _)) (row_ones' _ _ _) (by unfold maxLen; omega) (by omega) (by simp; omega) ?_)
          intro vb' w6 hown6 hgrow6 _
          have hbB : Below w5.heap.size w5 (w5.alloc (.cells #[.slice ay (sixOf L i).length cy] 33)) := (Below.refl _ _).alloc (Nat.le_refl _) _
          have HB6 := hide (RowsT.more ((unhide HB5).below hbB) ⟨_, _, _, rfl⟩ ((unhide HKY5).below hbB) hown6 hgrow6)
          have HA6 := hide (RowsT.other ((unhide HB5).below hbB) ((unhide HA5).below hbB) (by decide) hgrow6)
          have HBB6 := hide (Below.grown (Below.then (unhide HBB5) hbB) hgrow6 (by simp; omega) (unhide HB5).ge)
          have HR6 := hide (show ∀ j, j < i + 1 → rightL (sixOf L j) from fun j hj => by
            by_cases c : j < i
            · exact unhide hRt j c
            · obtain rfl : j = i := by omega
              exact unhide hRi)
          have HM := hide (show 40 - (((i + 1 : Nat) : Int)).toNat < 40 - ((i : Nat) : Int).toNat by rw [Int.toNat_natCast, Int.toNat_natCast]; omega)
          have HE1 := hide (show (i : Int) + 1 = ((i + 1 : Nat) : Int) by omega)
          have HLT := hide (And.intro hlt0 hlt)
          clear hown6 hgrow6 hbB
          go_wp2_with fail
          refine ⟨⟨i + 1, _, _, ?_, (unhide HLT).1, (unhide HLT).2, HA6, HB6, HR6, unhide HBB6⟩, ?_⟩
          · first | (rw [unhide HE1]) | rfl
          · first | (rw [unhide HE1]; exact unhide HM) | exact unhide HM
      · have hlt2 : ¬ (i : Int) < 40 := by omega
        have HW := hide (And.intro hi1 hbr)
        clear hbr
        go_wp2_with fail
        change bodyPost Tryz.prog Tryz.f4 (fun e w' => RowsOut w.heap.size L e w' ∧ Below w.heap.size w w') Exit.ret _ _
        go_ret3
        exact ⟨.inr ⟨i, _, _, X, Y, (unhide HW).1, rfl, unhide hA, unhide hB, unhide hRt⟩, (unhide HW).2⟩
    · have hlt1 := nat_nlt hlt
      have HW := hide (And.intro hi1 hbr)
      clear hbr
      go_wp2_with fail
      change bodyPost Tryz.prog Tryz.f4 (fun e w' => RowsOut w.heap.size L e w' ∧ Below w.heap.size w w') Exit.ret _ _
      go_ret3
      exact ⟨.inr ⟨i, _, _, X, Y, (unhide HW).1, rfl, unhide hA, unhide hB, unhide hRt⟩, (unhide HW).2⟩
end Go.Proofs.YtoeahagloobmoaaGreatDoor
