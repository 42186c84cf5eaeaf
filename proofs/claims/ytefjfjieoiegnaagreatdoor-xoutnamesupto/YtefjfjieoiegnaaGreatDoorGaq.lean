/- Several texts, laid as one. -/
import Derived.Test.YtefjfjieoiegnaaGreatDoorGap
import Derived.Deep.RegionHeld3
import Derived.Shelf.Strings.MapGrows
import Derived.Test.YtefjfjieoiegnaaGreatDoorGan
import Derived.Lib.AppendStr
/- A token as a text: xmlscan's writeToken. -/
namespace Go.Proofs.YtefjfjieoiegnaaGreatDoor
open Go.RowKit
theorem put_any (B b : Nat) (l : List UInt8) (s : ByteArray) (W : World) (h : IsB B b (Lib.byteCells l) W) (hl : l.length + s.size ≤ 140737488355328) (hB : B ≤ W.heap.size) :
    Calls Tryz.prog 69 #[.pointer (some ⟨b, 0, none⟩), .string s] W fun e w' => e = .returned (.tuple #[.int .i64 s.size, .nilIface]) ∧ IsB B b (Lib.byteCells (l ++ s.data.toList)) w' ∧ Below B W w' ∧ KeptB b W w' := by
  refine (writeString_any B b (Lib.byteCells l) s W h (by rw [Lib.byteCells_length]; exact hl) hB).mono ?_
  rintro e w' ⟨rfl, h1, h2, h3⟩
  refine ⟨rfl, ?_, h2, h3⟩
  rw [← cell_map]
  exact h1
theorem attrB_len {x : ByteArray × ByteArray} (h : x.1.size ≤ 1048576 ∧ x.2.size ≤ 1048576) : (attrB x).length ≤ 7340036 := by
  have h1 := mapO_len quo_few x.2.data.toList
  have e1 : x.1.data.toList.length = x.1.size := rfl
  have e2 : x.2.data.toList.length = x.2.size := rfl
  unfold attrB
  simp only [List.length_cons, List.length_append, List.length_nil]
  omega
theorem attrsB_len : ∀ {a : List (ByteArray × ByteArray)}, (∀ x ∈ a, x.1.size ≤ 1048576 ∧ x.2.size ≤ 1048576) → (a.flatMap attrB).length ≤ a.length * 7340036
  | [], _ => Nat.le_refl _
  | x :: a, h => by
    have h1 := attrB_len (h x (List.mem_cons_self ..))
    have h2 := attrsB_len (fun y hy => h y (List.mem_cons_of_mem _ hy))
    rw [List.flatMap_cons, List.length_append, List.length_cons]
    omega
theorem alloc_blk0 (w : World) (o : Obj) : (w.alloc o).heap[w.heap.size]? = some o := by
  show (w.heap.push o)[w.heap.size]? = some o
  exact Array.getElem?_push_size
theorem sizeB (s : ByteArray) : s.data.toList.length = s.size := rfl
structure AttSt (w0 w : World) (b : Nat) (l : List UInt8) (a : List (ByteArray × ByteArray)) (k : Nat) (w' : World) : Prop where
  le : k ≤ a.length
  bel : Below w0.heap.size w w'
  bld : IsB w0.heap.size b (Lib.byteCells (l ++ (a.take k).flatMap attrB)) w'
set_option maxRecDepth 100000 in
set_option maxHeartbeats 8000000 in
theorem writeToken_any (w0 : World) (b : Nat) (l : List UInt8) (t : BTok) (v : Value) (w : World) (hv : PairsArg w0 v t.attrs) (hb : Below w0.heap.size w0 w) (h : IsB w0.heap.size b (Lib.byteCells l) w) (hs : Small t) (hl : t.attrs.length ≤ 64) (hz : l.length ≤ 100000000000000) :
    Calls Tryz.prog 117 #[.pointer (some ⟨b, 0, none⟩), .agg #[.int .i64 t.kind, .string t.name, v, .string t.text]] w fun e w' => e = .returned (.tuple #[]) ∧ IsB w0.heap.size b (Lib.byteCells (l ++ tokB t)) w' ∧ Below w0.heap.size w w' := by
  have HV := hide hv
  have HS := hide hs
  have HB := hide hb
  obtain ⟨a, cap, rfl, _⟩ := hv
  have hw0 := hb.size
  obtain ⟨k, n, at', x⟩ := t
  have hn := hs.n
  have hx := hs.x
  simp only at *
  have hbA : Below w.heap.size w (w.alloc (.cells #[.int .i64 k, .string n, .slice a at'.length cap, .string x] 37 (0, 0))) := (Below.refl _ _).alloc (Nat.le_refl _) _
  have HBl := hide (Lib.IsBuilderF.below h hbA)
  have hblt : b < w.heap.size := by
    rcases h with h | h
    · exact h.lt
    · exact h.lt
  have hbA0 : Below w0.heap.size w (w.alloc (.cells #[.int .i64 k, .string n, .slice a at'.length cap, .string x] 37 (0, 0))) := hbA.mono hw0
  have HBK : Hid ((w.alloc (.cells #[.int .i64 k, .string n, .slice a at'.length cap, .string x] 37 (0, 0))).heap[w.heap.size]? = some (.cells #[.int .i64 k, .string n, .slice a at'.length cap, .string x] 37 (0, 0))) := hide (alloc_blk0 _ _)
  have hsz : w0.heap.size ≤ (w.alloc (.cells #[.int .i64 k, .string n, .slice a at'.length cap, .string x] 37 (0, 0))).heap.size := Nat.le_trans hw0 hbA.size
  clear hs hb h hbA
  by_cases k7 : k = 7
  · subst k7
    have HT : Hid (tokB ⟨7, n, at', x⟩ = ((⟨#[60, 47]⟩ : ByteArray) ++ n ++ (⟨#[62]⟩ : ByteArray)).data.toList) := hide (by simp [tokB, ByteArray.data_append])
    have HW := hide (fun W h1 h2 => put_any w0.heap.size b l ((⟨#[60, 47]⟩ : ByteArray) ++ n ++ (⟨#[62]⟩ : ByteArray)) W h1 (by rw [ByteArray.size_append, ByteArray.size_append]; show l.length + (2 + n.size + 1) ≤ _; omega) h2)
    go_enter Tryz.func117, Tryz.ntmps117
    go_wp2_with fail
    refine (unhide HW _ (unhide HBl) hsz).mono ?_
    rintro e w1 ⟨rfl, hB1, hb1, hk1⟩
    go_wp2
    go_end0
    exact ⟨rfl, by rw [unhide HT]; exact hB1, hbA0.trans hb1⟩
  · have g7 : (k == 7) = false := by simpa using k7
    by_cases k4 : k = 4
    · subst k4
      have hq := mapO_len esc_few x.data.toList
      rw [sizeB] at hq
      obtain ⟨E, hE⟩ : ∃ E : ByteArray, E = ⟨(mapO escO x.data.toList).toArray⟩ := ⟨_, rfl⟩
      have hEs : E.size ≤ 6291456 := by rw [hE]; show (mapO escO x.data.toList).length ≤ _; omega
      have HT : Hid (tokB ⟨4, n, at', x⟩ = E.data.toList) := hide (by rw [hE]; simp [tokB])
      have HW := hide (fun W h1 h2 => put_any w0.heap.size b l E W h1 (by omega) h2)
      have HE : Hid (∀ W, Calls Tryz.prog 120 #[.string x] W fun e w' => e = .returned (.string E) ∧ Below W.heap.size W w') := hide (fun W => by rw [hE]; exact xEscape_any x W hx)
      clear hE hq
      go_enter Tryz.func117, Tryz.ntmps117
      go_wp2_with fail
      refine (unhide HE _).mono ?_
      rintro e w1 ⟨rfl, hb1⟩
      go_wp2_with fail
      refine (unhide HW _ (Lib.IsBuilderF.below (unhide HBl) hb1) (Nat.le_trans hsz hb1.size)).mono ?_
      rintro e w2 ⟨rfl, hB2, hb2, hk2⟩
      go_wp2
      go_end0
      exact ⟨rfl, by rw [unhide HT]; exact hB2, (hbA0.trans (hb1.mono hsz)).trans hb2⟩
    · have g4 : (k == 4) = false := by simpa using k4
      by_cases k5 : k = 5
      · subst k5
        have HT : Hid (tokB ⟨5, n, at', x⟩ = ((⟨#[60, 33, 45, 45]⟩ : ByteArray) ++ x ++ (⟨#[45, 45, 62]⟩ : ByteArray)).data.toList) := hide (by simp [tokB, ByteArray.data_append])
        have HW := hide (fun W h1 h2 => put_any w0.heap.size b l ((⟨#[60, 33, 45, 45]⟩ : ByteArray) ++ x ++ (⟨#[45, 45, 62]⟩ : ByteArray)) W h1 (by rw [ByteArray.size_append, ByteArray.size_append]; show l.length + (4 + x.size + 3) ≤ _; omega) h2)
        go_enter Tryz.func117, Tryz.ntmps117
        go_wp2_with fail
        refine (unhide HW _ (unhide HBl) hsz).mono ?_
        rintro e w1 ⟨rfl, hB1, hb1, hk1⟩
        go_wp2
        go_end0
        exact ⟨rfl, by rw [unhide HT]; exact hB1, hbA0.trans hb1⟩
      · have g5 : (k == 5) = false := by simpa using k5
        by_cases k6 : k = 6
        · subst k6
          have HW := hide (fun W h1 h2 => put_any w0.heap.size b l ((⟨#[60, 63]⟩ : ByteArray) ++ n) W h1 (by rw [ByteArray.size_append]; show l.length + (2 + n.size) ≤ _; omega) h2)
          have hl2 : (l ++ ((⟨#[60, 63]⟩ : ByteArray) ++ n).data.toList).length ≤ 100000002000000 := by
            rw [List.length_append, sizeB, ByteArray.size_append]
            show l.length + (2 + n.size) ≤ _
            omega
          cases hx0 : x.toList.isEmpty
          · have HT : Hid (l ++ tokB ⟨6, n, at', x⟩ = l ++ ((⟨#[60, 63]⟩ : ByteArray) ++ n).data.toList ++ ((⟨#[32]⟩ : ByteArray) ++ x).data.toList ++ (⟨#[63, 62]⟩ : ByteArray).data.toList) := hide (by simp [tokB, ByteArray.data_append, hx0])
            have HW2 := hide (fun W h1 h2 => put_any w0.heap.size b (l ++ ((⟨#[60, 63]⟩ : ByteArray) ++ n).data.toList) ((⟨#[32]⟩ : ByteArray) ++ x) W h1 (by rw [ByteArray.size_append]; show _ + (1 + x.size) ≤ _; omega) h2)
            have hl3 : (l ++ ((⟨#[60, 63]⟩ : ByteArray) ++ n).data.toList ++ ((⟨#[32]⟩ : ByteArray) ++ x).data.toList).length + (⟨#[63, 62]⟩ : ByteArray).size ≤ 140737488355328 := by
              have e1 : ((⟨#[32]⟩ : ByteArray) ++ x).data.toList.length = 1 + x.size := by rw [sizeB, ByteArray.size_append]; rfl
              have e2 : (⟨#[63, 62]⟩ : ByteArray).size = 2 := rfl
              rw [List.length_append, e1, e2]
              omega
            have HW3 := hide (fun W h1 h2 => put_any w0.heap.size b (l ++ ((⟨#[60, 63]⟩ : ByteArray) ++ n).data.toList ++ ((⟨#[32]⟩ : ByteArray) ++ x).data.toList) (⟨#[63, 62]⟩ : ByteArray) W h1 hl3 h2)
            clear hl2 hl3
            go_enter Tryz.func117, Tryz.ntmps117
            go_wp2_with fail
            refine (unhide HW _ (unhide HBl) hsz).mono ?_
            rintro e w1 ⟨rfl, hB1, hb1, hk1⟩
            have c3 : w1.cell? ⟨w.heap.size, 3, none⟩ = some (.string x) := blk_cell (hk1 _ _ (unhide HBK) (by simp; omega) (fun c fz h => by cases h)) 3
            have hz1 := Nat.le_trans hsz hb1.size
            have HB1 := hide hB1
            clear hk1 hB1
            go_wp2_with fail
            refine (unhide HW2 _ (unhide HB1) hz1).mono ?_
            rintro e w2 ⟨rfl, hB2, hb2, hk2⟩
            have hz2 := Nat.le_trans hz1 hb2.size
            go_wp2_with fail
            refine (unhide HW3 _ hB2 hz2).mono ?_
            rintro e w3 ⟨rfl, hB3, hb3, hk3⟩
            go_wp2
            go_end0
            exact ⟨rfl, by rw [unhide HT]; exact hB3, ((hbA0.trans hb1).trans hb2).trans hb3⟩
          · have HT : Hid (l ++ tokB ⟨6, n, at', x⟩ = l ++ ((⟨#[60, 63]⟩ : ByteArray) ++ n).data.toList ++ (⟨#[63, 62]⟩ : ByteArray).data.toList) := hide (by simp [tokB, ByteArray.data_append, hx0])
            have HW3 := hide (fun W h1 h2 => put_any w0.heap.size b (l ++ ((⟨#[60, 63]⟩ : ByteArray) ++ n).data.toList) (⟨#[63, 62]⟩ : ByteArray) W h1 (by show _ + 2 ≤ _; omega) h2)
            clear hl2
            go_enter Tryz.func117, Tryz.ntmps117
            go_wp2_with fail
            refine (unhide HW _ (unhide HBl) hsz).mono ?_
            rintro e w1 ⟨rfl, hB1, hb1, hk1⟩
            have c3 : w1.cell? ⟨w.heap.size, 3, none⟩ = some (.string x) := blk_cell (hk1 _ _ (unhide HBK) (by simp; omega) (fun c fz h => by cases h)) 3
            have hz1 := Nat.le_trans hsz hb1.size
            have HB1 := hide hB1
            clear hk1 hB1
            go_wp2_with fail
            refine (unhide HW3 _ (unhide HB1) hz1).mono ?_
            rintro e w3 ⟨rfl, hB3, hb3, hk3⟩
            go_wp2
            go_end0
            exact ⟨rfl, by rw [unhide HT]; exact hB3, (hbA0.trans hb1).trans hb3⟩
        · have g6 : (k == 6) = false := by simpa using k6
          by_cases k2 : k = 2
          · subst k2
            have hl1 : (l ++ ((⟨#[60]⟩ : ByteArray) ++ n).data.toList).length ≤ 100000002000000 := by
              rw [List.length_append, sizeB, ByteArray.size_append]
              show l.length + (1 + n.size) ≤ _
              omega
            obtain ⟨L, hL⟩ : ∃ L, L = l ++ ((⟨#[60]⟩ : ByteArray) ++ n).data.toList := ⟨_, rfl⟩
            have HT : Hid (l ++ tokB ⟨2, n, at', x⟩ = L ++ at'.flatMap attrB ++ (⟨#[62]⟩ : ByteArray).data.toList) := hide (by rw [hL]; simp [tokB, ByteArray.data_append])
            have HW := hide (fun W h1 h2 => put_any w0.heap.size b l ((⟨#[60]⟩ : ByteArray) ++ n) W h1 (by rw [ByteArray.size_append]; show l.length + (1 + n.size) ≤ _; omega) h2)
            rw [← hL] at hl1 HW
            clear hL
            have hal := attrsB_len (unhide HS).a
            simp only at hal
            have HA := hide (unhide HS).a
            simp only at HA
            have hlen : ∀ j, ((at'.take j).flatMap attrB).length ≤ 469762304 := fun j => by
              have h1 := attrsB_len (a := at'.take j) (fun y hy => unhide HA y (List.mem_of_mem_take hy))
              have h2 : (at'.take j).length ≤ 64 := by rw [List.length_take]; omega
              have h3 : (at'.take j).length * 7340036 ≤ 469762304 := by omega
              omega
            have HLEN := hide hlen
            clear hlen
            go_enter Tryz.func117, Tryz.ntmps117
            go_wp2_with fail
            refine (unhide HW _ (unhide HBl) hsz).mono ?_
            rintro e w1 ⟨rfl, hB1, hb1, hk1⟩
            have c2 : w1.cell? ⟨w.heap.size, 2, none⟩ = some (.slice a at'.length cap) := blk_cell (hk1 _ _ (unhide HBK) (by simp; omega) (fun c fz h => by cases h)) 2
            have HI0 : Hid (AttSt w0 w b L at' 0 w1) := hide ⟨Nat.zero_le _, hbA0.trans hb1, by rw [List.take_zero, List.flatMap_nil, List.append_nil]; exact hB1⟩
            clear hk1 hB1
            go_wp2_with fail
            clear c2
            go_loopw [18] (fun i wr => ∃ j : Nat, i = .int .i64 (j : Nat) ∧ AttSt w0 w b L at' j wr) (fun i _ => at'.length - (intOf i).toNat)
            case atStart => exact ⟨0, rfl, unhide HI0⟩
            case round =>
              clear HI0
              obtain ⟨j, rfl, hI⟩ := hrel
              have hj := hI.le
              by_cases hlt : j < at'.length
              · obtain ⟨y, hy⟩ : ∃ y, at'[j]? = some y := ⟨at'[j], List.getElem?_eq_getElem hlt⟩
                obtain ⟨hy1, hy2⟩ := unhide HA y (List.mem_of_getElem? hy)
                obtain ⟨a', cap', he, hcells⟩ := (unhide HV).below ((unhide HB).trans hI.bel)
                obtain ⟨g, o, ha, hc⟩ := hcells (by intro h0; rw [h0] at hlt; cases hlt)
                cases he
                subst ha
                obtain ⟨c0, c1⟩ := hc j y hy
                have n1 : (0 : Int) ≤ (j : Int) := by omega
                have n2 : (j : Int) < (at'.length : Int) := by omega
                have htk : (at'.take (j + 1)).flatMap attrB = (at'.take j).flatMap attrB ++ attrB y := by
                  rw [List.take_succ_eq_append_getElem hlt, List.flatMap_append, (List.getElem?_eq_some_iff.1 hy).2]
                  simp
                have hq := mapO_len quo_few y.2.data.toList
                rw [sizeB] at hq
                obtain ⟨E, hE⟩ : ∃ E : ByteArray, E = ⟨(mapO quoO y.2.data.toList).toArray⟩ := ⟨_, rfl⟩
                have hEs : E.size ≤ 6291456 := by rw [hE]; show (mapO quoO y.2.data.toList).length ≤ _; omega
                have HEQ : Hid (∀ W, Calls Tryz.prog 122 #[.string y.2] W fun e w' => e = .returned (.string E) ∧ Below W.heap.size W w') := hide (fun W => by rw [hE]; exact xQuote_any y.2 W hy2)
                have HTK : Hid (L ++ (at'.take (j + 1)).flatMap attrB = L ++ (at'.take j).flatMap attrB ++ ((⟨#[32]⟩ : ByteArray) ++ y.1 ++ (⟨#[61, 34]⟩ : ByteArray) ++ E ++ (⟨#[34]⟩ : ByteArray)).data.toList) := hide (by
                  rw [htk, hE]
                  simp [attrB, ByteArray.data_append])
                have hlj := unhide HLEN j
                have HW2 := hide (fun W h1 h2 => put_any w0.heap.size b (L ++ (at'.take j).flatMap attrB) ((⟨#[32]⟩ : ByteArray) ++ y.1 ++ (⟨#[61, 34]⟩ : ByteArray) ++ E ++ (⟨#[34]⟩ : ByteArray)) W h1 (by
                  rw [List.length_append, ByteArray.size_append, ByteArray.size_append, ByteArray.size_append, ByteArray.size_append]
                  show L.length + _ + (1 + y.1.size + 2 + E.size + 1) ≤ _
                  omega) h2)
                have hbx : Below wr.heap.size wr (wr.alloc (.cells #[.string y.1, .string y.2] 40 (0, 0))) := (Below.refl _ _).alloc (Nat.le_refl _) _
                have hbl0 := hI.bel.size
                have hB0 := Lib.IsBuilderF.below hI.bld hbx
                have hbW := hI.bel.trans (hbx.mono (Nat.le_trans hw0 hbl0))
                have hs0 : w0.heap.size ≤ (wr.alloc (.cells #[.string y.1, .string y.2] 40 (0, 0))).heap.size := Nat.le_trans (Nat.le_trans hw0 hbl0) hbx.size
                have hbk0 := alloc_blk0 wr (.cells #[.string y.1, .string y.2] 40 (0, 0))
                have hblt2 : b ≠ wr.heap.size := by omega
                clear hc hI hcells hy htk hq hE hlj HLEN HBl HBK HW
                have hd0 : (wr.alloc (.cells #[.string y.1, .string y.2] 40 (0, 0))).drew.cell? ⟨wr.heap.size, 0, none⟩ = some (.string y.1) := blk_cell hbk0 0
                have hd1 : (wr.alloc (.cells #[.string y.1, .string y.2] 40 (0, 0))).drew.cell? ⟨wr.heap.size, 1, none⟩ = some (.string y.2) := blk_cell hbk0 1
                have hB0d : IsB w0.heap.size b (Lib.byteCells (L ++ (at'.take j).flatMap attrB)) (wr.alloc (.cells #[.string y.1, .string y.2] 40 (0, 0))).drew := hB0
                have hbk0d : (wr.alloc (.cells #[.string y.1, .string y.2] 40 (0, 0))).drew.heap[wr.heap.size]? = some (.cells #[.string y.1, .string y.2] 40 (0, 0)) := hbk0
                have hbWd : Below w0.heap.size w (wr.alloc (.cells #[.string y.1, .string y.2] 40 (0, 0))).drew := hbW.drew
                have HB0 := hide hB0d
                have HBK0 := hide hbk0d
                clear hB0d hbk0d
                clear hB0 hbk0
                have f1 : (9223372036854775807 < 1 + y.1.size) = False := eq_false (by omega)
                have f2 : (9223372036854775807 < 1 + y.1.size + 2) = False := eq_false (by omega)
                have f3 : (9223372036854775807 < 1 + y.1.size + 2 + E.size) = False := eq_false (by omega)
                have f4 : (9223372036854775807 < 1 + y.1.size + 2 + E.size + 1) = False := eq_false (by omega)
                go_wp2_with fail
                go_region_held3 (fun w' => w'.cell? ⟨wr.heap.size, 0, none⟩ = some (.string y.1) ∧ w'.cell? ⟨wr.heap.size, 1, none⟩ = some (.string y.2))
                  (first | exact ⟨hd0, hd1⟩ | exact hSq | exact hSw | assumption)
                  (first
                    | (go_at_call 122; refine (unhide HEQ _).mono ?_; rintro e wq ⟨rfl, hbq⟩; (have hSq := And.intro (keptC hbq hd0) (keptC hbq hd1)); (have hBq := Lib.IsBuilderF.below (unhide HB0) hbq); (have hKq := block_below (unhide HBK0) hbq))
                    | (go_at_call 69; refine (unhide HW2 _ hBq (Nat.le_trans hs0 hbq.size)).mono ?_; rintro e ww ⟨rfl, hBw, hbw, hkw⟩; (have hKw := hkw _ _ hKq (fun h => hblt2 (by cases h; rfl)) (fun c fz h => by cases h)); (have hSw := And.intro (blk_cell hKw 0) (blk_cell hKw 1))))
                all_goals
                  have HI2 : Hid (AttSt w0 w b L at' (j + 1) ww) := hide ⟨by omega, (hbWd.trans (hbq.mono hs0)).trans hbw, by rw [unhide HTK]; exact hBw⟩
                  clear hBw hbw hkw hKw hSw hSq hBq hKq
                  go_wp2_with fail
                  go_round
                  case measure => simp [intOf]; omega
                  case rel => exact ⟨j + 1, by simp, unhide HI2⟩
              · have n2 : ¬ (j : Int) < (at'.length : Int) := by omega
                have hjl : j = at'.length := by omega
                have hbd := hI.bld
                rw [hjl, List.take_length] at hbd
                have hbI := hI.bel
                have hbl0 := hbI.size
                have HW3 := hide (put_any w0.heap.size b (L ++ at'.flatMap attrB) (⟨#[62]⟩ : ByteArray) wr hbd (by
                  have h1 := unhide HLEN at'.length
                  rw [List.take_length] at h1
                  rw [List.length_append]
                  show _ + 1 ≤ _
                  omega) (Nat.le_trans hw0 hbl0))
                clear hI hbd HLEN HBl HBK HW
                go_wp2_with fail
                refine (unhide HW3).mono ?_
                rintro e w3 ⟨rfl, hB3, hb3, hk3⟩
                go_wp2
                go_end0
                exact ⟨rfl, by rw [unhide HT]; exact hB3, hbI.trans hb3⟩
          · have g2 : (k == 2) = false := by simpa using k2
            have HT : Hid (tokB ⟨k, n, at', x⟩ = []) := hide (by unfold tokB; simp only [if_neg k2, if_neg k7, if_neg k4, if_neg k5, if_neg k6])
            clear k2 k4 k5 k6 k7
            go_enter Tryz.func117, Tryz.ntmps117
            go_wp2
            go_end0
            exact ⟨rfl, by rw [unhide HT, List.append_nil]; exact unhide HBl, hbA0⟩
end Go.Proofs.YtefjfjieoiegnaaGreatDoor
/- Text, comments and instructions as tokens: xmlscan's tellComment, tellInstruction, roomForRun, plain, section. -/
namespace Go.Proofs.YtefjfjieoiegnaaGreatDoor
open Go.RowKit
/-- What always holds of a reader's state. -/
structure Good (s : RS) : Prop where
  fine : Fine s
  n1 : s.toks.length ≤ 4096
  n2 : s.run ≠ [] → s.toks.length < 4096
  okr : okL s.run
  rl : (tx s.run).length ≤ s.place + s.spent
  sp : s.spent ≤ 32768
theorem Good.adv {s : RS} (h : Good s) (n : Nat) : Good (s.adv n) :=
  ⟨h.fine.adv n, h.n1, h.n2, h.okr, by have := h.rl; have e := place_adv s n; show (tx s.run).length ≤ (s.adv n).place + s.spent; omega, h.sp⟩
theorem Good.to {s s' : RS} (h : Good s) (ha : Adv s s') : Good s' := by
  obtain ⟨k, rfl⟩ := ha
  exact h.adv k
theorem Good.flush {s : RS} (h : Good s) : s.flush.toks.length ≤ 4096 := by
  by_cases hr : s.run = []
  · rw [(flush_eq s).1 hr]; exact h.n1
  · rw [(flush_eq s).2 hr]
    have := h.n2 hr
    simp; omega
theorem Good.pos {s : RS} (h : Good s) (hr : s.run ≠ []) : 0 < (tx s.run).length := Nat.pos_of_ne_zero fun h0 => hr (tx_len_zero h.okr h0)
theorem Good.tell {s s' : RS} {t : XTok} {pl : Nat} (h : Good s) (ht : s.tell t pl = .ok s') : Good s' ∧ s'.run = [] ∧ s'.pre = s.pre ∧ s'.rest = s.rest ∧ s'.ents = s.ents ∧ s'.opn = s.opn ∧ s'.spent = s.spent := by
  rw [tell_eq] at ht
  split at ht
  · cases ht
  · rename_i hne
    cases ht
    have hf := h.flush
    by_cases hr : s.run = []
    · have e := (flush_eq s).1 hr
      rw [e] at hne hf ⊢
      refine ⟨⟨⟨h.fine.ok, h.fine.le⟩, ?_, fun hx => absurd hr hx, h.okr, h.rl, h.sp⟩, hr, rfl, rfl, rfl, rfl, rfl⟩
      show (s.toks ++ [t]).length ≤ 4096
      rw [List.length_append, List.length_singleton]
      omega
    · have e := (flush_eq s).2 hr
      rw [e] at hne hf ⊢
      refine ⟨⟨⟨h.fine.ok, h.fine.le⟩, ?_, fun hx => absurd rfl hx, fun c hc => (by cases hc), Nat.zero_le _, h.sp⟩, rfl, rfl, rfl, rfl, rfl, rfl⟩
      show ((s.toks ++ [(⟨4, [], [], s.run⟩ : XTok)]) ++ [t]).length ≤ 4096
      simp at hne hf ⊢
      omega
end Go.Proofs.YtefjfjieoiegnaaGreatDoor
/- Text as it stands, and CDATA: xmlscan's plain and section. -/
namespace Go.Proofs.YtefjfjieoiegnaaGreatDoor
open Go.RowKit
end Go.Proofs.YtefjfjieoiegnaaGreatDoor
