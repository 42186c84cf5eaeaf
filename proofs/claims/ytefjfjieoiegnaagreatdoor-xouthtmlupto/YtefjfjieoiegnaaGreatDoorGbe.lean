/- Several texts, laid as one. -/
import Derived.Test.YtefjfjieoiegnaaGreatDoorGbd
import Derived.Deep.RegionHeld3
import Derived.Shelf.Strings.MapGrows
import Derived.Test.YtefjfjieoiegnaaGreatDoorGal
/- A token as a text: xmlscan's writeToken. -/
namespace Go.Proofs.YtefjfjieoiegnaaGreatDoor
open Go.RowKit
theorem put_any (B b : Nat) (l : List UInt8) (s : ByteArray) (W : World) (h : IsB B b (Lib.byteCells l) W) (hl : l.length + s.size ≤ 140737488355328) (hB : B ≤ W.heap.size) :
    Calls Tryz.prog 69 #[.pointer (some ⟨b, 0, none⟩), .string s] W fun e w' => e = .returned (.tuple #[.int .i64 s.size, .nilIface]) ∧ IsB B b (Lib.byteCells (l ++ s.data.toList)) w' ∧ Below B W w' ∧ KeptB b W w' := by
  refine (writeString_any B b (Lib.byteCells l) s W h (by rw [Lib.byteCells_length]; exact hl) hB).mono ?_
  rintro e w' ⟨rfl, h1, h2, h3⟩
  refine ⟨rfl, ?_, h2, h3⟩
  rw [← cell_map]
  exact h1
theorem attrB_len {x : ByteArray × ByteArray} (h : x.1.size ≤ 1048576 ∧ x.2.size ≤ 1048576) : (attrB x).length ≤ 7340036 := by
  have h1 := mapO_len quo_few x.2.data.toList
  have e1 : x.1.data.toList.length = x.1.size := rfl
  have e2 : x.2.data.toList.length = x.2.size := rfl
  unfold attrB
  simp only [List.length_cons, List.length_append, List.length_nil]
  omega
theorem attrsB_len : ∀ {a : List (ByteArray × ByteArray)}, (∀ x ∈ a, x.1.size ≤ 1048576 ∧ x.2.size ≤ 1048576) → (a.flatMap attrB).length ≤ a.length * 7340036
  | [], _ => Nat.le_refl _
  | x :: a, h => by
    have h1 := attrB_len (h x (List.mem_cons_self ..))
    have h2 := attrsB_len (fun y hy => h y (List.mem_cons_of_mem _ hy))
    rw [List.flatMap_cons, List.length_append, List.length_cons]
    omega
theorem alloc_blk0 (w : World) (o : Obj) : (w.alloc o).heap[w.heap.size]? = some o := by
  show (w.heap.push o)[w.heap.size]? = some o
  exact Array.getElem?_push_size
theorem sizeB (s : ByteArray) : s.data.toList.length = s.size := rfl
structure AttSt (w0 w : World) (b : Nat) (l : List UInt8) (a : List (ByteArray × ByteArray)) (k : Nat) (w' : World) : Prop where
  le : k ≤ a.length
  bel : Below w0.heap.size w w'
  bld : IsB w0.heap.size b (Lib.byteCells (l ++ (a.take k).flatMap attrB)) w'
set_option maxRecDepth 100000 in
set_option maxHeartbeats 8000000 in
theorem writeToken_any (w0 : World) (b : Nat) (l : List UInt8) (t : BTok) (v : Value) (w : World) (hv : PairsArg w0 v t.attrs) (hb : Below w0.heap.size w0 w) (h : IsB w0.heap.size b (Lib.byteCells l) w) (hs : Small t) (hl : t.attrs.length ≤ 64) (hz : l.length ≤ 100000000000000) :
    Calls Tryz.prog 117 #[.pointer (some ⟨b, 0, none⟩), .agg #[.int .i64 t.kind, .string t.name, v, .string t.text]] w fun e w' => e = .returned (.tuple #[]) ∧ IsB w0.heap.size b (Lib.byteCells (l ++ tokB t)) w' ∧ Below w0.heap.size w w' := by
  have HV := hide hv
  have HS := hide hs
  have HB := hide hb
  obtain ⟨a, cap, rfl, _⟩ := hv
  have hw0 := hb.size
  obtain ⟨k, n, at', x⟩ := t
  have hn := hs.n
  have hx := hs.x
  simp only at *
  have hbA : Below w.heap.size w (w.alloc (.cells #[.int .i64 k, .string n, .slice a at'.length cap, .string x] 37 (0, 0))) := (Below.refl _ _).alloc (Nat.le_refl _) _
  have HBl := hide (Lib.IsBuilderF.below h hbA)
  have hblt : b < w.heap.size := by
    rcases h with h | h
    · exact h.lt
    · exact h.lt
  have hbA0 : Below w0.heap.size w (w.alloc (.cells #[.int .i64 k, .string n, .slice a at'.length cap, .string x] 37 (0, 0))) := hbA.mono hw0
  have HBK : Hid ((w.alloc (.cells #[.int .i64 k, .string n, .slice a at'.length cap, .string x] 37 (0, 0))).heap[w.heap.size]? = some (.cells #[.int .i64 k, .string n, .slice a at'.length cap, .string x] 37 (0, 0))) := hide (alloc_blk0 _ _)
  have hsz : w0.heap.size ≤ (w.alloc (.cells #[.int .i64 k, .string n, .slice a at'.length cap, .string x] 37 (0, 0))).heap.size := Nat.le_trans hw0 hbA.size
  clear hs hb h hbA
  by_cases k7 : k = 7
  · subst k7
    have HT : Hid (tokB ⟨7, n, at', x⟩ = ((⟨#[60, 47]⟩ : ByteArray) ++ n ++ (⟨#[62]⟩ : ByteArray)).data.toList) := hide (by simp [tokB, ByteArray.data_append])
    have HW := hide (fun W h1 h2 => put_any w0.heap.size b l ((⟨#[60, 47]⟩ : ByteArray) ++ n ++ (⟨#[62]⟩ : ByteArray)) W h1 (by rw [ByteArray.size_append, ByteArray.size_append]; show l.length + (2 + n.size + 1) ≤ _; omega) h2)
    go_enter Tryz.func117, Tryz.ntmps117
    go_wp2_with fail
    refine (unhide HW _ (unhide HBl) hsz).mono ?_
    rintro e w1 ⟨rfl, hB1, hb1, hk1⟩
    go_wp2
    go_end0
    exact ⟨rfl, by rw [unhide HT]; exact hB1, hbA0.trans hb1⟩
  · have g7 : (k == 7) = false := by simpa using k7
    by_cases k4 : k = 4
    · subst k4
      have hq := mapO_len esc_few x.data.toList
      rw [sizeB] at hq
      obtain ⟨E, hE⟩ : ∃ E : ByteArray, E = ⟨(mapO escO x.data.toList).toArray⟩ := ⟨_, rfl⟩
      have hEs : E.size ≤ 6291456 := by rw [hE]; show (mapO escO x.data.toList).length ≤ _; omega
      have HT : Hid (tokB ⟨4, n, at', x⟩ = E.data.toList) := hide (by rw [hE]; simp [tokB])
      have HW := hide (fun W h1 h2 => put_any w0.heap.size b l E W h1 (by omega) h2)
      have HE : Hid (∀ W, Calls Tryz.prog 120 #[.string x] W fun e w' => e = .returned (.string E) ∧ Below W.heap.size W w') := hide (fun W => by rw [hE]; exact xEscape_any x W hx)
      clear hE hq
      go_enter Tryz.func117, Tryz.ntmps117
      go_wp2_with fail
      refine (unhide HE _).mono ?_
      rintro e w1 ⟨rfl, hb1⟩
      go_wp2_with fail
      refine (unhide HW _ (Lib.IsBuilderF.below (unhide HBl) hb1) (Nat.le_trans hsz hb1.size)).mono ?_
      rintro e w2 ⟨rfl, hB2, hb2, hk2⟩
      go_wp2
      go_end0
      exact ⟨rfl, by rw [unhide HT]; exact hB2, (hbA0.trans (hb1.mono hsz)).trans hb2⟩
    · have g4 : (k == 4) = false := by simpa using k4
      by_cases k5 : k = 5
      · subst k5
        have HT : Hid (tokB ⟨5, n, at', x⟩ = ((⟨#[60, 33, 45, 45]⟩ : ByteArray) ++ x ++ (⟨#[45, 45, 62]⟩ : ByteArray)).data.toList) := hide (by simp [tokB, ByteArray.data_append])
        have HW := hide (fun W h1 h2 => put_any w0.heap.size b l ((⟨#[60, 33, 45, 45]⟩ : ByteArray) ++ x ++ (⟨#[45, 45, 62]⟩ : ByteArray)) W h1 (by rw [ByteArray.size_append, ByteArray.size_append]; show l.length + (4 + x.size + 3) ≤ _; omega) h2)
        go_enter Tryz.func117, Tryz.ntmps117
        go_wp2_with fail
        refine (unhide HW _ (unhide HBl) hsz).mono ?_
        rintro e w1 ⟨rfl, hB1, hb1, hk1⟩
        go_wp2
        go_end0
        exact ⟨rfl, by rw [unhide HT]; exact hB1, hbA0.trans hb1⟩
      · have g5 : (k == 5) = false := by simpa using k5
        by_cases k6 : k = 6
        · subst k6
          have HW := hide (fun W h1 h2 => put_any w0.heap.size b l ((⟨#[60, 63]⟩ : ByteArray) ++ n) W h1 (by rw [ByteArray.size_append]; show l.length + (2 + n.size) ≤ _; omega) h2)
          have hl2 : (l ++ ((⟨#[60, 63]⟩ : ByteArray) ++ n).data.toList).length ≤ 100000002000000 := by
            rw [List.length_append, sizeB, ByteArray.size_append]
            show l.length + (2 + n.size) ≤ _
            omega
          cases hx0 : x.toList.isEmpty
          · have HT : Hid (l ++ tokB ⟨6, n, at', x⟩ = l ++ ((⟨#[60, 63]⟩ : ByteArray) ++ n).data.toList ++ ((⟨#[32]⟩ : ByteArray) ++ x).data.toList ++ (⟨#[63, 62]⟩ : ByteArray).data.toList) := hide (by simp [tokB, ByteArray.data_append, hx0])
            have HW2 := hide (fun W h1 h2 => put_any w0.heap.size b (l ++ ((⟨#[60, 63]⟩ : ByteArray) ++ n).data.toList) ((⟨#[32]⟩ : ByteArray) ++ x) W h1 (by rw [ByteArray.size_append]; show _ + (1 + x.size) ≤ _; omega) h2)
            have hl3 : (l ++ ((⟨#[60, 63]⟩ : ByteArray) ++ n).data.toList ++ ((⟨#[32]⟩ : ByteArray) ++ x).data.toList).length + (⟨#[63, 62]⟩ : ByteArray).size ≤ 140737488355328 := by
              have e1 : ((⟨#[32]⟩ : ByteArray) ++ x).data.toList.length = 1 + x.size := by rw [sizeB, ByteArray.size_append]; rfl
              have e2 : (⟨#[63, 62]⟩ : ByteArray).size = 2 := rfl
              rw [List.length_append, e1, e2]
              omega
            have HW3 := hide (fun W h1 h2 => put_any w0.heap.size b (l ++ ((⟨#[60, 63]⟩ : ByteArray) ++ n).data.toList ++ ((⟨#[32]⟩ : ByteArray) ++ x).data.toList) (⟨#[63, 62]⟩ : ByteArray) W h1 hl3 h2)
            clear hl2 hl3
            go_enter Tryz.func117, Tryz.ntmps117
            go_wp2_with fail
            refine (unhide HW _ (unhide HBl) hsz).mono ?_
            rintro e w1 ⟨rfl, hB1, hb1, hk1⟩
            have c3 : w1.cell? ⟨w.heap.size, 3, none⟩ = some (.string x) := blk_cell (hk1 _ _ (unhide HBK) (by simp; omega) (fun c fz h => by cases h)) 3
            have hz1 := Nat.le_trans hsz hb1.size
            have HB1 := hide hB1
            clear hk1 hB1
            go_wp2_with fail
            refine (unhide HW2 _ (unhide HB1) hz1).mono ?_
            rintro e w2 ⟨rfl, hB2, hb2, hk2⟩
            have hz2 := Nat.le_trans hz1 hb2.size
            go_wp2_with fail
            refine (unhide HW3 _ hB2 hz2).mono ?_
            rintro e w3 ⟨rfl, hB3, hb3, hk3⟩
            go_wp2
            go_end0
            exact ⟨rfl, by rw [unhide HT]; exact hB3, ((hbA0.trans hb1).trans hb2).trans hb3⟩
          · have HT : Hid (l ++ tokB ⟨6, n, at', x⟩ = l ++ ((⟨#[60, 63]⟩ : ByteArray) ++ n).data.toList ++ (⟨#[63, 62]⟩ : ByteArray).data.toList) := hide (by simp [tokB, ByteArray.data_append, hx0])
            have HW3 := hide (fun W h1 h2 => put_any w0.heap.size b (l ++ ((⟨#[60, 63]⟩ : ByteArray) ++ n).data.toList) (⟨#[63, 62]⟩ : ByteArray) W h1 (by show _ + 2 ≤ _; omega) h2)
            clear hl2
            go_enter Tryz.func117, Tryz.ntmps117
            go_wp2_with fail
            refine (unhide HW _ (unhide HBl) hsz).mono ?_
            rintro e w1 ⟨rfl, hB1, hb1, hk1⟩
            have c3 : w1.cell? ⟨w.heap.size, 3, none⟩ = some (.string x) := blk_cell (hk1 _ _ (unhide HBK) (by simp; omega) (fun c fz h => by cases h)) 3
            have hz1 := Nat.le_trans hsz hb1.size
            have HB1 := hide hB1
            clear hk1 hB1
            go_wp2_with fail
            refine (unhide HW3 _ (unhide HB1) hz1).mono ?_
            rintro e w3 ⟨rfl, hB3, hb3, hk3⟩
            go_wp2
            go_end0
            exact ⟨rfl, by rw [unhide HT]; exact hB3, (hbA0.trans hb1).trans hb3⟩
        · have g6 : (k == 6) = false := by simpa using k6
          by_cases k2 : k = 2
          · subst k2
            have hl1 : (l ++ ((⟨#[60]⟩ : ByteArray) ++ n).data.toList).length ≤ 100000002000000 := by
              rw [List.length_append, sizeB, ByteArray.size_append]
              show l.length + (1 + n.size) ≤ _
              omega
            obtain ⟨L, hL⟩ : ∃ L, L = l ++ ((⟨#[60]⟩ : ByteArray) ++ n).data.toList := ⟨_, rfl⟩
            have HT : Hid (l ++ tokB ⟨2, n, at', x⟩ = L ++ at'.flatMap attrB ++ (⟨#[62]⟩ : ByteArray).data.toList) := hide (by rw [hL]; simp [tokB, ByteArray.data_append])
            have HW := hide (fun W h1 h2 => put_any w0.heap.size b l ((⟨#[60]⟩ : ByteArray) ++ n) W h1 (by rw [ByteArray.size_append]; show l.length + (1 + n.size) ≤ _; omega) h2)
            rw [← hL] at hl1 HW
            clear hL
            have hal := attrsB_len (unhide HS).a
            simp only at hal
            have HA := hide (unhide HS).a
            simp only at HA
            have hlen : ∀ j, ((at'.take j).flatMap attrB).length ≤ 469762304 := fun j => by
              have h1 := attrsB_len (a := at'.take j) (fun y hy => unhide HA y (List.mem_of_mem_take hy))
              have h2 : (at'.take j).length ≤ 64 := by rw [List.length_take]; omega
              have h3 : (at'.take j).length * 7340036 ≤ 469762304 := by omega
              omega
            have HLEN := hide hlen
            clear hlen
            go_enter Tryz.func117, Tryz.ntmps117
            go_wp2_with fail
            refine (unhide HW _ (unhide HBl) hsz).mono ?_
            rintro e w1 ⟨rfl, hB1, hb1, hk1⟩
            have c2 : w1.cell? ⟨w.heap.size, 2, none⟩ = some (.slice a at'.length cap) := blk_cell (hk1 _ _ (unhide HBK) (by simp; omega) (fun c fz h => by cases h)) 2
            have HI0 : Hid (AttSt w0 w b L at' 0 w1) := hide ⟨Nat.zero_le _, hbA0.trans hb1, by rw [List.take_zero, List.flatMap_nil, List.append_nil]; exact hB1⟩
            clear hk1 hB1
            go_wp2_with fail
            clear c2
            go_loopw [18] (fun i wr => ∃ j : Nat, i = .int .i64 (j : Nat) ∧ AttSt w0 w b L at' j wr) (fun i _ => at'.length - (intOf i).toNat)
            case atStart => exact ⟨0, rfl, unhide HI0⟩
            case round =>
              clear HI0
              obtain ⟨j, rfl, hI⟩ := hrel
              have hj := hI.le
              by_cases hlt : j < at'.length
              · obtain ⟨y, hy⟩ : ∃ y, at'[j]? = some y := ⟨at'[j], List.getElem?_eq_getElem hlt⟩
                obtain ⟨hy1, hy2⟩ := unhide HA y (List.mem_of_getElem? hy)
                obtain ⟨a', cap', he, hcells⟩ := (unhide HV).below ((unhide HB).trans hI.bel)
                obtain ⟨g, o, ha, hc⟩ := hcells (by intro h0; rw [h0] at hlt; cases hlt)
                cases he
                subst ha
                obtain ⟨c0, c1⟩ := hc j y hy
                have n1 : (0 : Int) ≤ (j : Int) := by omega
                have n2 : (j : Int) < (at'.length : Int) := by omega
                have htk : (at'.take (j + 1)).flatMap attrB = (at'.take j).flatMap attrB ++ attrB y := by
                  rw [List.take_succ_eq_append_getElem hlt, List.flatMap_append, (List.getElem?_eq_some_iff.1 hy).2]
                  simp
                have hq := mapO_len quo_few y.2.data.toList
                rw [sizeB] at hq
                obtain ⟨E, hE⟩ : ∃ E : ByteArray, E = ⟨(mapO quoO y.2.data.toList).toArray⟩ := ⟨_, rfl⟩
                have hEs : E.size ≤ 6291456 := by rw [hE]; show (mapO quoO y.2.data.toList).length ≤ _; omega
                have HEQ : Hid (∀ W, Calls Tryz.prog 122 #[.string y.2] W fun e w' => e = .returned (.string E) ∧ Below W.heap.size W w') := hide (fun W => by rw [hE]; exact xQuote_any y.2 W hy2)
                have HTK : Hid (L ++ (at'.take (j + 1)).flatMap attrB = L ++ (at'.take j).flatMap attrB ++ ((⟨#[32]⟩ : ByteArray) ++ y.1 ++ (⟨#[61, 34]⟩ : ByteArray) ++ E ++ (⟨#[34]⟩ : ByteArray)).data.toList) := hide (by
                  rw [htk, hE]
                  simp [attrB, ByteArray.data_append])
                have hlj := unhide HLEN j
                have HW2 := hide (fun W h1 h2 => put_any w0.heap.size b (L ++ (at'.take j).flatMap attrB) ((⟨#[32]⟩ : ByteArray) ++ y.1 ++ (⟨#[61, 34]⟩ : ByteArray) ++ E ++ (⟨#[34]⟩ : ByteArray)) W h1 (by
                  rw [List.length_append, ByteArray.size_append, ByteArray.size_append, ByteArray.size_append, ByteArray.size_append]
                  show L.length + _ + (1 + y.1.size + 2 + E.size + 1) ≤ _
                  omega) h2)
                have hbx : Below wr.heap.size wr (wr.alloc (.cells #[.string y.1, .string y.2] 40 (0, 0))) := (Below.refl _ _).alloc (Nat.le_refl _) _
                have hbl0 := hI.bel.size
                have hB0 := Lib.IsBuilderF.below hI.bld hbx
                have hbW := hI.bel.trans (hbx.mono (Nat.le_trans hw0 hbl0))
                have hs0 : w0.heap.size ≤ (wr.alloc (.cells #[.string y.1, .string y.2] 40 (0, 0))).heap.size := Nat.le_trans (Nat.le_trans hw0 hbl0) hbx.size
                have hbk0 := alloc_blk0 wr (.cells #[.string y.1, .string y.2] 40 (0, 0))
                have hblt2 : b ≠ wr.heap.size := by omega
                clear hc hI hcells hy htk hq hE hlj HLEN HBl HBK HW
                have hd0 : (wr.alloc (.cells #[.string y.1, .string y.2] 40 (0, 0))).drew.cell? ⟨wr.heap.size, 0, none⟩ = some (.string y.1) := blk_cell hbk0 0
                have hd1 : (wr.alloc (.cells #[.string y.1, .string y.2] 40 (0, 0))).drew.cell? ⟨wr.heap.size, 1, none⟩ = some (.string y.2) := blk_cell hbk0 1
                have hB0d : IsB w0.heap.size b (Lib.byteCells (L ++ (at'.take j).flatMap attrB)) (wr.alloc (.cells #[.string y.1, .string y.2] 40 (0, 0))).drew := hB0
                have hbk0d : (wr.alloc (.cells #[.string y.1, .string y.2] 40 (0, 0))).drew.heap[wr.heap.size]? = some (.cells #[.string y.1, .string y.2] 40 (0, 0)) := hbk0
                have hbWd : Below w0.heap.size w (wr.alloc (.cells #[.string y.1, .string y.2] 40 (0, 0))).drew := hbW.drew
                have HB0 := hide hB0d
                have HBK0 := hide hbk0d
                clear hB0d hbk0d
                clear hB0 hbk0
                have f1 : (9223372036854775807 < 1 + y.1.size) = False := eq_false (by omega)
                have f2 : (9223372036854775807 < 1 + y.1.size + 2) = False := eq_false (by omega)
                have f3 : (9223372036854775807 < 1 + y.1.size + 2 + E.size) = False := eq_false (by omega)
                have f4 : (9223372036854775807 < 1 + y.1.size + 2 + E.size + 1) = False := eq_false (by omega)
                go_wp2_with fail
                go_region_held3 (fun w' => w'.cell? ⟨wr.heap.size, 0, none⟩ = some (.string y.1) ∧ w'.cell? ⟨wr.heap.size, 1, none⟩ = some (.string y.2))
                  (first | exact ⟨hd0, hd1⟩ | exact hSq | exact hSw | assumption)
                  (first
                    | (go_at_call 122; refine (unhide HEQ _).mono ?_; rintro e wq ⟨rfl, hbq⟩; (have hSq := And.intro (keptC hbq hd0) (keptC hbq hd1)); (have hBq := Lib.IsBuilderF.below (unhide HB0) hbq); (have hKq := block_below (unhide HBK0) hbq))
                    | (go_at_call 69; refine (unhide HW2 _ hBq (Nat.le_trans hs0 hbq.size)).mono ?_; rintro e ww ⟨rfl, hBw, hbw, hkw⟩; (have hKw := hkw _ _ hKq (fun h => hblt2 (by cases h; rfl)) (fun c fz h => by cases h)); (have hSw := And.intro (blk_cell hKw 0) (blk_cell hKw 1))))
                all_goals
                  have HI2 : Hid (AttSt w0 w b L at' (j + 1) ww) := hide ⟨by omega, (hbWd.trans (hbq.mono hs0)).trans hbw, by rw [unhide HTK]; exact hBw⟩
                  clear hBw hbw hkw hKw hSw hSq hBq hKq
                  go_wp2_with fail
                  go_round
                  case measure => simp [intOf]; omega
                  case rel => exact ⟨j + 1, by simp, unhide HI2⟩
              · have n2 : ¬ (j : Int) < (at'.length : Int) := by omega
                have hjl : j = at'.length := by omega
                have hbd := hI.bld
                rw [hjl, List.take_length] at hbd
                have hbI := hI.bel
                have hbl0 := hbI.size
                have HW3 := hide (put_any w0.heap.size b (L ++ at'.flatMap attrB) (⟨#[62]⟩ : ByteArray) wr hbd (by
                  have h1 := unhide HLEN at'.length
                  rw [List.take_length] at h1
                  rw [List.length_append]
                  show _ + 1 ≤ _
                  omega) (Nat.le_trans hw0 hbl0))
                clear hI hbd HLEN HBl HBK HW
                go_wp2_with fail
                refine (unhide HW3).mono ?_
                rintro e w3 ⟨rfl, hB3, hb3, hk3⟩
                go_wp2
                go_end0
                exact ⟨rfl, by rw [unhide HT]; exact hB3, hbI.trans hb3⟩
          · have g2 : (k == 2) = false := by simpa using k2
            have HT : Hid (tokB ⟨k, n, at', x⟩ = []) := hide (by unfold tokB; simp only [if_neg k2, if_neg k7, if_neg k4, if_neg k5, if_neg k6])
            clear k2 k4 k5 k6 k7
            go_enter Tryz.func117, Tryz.ntmps117
            go_wp2
            go_end0
            exact ⟨rfl, by rw [unhide HT, List.append_nil]; exact unhide HBl, hbA0⟩
end Go.Proofs.YtefjfjieoiegnaaGreatDoor
/- Whether tokens are a document's: xmlscan's isDocument. -/
namespace Go.Proofs.YtefjfjieoiegnaaGreatDoor
open Go.RowKit
structure DocSt (w : World) (ts : List BTok) (k : Nat) (o : List ByteArray) (r : Bool) (last : Int) (vo : Value) (w' : World) : Prop where
  le : k ≤ ts.length
  bel : Below w.heap.size w w'
  row : w'.ownsRow w.heap.size 9 1 vo o.length (o.map Value.string)
  few : o.length ≤ k
  spec : docB [] false 0 ts = docB o r last (ts.drop k)
theorem docB_cons (o : List ByteArray) (r : Bool) (last : Int) (t : BTok) (ts : List BTok) : docB o r last (t :: ts) = (okB t && (match docStp o r last t with
    | none => false
    | some x => docB x.1 x.2 t.kind ts)) := rfl
theorem ok_kinds {t : BTok} (h : okB t = true) : t.kind = 2 ∨ t.kind = 7 ∨ t.kind = 4 ∨ t.kind = 5 ∨ t.kind = 6 := by
  unfold okB at h
  by_cases h2 : t.kind = 2
  · exact .inl h2
  · by_cases h7 : t.kind = 7
    · exact .inr (.inl h7)
    · by_cases h4 : t.kind = 4
      · exact .inr (.inr (.inl h4))
      · by_cases h5 : t.kind = 5
        · exact .inr (.inr (.inr (.inl h5)))
        · by_cases h6 : t.kind = 6
          · exact .inr (.inr (.inr (.inr h6)))
          · simp only [if_neg h2, if_neg h7, if_neg h4, if_neg h5, if_neg h6] at h
            cases h
theorem strs_last {w : World} {B : Nat} {vo : Value} {o : List ByteArray} (h : w.ownsRow B 9 1 vo o.length (o.map Value.string)) {y : ByteArray} (hy : o.getLast? = some y) : ∃ g c, vo = .slice (some ⟨g, 0, none⟩) o.length c ∧ w.cell? ⟨g, o.length - 1, none⟩ = some (.string y) ∧ o.length ≤ c := by
  have hne : o ≠ [] := fun h0 => by rw [h0] at hy; cases hy
  have hl := List.length_pos_iff.2 hne
  rcases h.2 with ⟨_, h0⟩ | ⟨g, c, cur, rfl, h2, h3, h4⟩
  · omega
  · refine ⟨g, c, rfl, ?_, h4.1⟩
    have hc := h.cellAt (o.length - 1) (by omega)
    rw [List.getLast?_eq_getElem?] at hy
    rw [hc, List.getElem?_map, hy]
    rfl
theorem strs_drop {w : World} {B : Nat} {a : Option Addr} {c : Nat} {o : List ByteArray} (h : w.ownsRow B 9 1 (.slice a o.length c) o.length (o.map Value.string)) : w.ownsRow B 9 1 (.slice a (o.length - 1) c) o.dropLast.length (o.dropLast.map Value.string) := by
  have h1 := owns_pre h (k := o.length - 1) (by omega)
  rw [Nat.mul_one, ← List.map_take, ← List.dropLast_eq_take] at h1
  rw [List.length_dropLast]
  exact h1
theorem box_kept {W W' : World} {p : Nat} {c : Array Value} {t : TypeId} {z : Nat × Nat} {own : Option Nat} (hp : W.heap[p]? = some (.cells c t z)) (hg : W.grownBy W' own) (hne : own ≠ some p) : W'.heap[p]? = some (.cells c t z) := by
  rw [hg.block p (Array.getElem?_eq_some_iff.1 hp).1 (fun e => hne e.symm)]
  exact hp
theorem alloc_blk (w : World) (o : Obj) : (w.alloc o).heap[w.heap.size]? = some o := by
  show (w.heap.push o)[w.heap.size]? = some o
  exact Array.getElem?_push_size
theorem infoStrD : (Tryz.prog.info? 9).map (fun i => (i.zero, i.size, i.bytes)) = some (some (.string ⟨#[]⟩), 1, 16) := by kernel_rfl
theorem newsOne {W : World} {g : Nat} {a : Value} (h0 : W.cell? ⟨g, 0, none⟩ = some a) : ∀ j u, [a][j]? = some u → W.cell? ((⟨g, 0, none⟩ : Addr).add j) = some u := by
  intro j u h
  rw [Addr.add_mid, Nat.zero_add]
  match j, h with
  | 0, h => cases h; exact h0
theorem docS2 (o : List ByteArray) (r : Bool) (last : Int) (n : ByteArray) (l : List (ByteArray × ByteArray)) (x : ByteArray) : docStp o r last ⟨2, n, l, x⟩ = if (o.isEmpty && r) = true then none else some (o ++ [n], true) := rfl
theorem docS7 (o : List ByteArray) (r : Bool) (last : Int) (n : ByteArray) (l : List (ByteArray × ByteArray)) (x : ByteArray) : docStp o r last ⟨7, n, l, x⟩ = match o.getLast? with | none => none | some y => if (y.toList == n.toList) = true then some (o.dropLast, r) else none := rfl
theorem docS4 (o : List ByteArray) (r : Bool) (last : Int) (n : ByteArray) (l : List (ByteArray × ByteArray)) (x : ByteArray) : docStp o r last ⟨4, n, l, x⟩ = if (o.isEmpty || last == 4) = true then none else some (o, r) := rfl
set_option maxRecDepth 100000 in
set_option maxHeartbeats 8000000 in
theorem isDocument_any (ts : List BTok) (a : Option Addr) (cap : Nat) (w : World) (hv : ToksArg w a ts) (hn : ts.length ≤ 1048580) (hs : ∀ t ∈ ts, Small t) (B : Nat) (hB : B ≤ w.heap.size) (hE : XEnv B w) :
    Calls Tryz.prog 115 #[.slice a ts.length cap] w fun e w' => e = .returned (.bool (docB [] false 0 ts)) ∧ Below w.heap.size w w' := by
  have HV := hide hv
  have HS := hide hs
  have HE := hide hE
  have HI0 : Hid (DocSt w ts 0 [] false 0 (.slice none 0 0) w) := hide ⟨Nat.zero_le _, Below.refl _ _, World.ownsRow_nil _ _ _ _, Nat.le_refl _, rfl⟩
  clear hv hs hE
  go_enter Tryz.func115, Tryz.ntmps115
  go_wp2_with fail
  go_loopw [3, 4, 5, 11] (fun s3 s4 s5 i wr => ∃ (k : Nat) (o : List ByteArray) (r : Bool) (last : Int), i = .int .i64 (k : Nat) ∧ s4 = .bool r ∧ s5 = .int .i64 last ∧ DocSt w ts k o r last s3 wr) (fun _ _ _ i _ => ts.length - (intOf i).toNat)
  case atStart => exact ⟨0, [], false, 0, rfl, rfl, rfl, unhide HI0⟩
  case round =>
    clear HI0
    obtain ⟨k, o, r, last, rfl, rfl, rfl, hI⟩ := hrel
    have hk := hI.le
    obtain ⟨ao, co, rfl⟩ := owns_slice hI.row
    by_cases hlt : k < ts.length
    · obtain ⟨t, ht⟩ : ∃ t, ts[k]? = some t := ⟨ts[k], List.getElem?_eq_getElem hlt⟩
      have hts := unhide HS t (List.mem_of_getElem? ht)
      obtain ⟨g, oo, ha, hc⟩ := ((unhide HV).below hI.bel) (by intro h0; rw [h0] at hlt; cases hlt)
      subst ha
      obtain ⟨c0, c1, ⟨v, c2, hpv⟩, c3⟩ := hc k t ht
      obtain ⟨va, vc, hve, _⟩ := id hpv
      subst hve
      have n1 : (0 : Int) ≤ (k : Int) := by omega
      have n2 : (k : Int) < (ts.length : Int) := by omega
      have hdr : ts.drop k = t :: ts.drop (k + 1) := by
        rw [← List.getElem_cons_drop hlt]
        congr 1
        exact (List.getElem?_eq_some_iff.1 ht).2
      have hspec := hI.spec
      rw [hdr, docB_cons] at hspec
      have HSP := hide hspec
      have hbA : Below wr.heap.size wr (wr.alloc (.cells (tokV t (.slice va t.attrs.length vc)) 37 (0, 0))) := (Below.refl _ _).alloc (Nat.le_refl _) _
      have HBX : Hid (TokBox wr t (.slice va t.attrs.length vc) (wr.alloc (.cells (tokV t (.slice va t.attrs.length vc)) 37 (0, 0)))) := hide (by
        unfold tokV
        refine ⟨(Below.refl _ _).alloc (Nat.le_refl _) _, by simp, ?_, ?_, ?_, ?_⟩
        all_goals simp [go_sem])
      have hb00 := hI.bel.size
      have hb0 := Below.then hI.bel hbA
      have HR := hide (owns_below hI.row hbA)
      have hfew := hI.few
      have HPV := hide (hpv.below hbA)
      unfold tokV at hbA HBX hb0 HR HPV
      clear hc hI hdr ht hspec hpv
      go_wp2_with fail
      refine (isToken_any t _ _ (unhide HPV) hts B (Nat.le_trans (Nat.le_trans hB hb00) hbA.size) ((unhide HE).low (hb0.mono hB))).mono ?_
      rintro e w2 ⟨rfl, hb2⟩
      have hb02 := Below.then hb0 hb2
      have hbk := block_below (show (wr.alloc (.cells #[.int .i64 t.kind, .string t.name, .slice va t.attrs.length vc, .string t.text] 37 (0, 0))).heap[wr.heap.size]? = some (.cells #[.int .i64 t.kind, .string t.name, .slice va t.attrs.length vc, .string t.text] 37 (0, 0)) from alloc_blk _ _) hb2
      have HBK := hide hbk
      have HR2 := hide (owns_below (unhide HR) hb2)
      have hlt2 : w.heap.size ≤ w2.heap.size := hb02.size
      have d0 : w2.cell? ⟨wr.heap.size, 0, none⟩ = some (.int .i64 t.kind) := blk_cell hbk 0
      have d1 : w2.cell? ⟨wr.heap.size, 1, none⟩ = some (.string t.name) := blk_cell hbk 1
      clear HR HBX HPV hbk c0 c1 c2 c3
      cases hok : okB t
      · have HF : Hid (docB [] false 0 ts = false) := hide (by rw [unhide HSP, hok]; rfl)
        clear HSP hok
        go_wp2
        go_ret
        exact ⟨ret_bool (unhide HF).symm, hb02⟩
      · have HS2 : Hid (docB [] false 0 ts = (match docStp o r last t with | none => false | some x => docB x.1 x.2 t.kind (ts.drop (k + 1)))) := hide (by rw [unhide HSP, hok, Bool.true_and])
        have hkk := ok_kinds hok
        clear HSP hok
        obtain ⟨kd, nm, ats, tx'⟩ := t
        simp only at *
        have HI := hide (fun (o' : List ByteArray) (r' : Bool) (v' : Value) (W' : World) (h1 : Below w.heap.size w W') (h2 : W'.ownsRow w.heap.size 9 1 v' o'.length (o'.map Value.string)) (h3 : o'.length ≤ k + 1) (h4 : docStp o r last ⟨kd, nm, ats, tx'⟩ = some (o', r')) => (⟨by omega, h1, h2, h3, by rw [unhide HS2, h4]⟩ : DocSt w ts (k + 1) o' r' kd v' W'))
        have HF : Hid (docStp o r last ⟨kd, nm, ats, tx'⟩ = none → docB [] false 0 ts = false) := hide fun h => by rw [unhide HS2, h]
        clear HS2
        rcases hkk with rfl | rfl | rfl | rfl | rfl
        · -- an element
          have HD := hide (docS2 o r last nm ats tx')
          cases hoe : o.isEmpty
          · have htop : (((o.length : Nat) : Int) == 0) = false := by cases o with | nil => cases hoe | cons _ _ => simp; omega
            have HDS : Hid (docStp o r last ⟨2, nm, ats, tx'⟩ = some (o ++ [nm], true)) := hide (by rw [unhide HD, hoe, Bool.false_and]; rfl)
            obtain ⟨i0, hi, hz0, hz1, hz2⟩ := info_parts infoStrD
            go_wp2_with (at_builtin; refine wpList_append_own _ rfl _ _ 45 rfl w.heap.size 9 i0 _ 1 16 Tryz.underlying45 hi hz0 hz1 hz2 rfl (by decide) _ o.length (o.map Value.string) rfl (owns_below (unhide HR2) ((Below.refl _ _).alloc (Nat.le_refl _) _)) ⟨w2.heap.size, 0, none⟩ 1 1 [.string nm] rfl rfl (newsOne (by simp [go_sem])) (fun u hu => by simp at hu; subst hu; rfl) (by unfold maxLen; omega) (by omega) (by simp; omega) ?_; intro v8 w8 hown8 hgrow8 _; have e0 : w8.cell? ⟨wr.heap.size, 0, none⟩ = some (.int .i64 2) := blk_cell (box_kept (block_below (unhide HBK) ((Below.refl _ _).alloc (Nat.le_refl _) _)) hgrow8 (owns_not (unhide HR2) (unhide HBK) (by decide))) 0)
            have hb8 : Below w.heap.size w w8 := (Below.then hb02 ((Below.refl _ _).alloc (Nat.le_refl _) _)).grown hgrow8 (by simp; omega) (fun j hj => ((unhide HR2).lt j hj).1)
            have HI8 := hide (unhide HI (o ++ [nm]) true v8 w8 hb8 (by rw [List.length_append, List.map_append]; exact hown8) (by rw [List.length_append]; simp; omega) (unhide HDS))
            clear HI HF HDS HD hown8 hgrow8 hi hz0 hz1 hz2
            go_round
            case measure => simp [intOf]; omega
            case rel => exact ⟨k + 1, o ++ [nm], true, 2, by simp, rfl, rfl, unhide HI8⟩
          · have htop : (((o.length : Nat) : Int) == 0) = true := by cases o with | nil => rfl | cons _ _ => cases hoe
            cases r
            · have HDS : Hid (docStp o false last ⟨2, nm, ats, tx'⟩ = some (o ++ [nm], true)) := hide (by rw [unhide HD, hoe, Bool.and_false]; rfl)
              obtain ⟨i0, hi, hz0, hz1, hz2⟩ := info_parts infoStrD
              go_wp2_with (at_builtin; refine wpList_append_own _ rfl _ _ 45 rfl w.heap.size 9 i0 _ 1 16 Tryz.underlying45 hi hz0 hz1 hz2 rfl (by decide) _ o.length (o.map Value.string) rfl (owns_below (unhide HR2) ((Below.refl _ _).alloc (Nat.le_refl _) _)) ⟨w2.heap.size, 0, none⟩ 1 1 [.string nm] rfl rfl (newsOne (by simp [go_sem])) (fun u hu => by simp at hu; subst hu; rfl) (by unfold maxLen; omega) (by omega) (by simp; omega) ?_; intro v8 w8 hown8 hgrow8 _; have e0 : w8.cell? ⟨wr.heap.size, 0, none⟩ = some (.int .i64 2) := blk_cell (box_kept (block_below (unhide HBK) ((Below.refl _ _).alloc (Nat.le_refl _) _)) hgrow8 (owns_not (unhide HR2) (unhide HBK) (by decide))) 0)
              have hb8 : Below w.heap.size w w8 := (Below.then hb02 ((Below.refl _ _).alloc (Nat.le_refl _) _)).grown hgrow8 (by simp; omega) (fun j hj => ((unhide HR2).lt j hj).1)
              have HI8 := hide (unhide HI (o ++ [nm]) true v8 w8 hb8 (by rw [List.length_append, List.map_append]; exact hown8) (by rw [List.length_append]; simp; omega) (unhide HDS))
              clear HI HF HDS HD hown8 hgrow8 hi hz0 hz1 hz2
              go_round
              case measure => simp [intOf]; omega
              case rel => exact ⟨k + 1, o ++ [nm], true, 2, by simp, rfl, rfl, unhide HI8⟩
            · have HNO : docStp o true last ⟨2, nm, ats, tx'⟩ = none := by rw [unhide HD, hoe]; rfl
              clear HI
              go_wp2
              go_ret
              exact ⟨ret_bool (unhide HF HNO).symm, hb02⟩
        · have HD := hide (docS7 o r last nm ats tx')
          cases hg : o.getLast? with
          | none =>
            have HNO : Hid (docStp o r last ⟨7, nm, ats, tx'⟩ = none) := hide (by rw [unhide HD, hg])
            have hoe : o = [] := List.getLast?_eq_none_iff.1 hg
            have htop : (((o.length : Nat) : Int) == 0) = true := by rw [hoe]; rfl
            clear HI HD hg hoe
            go_wp2_with fail
            rw [htop]
            clear htop
            go_quiet (fail)
            go_wp2
            go_ret
            exact ⟨ret_bool (unhide HF (unhide HNO)).symm, Below.then hb02 (below_drewN _ _)⟩
          | some y =>
            have hne : o ≠ [] := fun h0 => by rw [h0] at hg; cases hg
            have hol := List.length_pos_iff.2 hne
            have htop : (((o.length : Nat) : Int) == 0) = false := by simp; omega
            obtain ⟨g7, c7, he7, hc7, hle7⟩ := strs_last (unhide HR2) hg
            cases he7
            have i1 : (0 : Int) ≤ (o.length : Int) - 1 := by omega
            have i2 : (o.length : Int) - 1 < (o.length : Int) := by omega
            have i3 : ((o.length : Int) - 1).toNat = o.length - 1 := by omega
            have i4 : IntKind.i64.wrap ((o.length : Int) - 1) = (o.length : Int) - 1 := by rw [IntKind.wrap_i64]; omega
            cases hcmp : (y.toList == nm.toList)
            · have HNO : Hid (docStp o r last ⟨7, nm, ats, tx'⟩ = none) := hide (by rw [unhide HD, hg]; simp only; rw [hcmp]; rfl)
              clear HI HD hg hne
              go_wp2_with fail
              rw [htop]
              clear htop
              go_quiet (fail)
              go_wp2
              go_ret
              exact ⟨ret_bool (unhide HF (unhide HNO)).symm, Below.then hb02 (below_drewN _ _)⟩
            · have HDS : Hid (docStp o r last ⟨7, nm, ats, tx'⟩ = some (o.dropLast, r)) := hide (by rw [unhide HD, hg]; simp only; rw [hcmp]; rfl)
              clear HF HD hg hne
              go_wp2_with fail
              rw [htop]
              clear htop
              go_quiet (fail)
              have hbq := below_drewN w2 nq
              have e0 := keptC hbq d0
              have HI8 := hide (unhide HI o.dropLast r _ (w2.drewN nq) (Below.then hb02 hbq) (strs_drop (owns_below (unhide HR2) hbq)) (by rw [List.length_dropLast]; omega) (unhide HDS))
              clear HI HDS
              generalize w2.drewN nq = W at *
              go_wp2_with fail
              go_round
              case measure => simp [intOf]; omega
              case rel => exact ⟨k + 1, o.dropLast, r, 7, by simp, rfl, rfl, unhide HI8⟩
        · have HD := hide (docS4 o r last nm ats tx')
          have htop : (((o.length : Nat) : Int) == 0) = o.isEmpty := by cases o with | nil => rfl | cons _ _ => simp; omega
          cases hoe : o.isEmpty
          · rw [hoe] at htop
            cases hla : (last == 4)
            · have HDS : Hid (docStp o r last ⟨4, nm, ats, tx'⟩ = some (o, r)) := hide (by rw [unhide HD, hoe, hla]; rfl)
              clear HF HD hoe
              go_wp2_with fail
              rw [htop]
              clear htop
              go_quiet (fail)
              have hbq := below_drewN w2 nq
              have e0 := keptC hbq d0
              have HI8 := hide (unhide HI o r (.slice ao o.length co) (w2.drewN nq) (Below.then hb02 hbq) (owns_below (unhide HR2) hbq) (by omega) (unhide HDS))
              clear HI HDS
              generalize w2.drewN nq = W at *
              go_wp2_with fail
              go_round
              case measure => simp [intOf]; omega
              case rel => exact ⟨k + 1, o, r, 4, by simp, rfl, rfl, unhide HI8⟩
            · have HNO : Hid (docStp o r last ⟨4, nm, ats, tx'⟩ = none) := hide (by rw [unhide HD, hoe, hla]; rfl)
              have hl4 : last = 4 := by simpa using hla
              subst hl4
              clear HI HD hoe hla
              go_wp2_with fail
              rw [htop]
              clear htop
              go_quiet (fail)
              have hbq := below_drewN w2 nq
              have e0 := keptC hbq d0
              generalize w2.drewN nq = W at *
              go_wp2
              go_ret
              exact ⟨ret_bool (unhide HF (unhide HNO)).symm, Below.then hb02 hbq⟩
          · rw [hoe] at htop
            have HNO : Hid (docStp o r last ⟨4, nm, ats, tx'⟩ = none) := hide (by rw [unhide HD, hoe]; rfl)
            clear HI HD hoe
            go_wp2_with fail
            rw [htop]
            clear htop
            go_quiet (fail)
            have hbq := below_drewN w2 nq
            have e0 := keptC hbq d0
            generalize w2.drewN nq = W at *
            go_wp2
            go_ret
            exact ⟨ret_bool (unhide HF (unhide HNO)).symm, Below.then hb02 hbq⟩
        · have HDS : Hid (docStp o r last ⟨5, nm, ats, tx'⟩ = some (o, r)) := hide rfl
          clear HF
          go_wp2_with fail
          generalize (((o.length : Nat) : Int) == 0) = b at *
          go_quiet (fail)
          have hbq := below_drewN w2 nq
          have e0 := keptC hbq d0
          have HI8 := hide (unhide HI o r (.slice ao o.length co) (w2.drewN nq) (Below.then hb02 hbq) (owns_below (unhide HR2) hbq) (by omega) (unhide HDS))
          clear HI HDS
          generalize w2.drewN nq = W at *
          go_wp2_with fail
          go_round
          case measure => simp [intOf]; omega
          case rel => exact ⟨k + 1, o, r, 5, by simp, rfl, rfl, unhide HI8⟩
        · have HDS : Hid (docStp o r last ⟨6, nm, ats, tx'⟩ = some (o, r)) := hide rfl
          clear HF
          go_wp2_with fail
          generalize (((o.length : Nat) : Int) == 0) = b at *
          go_quiet (fail)
          have hbq := below_drewN w2 nq
          have e0 := keptC hbq d0
          have HI8 := hide (unhide HI o r (.slice ao o.length co) (w2.drewN nq) (Below.then hb02 hbq) (owns_below (unhide HR2) hbq) (by omega) (unhide HDS))
          clear HI HDS
          generalize w2.drewN nq = W at *
          go_wp2_with fail
          go_round
          case measure => simp [intOf]; omega
          case rel => exact ⟨k + 1, o, r, 6, by simp, rfl, rfl, unhide HI8⟩
    · have n2 : ¬ (k : Int) < (ts.length : Int) := by omega
      have hkl : k = ts.length := by omega
      have hsp := hI.spec
      rw [hkl, List.drop_length] at hsp
      have HSP : Hid (docB [] false 0 ts = (r && o.isEmpty)) := hide hsp
      have hbI := hI.bel
      have htop : (((o.length : Nat) : Int) == 0) = o.isEmpty := by cases o with | nil => rfl | cons _ _ => simp; omega
      clear hI hsp
      cases r
      · clear htop
        go_wp2
        go_ret
        exact ⟨ret_bool (by rw [unhide HSP]; rfl), hbI⟩
      · go_wp2
        go_ret
        exact ⟨ret_bool (by rw [unhide HSP]; rfl), hbI⟩
end Go.Proofs.YtefjfjieoiegnaaGreatDoor
