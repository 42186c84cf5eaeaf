/- Several texts, laid as one. -/
import Derived.Test.YtefjfjieoiegnaaGreatDoorGao
import Derived.Deep.RegionHeld3
import Derived.Shelf.Strings.MapGrows
import Derived.Test.YtefjfjieoiegnaaGreatDoorGam
import Derived.Lib.AppendStr
/- A token as a text: xmlscan's writeToken. -/
namespace Go.Proofs.YtefjfjieoiegnaaGreatDoor
open Go.RowKit
theorem put_any (B b : Nat) (l : List UInt8) (s : ByteArray) (W : World) (h : IsB B b (Lib.byteCells l) W) (hl : l.length + s.size ≤ 140737488355328) (hB : B ≤ W.heap.size) :
    Calls Tryz.prog 69 #[.pointer (some ⟨b, 0, none⟩), .string s] W fun e w' => e = .returned (.tuple #[.int .i64 s.size, .nilIface]) ∧ IsB B b (Lib.byteCells (l ++ s.data.toList)) w' ∧ Below B W w' ∧ KeptB b W w' := by
  refine (writeString_any B b (Lib.byteCells l) s W h (by rw [Lib.byteCells_length]; exact hl) hB).mono ?_
  rintro e w' ⟨rfl, h1, h2, h3⟩
  refine ⟨rfl, ?_, h2, h3⟩
  rw [← cell_map]
  exact h1
theorem attrB_len {x : ByteArray × ByteArray} (h : x.1.size ≤ 1048576 ∧ x.2.size ≤ 1048576) : (attrB x).length ≤ 7340036 := by
  have h1 := mapO_len quo_few x.2.data.toList
  have e1 : x.1.data.toList.length = x.1.size := rfl
  have e2 : x.2.data.toList.length = x.2.size := rfl
  unfold attrB
  simp only [List.length_cons, List.length_append, List.length_nil]
  omega
theorem attrsB_len : ∀ {a : List (ByteArray × ByteArray)}, (∀ x ∈ a, x.1.size ≤ 1048576 ∧ x.2.size ≤ 1048576) → (a.flatMap attrB).length ≤ a.length * 7340036
  | [], _ => Nat.le_refl _
  | x :: a, h => by
    have h1 := attrB_len (h x (List.mem_cons_self ..))
    have h2 := attrsB_len (fun y hy => h y (List.mem_cons_of_mem _ hy))
    rw [List.flatMap_cons, List.length_append, List.length_cons]
    omega
theorem alloc_blk0 (w : World) (o : Obj) : (w.alloc o).heap[w.heap.size]? = some o := by
  show (w.heap.push o)[w.heap.size]? = some o
  exact Array.getElem?_push_size
theorem sizeB (s : ByteArray) : s.data.toList.length = s.size := rfl
structure AttSt (w0 w : World) (b : Nat) (l : List UInt8) (a : List (ByteArray × ByteArray)) (k : Nat) (w' : World) : Prop where
  le : k ≤ a.length
  bel : Below w0.heap.size w w'
  bld : IsB w0.heap.size b (Lib.byteCells (l ++ (a.take k).flatMap attrB)) w'
set_option maxRecDepth 100000 in
set_option maxHeartbeats 8000000 in
theorem writeToken_any (w0 : World) (b : Nat) (l : List UInt8) (t : BTok) (v : Value) (w : World) (hv : PairsArg w0 v t.attrs) (hb : Below w0.heap.size w0 w) (h : IsB w0.heap.size b (Lib.byteCells l) w) (hs : Small t) (hl : t.attrs.length ≤ 64) (hz : l.length ≤ 100000000000000) :
    Calls Tryz.prog 117 #[.pointer (some ⟨b, 0, none⟩), .agg #[.int .i64 t.kind, .string t.name, v, .string t.text]] w fun e w' => e = .returned (.tuple #[]) ∧ IsB w0.heap.size b (Lib.byteCells (l ++ tokB t)) w' ∧ Below w0.heap.size w w' := by
  have HV := hide hv
  have HS := hide hs
  have HB := hide hb
  obtain ⟨a, cap, rfl, _⟩ := hv
  have hw0 := hb.size
  obtain ⟨k, n, at', x⟩ := t
  have hn := hs.n
  have hx := hs.x
  simp only at *
  have hbA : Below w.heap.size w (w.alloc (.cells #[.int .i64 k, .string n, .slice a at'.length cap, .string x] 37 (0, 0))) := (Below.refl _ _).alloc (Nat.le_refl _) _
  have HBl := hide (Lib.IsBuilderF.below h hbA)
  have hblt : b < w.heap.size := by
    rcases h with h | h
    · exact h.lt
    · exact h.lt
  have hbA0 : Below w0.heap.size w (w.alloc (.cells #[.int .i64 k, .string n, .slice a at'.length cap, .string x] 37 (0, 0))) := hbA.mono hw0
  have HBK : Hid ((w.alloc (.cells #[.int .i64 k, .string n, .slice a at'.length cap, .string x] 37 (0, 0))).heap[w.heap.size]? = some (.cells #[.int .i64 k, .string n, .slice a at'.length cap, .string x] 37 (0, 0))) := hide (alloc_blk0 _ _)
  have hsz : w0.heap.size ≤ (w.alloc (.cells #[.int .i64 k, .string n, .slice a at'.length cap, .string x] 37 (0, 0))).heap.size := Nat.le_trans hw0 hbA.size
  clear hs hb h hbA
  by_cases k7 : k = 7
  · subst k7
    have HT : Hid (tokB ⟨7, n, at', x⟩ = ((⟨#[60, 47]⟩ : ByteArray) ++ n ++ (⟨#[62]⟩ : ByteArray)).data.toList) := hide (by simp [tokB, ByteArray.data_append])
    have HW := hide (fun W h1 h2 => put_any w0.heap.size b l ((⟨#[60, 47]⟩ : ByteArray) ++ n ++ (⟨#[62]⟩ : ByteArray)) W h1 (by rw [ByteArray.size_append, ByteArray.size_append]; show l.length + (2 + n.size + 1) ≤ _; omega) h2)
    go_enter Tryz.func117, Tryz.ntmps117
    go_wp2_with fail
    refine (unhide HW _ (unhide HBl) hsz).mono ?_
    rintro e w1 ⟨rfl, hB1, hb1, hk1⟩
    go_wp2
    go_end0
    exact ⟨rfl, by rw [unhide HT]; exact hB1, hbA0.trans hb1⟩
  · have g7 : (k == 7) = false := by simpa using k7
    by_cases k4 : k = 4
    · subst k4
      have hq := mapO_len esc_few x.data.toList
      rw [sizeB] at hq
      obtain ⟨E, hE⟩ : ∃ E : ByteArray, E = ⟨(mapO escO x.data.toList).toArray⟩ := ⟨_, rfl⟩
      have hEs : E.size ≤ 6291456 := by rw [hE]; show (mapO escO x.data.toList).length ≤ _; omega
      have HT : Hid (tokB ⟨4, n, at', x⟩ = E.data.toList) := hide (by rw [hE]; simp [tokB])
      have HW := hide (fun W h1 h2 => put_any w0.heap.size b l E W h1 (by omega) h2)
      have HE : Hid (∀ W, Calls Tryz.prog 120 #[.string x] W fun e w' => e = .returned (.string E) ∧ Below W.heap.size W w') := hide (fun W => by rw [hE]; exact xEscape_any x W hx)
      clear hE hq
      go_enter Tryz.func117, Tryz.ntmps117
      go_wp2_with fail
      refine (unhide HE _).mono ?_
      rintro e w1 ⟨rfl, hb1⟩
      go_wp2_with fail
      refine (unhide HW _ (Lib.IsBuilderF.below (unhide HBl) hb1) (Nat.le_trans hsz hb1.size)).mono ?_
      rintro e w2 ⟨rfl, hB2, hb2, hk2⟩
      go_wp2
      go_end0
      exact ⟨rfl, by rw [unhide HT]; exact hB2, (hbA0.trans (hb1.mono hsz)).trans hb2⟩
    · have g4 : (k == 4) = false := by simpa using k4
      by_cases k5 : k = 5
      · subst k5
        have HT : Hid (tokB ⟨5, n, at', x⟩ = ((⟨#[60, 33, 45, 45]⟩ : ByteArray) ++ x ++ (⟨#[45, 45, 62]⟩ : ByteArray)).data.toList) := hide (by simp [tokB, ByteArray.data_append])
        have HW := hide (fun W h1 h2 => put_any w0.heap.size b l ((⟨#[60, 33, 45, 45]⟩ : ByteArray) ++ x ++ (⟨#[45, 45, 62]⟩ : ByteArray)) W h1 (by rw [ByteArray.size_append, ByteArray.size_append]; show l.length + (4 + x.size + 3) ≤ _; omega) h2)
        go_enter Tryz.func117, Tryz.ntmps117
        go_wp2_with fail
        refine (unhide HW _ (unhide HBl) hsz).mono ?_
        rintro e w1 ⟨rfl, hB1, hb1, hk1⟩
        go_wp2
        go_end0
        exact ⟨rfl, by rw [unhide HT]; exact hB1, hbA0.trans hb1⟩
      · have g5 : (k == 5) = false := by simpa using k5
        by_cases k6 : k = 6
        · subst k6
          have HW := hide (fun W h1 h2 => put_any w0.heap.size b l ((⟨#[60, 63]⟩ : ByteArray) ++ n) W h1 (by rw [ByteArray.size_append]; show l.length + (2 + n.size) ≤ _; omega) h2)
          have hl2 : (l ++ ((⟨#[60, 63]⟩ : ByteArray) ++ n).data.toList).length ≤ 100000002000000 := by
            rw [List.length_append, sizeB, ByteArray.size_append]
            show l.length + (2 + n.size) ≤ _
            omega
          cases hx0 : x.toList.isEmpty
          · have HT : Hid (l ++ tokB ⟨6, n, at', x⟩ = l ++ ((⟨#[60, 63]⟩ : ByteArray) ++ n).data.toList ++ ((⟨#[32]⟩ : ByteArray) ++ x).data.toList ++ (⟨#[63, 62]⟩ : ByteArray).data.toList) := hide (by simp [tokB, ByteArray.data_append, hx0])
            have HW2 := hide (fun W h1 h2 => put_any w0.heap.size b (l ++ ((⟨#[60, 63]⟩ : ByteArray) ++ n).data.toList) ((⟨#[32]⟩ : ByteArray) ++ x) W h1 (by rw [ByteArray.size_append]; show _ + (1 + x.size) ≤ _; omega) h2)
            have hl3 : (l ++ ((⟨#[60, 63]⟩ : ByteArray) ++ n).data.toList ++ ((⟨#[32]⟩ : ByteArray) ++ x).data.toList).length + (⟨#[63, 62]⟩ : ByteArray).size ≤ 140737488355328 := by
              have e1 : ((⟨#[32]⟩ : ByteArray) ++ x).data.toList.length = 1 + x.size := by rw [sizeB, ByteArray.size_append]; rfl
              have e2 : (⟨#[63, 62]⟩ : ByteArray).size = 2 := rfl
              rw [List.length_append, e1, e2]
              omega
            have HW3 := hide (fun W h1 h2 => put_any w0.heap.size b (l ++ ((⟨#[60, 63]⟩ : ByteArray) ++ n).data.toList ++ ((⟨#[32]⟩ : ByteArray) ++ x).data.toList) (⟨#[63, 62]⟩ : ByteArray) W h1 hl3 h2)
            clear hl2 hl3
            go_enter Tryz.func117, Tryz.ntmps117
            go_wp2_with fail
            refine (unhide HW _ (unhide HBl) hsz).mono ?_
            rintro e w1 ⟨rfl, hB1, hb1, hk1⟩
            have c3 : w1.cell? ⟨w.heap.size, 3, none⟩ = some (.string x) := blk_cell (hk1 _ _ (unhide HBK) (by simp; omega) (fun c fz h => by cases h)) 3
            have hz1 := Nat.le_trans hsz hb1.size
            have HB1 := hide hB1
            clear hk1 hB1
            go_wp2_with fail
            refine (unhide HW2 _ (unhide HB1) hz1).mono ?_
            rintro e w2 ⟨rfl, hB2, hb2, hk2⟩
            have hz2 := Nat.le_trans hz1 hb2.size
            go_wp2_with fail
            refine (unhide HW3 _ hB2 hz2).mono ?_
            rintro e w3 ⟨rfl, hB3, hb3, hk3⟩
            go_wp2
            go_end0
            exact ⟨rfl, by rw [unhide HT]; exact hB3, ((hbA0.trans hb1).trans hb2).trans hb3⟩
          · have HT : Hid (l ++ tokB ⟨6, n, at', x⟩ = l ++ ((⟨#[60, 63]⟩ : ByteArray) ++ n).data.toList ++ (⟨#[63, 62]⟩ : ByteArray).data.toList) := hide (by simp [tokB, ByteArray.data_append, hx0])
            have HW3 := hide (fun W h1 h2 => put_any w0.heap.size b (l ++ ((⟨#[60, 63]⟩ : ByteArray) ++ n).data.toList) (⟨#[63, 62]⟩ : ByteArray) W h1 (by show _ + 2 ≤ _; omega) h2)
            clear hl2
            go_enter Tryz.func117, Tryz.ntmps117
            go_wp2_with fail
            refine (unhide HW _ (unhide HBl) hsz).mono ?_
            rintro e w1 ⟨rfl, hB1, hb1, hk1⟩
            have c3 : w1.cell? ⟨w.heap.size, 3, none⟩ = some (.string x) := blk_cell (hk1 _ _ (unhide HBK) (by simp; omega) (fun c fz h => by cases h)) 3
            have hz1 := Nat.le_trans hsz hb1.size
            have HB1 := hide hB1
            clear hk1 hB1
            go_wp2_with fail
            refine (unhide HW3 _ (unhide HB1) hz1).mono ?_
            rintro e w3 ⟨rfl, hB3, hb3, hk3⟩
            go_wp2
            go_end0
            exact ⟨rfl, by rw [unhide HT]; exact hB3, (hbA0.trans hb1).trans hb3⟩
        · have g6 : (k == 6) = false := by simpa using k6
          by_cases k2 : k = 2
          · subst k2
            have hl1 : (l ++ ((⟨#[60]⟩ : ByteArray) ++ n).data.toList).length ≤ 100000002000000 := by
              rw [List.length_append, sizeB, ByteArray.size_append]
              show l.length + (1 + n.size) ≤ _
              omega
            obtain ⟨L, hL⟩ : ∃ L, L = l ++ ((⟨#[60]⟩ : ByteArray) ++ n).data.toList := ⟨_, rfl⟩
            have HT : Hid (l ++ tokB ⟨2, n, at', x⟩ = L ++ at'.flatMap attrB ++ (⟨#[62]⟩ : ByteArray).data.toList) := hide (by rw [hL]; simp [tokB, ByteArray.data_append])
            have HW := hide (fun W h1 h2 => put_any w0.heap.size b l ((⟨#[60]⟩ : ByteArray) ++ n) W h1 (by rw [ByteArray.size_append]; show l.length + (1 + n.size) ≤ _; omega) h2)
            rw [← hL] at hl1 HW
            clear hL
            have hal := attrsB_len (unhide HS).a
            simp only at hal
            have HA := hide (unhide HS).a
            simp only at HA
            have hlen : ∀ j, ((at'.take j).flatMap attrB).length ≤ 469762304 := fun j => by
              have h1 := attrsB_len (a := at'.take j) (fun y hy => unhide HA y (List.mem_of_mem_take hy))
              have h2 : (at'.take j).length ≤ 64 := by rw [List.length_take]; omega
              have h3 : (at'.take j).length * 7340036 ≤ 469762304 := by omega
              omega
            have HLEN := hide hlen
            clear hlen
            go_enter Tryz.func117, Tryz.ntmps117
            go_wp2_with fail
            refine (unhide HW _ (unhide HBl) hsz).mono ?_
            rintro e w1 ⟨rfl, hB1, hb1, hk1⟩
            have c2 : w1.cell? ⟨w.heap.size, 2, none⟩ = some (.slice a at'.length cap) := blk_cell (hk1 _ _ (unhide HBK) (by simp; omega) (fun c fz h => by cases h)) 2
            have HI0 : Hid (AttSt w0 w b L at' 0 w1) := hide ⟨Nat.zero_le _, hbA0.trans hb1, by rw [List.take_zero, List.flatMap_nil, List.append_nil]; exact hB1⟩
            clear hk1 hB1
            go_wp2_with fail
            clear c2
            go_loopw [18] (fun i wr => ∃ j : Nat, i = .int .i64 (j : Nat) ∧ AttSt w0 w b L at' j wr) (fun i _ => at'.length - (intOf i).toNat)
            case atStart => exact ⟨0, rfl, unhide HI0⟩
            case round =>
              clear HI0
              obtain ⟨j, rfl, hI⟩ := hrel
              have hj := hI.le
              by_cases hlt : j < at'.length
              · obtain ⟨y, hy⟩ : ∃ y, at'[j]? = some y := ⟨at'[j], List.getElem?_eq_getElem hlt⟩
                obtain ⟨hy1, hy2⟩ := unhide HA y (List.mem_of_getElem? hy)
                obtain ⟨a', cap', he, hcells⟩ := (unhide HV).below ((unhide HB).trans hI.bel)
                obtain ⟨g, o, ha, hc⟩ := hcells (by intro h0; rw [h0] at hlt; cases hlt)
                cases he
                subst ha
                obtain ⟨c0, c1⟩ := hc j y hy
                have n1 : (0 : Int) ≤ (j : Int) := by omega
                have n2 : (j : Int) < (at'.length : Int) := by omega
                have htk : (at'.take (j + 1)).flatMap attrB = (at'.take j).flatMap attrB ++ attrB y := by
                  rw [List.take_succ_eq_append_getElem hlt, List.flatMap_append, (List.getElem?_eq_some_iff.1 hy).2]
                  simp
                have hq := mapO_len quo_few y.2.data.toList
                rw [sizeB] at hq
                obtain ⟨E, hE⟩ : ∃ E : ByteArray, E = ⟨(mapO quoO y.2.data.toList).toArray⟩ := ⟨_, rfl⟩
                have hEs : E.size ≤ 6291456 := by rw [hE]; show (mapO quoO y.2.data.toList).length ≤ _; omega
                have HEQ : Hid (∀ W, Calls Tryz.prog 122 #[.string y.2] W fun e w' => e = .returned (.string E) ∧ Below W.heap.size W w') := hide (fun W => by rw [hE]; exact xQuote_any y.2 W hy2)
                have HTK : Hid (L ++ (at'.take (j + 1)).flatMap attrB = L ++ (at'.take j).flatMap attrB ++ ((⟨#[32]⟩ : ByteArray) ++ y.1 ++ (⟨#[61, 34]⟩ : ByteArray) ++ E ++ (⟨#[34]⟩ : ByteArray)).data.toList) := hide (by
                  rw [htk, hE]
                  simp [attrB, ByteArray.data_append])
                have hlj := unhide HLEN j
                have HW2 := hide (fun W h1 h2 => put_any w0.heap.size b (L ++ (at'.take j).flatMap attrB) ((⟨#[32]⟩ : ByteArray) ++ y.1 ++ (⟨#[61, 34]⟩ : ByteArray) ++ E ++ (⟨#[34]⟩ : ByteArray)) W h1 (by
                  rw [List.length_append, ByteArray.size_append, ByteArray.size_append, ByteArray.size_append, ByteArray.size_append]
                  show L.length + _ + (1 + y.1.size + 2 + E.size + 1) ≤ _
                  omega) h2)
                have hbx : Below wr.heap.size wr (wr.alloc (.cells #[.string y.1, .string y.2] 40 (0, 0))) := (Below.refl _ _).alloc (Nat.le_refl _) _
                have hbl0 := hI.bel.size
                have hB0 := Lib.IsBuilderF.below hI.bld hbx
                have hbW := hI.bel.trans (hbx.mono (Nat.le_trans hw0 hbl0))
                have hs0 : w0.heap.size ≤ (wr.alloc (.cells #[.string y.1, .string y.2] 40 (0, 0))).heap.size := Nat.le_trans (Nat.le_trans hw0 hbl0) hbx.size
                have hbk0 := alloc_blk0 wr (.cells #[.string y.1, .string y.2] 40 (0, 0))
                have hblt2 : b ≠ wr.heap.size := by omega
                clear hc hI hcells hy htk hq hE hlj HLEN HBl HBK HW
                have hd0 : (wr.alloc (.cells #[.string y.1, .string y.2] 40 (0, 0))).drew.cell? ⟨wr.heap.size, 0, none⟩ = some (.string y.1) := blk_cell hbk0 0
                have hd1 : (wr.alloc (.cells #[.string y.1, .string y.2] 40 (0, 0))).drew.cell? ⟨wr.heap.size, 1, none⟩ = some (.string y.2) := blk_cell hbk0 1
                have hB0d : IsB w0.heap.size b (Lib.byteCells (L ++ (at'.take j).flatMap attrB)) (wr.alloc (.cells #[.string y.1, .string y.2] 40 (0, 0))).drew := hB0
                have hbk0d : (wr.alloc (.cells #[.string y.1, .string y.2] 40 (0, 0))).drew.heap[wr.heap.size]? = some (.cells #[.string y.1, .string y.2] 40 (0, 0)) := hbk0
                have hbWd : Below w0.heap.size w (wr.alloc (.cells #[.string y.1, .string y.2] 40 (0, 0))).drew := hbW.drew
                have HB0 := hide hB0d
                have HBK0 := hide hbk0d
                clear hB0d hbk0d
                clear hB0 hbk0
                have f1 : (9223372036854775807 < 1 + y.1.size) = False := eq_false (by omega)
                have f2 : (9223372036854775807 < 1 + y.1.size + 2) = False := eq_false (by omega)
                have f3 : (9223372036854775807 < 1 + y.1.size + 2 + E.size) = False := eq_false (by omega)
                have f4 : (9223372036854775807 < 1 + y.1.size + 2 + E.size + 1) = False := eq_false (by omega)
                go_wp2_with fail
                go_region_held3 (fun w' => w'.cell? ⟨wr.heap.size, 0, none⟩ = some (.string y.1) ∧ w'.cell? ⟨wr.heap.size, 1, none⟩ = some (.string y.2))
                  (first | exact ⟨hd0, hd1⟩ | exact hSq | exact hSw | assumption)
                  (first
                    | (go_at_call 122; refine (unhide HEQ _).mono ?_; rintro e wq ⟨rfl, hbq⟩; (have hSq := And.intro (keptC hbq hd0) (keptC hbq hd1)); (have hBq := Lib.IsBuilderF.below (unhide HB0) hbq); (have hKq := block_below (unhide HBK0) hbq))
                    | (go_at_call 69; refine (unhide HW2 _ hBq (Nat.le_trans hs0 hbq.size)).mono ?_; rintro e ww ⟨rfl, hBw, hbw, hkw⟩; (have hKw := hkw _ _ hKq (fun h => hblt2 (by cases h; rfl)) (fun c fz h => by cases h)); (have hSw := And.intro (blk_cell hKw 0) (blk_cell hKw 1))))
                all_goals
                  have HI2 : Hid (AttSt w0 w b L at' (j + 1) ww) := hide ⟨by omega, (hbWd.trans (hbq.mono hs0)).trans hbw, by rw [unhide HTK]; exact hBw⟩
                  clear hBw hbw hkw hKw hSw hSq hBq hKq
                  go_wp2_with fail
                  go_round
                  case measure => simp [intOf]; omega
                  case rel => exact ⟨j + 1, by simp, unhide HI2⟩
              · have n2 : ¬ (j : Int) < (at'.length : Int) := by omega
                have hjl : j = at'.length := by omega
                have hbd := hI.bld
                rw [hjl, List.take_length] at hbd
                have hbI := hI.bel
                have hbl0 := hbI.size
                have HW3 := hide (put_any w0.heap.size b (L ++ at'.flatMap attrB) (⟨#[62]⟩ : ByteArray) wr hbd (by
                  have h1 := unhide HLEN at'.length
                  rw [List.take_length] at h1
                  rw [List.length_append]
                  show _ + 1 ≤ _
                  omega) (Nat.le_trans hw0 hbl0))
                clear hI hbd HLEN HBl HBK HW
                go_wp2_with fail
                refine (unhide HW3).mono ?_
                rintro e w3 ⟨rfl, hB3, hb3, hk3⟩
                go_wp2
                go_end0
                exact ⟨rfl, by rw [unhide HT]; exact hB3, hbI.trans hb3⟩
          · have g2 : (k == 2) = false := by simpa using k2
            have HT : Hid (tokB ⟨k, n, at', x⟩ = []) := hide (by unfold tokB; simp only [if_neg k2, if_neg k7, if_neg k4, if_neg k5, if_neg k6])
            clear k2 k4 k5 k6 k7
            go_enter Tryz.func117, Tryz.ntmps117
            go_wp2
            go_end0
            exact ⟨rfl, by rw [unhide HT, List.append_nil]; exact unhide HBl, hbA0⟩
end Go.Proofs.YtefjfjieoiegnaaGreatDoor
/- Text, comments and instructions as tokens: xmlscan's tellComment, tellInstruction, roomForRun, plain, section. -/
namespace Go.Proofs.YtefjfjieoiegnaaGreatDoor
open Go.RowKit
/-- What always holds of a reader's state. -/
structure Good (s : RS) : Prop where
  fine : Fine s
  n1 : s.toks.length ≤ 4096
  n2 : s.run ≠ [] → s.toks.length < 4096
  okr : okL s.run
  rl : (tx s.run).length ≤ s.place + s.spent
  sp : s.spent ≤ 32768
theorem Good.adv {s : RS} (h : Good s) (n : Nat) : Good (s.adv n) :=
  ⟨h.fine.adv n, h.n1, h.n2, h.okr, by have := h.rl; have e := place_adv s n; show (tx s.run).length ≤ (s.adv n).place + s.spent; omega, h.sp⟩
theorem Good.to {s s' : RS} (h : Good s) (ha : Adv s s') : Good s' := by
  obtain ⟨k, rfl⟩ := ha
  exact h.adv k
theorem Good.flush {s : RS} (h : Good s) : s.flush.toks.length ≤ 4096 := by
  by_cases hr : s.run = []
  · rw [(flush_eq s).1 hr]; exact h.n1
  · rw [(flush_eq s).2 hr]
    have := h.n2 hr
    simp; omega
theorem Good.pos {s : RS} (h : Good s) (hr : s.run ≠ []) : 0 < (tx s.run).length := Nat.pos_of_ne_zero fun h0 => hr (tx_len_zero h.okr h0)
theorem Good.tell {s s' : RS} {t : XTok} {pl : Nat} (h : Good s) (ht : s.tell t pl = .ok s') : Good s' ∧ s'.run = [] ∧ s'.pre = s.pre ∧ s'.rest = s.rest ∧ s'.ents = s.ents ∧ s'.opn = s.opn ∧ s'.spent = s.spent := by
  rw [tell_eq] at ht
  split at ht
  · cases ht
  · rename_i hne
    cases ht
    have hf := h.flush
    by_cases hr : s.run = []
    · have e := (flush_eq s).1 hr
      rw [e] at hne hf ⊢
      refine ⟨⟨⟨h.fine.ok, h.fine.le⟩, ?_, fun hx => absurd hr hx, h.okr, h.rl, h.sp⟩, hr, rfl, rfl, rfl, rfl, rfl⟩
      show (s.toks ++ [t]).length ≤ 4096
      rw [List.length_append, List.length_singleton]
      omega
    · have e := (flush_eq s).2 hr
      rw [e] at hne hf ⊢
      refine ⟨⟨⟨h.fine.ok, h.fine.le⟩, ?_, fun hx => absurd rfl hx, fun c hc => (by cases hc), Nat.zero_le _, h.sp⟩, rfl, rfl, rfl, rfl, rfl, rfl⟩
      show ((s.toks ++ [(⟨4, [], [], s.run⟩ : XTok)]) ++ [t]).length ≤ 4096
      simp at hne hf ⊢
      omega
theorem outP_low {o : Except Er RS} {B p m : Nat} {e : Ending} {w w1 w' : World} (h : Below B w w1) (ho : outP o B p m e w1 w') : outP o B p m e w w' := ⟨h.trans ho.1, ho.2⟩
theorem outP_form {o : Except Er RS} {B p m : Nat} {e : Ending} {w w' : World} (ho : outP o B p m e w w') : ∃ b, e = .returned (.bool b) ∧ outP o B p m (.returned (.bool b)) w w' := by
  obtain ⟨h1, h2⟩ := ho
  cases o with
  | error c => obtain ⟨rfl, h3⟩ := h2; exact ⟨false, rfl, h1, rfl, h3⟩
  | ok s => obtain ⟨rfl, h3⟩ := h2; exact ⟨true, rfl, h1, rfl, h3⟩
theorem rd_size (s : RS) (m : Nat) (vo vt vr : Value) : (rdArr s m vo vt vr).size = 10 := rfl
theorem moved_blk {w w' : World} {B p m k : Nat} {vo vt vr : Value} {s : RS} (R : Rd w B p m vo vt vr s) (hm : Moves p k w w') : ∃ c, w'.heap[p]? = some (.cells c 63 (0, 0)) ∧ c.size = 10 :=
  ⟨_, hm.own R.blk, by simp [rdArr]⟩
set_option maxHeartbeats 1000000 in
theorem tellComment_any (B p m : Nat) (vo vt vr : Value) (s : RS) (w : World) (R : Rd w B p m vo vt vr s) (hG : Good s) (hE : XEnv B w) (hs : s.sees [60, 33, 45, 45] = true) :
    Calls Tryz.prog 58 #[.pointer (some ⟨p, 0, none⟩)] w fun e w' => outP s.tellComment B p m e w w' := by
  have hlow := R.low
  have hlt := R.lt
  have c1 : w.cell? ⟨p, 1, none⟩ = some (.int .i64 (s.place : Nat)) := R.at.pos
  have HD : Hid (s.tellComment = match s.comment with | none => .error (5, s.place) | some (t, s1) => s1.tell ⟨5, [], [], t⟩ s.place) := hide rfl
  go_enter Tryz.func58, Tryz.ntmps58
  go_wp2_with fail
  refine (comment_any B p s _ R.at hG.fine hE hlow hs).mono ?_
  intro e w1 hq
  cases hc : s.comment with
  | none =>
    rw [hc] at hq
    obtain ⟨y, k, rfl, hm⟩ := hq
    obtain ⟨c, hcb, hcs⟩ := moved_blk R hm
    have HEQ : Hid (s.tellComment = .error (5, s.place)) := hide (by rw [unhide HD, hc])
    have hb1 := hm.low hlow (by omega)
    clear hc
    go_wp2_with (go_at_call 63; refine (fail_rd B p 5 s.place _ hcb hcs hlow).mono ?_; rintro e w2 ⟨rfl, hw2, hb2⟩)
    go_ret
    rw [unhide HEQ]
    exact ⟨hb1.trans hb2, rfl, hw2⟩
  | some xs =>
    obtain ⟨x, s1⟩ := xs
    rw [hc] at hq
    obtain ⟨rfl, hm⟩ := hq
    have hA := Adv.comment hc
    have R1 := R.moved hm hA
    have G1 := hG.to hA
    have HEQ : Hid (s.tellComment = s1.tell ⟨5, [], [], x⟩ s.place) := hide (by rw [unhide HD, hc])
    have hb1 := hm.low hlow (by omega)
    have hB1 : B ≤ w1.heap.size := by have := R1.lt; omega
    have HT := hide (tell_any B p m vo vt vr (.slice none 0 0) s1 ⟨5, [], [], x⟩ s.place w1 R1 (World.ownsRow_nil _ _ _ _) G1.flush G1.pos hB1)
    clear hc
    go_wp2_with (go_at_call 99; refine (unhide HT).mono ?_; intro e w2 ho; obtain ⟨b, rfl, ho⟩ := outP_form ho)
    go_ret
    rw [unhide HEQ]
    exact outP_low hb1 ho
set_option maxRecDepth 100000 in
set_option maxHeartbeats 1000000 in
theorem tellInstruction_any (B p m : Nat) (vo vt vr : Value) (s : RS) (w : World) (R : Rd w B p m vo vt vr s) (hG : Good s) (hE : XEnv B w) (hs : s.sees [60, 63] = true) :
    Calls Tryz.prog 59 #[.pointer (some ⟨p, 0, none⟩)] w fun e w' => outP s.tellInstruction B p m e w w' := by
  have hlow := R.low
  have hlt := R.lt
  have c1 : w.cell? ⟨p, 1, none⟩ = some (.int .i64 (s.place : Nat)) := R.at.pos
  have HD : Hid (s.tellInstruction = match s.instruction with | none => .error (5, s.place) | some (n, t, s1) => s1.tell ⟨6, n, [], t⟩ s.place) := hide rfl
  go_enter Tryz.func59, Tryz.ntmps59
  go_wp2_with fail
  refine (instruction_any B p s _ R.at hG.fine hE hlow hs).mono ?_
  intro e w1 hq
  cases hc : s.instruction with
  | none =>
    rw [hc] at hq
    obtain ⟨y, z, k, rfl, hm⟩ := hq
    obtain ⟨c, hcb, hcs⟩ := moved_blk R hm
    have HEQ : Hid (s.tellInstruction = .error (5, s.place)) := hide (by rw [unhide HD, hc])
    have hb1 := hm.low hlow (by omega)
    clear hc
    go_wp2_with (go_at_call 63; refine (fail_rd B p 5 s.place _ hcb hcs hlow).mono ?_; rintro e w2 ⟨rfl, hw2, hb2⟩)
    go_ret
    rw [unhide HEQ]
    exact ⟨hb1.trans hb2, rfl, hw2⟩
  | some xs =>
    obtain ⟨n, x, s1⟩ := xs
    rw [hc] at hq
    obtain ⟨rfl, hm⟩ := hq
    have hA := (Adv.instruction hc).1
    have R1 := R.moved hm hA
    have G1 := hG.to hA
    have HEQ : Hid (s.tellInstruction = s1.tell ⟨6, n, [], x⟩ s.place) := hide (by rw [unhide HD, hc])
    have hb1 := hm.low hlow (by omega)
    have hB1 : B ≤ w1.heap.size := by have := R1.lt; omega
    have HT : Hid (Calls Tryz.prog 99 #[.pointer (some ⟨p, 0, none⟩), .agg #[.int .i64 6, .string (T n), .slice none 0 0, .string (T x)], .int .i64 (s.place : Nat)] w1 fun e w' => outP (s1.tell ⟨6, n, [], x⟩ s.place) B p m e w1 w') := hide (tell_any B p m vo vt vr (.slice none 0 0) s1 ⟨6, n, [], x⟩ s.place w1 R1 (World.ownsRow_nil _ _ _ _) G1.flush G1.pos hB1)
    clear hc
    go_wp2_with (go_at_call 99; refine (unhide HT).mono ?_; intro e w2 ho; obtain ⟨b, rfl, ho⟩ := outP_form ho)
    go_ret
    rw [unhide HEQ]
    exact outP_low hb1 ho
/-- Where the text's row was written, and all else stands. -/
theorem Rd.ran {W w' : World} {B p m : Nat} {vo vt vr v' : Value} {s : RS} {x : List Nat} (R : Rd W B p m vo vt vr s) (hg : W.grownBy w' vr.ownBlock) (hown : w'.ownsRow B 5 1 v' ((tx s.run).length + (T x).size) (byteCells (tx s.run) ++ Lib.strCells (T x))) :
    Rd (w'.setCell ⟨p, 6, none⟩ v') B p m vo vt v' { s with run := s.run ++ x } ∧ w'.heap[p]? = some (.cells (rdArr s m vo vt vr) 63 (0, 0)) := by
  have hvr : vr.ownBlock ≠ some p := owns_not R.run R.blk (by decide)
  have hp : w'.heap[p]? = some (.cells (rdArr s m vo vt vr) 63 (0, 0)) := by
    rw [hg.block p R.lt (fun e => hvr e.symm)]; exact R.blk
  have hk : ∀ k o, W.heap[k]? = some o → ¬ (vr.ownBlock = some k ∨ k = p) → (w'.setCell ⟨p, 6, none⟩ v').heap[k]? = some o := fun k o ho hs => by
    rw [blk_other (fun e => hs (.inr e)), hg.block k (Array.getElem?_eq_some_iff.1 ho).1 (fun e => hs (.inl e.symm))]; exact ho
  have hrow : ∀ {base : Nat} {e : TypeId} {size : Nat} {v : Value} {n : Nat} {xs : List Value}, W.ownsRow base e size v n xs → e ≠ 5 → e ≠ 63 → (w'.setCell ⟨p, 6, none⟩ v').ownsRow base e size v n xs := fun ho e1 e2 =>
    owns_kept ho hk fun k hk' hs => by
      rcases hs with hs | rfl
      · exact owns_apart ho R.run e1 k hk' hs
      · exact owns_not ho R.blk e2 hk'
  refine ⟨⟨?_, R.low, ?_, hrow R.opn (by decide) (by decide), ?_, ?_⟩, hp⟩
  · rw [blk_set hp]; rfl
  · refine R.ents.kept ?_
    obtain ⟨es, clock, hm⟩ := R.ents.map
    rw [hm]
    refine hk m _ hm fun hs => ?_
    rcases hs with e | e
    · obtain ⟨c, hc⟩ := owns_type R.run e
      rw [hm] at hc
      cases hc
    · exact R.ents.ne R.blk e
  · refine R.toks.kept _ hk fun k c hs => ?_
    rcases hs with e | rfl
    · obtain ⟨c', hc⟩ := owns_type R.run e
      rw [hc]
      exact ⟨fun e => (by cases e), fun e => (by cases e)⟩
    · rw [R.blk]
      exact ⟨fun e => (by cases e), fun e => (by cases e)⟩
  · have e1 : byteCells (tx s.run) ++ Lib.strCells (T x) = byteCells (tx (s.run ++ x)) := by
      rw [tx_append, byteCells_append]
      unfold Lib.strCells byteCells
      rw [T_data]
    have e2 : (tx s.run).length + (T x).size = (tx (s.run ++ x)).length := by rw [T_size, tx_len_app]
    rw [e1, e2] at hown
    exact owns_kept (S := (· = p)) hown (fun k o hk hs => by rw [blk_other hs]; exact hk) fun k hk' hs => by
      subst hs
      exact owns_not hown hp (by decide) hk'
set_option maxHeartbeats 1000000 in
theorem room_any (B p m : Nat) (vo vt vr : Value) (s : RS) (w : World) (R : Rd w B p m vo vt vr s) (hrp : s.run ≠ [] → 0 < (tx s.run).length) :
    Calls Tryz.prog 108 #[.pointer (some ⟨p, 0, none⟩)] w fun e w' => outP s.room B p m e w w' := by
  have hlow := R.low
  have HR := hide R
  have HD : Hid (s.room = if s.run ≠ [] ∧ s.toks.length = 4096 then .error (6, s.runAt) else .ok s) := hide rfl
  have HFR := hide (fail_rd B p 6 s.runAt w R.blk rfl hlow)
  obtain ⟨vs, _, hrow, _⟩ := R.toks
  obtain ⟨at', ct, rfl⟩ := owns_slice hrow
  obtain ⟨ar, cr, rfl⟩ := owns_slice R.run
  have c5 : w.cell? ⟨p, 5, none⟩ = some (.slice at' s.toks.length ct) := blk_cell R.blk 5
  have c6 : w.cell? ⟨p, 6, none⟩ = some (.slice ar (tx s.run).length cr) := blk_cell R.blk 6
  have c7 : w.cell? ⟨p, 7, none⟩ = some (.int .i64 (s.runAt : Nat)) := blk_cell R.blk 7
  clear hrow R
  by_cases hr : s.run = []
  · have hz : (tx s.run).length = 0 := by rw [hr]; rfl
    rw [hz] at c6
    have HEQ : Hid (s.room = .ok s) := hide (by rw [unhide HD, if_neg (fun h => h.1 hr)])
    clear hr hz
    go_enter Tryz.func108, Tryz.ntmps108
    go_wp2
    go_ret
    rw [unhide HEQ]
    exact ⟨Below.refl _ _, rfl, _, _, _, unhide HR⟩
  · have hz := hrp hr
    by_cases hf : s.toks.length = 4096
    · have HEQ : Hid (s.room = .error (6, s.runAt)) := hide (by rw [unhide HD, if_pos ⟨hr, hf⟩])
      have hf' : ((s.toks.length : Int) == 4096) = true := by rw [hf]; rfl
      have hz' : 0 < (tx s.run).length := hz
      clear hr hf hz
      go_enter Tryz.func108, Tryz.ntmps108
      go_wp2_with (go_at_call 63; refine (unhide HFR).mono ?_; rintro e w2 ⟨rfl, hw2, hb2⟩)
      go_ret
      rw [unhide HEQ]
      exact ⟨hb2, rfl, hw2⟩
    · have HEQ : Hid (s.room = .ok s) := hide (by rw [unhide HD, if_neg (fun h => hf h.2)])
      have hf' : ((s.toks.length : Int) == 4096) = false := by simpa using (by omega : ¬ (s.toks.length : Int) = 4096)
      have hz' : 0 < (tx s.run).length := hz
      clear hr hf hz
      go_enter Tryz.func108, Tryz.ntmps108
      go_wp2
      go_ret
      rw [unhide HEQ]
      exact ⟨Below.refl _ _, rfl, _, _, _, unhide HR⟩
end Go.Proofs.YtefjfjieoiegnaaGreatDoor
/- Text as it stands, and CDATA: xmlscan's plain and section. -/
namespace Go.Proofs.YtefjfjieoiegnaaGreatDoor
open Go.RowKit
theorem ahead_pre (a l : List Nat) : ahead a l <+: l := by
  unfold ahead
  induction l with
  | nil => exact List.prefix_refl _
  | cons c t ih =>
    rw [cutL]
    split
    · rename_i h
      split at h
      · cases h
      · cases hc : cutL a t with
        | none => exact List.prefix_refl _
        | some x => rw [hc] at h; cases h
    · rename_i x h
      split at h
      · cases h; exact List.nil_prefix
      · cases hc : cutL a t with
        | none => rw [hc] at h; cases h
        | some y =>
          rw [hc] at h ih
          cases h
          exact List.cons_prefix_cons.2 ⟨rfl, ih⟩
theorem cut_ahead (a : List Nat) (u : ByteArray) (hu : u.data.toList = a.map UInt8.ofNat) (ha : ∀ c ∈ a, c < 128) (hne : a ≠ []) (l : List Nat) (hl : okL l) (hs : (T l).size ≤ 32768) (w : World) (hE : Env w) :
    Calls Tryz.prog 141 #[.string (T l), .string u] w fun e w' => (∃ y b, e = .returned (.tuple #[.string (T (ahead a l)), .string y, .bool b])) ∧ Below w.heap.size w w' := by
  refine (cut_T a u hu ha hne l hl hs w hE).mono ?_
  rintro e w' ⟨rfl, hb⟩
  refine ⟨?_, hb⟩
  unfold ahead
  cases cutL a l with
  | none => exact ⟨_, _, rfl⟩
  | some x => exact ⟨_, _, rfl⟩
theorem plainA_pre (l : List Nat) : plainA l <+: l := (ahead_pre _ _).trans ((ahead_pre _ _).trans (ahead_pre _ _))
theorem infoU8 : (Tryz.prog.info? 5).map (fun i => (i.zero, i.size, i.bytes)) = some (some (.int .u8 0), 1, 1) := by kernel_rfl
/-- A text more behind the last token, as far as there is room. -/
theorem Good.ran {s : RS} (h : Good s) {x : List Nat} (hx : okL x) (hl : (tx s.run).length + (T x).size ≤ s.place + s.spent) {s' : RS} (hr : { s with run := s.run ++ x }.room = .ok s') : Good s' ∧ s' = { s with run := s.run ++ x } := by
  unfold RS.room at hr
  split at hr
  · cases hr
  · rename_i hne
    cases hr
    refine ⟨⟨⟨h.fine.ok, h.fine.le⟩, h.n1, fun hx => ?_, okL_app h.okr hx, ?_, h.sp⟩, rfl⟩
    · have := h.n1
      have h2 : ¬ s.toks.length = 4096 := fun e => hne ⟨hx, e⟩
      show s.toks.length < 4096
      omega
    · show (tx (s.run ++ x)).length ≤ s.place + s.spent
      rw [tx_len_app, ← T_size x]; exact hl
set_option maxRecDepth 100000 in
set_option maxHeartbeats 2000000 in
theorem plain_any (B p m : Nat) (vo vt vr : Value) (s : RS) (w : World) (R : Rd w B p m vo vt vr s) (hG : Good s) (hE : XEnv B w) :
    Calls Tryz.prog 109 #[.pointer (some ⟨p, 0, none⟩)] w fun e w' => outP s.plain B p m e w w' := by
  have hlow := R.low
  have hlt := R.lt
  have i0 : ∀ w, (Instr.index 140 (.agg #[.string ⟨#[60]⟩, .string ⟨#[38]⟩, .string ⟨#[93, 93, 62]⟩]) (.int .i64 0)).run Tryz.prog w = .ok (.string ⟨#[60]⟩) w := fun _ => by kernel_rfl
  have i1 : ∀ w, (Instr.index 140 (.agg #[.string ⟨#[60]⟩, .string ⟨#[38]⟩, .string ⟨#[93, 93, 62]⟩]) (.int .i64 1)).run Tryz.prog w = .ok (.string ⟨#[38]⟩) w := fun _ => by kernel_rfl
  have i2 : ∀ w, (Instr.index 140 (.agg #[.string ⟨#[60]⟩, .string ⟨#[38]⟩, .string ⟨#[93, 93, 62]⟩]) (.int .i64 2)).run Tryz.prog w = .ok (.string ⟨#[93, 93, 62]⟩) w := fun _ => by kernel_rfl
  have hok := hG.fine.okR
  have hsz := hG.fine.lt
  have p1 := ahead_pre [60] s.rest
  have p2 := ahead_pre [38] (ahead [60] s.rest)
  have k1 := okL_pre hok p1
  have k2 := okL_pre k1 p2
  have z1 := size_pre p1
  have z2 := size_pre p2
  have z3 := size_pre (plainA_pre s.rest)
  have HPL := hide (place_pre s (plainA_pre s.rest))
  have HG := hide hG
  have hrl := hG.rl
  have hsp := hG.sp
  have hB0 : B ≤ w.heap.size := by omega
  have HD : Hid (s.plain = { s.adv (plainA s.rest).length with run := s.run ++ plainA s.rest }.room) := hide rfl
  have hoP := okL_pre hok (plainA_pre s.rest)
  have H3 : Hid (∀ W : World, Env W → Calls Tryz.prog 141 #[.string (T (ahead [38] (ahead [60] s.rest))), .string ⟨#[93, 93, 62]⟩] W fun e w' => (∃ y b, e = .returned (.tuple #[.string (T (plainA s.rest)), .string y, .bool b])) ∧ Below W.heap.size W w') :=
    hide fun W hW => cut_ahead [93, 93, 62] ⟨#[93, 93, 62]⟩ rfl (by decide) (by simp) _ k2 (by omega) W hW
  obtain ⟨t0, hi, hz0, hz1, hz2⟩ := info_parts infoU8
  generalize plainA s.rest = x at *
  go_enter Tryz.func109, Tryz.ntmps109
  go_wp2_with fail
  refine (rest_any p s _ R.at).mono ?_
  rintro e w1 ⟨rfl, hb1⟩
  go_wp2_with fail
  refine wp_loop_rounds 4 ?_
  rw [rounds_succ]
  go_wp2_with fail
  refine (cut_ahead [60] ⟨#[60]⟩ rfl (by decide) (by simp) s.rest hok (by omega) _ (hE.on hB0 hb1).env).mono ?_
  rintro e w2 ⟨⟨y1, b1, rfl⟩, hb2⟩
  have hbb2 := Below.then hb1 hb2
  go_wp2_with fail
  rw [rounds_succ]
  go_wp2_with fail
  refine (cut_ahead [38] ⟨#[38]⟩ rfl (by decide) (by simp) _ k1 (by omega) _ (hE.on hB0 hbb2).env).mono ?_
  rintro e w3 ⟨⟨y2, b2, rfl⟩, hb3⟩
  have hbb3 := Below.then hbb2 hb3
  go_wp2_with fail
  rw [rounds_succ]
  go_wp2_with fail
  refine (unhide H3 _ (hE.on hB0 hbb3).env).mono ?_
  rintro e w4 ⟨⟨y3, b3, rfl⟩, hb4⟩
  have hbb4 := Below.then hbb3 hb4
  have R4 := R.on hbb4
  have c1 : w4.cell? ⟨p, 1, none⟩ = some (.int .i64 (s.place : Nat)) := R4.at.pos
  have o1 : w4.frozen? ⟨p, 1, none⟩ = false := R4.at.thaw
  have R5 : Rd (w4.setCell ⟨p, 1, none⟩ (.int .i64 ((s.adv x.length).place : Nat))) B p m vo vt vr (s.adv x.length) := R4.moved (Below.refl _ _) (Adv.by _ _)
  have hB5 : Below B w (w4.setCell ⟨p, 1, none⟩ (.int .i64 ((s.adv x.length).place : Nat))) := (hbb4.mono hB0).setCell hlow _
  have hz5 : B ≤ (w4.setCell ⟨p, 1, none⟩ (.int .i64 ((s.adv x.length).place : Nat))).heap.size := by rw [blk_size]; have := R4.lt; omega
  obtain ⟨ar, cr, rfl⟩ := owns_slice R4.run
  have c6 : w4.cell? ⟨p, 6, none⟩ = some (.slice ar (tx s.run).length cr) := blk_cell R4.blk 6
  have o6 : w4.frozen? ⟨p, 6, none⟩ = false := blk_open R4.blk 6
  have HR5 := hide R5
  have HRUN : Hid ((w4.setCell ⟨p, 1, none⟩ (.int .i64 ((s.adv x.length).place : Nat))).ownsRow B 5 1 (.slice ar (tx s.run).length cr) (tx s.run).length (byteCells (tx s.run))) := hide R5.run
  have e1 : ((s.place : Int) + ((T x).size : Int)) = (((s.adv x.length).place : Nat) : Int) := by rw [unhide HPL]; omega
  have hsum : s.place + (T x).size ≤ 32768 := by omega
  have G5 : Good (s.adv x.length) := (unhide HG).adv _
  have hrl5 : (tx s.run).length + (T x).size ≤ (s.adv x.length).place + s.spent := by rw [unhide HPL]; omega
  clear hsz z1 z2 z3 R R4
  go_wp2_with fail
  rw [rounds_succ]
  go_wp2_with (first
    | (at_builtin; (refine Lib.wpList_append_own_string _ rfl _ _ 48 9 rfl B 5 t0 Tryz.underlying48 Tryz.underlying9 hi hz0 hz1 hz2 (.slice ar (tx s.run).length cr) (tx s.run).length (byteCells (tx s.run)) rfl (unhide HRUN) (T x) rfl (by unfold maxLen; omega) (by omega) hz5 ?_); intro v' w' hown hgrow _; obtain ⟨a6, b6, rfl⟩ := owns_slice hown; have hR := Rd.ran (unhide HR5) hgrow hown; have c6' : w'.cell? ⟨p, 6, none⟩ = some (.slice ar (tx s.run).length cr) := blk_cell hR.2 6; have o6' := blk_open hR.2 6; have HRR := hide hR.1; have hB' := Below.grown hB5 hgrow hz5 (owns_ge (unhide HRUN)); clear hR)
    | (go_at_call 108; refine (room_any B p m _ _ _ _ _ (unhide HRR) (fun hne => Nat.pos_of_ne_zero fun h0 => hne (tx_len_zero (okL_app (unhide HG).okr hoP) h0))).mono ?_; intro e w6 ho; obtain ⟨b, rfl, ho⟩ := outP_form ho))
  go_ret
  rw [unhide HD]
  exact outP_low (hB'.setCell hlow _) ho
end Go.Proofs.YtefjfjieoiegnaaGreatDoor
