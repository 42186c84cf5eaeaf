/- Several texts, laid as one. -/
import Derived.Test.YtefjfjieoiegnaaGreatDoorGag
import Derived.Test.YtefjfjieoiegnaaGreatDoorGae
import Derived.Test.YtefjfjieoiegnaaGreatDoorGad
import Derived.Deep.RegionHeld3
/- What the library's functions tell of a text, in terms of its characters: plain lemmas. -/
namespace Go.Proofs.YtefjfjieoiegnaaGreatDoor
open Go.RowKit
theorem runeB_high {c : Nat} (h : okR c) (hc : 128 ≤ c) : ∀ b ∈ runeB c, 128 ≤ b.toNat := by
  unfold okR at h
  by_cases h2 : c < 2048
  · rw [runeB_two hc h2]; intro b hb; simp only [List.mem_cons, List.not_mem_nil, or_false] at hb
    rcases hb with rfl | rfl <;> (rw [u8_nat (by omega)]; omega)
  · by_cases h3 : c < 65536
    · rw [runeB_three (by omega) h3 (by unfold okR; omega)]; intro b hb; simp only [List.mem_cons, List.not_mem_nil, or_false] at hb
      rcases hb with rfl | rfl | rfl <;> (rw [u8_nat (by omega)]; omega)
    · rw [runeB_four (by omega) (by omega)]; intro b hb; simp only [List.mem_cons, List.not_mem_nil, or_false] at hb
      rcases hb with rfl | rfl | rfl | rfl <;> (rw [u8_nat (by omega)]; omega)
def blankN (x : Nat) : Bool := blankB x
theorem idx_T {l : List Nat} (h : okL l) : ∀ (t p : List Nat) (f : Nat), l = p ++ t → (T l).size ≤ (tx p).length + f →
    Lib.idxFuncFrom blankN false (T l) f (tx p).length = if t.dropWhile blankC = [] then -1 else ((tx (p ++ t.takeWhile blankC)).length : Int)
  | [], p, f, e, hf => by rw [Lib.idxFuncFrom_end _ _ _ _ _ (end_at e)]; rfl
  | c :: t, p, f, e, hf => by
    obtain ⟨hd, hlt, hc, hpos⟩ := dec_at e h
    cases f with
    | zero => omega
    | succ f =>
      have ih := idx_T h t (p ++ [c]) f (by rw [e]; simp) (by rw [tx_snoc]; omega)
      rw [tx_snoc] at ih
      rw [Lib.idxFuncFrom, if_pos hlt, hd]
      simp only
      rw [ih]
      have hb : blankN c = blankC c := blankC_eq c
      rw [hb]
      cases hbc : blankC c
      · rw [if_pos rfl, List.dropWhile_cons_of_neg (by rw [hbc]; decide), if_neg (by simp), List.takeWhile_cons_of_neg (by rw [hbc]; decide), List.append_nil]
      · rw [if_neg (by decide), List.dropWhile_cons_of_pos hbc, List.takeWhile_cons_of_pos hbc, List.append_assoc]
        rfl
theorem trim_T {l : List Nat} (h : okL l) : Lib.trimLeftF blankN (T l) = T (l.dropWhile blankC) := by
  have := idx_T h l [] (T l).size rfl (by omega)
  unfold Lib.trimLeftF Lib.idxFunc
  rw [show Lib.idxFuncFrom blankN false (T l) (T l).size 0 = _ from this]
  by_cases hd : l.dropWhile blankC = []
  · rw [if_pos hd, if_pos rfl, hd]; rfl
  · rw [if_neg hd, if_neg (by omega)]
    rw [List.nil_append, Int.toNat_natCast]
    exact suf_at (List.takeWhile_append_dropWhile).symm
theorem isBlank_runes (w : World) : PredAtRunes Tryz.prog 96 #[] blankN w := fun W x _ _ => by
  refine (isBlank_any x W).mono ?_
  rintro e w' ⟨rfl, rfl⟩
  exact ⟨rfl, 0, rfl⟩
theorem isBlank_enters : ∀ args w, (callFunc 96 args).run Tryz.prog w = .ok (.enter 96 args) w := fun _ _ => by kernel_rfl
/-- Equal texts are of equal characters. -/
theorem tx_inj : ∀ {a b : List Nat}, okL a → okL b → tx a = tx b → a = b
  | [], b, _, hb, e => (tx_len_zero hb (by rw [← e]; rfl)).symm
  | x :: a, [], ha, _, e => by have := tx_len_zero ha (by rw [e]; rfl); exact this
  | x :: a, y :: b, ha, hb, e => by
    have h1 := dec_rune x (charR_ok (ha x (by simp))) (tx a)
    have h2 := dec_rune y (charR_ok (hb y (by simp))) (tx b)
    rw [tx_cons, tx_cons] at e
    rw [e, h2] at h1
    have hxy : y = x := congrArg Prod.fst h1
    subst hxy
    rw [tx_inj (okL_tail ha) (okL_tail hb) (List.append_cancel_left e)]
end Go.Proofs.YtefjfjieoiegnaaGreatDoor
/- Texts that are cut at some signs, told over lists of characters: plain lemmas. -/
namespace Go.Proofs.YtefjfjieoiegnaaGreatDoor
open Go.RowKit
theorem asc_toNat {c : Nat} (h : c < 128) : (UInt8.ofNat c).toNat = c := u8_nat (by omega)
theorem sign_len_tx {sign : List Nat} (hs : ∀ c ∈ sign, c < 128) : tx sign = sign.map UInt8.ofNat := by
  induction sign with
  | nil => rfl
  | cons c t ih => rw [tx_cons, runeB_one (hs c (by simp)), ih (fun x hx => hs x (by simp [hx]))]; rfl
end Go.Proofs.YtefjfjieoiegnaaGreatDoor
/- Where a reader of XML stands, in memory: its text and its place. -/
namespace Go.Proofs.YtefjfjieoiegnaaGreatDoor
open Go.RowKit
theorem keptC {w w' : World} {p : Addr} {v : Value} (hb : Below w.heap.size w w') (h : w.cell? p = some v) : w'.cell? p = some v := by
  rw [hb.cell (block_lt_of_cell h)]; exact h
theorem keptO {w w' : World} {p : Addr} {v : Value} (hb : Below w.heap.size w w') (h : w.cell? p = some v) (o : w.frozen? p = false) : w'.frozen? p = false := by
  rw [hb.frozen (block_lt_of_cell h)]; exact o
theorem blk_cell {w : World} {p : Nat} {c : Array Value} {t : TypeId} {z : Nat × Nat} (h : w.heap[p]? = some (.cells c t z)) (i : Nat) : w.cell? ⟨p, i, none⟩ = c[i]? := by simp [World.cell?, h]
theorem blk_open {w : World} {p : Nat} {c : Array Value} {t : TypeId} (h : w.heap[p]? = some (.cells c t (0, 0))) (i : Nat) : w.frozen? ⟨p, i, none⟩ = false := by simp [World.frozen?, h]
theorem blk_set {w : World} {p : Nat} {c : Array Value} {t : TypeId} {z : Nat × Nat} (h : w.heap[p]? = some (.cells c t z)) (i : Nat) (v : Value) :
    (w.setCell ⟨p, i, none⟩ v).heap[p]? = some (.cells (c.setIfInBounds i v) t z) := by simp [World.setCell, Array.getElem?_modify, h]
theorem blk_other {w : World} {p k : Nat} (h : k ≠ p) (i : Nat) (v : Value) : (w.setCell ⟨p, i, none⟩ v).heap[k]? = w.heap[k]? := by
  simp [World.setCell, Array.getElem?_modify, Ne.symm h]
theorem blk_size (w : World) (a : Addr) (v : Value) : (w.setCell a v).heap.size = w.heap.size := by simp [World.setCell]
theorem cell_blk {w : World} {p i : Nat} {v : Value} (h : w.cell? ⟨p, i, none⟩ = some v) : ∃ c t z, w.heap[p]? = some (.cells c t z) ∧ c[i]? = some v := by
  unfold World.cell? at h
  split at h
  · rename_i c t z hc
    exact ⟨c, t, z, hc, by simpa using h⟩
  · cases h
/-- A cell that is written with what it holds. -/
theorem set_same {w : World} {p i : Nat} {v : Value} (h : w.cell? ⟨p, i, none⟩ = some v) (k : Nat) : (w.setCell ⟨p, i, none⟩ v).heap[k]? = w.heap[k]? := by
  by_cases hk : k = p
  · subst hk
    obtain ⟨c, t, z, hc, hv⟩ := cell_blk h
    rw [blk_set hc, hc]
    congr 2
    apply Array.ext_getElem?
    intro j
    rw [Array.getElem?_setIfInBounds]
    split
    · rename_i hj; subst hj; rw [hv]; simp [(Array.getElem?_eq_some_iff.1 hv).1]
    · rfl
  · exact blk_other hk i v
theorem set_twice (w : World) (p i : Nat) (u v : Value) (k : Nat) : ((w.setCell ⟨p, i, none⟩ u).setCell ⟨p, i, none⟩ v).heap[k]? = (w.setCell ⟨p, i, none⟩ v).heap[k]? := by
  by_cases hk : k = p
  · subst hk
    cases h : w.heap[k]? with
    | none => simp [World.setCell, Array.getElem?_modify, h]
    | some o =>
      cases o <;> simp [World.setCell, Array.getElem?_modify, h]
  · rw [blk_other hk, blk_other hk, blk_other hk]
/-- The world is the old one, but for the place of the reader p, and new blocks. -/
def Moves (p n : Nat) (w w' : World) : Prop := Below w.heap.size (w.setCell ⟨p, 1, none⟩ (.int .i64 (n : Nat))) w'
/-- A reader's text, and its place in it. -/
structure AtR (w : World) (p : Nat) (pre rest : List Nat) : Prop where
  txt : w.cell? ⟨p, 0, none⟩ = some (.string (T (pre ++ rest)))
  pos : w.cell? ⟨p, 1, none⟩ = some (.int .i64 ((tx pre).length : Nat))
  thaw : w.frozen? ⟨p, 1, none⟩ = false
theorem Moves.below {p n : Nat} {w w' : World} (h : Moves p n w w') : Below (w.setCell ⟨p, 1, none⟩ (.int .i64 (n : Nat))).heap.size (w.setCell ⟨p, 1, none⟩ (.int .i64 (n : Nat))) w' := by
  rw [blk_size]; exact h
theorem Moves.size {p n : Nat} {w w' : World} (h : Moves p n w w') : w.heap.size ≤ w'.heap.size := by
  have := Below.size h
  rwa [blk_size] at this
theorem Moves.block {p n : Nat} {w w' : World} (h : Moves p n w w') {k : Nat} (hk : k < w.heap.size) (hp : k ≠ p) : w'.heap[k]? = w.heap[k]? := by
  rw [Below.block h k hk, blk_other hp]
theorem Moves.own {p n : Nat} {w w' : World} (h : Moves p n w w') {c : Array Value} {t : TypeId} {z : Nat × Nat} (hp : w.heap[p]? = some (.cells c t z)) : w'.heap[p]? = some (.cells (c.setIfInBounds 1 (.int .i64 (n : Nat))) t z) := by
  rw [Below.block h p (Array.getElem?_eq_some_iff.1 hp).1, blk_set hp]
theorem Moves.low {p n B : Nat} {w w' : World} (h : Moves p n w w') (hp : B ≤ p) (hB : B ≤ w.heap.size) : Below B w w' :=
  Below.trans ((Below.refl B w).setCell (p := ⟨p, 1, none⟩) hp _) (Below.mono h hB)
theorem AtR.stay {w w' : World} {p : Nat} {pre rest : List Nat} (h : AtR w p pre rest) (hb : Below w.heap.size w w') : Moves p (tx pre).length w w' :=
  ⟨hb.os, hb.tape, hb.output, by rw [blk_size]; exact hb.size, fun k hk => by rw [hb.block k hk, set_same h.pos]⟩
theorem Moves.then {p n k : Nat} {a b c : World} (h : Moves p n a b) (g : Moves p k b c) : Moves p k a c := by
  refine ⟨g.os.trans h.os, g.tape.trans h.tape, g.output.trans h.output, by rw [blk_size]; exact Nat.le_trans h.size g.size, fun j hj => ?_⟩
  rw [Below.block g j (Nat.lt_of_lt_of_le hj h.size)]
  by_cases hp : j = p
  · subst hp
    have e := Below.block h j hj
    rw [← set_twice a j 1 (.int .i64 (n : Nat)) (.int .i64 (k : Nat)) j]
    unfold World.setCell at e ⊢
    simp only [Array.getElem?_modify, if_true] at e ⊢
    rw [e]
  · rw [blk_other hp, blk_other hp, h.block hj hp]
theorem AtR.moved {w w' : World} {p : Nat} {pre rest pre' rest' : List Nat} (h : AtR w p pre rest) (hm : Moves p (tx pre').length w w') (e : pre' ++ rest' = pre ++ rest) : AtR w' p pre' rest' := by
  obtain ⟨c, t, z, hc, h1⟩ := cell_blk h.pos
  have h0 := h.txt
  have hf := h.thaw
  rw [blk_cell hc] at h0
  have hw := hm.own hc
  have hs : 1 < c.size := (Array.getElem?_eq_some_iff.1 h1).1
  refine ⟨?_, ?_, ?_⟩
  · rw [blk_cell hw, Array.getElem?_setIfInBounds_ne (by decide), h0, e]
  · rw [blk_cell hw, Array.getElem?_setIfInBounds_self_of_lt hs]
  · unfold World.frozen? at hf ⊢
    rw [hc] at hf
    rw [hw]
    exact hf
theorem AtR.keep {w w' : World} {p : Nat} {pre rest : List Nat} (h : AtR w p pre rest) (hb : Below w.heap.size w w') : AtR w' p pre rest := h.moved (h.stay hb) rfl
theorem AtR.lt {w : World} {p : Nat} {pre rest : List Nat} (h : AtR w p pre rest) : p < w.heap.size := block_lt_of_cell h.pos
/-- Behind a store into the place itself. -/
theorem AtR.put {w : World} {p : Nat} {pre rest pre' : List Nat} {n : Nat} (_ : AtR w p pre rest) (e : n = (tx pre').length) : Moves p (tx pre').length w (w.setCell ⟨p, 1, none⟩ (.int .i64 (n : Nat))) := by
  subst e
  exact Below.refl _ _
end Go.Proofs.YtefjfjieoiegnaaGreatDoor
/- The name, the string, the variable, the word that a text begins with, and which word is what: xplex's functions. -/
namespace Go.Proofs.YtefjfjieoiegnaaGreatDoor
open Go.RowKit
end Go.Proofs.YtefjfjieoiegnaaGreatDoor
/- The reference's IsName and Split give what the program's give. -/
namespace Go.Proofs.YtefjfjieoiegnaaGreatDoor
open Go.RowKit
theorem refBegins_at (r : Nat) (hr : r ≤ 2147483647) (w : World) :
    Calls Tryz.prog 86 #[.int .i32 r] w fun e w' => e = .returned (.bool (beginB r)) ∧ Below w.heap.size w w' := by
  rw [beginB_eq r (by omega)]; exact refBegins_any r w
theorem refGoesOn_at (r : Nat) (hr : r ≤ 2147483647) (w : World) :
    Calls Tryz.prog 87 #[.int .i32 r] w fun e w' => e = .returned (.bool (goesB r)) ∧ Below w.heap.size w w' := by
  rw [goesB_eq r (by omega)]; exact refGoesOn_any r w
set_option maxHeartbeats 1000000 in
theorem refIsName_any (s : ByteArray) (w : World) (hs : s.size ≤ 4294967280) (hE : Env w) :
    Calls Tryz.prog 48 #[.string s] w fun e w' => e = .returned (.bool (nameB s)) ∧ Below w.heap.size w w' := by
  have HE := hide hE
  clear hE
  have HN := hide (nameB_eq s)
  cases ht : textR s
  · have HT := hide ht
    clear ht
    go_enter Tryz.func48, Tryz.ntmps48
    go_wp2_with fail
    refine (refIsText_any s _ hs (unhide HE)).mono ?_
    rintro e w' ⟨rfl, hb⟩
    rw [unhide HT]
    go_wp2
    go_ret
    exact ⟨ret_bool (by rw [unhide HN, unhide HT]; rfl), hb⟩
  · have HT := hide ht
    clear ht
    by_cases h0 : s.toList = []
    · go_enter Tryz.func48, Tryz.ntmps48
      go_wp2_with fail
      refine (refIsText_any s _ hs (unhide HE)).mono ?_
      rintro e w' ⟨rfl, hb⟩
      rw [unhide HT]
      go_wp2
      go_ret
      have e0 : s.data.toList.isEmpty = true := by rw [← toList_data, h0]; rfl
      exact ⟨ret_bool (by rw [unhide HN, unhide HT, e0]; rfl), hb⟩
    · have h0' : s.toList.isEmpty = false := by cases h : s.toList with | nil => exact absurd h h0 | cons _ _ => rfl
      go_enter Tryz.func48, Tryz.ntmps48
      go_wp2_with fail
      refine (refIsText_any s _ hs (unhide HE)).mono ?_
      rintro e w' ⟨rfl, hb⟩
      rw [unhide HT]
      go_wp2_with fail
      go_loopw [3] (fun i wr => ∃ (pos f : Nat), i = .int .i64 pos ∧ pos ≤ s.size ∧ Below w'.heap.size w' wr ∧ nameFrom s (s.size + 1) 0 = nameFrom s f pos ∧ s.size < pos + f) (fun i wr => s.size - (intOf i).toNat)
      case atStart => exact ⟨0, s.size + 1, rfl, Nat.zero_le _, Below.refl _ _, rfl, by omega⟩
      case round =>
        obtain ⟨pos, f, rfl, hps, hbr, hf, hfu⟩ := hrel
        by_cases hp : pos < s.size
        · have hwd := width_pos s pos hp
          have hdl := decode_le s pos
          obtain ⟨_, _, hwe⟩ := decode_bytes s pos hp
          obtain ⟨g, rfl, hg⟩ := nameFrom_step s f pos hp hfu
          have HF := hide (hf.trans hg)
          clear hf hg
          go_wp2_with fail
          refine (decodeRune_at s pos _ hp (((unhide HE).below hb).below hbr)).mono ?_
          rintro e w1 ⟨rfl, hb1⟩
          generalize hd : Utf8.decode s pos = d at *
          clear hd
          by_cases hz : pos = 0
          · subst hz
            go_wp2_with (first | (go_at_call 86; refine (refBegins_at _ hdl _).mono ?_; rintro e w2 ⟨rfl, hb2⟩) | (go_at_call 87; refine (refGoesOn_at _ hdl _).mono ?_; rintro e w3 ⟨rfl, hb3⟩))
            all_goals first
              | (go_ret
                 refine ⟨ret_bool ?_, Below.then hb (Below.then hbr (Below.then hb1 (by first | exact Below.then hb2 hb3 | exact hb2 | exact hb3)))⟩
                 have key : nameFrom s (s.size + 1) 0 = false := by rw [unhide HF]; simp [*]
                 simp [nameB, key])
              | (exact ⟨⟨0 + d.2, g, by go_num, hwe, Below.then hbr (Below.then hb1 (by first | exact Below.then hb2 hb3 | exact hb2 | exact hb3)), by rw [unhide HF]; simp_all, by omega⟩, by simp [intOf]; omega⟩)
          · have hz' : ((pos : Int) == 0) = false := by simpa using hz
            go_wp2_with (first | (go_at_call 86; refine (refBegins_at _ hdl _).mono ?_; rintro e w2 ⟨rfl, hb2⟩) | (go_at_call 87; refine (refGoesOn_at _ hdl _).mono ?_; rintro e w3 ⟨rfl, hb3⟩))
            all_goals first
              | (go_ret
                 refine ⟨ret_bool ?_, Below.then hb (Below.then hbr (Below.then hb1 (by first | exact Below.then hb2 hb3 | exact hb2 | exact hb3)))⟩
                 have key : nameFrom s (s.size + 1) 0 = false := by rw [unhide HF]; simp [*]
                 simp [nameB, key])
              | (exact ⟨⟨pos + d.2, g, by go_num, hwe, Below.then hbr (Below.then hb1 (by first | exact Below.then hb2 hb3 | exact hb2 | exact hb3)), by rw [unhide HF]; simp_all, by omega⟩, by simp [intOf]; omega⟩)
        · have HF := hide (hf.trans (nameFrom_end s f pos hp))
          clear hf
          go_wp2
          go_ret
          refine ⟨ret_bool ?_, Below.then hb hbr⟩
          have e0 : s.data.toList.isEmpty = false := by rw [← toList_data]; exact h0'
          rw [unhide HN, unhide HT, unhide HF, e0]; rfl
theorem splitV_at (s : ByteArray) (k : Nat) (hk : k < s.size) (hc : (s.get! k).toNat = 58) (hno : ∀ j, j < k → (s.get! j).toNat ≠ 58) :
    splitP s.data.toList = s.data.toList.take k ∧ splitN s.data.toList = s.data.toList.drop (k + 1) ∧ splitB s.data.toList = (nameB ⟨(s.data.toList.take k).toArray⟩ && nameB ⟨(s.data.toList.drop (k + 1)).toArray⟩) := by
  have hl : s.data.toList.length = s.size := rfl
  have h58 : s.data.toList[k]'hk = 58 := by
    rw [get_data s k hk] at hc
    exact UInt8.toNat_inj.1 (show _ = (58 : UInt8).toNat from hc)
  have hn : 58 ∉ s.data.toList.take k := by
    intro hm
    obtain ⟨j, hj, he⟩ := List.getElem_of_mem hm
    rw [List.length_take] at hj
    have := hno j (by omega)
    rw [get_data s j (by omega)] at this
    rw [List.getElem_take] at he
    rw [he] at this
    exact this rfl
  have e : s.data.toList = s.data.toList.take k ++ 58 :: s.data.toList.drop (k + 1) := by
    conv => lhs; rw [← List.take_append_drop k s.data.toList]
    rw [List.drop_eq_getElem_cons (by omega), h58]
  have c := cut_first (s.data.toList.take k) (s.data.toList.drop (k + 1)) 58 hn
  rw [← e] at c
  unfold splitB splitP splitN
  rw [c]
  simp
theorem splitV_none (s : ByteArray) (hno : ∀ j, j < s.size → (s.get! j).toNat ≠ 58) : splitP s.data.toList = [] ∧ splitN s.data.toList = s.data.toList ∧ splitB s.data.toList = nameB s := by
  have hl : s.data.toList.length = s.size := rfl
  have hn : 58 ∉ s.data.toList := by
    intro hm
    obtain ⟨j, hj, he⟩ := List.getElem_of_mem hm
    have := hno j hj
    rw [get_data s j hj, he] at this
    exact this rfl
  have hi : ∀ l : List UInt8, 58 ∉ l → Lib.indexByte l 58 = -1 := by
    intro l
    induction l with
    | nil => intro _; rfl
    | cons x l ih =>
      intro h
      have hx : ¬ (x == 58) = true := fun e => h (by rw [beq_iff_eq.1 e]; simp)
      have := ih (fun hm => h (List.mem_cons_of_mem _ hm))
      simp only [Lib.indexByte, hx, this]
      simp
  have c : Lib.cut s.data.toList [58] = (s.data.toList, [], false) := by
    unfold Lib.cut
    rw [Lib.index_one, hi _ hn, if_neg (by decide)]
  unfold splitB splitP splitN
  rw [c]
  simp
theorem take_extract (s : ByteArray) (k : Nat) : (⟨(s.data.toList.take k).toArray⟩ : ByteArray) = s.extract 0 k := by
  apply ByteArray.ext
  rw [ByteArray.data_extract]
  apply Array.ext'
  simp
theorem drop_extract (s : ByteArray) (k : Nat) : (⟨(s.data.toList.drop k).toArray⟩ : ByteArray) = s.extract k s.size := by
  apply ByteArray.ext
  rw [ByteArray.data_extract]
  apply Array.ext'
  simp [List.take_of_length_le]
set_option maxHeartbeats 1000000 in
theorem refSplit_any (s : ByteArray) (w : World) (hs : s.size ≤ 4294967280) (hE : Env w) :
    Calls Tryz.prog 85 #[.string s] w fun e w' => e = .returned (splitV s.data.toList) ∧ Below w.heap.size w w' := by
  have HE := hide hE
  clear hE
  go_enter Tryz.func85, Tryz.ntmps85
  go_wp2_with fail
  go_loop [5] (fun i => ∃ k : Nat, k ≤ s.size ∧ i = .int .i64 k ∧ ∀ j, j < k → (s.get! j).toNat ≠ 58) (fun i => s.size - (intOf i).toNat)
  case atStart => exact ⟨0, Nat.zero_le _, rfl, fun j hj => by omega⟩
  case round =>
    obtain ⟨k, hk, rfl, hno⟩ := hrel
    by_cases hlt : k < s.size
    · have hg : s.get! k = s[k] := by rw [get_data s k hlt]; rfl
      by_cases hc : (s.get! k).toNat = 58
      · obtain ⟨hsp, hsn, hsb⟩ := splitV_at s k hlt hc hno
        have HP := hide hsp
        have HN := hide hsn
        have HB := hide hsb
        clear hsp hsn hsb hno
        have hc' : ((s[k].toNat : Int) == 58) = true := by rw [← hg, hc]; rfl
        have hlt' : (k : Int) < s.size := by omega
        clear hg hc
        have z1 : (s.extract 0 k).size ≤ 4294967280 := by rw [ByteArray.size_extract]; omega
        have z2 : (s.extract (k + 1) s.size).size ≤ 4294967280 := by rw [ByteArray.size_extract]; omega
        go_wp2_with fail
        refine (refIsName_any (s.extract 0 k) _ z1 (unhide HE)).mono ?_
        rintro e w1 ⟨rfl, hb1⟩
        cases hn : nameB (s.extract 0 k)
        · have HN1 := hide hn
          clear hn
          go_wp2
          go_ret3
          exact ⟨splitV_no (by rw [unhide HB, take_extract, unhide HN1]; rfl), hb1⟩
        · have HN1 := hide hn
          clear hn
          go_wp2_with fail
          refine (refIsName_any (s.extract (k + 1) s.size) _ z2 ((unhide HE).below hb1)).mono ?_
          rintro e w2 ⟨rfl, hb2⟩
          cases hn : nameB (s.extract (k + 1) s.size)
          · have HN2 := hide hn
            clear hn
            go_wp2
            go_ret3
            exact ⟨splitV_no (by rw [unhide HB, take_extract, drop_extract, unhide HN1, unhide HN2]; rfl), Below.then hb1 hb2⟩
          · have HN2 := hide hn
            clear hn
            go_wp2
            go_region
            go_wp2
            go_ret3
            refine ⟨?_, by first | exact (Below.then hb1 hb2).drew | exact Below.then (Below.then hb1 hb2) (below_drewN _ _)⟩
            rw [← splitV_of (unhide HP) (unhide HN) (by rw [unhide HB, take_extract, drop_extract, unhide HN1, unhide HN2]; rfl), take_extract, drop_extract]
            rfl
      · have hc' : ((s[k].toNat : Int) == 58) = false := by rw [← hg]; simp; omega
        have HNO := hide hno
        clear hno
        go_wp2
        go_round
        case rel =>
          refine ⟨k + 1, by omega, by go_num, fun j hj => ?_⟩
          rcases Nat.lt_or_ge j k with h | h
          · exact unhide HNO j h
          · rw [show j = k by omega]; exact hc
        case measure => simp [intOf]; omega
    · have hno' := splitV_none s (fun j hj => hno j (by omega))
      obtain ⟨hsp, hsn, hsb⟩ := hno'
      have HP := hide hsp
      have HN := hide hsn
      have HB := hide hsb
      clear hsp hsn hsb hno
      go_wp2_with fail
      refine (refIsName_any s _ hs (unhide HE)).mono ?_
      rintro e w1 ⟨rfl, hb1⟩
      cases hn : nameB s
      · have HN1 := hide hn
        clear hn
        go_wp2
        go_ret3
        exact ⟨splitV_no (by rw [unhide HB]; exact unhide HN1), hb1⟩
      · have HN1 := hide hn
        clear hn
        go_wp2
        go_ret3
        refine ⟨?_, hb1⟩
        rw [← splitV_of (unhide HP) (unhide HN) (by rw [unhide HB]; exact unhide HN1), mk_data]
        rfl
theorem splitV_cases (l : List UInt8) : ∃ p n : ByteArray, splitV l = .tuple #[.string p, .string n, .bool (splitB l)] := by
  unfold splitV
  cases h : splitB l
  · exact ⟨_, _, rfl⟩
  · exact ⟨_, _, rfl⟩
theorem refIsText_same (s : ByteArray) (w : World) (hs : s.size ≤ 4294967280) (hE : Env w) :
    Calls Tryz.prog 45 #[.string s] w fun e w' => e = .returned (.bool (textB s)) ∧ Below w.heap.size w w' := by
  rw [textB_eq]; exact refIsText_any s w hs hE
end Go.Proofs.YtefjfjieoiegnaaGreatDoor
/- The string, the word that a text begins with, and which word is what: xplex's functions. -/
namespace Go.Proofs.YtefjfjieoiegnaaGreatDoor
open Go.RowKit
end Go.Proofs.YtefjfjieoiegnaaGreatDoor
/- A reader's small steps: what it sees, takes, passes by: xmlscan's rest, sees, take, takeTo, blanks, name. -/
namespace Go.Proofs.YtefjfjieoiegnaaGreatDoor
open Go.RowKit
abbrev AtS (w : World) (p : Nat) (s : RS) : Prop := AtR w p s.pre s.rest
/-- A reader of a text of characters that may be, that is not too long. -/
structure Fine (s : RS) : Prop where
  ok : okL (s.pre ++ s.rest)
  le : (T (s.pre ++ s.rest)).size ≤ 32768
theorem adv_whole (s : RS) (n : Nat) : (s.adv n).pre ++ (s.adv n).rest = s.pre ++ s.rest := by
  unfold RS.adv
  simp only
  rw [List.append_assoc, List.take_append_drop]
theorem Fine.adv {s : RS} (h : Fine s) (n : Nat) : Fine (s.adv n) := ⟨by rw [adv_whole]; exact h.ok, by rw [adv_whole]; exact h.le⟩
theorem Fine.okR {s : RS} (h : Fine s) : okL s.rest := okL_right h.ok
theorem Fine.sum {s : RS} (_ : Fine s) : s.place + (T s.rest).size = (T (s.pre ++ s.rest)).size := by
  unfold RS.place
  rw [T_size, T_size, tx_len_app]
theorem Fine.lt {s : RS} (h : Fine s) : s.place + (T s.rest).size ≤ 32768 := by rw [h.sum]; exact h.le
theorem place_adv (s : RS) (n : Nat) : (s.adv n).place = s.place + (T (s.rest.take n)).size := by
  unfold RS.place RS.adv
  simp only
  rw [tx_len_app, T_size]
theorem AtR.to {w w' : World} {p : Nat} {s : RS} {n : Nat} (h : AtS w p s) (hm : Moves p (s.adv n).place w w') : AtS w' p (s.adv n) := h.moved hm (adv_whole s n)
end Go.Proofs.YtefjfjieoiegnaaGreatDoor
/- A reader's small steps, more: xmlscan's takeTo, blanks, nameAhead, name, qname. -/
namespace Go.Proofs.YtefjfjieoiegnaaGreatDoor
open Go.RowKit
end Go.Proofs.YtefjfjieoiegnaaGreatDoor
