/- Several texts, laid as one. -/
import Derived.Test.YtiembljlhmgpjaaGreatDoorGac
import Derived.ArgAppend
import Derived.Laws.ComplexArith
import Derived.Lib.SlBytesConst
/- Rows of bytes that a call owns: what stays, what they are as a text. -/
namespace Go.Proofs.YtiembljlhmgpjaaGreatDoor
open Go.RowKit
theorem owns_below {w w' : World} {base : Nat} {e : TypeId} {size : Nat} {v : Value} {n : Nat} {xs : List Value} (h : w.ownsRow base e size v n xs) (hb : Below w.heap.size w w') : w'.ownsRow base e size v n xs := by
  refine ⟨h.1, ?_⟩
  rcases h.2 with h | ⟨g, cap, cur, h1, h2, h3, h4⟩
  · exact .inl h
  · exact .inr ⟨g, cap, cur, h1, h2, block_below h3 hb, h4⟩
theorem owns_ge {w : World} {base : Nat} {e : TypeId} {size : Nat} {v : Value} {n : Nat} {xs : List Value} (h : w.ownsRow base e size v n xs) : ∀ k, v.ownBlock = some k → base ≤ k := by
  intro k hk
  rcases h.2 with ⟨rfl, _⟩ | ⟨g, cap, cur, rfl, h2, _⟩
  · simp [Value.ownBlock] at hk
  · simp [Value.ownBlock] at hk; omega
theorem owns_slice {w : World} {base : Nat} {e : TypeId} {size : Nat} {v : Value} {n : Nat} {xs : List Value} (h : w.ownsRow base e size v n xs) : ∃ a c, v = .slice a n c := by
  rcases h.2 with ⟨rfl, h0⟩ | ⟨g, cap, cur, rfl, _⟩
  · exact ⟨none, 0, by rw [h0]⟩
  · exact ⟨_, _, rfl⟩
def byteCells (l : List UInt8) : List Value := l.map fun c => Value.int .u8 (c.toNat : Int)
theorem byteCells_append (l m : List UInt8) : byteCells (l ++ m) = byteCells l ++ byteCells m := by simp [byteCells]
theorem conv_owned {w : World} {base : Nat} {v : Value} {l : List UInt8} (h : w.ownsRow base 5 1 v l.length (byteCells l)) :
    (convert 31 9 v).run Tryz.prog w = .ok (.string ⟨l.toArray⟩) w := by
  rcases h.2 with ⟨rfl, h0⟩ | ⟨g, cap, cur, rfl, _⟩
  · rw [run_convert_bytes_nil _ 31 5 Tryz.underlying31 Tryz.underlying5 _ _ _ Tryz.underlying9]
    have : l = [] := List.length_eq_zero_iff.1 h0
    subst this
    rfl
  · refine (run_convert_bytes_arg _ 31 5 Tryz.underlying31 Tryz.underlying5 g 0 l.length cap (l.map fun c => (c.toNat : Int)) (by simp) ?_ 9 Tryz.underlying9).trans ?_
    · intro i hi
      rw [Nat.zero_add, h.cellAt i (by omega)]
      simp [byteCells, hi]
    · congr 2
      unfold strOfNums
      congr 2
      rw [List.map_map]
      have : ((fun n : Int => UInt8.ofNat n.toNat) ∘ fun c : UInt8 => (c.toNat : Int)) = id := by
        funext c
        simp
      rw [this, List.map_id]
end Go.Proofs.YtiembljlhmgpjaaGreatDoor
/- Rows of bytes that a call owns or has made of a constant: two bytes more. -/
namespace Go.Proofs.YtiembljlhmgpjaaGreatDoor
open Go.RowKit
/-- A slice of bytes of the call's own: a row of its own, or a full one made of a constant. -/
def RowB (w : World) (base : Nat) (v : Value) (l : List UInt8) : Prop :=
  w.ownsRow base 5 1 v l.length (byteCells l) ∨ ∃ g fz, v = .slice (some ⟨g, 0, none⟩) l.length l.length ∧ base ≤ g ∧ l ≠ [] ∧ w.heap[g]? = some (.cells (byteCells l).toArray 5 fz)
/-- Every block but one stands. -/
def Kept (w w' : World) (row : Option Nat) : Prop := ∀ k o, w.heap[k]? = some o → some k ≠ row → w'.heap[k]? = some o
theorem kept_grown {w w' : World} {o : Obj} {row : Option Nat} (h : (w.alloc o).grownBy w' row) : Kept w w' row := fun k x hk hr => by
  have hlt := (Array.getElem?_eq_some_iff.1 hk).1
  rw [h.block k (by simp; omega) hr, Lib.alloc_old w o k hlt]; exact hk
theorem kept_none {w w' : World} {o : Obj} (h : (w.alloc o).grownBy w' none) (row : Option Nat) : Kept w w' row := fun k x hk _ => kept_grown h k x hk (by simp)
theorem row_block {w : World} {base : Nat} {v : Value} {l : List UInt8} (h : RowB w base v l) : ∀ k, v.ownBlock = some k → base ≤ k ∧ ∃ c fz, w.heap[k]? = some (.cells c 5 fz) := by
  intro k hk
  rcases h with h | ⟨g, fz, rfl, hb, _, hg⟩
  · rcases h.2 with ⟨rfl, _⟩ | ⟨g, cap, cur, rfl, h2, h3, _⟩
    · simp [Value.ownBlock] at hk
    · simp [Value.ownBlock] at hk; subst hk; exact ⟨h2, _, _, h3⟩
  · simp [Value.ownBlock] at hk; subst hk; exact ⟨hb, _, _, hg⟩
theorem row_slice {w : World} {base : Nat} {v : Value} {l : List UInt8} (h : RowB w base v l) : ∃ a c, v = .slice a l.length c := by
  rcases h with h | ⟨g, fz, rfl, _⟩
  · exact owns_slice h
  · exact ⟨_, _, rfl⟩
theorem cells_full {w : World} {g : Nat} {l : List UInt8} {fz : Nat × Nat} (h : w.heap[g]? = some (.cells (byteCells l).toArray 5 fz)) (j : Nat) : w.cell? ⟨g, j, none⟩ = (byteCells l)[j]? := by
  rw [cell_of_row w g j _ _ _ h]; simp
theorem conv_row {w : World} {base : Nat} {v : Value} {l : List UInt8} (h : RowB w base v l) : (convert 31 9 v).run Tryz.prog w = .ok (.string ⟨l.toArray⟩) w := by
  rcases h with h | ⟨g, fz, rfl, _, _, hg⟩
  · exact conv_owned h
  · refine (run_convert_bytes_arg _ 31 5 Tryz.underlying31 Tryz.underlying5 g 0 l.length l.length (l.map fun c => (c.toNat : Int)) (by simp) ?_ 9 Tryz.underlying9).trans ?_
    · intro i hi
      rw [Nat.zero_add, cells_full hg]
      simp [byteCells, hi]
    · congr 2
      unfold strOfNums
      congr 2
      rw [List.map_map]
      have : ((fun n : Int => UInt8.ofNat n.toNat) ∘ fun c : UInt8 => (c.toNat : Int)) = id := by
        funext c
        simp
      rw [this, List.map_id]
theorem row_below {w w' : World} {base : Nat} {v : Value} {l : List UInt8} (h : RowB w base v l) (hk : Kept w w' none) : RowB w' base v l := by
  rcases h with h | ⟨g, fz, h1, h2, h3, hg⟩
  · refine .inl ⟨h.1, ?_⟩
    rcases h.2 with h | ⟨g, cap, cur, h1, h2, h3, h4⟩
    · exact .inl h
    · exact .inr ⟨g, cap, cur, h1, h2, hk g _ h3 (by simp), h4⟩
  · exact .inr ⟨g, fz, h1, h2, h3, hk g _ hg (by simp)⟩
theorem kept_below {w w' : World} (h : Below w.heap.size w w') : Kept w w' none := fun _ _ hk _ => block_below hk h
theorem below_kept {w w' : World} {base : Nat} {o : Obj} {row : Option Nat} (h : (w.alloc o).grownBy w' row) (hb : base ≤ w.heap.size) (hr : ∀ k, row = some k → base ≤ k) : Below base w w' :=
  Below.grown ((Below.refl base w).alloc hb o) h (by simp; omega) hr
def unitB (u : Nat) : List UInt8 := [UInt8.ofNat (u / 256), UInt8.ofNat (u % 256)]
theorem unit_cells (l : List UInt8) (u : Nat) (hu : u < 65536) : byteCells (l ++ unitB u) = byteCells l ++ [.int .u8 ((u : Int) / 256), .int .u8 ((u : Int) % 256)] := by
  rw [byteCells_append]
  congr 1
  have a : (UInt8.ofNat (u / 256)).toNat = u / 256 := by rw [UInt8.toNat_ofNat']; omega
  have b : (UInt8.ofNat (u % 256)).toNat = u % 256 := by rw [UInt8.toNat_ofNat']; omega
  simp [byteCells, unitB, a, b]
theorem news_cells (w : World) (cs : List Value) (t : TypeId) : ∀ j u, cs[j]? = some u → (w.alloc (.cells cs.toArray t)).cell? ((⟨w.heap.size, 0, none⟩ : Addr).add j) = some u := by
  intro j u h
  have e : (⟨w.heap.size, 0, none⟩ : Addr).add j = ⟨w.heap.size, j, none⟩ := by unfold Addr.add; split <;> simp_all
  rw [e, World.cell?_alloc_new]
  simpa using h
set_option maxHeartbeats 1000000 in
theorem appendUnit_any (base : Nat) (v : Value) (l : List UInt8) (u : Nat) (w : World) (h : RowB w base v l) (hl : l.length ≤ 1099511627776) (hu : u < 65536) (hb : base ≤ w.heap.size) :
    Calls Tryz.prog 49 #[v, .int .i32 u] w fun e w' => ∃ v', e = .returned v' ∧ w'.ownsRow base 5 1 v' (l ++ unitB u).length (byteCells (l ++ unitB u)) ∧ Kept w w' v.ownBlock ∧ Below base w w' := by
  obtain ⟨i0, hi, hz0, hz1, hz2⟩ := info_parts (show (Tryz.prog.info? 5).map (fun i => (i.zero, i.size, i.bytes)) = some (some (.int .u8 0), 1, 1) by kernel_rfl)
  have HU := hide (unit_cells l u hu)
  have HL := hide (show (l ++ unitB u).length = l.length + 2 by simp [unitB])
  rcases h with hown | ⟨g, fz, rfl, hbg, hne, hg⟩
  · have hge := owns_ge hown
    have HG := hide hge
    clear hge
    obtain ⟨ad, c, rfl⟩ := owns_slice hown
    go_enter Tryz.func49, Tryz.ntmps49
    go_wp2_with (at_builtin; refine wpList_append_own _ rfl _ _ 31 rfl base 5 i0 (.int .u8 0) 1 1 Tryz.underlying31 hi hz0 hz1 hz2 rfl (by decide) _ _ _ rfl (hown.alloc _) ⟨w.heap.size, 0, none⟩ 2 2 [.int .u8 ((u : Int) / 256), .int .u8 ((u : Int) % 256)] rfl rfl (news_cells w _ _) (fun x hx => by simp at hx; rcases hx with rfl | rfl <;> rfl) (by unfold maxLen; omega) (by omega) (by simp; omega) ?_; intro v2 w2 hown2 hgrow2 hnil2)
    go_ret
    exact ⟨_, rfl, by rw [unhide HU, unhide HL]; exact hown2, kept_grown hgrow2, below_kept hgrow2 hb (unhide HG)⟩
  · have hcell : ∀ b, (some (⟨g, 0, none⟩ : Addr)) = some b → ∀ (j : Nat) (x : Value), (byteCells l)[j]? = some x → (w.alloc (.cells #[.int .u8 ((u : Int) / 256), .int .u8 ((u : Int) % 256)] 5)).cell? (b.add j) = some x := by
      intro b hbe j x hx
      cases hbe
      have e : (⟨g, 0, none⟩ : Addr).add j = ⟨g, j, none⟩ := by unfold Addr.add; split <;> simp_all
      have hlt := (Array.getElem?_eq_some_iff.1 hg).1
      rw [e, World.cell?_alloc_lt _ _ _ hlt, cells_full hg]
      exact hx
    have HC := hide hcell
    clear hcell
    go_enter Tryz.func49, Tryz.ntmps49
    go_wp2_with (at_builtin; refine wpList_append_grows _ rfl _ _ 31 rfl 5 i0 (.int .u8 0) 1 1 Tryz.underlying31 hi hz0 hz1 hz2 rfl (by decide) (some ⟨g, 0, none⟩) l.length l.length (byteCells l) rfl (fun h => by cases h) (by simp [byteCells]) (unhide HC) ⟨w.heap.size, 0, none⟩ 2 2 [.int .u8 ((u : Int) / 256), .int .u8 ((u : Int) % 256)] rfl rfl (news_cells w _ _) (fun x hx => by simp at hx; rcases hx with rfl | rfl <;> rfl) (by omega) (by unfold maxLen; omega) (by omega) ?_; intro v2 w2 hown2 hgrow2)
    go_ret
    refine ⟨_, rfl, ?_, kept_none hgrow2 _, below_kept hgrow2 hb (fun k hk => by cases hk)⟩
    rw [unhide HU, unhide HL]
    refine ⟨hown2.1, ?_⟩
    rcases hown2.2 with h | ⟨g', cap, cur, h1, h2, h3⟩
    · exact .inl h
    · exact .inr ⟨g', cap, cur, h1, by simp at h2; omega, h3⟩
end Go.Proofs.YtiembljlhmgpjaaGreatDoor
/- A text in UTF-16: xchar's splitPair and encodeWide. -/
namespace Go.Proofs.YtiembljlhmgpjaaGreatDoor
open Go.RowKit
theorem sum_const (a b : Int) (ha : 0 ≤ a) (ha' : a < 1048576) (hb : 0 ≤ b) (hb' : b < 1048576) (w : World) :
    (binOp .add 101 (.complex .f64 4677832637954392064 4677973375442747392) (.complex .f64 (floatOfInt .f64 a) (floatOfInt .f64 b))).run Tryz.prog w = .ok (.complex .f64 (floatOfInt .f64 (55296 + a)) (floatOfInt .f64 (56320 + b))) w := by
  refine run_complex_sum w .add (.inl rfl) _ _ _ _ _ _ _ _ ?_
  have e1 : floatOfInt .f64 55296 = 4677832637954392064 := by decide +kernel
  have e2 : floatOfInt .f64 56320 = 4677973375442747392 := by decide +kernel
  unfold cSumBits
  rw [← e1, ← e2, FloatInt.add_nearest 55296 a (by decide) (by omega) (by omega), FloatInt.add_nearest 56320 b (by decide) (by omega) (by omega)]
  rfl
theorem mask10 (x : Int) (h0 : 0 ≤ x) (h1 : x < 2147483648) : bits .and .i32 x 1023 = x % 1024 := bits_mask .i32 31 (by decide) wraps_i32 10 (by decide) x h0 h1
set_option maxHeartbeats 1000000 in
theorem splitPair_any (r : Nat) (w : World) (h1 : 65536 ≤ r) (h2 : r ≤ 1114111) :
    Calls Tryz.prog 50 #[.int .i32 r] w fun e w' => e = .returned (.complex .f64 (floatOfInt .f64 ((55296 + (r - 65536) / 1024 : Nat) : Int)) (floatOfInt .f64 ((56320 + (r - 65536) % 1024 : Nat) : Int))) ∧ w' = w := by
  have e1 : ((55296 + (r - 65536) / 1024 : Nat) : Int) = 55296 + ((r : Int) - 65536) / 1024 := by omega
  have e2 : ((56320 + (r - 65536) % 1024 : Nat) : Int) = 56320 + ((r : Int) - 65536) % 1024 := by omega
  rw [e1, e2]
  clear e1 e2
  have hand := mask10 ((r : Int) - 65536) (by omega) (by omega)
  have hsum := sum_const (((r : Int) - 65536) / 1024) (((r : Int) - 65536) % 1024) (by omega) (by omega) (by omega) (by omega)
  go_enter Tryz.func50, Tryz.ntmps50
  go_wp2
  go_ret
  exact ⟨rfl, rfl⟩
/-- A character in UTF-16, the higher byte first. -/
def wideR (r : Nat) : List UInt8 := if r < 65536 then unitB r else unitB (55296 + (r - 65536) / 1024) ++ unitB (56320 + (r - 65536) % 1024)
def wideFrom (s : ByteArray) : Nat → Nat → List UInt8
  | 0, _ => []
  | f + 1, pos => if pos < s.size then wideR (Utf8.decode s pos).1 ++ wideFrom s f (pos + (Utf8.decode s pos).2) else []
def encW (s : ByteArray) : List UInt8 := [254, 255] ++ wideFrom s (s.size + 1) 0
theorem wideFrom_step (s : ByteArray) (f pos : Nat) (hp : pos < s.size) (hb : s.size < pos + f) : ∃ g, f = g + 1 ∧ wideFrom s f pos = wideR (Utf8.decode s pos).1 ++ wideFrom s g (pos + (Utf8.decode s pos).2) := by
  cases f with
  | zero => omega
  | succ g => exact ⟨g, rfl, by rw [wideFrom, if_pos hp]⟩
theorem wideFrom_end (s : ByteArray) (f pos : Nat) (hp : ¬ pos < s.size) : wideFrom s f pos = [] := by
  cases f with
  | zero => rfl
  | succ g => rw [wideFrom, if_neg hp]
theorem rune_le (s : ByteArray) (pos : Nat) : (Utf8.decode s pos).1 ≤ 1114111 := by
  have h := Lib.decodeL_rune (s.data.toList.drop pos)
  rw [Lib.decodeL_drop] at h
  exact h
theorem real_int (a : Int) (h1 : 0 ≤ a) (h2 : a < 65536) (w : World) : (convert 103 21 (.float .f64 (floatOfInt .f64 a))).run Tryz.prog w = .ok (.int .i32 a) w := by
  exact run_convert_float_int w 103 21 .f64 .i32 _ a (by kernel_rfl) Tryz.underlying21 (FloatInt.toIntVal_nearest a (by omega) (by omega))
theorem row_iter {w : World} {base it : Nat} {v : Value} {l : List UInt8} {s : ByteArray} {p p' : Nat} (h : RowB w base v l) (hk : w.heap[it]? = some (.stringIter s p)) : RowB (w.iterAt it s p') base v l := by
  have ne : ∀ k c t fz, w.heap[k]? = some (.cells c t fz) → k ≠ it := fun k c t fz hc e => by rw [e, hk] at hc; cases hc
  rcases h with h | ⟨g, fz, h1, h2, h3, hg⟩
  · refine .inl ⟨h.1, ?_⟩
    rcases h.2 with h | ⟨g, cap, cur, h1, h2, h3, h4⟩
    · exact .inl h
    · exact .inr ⟨g, cap, cur, h1, h2, by rw [Lib.iterAt_other w it g s p' (ne g _ _ _ h3)]; exact h3, h4⟩
  · exact .inr ⟨g, fz, h1, h2, h3, by rw [Lib.iterAt_other w it g s p' (ne g _ _ _ hg)]; exact hg⟩
theorem own_ne {w : World} {base it : Nat} {v : Value} {l : List UInt8} {s : ByteArray} {p : Nat} (h : RowB w base v l) (hk : w.heap[it]? = some (.stringIter s p)) : some it ≠ v.ownBlock := by
  intro e
  obtain ⟨_, c, fz, hc⟩ := row_block h it e.symm
  rw [hk] at hc
  cases hc
theorem wideR_len (r : Nat) : (wideR r).length ≤ 4 := by
  unfold wideR; split <;> simp [unitB]
set_option maxHeartbeats 2000000 in
theorem encodeWide_any (s : ByteArray) (w : World) (hs : s.size ≤ 1048580) :
    Calls Tryz.prog 22 #[.string s] w fun e w' => ∃ v, e = .returned v ∧ RowB w' w.heap.size v (encW s) ∧ Below w.heap.size w w' := by
  have hcv := Lib.run_convert_bytes_const (P := Tryz.prog) w 31 5 #[.int .u8 254, .int .u8 255] 2 2 Tryz.underlying31 Tryz.underlying5
  go_enter Tryz.func22, Tryz.ntmps22
  go_wp2_with fail
  clear hcv
  go_loopw [3] (fun v wr => ∃ (pos f : Nat) (l : List UInt8), wr.heap[w.heap.size + 1]? = some (.stringIter s pos) ∧ RowB wr w.heap.size v l ∧ Below w.heap.size w wr ∧ encW s = l ++ wideFrom s f pos ∧ s.size < pos + f ∧ l.length ≤ 2 + 4 * pos ∧ pos ≤ s.size) (fun _ wr => s.size - wr.iterPos (w.heap.size + 1))
  case atStart =>
    refine ⟨0, s.size + 1, [254, 255], ?_, .inr ⟨w.heap.size, (2, 3), rfl, Nat.le_refl _, by simp, ?_⟩, ?_, rfl, by omega, by simp, Nat.zero_le _⟩
    · have := World.iter_heap (w.alloc (.cells #[.int .u8 254, .int .u8 255] 5 (2, 3))) s 0
      simpa using this
    · show ((w.alloc _).alloc _).heap[w.heap.size]? = _
      rw [Lib.alloc_old _ _ _ (by simp)]
      exact heap_alloc_new w _
    · exact ((Below.refl _ _).alloc (Nat.le_refl _) _).alloc (by simp) _
  case round =>
    obtain ⟨pos, f, l, hk, hrow, hbr, he, hfu, hll, hps⟩ := hrel
    by_cases hp : pos < s.size
    · have hnx := fun ty => Lib.run_next_any_at (P := Tryz.prog) wr (w.heap.size + 1) s pos ty hk hp
      have hwd := width_pos s pos hp
      have hrl := rune_le s pos
      obtain ⟨g, rfl, hg⟩ := wideFrom_step s f pos hp hfu
      have HF := hide (by rw [hg] at he; exact he)
      have hr1 := row_iter (p' := pos + (Utf8.decode s pos).2) hrow hk
      have hk1 := Lib.iterAt_heap wr (w.heap.size + 1) s pos (pos + (Utf8.decode s pos).2) hk
      have hb1 := Lib.below_iterAt hbr (Nat.le_succ w.heap.size) s (pos + (Utf8.decode s pos).2)
      have hwe : pos + (Utf8.decode s pos).2 ≤ s.size := by
        have h := Lib.decodeL_le (s.data.toList.drop pos) (by intro h; have := congrArg List.length h; rw [List.length_drop] at this; have hl : s.data.toList.length = s.size := rfl; simp at this; omega)
        rw [Lib.decodeL_drop, List.length_drop] at h
        have hl : s.data.toList.length = s.size := rfl
        omega
      have hip := iterPos_of hk
      have HIP := hide hip
      clear hg he hrow hk hbr hip
      generalize hd : Utf8.decode s pos = d at *
      clear hd
      have hsz := hb1.size
      generalize hW : wr.iterAt (w.heap.size + 1) s (pos + d.2) = W at *
      have HW := hide hW
      clear hW
      have hrl4 := wideR_len d.1
      by_cases hlt : d.1 < 65536
      · have hlt' : (d.1 : Int) < 65536 := by omega
        have E1 := hide (show wideR d.1 = unitB d.1 by unfold wideR; rw [if_pos hlt])
        go_wp2_with fail
        refine (appendUnit_any w.heap.size _ l d.1 W hr1 (by omega) hlt hsz).mono ?_
        rintro e w2 ⟨v2, rfl, hown2, hkept2, hb2⟩
        have hk2 := hkept2 _ _ hk1 (own_ne hr1 hk1)
        have HK2 := hide hk2
        clear hk1 hk2
        go_wp2
        refine ⟨⟨pos + d.2, g, l ++ unitB d.1, unhide HK2, .inl hown2, hb1.trans hb2, ?_, by omega, ?_, hwe⟩, ?_⟩
        · rw [unhide HF, unhide E1, List.append_assoc]
        · rw [unhide E1] at hrl4; rw [List.length_append]; omega
        · rw [iterPos_of (unhide HK2), unhide HIP]; omega
      · have hlt' : ¬ (d.1 : Int) < 65536 := by omega
        have hsp := splitPair_any d.1 W (by omega) hrl
        have E1 := hide (show wideR d.1 = unitB (55296 + (d.1 - 65536) / 1024) ++ unitB (56320 + (d.1 - 65536) % 1024) by unfold wideR; rw [if_neg hlt])
        have hx : 55296 + (d.1 - 65536) / 1024 < 65536 := by omega
        have hy : 56320 + (d.1 - 65536) % 1024 < 65536 := by omega
        generalize 55296 + (d.1 - 65536) / 1024 = x at *
        generalize 56320 + (d.1 - 65536) % 1024 = y at *
        have hre := fun w => real_int (x : Int) (by omega) (by omega) w
        have him := fun w => real_int (y : Int) (by omega) (by omega) w
        have HSP := hide hsp
        clear hsp
        go_wp2_with fail
        refine (unhide HSP).mono ?_
        rintro e W0 ⟨rfl, rfl⟩
        go_wp2_with fail
        refine (appendUnit_any w.heap.size _ l x _ hr1 (by omega) hx hsz).mono ?_
        rintro e w2 ⟨v2, rfl, hown2, hkept2, hb2⟩
        have hk2 := hkept2 _ _ hk1 (own_ne hr1 hk1)
        have hr2 : RowB w2 w.heap.size v2 (l ++ unitB x) := .inl hown2
        have hsz2 := (hb1.trans hb2).size
        have hl2 : (l ++ unitB x).length = l.length + 2 := by simp [unitB]
        have HL2 := hide hl2
        have hb2' : (l ++ unitB x).length ≤ 1099511627776 := by omega
        clear hl2
        go_wp2_with fail
        refine (appendUnit_any w.heap.size _ (l ++ unitB x) y _ hr2 hb2' hy hsz2).mono ?_
        rintro e w3 ⟨v3, rfl, hown3, hkept3, hb3⟩
        have hk3 := hkept3 _ _ hk2 (own_ne hr2 hk2)
        have HK3 := hide hk3
        clear hk1 hk2 hk3
        go_wp2
        refine ⟨⟨pos + d.2, g, l ++ unitB x ++ unitB y, unhide HK3, .inl hown3, (hb1.trans hb2).trans hb3, ?_, by omega, ?_, hwe⟩, ?_⟩
        · rw [unhide HF, unhide E1]; simp only [List.append_assoc]
        · have : (unitB y).length = 2 := rfl
          rw [List.length_append, unhide HL2]; omega
        · rw [iterPos_of (unhide HK3), unhide HIP]; omega
    · have hnx := fun ty => Lib.run_next_end_at (P := Tryz.prog) wr (w.heap.size + 1) s pos ty hk hp
      have HF := hide (he.trans (by rw [wideFrom_end s f pos hp]))
      clear he
      go_wp2
      go_ret
      refine ⟨_, rfl, ?_, hbr⟩
      rw [unhide HF, List.append_nil]
      exact hrow
end Go.Proofs.YtiembljlhmgpjaaGreatDoor
