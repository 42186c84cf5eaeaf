/- A text in UTF-16: xchar's splitPair and encodeWide. -/
import Derived.Test.YtfgifocgkiploaaGreatDoorRowB
import Derived.Laws.ComplexArith
import Derived.Lib.SlBytesConst
namespace Go.Proofs.YtfgifocgkiploaaGreatDoor
open Go.RowKit
theorem sum_const (a b : Int) (ha : 0 ≤ a) (ha' : a < 1048576) (hb : 0 ≤ b) (hb' : b < 1048576) (w : World) :
    (binOp .add 70 (.complex .f64 4677832637954392064 4677973375442747392) (.complex .f64 (floatOfInt .f64 a) (floatOfInt .f64 b))).run Tryz.prog w = .ok (.complex .f64 (floatOfInt .f64 (55296 + a)) (floatOfInt .f64 (56320 + b))) w := by
  refine run_complex_sum w .add (.inl rfl) _ _ _ _ _ _ _ _ ?_
  have e1 : floatOfInt .f64 55296 = 4677832637954392064 := by decide +kernel
  have e2 : floatOfInt .f64 56320 = 4677973375442747392 := by decide +kernel
  unfold cSumBits
  rw [← e1, ← e2, FloatInt.add_nearest 55296 a (by decide) (by omega) (by omega), FloatInt.add_nearest 56320 b (by decide) (by omega) (by omega)]
  rfl
theorem mask10 (x : Int) (h0 : 0 ≤ x) (h1 : x < 2147483648) : bits .and .i32 x 1023 = x % 1024 := bits_mask .i32 31 (by decide) wraps_i32 10 (by decide) x h0 h1
set_option maxHeartbeats 1000000 in
theorem splitPair_any (r : Nat) (w : World) (h1 : 65536 ≤ r) (h2 : r ≤ 1114111) :
    Calls Tryz.prog 38 #[.int .i32 r] w fun e w' => e = .returned (.complex .f64 (floatOfInt .f64 ((55296 + (r - 65536) / 1024 : Nat) : Int)) (floatOfInt .f64 ((56320 + (r - 65536) % 1024 : Nat) : Int))) ∧ w' = w := by
  have e1 : ((55296 + (r - 65536) / 1024 : Nat) : Int) = 55296 + ((r : Int) - 65536) / 1024 := by omega
  have e2 : ((56320 + (r - 65536) % 1024 : Nat) : Int) = 56320 + ((r : Int) - 65536) % 1024 := by omega
  rw [e1, e2]
  clear e1 e2
  have hand := mask10 ((r : Int) - 65536) (by omega) (by omega)
  have hsum := sum_const (((r : Int) - 65536) / 1024) (((r : Int) - 65536) % 1024) (by omega) (by omega) (by omega) (by omega)
  go_enter Tryz.func38, Tryz.ntmps38
  go_wp2
  go_ret
  exact ⟨rfl, rfl⟩
/-- A character in UTF-16, the higher byte first. -/
def wideR (r : Nat) : List UInt8 := if r < 65536 then unitB r else unitB (55296 + (r - 65536) / 1024) ++ unitB (56320 + (r - 65536) % 1024)
def wideFrom (s : ByteArray) : Nat → Nat → List UInt8
  | 0, _ => []
  | f + 1, pos => if pos < s.size then wideR (Utf8.decode s pos).1 ++ wideFrom s f (pos + (Utf8.decode s pos).2) else []
def encW (s : ByteArray) : List UInt8 := [254, 255] ++ wideFrom s (s.size + 1) 0
theorem wideFrom_step (s : ByteArray) (f pos : Nat) (hp : pos < s.size) (hb : s.size < pos + f) : ∃ g, f = g + 1 ∧ wideFrom s f pos = wideR (Utf8.decode s pos).1 ++ wideFrom s g (pos + (Utf8.decode s pos).2) := by
  cases f with
  | zero => omega
  | succ g => exact ⟨g, rfl, by rw [wideFrom, if_pos hp]⟩
theorem wideFrom_end (s : ByteArray) (f pos : Nat) (hp : ¬ pos < s.size) : wideFrom s f pos = [] := by
  cases f with
  | zero => rfl
  | succ g => rw [wideFrom, if_neg hp]
theorem rune_le (s : ByteArray) (pos : Nat) : (Utf8.decode s pos).1 ≤ 1114111 := by
  have h := Lib.decodeL_rune (s.data.toList.drop pos)
  rw [Lib.decodeL_drop] at h
  exact h
theorem kept_alloc (w : World) (o : Obj) (row : Option Nat) : Kept w (w.alloc o) row := fun k x hk _ => by
  rw [Lib.alloc_old w o k (Array.getElem?_eq_some_iff.1 hk).1]; exact hk
theorem real_int (a : Int) (h1 : 0 ≤ a) (h2 : a < 65536) (w : World) : (convert 72 21 (.float .f64 (floatOfInt .f64 a))).run Tryz.prog w = .ok (.int .i32 a) w := by
  exact run_convert_float_int w 72 21 .f64 .i32 _ a (by kernel_rfl) Tryz.underlying21 (FloatInt.toIntVal_nearest a (by omega) (by omega))
theorem row_iter {w : World} {base it : Nat} {v : Value} {l : List UInt8} {s : ByteArray} {p p' : Nat} (h : RowB w base v l) (hk : w.heap[it]? = some (.stringIter s p)) : RowB (w.iterAt it s p') base v l := by
  have ne : ∀ k c t fz, w.heap[k]? = some (.cells c t fz) → k ≠ it := fun k c t fz hc e => by rw [e, hk] at hc; cases hc
  rcases h with h | ⟨g, fz, h1, h2, h3, hg⟩
  · refine .inl ⟨h.1, ?_⟩
    rcases h.2 with h | ⟨g, cap, cur, h1, h2, h3, h4⟩
    · exact .inl h
    · exact .inr ⟨g, cap, cur, h1, h2, by rw [Lib.iterAt_other w it g s p' (ne g _ _ _ h3)]; exact h3, h4⟩
  · exact .inr ⟨g, fz, h1, h2, h3, by rw [Lib.iterAt_other w it g s p' (ne g _ _ _ hg)]; exact hg⟩
theorem own_ne {w : World} {base it : Nat} {v : Value} {l : List UInt8} {s : ByteArray} {p : Nat} (h : RowB w base v l) (hk : w.heap[it]? = some (.stringIter s p)) : some it ≠ v.ownBlock := by
  intro e
  obtain ⟨_, c, fz, hc⟩ := row_block h it e.symm
  rw [hk] at hc
  cases hc
theorem wideR_len (r : Nat) : (wideR r).length ≤ 4 := by
  unfold wideR; split <;> simp [unitB]
set_option maxHeartbeats 2000000 in
theorem encodeWide_any (s : ByteArray) (w : World) (hs : s.size ≤ 1048580) :
    Calls Tryz.prog 18 #[.string s] w fun e w' => ∃ v, e = .returned v ∧ RowB w' w.heap.size v (encW s) ∧ Below w.heap.size w w' := by
  have hcv := Lib.run_convert_bytes_const (P := Tryz.prog) w 28 5 #[.int .u8 254, .int .u8 255] 2 2 Tryz.underlying28 Tryz.underlying5
  go_enter Tryz.func18, Tryz.ntmps18
  go_wp2_with fail
  clear hcv
  go_loopw [3] (fun v wr => ∃ (pos f : Nat) (l : List UInt8), wr.heap[w.heap.size + 1]? = some (.stringIter s pos) ∧ RowB wr w.heap.size v l ∧ Below w.heap.size w wr ∧ encW s = l ++ wideFrom s f pos ∧ s.size < pos + f ∧ l.length ≤ 2 + 4 * pos ∧ pos ≤ s.size) (fun _ wr => s.size - wr.iterPos (w.heap.size + 1))
  case atStart =>
    refine ⟨0, s.size + 1, [254, 255], ?_, .inr ⟨w.heap.size, (2, 3), rfl, Nat.le_refl _, by simp, ?_⟩, ?_, rfl, by omega, by simp, Nat.zero_le _⟩
    · have := World.iter_heap (w.alloc (.cells #[.int .u8 254, .int .u8 255] 5 (2, 3))) s 0
      simpa using this
    · show ((w.alloc _).alloc _).heap[w.heap.size]? = _
      rw [Lib.alloc_old _ _ _ (by simp)]
      exact heap_alloc_new w _
    · exact ((Below.refl _ _).alloc (Nat.le_refl _) _).alloc (by simp) _
  case round =>
    obtain ⟨pos, f, l, hk, hrow, hbr, he, hfu, hll, hps⟩ := hrel
    by_cases hp : pos < s.size
    · have hnx := fun ty => Lib.run_next_any_at (P := Tryz.prog) wr (w.heap.size + 1) s pos ty hk hp
      have hwd := width_pos s pos hp
      have hrl := rune_le s pos
      obtain ⟨g, rfl, hg⟩ := wideFrom_step s f pos hp hfu
      have HF := hide (by rw [hg] at he; exact he)
      have hr1 := row_iter (p' := pos + (Utf8.decode s pos).2) hrow hk
      have hk1 := Lib.iterAt_heap wr (w.heap.size + 1) s pos (pos + (Utf8.decode s pos).2) hk
      have hb1 := Lib.below_iterAt hbr (Nat.le_succ w.heap.size) s (pos + (Utf8.decode s pos).2)
      have hwe : pos + (Utf8.decode s pos).2 ≤ s.size := by
        have h := Lib.decodeL_le (s.data.toList.drop pos) (by intro h; have := congrArg List.length h; rw [List.length_drop] at this; have hl : s.data.toList.length = s.size := rfl; simp at this; omega)
        rw [Lib.decodeL_drop, List.length_drop] at h
        have hl : s.data.toList.length = s.size := rfl
        omega
      have hip := iterPos_of hk
      have HIP := hide hip
      clear hg he hrow hk hbr hip
      generalize hd : Utf8.decode s pos = d at *
      clear hd
      have hsz := hb1.size
      generalize hW : wr.iterAt (w.heap.size + 1) s (pos + d.2) = W at *
      have HW := hide hW
      clear hW
      have hrl4 := wideR_len d.1
      by_cases hlt : d.1 < 65536
      · have hlt' : (d.1 : Int) < 65536 := by omega
        have E1 := hide (show wideR d.1 = unitB d.1 by unfold wideR; rw [if_pos hlt])
        go_wp2_with fail
        refine (appendUnit_any w.heap.size _ l d.1 W hr1 (by omega) hlt hsz).mono ?_
        rintro e w2 ⟨v2, rfl, hown2, hkept2, hb2⟩
        have hk2 := hkept2 _ _ hk1 (own_ne hr1 hk1)
        have HK2 := hide hk2
        clear hk1 hk2
        go_wp2
        refine ⟨⟨pos + d.2, g, l ++ unitB d.1, unhide HK2, .inl hown2, hb1.trans hb2, ?_, by omega, ?_, hwe⟩, ?_⟩
        · rw [unhide HF, unhide E1, List.append_assoc]
        · rw [unhide E1] at hrl4; rw [List.length_append]; omega
        · rw [iterPos_of (unhide HK2), unhide HIP]; omega
      · have hlt' : ¬ (d.1 : Int) < 65536 := by omega
        have hsp := splitPair_any d.1 W (by omega) hrl
        have E1 := hide (show wideR d.1 = unitB (55296 + (d.1 - 65536) / 1024) ++ unitB (56320 + (d.1 - 65536) % 1024) by unfold wideR; rw [if_neg hlt])
        have hx : 55296 + (d.1 - 65536) / 1024 < 65536 := by omega
        have hy : 56320 + (d.1 - 65536) % 1024 < 65536 := by omega
        generalize 55296 + (d.1 - 65536) / 1024 = x at *
        generalize 56320 + (d.1 - 65536) % 1024 = y at *
        have hre := fun w => real_int (x : Int) (by omega) (by omega) w
        have him := fun w => real_int (y : Int) (by omega) (by omega) w
        have HSP := hide hsp
        clear hsp
        go_wp2_with fail
        refine (unhide HSP).mono ?_
        rintro e W0 ⟨rfl, rfl⟩
        go_wp2_with fail
        refine (appendUnit_any w.heap.size _ l x _ hr1 (by omega) hx hsz).mono ?_
        rintro e w2 ⟨v2, rfl, hown2, hkept2, hb2⟩
        have hk2 := hkept2 _ _ hk1 (own_ne hr1 hk1)
        have hr2 : RowB w2 w.heap.size v2 (l ++ unitB x) := .inl hown2
        have hsz2 := (hb1.trans hb2).size
        have hl2 : (l ++ unitB x).length = l.length + 2 := by simp [unitB]
        have HL2 := hide hl2
        have hb2' : (l ++ unitB x).length ≤ 1099511627776 := by omega
        clear hl2
        go_wp2_with fail
        refine (appendUnit_any w.heap.size _ (l ++ unitB x) y _ hr2 hb2' hy hsz2).mono ?_
        rintro e w3 ⟨v3, rfl, hown3, hkept3, hb3⟩
        have hk3 := hkept3 _ _ hk2 (own_ne hr2 hk2)
        have HK3 := hide hk3
        clear hk1 hk2 hk3
        go_wp2
        refine ⟨⟨pos + d.2, g, l ++ unitB x ++ unitB y, unhide HK3, .inl hown3, (hb1.trans hb2).trans hb3, ?_, by omega, ?_, hwe⟩, ?_⟩
        · rw [unhide HF, unhide E1]; simp only [List.append_assoc]
        · have : (unitB y).length = 2 := rfl
          rw [List.length_append, unhide HL2]; omega
        · rw [iterPos_of (unhide HK3), unhide HIP]; omega
    · have hnx := fun ty => Lib.run_next_end_at (P := Tryz.prog) wr (w.heap.size + 1) s pos ty hk hp
      have HF := hide (he.trans (by rw [wideFrom_end s f pos hp]))
      clear he
      go_wp2
      go_ret
      refine ⟨_, rfl, ?_, hbr⟩
      rw [unhide HF, List.append_nil]
      exact hrow
end Go.Proofs.YtfgifocgkiploaaGreatDoor
