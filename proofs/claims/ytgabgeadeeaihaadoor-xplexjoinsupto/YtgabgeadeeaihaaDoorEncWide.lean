/- A text in UTF-16: xchar's splitPair and encodeWide. -/
import Derived.Test.YtgabgeadeeaihaaDoorRowB
import Derived.Laws.ComplexArith
import Derived.Lib.SlBytesConst
namespace Go.Proofs.YtgabgeadeeaihaaDoor
open Go.RowKit
theorem sum_const (a b : Int) (ha : 0 ≤ a) (ha' : a < 1048576) (hb : 0 ≤ b) (hb' : b < 1048576) (w : World) :
    (binOp .add 74 (.complex .f64 4677832637954392064 4677973375442747392) (.complex .f64 (floatOfInt .f64 a) (floatOfInt .f64 b))).run Tryd.prog w = .ok (.complex .f64 (floatOfInt .f64 (55296 + a)) (floatOfInt .f64 (56320 + b))) w := by
  refine run_complex_sum w .add (.inl rfl) _ _ _ _ _ _ _ _ ?_
  have e1 : floatOfInt .f64 55296 = 4677832637954392064 := by decide +kernel
  have e2 : floatOfInt .f64 56320 = 4677973375442747392 := by decide +kernel
  unfold cSumBits
  rw [← e1, ← e2, FloatInt.add_nearest 55296 a (by decide) (by omega) (by omega), FloatInt.add_nearest 56320 b (by decide) (by omega) (by omega)]
  rfl
theorem mask10 (x : Int) (h0 : 0 ≤ x) (h1 : x < 2147483648) : bits .and .i32 x 1023 = x % 1024 := bits_mask .i32 31 (by decide) wraps_i32 10 (by decide) x h0 h1
/-- A character in UTF-16, the higher byte first. -/
def wideR (r : Nat) : List UInt8 := if r < 65536 then unitB r else unitB (55296 + (r - 65536) / 1024) ++ unitB (56320 + (r - 65536) % 1024)
def wideFrom (s : ByteArray) : Nat → Nat → List UInt8
  | 0, _ => []
  | f + 1, pos => if pos < s.size then wideR (Utf8.decode s pos).1 ++ wideFrom s f (pos + (Utf8.decode s pos).2) else []
def encW (s : ByteArray) : List UInt8 := [254, 255] ++ wideFrom s (s.size + 1) 0
theorem wideFrom_step (s : ByteArray) (f pos : Nat) (hp : pos < s.size) (hb : s.size < pos + f) : ∃ g, f = g + 1 ∧ wideFrom s f pos = wideR (Utf8.decode s pos).1 ++ wideFrom s g (pos + (Utf8.decode s pos).2) := by
  cases f with
  | zero => omega
  | succ g => exact ⟨g, rfl, by rw [wideFrom, if_pos hp]⟩
theorem wideFrom_end (s : ByteArray) (f pos : Nat) (hp : ¬ pos < s.size) : wideFrom s f pos = [] := by
  cases f with
  | zero => rfl
  | succ g => rw [wideFrom, if_neg hp]
theorem rune_le (s : ByteArray) (pos : Nat) : (Utf8.decode s pos).1 ≤ 1114111 := by
  have h := Lib.decodeL_rune (s.data.toList.drop pos)
  rw [Lib.decodeL_drop] at h
  exact h
theorem kept_alloc (w : World) (o : Obj) (row : Option Nat) : Kept w (w.alloc o) row := fun k x hk _ => by
  rw [Lib.alloc_old w o k (Array.getElem?_eq_some_iff.1 hk).1]; exact hk
theorem real_int (a : Int) (h1 : 0 ≤ a) (h2 : a < 65536) (w : World) : (convert 89 21 (.float .f64 (floatOfInt .f64 a))).run Tryd.prog w = .ok (.int .i32 a) w := by
  exact run_convert_float_int w 89 21 .f64 .i32 _ a (by kernel_rfl) Tryd.underlying21 (FloatInt.toIntVal_nearest a (by omega) (by omega))
theorem row_iter {w : World} {base it : Nat} {v : Value} {l : List UInt8} {s : ByteArray} {p p' : Nat} (h : RowB w base v l) (hk : w.heap[it]? = some (.stringIter s p)) : RowB (w.iterAt it s p') base v l := by
  have ne : ∀ k c t fz, w.heap[k]? = some (.cells c t fz) → k ≠ it := fun k c t fz hc e => by rw [e, hk] at hc; cases hc
  rcases h with h | ⟨g, fz, h1, h2, h3, hg⟩
  · refine .inl ⟨h.1, ?_⟩
    rcases h.2 with h | ⟨g, cap, cur, h1, h2, h3, h4⟩
    · exact .inl h
    · exact .inr ⟨g, cap, cur, h1, h2, by rw [Lib.iterAt_other w it g s p' (ne g _ _ _ h3)]; exact h3, h4⟩
  · exact .inr ⟨g, fz, h1, h2, h3, by rw [Lib.iterAt_other w it g s p' (ne g _ _ _ hg)]; exact hg⟩
theorem own_ne {w : World} {base it : Nat} {v : Value} {l : List UInt8} {s : ByteArray} {p : Nat} (h : RowB w base v l) (hk : w.heap[it]? = some (.stringIter s p)) : some it ≠ v.ownBlock := by
  intro e
  obtain ⟨_, c, fz, hc⟩ := row_block h it e.symm
  rw [hk] at hc
  cases hc
theorem wideR_len (r : Nat) : (wideR r).length ≤ 4 := by
  unfold wideR; split <;> simp [unitB]
end Go.Proofs.YtgabgeadeeaihaaDoor
