/- Tokens that are parted by blanks are read as they were: plain lemmas. -/
import Derived.Test.YtllhajjceecjdaaDoorGak
namespace Go.Proofs.YtllhajjceecjdaaDoor
/-- Nothing, or a blank first. -/
def parted (r : List Nat) : Prop := ∀ c, r.head? = some c → blankC c = true
theorem goC_of_beg {c : Nat} (h : begC c = true) : goC c = true := by simp only [begC] at h; simp [goC, h]
/-- A run ends where the test fails. -/
theorem takeWhile_run (p : Nat → Bool) (a r : List Nat) (ha : ∀ c ∈ a, p c = true) (hr : ∀ c, r.head? = some c → p c = false) : (a ++ r).takeWhile p = a := by
  rw [List.takeWhile_append_of_pos ha]
  cases r with
  | nil => simp
  | cons c t => rw [List.takeWhile_cons_of_neg (by rw [hr c rfl]; decide)]; simp
theorem all_takeWhile (p : Nat → Bool) (l : List Nat) : ∀ c ∈ l.takeWhile p, p c = true := fun c hc => by
  have := List.all_takeWhile (p := p) (l := l)
  rw [List.all_eq_true] at this
  exact this c hc
end Go.Proofs.YtllhajjceecjdaaDoor
