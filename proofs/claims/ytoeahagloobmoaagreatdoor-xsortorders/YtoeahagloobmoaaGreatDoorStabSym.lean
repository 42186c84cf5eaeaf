/- Two parts in order are merged: what symMerge's search finds, and what it leaves to do. -/
import Derived.Test.YtoeahagloobmoaaGreatDoorStabRot
namespace Go.Proofs.YtoeahagloobmoaaGreatDoor
theorem rot_at1 (a : Rw) (s m e p : Nat) (h : s ≤ p ∧ p < s + (e - m)) : rot a s m e p = a (p + (m - s)) := by
  unfold rot
  rw [if_pos h]
theorem rot_at2 (a : Rw) (s m e p : Nat) (h : s + (e - m) ≤ p ∧ p < e) : rot a s m e p = a (p - (e - m)) := by
  unfold rot
  rw [if_neg (by omega), if_pos h]
theorem rot_at3 (a : Rw) (s m e p : Nat) (h1 : s ≤ m) (h2 : m ≤ e) (h : ¬ (s ≤ p ∧ p < e)) : rot a s m e p = a p := by
  unfold rot
  rw [if_neg (by omega), if_neg (by omega)]
/-- One value is put among those behind it. -/
theorem sym_one {L : Nat → Nat → Prop} (hL : Tot L) (x : Rw) (a b i : Nat) (h1 : a + 1 ≤ i) (h2 : i ≤ b) (hs : Srt L (a + 1) b x) (hlt : ∀ h, a + 1 ≤ h → h < i → L (x h) (x a)) (hge : ∀ h, i ≤ h → h < b → L (x a) (x h)) :
    Fine L a b x (rot x a (a + 1) i) ∧ Srt L a b (rot x a (a + 1) i) := by
  refine ⟨(rot_fine hL x a (a + 1) i (by omega) h1 (fun p q a1 a2 a3 a4 => by
    have : p = a := by omega
    subst this
    exact hlt q a3 a4)).wide (Nat.le_refl _) h2, ?_⟩
  intro p q a1 a2 a3
  by_cases c1 : p < i - 1
  · rw [rot_at1 x a (a + 1) i p (by omega)]
    by_cases c2 : q < i - 1
    · rw [rot_at1 x a (a + 1) i q (by omega)]
      exact hs _ _ (by omega) (by omega) (by omega)
    · by_cases c3 : q < i
      · rw [rot_at2 x a (a + 1) i q (by omega), show q - (i - (a + 1)) = a by omega]
        exact hlt _ (by omega) (by omega)
      · rw [rot_at3 x a (a + 1) i q (by omega) h1 (by omega)]
        exact hs _ _ (by omega) (by omega) (by omega)
  · by_cases c3 : p < i
    · rw [rot_at2 x a (a + 1) i p (by omega), show p - (i - (a + 1)) = a by omega, rot_at3 x a (a + 1) i q (by omega) h1 (by omega)]
      exact hge q (by omega) a3
    · rw [rot_at3 x a (a + 1) i p (by omega) h1 (by omega), rot_at3 x a (a + 1) i q (by omega) h1 (by omega)]
      exact hs _ _ (by omega) a2 a3
/-- One value is put among those ahead of it. -/
theorem sym_last {L : Nat → Nat → Prop} (hL : Tot L) (x : Rw) (a m i : Nat) (h1 : a ≤ i) (h2 : i ≤ m) (hs : Srt L a m x) (hlt : ∀ h, a ≤ h → h < i → L (x h) (x m)) (hge : ∀ h, i ≤ h → h < m → L (x m) (x h)) :
    Fine L a (m + 1) x (rot x i m (m + 1)) ∧ Srt L a (m + 1) (rot x i m (m + 1)) := by
  refine ⟨(rot_fine hL x i m (m + 1) h2 (by omega) (fun p q a1 a2 a3 a4 => by
    have : q = m := by omega
    subst this
    exact hge p a1 a2)).wide h1 (Nat.le_refl _), ?_⟩
  intro p q a1 a2 a3
  by_cases c1 : p < i
  · rw [rot_at3 x i m (m + 1) p h2 (by omega) (by omega)]
    by_cases c2 : q < i
    · rw [rot_at3 x i m (m + 1) q h2 (by omega) (by omega)]
      exact hs _ _ a1 a2 (by omega)
    · by_cases c3 : q = i
      · rw [rot_at1 x i m (m + 1) q (by omega), show q + (m - i) = m by omega]
        exact hlt p a1 c1
      · rw [rot_at2 x i m (m + 1) q (by omega)]
        exact hs _ _ a1 (by omega) (by omega)
  · by_cases c3 : p = i
    · rw [rot_at1 x i m (m + 1) p (by omega), show p + (m - i) = m by omega, rot_at2 x i m (m + 1) q (by omega)]
      exact hge _ (by omega) (by omega)
    · rw [rot_at2 x i m (m + 1) p (by omega), rot_at2 x i m (m + 1) q (by omega)]
      exact hs _ _ (by omega) (by omega) (by omega)
/-- Where the search of symMerge stands: below start and from r on it is known. -/
structure Seek (L : Nat → Nat → Prop) (x : Rw) (s0 r0 p start r : Nat) : Prop where
  le0 : s0 ≤ start
  le1 : start ≤ r
  le2 : r ≤ r0
  lows : ∀ c, s0 ≤ c → c < start → L (x c) (x (p - c))
  highs : ∀ c, r ≤ c → c < r0 → L (x (p - c)) (x c)
/-- The bounds of the search. -/
structure Bounds (a m b mid s0 r0 p : Nat) : Prop where
  am : a < m
  mb : m < b
  mid1 : a ≤ mid
  mid2 : mid < b
  pp : p + 1 = mid + m
  way : (mid < m ∧ s0 + b = mid + m ∧ r0 = mid) ∨ (m ≤ mid ∧ s0 = a ∧ r0 = m)
theorem Bounds.ins {a m b mid s0 r0 p : Nat} (h : Bounds a m b mid s0 r0 p) (hh : 2 * mid = a + b ∨ 2 * mid + 1 = a + b) : a ≤ s0 ∧ s0 ≤ r0 ∧ r0 ≤ m ∧ r0 ≤ mid ∧ (∀ c, s0 ≤ c → c < r0 → a ≤ c ∧ c < m ∧ m ≤ p - c ∧ p - c < b ∧ c < p - c) := by
  obtain ⟨h1, h2, h3, h4, h5, h6⟩ := h
  rcases h6 with ⟨g1, g2, g3⟩ | ⟨g1, g2, g3⟩
  · refine ⟨by omega, by omega, by omega, by omega, fun c a1 a2 => by omega⟩
  · refine ⟨by omega, by omega, by omega, by omega, fun c a1 a2 => by omega⟩
theorem Seek.up {L : Nat → Nat → Prop} (hL : Tot L) {x : Rw} {a m b mid s0 r0 p start r c : Nat} (h : Seek L x s0 r0 p start r) (hB : Bounds a m b mid s0 r0 p) (hh : 2 * mid = a + b ∨ 2 * mid + 1 = a + b) (hs1 : Srt L a m x) (hs2 : Srt L m b x) (hc1 : start ≤ c) (hc2 : c < r) (hl : L (x c) (x (p - c))) : Seek L x s0 r0 p (c + 1) r := by
  have hi := (hB.ins hh).2.2.2.2
  have h0 := h.le0
  have h2 := h.le2
  refine ⟨by omega, by omega, h.le2, ?_, h.highs⟩
  intro d d1 d2
  by_cases e : d = c
  · rw [e]
    exact hl
  · have i1 := hi d d1 (by omega)
    have i2 := hi c (by omega) (by omega)
    have u1 := hs1 d c (by omega) (by omega) (by omega)
    have u2 := hs2 (p - c) (p - d) (by omega) (by omega) (by omega)
    exact hL.trans _ _ _ u1 (hL.trans _ _ _ hl u2)
theorem Seek.down {L : Nat → Nat → Prop} (hL : Tot L) {x : Rw} {a m b mid s0 r0 p start r c : Nat} (h : Seek L x s0 r0 p start r) (hB : Bounds a m b mid s0 r0 p) (hh : 2 * mid = a + b ∨ 2 * mid + 1 = a + b) (hs1 : Srt L a m x) (hs2 : Srt L m b x) (hc1 : start ≤ c) (hc2 : c < r) (hl : L (x (p - c)) (x c)) : Seek L x s0 r0 p start c := by
  have hi := (hB.ins hh).2.2.2.2
  have h0 := h.le0
  have h2 := h.le2
  refine ⟨h.le0, hc1, by omega, h.lows, ?_⟩
  intro d d1 d2
  by_cases e : d = c
  · rw [e]
    exact hl
  · have i1 := hi d (by omega) d2
    have i2 := hi c (by omega) (by omega)
    have u1 := hs1 c d (by omega) (by omega) (by omega)
    have u2 := hs2 (p - d) (p - c) (by omega) (by omega) (by omega)
    exact hL.trans _ _ _ u2 (hL.trans _ _ _ hl u1)
/-- What the search's end gives: the two parts in the middle change, then each half has two parts in order, and all of the one are ahead of all of the other. -/
theorem sym_main {L : Nat → Nat → Prop} (hL : Tot L) {x : Rw} {a m b mid s0 r0 p start : Nat} (h : Seek L x s0 r0 p start start) (hB : Bounds a m b mid s0 r0 p) (hh : 2 * mid = a + b ∨ 2 * mid + 1 = a + b) (hs1 : Srt L a m x) (hs2 : Srt L m b x) (e : Nat) (he : e + start = mid + m) :
    a ≤ start ∧ start ≤ m ∧ start ≤ mid ∧ mid ≤ e ∧ m ≤ e ∧ e ≤ b ∧ Fine L a b x (rot x start m e) ∧ Srt L a start (rot x start m e) ∧ Srt L start mid (rot x start m e) ∧ Srt L mid e (rot x start m e) ∧ Srt L e b (rot x start m e) ∧ Ahead L a mid b (rot x start m e) := by
  obtain ⟨i1, i2, i3, i4, hi⟩ := hB.ins hh
  have h0 := h.le0
  have h2 := h.le2
  have hpp := hB.pp
  have hb1 := hB.am
  have hb2 := hB.mb
  have hb3 := hB.mid1
  have hb4 := hB.mid2
  have ee : e ≤ b := by
    rcases hB.way with ⟨g1, g2, g3⟩ | ⟨g1, g2, g3⟩ <;> omega
  have em : m ≤ e := by omega
  have eh : mid ≤ e := by omega
  -- the two pairs that the search knows
  have lowp : a < start → e < b → L (x (start - 1)) (x e) := by
    intro c1 c2
    have hs0 : s0 < start := by
      rcases hB.way with ⟨g1, g2, g3⟩ | ⟨g1, g2, g3⟩ <;> omega
    have := h.lows (start - 1) (by omega) (by omega)
    rw [show p - (start - 1) = e by omega] at this
    exact this
  have highp : start < m → m < e → L (x (e - 1)) (x start) := by
    intro c1 c2
    have hr0 : start < r0 := by
      rcases hB.way with ⟨g1, g2, g3⟩ | ⟨g1, g2, g3⟩ <;> omega
    have := h.highs start (Nat.le_refl _) hr0
    rw [show p - start = e - 1 by omega] at this
    exact this
  have cross : ∀ u v, start ≤ u → u < m → m ≤ v → v < e → L (x v) (x u) := by
    intro u v a1 a2 a3 a4
    have k := highp (by omega) (by omega)
    have k1 : v = e - 1 ∨ L (x v) (x (e - 1)) := by
      by_cases c : v = e - 1
      · exact Or.inl c
      · exact Or.inr (hs2 v (e - 1) a3 (by omega) (by omega))
    have k2 : u = start ∨ L (x start) (x u) := by
      by_cases c : u = start
      · exact Or.inl c
      · exact Or.inr (hs1 start u (by omega) (by omega) a2)
    have k3 : L (x v) (x start) := by
      rcases k1 with k1 | k1
      · rw [k1]; exact k
      · exact hL.trans _ _ _ k1 k
    rcases k2 with k2 | k2
    · rw [k2]; exact k3
    · exact hL.trans _ _ _ k3 k2
  have outer : ∀ u v, a ≤ u → u < start → e ≤ v → v < b → L (x u) (x v) := by
    intro u v a1 a2 a3 a4
    have k := lowp (by omega) (by omega)
    have k1 : u = start - 1 ∨ L (x u) (x (start - 1)) := by
      by_cases c : u = start - 1
      · exact Or.inl c
      · exact Or.inr (hs1 u (start - 1) a1 (by omega) (by omega))
    have k2 : v = e ∨ L (x e) (x v) := by
      by_cases c : v = e
      · exact Or.inl c
      · exact Or.inr (hs2 e v (by omega) (by omega) a4)
    have k3 : L (x u) (x e) := by
      rcases k1 with k1 | k1
      · rw [k1]; exact k
      · exact hL.trans _ _ _ k1 k
    rcases k2 with k2 | k2
    · rw [k2]; exact k3
    · exact hL.trans _ _ _ k3 k2
  have hsm : start ≤ m := by omega
  have at1 : ∀ u, start ≤ u → u < mid → rot x start m e u = x (u + (m - start)) := fun u a1 a2 => rot_at1 x start m e u (by omega)
  have at2 : ∀ u, mid ≤ u → u < e → rot x start m e u = x (u - (e - m)) := fun u a1 a2 => rot_at2 x start m e u (by omega)
  have at3 : ∀ u, u < start ∨ e ≤ u → rot x start m e u = x u := fun u a1 => rot_at3 x start m e u hsm em (by omega)
  refine ⟨by omega, hsm, by omega, eh, em, ee, (rot_fine hL x start m e hsm em cross).wide (by omega) ee, ?_, ?_, ?_, ?_, ?_⟩
  · intro u v a1 a2 a3
    rw [at3 u (by omega), at3 v (by omega)]
    exact hs1 u v a1 a2 (by omega)
  · intro u v a1 a2 a3
    rw [at1 u a1 (by omega), at1 v (by omega) a3]
    exact hs2 _ _ (by omega) (by omega) (by omega)
  · intro u v a1 a2 a3
    rw [at2 u a1 (by omega), at2 v (by omega) a3]
    exact hs1 _ _ (by omega) (by omega) (by omega)
  · intro u v a1 a2 a3
    rw [at3 u (by omega), at3 v (by omega)]
    exact hs2 u v (by omega) a2 a3
  · intro u v a1 a2 a3 a4
    by_cases c1 : u < start
    · rw [at3 u (Or.inl c1)]
      by_cases c2 : v < e
      · rw [at2 v a3 c2]
        exact hs1 _ _ a1 (by omega) (by omega)
      · rw [at3 v (by omega)]
        exact outer u v a1 c1 (by omega) a4
    · rw [at1 u (by omega) a2]
      by_cases c2 : v < e
      · rw [at2 v a3 c2]
        exact cross _ _ (by omega) (by omega) (by omega) (by omega)
      · rw [at3 v (by omega)]
        exact hs2 _ _ (by omega) (by omega) a4
end Go.Proofs.YtoeahagloobmoaaGreatDoor
