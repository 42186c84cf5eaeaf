/- Digits parted by commas: xnum's partDigits. -/
import Derived.Test.YtnpdjddebeipiaaGreatDoorNumSmall
import Derived.Lib.OthersKept
import Derived.ArgAppend
import Derived.WalkSmall
namespace Go.Proofs.YtnpdjddebeipiaaGreatDoor
open Go.RowKit
/-- Digits from a place on, a comma ahead of each group but the first, counted from the end. -/
def partF (n g : Nat) : Nat → List UInt8 → List UInt8
  | _, [] => []
  | p, c :: r => (if 0 < p ∧ (n - p) % g = 0 then [44] else []) ++ c :: partF n g (p + 1) r
def cellsB (l : List UInt8) : List Value := l.map fun c => Value.int .u8 (c.toNat : Int)
theorem cellsB_append (l m : List UInt8) : cellsB (l ++ m) = cellsB l ++ cellsB m := by simp [cellsB]
theorem rowB_slice {w : World} {base : Nat} {e : TypeId} {size : Nat} {v : Value} {n : Nat} {xs : List Value} (h : w.ownsRow base e size v n xs) : ∃ a c, v = .slice a n c := by
  rcases h.2 with ⟨rfl, h0⟩ | ⟨g, cap, cur, rfl, _⟩
  · exact ⟨none, 0, by rw [h0]⟩
  · exact ⟨_, _, rfl⟩
theorem rowB_ge {w : World} {base : Nat} {e : TypeId} {size : Nat} {v : Value} {n : Nat} {xs : List Value} (h : w.ownsRow base e size v n xs) : ∀ k, v.ownBlock = some k → base ≤ k := by
  intro k hk
  rcases h.2 with ⟨rfl, _⟩ | ⟨g, cap, cur, rfl, h2, _⟩
  · simp [Value.ownBlock] at hk
  · simp [Value.ownBlock] at hk; omega
theorem rowB_text {w : World} {base : Nat} {v : Value} {l : List UInt8} (h : w.ownsRow base 5 1 v l.length (cellsB l)) :
    (convert 84 9 v).run Tryz.prog w = .ok (.string ⟨l.toArray⟩) w := by
  rcases h.2 with ⟨rfl, h0⟩ | ⟨g, cap, cur, rfl, _⟩
  · rw [run_convert_bytes_nil _ 84 5 Tryz.underlying84 Tryz.underlying5 _ _ _ Tryz.underlying9]
    have : l = [] := List.length_eq_zero_iff.1 h0
    subst this
    rfl
  · refine (run_convert_bytes_arg _ 84 5 Tryz.underlying84 Tryz.underlying5 g 0 l.length cap (l.map fun c => (c.toNat : Int)) (by simp) ?_ 9 Tryz.underlying9).trans ?_
    · intro i hi
      rw [Nat.zero_add, h.cellAt i (by omega)]
      simp [cellsB, hi]
    · congr 2
      unfold strOfNums
      congr 2
      rw [List.map_map]
      have : ((fun n : Int => UInt8.ofNat n.toNat) ∘ fun c : UInt8 => (c.toNat : Int)) = id := by
        funext c
        simp
      rw [this, List.map_id]
theorem one_new (w : World) (u : Value) (t : TypeId) : ∀ j x, [u][j]? = some x → (w.alloc (.cells #[u] t)).cell? ((⟨w.heap.size, 0, none⟩ : Addr).add j) = some x := by
  intro j x h
  have e : (⟨w.heap.size, 0, none⟩ : Addr).add j = ⟨w.heap.size, j, none⟩ := by unfold Addr.add; split <;> simp_all
  rw [e, World.cell?_alloc_new]
  simpa using h
theorem block_grown {w w' : World} {o x : Obj} {row : Option Nat} {k : Nat} (h : (w.alloc o).grownBy w' row) (hk : w.heap[k]? = some x) (hr : some k ≠ row) : w'.heap[k]? = some x := by
  have hlt := (Array.getElem?_eq_some_iff.1 hk).1
  rw [h.block k (by simp; omega) hr, Lib.alloc_old w o k hlt]; exact hk
theorem below_grown {w0 w w' : World} {base : Nat} {o : Obj} {row : Option Nat} (h0 : Below base w0 w) (h : (w.alloc o).grownBy w' row) (hb : base ≤ w.heap.size) (hr : ∀ k, row = some k → base ≤ k) : Below base w0 w' :=
  Below.grown (h0.alloc hb o) h (by simp; omega) hr
theorem part_step (s : ByteArray) (n g pos : Nat) (hp : pos < s.size) : partF n g pos (s.data.toList.drop pos) = (if 0 < pos ∧ (n - pos) % g = 0 then [44] else []) ++ (s[pos]'hp) :: partF n g (pos + 1) (s.data.toList.drop (pos + 1)) := by
  have hl : pos < s.data.toList.length := hp
  rw [List.drop_eq_getElem_cons hl, partF]
  rfl
set_option maxRecDepth 100000 in
set_option maxHeartbeats 2000000 in
theorem partDigits_any (s : ByteArray) (g : Nat) (w : World) (hs : s.size ≤ 1000000) (hg : 1 ≤ g) (hg2 : g ≤ 1000000) (ha : ∀ p (h : p < s.size), (s[p]'h).toNat < 128) :
    Calls Tryz.prog 71 #[.string s, .int .i64 (g : Int)] w fun e w' => e = .returned (.string ⟨(partF s.size g 0 s.data.toList).toArray⟩) ∧ Below w.heap.size w w' := by
  obtain ⟨i0, hi, hz0, hz1, hz2⟩ := info_parts (show (Tryz.prog.info? 5).map (fun i => (i.zero, i.size, i.bytes)) = some (some (.int .u8 0), 1, 1) by kernel_rfl)
  have hg0 : ((g : Int) == 0) = false := by simpa using (show ¬ (g = 0) by omega)
  have HA := hide ha
  clear ha
  go_enter Tryz.func71, Tryz.ntmps71
  go_wp2_with fail
  go_loopw [5] (fun v wr => ∃ (pos : Nat) (l : List UInt8), wr.heap[w.heap.size]? = some (.stringIter s pos) ∧ wr.ownsRow (w.heap.size + 1) 5 1 v l.length (cellsB l) ∧ Below w.heap.size w wr ∧ w.heap.size + 1 ≤ wr.heap.size ∧ partF s.size g 0 s.data.toList = l ++ partF s.size g pos (s.data.toList.drop pos) ∧ l.length ≤ 2 * pos ∧ pos ≤ s.size) (fun _ wr => s.size - wr.iterPos w.heap.size)
  case atStart =>
    refine ⟨0, [], ?_, ⟨rfl, .inl ⟨rfl, rfl⟩⟩, ?_, ?_, rfl, Nat.zero_le _, Nat.zero_le _⟩
    · have := World.iter_heap w s 0
      simpa using this
    · exact (Below.refl _ _).alloc (Nat.le_refl _) _
    · show w.heap.size + 1 ≤ (w.alloc _).heap.size
      simp
  case round =>
    obtain ⟨pos, l, hk, hrow, hbr, hsz0, he, hll, hps⟩ := hrel
    by_cases hp : pos < s.size
    · have hnx := fun ty => Lib.run_next_any_at (P := Tryz.prog) wr w.heap.size s pos ty hk hp
      have hd := decode_ascii s pos hp (unhide HA pos hp)
      rw [hd] at hnx
      have hc128 := unhide HA pos hp
      have HF := hide (he.trans (congrArg (l ++ ·) (part_step s s.size g pos hp)))
      have hr1 := ownsRow_iterAt hrow (Nat.lt_succ_self w.heap.size) s (pos + 1)
      have hk1 := Lib.iterAt_heap wr w.heap.size s pos (pos + 1) hk
      have hb1 := Lib.below_iterAt hbr (Nat.le_refl w.heap.size) s (pos + 1)
      have hip := iterPos_of hk
      have HIP := hide hip
      have hz1' : (wr.iterAt w.heap.size s (pos + 1)).heap.size = wr.heap.size := Lib.iterAt_size _ _ _ _
      rw [← hz1'] at hsz0
      clear hd he hrow hk hbr hip hz1'
      generalize hc : (s[pos]'hp) = c at *
      clear hc
      generalize hW : wr.iterAt w.heap.size s (pos + 1) = W at *
      have HW := hide hW
      clear hW
      have HK := hide hk1
      have HB := hide hb1
      clear hk1 hb1
      have hm : ((s.size : Int) - (pos : Int)).tmod (g : Int) = (((s.size - pos) % g : Nat) : Int) := by
        rw [show (s.size : Int) - (pos : Int) = ((s.size - pos : Nat) : Int) by omega]
        rfl
      have hcu : IntKind.u8.wrap (c.toNat : Int) = (c.toNat : Int) := by
        rw [IntKind.wrap_u8]; omega
      have hge := rowB_ge hr1
      have HG := hide hge
      clear hge
      obtain ⟨ad, cp, rfl⟩ := rowB_slice hr1
      by_cases hcm : 0 < pos ∧ (s.size - pos) % g = 0
      · obtain ⟨hc1, hc2⟩ := hcm
        rw [hc2] at hm
        have hc1' : (0 : Int) < (pos : Int) := by omega
        have HF2 := hide (show partF s.size g 0 s.data.toList = (l ++ [44, c]) ++ partF s.size g (pos + 1) (s.data.toList.drop (pos + 1)) by rw [unhide HF, if_pos ⟨hc1, hc2⟩]; simp)
        go_wp2_with (first | (at_builtin; (have := hown2); refine wpList_append_own _ rfl _ _ 84 rfl (w.heap.size + 1) 5 i0 (.int .u8 0) 1 1 Tryz.underlying84 hi hz0 hz1 hz2 rfl (by decide) _ _ _ rfl (hown2.alloc _) ⟨w2.heap.size, 0, none⟩ 1 1 [.int .u8 (c.toNat : Int)] rfl rfl (one_new w2 _ _) (fun x hx => by simp at hx; subst hx; rfl) (by unfold maxLen; omega) (by omega) (by simp; omega) ?_; intro v3 w3 hown3 hgrow3 _) | (at_builtin; refine wpList_append_own _ rfl _ _ 84 rfl (w.heap.size + 1) 5 i0 (.int .u8 0) 1 1 Tryz.underlying84 hi hz0 hz1 hz2 rfl (by decide) _ _ _ rfl (hr1.alloc _) ⟨W.heap.size, 0, none⟩ 1 1 [.int .u8 44] rfl rfl (one_new W _ _) (fun x hx => by simp at hx; subst hx; rfl) (by unfold maxLen; omega) (by omega) (by simp; omega) ?_; intro v2 w2 hown2 hgrow2 _; have hs2 : w.heap.size + 1 ≤ w2.heap.size := by have := hgrow2.size; simp at this; omega))
        have hge2 := rowB_ge hown2
        have hg2' : (W.alloc (.cells #[.int .u8 44] 5)).grownBy w2 (Value.slice ad l.length cp).ownBlock := hgrow2
        have hk2 := block_grown hg2' (unhide HK) (fun e => by have := unhide HG _ e.symm; omega)
        have hb2 := below_grown (unhide HB) hg2' (by omega) (fun k hk => by have := unhide HG k hk; omega)
        have hg3' : (w2.alloc (.cells #[.int .u8 (c.toNat : Int)] 5)).grownBy w3 v2.ownBlock := hgrow3
        have hk3 := block_grown hg3' hk2 (fun e => by have := hge2 _ e.symm; omega)
        have hb3 := below_grown hb2 hg3' (by omega) (fun k hk => by have := hge2 k hk; omega)
        have hs3 : w.heap.size + 1 ≤ w3.heap.size := by have := (Array.getElem?_eq_some_iff.1 hk3).1; omega
        refine ⟨⟨pos + 1, l ++ [44, c], hk3, ?_, hb3, hs3, unhide HF2, by simp; omega, hp⟩, ?_⟩
        · rw [cellsB_append, show (l ++ [44, c]).length = l.length + 1 + 1 by simp]
          simpa [cellsB] using hown3
        · rw [iterPos_of hk3, unhide HIP]; omega
      · have HF2 := hide (show partF s.size g 0 s.data.toList = (l ++ [c]) ++ partF s.size g (pos + 1) (s.data.toList.drop (pos + 1)) by rw [unhide HF, if_neg hcm]; simp)
        by_cases hp0 : pos = 0
        · subst hp0
          go_wp2_with (at_builtin; refine wpList_append_own _ rfl _ _ 84 rfl (w.heap.size + 1) 5 i0 (.int .u8 0) 1 1 Tryz.underlying84 hi hz0 hz1 hz2 rfl (by decide) _ _ _ rfl (hr1.alloc _) ⟨W.heap.size, 0, none⟩ 1 1 [.int .u8 (c.toNat : Int)] rfl rfl (one_new W _ _) (fun x hx => by simp at hx; subst hx; rfl) (by unfold maxLen; omega) (by omega) (by simp; omega) ?_; intro v2 w2 hown2 hgrow2 _)
          have hg2' : (W.alloc (.cells #[.int .u8 (c.toNat : Int)] 5)).grownBy w2 (Value.slice ad l.length cp).ownBlock := hgrow2
          have hk2 := block_grown hg2' (unhide HK) (fun e => by have := unhide HG _ e.symm; omega)
          have hb2 := below_grown (unhide HB) hg2' (by omega) (fun k hk => by have := unhide HG k hk; omega)
          have hs2 : w.heap.size + 1 ≤ w2.heap.size := by have := (Array.getElem?_eq_some_iff.1 hk2).1; omega
          refine ⟨⟨0 + 1, l ++ [c], hk2, ?_, hb2, hs2, unhide HF2, by simp; omega, hp⟩, ?_⟩
          · rw [cellsB_append, show (l ++ [c]).length = l.length + 1 by simp]
            simpa [cellsB] using hown2
          · rw [iterPos_of hk2, unhide HIP]; omega
        · have hc1' : (0 : Int) < (pos : Int) := by omega
          have hne : (((s.size - pos) % g : Nat) : Int) ≠ 0 := by
            have : ¬ (s.size - pos) % g = 0 := fun e => hcm ⟨by omega, e⟩
            omega
          clear hcm HF
          generalize (s.size - pos) % g = r at *
          have hr0 : ((r : Int) == 0) = false := by simpa using hne
          go_wp2_with (at_builtin; refine wpList_append_own _ rfl _ _ 84 rfl (w.heap.size + 1) 5 i0 (.int .u8 0) 1 1 Tryz.underlying84 hi hz0 hz1 hz2 rfl (by decide) _ _ _ rfl (hr1.alloc _) ⟨W.heap.size, 0, none⟩ 1 1 [.int .u8 (c.toNat : Int)] rfl rfl (one_new W _ _) (fun x hx => by simp at hx; subst hx; rfl) (by unfold maxLen; omega) (by omega) (by simp; omega) ?_; intro v2 w2 hown2 hgrow2 _)
          have hg2' : (W.alloc (.cells #[.int .u8 (c.toNat : Int)] 5)).grownBy w2 (Value.slice ad l.length cp).ownBlock := hgrow2
          have hk2 := block_grown hg2' (unhide HK) (fun e => by have := unhide HG _ e.symm; omega)
          have hb2 := below_grown (unhide HB) hg2' (by omega) (fun k hk => by have := unhide HG k hk; omega)
          have hs2 : w.heap.size + 1 ≤ w2.heap.size := by have := (Array.getElem?_eq_some_iff.1 hk2).1; omega
          refine ⟨⟨pos + 1, l ++ [c], hk2, ?_, hb2, hs2, unhide HF2, by simp; omega, hp⟩, ?_⟩
          · rw [cellsB_append, show (l ++ [c]).length = l.length + 1 by simp]
            simpa [cellsB] using hown2
          · rw [iterPos_of hk2, unhide HIP]; omega
    · have hnx := fun ty => Lib.run_next_end_at (P := Tryz.prog) wr w.heap.size s pos ty hk hp
      have HF := hide (show partF s.size g 0 s.data.toList = l by
        rw [he, List.drop_eq_nil_of_le (show s.data.toList.length ≤ pos by have : s.data.toList.length = s.size := rfl; omega), partF, List.append_nil])
      have hcv := rowB_text hrow
      clear he
      go_wp2
      go_ret
      exact ⟨by rw [unhide HF]; rfl, hbr⟩
end Go.Proofs.YtnpdjddebeipiaaGreatDoor
