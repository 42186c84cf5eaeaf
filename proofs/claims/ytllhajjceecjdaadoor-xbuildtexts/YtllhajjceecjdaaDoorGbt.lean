/- Several texts, laid as one. -/
import Derived.Test.YtllhajjceecjdaaDoorShelf
import Derived.Test.YtllhajjceecjdaaDoorBase
import Derived.Shelf.Strings.BuilderK
import Derived.Test.YtllhajjceecjdaaDoorBuTt
import Derived.Test.YtllhajjceecjdaaDoorBuWt
/- strings.Builder where the dump's copyCheck has lost its panic: copyCheck and WriteString. -/
namespace Go.Proofs.YtllhajjceecjdaaDoor
open Go.RowKit Go.Shelf
set_option maxRecDepth 100000 in
theorem bld_fresh (b : Nat) (w : World) (h0 : w.cell? ⟨b, 0, none⟩ = some (.pointer none)) (hsh : w.shape? b = some (68, 2)) (hfz : w.frozen? ⟨b, 0, none⟩ = false) :
    Calls Tryd.prog 60 #[.pointer (some ⟨b, 0, none⟩)] w fun e w' => e = .returned (.tuple #[]) ∧ w' = w.setCell ⟨b, 0, none⟩ (.pointer (some ⟨b, 0, none⟩)) := by
  obtain ⟨j, hj, hjs⟩ := Option.map_eq_some_iff.1 (show (Tryd.prog.info? 68).map (·.size) = some 2 by kernel_rfl)
  go_enter Tryd.func60, Tryd.ntmps60
  go_wp2
  rw [Lib.run_to_unsafe w ⟨b, 0, none⟩ Tryd.underlying66 Tryd.underlying118 hj (by rw [hjs]; decide) hsh (Nat.zero_lt_succ 1)]
  simp only [Result.andThen]
  rw [Oper.upon_value]
  go_wp2
  rw [run_callFunc_extern Tryd.func61 (by kernel_rfl) (by kernel_rfl) (by kernel_rfl) (e := Extern.AbiNoEscape.same) (by kernel_rfl)]
  rw [Lib.run_noEscape]
  simp only [Result.andThen]
  rw [Oper.upon_value]
  go_wp2
  rw [Lib.run_from_unsafe w ⟨b, 0, none⟩ Tryd.underlying118 Tryd.underlying66 hj hsh (by kernel_rfl)]
  simp only [Result.andThen]
  rw [Oper.upon_value]
  go_wp2
  go_end0
  exact ⟨rfl, rfl⟩
end Go.Proofs.YtllhajjceecjdaaDoor
/- What a builder of one text tells: xbuild's String. -/
namespace Go.Proofs.YtllhajjceecjdaaDoor
open Go.RowKit Go.Maps Go.Shelf
set_option maxRecDepth 100000 in
set_option maxHeartbeats 4000000 in
theorem write_fresh (B b g n cap : Nat) (xs : List Value) (w : World) (hb : w.heap[b]? = some (.cells #[.pointer none, .slice none 0 0] 68 (0, 0))) (hB : B ≤ b) (hn : xs.length = n) (hn2 : n ≤ 1000000) (hgb : g ≠ b) (hc : ∀ j u, xs[j]? = some u → w.cell? ⟨g, j, none⟩ = some u) (h1 : ∀ u ∈ xs, u.oneCell' = true) :
    Calls Tryd.prog 59 #[.pointer (some ⟨b, 0, none⟩), .slice (some ⟨g, 0, none⟩) n cap] w fun e w' => e = .returned (.tuple #[.int .i64 (n : Nat), .nilIface]) ∧ Lib.IsBuilder 68 5 B b xs w' ∧ Kp (fun j => j = b) w w' := by
  obtain ⟨i0, hi, hz0, hz1, hz2⟩ := info_parts infoU8B
  have hlt : b < w.heap.size := (Array.getElem?_eq_some_iff.1 hb).1
  have HC := hide (bld_fresh b w (blk_cell hb 0) (by simp [World.shape?, hb]) (blk_open hb 0))
  have hb1 := heap_setCell_same w b 0 _ _ (.pointer (some ⟨b, 0, none⟩)) hb
  have hk1 := Kp.set w b 0 (.pointer (some ⟨b, 0, none⟩))
  have hc1 : ∀ j u, xs[j]? = some u → (w.setCell ⟨b, 0, none⟩ (.pointer (some ⟨b, 0, none⟩))).cell? ((⟨g, 0, none⟩ : Addr).add j) = some u := fun j u hu => by
    rw [Addr.add_mid, Nat.zero_add]
    have := hc j u hu
    unfold World.cell? at this ⊢
    simp only at this ⊢
    rw [heap_setCell_other _ _ _ _ hgb]
    exact this
  clear hc hb
  obtain ⟨W1, e1⟩ : ∃ W1, w.setCell ⟨b, 0, none⟩ (.pointer (some ⟨b, 0, none⟩)) = W1 := ⟨_, rfl⟩
  have hs1 : W1.heap.size = w.heap.size := by rw [← e1]; simp
  rw [e1] at hb1 hk1 hc1 HC
  clear e1
  have c1 : W1.cell? ⟨b, 1, none⟩ = some (.slice none 0 0) := blk_cell hb1 1
  have HB := hide hb1
  have HK := hide hk1
  have HN := hide hn
  have HS1 := hide hs1
  clear hb1 hk1 hn hs1
  go_enter Tryd.func59, Tryd.ntmps59
  go_wp2_with fail
  refine (unhide HC).mono ?_
  rintro e w1 ⟨rfl, hw⟩
  have hw2 := hw.symm
  clear hw
  subst hw2
  clear HC
  have HH1 := hide h1
  have HC1 := hide hc1
  clear h1 hc1
  have HL : Hid (Value.slice none 0 0 = .slice none 0 0) := hide rfl
  have hBW : B ≤ W1.heap.size := by have := unhide HS1; omega
  have HBW := hide hBW
  clear hBW
  go_wp2_with (at_builtin; go_loud (refine wpList_append_own _ rfl _ _ 50 rfl B 5 i0 _ 1 1 Tryd.underlying50 hi hz0 hz1 hz2 rfl (by decide) (.slice none 0 0) 0 [] rfl (World.ownsRow_nil _ _ _ _) ⟨g, 0, none⟩ n cap xs rfl (by rw [unhide HN]; omega) (unhide HC1) (unhide HH1) (by unfold maxLen; omega) (by omega) (unhide HBW) ?_); intro v8 w8 hown8 hgrow8 _; obtain ⟨a8, b8, rfl⟩ := owns_slice hown8; (have hP8 := (hgrow8.block b (Array.getElem?_eq_some_iff.1 (unhide HB)).1 (fun e => by cases e)).trans (unhide HB)); (have c8 : w8.cell? ⟨b, 1, none⟩ = some (.slice none 0 0) := blk_cell hP8 1); (have o8 := blk_open hP8 1); (have HP8 := hide hP8); (have HO8 := hide hown8); (have HG8 := hide hgrow8); clear hP8 hown8 hgrow8; go_frame)
  go_returns
  have hn3 := unhide HN
  have ho3 := unhide HO8
  rw [List.nil_append, Nat.zero_add] at ho3
  clear HO8
  subst hn3
  refine ⟨rfl, .inr (by have := Lib.BuilderAt.put hB (unhide HP8) (bs' := xs) ho3 (by decide); simpa using this), ?_⟩
  exact (((unhide HK).grown (unhide HG8) (fun j e _ => by cases e)).andThen (Kp.set _ _ _ _) (fun j _ h => h))
theorem strCells_byte (s : ByteArray) : Lib.strCells s = Lib.byteCells s.data.toList := rfl
set_option maxRecDepth 100000 in
set_option maxHeartbeats 4000000 in
theorem wordsTell_any (B B0 q b : Nat) (v : Value) (s : ByteArray) (w : World) (h : WdV B0 w q v s) (hb : w.heap[b]? = some (.cells #[.pointer none, .slice none 0 0] 68 (0, 0))) (hB : B ≤ b) (hn : s.size ≤ 1000000) :
    Calls Tryd.prog 57 #[.pointer (some ⟨q, 0, none⟩), .pointer (some ⟨b, 0, none⟩)] w fun e w' => e = .returned (.tuple #[]) ∧ Lib.IsBuilder 68 5 B b (Lib.strCells s) w' ∧ Kp (fun j => j = b) w w' := by
  have hrow := h.row
  obtain ⟨hl, g, cap, cur, fz, rfl, h2, h3, h4, h5, h6, h7, h8⟩ := id hrow
  have HW := hide (write_fresh B b g s.size cap (Lib.strCells s) w hb hB hl hn (by
    rintro rfl
    rw [hb] at h3
    injection h3 with h3
    injection h3 with _ h9 _
    cases h9) (fun j u hu => by rw [rowM_cell hrow j (by have := (List.getElem?_eq_some_iff.1 hu).1; omega)]; exact hu) (Lib.strCells_oneCell s))
  have c0 : w.cell? ⟨q, 0, none⟩ = some (.slice (some ⟨g, 0, none⟩) s.size cap) := blk_cell h.blk 0
  clear h hb h3 h8 hrow h4
  go_enter Tryd.func57, Tryd.ntmps57
  go_wp2_with fail
  refine (unhide HW).mono ?_
  rintro e w1 ⟨rfl, r1, r2⟩
  have HR := hide (And.intro r1 r2)
  clear r1 r2 HW
  go_wp2_with fail
  go_returns
  exact ⟨rfl, unhide HR⟩
set_option maxRecDepth 100000 in
set_option maxHeartbeats 4000000 in
theorem contTell_words (B B0 p g q b : Nat) (c : Nat) (v : Value) (s : ByteArray) (w : World) (h : w.cell? ⟨p, 1, none⟩ = some (.slice (some ⟨g, 0, none⟩) 1 c)) (hg : w.cell? ⟨g, 0, none⟩ = some (.iface 49 (.pointer (some ⟨q, 0, none⟩)))) (hW : WdV B0 w q v s) (hb : w.heap[b]? = some (.cells #[.pointer none, .slice none 0 0] 68 (0, 0))) (hB : B ≤ b) (hn : s.size ≤ 1000000) :
    Calls Tryd.prog 19 #[.pointer (some ⟨p, 1, none⟩), .pointer (some ⟨b, 0, none⟩)] w fun e w' => e = .returned (.tuple #[]) ∧ Lib.IsBuilder 68 5 B b (Lib.strCells s) w' ∧ Kp (fun j => j = b) w w' := by
  have HE := hide (wordsTell_any B B0 q b v s w hW hb hB hn)
  clear hW hb
  go_enter Tryd.func19, Tryd.ntmps19
  go_wp2_with fail
  go_loopw [11] (fun i wr => (i = .int .i64 0 ∧ wr = w) ∨ (i = .int .i64 1 ∧ Lib.IsBuilder 68 5 B b (Lib.strCells s) wr ∧ Kp (fun j => j = b) w wr)) (fun i _ => 1 - (intOf i).toNat)
  case atStart => exact .inl ⟨rfl, rfl⟩
  case round =>
    rcases hrel with ⟨rfl, rfl⟩ | ⟨rfl, hR1, hR2⟩
    · go_wp2_with fail
      refine (unhide HE).mono ?_
      rintro e w2 ⟨rfl, r1, r2⟩
      have HR := hide (And.intro r1 r2)
      clear r1 r2 HE
      go_wp2_with fail
      exact ⟨.inr ⟨rfl, unhide HR⟩, by simp [intOf]⟩
    · have HR := hide (And.intro hR1 hR2)
      clear hR1 hR2
      go_wp2_with fail
      go_returns
      exact ⟨rfl, unhide HR⟩
set_option maxRecDepth 100000 in
set_option maxHeartbeats 4000000 in
theorem string_words (B0 p g q : Nat) (c : Nat) (vo : Value) (k : Int) (v : Value) (s : ByteArray) (w : World) (h : BV w p vo (.slice (some ⟨g, 0, none⟩) 1 c) k) (hg : w.cell? ⟨g, 0, none⟩ = some (.iface 49 (.pointer (some ⟨q, 0, none⟩)))) (hW : WdV B0 w q v s) (hn : s.size ≤ 1000000) :
    Calls Tryd.prog 8 #[.pointer (some ⟨p, 0, none⟩)] w fun e w' => e = .returned (.string s) ∧ Below w.heap.size w w' := by
  obtain ⟨W1, e1⟩ : ∃ W1, w.alloc (.cells #[.pointer none, .slice none 0 0] 68) = W1 := ⟨_, rfl⟩
  have hb1 : Below w.heap.size w W1 := by rw [← e1]; exact (Below.refl _ _).alloc (Nat.le_refl _) _
  have hB1 : W1.heap[w.heap.size]? = some (.cells #[.pointer none, .slice none 0 0] 68 (0, 0)) := by rw [← e1]; exact alloc_new _ _
  have HE := hide (contTell_words w.heap.size B0 p g q w.heap.size c v s W1 (keptC hb1 (blk_cell h 1)) (keptC hb1 hg) ⟨block_below hW.blk hb1, rowM_below hW.row hb1⟩ hB1 (Nat.le_refl _) hn)
  have HB1 := hide hb1
  clear h hg hW hb1 hB1
  go_enter Tryd.func8, Tryd.ntmps8
  go_wp2_with fail
  refine (unhide HE).mono ?_
  rintro e w2 ⟨rfl, r1, r2⟩
  rw [strCells_byte] at r1
  have HS := hide (Tryd.Builder_String_any w.heap.size w.heap.size s.data.toList w2 r1 (Nat.le_trans (unhide HB1).size r2.size))
  have HK := hide (Kp.fresh ((Kp.of (unhide HB1)).andThen r2 (fun _ _ h => h)) (fun j hj => by subst hj; exact Nat.le_refl _))
  clear r1 r2 HE e1
  go_wp2_with fail
  refine (unhide HS).mono ?_
  rintro e w3 ⟨rfl, hb3⟩
  have HB3 := hide hb3
  clear hb3 HS
  go_wp2_with fail
  go_returns
  exact ⟨rfl, (unhide HK).trans (unhide HB3)⟩
end Go.Proofs.YtllhajjceecjdaaDoor
