/- A text that goes on: xbuild's words. -/
import Derived.Test.YtllhajjceecjdaaDoorBuMk
namespace Go.Proofs.YtllhajjceecjdaaDoor
open Go.RowKit Go.Maps
theorem infoU8B : (Tryd.prog.info? 5).map (fun i => (i.zero, i.size, i.bytes)) = some (some (.int .u8 0), 1, 1) := by kernel_rfl
/-- A text in a builder: its block, its bytes. -/
structure WdV (B : Nat) (w : World) (q : Nat) (v : Value) (s : ByteArray) : Prop where
  blk : w.heap[q]? = some (.cells #[v] 52 (0, 0))
  row : rowM w B 5 v s.size (Lib.strCells s)
theorem strCells_app (s t : ByteArray) : Lib.strCells s ++ Lib.strCells t = Lib.strCells (s ++ t) := by
  unfold Lib.strCells
  rw [← List.map_append, ByteArray.data_append, Array.toList_append]
set_option maxRecDepth 100000 in
set_option maxHeartbeats 4000000 in
theorem take_any (B q : Nat) (v : Value) (s0 s : ByteArray) (w : World) (h : WdV B w q v s0) (hn : s0.size + s.size ≤ 1000000) (hB : B ≤ w.heap.size) :
    Calls Tryd.prog 56 #[.pointer (some ⟨q, 0, none⟩), .string s] w fun e w' => e = .returned (.bool true) ∧ ∃ v', WdV B w' q v' (s0 ++ s) ∧ Kp (fun j => j = q ∨ v.ownBlock = some j) w w' := by
  have HNE := hide (rowM_apart h.row h.blk (by decide))
  have c0 : w.cell? ⟨q, 0, none⟩ = some v := blk_cell h.blk 0
  obtain ⟨i0, hi, hz0, hz1, hz2⟩ := info_parts infoU8B
  have HB0 := hide h.blk
  have HR := hide h.row
  clear h
  go_enter Tryd.func56, Tryd.ntmps56
  go_upto_region 0 with fail
  go_wp2_with (at_builtin; refine wpList_append_mark _ rfl _ _ 50 9 rfl B 5 i0 Tryd.underlying50 Tryd.underlying9 hi hz0 hz1 hz2 v s0.size (Lib.strCells s0) rfl (unhide HR) s rfl (by unfold maxLen; omega) (by omega) hB ?_; intro v8 w8 hown8 hgrow8; obtain ⟨a8, b8, rfl⟩ := rowM_slice hown8; (have hP8 : w8.heap[q]? = some (.cells #[v] 52 (0, 0)) := (hgrow8.block q (Array.getElem?_eq_some_iff.1 (unhide HB0)).1 (fun e => unhide HNE _ e.symm rfl)).trans (unhide HB0)); (have c8 := blk_cell hP8 0); (have o8 := blk_open hP8 0); (have HP8 := hide hP8); (have HO8 := hide hown8); (have HG8 := hide hgrow8); clear hP8 hown8 hgrow8; go_frame)
  go_returns
  refine ⟨rfl, _, ⟨heap_setCell_same w8 q 0 _ _ _ (unhide HP8), ?_⟩, ?_⟩
  · rw [← strCells_app, ByteArray.size_append]
    exact rowM_setOther (unhide HO8) (rowM_apart (unhide HO8) (unhide HP8) (by decide))
  · exact (((Kp.of (Below.refl _ w)).grown (unhide HG8) (fun j e _ => .inr e)).andThen (Kp.set _ _ _ _) (fun j _ h => .inl h))
set_option maxRecDepth 100000 in
set_option maxHeartbeats 4000000 in
theorem goesOn_none (p o : Nat) (s : ByteArray) (w : World) (h : w.cell? ⟨p, o, none⟩ = some (.slice none 0 0)) :
    Calls Tryd.prog 11 #[.pointer (some ⟨p, o, none⟩), .string s] w fun e w' => e = .returned (.bool false) ∧ Below w.heap.size w w' := by
  have HX : Hid (ClsB w w.drew) := hide ⟨Below.drew (Below.refl _ _)⟩
  have HCE := hide (fun w' (hC : ClsB w w') => keptC hC.bel h)
  have HI := hide (fun w' (hC : ClsB w w') => isEmpty_any p o none 0 0 w' (keptC hC.bel h))
  clear h
  go_enter Tryd.func11, Tryd.ntmps11
  go_wp2_with fail
  refine wp_region_cls (ClsB w) (by kernel_rfl) (by kernel_rfl) (unhide HX) ?_
  repeat
    (first
      | go_big_quiet_skip
      | (go_big_quiet_want
         go_big_quiet_op
         first
           | go_big_quiet_on
           | (apply Exists.intro
              refine ⟨fun w' hC => ?_, ?_⟩
              · (first
                  | (go_at_call 23; refine (unhide HI _ hC).mono ?_; rintro e w3 ⟨rfl, rfl⟩; exact ⟨rfl, hC⟩)
                  | (obtain k0 := unhide HCE _ hC; go_simp; first | done | rfl))
              go_big_quiet_on)))
  refine wpQuiet_nil ?_
  intro w2 hC2
  have hb := hC2.bel
  clear hC2 HX HCE HI
  go_wp2
  go_returns
  exact ⟨rfl, hb⟩
set_option maxRecDepth 100000 in
set_option maxHeartbeats 4000000 in
theorem goesOn_one (B p o g c q : Nat) (v : Value) (s0 s : ByteArray) (w : World) (h : w.cell? ⟨p, o, none⟩ = some (.slice (some ⟨g, 0, none⟩) 1 c)) (hg : w.cell? ⟨g, 0, none⟩ = some (.iface 49 (.pointer (some ⟨q, 0, none⟩)))) (hW : WdV B w q v s0) (hn : s0.size + s.size ≤ 1000000) (hB : B ≤ w.heap.size) :
    Calls Tryd.prog 11 #[.pointer (some ⟨p, o, none⟩), .string s] w fun e w' => e = .returned (.bool true) ∧ ∃ v', WdV B w' q v' (s0 ++ s) ∧ Kp (fun j => j = q ∨ v.ownBlock = some j) w w' := by
  have HI := hide (fun w' (hb : Below w.heap.size w w') => isEmpty_any p o (some ⟨g, 0, none⟩) 1 c w' (keptC hb h))
  have HT := hide (fun w' (hb : Below w.heap.size w w') => take_any B q v s0 s w' ⟨block_below hW.blk hb, rowM_below hW.row hb⟩ hn (Nat.le_trans hB hb.size))
  have hw0 : IntKind.i64.wrap 0 = 0 := by decide
  clear hW
  go_enter Tryd.func11, Tryd.ntmps11
  go_wp2_with fail
  go_region_law (first
    | (go_simp; go_at_call 23; refine (unhide HI _ (by (repeat first | exact Below.refl _ _ | refine Below.drew ?_))).mono ?_; rintro e w5 ⟨rfl, rfl⟩)
    | (go_simp; go_invoke; go_simp; go_at_call 56; refine (unhide HT _ (by (repeat first | exact Below.refl _ _ | refine Below.drew ?_))).mono ?_; rintro e w6 ⟨rfl, hR⟩; (have HR := hide hR); clear hR))
  all_goals
    go_wp2
    go_returns
    obtain ⟨v', r1, r2⟩ := unhide HR
    exact ⟨rfl, v', r1, (Kp.of (Below.drew (Below.refl _ w))).andThen r2 (fun _ _ h => h)⟩
end Go.Proofs.YtllhajjceecjdaaDoor
