/- A text's tokens: xbuild's words.tokens, content.tokens of one text; what it tells. -/
import Derived.Test.YtllhajjceecjdaaDoorBuWd
import Derived.Test.YtllhajjceecjdaaDoorBuTo
namespace Go.Proofs.YtllhajjceecjdaaDoor
open Go.RowKit Go.Maps Go.Shelf Go.Sort
set_option maxRecDepth 100000 in
set_option maxHeartbeats 4000000 in
theorem contTokens_words (p o g q : Nat) (c : Nat) (m : Value) (w : World) (R : Value → World → Prop) (h : w.cell? ⟨p, o, none⟩ = some (.slice (some ⟨g, 0, none⟩) 1 c)) (hg : w.cell? ⟨g, 0, none⟩ = some (.iface 49 (.pointer (some ⟨q, 0, none⟩))))
    (hE : Calls Tryd.prog 58 #[.pointer (some ⟨q, 0, none⟩), .slice none 0 0, m] w fun e w' => ∃ al n c, e = .returned (.slice al n c) ∧ R (.slice al n c) w') :
    Calls Tryd.prog 15 #[.pointer (some ⟨p, o, none⟩), .slice none 0 0, m] w fun e w' => ∃ al n c, e = .returned (.slice al n c) ∧ R (.slice al n c) w' := by
  have HE := hide hE
  clear hE
  go_enter Tryd.func15, Tryd.ntmps15
  go_wp2_with fail
  go_loopw [1, 14] (fun v i wr => (v = .slice none 0 0 ∧ i = .int .i64 0 ∧ wr = w) ∨ (∃ al n c, v = .slice al n c ∧ i = .int .i64 1 ∧ R (.slice al n c) wr)) (fun _ i _ => 1 - (intOf i).toNat)
  case atStart => exact .inl ⟨rfl, rfl, rfl⟩
  case round =>
    rcases hrel with ⟨rfl, rfl, rfl⟩ | ⟨al, n, c, rfl, rfl, hR⟩
    · go_wp2_with fail
      refine (unhide HE).mono ?_
      rintro e w2 ⟨al, n, c', rfl, hR⟩
      have HR := hide hR
      clear hR HE
      go_wp2_with fail
      exact ⟨.inr ⟨al, n, c', rfl, rfl, unhide HR⟩, by simp [intOf]⟩
    · have HR := hide hR
      clear hR
      go_wp2_with fail
      go_returns
      exact ⟨_, _, _, rfl, unhide HR⟩
theorem wd_text {w : World} {B : Nat} {v : Value} {s : ByteArray} (h : rowM w B 5 v s.size (Lib.strCells s)) :
    (convert 50 9 v).run Tryd.prog w = .ok (.string s) w := by
  obtain ⟨_, g, cap, _, _, rfl, _⟩ := id h
  refine (run_convert_bytes_arg _ 50 5 Tryd.underlying50 Tryd.underlying5 g 0 s.size cap (s.data.toList.map fun c => (c.toNat : Int)) (by simp) ?_ 9 Tryd.underlying9).trans ?_
  · intro i hi
    have hi' : i < s.data.size := hi
    rw [Nat.zero_add, rowM_cell h i (by omega)]
    simp [Lib.strCells, Array.getElem?_eq_getElem hi']
  · congr 2
    unfold strOfNums
    congr 1
    rw [List.map_map]
    have : ((fun n : Int => UInt8.ofNat n.toNat) ∘ fun c : UInt8 => (c.toNat : Int)) = id := by
      funext c
      simp
    rw [this, List.map_id]
set_option maxRecDepth 100000 in
set_option maxHeartbeats 4000000 in
theorem wordsTokens_at (B q : Nat) (v m vl : Value) (s : ByteArray) (w : World) (HL : Hid (vl = .slice none 0 0)) (h : WdV B w q v s) :
    Calls Tryd.prog 58 #[.pointer (some ⟨q, 0, none⟩), vl, m] w fun e w' => ∃ al n c, e = .returned (.slice al n c) ∧ w'.ownsRow w.heap.size 34 4 (.slice al n c) 1 [.int .i64 4, .string ⟨#[]⟩, .slice none 0 0, .string s] ∧ Below w.heap.size w w' := by
  have c0 : w.cell? ⟨q, 0, none⟩ = some v := blk_cell h.blk 0
  have k0 := wd_text h.row
  have k1 := wd_text (rowM_below h.row (Below.drew (Below.refl w.heap.size w)))
  obtain ⟨j0, hj, hy0, hy1, hy2⟩ := info_parts infoTok
  clear h
  go_enter Tryd.func58, Tryd.ntmps58
  go_upto_region 0 with fail
  go_wp2_with (at_builtin; refine wpList_append_own _ rfl _ _ 27 rfl w.heap.size 34 j0 _ 4 64 Tryd.underlying27 hj hy0 hy1 hy2 rfl (by decide) vl 0 [] rfl (by rw [unhide HL]; exact World.ownsRow_nil _ _ _ _) ⟨w.heap.size, 0, none⟩ 1 1 [.int .i64 4, .string ⟨#[]⟩, .slice none 0 0, .string s] rfl rfl (news4 (by simp [go_sem]) (by simp [go_sem]) (by simp [go_sem]) (by simp [go_sem])) (fun u hu => by simp at hu; rcases hu with rfl | rfl | rfl | rfl <;> rfl) (by unfold maxLen; omega) (by omega) (by simp) ?_; intro v8 w8 hown8 hgrow8 _; obtain ⟨a8, b8, rfl⟩ := owns_slice hown8; (have HO8 := hide hown8); (have HG8 := hide hgrow8); clear hown8 hgrow8)
  go_returns
  exact ⟨_, _, _, rfl, unhide HO8, Kp.fresh ((Kp.of (S := fun _ => False) ((Below.refl _ w).alloc (Nat.le_refl _) _)).grown (unhide HG8) (fun j e _ => by rw [unhide HL] at e; cases e)) (fun _ h => h.elim)⟩
theorem wordsTokens_any (B q : Nat) (v m : Value) (s : ByteArray) (w : World) (h : WdV B w q v s) :
    Calls Tryd.prog 58 #[.pointer (some ⟨q, 0, none⟩), .slice none 0 0, m] w fun e w' => ∃ al n c, e = .returned (.slice al n c) ∧ w'.ownsRow w.heap.size 34 4 (.slice al n c) 1 [.int .i64 4, .string ⟨#[]⟩, .slice none 0 0, .string s] ∧ Below w.heap.size w w' := wordsTokens_at B q v m _ s w (hide rfl) h
set_option maxRecDepth 100000 in
set_option maxHeartbeats 4000000 in
theorem tokens_words (B p q : Nat) (ao : Option Addr) (cc : Nat) (vn : Value) (k : Int) (v : Value) (s : ByteArray) (w : World) (hb : BV w p (.slice ao 0 cc) vn k) (hvn : w.ownsRow 0 80 1 vn 1 [.iface 49 (.pointer (some ⟨q, 0, none⟩))]) (h : WdV B w q v s) :
    Calls Tryd.prog 6 #[.pointer (some ⟨p, 0, none⟩)] w fun e w' => ∃ al n c, e = .returned (.tuple #[.slice al n c, .int .i64 0]) ∧ w'.ownsRow w.heap.size 34 4 (.slice al n c) 1 [.int .i64 4, .string ⟨#[]⟩, .slice none 0 0, .string s] ∧ Below w.heap.size w w' := by
  have HD := hide (deep_any p ao 0 cc vn k w hb)
  obtain ⟨g, cap, rfl, _, _, _, hgc⟩ := owns_at hvn (by omega)
  have c1 : w.cell? ⟨p, 1, none⟩ = some (.slice (some ⟨g, 0, none⟩) 1 cap) := blk_cell hb 1
  have g0 : w.cell? ⟨g, 0, none⟩ = some (.iface 49 (.pointer (some ⟨q, 0, none⟩))) := hgc 0 _ rfl
  have hmk : ∀ W : World, (Instr.makeMap 58 none).run Tryd.prog W = .ok (.map (some W.heap.size)) (W.alloc (.map #[] 0)) := fun W => rfl
  clear hb hgc
  go_enter Tryd.func6, Tryd.ntmps6
  go_wp2_with fail
  refine (unhide HD).mono ?_
  rintro e w1 ⟨rfl, hw⟩
  have hw2 := hw.symm
  clear hw HD
  subst hw2
  have HCT := hide (fun (wI : World) (hOI : wI.ownsMap Tryd.prog 9 entElem w.heap.size (0 + 1) ((scD []).put (.string (tx xmlL)) (.agg [.lit (.string (tx xmlUriL))]))) (hGI : (w.alloc (.map #[] 0)).grownBy wI (some w.heap.size)) => show Calls Tryd.prog 15 #[.pointer (some ⟨p, 1, none⟩), .slice none 0 0, .map (some w.heap.size)] wI fun e w' => ∃ al n c, e = .returned (.slice al n c) ∧ (fun v w' => w'.ownsRow w.heap.size 34 4 v 1 [.int .i64 4, .string ⟨#[]⟩, .slice none 0 0, .string s] ∧ Below w.heap.size w w') (.slice al n c) w' from by
    have hbI : Below w.heap.size w wI := Kp.fresh ((Kp.of (S := fun j => j = w.heap.size) ((Below.refl _ w).alloc (Nat.le_refl _) (.map #[] 0))).grown hGI (fun j e _ => (Option.some.inj e).symm)) (fun j hj => by omega)
    refine contTokens_words p 1 g q cap (.map (some w.heap.size)) wI (fun v w' => w'.ownsRow w.heap.size 34 4 v 1 [.int .i64 4, .string ⟨#[]⟩, .slice none 0 0, .string s] ∧ Below w.heap.size w w') (keptC hbI c1) (keptC hbI g0) ((wordsTokens_any B q v (.map (some w.heap.size)) s wI ⟨block_below h.blk hbI, rowM_below h.row hbI⟩).mono fun e w' hP => ?_)
    obtain ⟨al, n, c, rfl, hr, hb⟩ := hP
    exact ⟨al, n, c, rfl, ownsRow_base_a hr hbI.size, Below.then hbI hb⟩)
  have hO0 : (w.alloc (.map #[] 0)).ownsMap Tryd.prog 9 entElem w.heap.size 0 (scD []) := World.ownsMap_made _ _ _ _
  have hkX : keyOf Tryd.prog 9 (.string ⟨#[120, 109, 108]⟩) = some (.string (tx xmlL)) := Go.WideMaps.keyOf_string_mk Tryd.underlying9 (by decide)
  go_wp2_with (first
    | (refine wpList_insert_own _ rfl _ _ _ 58 rfl 9 56 strKeyed Tryd.underlying58 entElem w.heap.size 0 (scD []) rfl hO0 (by unfold maxLen; omega) _ _ (.string (tx xmlL)) rfl rfl hkX (.agg [.lit (.string (tx xmlUriL))]) [] (by rfl) ?_; intro wI hOI hGI; clear hO0 hkX; go_frame)
    | (go_at_call 15; refine (unhide HCT _ hOI hGI).mono ?_; rintro e w' ⟨al, n, c, rfl, hR⟩; (have HR := hide hR); clear hR hOI hGI HCT)
    | go_in)
  go_returns
  exact ⟨al, n, c, rfl, (unhide HR).1, (unhide HR).2⟩
set_option maxRecDepth 100000 in
set_option maxHeartbeats 4000000 in
theorem tokens_empty (p : Nat) (ao : Option Addr) (cc : Nat) (k : Int) (w : World) (hb : BV w p (.slice ao 0 cc) (.slice none 0 0) k) :
    Calls Tryd.prog 6 #[.pointer (some ⟨p, 0, none⟩)] w fun e w' => e = .returned (.tuple #[.slice none 0 0, .int .i64 0]) ∧ Below w.heap.size w w' := by
  have HD := hide (deep_any p ao 0 cc _ k w hb)
  have c1 : w.cell? ⟨p, 1, none⟩ = some (.slice none 0 0) := blk_cell hb 1
  have hmk : ∀ W : World, (Instr.makeMap 58 none).run Tryd.prog W = .ok (.map (some W.heap.size)) (W.alloc (.map #[] 0)) := fun W => rfl
  clear hb
  go_enter Tryd.func6, Tryd.ntmps6
  go_wp2_with fail
  refine (unhide HD).mono ?_
  rintro e w1 ⟨rfl, hw⟩
  have hw2 := hw.symm
  clear hw HD
  subst hw2
  have HCT := hide (fun (wI : World) (hOI : wI.ownsMap Tryd.prog 9 entElem w.heap.size (0 + 1) ((scD []).put (.string (tx xmlL)) (.agg [.lit (.string (tx xmlUriL))]))) (hGI : (w.alloc (.map #[] 0)).grownBy wI (some w.heap.size)) => show Calls Tryd.prog 15 #[.pointer (some ⟨p, 1, none⟩), .slice none 0 0, .map (some w.heap.size)] wI fun e w' => e = .returned (.slice none 0 0) ∧ Below w.heap.size w w' from by
    have hbI : Below w.heap.size w wI := Kp.fresh ((Kp.of (S := fun j => j = w.heap.size) ((Below.refl _ w).alloc (Nat.le_refl _) (.map #[] 0))).grown hGI (fun j e _ => (Option.some.inj e).symm)) (fun j hj => by omega)
    refine (contTokens_none p 1 none 0 0 _ ⟨_, rfl⟩ wI (keptC hbI c1)).mono ?_
    rintro e w' ⟨rfl, rfl⟩
    exact ⟨rfl, hbI⟩)
  have hO0 : (w.alloc (.map #[] 0)).ownsMap Tryd.prog 9 entElem w.heap.size 0 (scD []) := World.ownsMap_made _ _ _ _
  have hkX : keyOf Tryd.prog 9 (.string ⟨#[120, 109, 108]⟩) = some (.string (tx xmlL)) := Go.WideMaps.keyOf_string_mk Tryd.underlying9 (by decide)
  go_wp2_with (first
    | (refine wpList_insert_own _ rfl _ _ _ 58 rfl 9 56 strKeyed Tryd.underlying58 entElem w.heap.size 0 (scD []) rfl hO0 (by unfold maxLen; omega) _ _ (.string (tx xmlL)) rfl rfl hkX (.agg [.lit (.string (tx xmlUriL))]) [] (by rfl) ?_; intro wI hOI hGI; clear hO0 hkX; go_frame)
    | (go_at_call 15; refine (unhide HCT _ hOI hGI).mono ?_; rintro e w' ⟨rfl, hR⟩; (have HR := hide hR); clear hR hOI hGI HCT)
    | go_in)
  go_returns
  exact ⟨rfl, unhide HR⟩
end Go.Proofs.YtllhajjceecjdaaDoor
