/- References in a document where no entity is declared: xmlscan's reference. -/
import Derived.Test.YtefjfjieoiegnaaGreatDoorGau
namespace Go.Proofs.YtefjfjieoiegnaaGreatDoor
open Go.RowKit
set_option maxHeartbeats 1000000 in
/-- add of a name where nothing is declared. -/
theorem add_none (B q p m : Nat) (flat : Bool) (vx vo vt vr : Value) (name : List Nat) (n : Int) (s : RS) (w : World) (hX : ExpAt w q p flat vx (.slice none 0 0)) (R : Rd w B p m vo vt vr s) (hE : s.ents = []) (hsz : (T name).size ≤ 100000) :
    Calls Tryz.prog 140 #[.pointer (some ⟨q, 0, none⟩), .agg #[.string (T []), .string (T name), .int .i64 n]] w fun e w' => e = .returned (.int .i64 5) ∧ Below w.heap.size w w' := by
  have hb : Below w.heap.size w (w.alloc (.cells #[.string (T []), .string (T name), .int .i64 n] 135)) := (Below.refl _ _).alloc (Nat.le_refl _) _
  have c0 : w.cell? ⟨q, 0, none⟩ = some (.pointer (some ⟨p, 0, none⟩)) := blk_cell hX 0
  have c2 : w.cell? ⟨p, 2, none⟩ = some (.map (some m)) := blk_cell R.blk 2
  have he := R.ents
  rw [hE] at he
  have hL := fun W (h : EntsAt W B m []) => look_none h (T name) (by omega)
  have HL := hide hL
  have HEN := hide (R.on hb).ents
  rw [hE] at HEN
  have hl1 := unhide HL _ (unhide HEN)
  have hne := nil_T (l := []) rfl
  clear hL he hX R
  have HMK : Hid (∀ W, Below (w.heap.size + 1) (w.alloc (.cells #[.string (T []), .string (T name), .int .i64 n] 135)) W → W.cell? ⟨q, 0, none⟩ = some (.pointer (some ⟨p, 0, none⟩)) ∧ W.cell? ⟨p, 2, none⟩ = some (.map (some m)) ∧ W.cell? ⟨w.heap.size, 1, none⟩ = some (.string (T name)) ∧ (Instr.lookup 61 (.map (some m)) (.string (T name)) true).run Tryz.prog W = .ok (.tuple #[.agg #[.string ⟨#[]⟩], .bool false]) W ∧ Below (w.heap.size + 1) (w.alloc (.cells #[.string (T []), .string (T name), .int .i64 n] 135)) W) := by
    refine hide fun W hW => ?_
    have hz : (w.alloc (.cells #[.string (T []), .string (T name), .int .i64 n] 135)).heap.size = w.heap.size + 1 := by simp
    have hW' := hW
    rw [← hz] at hW'
    refine ⟨keptC hW' (keptC hb c0), keptC hW' (keptC hb c2), keptC hW' (blk_cell (MapKept.heap_alloc w _).1 1), unhide HL W ((unhide HEN).kept ?_), hW⟩
    obtain ⟨es, ck, hm⟩ := (unhide HEN).map
    exact hW'.block m (Array.getElem?_eq_some_iff.1 hm).1
  clear hl1
  go_enter Tryz.func140, Tryz.ntmps140
  go_wp2_with fail
  go_region_held3 (fun W => W.cell? ⟨q, 0, none⟩ = some (.pointer (some ⟨p, 0, none⟩)) ∧ W.cell? ⟨p, 2, none⟩ = some (.map (some m)) ∧ W.cell? ⟨w.heap.size, 1, none⟩ = some (.string (T name)) ∧ (Instr.lookup 61 (.map (some m)) (.string (T name)) true).run Tryz.prog W = .ok (.tuple #[.agg #[.string ⟨#[]⟩], .bool false]) W ∧ Below (w.heap.size + 1) (w.alloc (.cells #[.string (T []), .string (T name), .int .i64 n] 135)) W)
    ((refine unhide HMK _ ?_; (repeat first | assumption | refine Below.drew ?_ | refine Below.setCell ?_ (by first | omega | (simp; omega) | (simp; done)) _ | refine Below.alloc ?_ (by first | omega | (simp; omega) | (simp; done)) _ | exact Below.refl _ _)))
    (fail)
  all_goals go_wp2_with fail
  all_goals go_ret
  all_goals exact ⟨rfl, by (repeat first | assumption | refine Below.drew ?_ | refine Below.setCell ?_ (by first | omega | (simp; omega) | (simp; done)) _ | refine Below.alloc ?_ (by first | omega | (simp; omega) | (simp; done)) _ | exact Below.refl _ _)⟩
theorem numX_two (base : Nat) {l : List Nat} {m k : Nat} (h : numX base 0 0 l = some (m, k)) : 2 ≤ k ∧ k ≤ l.length ∧ charR (m : Int) = true := by
  cases l with
  | nil => cases h
  | cons c t =>
    rw [numX_cons, if_neg (by rintro ⟨_, h⟩; revert h; decide)] at h
    split at h
    · cases h
    · split at h
      · cases h
      · obtain ⟨a1, a2, _, a4⟩ := numX_take base t _ 1 m k (Nat.min_le_right _ _) h
        exact ⟨by omega, by simp; omega, a4⟩
theorem five_asc (n : List Nat) : okL (five n) ∧ (T (five n)).size ≤ 1 := by
  unfold five
  repeat' split
  all_goals exact ⟨fun c hc => (by first | (rw [List.mem_singleton.1 hc]; decide) | cases hc), (by decide)⟩
theorem readRef_facts {l : List Nat} {r : Ref} (hl : okL l) (h : readRef l = some r) : okL r.said ∧ (T r.said).size ≤ 4 ∧ 2 ≤ r.size ∧ (T r.said).size ≤ r.size ∧ r.size ≤ l.length ∧ okL r.name ∧ (T r.name).size ≤ (T l).size := by
  have hnum : ∀ (base ah : Nat), ah ≤ l.length → 2 ≤ ah → readNum base ah (l.drop ah) = some r → okL r.said ∧ (T r.said).size ≤ 4 ∧ 2 ≤ r.size ∧ (T r.said).size ≤ r.size ∧ r.size ≤ l.length ∧ okL r.name ∧ (T r.name).size ≤ (T l).size := by
    intro base ah hp h2 hr
    unfold readNum at hr
    cases hx : numX base 0 0 (l.drop ah) with
    | none => rw [hx] at hr; cases hr
    | some mk =>
      rw [hx] at hr
      cases hr
      obtain ⟨m, k⟩ := mk
      obtain ⟨a1, a2, a3⟩ := numX_two base hx
      rw [List.length_drop] at a2
      have h4 : (T [m]).size ≤ 4 := by
        rw [T_size]
        show ([m].flatMap runeB).length ≤ 4
        simpa using runeB_len m
      refine ⟨fun c hc => ?_, h4, ?_, ?_, ?_, fun c hc => (by cases hc), Nat.zero_le _⟩
      · rw [List.mem_singleton.1 hc]; exact a3
      · show 2 ≤ ah + k; omega
      · show (T [m]).size ≤ ah + k; omega
      · show ah + k ≤ l.length; omega
  unfold readRef at h
  split at h
  · rename_i hp
    exact hnum 16 3 (List.IsPrefix.length_le (List.isPrefixOf_iff_prefix.1 hp)) (by omega) h
  · split at h
    · rename_i hp
      exact hnum 10 2 (List.IsPrefix.length_le (List.isPrefixOf_iff_prefix.1 hp)) (by omega) h
    · simp only at h
      split at h
      · rename_i hc
        cases h
        obtain ⟨f1, f2⟩ := five_asc (nameA (l.drop 1))
        have hd := pre_drop (nameA_pre (l.drop 1))
        have hh := heads_true (Bool.and_eq_true_iff.1 hc).2
        have hlen : (nameA (l.drop 1)).length + 2 ≤ l.length := by
          have := congrArg List.length hh
          rw [List.length_cons, List.length_drop] at this
          omega
        refine ⟨f1, by show (T (five _)).size ≤ 4; omega, by show 2 ≤ _ + 2; omega, by show (T (five _)).size ≤ _ + 2; omega, hlen, okL_pre (okL_drop hl 1) (nameA_pre _), ?_⟩
        have h1 := size_pre (nameA_pre (l.drop 1))
        have h2 := sz_app (l.take 1) (l.drop 1)
        rw [List.take_append_drop] at h2
        show (T (nameA (l.drop 1))).size ≤ _
        omega
      · cases h
/-- What a reference leaves: the text longer, in its cell; the reader behind it. -/
def refP (o : Except Er (List Nat × RS)) (B C p g j : Nat) (v : Value) (t : List Nat) (e : Ending) (w w' : World) : Prop := match o with
  | .error (c, pl) => e = .returned (.bool false) ∧ Wrong w' p c pl ∧ Below B w w'
  | .ok (l, s') => e = .returned (.bool true) ∧ ∃ w1 v', Kp (fun k => v.ownBlock = some k) w w1 ∧ w1.ownsRow C 5 1 v' (tx (t ++ l)).length (byteCells (tx (t ++ l))) ∧ Moves p s'.place (w1.setCell ⟨g, j, none⟩ v') w'
theorem reference_eq (s : RS) (flat : Bool) (hE : s.ents = []) : s.reference flat = match readRef s.rest with
  | none => .error (5, s.place)
  | some r => if r.said = [] then .error (5, s.place) else .ok (r.said, s.adv r.size) := by
  unfold RS.reference
  cases readRef s.rest with
  | none => rfl
  | some r =>
    simp only
    rw [hE]
    by_cases h : r.said = []
    · rw [if_pos h]
      unfold addX
      rw [if_neg (by simpa using h)]
      rfl
    · rw [if_neg h]
      unfold addX
      rw [if_pos h]
      rfl
theorem cell_same {w w' : World} {k : Nat} (h : w'.heap[k]? = w.heap[k]?) (i : Nat) : w'.cell? ⟨k, i, none⟩ = w.cell? ⟨k, i, none⟩ := by simp [World.cell?, h]
theorem open_same {w w' : World} {k : Nat} (h : w'.heap[k]? = w.heap[k]?) (i : Nat) : w'.frozen? ⟨k, i, none⟩ = w.frozen? ⟨k, i, none⟩ := by simp [World.frozen?, h]
set_option maxRecDepth 100000 in
set_option maxHeartbeats 4000000 in
theorem reference_none (B C p m g j : Nat) (flat : Bool) (vo vt vr v : Value) (t : List Nat) (s : RS) (w : World) (R : Rd w B p m vo vt vr s) (hG : Good s) (hE : s.ents = []) (hs : s.sees [38] = true)
    (hc : w.cell? ⟨g, j, none⟩ = some v) (ho : w.frozen? ⟨g, j, none⟩ = false) (hrow : w.ownsRow C 5 1 v (tx t).length (byteCells (tx t))) (hB : B ≤ C) (hC : C ≤ w.heap.size) (hl : (tx t).length ≤ 100000) (hng : v.ownBlock ≠ some g) (hgj : g = p → j = 6) :
    Calls Tryz.prog 107 #[.pointer (some ⟨p, 0, none⟩), .pointer (some ⟨g, j, none⟩), .bool flat] w fun e w' => refP (s.reference flat) B C p g j v t e w w' := by
  obtain ⟨at', ct, rfl⟩ := owns_slice hrow
  have hlow := R.low
  have hlt := R.lt
  have hBw : B ≤ w.heap.size := by omega
  have HD := hide (reference_eq s flat hE)
  have c1 : w.cell? ⟨p, 1, none⟩ = some (.int .i64 (s.place : Nat)) := R.at.pos
  have o1 : w.frozen? ⟨p, 1, none⟩ = false := R.at.thaw
  have hh : heads 38 s.rest = true := by rw [← isPre_one]; exact hs
  have hz := hG.fine.lt
  go_enter Tryz.func107, Tryz.ntmps107
  go_wp2_with fail
  refine (rest_any p s _ R.at).mono ?_
  rintro e w0 ⟨rfl, hb0⟩
  go_wp2_with fail
  refine (readReference_any s.rest _ hG.fine.okR (by omega) hh).mono ?_
  rintro e w1 ⟨rfl, hb1⟩
  have hb := Below.then hb0 hb1
  have R1 := R.on hb
  have hrow1 := owns_below hrow hb
  have hc1 := keptC hb hc
  have ho1 := keptO hb hc ho
  have c11 := keptC hb c1
  have o11 := keptO hb c1 o1
  have hlt1 : p < w1.heap.size := R1.lt
  have hgt1 : g < w1.heap.size := block_lt_of_cell hc1
  clear hrow hc ho c1 o1 hb0 hb1
  cases hr : readRef s.rest with
  | none =>
    have hd := unhide HD
    rw [hr] at hd
    have HEQ := hide hd
    clear hd hr HD hrow1
    rw [show refV s.rest none = .agg #[.string ⟨#[]⟩, .string ⟨#[]⟩, .int .i64 0] from rfl]
    go_wp2_with (go_at_call 63; refine (fail_rd B p 5 s.place _ (block_below R1.blk (by (repeat first | assumption | with_reducible exact Below.refl _ _ | refine Below.drew ?_ | refine Below.setCell ?_ (by first | omega | (simp; omega) | (simp; done)) _ | refine Below.alloc ?_ (by first | omega | (simp; omega) | (simp; done)) _ | exact Below.refl _ _))) rfl hlow).mono ?_; rintro e w5 ⟨rfl, hw5, hb5⟩)
    go_ret
    rw [unhide HEQ]
    exact ⟨rfl, hw5, ((hb.mono hBw).trans (by (repeat first | assumption | with_reducible exact Below.refl _ _ | refine Below.drew ?_ | refine Below.setCell ?_ (by first | omega | (simp; omega) | (simp; done)) _ | refine Below.alloc ?_ (by first | omega | (simp; omega) | (simp; done)) _ | exact Below.refl _ _))).trans hb5⟩
  | some r =>
    obtain ⟨f1, f2, f3, f4, f5, f6, f7⟩ := readRef_facts hG.fine.okR hr
    have hd := unhide HD
    rw [hr] at hd
    simp only at hd
    have hsz : 1 ≤ (T (s.rest.take r.size)).size := by
      rw [heads_true hh, show r.size = (r.size - 1) + 1 by omega, List.take_succ_cons, sz_cons (by decide)]
      omega
    have hsz2 := size_pre (List.take_prefix r.size s.rest)
    rw [show refV s.rest (some r) = .agg #[.string (T r.said), .string (T r.name), .int .i64 ((T (s.rest.take r.size)).size : Nat)] from rfl]
    have HPL : Hid ((s.adv r.size).place = s.place + (T (s.rest.take r.size)).size) := hide (place_adv s r.size)
    generalize hgn : (T (s.rest.take r.size)).size = n at *
    have hX : ∀ W, Below (w1.heap.size + 2) ((w1.alloc (.cells #[.string (T r.said), .string (T r.name), .int .i64 (n : Nat)] 135)).alloc (.cells #[.pointer (some ⟨p, 0, none⟩), .bool flat, .slice at' (tx t).length ct, .slice none 0 0] 138)) W → ExpAt W (w1.heap.size + 1) p flat (.slice at' (tx t).length ct) (.slice none 0 0) := by
      intro W hW
      have h1 := (MapKept.heap_alloc (w1.alloc (.cells #[.string (T r.said), .string (T r.name), .int .i64 (n : Nat)] 135)) (.cells #[.pointer (some ⟨p, 0, none⟩), .bool flat, .slice at' (tx t).length ct, .slice none 0 0] 138)).1
      rw [show (w1.alloc (.cells #[.string (T r.said), .string (T r.name), .int .i64 (n : Nat)] 135)).heap.size = w1.heap.size + 1 by simp] at h1
      rw [ExpAt, hW.block _ (by omega)]
      exact h1
    have HX := hide hX
    have HG : Hid (w1.heap.size ≤ w1.heap.size) := hide (Nat.le_refl _)
    clear hX hr HD hgn
    by_cases hsd : r.said = []
    · rw [if_pos hsd] at hd
      have HEQ := hide hd
      have HSD := hide hsd
      clear hd hsd
      have HNM : Hid ((T r.name).size ≤ 100000) := hide (by omega)
      have HE := hide hE
      rw [unhide HSD] at HX ⊢
      go_wp2_with (first
        | (go_at_call 140; refine (add_none B (w1.heap.size + 1) p m flat (.slice at' (tx t).length ct) vo vt vr r.name n s _ (unhide HX _ (by (repeat first | assumption | with_reducible exact Below.refl _ _ | refine Below.drew ?_ | refine Below.setCell ?_ (by first | omega | (simp; omega) | (simp; done)) _ | refine Below.alloc ?_ (by first | omega | (simp; omega) | (simp; done)) _ | exact Below.refl _ _))) (R1.on (by (repeat first | assumption | with_reducible exact Below.refl _ _ | refine Below.drew ?_ | refine Below.setCell ?_ (by first | omega | (simp; omega) | (simp; done)) _ | refine Below.alloc ?_ (by first | omega | (simp; omega) | (simp; done)) _ | exact Below.refl _ _))) (unhide HE) (unhide HNM)).mono ?_; rintro e w4 ⟨rfl, hb4⟩; have R4 : Rd w4 B p m vo vt vr s := (R1.on (by (repeat first | assumption | with_reducible exact Below.refl _ _ | refine Below.drew ?_ | refine Below.setCell ?_ (by first | omega | (simp; omega) | (simp; done)) _ | refine Below.alloc ?_ (by first | omega | (simp; omega) | (simp; done)) _ | exact Below.refl _ _))).on hb4; have c14 : w4.cell? ⟨p, 1, none⟩ = some (.int .i64 (s.place : Nat)) := R4.at.pos; have hbw4 : Below w1.heap.size w1 w4 := Below.then (by (repeat first | assumption | with_reducible exact Below.refl _ _ | refine Below.drew ?_ | refine Below.setCell ?_ (by first | omega | (simp; omega) | (simp; done)) _ | refine Below.alloc ?_ (by first | omega | (simp; omega) | (simp; done)) _ | exact Below.refl _ _)) hb4)
        | (go_at_call 63; refine (fail_rd B p 5 s.place _ R4.blk rfl hlow).mono ?_; rintro e w5 ⟨rfl, hw5, hb5⟩))
      go_ret
      rw [unhide HEQ]
      exact ⟨rfl, hw5, ((hb.mono hBw).trans (hbw4.mono (by have := hb.size; omega))).trans hb5⟩
    · rw [if_neg hsd] at hd
      have HEQ := hide hd
      have HSD := hide hsd
      clear hd hsd
      have HROW := hide hrow1
      have HK : Hid (∀ W w4, Below w1.heap.size w1 W → Below (w1.heap.size + 1) (w1.alloc (.cells #[.string (T r.said), .string (T r.name), .int .i64 (n : Nat)] 135)) W → Grew (w1.heap.size + 1) p (.slice at' (tx t).length ct) W w4 →
          w4.cell? ⟨p, 1, none⟩ = some (.int .i64 (s.place : Nat)) ∧ w4.frozen? ⟨p, 1, none⟩ = false ∧ w4.cell? ⟨g, j, none⟩ = some (.slice at' (tx t).length ct) ∧ w4.frozen? ⟨g, j, none⟩ = false ∧ w4.cell? ⟨w1.heap.size, 2, none⟩ = some (.int .i64 (n : Nat)) ∧ Kp (fun k => (Value.slice at' (tx t).length ct).ownBlock = some k) w w4) := by
        refine hide fun W w4 h1 h2 h3 => ?_
        have hz2 : w1.heap.size + 1 ≤ W.heap.size := by have := h2.size; simpa using this
        have ep : w4.heap[p]? = w1.heap[p]? := by rw [h3.block p (by omega) (by omega) (owns_not hrow1 R1.blk (by decide)), h1.block p hlt1]
        have eg : w4.heap[g]? = w1.heap[g]? := by rw [h3.block g (by omega) (by omega) hng, h1.block g hgt1]
        have ef : w4.heap[w1.heap.size]? = (w1.alloc (.cells #[.string (T r.said), .string (T r.name), .int .i64 (n : Nat)] 135)).heap[w1.heap.size]? := by
          rw [h3.block w1.heap.size (by omega) (by omega) (fun e => by have := (hrow1.lt _ e).2; omega), h2.block w1.heap.size (by omega)]
        refine ⟨(cell_same ep 1).trans c11, (open_same ep 1).trans o11, (cell_same eg j).trans hc1, (open_same eg j).trans ho1, (cell_same ef 2).trans (blk_cell (MapKept.heap_alloc w1 _).1 2), ?_⟩
        refine ⟨h3.os.trans (h1.os.trans hb.os), h3.tape.trans (h1.tape.trans hb.tape), h3.output.trans (h1.output.trans hb.output), by have := hb.size; have := h1.size; have := h3.size; omega, fun k hk hS => ?_⟩
        have hk1 : k < w1.heap.size := by have := hb.size; omega
        rw [h3.block k (by omega) (by omega) hS, h1.block k hk1, hb.block k hk]
      have hCw : C ≤ w1.heap.size := by have := hb.size; omega
      clear hrow1 hb
      go_wp2_with fail
      refine (add_said C (w1.heap.size + 1) p flat (.slice at' (tx t).length ct) t [] r n _ (unhide HX _ (by (repeat first | assumption | with_reducible exact Below.refl _ _ | refine Below.drew ?_ | refine Below.setCell ?_ (by first | omega | (simp; omega) | (simp; done)) _ | refine Below.alloc ?_ (by first | omega | (simp; omega) | (simp; done)) _ | exact Below.refl _ _))) (by omega) (owns_below (unhide HROW) (by (repeat first | assumption | with_reducible exact Below.refl _ _ | refine Below.drew ?_ | refine Below.setCell ?_ (by first | omega | (simp; omega) | (simp; done)) _ | refine Below.alloc ?_ (by first | omega | (simp; omega) | (simp; done)) _ | exact Below.refl _ _))) (by omega) (unhide HSD) f1 (by omega)).mono ?_
      rintro e w4 ⟨rfl, hg4, v4, hX4, hr4⟩
      obtain ⟨a4, k4, rfl⟩ := owns_slice hr4
      obtain ⟨d1, d2, d3, d4, d5, HKP⟩ := unhide HK _ w4 (by (repeat first | assumption | with_reducible exact Below.refl _ _ | refine Below.drew ?_ | refine Below.setCell ?_ (by first | omega | (simp; omega) | (simp; done)) _ | refine Below.alloc ?_ (by first | omega | (simp; omega) | (simp; done)) _ | exact Below.refl _ _)) (by (repeat first | assumption | with_reducible exact Below.refl _ _ | refine Below.drew ?_ | refine Below.setCell ?_ (by first | omega | (simp; omega) | (simp; done)) _ | refine Below.alloc ?_ (by first | omega | (simp; omega) | (simp; done)) _ | exact Below.refl _ _)) hg4
      have d6 : w4.cell? ⟨w1.heap.size + 1, 2, none⟩ = some (.slice a4 (tx (t ++ r.said)).length k4) := blk_cell hX4 2
      have HR4 := hide hr4
      have HD5 : Hid ((w4.setCell ⟨g, j, none⟩ (.slice a4 (tx (t ++ r.said)).length k4)).cell? ⟨p, 1, none⟩ = some (.int .i64 (s.place : Nat)) ∧ (w4.setCell ⟨g, j, none⟩ (.slice a4 (tx (t ++ r.said)).length k4)).cell? ⟨w1.heap.size, 2, none⟩ = some (.int .i64 (n : Nat))) :=
        hide ⟨(World.cell?_setCell_other _ _ _ _ (fun e => by cases e; have := hgj rfl; omega)).trans d1, (World.cell?_setCell_other _ _ _ _ (fun e => by cases e; omega)).trans d5⟩
      have HO5 : Hid ((w4.setCell ⟨g, j, none⟩ (.slice a4 (tx (t ++ r.said)).length k4)).frozen? ⟨p, 1, none⟩ = false) := hide (by rw [World.frozen?_setCell]; exact d2)
      clear hX4 hg4 hr4
      go_upto_region 9 with fail
      obtain ⟨x1, x2⟩ := unhide HD5
      have x3 := unhide HO5
      have HX5 : Hid (w4.setCell ⟨g, j, none⟩ (.slice a4 (tx (t ++ r.said)).length k4) = w4.setCell ⟨g, j, none⟩ (.slice a4 (tx (t ++ r.said)).length k4)) := hide rfl
      generalize hg5 : w4.setCell ⟨g, j, none⟩ (.slice a4 (tx (t ++ r.said)).length k4) = w5 at x1 x2 x3 HX5 ⊢
      have HG5 := hide hg5
      clear hg5 d1 d2 d3 d4 d5 d6 c11 o11 hc1 ho1
      have hpn : s.place + n ≤ 32768 := by omega
      have HWR : Hid (IntKind.i64.wrap ((s.place : Int) + (n : Int)) = ((s.place + n : Nat) : Int)) := hide (by rw [IntKind.wrap_i64]; omega)
      go_region_with fail
      all_goals go_wp2_with fail
      all_goals go_ret
      all_goals rw [unhide HEQ]
      all_goals refine ⟨rfl, w4, _, HKP, unhide HR4, ?_⟩
      all_goals unfold Moves
      all_goals rw [unhide HPL, unhide HG5]
      all_goals refine Below.drew ?_
      all_goals rw [unhide HWR]
      all_goals exact Below.refl _ _
end Go.Proofs.YtefjfjieoiegnaaGreatDoor
