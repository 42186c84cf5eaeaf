/- Several texts, laid as one. -/
import Derived.Test.YtiembljlhmgpjaaGreatDoorGag
import Derived.Test.YtiembljlhmgpjaaGreatDoorGah
import Derived.Test.YtiembljlhmgpjaaGreatDoorGad
import Derived.Deep.RegionHeld3
/- Texts that are cut at some signs, told over lists of characters: plain lemmas. -/
namespace Go.Proofs.YtiembljlhmgpjaaGreatDoor
open Go.RowKit
/-- Bytes above 127 begin no sign below 128. -/
theorem index_high (x : UInt8) (s : List UInt8) (hx : x.toNat < 128) : ∀ (m r : List UInt8), (∀ b ∈ m, 128 ≤ b.toNat) → Lib.index (m ++ r) (x :: s) = if Lib.index r (x :: s) = -1 then -1 else Lib.index r (x :: s) + (m.length : Nat)
  | [], r, _ => by
    rw [List.nil_append]
    split
    · assumption
    · simp
  | b :: m, r, h => by
    have ih := index_high x s hx m r (fun c hc => h c (List.mem_cons_of_mem _ hc))
    have hb := h b (by simp)
    have hne : (x == b) = false := by
      rw [beq_eq_false_iff_ne]
      rintro rfl
      omega
    have hp : (x :: s).isPrefixOf (b :: (m ++ r)) = false := by
      show (x == b && s.isPrefixOf (m ++ r)) = false
      rw [hne, Bool.false_and]
    rw [List.cons_append, Lib.index, hp, ih]
    by_cases h1 : Lib.index r (x :: s) = -1
    · simp [h1]
    · have hg := Lib.index_ge r (x :: s)
      have : ¬ (Lib.index r (x :: s) + (m.length : Nat)) = -1 := by omega
      simp [h1, this]
      omega
theorem asc_toNat {c : Nat} (h : c < 128) : (UInt8.ofNat c).toNat = c := u8_nat (by omega)
theorem index_tx (sign : List Nat) (hs : ∀ c ∈ sign, c < 128) (hne : sign ≠ []) : ∀ l : List Nat, okL l →
    (∀ a b, cutL sign l = some (a, b) → Lib.index (tx l) (sign.map UInt8.ofNat) = ((tx a).length : Nat) ∧ l = a ++ sign ++ b) ∧ (cutL sign l = none → Lib.index (tx l) (sign.map UInt8.ofNat) = -1)
  | [], _ => by
    refine ⟨fun a b h => (by rw [cutL] at h; cases h), fun _ => ?_⟩
    rw [tx_nil, Lib.index]
    cases sign with
    | nil => exact absurd rfl hne
    | cons _ _ => rfl
  | c :: t, hl => by
    have hp := pre_tx sign (c :: t) hs hl
    unfold Lib.hasPrefix at hp
    obtain ⟨x, m, hx, _⟩ := runeB_first (charR_ok (hl c (by simp)))
    have ht : tx (c :: t) = x :: (m ++ tx t) := by rw [tx_cons, hx]; rfl
    rw [ht] at hp
    have ih := index_tx sign hs hne t (okL_tail hl)
    by_cases hh : sign.isPrefixOf (c :: t) = true
    · rw [hh] at hp
      rw [cutL, if_pos hh, ht, Lib.index, if_pos hp]
      refine ⟨?_, fun h => by cases h⟩
      intro a b h
      cases h
      refine ⟨rfl, ?_⟩
      obtain ⟨u, hu⟩ := List.isPrefixOf_iff_prefix.1 hh
      rw [← hu, List.drop_left]
      rfl
    · have hf : sign.isPrefixOf (c :: t) = false := Bool.eq_false_iff.2 hh
      rw [hf] at hp
      have hm : Lib.index (m ++ tx t) (sign.map UInt8.ofNat) = if Lib.index (tx t) (sign.map UInt8.ofNat) = -1 then -1 else Lib.index (tx t) (sign.map UInt8.ofNat) + (m.length : Nat) := by
        cases sign with
        | nil => exact absurd rfl hne
        | cons y s =>
          have hy := hs y (by simp)
          rw [List.map_cons]
          refine index_high _ _ (by rw [asc_toNat hy]; exact hy) m _ ?_
          intro b hb
          by_cases h1 : c < 128
          · rw [runeB_one h1] at hx
            cases hx
            cases hb
          · exact runeB_high (charR_ok (hl c (by simp))) (by omega) b (by rw [hx]; simp [hb])
      have hlen : (runeB c).length = m.length + 1 := by rw [hx]; rfl
      rw [cutL, if_neg hh, ht, Lib.index, if_neg (by rw [hp]; decide), hm]
      refine ⟨?_, ?_⟩
      · intro a b h
        cases hc : cutL sign t with
        | none => rw [hc] at h; cases h
        | some ab =>
          obtain ⟨a', b'⟩ := ab
          rw [hc] at h
          cases h
          obtain ⟨e1, e2⟩ := ih.1 a' b' hc
          rw [e1]
          have n1 : ¬ (((tx a').length : Nat) : Int) = -1 := by omega
          have n2 : ¬ ((((tx a').length : Nat) : Int) + (m.length : Nat)) = -1 := by omega
          refine ⟨?_, by rw [e2]; rfl⟩
          rw [if_neg n1, if_neg (by simpa using n2)]
          show _ = (((tx (c :: a')).length : Nat) : Int)
          rw [tx_cons, List.length_append, hlen]
          omega
      · intro h
        cases hc : cutL sign t with
        | none => rw [ih.2 hc]; rfl
        | some ab => rw [hc] at h; cases h
theorem cutL_app {sign l a b : List Nat} (hs : ∀ c ∈ sign, c < 128) (hne : sign ≠ []) (hl : okL l) (h : cutL sign l = some (a, b)) : l = a ++ sign ++ b := ((index_tx sign hs hne l hl).1 a b h).2
theorem sign_len_tx {sign : List Nat} (hs : ∀ c ∈ sign, c < 128) : tx sign = sign.map UInt8.ofNat := by
  induction sign with
  | nil => rfl
  | cons c t ih => rw [tx_cons, runeB_one (hs c (by simp)), ih (fun x hx => hs x (by simp [hx]))]; rfl
/-- A text that is cut at signs below 128. -/
theorem cut_txs (sign : List Nat) (hs : ∀ c ∈ sign, c < 128) (hne : sign ≠ []) (l : List Nat) (hl : okL l) : Lib.cut (tx l) (sign.map UInt8.ofNat) =
    match cutL sign l with | some (a, b) => (tx a, tx b, true) | none => (tx l, [], false) := by
  have h := index_tx sign hs hne l hl
  unfold Lib.cut
  cases hc : cutL sign l with
  | none => rw [h.2 hc]; rfl
  | some ab =>
    obtain ⟨a, b⟩ := ab
    obtain ⟨e1, e2⟩ := h.1 a b hc
    rw [e1, if_pos (by omega)]
    have e3 : tx l = tx a ++ (sign.map UInt8.ofNat ++ tx b) := by
      conv => lhs; rw [e2, tx_append, tx_append, sign_len_tx hs]
      rw [List.append_assoc]
    simp only [Int.toNat_natCast]
    rw [e3, List.take_left, ← List.drop_drop, List.drop_left, List.drop_left]
end Go.Proofs.YtiembljlhmgpjaaGreatDoor
/- Where a reader of XML stands, in memory: its text and its place. -/
namespace Go.Proofs.YtiembljlhmgpjaaGreatDoor
open Go.RowKit
theorem keptC {w w' : World} {p : Addr} {v : Value} (hb : Below w.heap.size w w') (h : w.cell? p = some v) : w'.cell? p = some v := by
  rw [hb.cell (block_lt_of_cell h)]; exact h
theorem keptO {w w' : World} {p : Addr} {v : Value} (hb : Below w.heap.size w w') (h : w.cell? p = some v) (o : w.frozen? p = false) : w'.frozen? p = false := by
  rw [hb.frozen (block_lt_of_cell h)]; exact o
theorem blk_cell {w : World} {p : Nat} {c : Array Value} {t : TypeId} {z : Nat × Nat} (h : w.heap[p]? = some (.cells c t z)) (i : Nat) : w.cell? ⟨p, i, none⟩ = c[i]? := by simp [World.cell?, h]
theorem blk_open {w : World} {p : Nat} {c : Array Value} {t : TypeId} (h : w.heap[p]? = some (.cells c t (0, 0))) (i : Nat) : w.frozen? ⟨p, i, none⟩ = false := by simp [World.frozen?, h]
theorem blk_set {w : World} {p : Nat} {c : Array Value} {t : TypeId} {z : Nat × Nat} (h : w.heap[p]? = some (.cells c t z)) (i : Nat) (v : Value) :
    (w.setCell ⟨p, i, none⟩ v).heap[p]? = some (.cells (c.setIfInBounds i v) t z) := by simp [World.setCell, Array.getElem?_modify, h]
theorem blk_other {w : World} {p k : Nat} (h : k ≠ p) (i : Nat) (v : Value) : (w.setCell ⟨p, i, none⟩ v).heap[k]? = w.heap[k]? := by
  simp [World.setCell, Array.getElem?_modify, Ne.symm h]
theorem blk_size (w : World) (a : Addr) (v : Value) : (w.setCell a v).heap.size = w.heap.size := by simp [World.setCell]
theorem cell_blk {w : World} {p i : Nat} {v : Value} (h : w.cell? ⟨p, i, none⟩ = some v) : ∃ c t z, w.heap[p]? = some (.cells c t z) ∧ c[i]? = some v := by
  unfold World.cell? at h
  split at h
  · rename_i c t z hc
    exact ⟨c, t, z, hc, by simpa using h⟩
  · cases h
/-- A cell that is written with what it holds. -/
theorem set_same {w : World} {p i : Nat} {v : Value} (h : w.cell? ⟨p, i, none⟩ = some v) (k : Nat) : (w.setCell ⟨p, i, none⟩ v).heap[k]? = w.heap[k]? := by
  by_cases hk : k = p
  · subst hk
    obtain ⟨c, t, z, hc, hv⟩ := cell_blk h
    rw [blk_set hc, hc]
    congr 2
    apply Array.ext_getElem?
    intro j
    rw [Array.getElem?_setIfInBounds]
    split
    · rename_i hj; subst hj; rw [hv]; simp [(Array.getElem?_eq_some_iff.1 hv).1]
    · rfl
  · exact blk_other hk i v
theorem set_twice (w : World) (p i : Nat) (u v : Value) (k : Nat) : ((w.setCell ⟨p, i, none⟩ u).setCell ⟨p, i, none⟩ v).heap[k]? = (w.setCell ⟨p, i, none⟩ v).heap[k]? := by
  by_cases hk : k = p
  · subst hk
    cases h : w.heap[k]? with
    | none => simp [World.setCell, Array.getElem?_modify, h]
    | some o =>
      cases o <;> simp [World.setCell, Array.getElem?_modify, h]
  · rw [blk_other hk, blk_other hk, blk_other hk]
/-- The world is the old one, but for the place of the reader p, and new blocks. -/
def Moves (p n : Nat) (w w' : World) : Prop := Below w.heap.size (w.setCell ⟨p, 1, none⟩ (.int .i64 (n : Nat))) w'
/-- A reader's text, and its place in it. -/
structure AtR (w : World) (p : Nat) (pre rest : List Nat) : Prop where
  txt : w.cell? ⟨p, 0, none⟩ = some (.string (T (pre ++ rest)))
  pos : w.cell? ⟨p, 1, none⟩ = some (.int .i64 ((tx pre).length : Nat))
  thaw : w.frozen? ⟨p, 1, none⟩ = false
theorem Moves.below {p n : Nat} {w w' : World} (h : Moves p n w w') : Below (w.setCell ⟨p, 1, none⟩ (.int .i64 (n : Nat))).heap.size (w.setCell ⟨p, 1, none⟩ (.int .i64 (n : Nat))) w' := by
  rw [blk_size]; exact h
theorem Moves.size {p n : Nat} {w w' : World} (h : Moves p n w w') : w.heap.size ≤ w'.heap.size := by
  have := Below.size h
  rwa [blk_size] at this
theorem Moves.block {p n : Nat} {w w' : World} (h : Moves p n w w') {k : Nat} (hk : k < w.heap.size) (hp : k ≠ p) : w'.heap[k]? = w.heap[k]? := by
  rw [Below.block h k hk, blk_other hp]
theorem Moves.own {p n : Nat} {w w' : World} (h : Moves p n w w') {c : Array Value} {t : TypeId} {z : Nat × Nat} (hp : w.heap[p]? = some (.cells c t z)) : w'.heap[p]? = some (.cells (c.setIfInBounds 1 (.int .i64 (n : Nat))) t z) := by
  rw [Below.block h p (Array.getElem?_eq_some_iff.1 hp).1, blk_set hp]
theorem Moves.low {p n B : Nat} {w w' : World} (h : Moves p n w w') (hp : B ≤ p) (hB : B ≤ w.heap.size) : Below B w w' :=
  Below.trans ((Below.refl B w).setCell (p := ⟨p, 1, none⟩) hp _) (Below.mono h hB)
theorem AtR.stay {w w' : World} {p : Nat} {pre rest : List Nat} (h : AtR w p pre rest) (hb : Below w.heap.size w w') : Moves p (tx pre).length w w' :=
  ⟨hb.os, hb.tape, hb.output, by rw [blk_size]; exact hb.size, fun k hk => by rw [hb.block k hk, set_same h.pos]⟩
theorem Moves.then {p n k : Nat} {a b c : World} (h : Moves p n a b) (g : Moves p k b c) : Moves p k a c := by
  refine ⟨g.os.trans h.os, g.tape.trans h.tape, g.output.trans h.output, by rw [blk_size]; exact Nat.le_trans h.size g.size, fun j hj => ?_⟩
  rw [Below.block g j (Nat.lt_of_lt_of_le hj h.size)]
  by_cases hp : j = p
  · subst hp
    have e := Below.block h j hj
    rw [← set_twice a j 1 (.int .i64 (n : Nat)) (.int .i64 (k : Nat)) j]
    unfold World.setCell at e ⊢
    simp only [Array.getElem?_modify, if_true] at e ⊢
    rw [e]
  · rw [blk_other hp, blk_other hp, h.block hj hp]
theorem Moves.still {p n : Nat} {a b c : World} (h : Moves p n a b) (g : Below b.heap.size b c) : Moves p n a c :=
  Below.trans h (Below.mono g h.size)
theorem AtR.moved {w w' : World} {p : Nat} {pre rest pre' rest' : List Nat} (h : AtR w p pre rest) (hm : Moves p (tx pre').length w w') (e : pre' ++ rest' = pre ++ rest) : AtR w' p pre' rest' := by
  obtain ⟨c, t, z, hc, h1⟩ := cell_blk h.pos
  have h0 := h.txt
  have hf := h.thaw
  rw [blk_cell hc] at h0
  have hw := hm.own hc
  have hs : 1 < c.size := (Array.getElem?_eq_some_iff.1 h1).1
  refine ⟨?_, ?_, ?_⟩
  · rw [blk_cell hw, Array.getElem?_setIfInBounds_ne (by decide), h0, e]
  · rw [blk_cell hw, Array.getElem?_setIfInBounds_self_of_lt hs]
  · unfold World.frozen? at hf ⊢
    rw [hc] at hf
    rw [hw]
    exact hf
theorem AtR.keep {w w' : World} {p : Nat} {pre rest : List Nat} (h : AtR w p pre rest) (hb : Below w.heap.size w w') : AtR w' p pre rest := h.moved (h.stay hb) rfl
theorem AtR.lt {w : World} {p : Nat} {pre rest : List Nat} (h : AtR w p pre rest) : p < w.heap.size := block_lt_of_cell h.pos
/-- Behind a store into the place itself. -/
theorem AtR.put {w : World} {p : Nat} {pre rest pre' : List Nat} {n : Nat} (_ : AtR w p pre rest) (e : n = (tx pre').length) : Moves p (tx pre').length w (w.setCell ⟨p, 1, none⟩ (.int .i64 (n : Nat))) := by
  subst e
  exact Below.refl _ _
end Go.Proofs.YtiembljlhmgpjaaGreatDoor
/- The name, the string, the variable, the word that a text begins with, and which word is what: xplex's functions. -/
namespace Go.Proofs.YtiembljlhmgpjaaGreatDoor
open Go.RowKit
theorem okL_tl {l : List Nat} (h : okL l) : okL l.tail := fun c hc => h c (List.mem_of_mem_tail hc)
end Go.Proofs.YtiembljlhmgpjaaGreatDoor
/- The reference's IsName and Split give what the program's give. -/
namespace Go.Proofs.YtiembljlhmgpjaaGreatDoor
open Go.RowKit
theorem splitV_cases (l : List UInt8) : ∃ p n : ByteArray, splitV l = .tuple #[.string p, .string n, .bool (splitB l)] := by
  unfold splitV
  cases h : splitB l
  · exact ⟨_, _, rfl⟩
  · exact ⟨_, _, rfl⟩
end Go.Proofs.YtiembljlhmgpjaaGreatDoor
/- The string, the word that a text begins with, and which word is what: xplex's functions. -/
namespace Go.Proofs.YtiembljlhmgpjaaGreatDoor
open Go.RowKit
theorem hasPrefix_T (a : List Nat) (u : ByteArray) (hu : u.data.toList = a.map UInt8.ofNat) (ha : ∀ c ∈ a, c < 128) (l : List Nat) (hl : okL l) (w : World) :
    Calls Tryz.prog 51 #[.string (T l), .string u] w fun e w' => e = .returned (.bool (a.isPrefixOf l)) ∧ w' = w := by
  refine (Tryz.strings_HasPrefix (T l) u w).mono ?_
  rintro e w' ⟨rfl, rfl⟩
  refine ⟨ret_bool ?_, rfl⟩
  rw [T_data, hu, pre_tx a l ha hl]
end Go.Proofs.YtiembljlhmgpjaaGreatDoor
/- A reader's small steps: what it sees, takes, passes by: xmlscan's rest, sees, take, takeTo, blanks, name. -/
namespace Go.Proofs.YtiembljlhmgpjaaGreatDoor
open Go.RowKit
abbrev AtS (w : World) (p : Nat) (s : RS) : Prop := AtR w p s.pre s.rest
/-- A reader of a text of characters that may be, that is not too long. -/
structure Fine (s : RS) : Prop where
  ok : okL (s.pre ++ s.rest)
  le : (T (s.pre ++ s.rest)).size ≤ 32768
theorem adv_whole (s : RS) (n : Nat) : (s.adv n).pre ++ (s.adv n).rest = s.pre ++ s.rest := by
  unfold RS.adv
  simp only
  rw [List.append_assoc, List.take_append_drop]
theorem Fine.adv {s : RS} (h : Fine s) (n : Nat) : Fine (s.adv n) := ⟨by rw [adv_whole]; exact h.ok, by rw [adv_whole]; exact h.le⟩
theorem Fine.okR {s : RS} (h : Fine s) : okL s.rest := okL_right h.ok
theorem Fine.sum {s : RS} (_ : Fine s) : s.place + (T s.rest).size = (T (s.pre ++ s.rest)).size := by
  unfold RS.place
  rw [T_size, T_size, tx_len_app]
theorem Fine.lt {s : RS} (h : Fine s) : s.place + (T s.rest).size ≤ 32768 := by rw [h.sum]; exact h.le
theorem place_adv (s : RS) (n : Nat) : (s.adv n).place = s.place + (T (s.rest.take n)).size := by
  unfold RS.place RS.adv
  simp only
  rw [tx_len_app, T_size]
theorem place_pre (s : RS) {a : List Nat} (h : a <+: s.rest) : (s.adv a.length).place = s.place + (T a).size := by
  rw [place_adv, (List.prefix_iff_eq_take.1 h).symm]
theorem AtR.to {w w' : World} {p : Nat} {s : RS} {n : Nat} (h : AtS w p s) (hm : Moves p (s.adv n).place w w') : AtS w' p (s.adv n) := h.moved hm (adv_whole s n)
theorem asc_size {a : List Nat} {u : ByteArray} (ha : ∀ c ∈ a, c < 128) (hu : u.data.toList = a.map UInt8.ofNat) : (T a).size = u.size := by
  rw [T_size, sign_len_tx ha, ← hu]; rfl
set_option maxHeartbeats 1000000 in
theorem rest_any (p : Nat) (s : RS) (w : World) (h : AtS w p s) :
    Calls Tryz.prog 63 #[.pointer (some ⟨p, 0, none⟩)] w fun e w' => e = .returned (.string (T s.rest)) ∧ Below w.heap.size w w' := by
  have h0 := h.txt
  have h1 := h.pos
  have hle : (tx s.pre).length ≤ (T (s.pre ++ s.rest)).size := by rw [T_size, tx_len_app]; omega
  have HS := hide (T_suf s.pre s.rest)
  clear h
  generalize (tx s.pre).length = n at *
  generalize T (s.pre ++ s.rest) = t at *
  go_enter Tryz.func63, Tryz.ntmps63
  go_wp2_with fail
  go_region
  all_goals go_wp2
  all_goals go_ret
  all_goals exact ⟨ret_str (unhide HS), below_drewN w 1⟩
set_option maxHeartbeats 1000000 in
theorem sees_any (a : List Nat) (u : ByteArray) (hu : u.data.toList = a.map UInt8.ofNat) (ha : ∀ c ∈ a, c < 128) (p : Nat) (s : RS) (w : World) (h : AtS w p s) (hf : Fine s) :
    Calls Tryz.prog 35 #[.pointer (some ⟨p, 0, none⟩), .string u] w fun e w' => e = .returned (.bool (a.isPrefixOf s.rest)) ∧ Below w.heap.size w w' := by
  go_enter Tryz.func35, Tryz.ntmps35
  go_wp2_with fail
  refine (rest_any p s _ h).mono ?_
  rintro e w1 ⟨rfl, hb1⟩
  go_wp2_with fail
  refine (hasPrefix_T a u hu ha s.rest hf.okR _).mono ?_
  rintro e w2 ⟨rfl, rfl⟩
  go_wp2
  go_ret
  exact ⟨rfl, hb1⟩
set_option maxHeartbeats 1000000 in
theorem take_yes (a : List Nat) (u : ByteArray) (hu : u.data.toList = a.map UInt8.ofNat) (ha : ∀ c ∈ a, c < 128) (p : Nat) (s : RS) (w : World) (h : AtS w p s) (hf : Fine s) (hp : a.isPrefixOf s.rest = true) :
    Calls Tryz.prog 69 #[.pointer (some ⟨p, 0, none⟩), .string u] w fun e w' => e = .returned (.bool true) ∧ Moves p (s.adv a.length).place w w' := by
  have HA := hide ha
  have HU := hide hu
  have HF := hide hf
  have hlt := hf.lt
  have hz : (T a).size ≤ (T s.rest).size := size_pre (List.isPrefixOf_iff_prefix.1 hp)
  have hus : u.size = (T a).size := (asc_size ha hu).symm
  have HPL := hide ((place_pre s (List.isPrefixOf_iff_prefix.1 hp)).trans (by rw [← hus]))
  rw [← hus] at hz
  clear ha hu hus
  go_enter Tryz.func69, Tryz.ntmps69
  go_wp2_with fail
  refine (sees_any a u (unhide HU) (unhide HA) p s _ h (unhide HF)).mono ?_
  rintro e w1 ⟨rfl, hb1⟩
  have h1 := h.keep hb1
  have hm := h.stay hb1
  have c1 : w1.cell? ⟨p, 1, none⟩ = some (.int .i64 (s.place : Nat)) := h1.pos
  have o1 := h1.thaw
  rw [hp]
  go_wp2
  go_ret
  refine ⟨rfl, hm.then ?_⟩
  rw [unhide HPL]
  exact Below.refl _ _
set_option maxHeartbeats 1000000 in
theorem take_no (a : List Nat) (u : ByteArray) (hu : u.data.toList = a.map UInt8.ofNat) (ha : ∀ c ∈ a, c < 128) (p : Nat) (s : RS) (w : World) (h : AtS w p s) (hf : Fine s) (hp : a.isPrefixOf s.rest = false) :
    Calls Tryz.prog 69 #[.pointer (some ⟨p, 0, none⟩), .string u] w fun e w' => e = .returned (.bool false) ∧ Below w.heap.size w w' := by
  go_enter Tryz.func69, Tryz.ntmps69
  go_wp2_with fail
  refine (sees_any a u hu ha p s _ h hf).mono ?_
  rintro e w1 ⟨rfl, hb1⟩
  rw [hp]
  go_wp2
  go_ret
  exact ⟨rfl, hb1⟩
end Go.Proofs.YtiembljlhmgpjaaGreatDoor
/- A reader's small steps, more: xmlscan's takeTo, blanks, nameAhead, name, qname. -/
namespace Go.Proofs.YtiembljlhmgpjaaGreatDoor
open Go.RowKit
/-- strings.Cut of a text at signs below 128. -/
theorem cut_T (a : List Nat) (u : ByteArray) (hu : u.data.toList = a.map UInt8.ofNat) (ha : ∀ c ∈ a, c < 128) (hne : a ≠ []) (l : List Nat) (hl : okL l) (hs : (T l).size ≤ 32768) (w : World) (hE : Env w) :
    Calls Tryz.prog 112 #[.string (T l), .string u] w fun e w' => e = .returned (match cutL a l with | some (x, y) => .tuple #[.string (T x), .string (T y), .bool true] | none => .tuple #[.string (T l), .string ⟨#[]⟩, .bool false]) ∧ Below w.heap.size w w' := by
  obtain ⟨m, hm⟩ := hE.len
  refine (Tryz.strings_Cut (T l) u m w (by omega) hm).mono ?_
  rintro e w' ⟨rfl, nd, rfl⟩
  refine ⟨?_, below_drewN w nd⟩
  rw [T_data, hu, cut_txs a ha hne l hl]
  cases cutL a l with
  | none => rfl
  | some xy => rfl
theorem cut_place {a : List Nat} (ha : ∀ c ∈ a, c < 128) (hne : a ≠ []) {s : RS} (hf : Fine s) {x y : List Nat} (hc : cutL a s.rest = some (x, y)) : (s.adv (x.length + a.length)).place = s.place + ((T x).size + (T a).size) ∧ (T x).size + (T a).size ≤ (T s.rest).size := by
  have e := cutL_app ha hne hf.okR hc
  have hp : x ++ a <+: s.rest := ⟨y, by rw [e]⟩
  have := place_pre s hp
  rw [List.length_append, sz_app] at this
  refine ⟨this, ?_⟩
  have hz := size_pre hp
  rwa [sz_app] at hz
set_option maxHeartbeats 1000000 in
theorem takeTo_yes (a : List Nat) (u : ByteArray) (hu : u.data.toList = a.map UInt8.ofNat) (ha : ∀ c ∈ a, c < 128) (hne : a ≠ []) (p : Nat) (s : RS) (x y : List Nat) (w : World) (h : AtS w p s) (hf : Fine s) (hE : Env w) (hc : cutL a s.rest = some (x, y)) :
    Calls Tryz.prog 105 #[.pointer (some ⟨p, 0, none⟩), .string u] w fun e w' => e = .returned (.tuple #[.string (T x), .bool true]) ∧ Moves p (s.adv (x.length + a.length)).place w w' := by
  have HC : Hid _ := hide (fun W hW => cut_T a u hu ha hne s.rest hf.okR (by have := hf.lt; omega) W hW)
  obtain ⟨hpl, hz⟩ := cut_place ha hne hf hc
  have hlt := hf.lt
  have hus : u.size = (T a).size := (asc_size ha hu).symm
  rw [← hus] at hpl hz
  have HPL := hide hpl
  clear hpl hus hu ha hne
  go_enter Tryz.func105, Tryz.ntmps105
  go_wp2_with fail
  refine (rest_any p s _ h).mono ?_
  rintro e w1 ⟨rfl, hb1⟩
  go_wp2_with fail
  refine (unhide HC _ (hE.below hb1)).mono ?_
  rintro e w2 ⟨rfl, hb2⟩
  rw [hc]
  have hbb := Below.then hb1 hb2
  have h1 := h.keep hbb
  have hm := h.stay hbb
  have c1 : w2.cell? ⟨p, 1, none⟩ = some (.int .i64 (s.place : Nat)) := h1.pos
  have o1 := h1.thaw
  go_wp2
  go_ret2
  refine ⟨rfl, hm.then ?_⟩
  rw [unhide HPL]
  exact Below.refl _ _
set_option maxHeartbeats 1000000 in
theorem takeTo_no (a : List Nat) (u : ByteArray) (hu : u.data.toList = a.map UInt8.ofNat) (ha : ∀ c ∈ a, c < 128) (hne : a ≠ []) (p : Nat) (s : RS) (w : World) (h : AtS w p s) (hf : Fine s) (hE : Env w) (hc : cutL a s.rest = none) :
    Calls Tryz.prog 105 #[.pointer (some ⟨p, 0, none⟩), .string u] w fun e w' => e = .returned (.tuple #[.string (T s.rest), .bool false]) ∧ Below w.heap.size w w' := by
  have HC : Hid _ := hide (fun W hW => cut_T a u hu ha hne s.rest hf.okR (by have := hf.lt; omega) W hW)
  go_enter Tryz.func105, Tryz.ntmps105
  go_wp2_with fail
  refine (rest_any p s _ h).mono ?_
  rintro e w1 ⟨rfl, hb1⟩
  go_wp2_with fail
  refine (unhide HC _ (hE.below hb1)).mono ?_
  rintro e w2 ⟨rfl, hb2⟩
  rw [hc]
  go_wp2
  go_ret2
  exact ⟨rfl, Below.then hb1 hb2⟩
theorem blank_place (s : RS) : s.blanks.place = s.place + (T (s.rest.takeWhile blankC)).size := place_pre s (List.takeWhile_prefix _)
theorem blank_split {s : RS} : (T s.rest).size = (T (s.rest.takeWhile blankC)).size + (T (s.rest.dropWhile blankC)).size := by
  rw [← sz_app, List.takeWhile_append_dropWhile]
theorem blanks_rest (s : RS) : s.blanks.rest = s.rest.dropWhile blankC := by
  show s.rest.drop (s.rest.takeWhile blankC).length = _
  have := List.drop_left (l₁ := s.rest.takeWhile blankC) (l₂ := s.rest.dropWhile blankC)
  rwa [List.takeWhile_append_dropWhile] at this
set_option maxHeartbeats 1000000 in
theorem blanks_any (p : Nat) (s : RS) (w : World) (h : AtS w p s) (hf : Fine s) :
    Calls Tryz.prog 34 #[.pointer (some ⟨p, 0, none⟩)] w fun e w' => e = .returned (.bool s.blank) ∧ Moves p s.blanks.place w w' := by
  have HF := hide hf
  have hlt := hf.lt
  have hok := hf.okR
  have HPL := hide (blank_place s)
  have hsp := blank_split (s := s)
  have HBR := hide (blanks_rest s)
  have HB : Hid (s.blank = decide ((T (s.rest.dropWhile blankC)).size < (T s.rest).size)) := by
    refine hide ?_
    unfold RS.blank
    cases hx : s.rest.takeWhile blankC with
    | nil =>
      rw [hx] at hsp
      have : (T []).size = 0 := rfl
      rw [decide_eq_false (by omega)]
      rfl
    | cons c t =>
      have h1 : 0 < (T (c :: t)).size := by
        rw [T_size]
        exact Nat.pos_of_ne_zero fun h0 => by
          have := tx_len_zero (l := c :: t) (okL_pre hok (by rw [← hx]; exact List.takeWhile_prefix _)) h0
          cases this
      rw [hx] at hsp
      rw [decide_eq_true (by omega)]
      rfl
  have hdz : (T (s.rest.dropWhile blankC)).size ≤ (T s.rest).size := by omega
  have e1 : IntKind.i64.wrap (((T s.rest).size : Int) - ((T (s.rest.dropWhile blankC)).size : Int)) = ((T (s.rest.takeWhile blankC)).size : Int) := by rw [IntKind.wrap_i64]; omega
  have e2 : IntKind.i64.wrap ((s.place : Int) + ((T (s.rest.takeWhile blankC)).size : Int)) = ((s.blanks.place : Nat) : Int) := by rw [IntKind.wrap_i64, unhide HPL]; omega
  have HSP := hide hsp
  clear hsp
  have HT : Hid (∀ W : World, Calls Tryz.prog 64 #[.string (T s.rest), .func (.func 65) #[] #[]] W fun e w' => e = .returned (.string (T (s.rest.dropWhile blankC))) ∧ Below W.heap.size W w') := by
    refine hide fun W => ?_
    have := Tryz.strings_TrimLeftFunc_runes 65 #[] isBlank_enters blankN (T s.rest) W (isBlank_runes _)
    rwa [trim_T hok] at this
  have HR : Hid (∀ W : World, Below w.heap.size w W → Calls Tryz.prog 63 #[.pointer (some ⟨p, 0, none⟩)] W fun e w' => e = .returned (.string (T s.rest)) ∧ Below W.heap.size W w') := hide fun W hW => rest_any p s W (h.keep hW)
  have H1 := hide h
  have hp1 : ∀ W : World, Below w.heap.size w W → W.cell? ⟨p, 1, none⟩ = some (.int .i64 (s.place : Nat)) := fun W hW => (h.keep hW).pos
  have hp2 : ∀ W : World, Below w.heap.size w W → W.frozen? ⟨p, 1, none⟩ = false := fun W hW => (h.keep hW).thaw
  have hpz := h.lt
  clear hf hok h
  go_enter Tryz.func34, Tryz.ntmps34
  go_wp2_with fail
  refine (unhide HR _ (Below.refl _ _)).mono ?_
  rintro e w1 ⟨rfl, hb1⟩
  go_wp2_with fail
  have c1 := hp1 _ hb1
  have o1 := hp2 _ hb1
  go_region_with
    (first
      | (go_at_call 63; refine (unhide HR _ hb1.drew).mono ?_; rintro e w2 ⟨rfl, hb2⟩; have hk2 : Below w.heap.size w w2 := Below.trans hb1.drew (hb2.mono hb1.drew.size); have c2 := hp1 _ hk2; have o2 := hp2 _ hk2)
      | (go_at_call 64; refine (unhide HT _).mono ?_; rintro e w3 ⟨rfl, hb3⟩; have hk3 : Below w.heap.size w w3 := Below.trans hk2 (hb3.mono hk2.size); have c3 := hp1 _ hk3; have o3 := hp2 _ hk3))
  all_goals have ha := (unhide H1).moved (pre' := s.blanks.pre) (rest' := s.blanks.rest) (((unhide H1).stay hk3).then (Below.refl _ _)) (adv_whole s _)
  all_goals have hm := ((unhide H1).stay hk3).then (Below.refl w3.heap.size (w3.setCell ⟨p, 1, none⟩ (.int .i64 (s.blanks.place : Nat))))
  all_goals go_wp2_with (go_at_call 63; refine (rest_any p s.blanks _ ha).mono ?_; rintro e w4 ⟨rfl, hb4⟩; rw [unhide HBR])
  all_goals go_ret
  all_goals exact ⟨by rw [unhide HB]; exact ret_bool (by simp), hm.still hb4⟩
end Go.Proofs.YtiembljlhmgpjaaGreatDoor
/- A reader's small steps, more: xmlscan's nameAhead, name, qname, quote, quoted, equals. -/
namespace Go.Proofs.YtiembljlhmgpjaaGreatDoor
open Go.RowKit
set_option maxHeartbeats 1000000 in
theorem xNameAhead_any (l : List Nat) (w : World) (hl : okL l) :
    Calls Tryz.prog 32 #[.string (T l)] w fun e w' => e = .returned (.string (T (nameA l))) ∧ Below w.heap.size w w' := by
  go_enter Tryz.func32, Tryz.ntmps32
  go_wp2_with fail
  go_loopw [] (fun wr => ∃ p t : List Nat, l = p ++ t ∧ nameA p = p ∧ wr.heap[w.heap.size]? = some (.stringIter (T l) (tx p).length) ∧ Below w.heap.size w wr) (fun wr => (T l).size - wr.iterPos w.heap.size)
  case atStart => exact ⟨[], l, rfl, rfl, World.iter_heap _ _ _, (Below.refl _ _).alloc (Nat.le_refl _) _⟩
  case round =>
    obtain ⟨p, t, hpt, hp, hk, hbr⟩ := hrel
    cases t with
    | nil =>
      have hnx := fun ty => Lib.run_next_end_at (P := Tryz.prog) wr w.heap.size (T l) (tx p).length ty hk (end_at hpt)
      have HPT := hide hpt
      have HP := hide hp
      clear hpt hp hk
      go_wp2
      go_ret
      refine ⟨ret_str ?_, hbr⟩
      rw [unhide HPT, List.append_nil, unhide HP]
    | cons c t =>
      obtain ⟨hd, hlt, hc, hpos⟩ := dec_at hpt hl
      have hnx := fun ty => Lib.run_next_any_at (P := Tryz.prog) wr w.heap.size (T l) (tx p).length ty hk hlt
      rw [hd] at hnx
      simp only at hnx
      have HS := hide (tx_snoc p c)
      have HX := hide (pre_at hpt)
      have HPT := hide hpt
      have HP := hide hp
      have HK := hide hk
      have hbc := begC_eq c hc
      have hgc := goC_eq c hc
      have HB := hide hbc
      have HG := hide hgc
      have H0 : Hid ((tx p).length = 0 ↔ p = []) := hide ⟨fun h => tx_len_zero (okL_left (hpt ▸ hl)) h, fun h => by rw [h]; rfl⟩
      clear hd hpt hp hk hbc hgc
      generalize (tx p).length = n at *
      by_cases hz : n = 0
      · subst hz
        have hp0 := (unhide H0).1 rfl
        cases hb : begC c
        · have HBF := hide hb
          clear hb
          go_wp2_with (go_at_call 60; refine (begins_any _ _).mono ?_; rintro e w1 ⟨rfl, hb1⟩; rw [unhide HB, unhide HBF])
          go_ret
          refine ⟨ret_str ?_, (iter_on (unhide HK) hbr hb1).2⟩
          rw [unhide HPT, hp0, List.nil_append, nameA_no (unhide HBF)]
          rfl
        · have HBT := hide hb
          have HGT := hide (goC_of_beg hb)
          clear hb
          go_wp2_with (first | (go_at_call 60; refine (begins_any _ _).mono ?_; rintro e w1 ⟨rfl, hb1⟩; rw [unhide HB, unhide HBT]) | (go_at_call 61; refine (goesOn_any _ _).mono ?_; rintro e w2 ⟨rfl, hb2⟩; rw [unhide HG, unhide HGT]))
          obtain ⟨q1, q2⟩ := iter_on (unhide HK) hbr (Below.then hb1 hb2)
          refine ⟨⟨p ++ [c], t, by rw [unhide HPT]; simp, by rw [hp0]; exact nameA_one (unhide HBT), by rw [unhide HS, Nat.zero_add]; exact q1, q2⟩, ?_⟩
          rw [iterPos_of q1, iterPos_of (unhide HK)]; omega
      · have hz' : ((n : Int) == 0) = false := by simpa using hz
        have hp0 : p ≠ [] := fun h => hz ((unhide H0).2 h)
        cases hg : goC c
        · have HGF := hide hg
          clear hg
          go_wp2_with (go_at_call 61; refine (goesOn_any _ _).mono ?_; rintro e w2 ⟨rfl, hb2⟩; rw [unhide HG, unhide HGF])
          go_ret
          refine ⟨ret_str ?_, (iter_on (unhide HK) hbr hb2).2⟩
          rw [unhide HX, unhide HPT, nameA_run p (c :: t) (fun x hx => by cases hx; exact unhide HGF) (unhide HP) hp0]
        · have HGT := hide hg
          clear hg
          go_wp2_with (go_at_call 61; refine (goesOn_any _ _).mono ?_; rintro e w2 ⟨rfl, hb2⟩; rw [unhide HG, unhide HGT])
          obtain ⟨q1, q2⟩ := iter_on (unhide HK) hbr hb2
          refine ⟨⟨p ++ [c], t, by rw [unhide HPT]; simp, nameA_snoc (unhide HP) hp0 (unhide HGT), by rw [unhide HS]; exact q1, q2⟩, ?_⟩
          rw [iterPos_of q1, iterPos_of (unhide HK)]; omega
set_option maxHeartbeats 1000000 in
theorem name_any (p : Nat) (s : RS) (w : World) (h : AtS w p s) (hf : Fine s) :
    Calls Tryz.prog 106 #[.pointer (some ⟨p, 0, none⟩)] w fun e w' => e = .returned (.string (T (nameA s.rest))) ∧ Moves p s.name.place w w' := by
  have hok := hf.okR
  have hlt := hf.lt
  have hz := size_pre (nameA_pre s.rest)
  have HPL := hide (show s.name.place = s.place + (T (nameA s.rest)).size from place_pre s (nameA_pre s.rest))
  clear hf
  go_enter Tryz.func106, Tryz.ntmps106
  go_wp2_with fail
  refine (rest_any p s _ h).mono ?_
  rintro e w1 ⟨rfl, hb1⟩
  go_wp2_with fail
  refine (xNameAhead_any s.rest _ hok).mono ?_
  rintro e w2 ⟨rfl, hb2⟩
  have hbb := Below.then hb1 hb2
  have h1 := h.keep hbb
  have hm := h.stay hbb
  have c1 : w2.cell? ⟨p, 1, none⟩ = some (.int .i64 (s.place : Nat)) := h1.pos
  have o1 := h1.thaw
  go_wp2
  go_ret
  refine ⟨rfl, hm.then ?_⟩
  rw [unhide HPL]
  exact Below.refl _ _
set_option maxHeartbeats 2000000 in
theorem qname_any (p : Nat) (s : RS) (w : World) (h : AtS w p s) (hf : Fine s) :
    Calls Tryz.prog 70 #[.pointer (some ⟨p, 0, none⟩)] w fun e w' => e = .returned (.string (T (qnameA s.rest))) ∧ Moves p s.qname.place w w' := by
  have hok := hf.okR
  have hlt := hf.lt
  have hp := nameA_pre s.rest
  have hz := size_pre hp
  have HS := hide (suf_drop hp)
  have hod := okL_drop hok (nameA s.rest).length
  have HQ := hide (qnameA_eq s.rest)
  have hon := okL_pre hok hp
  have hzq := size_pre (qnameA_pre s.rest)
  have HPL := hide (show s.qname.place = s.place + (T (qnameA s.rest)).size from place_pre s (qnameA_pre s.rest))
  have hoq := okL_pre hok (qnameA_pre s.rest)
  have HNA := hide (fun W => xNameAhead_any s.rest W hok)
  clear hf hp
  generalize nameA s.rest = x at *
  generalize s.rest.drop x.length = d at *
  generalize qnameA s.rest = q at *
  go_enter Tryz.func70, Tryz.ntmps70
  go_wp2_with fail
  refine (rest_any p s _ h).mono ?_
  rintro e w1 ⟨rfl, hb1⟩
  go_wp2_with fail
  refine (unhide HNA _).mono ?_
  rintro e w2 ⟨rfl, hb2⟩
  have hbb2 := Below.then hb1 hb2
  go_wp2_with fail
  refine (rest_any p s _ (h.keep hbb2)).mono ?_
  rintro e w3 ⟨rfl, hb3⟩
  have hbb3 := Below.then hbb2 hb3
  by_cases hn : x = []
  · have h1 := nil_T hn
    have hqx : q = x := by rw [unhide HQ, hn]; rfl
    subst hqx
    clear hn HQ
    have h3 := h.keep hbb3
    have hm := h.stay hbb3
    have c1 : w3.cell? ⟨p, 1, none⟩ = some (.int .i64 (s.place : Nat)) := h3.pos
    have o1 := h3.thaw
    go_wp2
    go_ret
    refine ⟨rfl, hm.then ?_⟩
    rw [unhide HPL]
    exact Below.refl _ _
  · have h1 := ne_T hon hn
    have HX := hide (empty_not hn)
    go_wp2_with fail
    rw [unhide HS]
    refine (hasPrefix_T [58] ⟨#[58]⟩ rfl (by decide) d hod _).mono ?_
    rintro e w4 ⟨rfl, rfl⟩
    rw [isPre_one]
    cases hh : heads 58 d
    · have hqx : q = x := by rw [unhide HQ, hh, Bool.false_and, Bool.and_false, if_neg (by decide)]
      subst hqx
      have h3 := h.keep hbb3
      have hm := h.stay hbb3
      have c1 : w4.cell? ⟨p, 1, none⟩ = some (.int .i64 (s.place : Nat)) := h3.pos
      have o1 := h3.thaw
      go_wp2
      go_ret
      refine ⟨rfl, hm.then ?_⟩
      rw [unhide HPL]
      exact Below.refl _ _
    · have hdt : (T d).size = 1 + (T d.tail).size := by
        conv => lhs; rw [heads_true hh]
        exact sz_cons (by decide) _
      have hst : (T d).extract 1 (T d).size = T d.tail := by
        have e := heads_true hh
        have := T_suf [58] d.tail
        rw [show [58] ++ d.tail = d from e.symm] at this
        exact this
      have hot := okL_tl hod
      have HST := hide hst
      have h1d : 1 ≤ (T d).size := by omega
      clear hdt hst
      go_wp2_with fail
      rw [unhide HST]
      refine (xNameAhead_any d.tail _ hot).mono ?_
      rintro e w5 ⟨rfl, hb5⟩
      have hbb5 := Below.then hbb3 hb5
      have h5 := h.keep hbb5
      have hm := h.stay hbb5
      have c1 : w5.cell? ⟨p, 1, none⟩ = some (.int .i64 (s.place : Nat)) := h5.pos
      have o1 := h5.thaw
      have hoy := okL_pre hot (nameA_pre d.tail)
      generalize nameA d.tail = y at *
      by_cases hyn : y = []
      · have h2 := nil_T hyn
        have hqx : q = x := by rw [unhide HQ, hyn]; simp
        subst hqx
        clear hyn HQ
        go_wp2
        go_ret
        refine ⟨rfl, hm.then ?_⟩
        rw [unhide HPL]
        exact Below.refl _ _
      · have h2 := ne_T hoy hyn
        have hqx : q = x ++ 58 :: y := by rw [unhide HQ, unhide HX, hh, empty_not hyn]; rfl
        have hTq : T x ++ (⟨#[58]⟩ ++ T y) = T q := by
          rw [hqx, ← T_app]
          congr 1
        have HTQ := hide hTq
        have hsq : (T q).size = (T x).size + (1 + (T y).size) := by rw [hqx, sz_app, sz_cons (by decide)]
        have HSQ := hide hsq
        have hlq : s.place + ((T x).size + (1 + (T y).size)) ≤ 32768 := by omega
        clear hqx hTq hsq
        go_wp2
        go_ret
        rw [unhide HTQ]
        refine ⟨rfl, hm.then ?_⟩
        rw [unhide HPL, unhide HSQ]
        exact Below.refl _ _
end Go.Proofs.YtiembljlhmgpjaaGreatDoor
