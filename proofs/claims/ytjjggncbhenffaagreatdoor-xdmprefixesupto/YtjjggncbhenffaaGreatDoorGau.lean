/- Several texts, laid as one. -/
import Derived.Test.YtjjggncbhenffaaGreatDoorGat
import Derived.Shelf.Strings.MapAny
import Derived.Test.YtjjggncbhenffaaGreatDoorGan
/- References in a document where no entity is declared: xmlscan's reference. -/
namespace Go.Proofs.YtjjggncbhenffaaGreatDoor
open Go.RowKit
theorem numX_two (base : Nat) {l : List Nat} {m k : Nat} (h : numX base 0 0 l = some (m, k)) : 2 ≤ k ∧ k ≤ l.length ∧ charR (m : Int) = true := by
  cases l with
  | nil => cases h
  | cons c t =>
    rw [numX_cons, if_neg (by rintro ⟨_, h⟩; revert h; decide)] at h
    split at h
    · cases h
    · split at h
      · cases h
      · obtain ⟨a1, a2, _, a4⟩ := numX_take base t _ 1 m k (Nat.min_le_right _ _) h
        exact ⟨by omega, by simp; omega, a4⟩
theorem five_asc (n : List Nat) : okL (five n) ∧ (T (five n)).size ≤ 1 := by
  unfold five
  repeat' split
  all_goals exact ⟨fun c hc => (by first | (rw [List.mem_singleton.1 hc]; decide) | cases hc), (by decide)⟩
theorem readRef_facts {l : List Nat} {r : Ref} (hl : okL l) (h : readRef l = some r) : okL r.said ∧ (T r.said).size ≤ 4 ∧ 2 ≤ r.size ∧ (T r.said).size ≤ r.size ∧ r.size ≤ l.length ∧ okL r.name ∧ (T r.name).size ≤ (T l).size := by
  have hnum : ∀ (base ah : Nat), ah ≤ l.length → 2 ≤ ah → readNum base ah (l.drop ah) = some r → okL r.said ∧ (T r.said).size ≤ 4 ∧ 2 ≤ r.size ∧ (T r.said).size ≤ r.size ∧ r.size ≤ l.length ∧ okL r.name ∧ (T r.name).size ≤ (T l).size := by
    intro base ah hp h2 hr
    unfold readNum at hr
    cases hx : numX base 0 0 (l.drop ah) with
    | none => rw [hx] at hr; cases hr
    | some mk =>
      rw [hx] at hr
      cases hr
      obtain ⟨m, k⟩ := mk
      obtain ⟨a1, a2, a3⟩ := numX_two base hx
      rw [List.length_drop] at a2
      have h4 : (T [m]).size ≤ 4 := by
        rw [T_size]
        show ([m].flatMap runeB).length ≤ 4
        simpa using runeB_len m
      refine ⟨fun c hc => ?_, h4, ?_, ?_, ?_, fun c hc => (by cases hc), Nat.zero_le _⟩
      · rw [List.mem_singleton.1 hc]; exact a3
      · show 2 ≤ ah + k; omega
      · show (T [m]).size ≤ ah + k; omega
      · show ah + k ≤ l.length; omega
  unfold readRef at h
  split at h
  · rename_i hp
    exact hnum 16 3 (List.IsPrefix.length_le (List.isPrefixOf_iff_prefix.1 hp)) (by omega) h
  · split at h
    · rename_i hp
      exact hnum 10 2 (List.IsPrefix.length_le (List.isPrefixOf_iff_prefix.1 hp)) (by omega) h
    · simp only at h
      split at h
      · rename_i hc
        cases h
        obtain ⟨f1, f2⟩ := five_asc (nameA (l.drop 1))
        have hd := pre_drop (nameA_pre (l.drop 1))
        have hh := heads_true (Bool.and_eq_true_iff.1 hc).2
        have hlen : (nameA (l.drop 1)).length + 2 ≤ l.length := by
          have := congrArg List.length hh
          rw [List.length_cons, List.length_drop] at this
          omega
        refine ⟨f1, by show (T (five _)).size ≤ 4; omega, by show 2 ≤ _ + 2; omega, by show (T (five _)).size ≤ _ + 2; omega, hlen, okL_pre (okL_drop hl 1) (nameA_pre _), ?_⟩
        have h1 := size_pre (nameA_pre (l.drop 1))
        have h2 := sz_app (l.take 1) (l.drop 1)
        rw [List.take_append_drop] at h2
        show (T (nameA (l.drop 1))).size ≤ _
        omega
      · cases h
theorem cell_same {w w' : World} {k : Nat} (h : w'.heap[k]? = w.heap[k]?) (i : Nat) : w'.cell? ⟨k, i, none⟩ = w.cell? ⟨k, i, none⟩ := by simp [World.cell?, h]
theorem open_same {w w' : World} {k : Nat} (h : w'.heap[k]? = w.heap[k]?) (i : Nat) : w'.frozen? ⟨k, i, none⟩ = w.frozen? ⟨k, i, none⟩ := by simp [World.frozen?, h]
end Go.Proofs.YtjjggncbhenffaaGreatDoor
/- Blanks as spaces: xmlscan's spaced. -/
namespace Go.Proofs.YtjjggncbhenffaaGreatDoor
open Go.RowKit
def spaceZ (r : Int) : Int := if blankB r then 32 else r
theorem spaced1_any (r : Int) (w : World) : Calls Tryz.prog 243 #[.int .i32 r] w fun e w' => e = .returned (.int .i32 (spaceZ r)) ∧ w' = w := by
  have HD : Hid (spaceZ r = if blankB r then 32 else r) := hide rfl
  cases hb : blankB r
  · have HE := hide (unhide HD)
    rw [hb, if_neg (by decide)] at HE
    have HB := hide hb
    clear hb
    go_enter Tryz.func243, Tryz.ntmps243
    go_wp2_with (go_at_call 130; refine (isBlank_any r _).mono ?_; rintro e w1 ⟨rfl, rfl⟩; rw [unhide HB])
    go_ret
    exact ⟨by rw [unhide HE]; rfl, rfl⟩
  · have HE := hide (unhide HD)
    rw [hb, if_pos rfl] at HE
    have HB := hide hb
    clear hb
    go_enter Tryz.func243, Tryz.ntmps243
    go_wp2_with (go_at_call 130; refine (isBlank_any r _).mono ?_; rintro e w1 ⟨rfl, rfl⟩; rw [unhide HB])
    go_ret
    exact ⟨by rw [unhide HE]; rfl, rfl⟩
theorem spaced1_runes (w : World) : MapAtRunes Tryz.prog 243 #[] spaceZ w := fun W x _ _ => by
  refine (spaced1_any x W).mono ?_
  rintro e w' ⟨rfl, rfl⟩
  exact ⟨rfl, 0, rfl⟩
theorem spaced1_enters : ∀ args w, (callFunc 243 args).run Tryz.prog w = .ok (.enter 243 args) w := fun _ _ => by kernel_rfl
theorem spaceZ_nat (c : Nat) : spaceZ (c : Int) = (spaceC c : Nat) := by
  unfold spaceZ spaceC
  rw [blankC_eq]
  split <;> rfl
theorem encRune (c : Nat) : Lib.encodeRune (c : Int) = runeB c := rfl
theorem mapGo_tx : ∀ (l : List Nat) (n : Nat), okL l → (tx l).length ≤ n → Lib.mapGoD spaceZ n (tx l) = tx (l.map spaceC)
  | [], 0, _, _ => rfl
  | [], n + 1, _, _ => by
    unfold Lib.mapGoD
    rw [if_pos (show tx [] = [] from rfl)]; rfl
  | c :: t, 0, h, hn => by
    have := runeB_pos (h c (List.mem_cons_self ..))
    have e : (tx (c :: t)).length = (runeB c).length + (tx t).length := by simp [tx]
    omega
  | c :: t, n + 1, h, hn => by
    have hc := h c (List.mem_cons_self ..)
    have hp := runeB_pos hc
    have e : (tx (c :: t)).length = (runeB c).length + (tx t).length := by simp [tx]
    have ed : Lib.decodeL (tx (c :: t)) = (c, (runeB c).length) := by
      show Lib.decodeL (runeB c ++ tx t) = _
      exact dec_rune c (charR_ok hc) _
    unfold Lib.mapGoD
    rw [if_neg (fun e0 => by rw [e0] at e; simp at e; omega), ed]
    show (if 0 ≤ spaceZ (c : Int) then Lib.encodeRune (spaceZ (c : Int)) else []) ++ Lib.mapGoD spaceZ n ((runeB c ++ tx t).drop (runeB c).length) = _
    rw [spaceZ_nat, if_pos (by omega), encRune, List.drop_left, mapGo_tx t n (okL_tail h) (by omega)]
    rfl
theorem okL_space {l : List Nat} (h : okL l) : okL (l.map spaceC) := by
  intro c hc
  obtain ⟨x, hx, rfl⟩ := List.mem_map.1 hc
  unfold spaceC
  split
  · decide
  · exact h x hx
theorem sz_space : ∀ {l : List Nat}, okL l → (T (l.map spaceC)).size = (T l).size
  | [], _ => rfl
  | c :: t, h => by
    have ih := sz_space (okL_tail h)
    rw [T_size, T_size] at ih ⊢
    have e1 : (tx ((c :: t).map spaceC)).length = (runeB (spaceC c)).length + (tx (t.map spaceC)).length := by simp [tx]
    have e2 : (tx (c :: t)).length = (runeB c).length + (tx t).length := by simp [tx]
    have e3 : (runeB (spaceC c)).length = (runeB c).length := by
      unfold spaceC
      split
      · rename_i hb
        have : c < 128 := by
          unfold blankC at hb
          simp at hb
          omega
        rw [runeB_one this, runeB_one (by omega)]
        rfl
      · rfl
    omega
set_option maxHeartbeats 1000000 in
theorem spaced_any (l : List Nat) (w : World) (hl : okL l) (hs : (T l).size ≤ 32768) (hE : Env w) :
    Calls Tryz.prog 219 #[.string (T l)] w fun e w' => e = .returned (.string (T (l.map spaceC))) ∧ Below w.heap.size w w' := by
  have HM : Hid (∀ W, Below w.heap.size w W → Calls Tryz.prog 242 #[.func (.func 243) #[] #[], .string (T l)] W fun e w' => e = .returned (.string (T (l.map spaceC))) ∧ Below W.heap.size W w') := by
    refine hide fun W hW => (Tryz.strings_Map_runes 243 #[] spaced1_enters spaceZ (T l) W (by omega) (spaced1_runes W) (fun x hx => ?_) (hE.below hW).tabs).mono ?_
    · rw [spaceZ_nat]
      unfold spaceC
      split <;> omega
    · rintro e w' ⟨rfl, hb⟩
      refine ⟨?_, hb⟩
      rw [T_data]
      unfold Lib.mapD
      rw [mapGo_tx l _ hl (Nat.le_refl _)]
      rfl
  clear hE
  go_enter Tryz.func219, Tryz.ntmps219
  go_wp2_with (go_at_call 242; refine (unhide HM _ (by (repeat first | assumption | with_reducible exact Below.refl _ _ | refine Below.drew ?_))).mono ?_; rintro e w1 ⟨rfl, hb1⟩)
  go_ret
  exact ⟨rfl, hb1⟩
end Go.Proofs.YtjjggncbhenffaaGreatDoor
/- Where an attribute's text comes to a sign: strings.IndexAny. -/
namespace Go.Proofs.YtjjggncbhenffaaGreatDoor
open Go.RowKit
/-- Where signs stand: the place of the first of < & and a quote. -/
def anyX (q : Nat) (l : List Nat) : Int := if l.takeWhile (plainC q) = l then -1 else ((T (l.takeWhile (plainC q))).size : Nat)
theorem mem_tw {f : Nat → Bool} : ∀ {l : List Nat} {x : Nat}, x ∈ l.takeWhile f → f x = true
  | [], _, h => by cases h
  | a :: t, x, h => by
    rw [List.takeWhile_cons] at h
    split at h
    · rename_i ha
      rcases List.mem_cons.1 h with rfl | h
      · exact ha
      · exact mem_tw h
    · cases h
theorem anyX_none {q : Nat} {l : List Nat} (h : ∀ x ∈ l, plainC q x = true) : anyX q l = -1 := by
  unfold anyX
  rw [if_pos (by have := List.takeWhile_append_of_pos (l₂ := []) h; simpa using this)]
theorem anyX_hit {q : Nat} {p t : List Nat} {c : Nat} (h : ∀ x ∈ p, plainC q x = true) (hc : plainC q c = false) : anyX q (p ++ c :: t) = (tx p).length := by
  have e : (p ++ c :: t).takeWhile (plainC q) = p := by
    rw [List.takeWhile_append_of_pos h, List.takeWhile_cons_of_neg (by rw [hc]; decide), List.append_nil]
  unfold anyX
  rw [e, if_neg (by simp), T_size]
theorem signs_T (q : Nat) : (⟨#[60, 38]⟩ : ByteArray) ++ T [q] = T [60, 38, q] := by
  apply ByteArray.ext
  apply Array.toList_inj.1
  rw [show ((⟨#[60, 38]⟩ : ByteArray) ++ T [q]).data.toList = (⟨#[60, 38]⟩ : ByteArray).data.toList ++ (T [q]).data.toList by rw [ByteArray.data_append, Array.toList_append], T_data, T_data]
  rfl
theorem sign_in {q : Nat} (hq : q = 34 ∨ q = 39) : ∀ c, c < 128 → decide (0 ≤ Lib.indexByte [60, 38, UInt8.ofNat q] (UInt8.ofNat c)) = !plainC q c := by
  rcases hq with rfl | rfl
  · decide +kernel
  · decide +kernel
theorem runeIn_any (q : Nat) (hq : q = 34 ∨ q = 39) (c : Nat) (hc : charR (c : Int) = true) (w : World) :
    Calls Tryz.prog 238 #[.string (T [60, 38, q]), .int .i32 (c : Int)] w fun e w' => ∃ v : Int, e = .returned (.int .i64 v) ∧ decide (0 ≤ v) = !plainC q c ∧ Below w.heap.size w w' := by
  have hT : (T [60, 38, q]).data.toList = [60, 38, UInt8.ofNat q] := by
    rw [T_data]
    rcases hq with rfl | rfl <;> decide +kernel
  by_cases h : c < 128
  · refine (Tryz.strings_IndexRune_ascii _ (c : Int) w (by omega) (by omega)).mono ?_
    rintro e w' ⟨rfl, rfl⟩
    refine ⟨_, rfl, ?_, Below.refl _ _⟩
    rw [hT, ← sign_in hq c h]
    rfl
  · refine (indexRune_high [60, 38, q] ?_ ?_ (by simp) c (charR_ok hc) (by omega) w).mono ?_
    · unfold okL; rcases hq with rfl | rfl <;> decide +kernel
    · rcases hq with rfl | rfl <;> decide
    rintro e w' ⟨rfl, hb⟩
    refine ⟨_, rfl, ?_, hb⟩
    have : plainC q c = true := by
      unfold plainC
      simp
      omega
    rw [this]
    rfl
set_option maxRecDepth 100000 in
set_option maxHeartbeats 2000000 in
theorem indexAny_few (q : Nat) (hq : q = 34 ∨ q = 39) (l : List Nat) (w : World) (hl : okL l) (hs : (T l).size ≤ 8) :
    Calls Tryz.prog 218 #[.string (T l), .string (T [60, 38, q])] w fun e w' => e = .returned (.int .i64 (anyX q l)) ∧ Below w.heap.size w w' := by
  have hz : (T [60, 38, q]).size = 3 := by
    rw [T_size]
    rcases hq with rfl | rfl <;> decide +kernel
  have hem : (T [60, 38, q]).toList.isEmpty = false := by
    rw [T_toList]
    rcases hq with rfl | rfl <;> decide +kernel
  have h8 : decide ((8 : Int) < ((T l).size : Int)) = false := decide_eq_false (by omega)
  have HR := hide (runeIn_any q hq)
  generalize hX : T [60, 38, q] = X at *
  clear hX
  go_enter Tryz.func218, Tryz.ntmps218
  go_wp2_with (go_at_call 240; refine (Tryz.strings_shouldUseASCIISet _ _).mono ?_; rintro e w' ⟨rfl, hw⟩; rw [hw, h8])
  go_loopw [] (fun wr => ∃ p t : List Nat, l = p ++ t ∧ (∀ x ∈ p, plainC q x = true) ∧ wr.heap[w.heap.size]? = some (.stringIter (T l) (tx p).length) ∧ Below w.heap.size w wr) (fun wr => (T l).size - wr.iterPos w.heap.size)
  case atStart =>
    refine ⟨[], l, rfl, (fun _ h => by cases h), ?_, ?_⟩
    · simpa [tx_nil] using World.iter_heap w (T l) 0
    · exact (Below.refl _ _).alloc (Nat.le_refl _) _
  case round =>
    obtain ⟨p, t, hpt, hp, hk, hbr⟩ := hrel
    cases t with
    | nil =>
      have hnx := fun ty => Lib.run_next_end_at (P := Tryz.prog) wr w.heap.size (T l) (tx p).length ty hk (end_at hpt)
      have HA := hide (show anyX q l = -1 from by rw [hpt, List.append_nil]; exact anyX_none hp)
      clear hpt hk
      go_wp2
      go_ret
      exact ⟨ret_int (unhide HA).symm, hbr⟩
    | cons c t =>
      obtain ⟨hd, hlt, hc, hpos⟩ := dec_at hpt hl
      have hnx := fun ty => Lib.run_next_any_at (P := Tryz.prog) wr w.heap.size (T l) (tx p).length ty hk hlt
      rw [hd] at hnx
      simp only at hnx
      have HS := hide (tx_snoc p c)
      have HPT := hide hpt
      have HK := hide hk
      have hbl : w.heap.size < wr.heap.size := (Array.getElem?_eq_some_iff.1 hk).1
      have hbI : Below w.heap.size w (wr.iterAt w.heap.size (T l) ((tx p).length + (runeB c).length)) := Lib.below_iterAt hbr (by omega) _ _
      have hszI : w.heap.size ≤ (wr.iterAt w.heap.size (T l) ((tx p).length + (runeB c).length)).heap.size := by rw [Lib.iterAt_size]; omega
      have HKI : Hid ((wr.iterAt w.heap.size (T l) ((tx p).length + (runeB c).length)).heap[w.heap.size]? = some (.stringIter (T l) ((tx p).length + (runeB c).length))) := hide (Lib.iterAt_heap wr _ _ _ _ (unhide HK))
      clear hd hpt hk
      cases hpc : plainC q c
      · have HA := hide (show anyX q l = (tx p).length from by rw [unhide HPT]; exact anyX_hit hp hpc)
        go_wp2_with (go_at_call 238; refine (unhide HR c hc _).mono ?_; rintro e w1 ⟨v, rfl, hv, hb1⟩; rw [hpc] at hv)
        go_ret
        exact ⟨ret_int (unhide HA).symm, hbI.trans (hb1.mono hszI)⟩
      · go_wp2_with (go_at_call 238; refine (unhide HR c hc _).mono ?_; rintro e w1 ⟨v, rfl, hv, hb1⟩; rw [hpc] at hv)
        refine ⟨⟨p ++ [c], t, by rw [unhide HPT]; simp, ?_, ?_, hbI.trans (hb1.mono hszI)⟩, ?_⟩
        · intro x hx
          rcases List.mem_append.1 hx with hx | hx
          · exact hp x hx
          · rw [List.mem_singleton.1 hx]; exact hpc
        · rw [unhide HS]; exact block_below (unhide HKI) hb1
        · rw [iterPos_of (block_below (unhide HKI) hb1), iterPos_of (unhide HK)]
          omega
theorem plain_bytes {q x : Nat} (hq : q = 34 ∨ q = 39) (hx : charR (x : Int) = true) (hp : plainC q x = true) (b : UInt8) (hb : b ∈ runeB x) : [60, 38, UInt8.ofNat q].contains b = false := by
  by_cases h : x < 128
  · rw [runeB_one h] at hb
    obtain rfl := List.mem_singleton.1 hb
    have h1 := sign_in hq x h
    rw [← Lib.contains_iff_indexByte, hp] at h1
    exact h1
  · have h1 := runeB_high (charR_ok hx) (by omega) b hb
    cases hc : [60, 38, UInt8.ofNat q].contains b
    · rfl
    · have h2 := List.contains_iff_mem.1 hc
      have : b.toNat < 128 := by
        rcases hq with rfl | rfl
        · simp at h2
          rcases h2 with rfl | rfl | rfl <;> decide
        · simp at h2
          rcases h2 with rfl | rfl | rfl <;> decide
      omega
theorem plain_tx {q : Nat} (hq : q = 34 ∨ q = 39) {p : List Nat} (hl : okL p) (hp : ∀ x ∈ p, plainC q x = true) (b : UInt8) (hb : b ∈ tx p) : [60, 38, UInt8.ofNat q].contains b = false := by
  obtain ⟨x, hx, hbx⟩ := List.mem_flatMap.1 (by simpa [tx] using hb)
  exact plain_bytes hq (hl x hx) (hp x hx) b hbx
theorem no_any {q : Nat} (hq : q = 34 ∨ q = 39) {p : List Nat} (hl : okL p) (hp : ∀ x ∈ p, plainC q x = true) (t : List UInt8) : Lib.NoAny (tx p ++ t) [60, 38, UInt8.ofNat q] (tx p).length := by
  intro j b hj hb
  rw [List.getElem?_append_left hj] at hb
  exact plain_tx hq hl hp b (List.mem_of_getElem? hb)
theorem indexAny_bytes {q : Nat} (hq : q = 34 ∨ q = 39) {l : List Nat} (hl : okL l) : Lib.indexAny (tx l) [60, 38, UInt8.ofNat q] = anyX q l := by
  by_cases h : ∀ x ∈ l, plainC q x = true
  · rw [anyX_none h]
    have := no_any hq hl h []
    rw [List.append_nil] at this
    exact Lib.indexAny_none this
  · have e := List.takeWhile_append_dropWhile (p := plainC q) (l := l)
    cases hd : l.dropWhile (plainC q) with
    | nil =>
      rw [hd, List.append_nil] at e
      exact absurd (fun x hx => by rw [← e] at hx; exact mem_tw hx) h
    | cons c t =>
      rw [hd] at e
      have hc : plainC q c = false := by
        have := List.head_dropWhile_not (plainC q) (l := l) (by rw [hd]; simp)
        simpa [hd] using this
      have hp : ∀ x ∈ l.takeWhile (plainC q), plainC q x = true := fun x hx => mem_tw hx
      generalize l.takeWhile (plainC q) = p at *
      subst e
      rw [anyX_hit hp hc]
      have hlp : okL p := fun x hx => hl x (List.mem_append_left _ hx)
      have hcc := hl c (by simp)
      have h128 : c < 128 := by
        unfold plainC at hc
        simp at hc
        omega
      refine Lib.indexAny_hit (i := (tx p).length) (x := UInt8.ofNat c) ?_ ?_ ?_
      · rw [tx_append]; exact no_any hq hlp hp _
      · rw [tx_append, List.getElem?_append_right (Nat.le_refl _), Nat.sub_self, tx_cons, runeB_one h128]
        rfl
      · rw [Lib.contains_iff_indexByte, sign_in hq c h128, hc]
        rfl
theorem indexAny_any (q : Nat) (hq : q = 34 ∨ q = 39) (l : List Nat) (w : World) (hl : okL l) (hs : (T l).size ≤ 32768) :
    Calls Tryz.prog 218 #[.string (T l), .string ((⟨#[60, 38]⟩ : ByteArray) ++ T [q])] w fun e w' => e = .returned (.int .i64 (anyX q l)) ∧ Below w.heap.size w w' := by
  rw [signs_T]
  by_cases h8 : (T l).size ≤ 8
  · exact indexAny_few q hq l w hl h8
  · have hT : (T [60, 38, q]).data.toList = [60, 38, UInt8.ofNat q] := by
      rw [T_data]
      rcases hq with rfl | rfl <;> decide +kernel
    have hz : (T [60, 38, q]).size = 3 := by
      rw [T_size]
      rcases hq with rfl | rfl <;> decide +kernel
    refine (Tryz.strings_IndexAny_long (zero_of_info (v := .agg (Array.replicate 256 (.bool false))) (n := 256) (by kernel_rfl)).1 (T l) (T [60, 38, q]) w (by omega) (by omega) (by omega) (by omega) ?_).mono ?_
    · rw [hT]
      intro j b hb
      have := List.mem_of_getElem? hb
      rcases hq with rfl | rfl
      · simp at this
        rcases this with rfl | rfl | rfl <;> decide
      · simp at this
        rcases this with rfl | rfl | rfl <;> decide
    · rintro e w' ⟨rfl, rfl⟩
      refine ⟨?_, ((Below.refl _ _).alloc (Nat.le_refl _) _).alloc (by simp) _⟩
      rw [T_data, hT, indexAny_bytes hq hl]
end Go.Proofs.YtjjggncbhenffaaGreatDoor
