/- Several texts, laid as one. -/
import Derived.Test.YtekjiagjgopnjaaGreatDoorGbp
import Derived.Test.YtekjiagjgopnjaaGreatDoorGbl
import Derived.Test.YtekjiagjgopnjaaGreatDoorGan
import Derived.Test.YtekjiagjgopnjaaGreatDoorGai
import Derived.Test.YtekjiagjgopnjaaGreatDoorGbh
/- Escaped texts: bytes and characters. -/
namespace Go.Proofs.YtekjiagjgopnjaaGreatDoor
/-- A text that is cut at a sign below 128. -/
theorem txt_split {q : Nat} (hq : q < 128) {y : List UInt8} : ∀ (rs : List Nat), (∀ r ∈ rs, charR (r : Int) = true) → ∀ x : List UInt8, rs.flatMap runeB = x ++ UInt8.ofNat q :: y → Txt x ∧ Txt y
  | [], _, x, h => by
    have := congrArg List.length h
    simp at this
  | r :: rs, hr, x, h => by
    have hrr := hr r (List.mem_cons_self ..)
    have hrs : ∀ z ∈ rs, charR (z : Int) = true := fun z hz => hr z (List.mem_cons_of_mem _ hz)
    rw [List.flatMap_cons] at h
    rcases List.append_eq_append_iff.1 h with ⟨a', h1, h2⟩ | ⟨c', h1, h2⟩
    · obtain ⟨⟨us, hu1, hu2⟩, h4⟩ := txt_split hq rs hrs a' h2
      refine ⟨⟨r :: us, fun z hz => ?_, ?_⟩, h4⟩
      · rcases List.mem_cons.1 hz with rfl | hz
        · exact hrr
        · exact hu1 z hz
      · rw [h1, hu2, List.flatMap_cons]
    · cases c' with
      | nil =>
        rw [List.append_nil] at h1
        rw [List.nil_append] at h2
        refine ⟨⟨[r], fun z hz => by rw [List.mem_singleton.1 hz]; exact hrr, by rw [← h1]; simp⟩, ?_⟩
        exact txt_tail hq ⟨rs, hrs, h2⟩
      | cons b c'' =>
        obtain ⟨rfl, h3⟩ := List.cons.inj h2
        have hlow : r < 128 := by
          by_cases hh : r < 128
          · exact hh
          · exfalso
            have := runeB_high (charR_ok hrr) (by omega) (UInt8.ofNat q) (by rw [h1]; simp)
            rw [u8_nat (by omega)] at this
            omega
        rw [runeB_one hlow] at h1
        have hl := congrArg List.length h1
        simp at hl
        have hx : x = [] := by
          cases x with
          | nil => rfl
          | cons _ _ => simp at hl; omega
        have hc : c'' = [] := by
          cases c'' with
          | nil => rfl
          | cons _ _ => simp at hl; omega
        subst hx hc
        exact ⟨⟨[], (fun _ h => by cases h), rfl⟩, ⟨rs, hrs, by simpa using h3⟩⟩
theorem txt_cut {q : Nat} (hq : q < 128) {x y : List UInt8} (h : Txt (x ++ UInt8.ofNat q :: y)) : Txt x ∧ Txt y := by
  obtain ⟨rs, h1, h2⟩ := h
  exact txt_split hq rs h1 x h2.symm
/-- Other texts, as bytes and as characters. -/
structure BothO (o : Nat → List UInt8) (oN : Nat → List Nat) : Prop where
  few : FewO o
  eq : ∀ c, o c = (oN c).map UInt8.ofNat
  low : ∀ c, ∀ x ∈ oN c, x < 128
  may : ∀ c, oN c ≠ [] → charR (c : Int) = true
theorem esc_both : BothO escO escN := by
  refine ⟨esc_few, ?_, ?_, ?_⟩
  · intro c
    unfold escO escN insO insN
    repeat' split
    all_goals rfl
  · exact esc_cases (P := fun _ o => ∀ x ∈ o, x < 128) (by decide) (by decide) (by decide) (by decide) (fun c x h => by cases h)
  · exact esc_cases (P := fun c o => o ≠ [] → charR (c : Int) = true) (fun _ => by decide +kernel) (fun _ => by decide +kernel) (fun _ => by decide +kernel) (fun _ => by decide +kernel) (fun c h => absurd rfl h)
theorem quo_both : BothO quoO quoN := by
  refine ⟨quo_few, ?_, ?_, ?_⟩
  · intro c
    unfold quoO quoN insO insN
    repeat' split
    all_goals rfl
  · exact quo_cases (P := fun _ o => ∀ x ∈ o, x < 128) (by decide) (by decide) (by decide) (by decide) (by decide) (by decide) (fun c x h => by cases h)
  · exact quo_cases (P := fun c o => o ≠ [] → charR (c : Int) = true) (fun _ => by decide +kernel) (fun _ => by decide +kernel) (fun _ => by decide +kernel) (fun _ => by decide +kernel) (fun _ => by decide +kernel) (fun _ => by decide +kernel) (fun c h => absurd rfl h)
theorem map_tx {o : Nat → List UInt8} {oN : Nat → List Nat} (h : BothO o oN) : ∀ (l : List Nat), okL l → mapO o (tx l) = tx (mapN oN l)
  | [], _ => rfl
  | c :: l, hl => by
    have ih := map_tx h l (fun x hx => hl x (List.mem_cons_of_mem _ hx))
    have hc := hl c (List.mem_cons_self ..)
    rw [tx_cons, mapO_app, ih, mapN_cons, tx_append]
    congr 1
    by_cases h128 : c < 128
    · rw [runeB_one h128]
      show oneO o (UInt8.ofNat c) ++ [] = _
      rw [List.append_nil]
      unfold oneO oneN
      rw [u8_nat (by omega), h.eq c]
      by_cases h0 : oN c = []
      · rw [if_pos (by rw [h0]; rfl), if_pos h0, tx_cons, runeB_one h128]
        rfl
      · rw [if_neg (by simpa using h0), if_neg h0, sign_len_tx (h.low c)]
    · have h0 : oN c = [] := by
        have := h.few.low c (by omega)
        rw [h.eq c] at this
        simpa using this
      rw [mapO_same o (runeB c) (fun b hb => h.few.low _ (runeB_high (charR_ok hc) (by omega) b hb))]
      unfold oneN
      rw [if_pos h0, tx_cons]
      simp [tx]
theorem map_ok {oN : Nat → List Nat} (hr : RefN oN) {l : List Nat} (hl : okL l) : okL (mapN oN l) := by
  intro x hx
  obtain ⟨c, hc, hxc⟩ := List.mem_flatMap.1 hx
  unfold oneN at hxc
  split at hxc
  · rw [List.mem_singleton.1 hxc]; exact hl c hc
  · exact hr.ok c x hxc
/-- What is a text with other texts in it was one without them. -/
theorem txt_unmap {o : Nat → List UInt8} {oN : Nat → List Nat} (h : BothO o oN) : ∀ (n : Nat) (l p : List UInt8), l.length = n → (∀ b ∈ p, o b.toNat = []) → Txt (p ++ mapO o l) → Txt (p ++ l)
  | 0, l, p, hn, _, ht => by
    rw [List.length_eq_zero_iff.1 hn] at ht ⊢
    exact ht
  | n + 1, [], p, hn, _, _ => by cases hn
  | n + 1, b :: l, p, hn, hp, ht => by
    have hl : l.length = n := by simpa using hn
    have hm : mapO o (b :: l) = oneO o b ++ mapO o l := rfl
    rw [hm] at ht
    by_cases h0 : o b.toNat = []
    · have e : oneO o b = [b] := by unfold oneO; rw [if_pos h0]
      rw [e, ← List.append_assoc] at ht
      have := txt_unmap h n l (p ++ [b]) hl (fun x hx => by
        rcases List.mem_append.1 hx with hx | hx
        · exact hp x hx
        · rw [List.mem_singleton.1 hx]; exact h0) ht
      rwa [List.append_assoc] at this
    · have e : oneO o b = (oN b.toNat).map UInt8.ofNat := by unfold oneO; rw [if_neg h0, h.eq]
      have hne : oN b.toNat ≠ [] := fun hh => h0 (by rw [h.eq, hh]; rfl)
      rw [e] at ht
      cases hc : oN b.toNat with
      | nil => exact absurd hc hne
      | cons d t =>
        rw [hc, List.map_cons, List.cons_append] at ht
        obtain ⟨hp', ht'⟩ := txt_cut (h.low _ d (by rw [hc]; exact List.mem_cons_self ..)) ht
        have hl' := txt_behind t (fun x hx => h.low _ x (by rw [hc]; exact List.mem_cons_of_mem _ hx)) ht'
        have ih := txt_unmap h n l [] hl (fun x hx => by cases hx) hl'
        obtain ⟨us, hu1, hu2⟩ := hp'
        obtain ⟨vs, hv1, hv2⟩ := ih
        rw [List.nil_append] at hv2
        have hb128 : b.toNat < 128 := by
          by_cases hh : b.toNat < 128
          · exact hh
          · exact absurd (h.few.low _ (by omega)) h0
        refine ⟨us ++ b.toNat :: vs, fun x hx => ?_, ?_⟩
        · rcases List.mem_append.1 hx with hx | hx
          · exact hu1 x hx
          · rcases List.mem_cons.1 hx with rfl | hx
            · exact h.may _ hne
            · exact hv1 x hx
        · rw [List.flatMap_append, List.flatMap_cons, ← hu2, ← hv2, runeB_one hb128]
          simp
end Go.Proofs.YtekjiagjgopnjaaGreatDoor
/- What must be whatever is asked: stencillaw03's live; tokens in memory, read. -/
namespace Go.Proofs.YtekjiagjgopnjaaGreatDoor
open Go.RowKit
theorem tokRow_get : ∀ (ts : List XTok) (vs : List Value) (i j : Nat) (t : XTok) (v : Value), ts[i]? = some t → vs[i]? = some v → j < 4 → (tokRow ts vs)[i * 4 + j]? = (tokCells t v)[j]?
  | [], _, i, _, _, _, h, _, _ => by cases h
  | _ :: _, [], i, _, _, _, _, h, _ => by cases h
  | x :: ts, y :: vs, 0, j, t, v, h1, h2, hj => by
    cases h1
    cases h2
    show (tokCells x y ++ tokRow ts vs)[0 * 4 + j]? = _
    rw [Nat.zero_mul, Nat.zero_add, List.getElem?_append_left (by show j < 4; exact hj)]
  | x :: ts, y :: vs, i + 1, j, t, v, h1, h2, hj => by
    have ih := tokRow_get ts vs i j t v h1 h2 hj
    show (tokCells x y ++ tokRow ts vs)[(i + 1) * 4 + j]? = _
    rw [List.getElem?_append_right (by show 4 ≤ _; omega), ← ih]
    congr 1
    show (i + 1) * 4 + j - 4 = _
    omega
/-- Where a row's cells lie. -/
theorem owns_at {w : World} {B : Nat} {e : TypeId} {size : Nat} {v : Value} {n : Nat} {xs : List Value} (h : w.ownsRow B e size v n xs) (hn : 0 < n) : ∃ g cap, v = .slice (some ⟨g, 0, none⟩) n cap ∧ n ≤ cap ∧ B ≤ g ∧ g < w.heap.size ∧ ∀ j x, xs[j]? = some x → w.cell? ⟨g, j, none⟩ = some x := by
  have h' := h
  rcases h.2 with ⟨_, h0⟩ | ⟨g, cap, cur, rfl, h2, h3, h4⟩
  · omega
  · refine ⟨g, cap, rfl, h4.1, h2, (Array.getElem?_eq_some_iff.1 h3).1, fun j x hx => ?_⟩
    have hj : j < n * size := by
      have := (List.getElem?_eq_some_iff.1 hx).1
      rw [h.1] at this
      exact this
    have hc := h'.cellAt j hj
    rw [hc]
    exact hx
/-- A token in memory. -/
structure TokAt (w : World) (B g i : Nat) (t : XTok) : Prop where
  k : w.cell? ⟨g, i * 4, none⟩ = some (.int .i64 (t.kind : Nat))
  n : w.cell? ⟨g, i * 4 + 1, none⟩ = some (.string (T t.name))
  a : ∃ v, w.cell? ⟨g, i * 4 + 2, none⟩ = some v ∧ AttrsAt w B v t.attrs
  x : w.cell? ⟨g, i * 4 + 3, none⟩ = some (.string (T t.text))
theorem toks_at {w : World} {B : Nat} {vt : Value} {ts : List XTok} (h : Toks w B vt ts) (hn : 0 < ts.length) : ∃ g cap, vt = .slice (some ⟨g, 0, none⟩) ts.length cap ∧ ts.length ≤ cap ∧ B ≤ g ∧ g < w.heap.size ∧ ∀ (i : Nat) (t : XTok), ts[i]? = some t → TokAt w B g i t := by
  obtain ⟨vs, h1, h2, h3⟩ := h
  obtain ⟨g, cap, rfl, hc, hB, hg, hx⟩ := owns_at h2 hn
  refine ⟨g, cap, rfl, hc, hB, hg, fun i t ht => ?_⟩
  have hi : i < vs.length := by
    rw [h1]
    exact (List.getElem?_eq_some_iff.1 ht).1
  obtain ⟨v, hv⟩ : ∃ v, vs[i]? = some v := ⟨vs[i], List.getElem?_eq_getElem hi⟩
  refine ⟨?_, ?_, ⟨v, ?_, h3 i t v ht hv⟩, ?_⟩
  · exact hx (i * 4 + 0) _ (tokRow_get ts vs i 0 t v ht hv (by decide))
  · exact hx (i * 4 + 1) _ (tokRow_get ts vs i 1 t v ht hv (by decide))
  · exact hx (i * 4 + 2) _ (tokRow_get ts vs i 2 t v ht hv (by decide))
  · exact hx (i * 4 + 3) _ (tokRow_get ts vs i 3 t v ht hv (by decide))
def liveX : List Nat := [60, 97, 32, 98, 61, 39, 49, 39, 62, 120, 38, 108, 116, 59, 60, 33, 45, 45, 99, 45, 45, 62, 60, 47, 97, 62]
theorem liveX_T : (⟨#[60, 97, 32, 98, 61, 39, 49, 39, 62, 120, 38, 108, 116, 59, 60, 33, 45, 45, 99, 45, 45, 62, 60, 47, 97, 62]⟩ : ByteArray) = T liveX := by
  have : tx liveX = [60, 97, 32, 98, 61, 39, 49, 39, 62, 120, 38, 108, 116, 59, 60, 33, 45, 45, 99, 45, 45, 62, 60, 47, 97, 62] := by decide +kernel
  unfold T
  rw [this]
theorem liveX_ok : okL liveX := by
  unfold okL
  decide +kernel
theorem liveX_scan : scanX liveX = .ok [⟨2, [97], [([98], [49])], []⟩, ⟨4, [], [], [120, 60]⟩, ⟨5, [], [], [99]⟩, ⟨7, [97], [], []⟩] := by kernel_rfl
theorem liveX_type : RS.noType (liveX.length + 1) (RS.start liveX) = true := by kernel_rfl
set_option maxRecDepth 100000 in
set_option maxHeartbeats 2000000 in
theorem live_any (w : World) (hE : XEnv w.heap.size w) :
    Calls Tryz.prog 6 #[] w fun e w' => e = .returned (.bool true) ∧ Below w.heap.size w w' := by
  have HS := hide (scan_plain liveX w liveX_ok (by rw [← liveX_T]; decide) hE (by kernel_rfl) liveX_type)
  rw [liveX_scan, ← liveX_T] at HS
  clear hE
  go_enter Tryz.func6, Tryz.ntmps6
  go_wp2_with fail
  refine (unhide HS).mono ?_
  rintro e w1 ⟨⟨vt, rfl, hT⟩, hb⟩
  obtain ⟨g, cap, rfl, hcap, hB, hg, ht⟩ := toks_at hT (by decide)
  have t0 := ht 0 _ rfl
  have t1 := ht 1 _ rfl
  have t2 := ht 2 _ rfl
  have t3 := ht 3 _ rfl
  obtain ⟨v, ha1, ha2⟩ := t0.a
  obtain ⟨g2, cap2, rfl, hcap2, hB2, hg2, hp⟩ := owns_at ha2 (by decide)
  have k0 : w1.cell? ⟨g, 0, none⟩ = some (.int .i64 2) := t0.k
  have k1 : w1.cell? ⟨g, 2, none⟩ = some (.slice (some ⟨g2, 0, none⟩) 1 cap2) := ha1
  have k2 : w1.cell? ⟨g2, 1, none⟩ = some (.string ⟨#[49]⟩) := hp 1 _ rfl
  have k3 : w1.cell? ⟨g, 7, none⟩ = some (.string ⟨#[120, 60]⟩) := t1.x
  have k4 : w1.cell? ⟨g, 8, none⟩ = some (.int .i64 5) := t2.k
  have k5 : w1.cell? ⟨g, 12, none⟩ = some (.int .i64 7) := t3.k
  clear hT ht t0 t1 t2 t3 ha1 ha2 hp HS
  go_wp2
  go_ret
  exact ⟨rfl, hb⟩
end Go.Proofs.YtekjiagjgopnjaaGreatDoor
/- A text, escaped, is read as itself: the law XmlscanTexts. -/
namespace Go.Proofs.YtekjiagjgopnjaaGreatDoor
open Go.RowKit
theorem XEnv.up {B B' : Nat} {w : World} (h : XEnv B w) (hb : B ≤ B') : XEnv B' w := ⟨h.env, h.x, h.m, h.l, h.X, h.M, h.L, Nat.lt_of_lt_of_le h.g1 hb, Nat.lt_of_lt_of_le h.g2 hb, Nat.lt_of_lt_of_le h.g3 hb, Nat.lt_of_lt_of_le h.g4 hb⟩
theorem XEnv.at {w w' : World} (h : XEnv w.heap.size w) (hb : Below w.heap.size w w') : XEnv w'.heap.size w' := (h.low hb).up hb.size
def escS (s : ByteArray) : ByteArray := ⟨(mapO escO s.data.toList).toArray⟩
def quoS (s : ByteArray) : ByteArray := ⟨(mapO quoO s.data.toList).toArray⟩
def docS (s : ByteArray) : ByteArray := (⟨#[60, 97, 32, 98, 61, 34]⟩ : ByteArray) ++ quoS s ++ (⟨#[34, 62]⟩ : ByteArray) ++ escS s ++ (⟨#[60, 47, 97, 62]⟩ : ByteArray)
theorem escS_T {l : List Nat} (h : okL l) : escS (T l) = T (mapN escN l) := by
  unfold escS
  rw [T_data, map_tx esc_both l h]
  rfl
theorem quoS_T {l : List Nat} (h : okL l) : quoS (T l) = T (mapN quoN l) := by
  unfold quoS
  rw [T_data, map_tx quo_both l h]
  rfl
theorem docS_T {l : List Nat} (h : okL l) : docS (T l) = T (docL l) := by
  have e1 : (⟨#[60, 97, 32, 98, 61, 34]⟩ : ByteArray) = T [60, 97, 32, 98, 61, 34] := by decide +kernel
  have e2 : (⟨#[34, 62]⟩ : ByteArray) = T [34, 62] := by decide +kernel
  have e3 : (⟨#[60, 47, 97, 62]⟩ : ByteArray) = T [60, 47, 97, 62] := by decide +kernel
  unfold docS
  rw [escS_T h, quoS_T h, e1, e2, e3, T_app, T_app, T_app, T_app]
  congr 1
  unfold docL
  simp
theorem docL_ok {l : List Nat} (h : okL l) : okL (docL l) := by
  have h1 : okL [60, 97, 32, 98, 61, 34] := by unfold okL; decide +kernel
  have h2 : okL [34, 62] := by unfold okL; decide +kernel
  have h3 : okL [60, 47, 97, 62] := by unfold okL; decide +kernel
  intro c hc
  have hc' : c ∈ [60, 97, 32, 98, 61, 34] ++ (mapN quoN l ++ ([34, 62] ++ (mapN escN l ++ [60, 47, 97, 62]))) := hc
  rcases List.mem_append.1 hc' with hc' | hc'
  · exact h1 c hc'
  · rcases List.mem_append.1 hc' with hc' | hc'
    · exact map_ok quo_ref h c hc'
    · rcases List.mem_append.1 hc' with hc' | hc'
      · exact h2 c hc'
      · rcases List.mem_append.1 hc' with hc' | hc'
        · exact map_ok esc_ref h c hc'
        · exact h3 c hc'
theorem docS_txt {s : ByteArray} (h : ¬ Txt s.data.toList) : ¬ Txt (docS s).data.toList := by
  intro h1
  apply h
  unfold docS at h1
  rw [ByteArray.data_append, ByteArray.data_append, ByteArray.data_append, ByteArray.data_append, Array.toList_append, Array.toList_append, Array.toList_append, Array.toList_append] at h1
  have h2 := txt_ahead 4 [60, 47, 97, 62] rfl (by decide) h1
  rw [List.append_assoc, show ((⟨#[34, 62]⟩ : ByteArray).data.toList ++ (escS s).data.toList) = UInt8.ofNat 34 :: (UInt8.ofNat 62 :: (escS s).data.toList) from rfl] at h2
  have h3 := (txt_cut (by decide) h2).2
  have h4 := txt_tail (by decide) h3
  have := txt_unmap esc_both s.data.toList.length s.data.toList [] rfl (fun _ h => by cases h) h4
  exact this
theorem map_size {o : Nat → List UInt8} (hf : FewO o) (s : ByteArray) : (mapO o s.data.toList).length ≤ 6 * s.size := mapO_len hf s.data.toList
theorem scan_told (cs : List Nat) (ts : List XTok) (w : World) (hl : okL cs) (hs : (T cs).size ≤ 32768) (hE : XEnv w.heap.size w)
    (hX : ([60, 63].isPrefixOf cs && nameA (cs.drop 2) == [120, 109, 108]) = false) (hT : RS.noType (cs.length + 1) (RS.start cs) = true) (h : scanX cs = .ok ts) :
    Calls Tryz.prog 5 #[.string (T cs)] w fun e w' => ∃ vt, e = .returned (.tuple #[vt, .int .i64 0, .int .i64 0]) ∧ Toks w' w.heap.size vt ts ∧ Below w.heap.size w w' := by
  have h1 := scan_plain cs w hl hs hE hX hT
  rw [h] at h1
  refine h1.mono ?_
  rintro e w' ⟨⟨vt, rfl, h2⟩, hb⟩
  exact ⟨vt, rfl, h2, hb⟩
/-- What Scan tells of the document: an error that may be, or the tokens. -/
def txtOut (s : ByteArray) (n : Nat) (w w' : World) (vt : Value) (er : Nat) : Prop := (er = 4 ∨ (er = 6 ∧ 32768 < n)) ∨ (er = 0 ∧ ∃ l, okL l ∧ s = T l ∧ Toks w' w.heap.size vt (⟨2, [97], [([98], l)], []⟩ :: (if l = [] then [] else [⟨4, [], [], l⟩]) ++ [⟨7, [97], [], []⟩]))
theorem txt_walk (s : ByteArray) (w : World) (hE : XEnv w.heap.size w) :
    Calls Tryz.prog 5 #[.string (docS s)] w fun e w' => ∃ (vt : Value) (er pl : Nat), e = .returned (.tuple #[vt, .int .i64 (er : Nat), .int .i64 (pl : Nat)]) ∧ Below w.heap.size w w' ∧
      txtOut s (docS s).size w w' vt er := by
  by_cases hz : 32768 < (docS s).size
  · refine (scan_long _ w hz).mono ?_
    rintro e w' ⟨rfl, rfl⟩
    exact ⟨_, 6, 0, rfl, Below.refl _ _, .inl (.inr ⟨rfl, hz⟩)⟩
  · by_cases ht : Txt s.data.toList
    · obtain ⟨l, hl, rfl⟩ := txt_T ht
      have hd := docS_T hl
      rw [hd] at hz ⊢
      refine (scan_told (docL l) _ w (docL_ok hl) (by omega) hE (doc_decl l) (doc_type l) (doc_scan l)).mono ?_
      rintro e w' ⟨vt, rfl, hT, hb⟩
      exact ⟨vt, 0, 0, rfl, hb, .inr ⟨rfl, l, hl, rfl, hT⟩⟩
    · refine (scan_bad _ w (by omega) hE.env (docS_txt ht)).mono ?_
      rintro e w' ⟨⟨at', _, rfl⟩, hb⟩
      exact ⟨_, 4, at', rfl, hb, .inl (.inl rfl)⟩
end Go.Proofs.YtekjiagjgopnjaaGreatDoor
/- Tokens in bytes, as they may be handed in, and whether one may stand in a document: xmlscan's isQName, isComment, isInstruction, isTarget. -/
namespace Go.Proofs.YtekjiagjgopnjaaGreatDoor
open Go.RowKit
structure BTok where
  kind : Int
  name : ByteArray
  attrs : List (ByteArray × ByteArray)
  text : ByteArray
/-- Pairs in memory: a row that was handed in, or one of one's own. -/
def PairsArg (w : World) (v : Value) (l : List (ByteArray × ByteArray)) : Prop := ∃ a cap, v = .slice a l.length cap ∧ (l ≠ [] → ∃ g o, a = some ⟨g, o, none⟩ ∧
  ∀ i x, l[i]? = some x → w.cell? ⟨g, o + i * 2, none⟩ = some (.string x.1) ∧ w.cell? ⟨g, o + i * 2 + 1, none⟩ = some (.string x.2))
structure TokArg (w : World) (g o : Nat) (t : BTok) : Prop where
  k : w.cell? ⟨g, o, none⟩ = some (.int .i64 t.kind)
  n : w.cell? ⟨g, o + 1, none⟩ = some (.string t.name)
  a : ∃ v, w.cell? ⟨g, o + 2, none⟩ = some v ∧ PairsArg w v t.attrs
  x : w.cell? ⟨g, o + 3, none⟩ = some (.string t.text)
def ToksArg (w : World) (a : Option Addr) (ts : List BTok) : Prop := ts ≠ [] → ∃ g o, a = some ⟨g, o, none⟩ ∧ ∀ i t, ts[i]? = some t → TokArg w g (o + i * 4) t
theorem PairsArg.below {w w' : World} {v : Value} {l : List (ByteArray × ByteArray)} (h : PairsArg w v l) (hb : Below w.heap.size w w') : PairsArg w' v l := by
  obtain ⟨a, cap, h1, h2⟩ := h
  refine ⟨a, cap, h1, fun hl => ?_⟩
  obtain ⟨g, o, h3, h4⟩ := h2 hl
  exact ⟨g, o, h3, fun i x hx => ⟨keptC hb (h4 i x hx).1, keptC hb (h4 i x hx).2⟩⟩
theorem TokArg.below {w w' : World} {g o : Nat} {t : BTok} (h : TokArg w g o t) (hb : Below w.heap.size w w') : TokArg w' g o t := by
  obtain ⟨h1, h2, ⟨v, h3, h4⟩, h5⟩ := h
  exact ⟨keptC hb h1, keptC hb h2, ⟨v, keptC hb h3, h4.below hb⟩, keptC hb h5⟩
theorem ToksArg.below {w w' : World} {a : Option Addr} {ts : List BTok} (h : ToksArg w a ts) (hb : Below w.heap.size w w') : ToksArg w' a ts := fun hl => by
  obtain ⟨g, o, h1, h2⟩ := h hl
  exact ⟨g, o, h1, fun i t ht => (h2 i t ht).below hb⟩
def qB (s : ByteArray) : Bool := splitB s.data.toList
def lowB (s : ByteArray) : Bool := s.data.toList.map (fun b => lowC b.toNat) == [120, 109, 108]
def tarB (s : ByteArray) : Bool := nameB s && !lowB s
def comB (s : ByteArray) : Bool := textB s && (!Lib.contains s.data.toList [45, 45] && !Lib.hasSuffix s.data.toList [45])
def insB (s : ByteArray) : Bool := textB s && (!Lib.contains s.data.toList [63, 62] && ((Lib.trimLeftF blankN s).toList == s.toList))
theorem nameB_txt {s : ByteArray} (h : nameB s = true) : ∃ l, okL l ∧ s = T l := by
  have h1 : textB s = true := by
    rw [textB_eq]
    rw [nameB_eq] at h
    simp only [Bool.and_eq_true] at h
    exact h.1.1
  exact txt_T ((textB_txt s).1 h1)
theorem low_tx {l : List Nat} (h : okL l) : ((tx l).map (fun b => lowC b.toNat) == [120, 109, 108]) = (l.map lowC == [120, 109, 108]) := by
  by_cases hh : ∃ c ∈ l, 128 ≤ c
  · obtain ⟨c, hc, h128⟩ := hh
    have e1 : (l.map lowC == [120, 109, 108]) = false := by
      apply beq_eq_false_iff_ne.2
      intro hx
      have h1 : lowC c ∈ l.map lowC := List.mem_map.2 ⟨c, hc, rfl⟩
      rw [hx] at h1
      have h2 : lowC c = c := by unfold lowC; rw [if_neg (by omega)]
      rw [h2] at h1
      simp at h1
      omega
    have e2 : ((tx l).map (fun b => lowC b.toNat) == [120, 109, 108]) = false := by
      apply beq_eq_false_iff_ne.2
      intro hx
      obtain ⟨b, hb⟩ : ∃ b, b ∈ runeB c := by
        have := runeB_pos (h c hc)
        cases hr : runeB c with
        | nil => rw [hr] at this; simp at this
        | cons b t => exact ⟨b, by simp⟩
      have hb1 := runeB_high (charR_ok (h c hc)) h128 b hb
      have hb2 : b ∈ tx l := List.mem_flatMap.2 ⟨c, hc, hb⟩
      have h1 : lowC b.toNat ∈ (tx l).map (fun b => lowC b.toNat) := List.mem_map.2 ⟨b, hb2, rfl⟩
      rw [hx] at h1
      have h2 : lowC b.toNat = b.toNat := by unfold lowC; rw [if_neg (by omega)]
      rw [h2] at h1
      simp at h1
      omega
    rw [e1, e2]
  · have ha : ∀ c ∈ l, c < 128 := fun c hc => by
      by_cases h : c < 128
      · exact h
      · exact absurd ⟨c, hc, by omega⟩ hh
    rw [sign_len_tx ha, List.map_map]
    have : l.map ((fun b : UInt8 => lowC b.toNat) ∘ UInt8.ofNat) = l.map lowC := List.map_congr_left fun c hc => by
      show lowC (UInt8.ofNat c).toNat = lowC c
      rw [asc_toNat (ha c hc)]
    rw [this]
theorem tarB_T {l : List Nat} (h : okL l) : tarB (T l) = isTarget l := by
  unfold tarB lowB isTarget
  rw [nameB_T h, T_data, low_tx h]
set_option maxHeartbeats 1000000 in
theorem isQName_any (s : ByteArray) (w : World) (hs : s.size ≤ 1048576) (hE : Env w) :
    Calls Tryz.prog 60 #[.string s] w fun e w' => e = .returned (.bool (qB s)) ∧ Below w.heap.size w w' := by
  obtain ⟨p, n, hv⟩ := splitV_cases s.data.toList
  have HV := hide hv
  have HS := hide (split_any s w (by omega) hE)
  clear hv hE
  go_enter Tryz.func60, Tryz.ntmps60
  go_wp2_with fail
  refine (unhide HS).mono ?_
  rintro e w1 ⟨rfl, hb1⟩
  rw [unhide HV]
  go_wp2
  go_ret
  exact ⟨rfl, hb1⟩
set_option maxHeartbeats 1000000 in
theorem isTargetB_any (s : ByteArray) (w : World) (hs : s.size ≤ 1048576) (B : Nat) (hB : B ≤ w.heap.size) (hE : XEnv B w) :
    Calls Tryz.prog 63 #[.string s] w fun e w' => e = .returned (.bool (tarB s)) ∧ Below w.heap.size w w' := by
  have HE := hide hE
  have HN := hide (isName_any s w (by unfold maxLen; omega) hE.env)
  have HD : Hid (tarB s = (nameB s && !lowB s)) := hide rfl
  cases hn : nameB s
  · rw [hn] at HN HD
    clear hE hn
    go_enter Tryz.func63, Tryz.ntmps63
    go_wp2_with (go_at_call 90; refine (unhide HN).mono ?_; rintro e w1 ⟨rfl, hb1⟩)
    go_ret
    exact ⟨ret_bool (by rw [unhide HD]; rfl), hb1⟩
  · obtain ⟨l, hl, hT⟩ := nameB_txt hn
    rw [hn] at HN HD
    have HL : Hid (lowB s = (l.map lowC == [120, 109, 108])) := hide (by unfold lowB; rw [hT, T_data, low_tx hl])
    have HF : Hid (∀ W, XEnv B W → B ≤ W.heap.size → Calls Tryz.prog 91 #[.string s, .string ⟨#[120, 109, 108]⟩] W fun e w' => e = .returned (.bool (l.map lowC == [120, 109, 108])) ∧ Below W.heap.size W w') := hide fun W hW hBW => by
      rw [hT] at hs ⊢
      exact foldXml_big l W hl hs B hW hBW
    clear hE hn hT
    go_enter Tryz.func63, Tryz.ntmps63
    go_wp2_with (first | (go_at_call 90; refine (unhide HN).mono ?_; rintro e w1 ⟨rfl, hb1⟩) | (go_at_call 91; refine (unhide HF _ ((unhide HE).on hB hb1) (Nat.le_trans hB hb1.size)).mono ?_; rintro e w2 ⟨rfl, hb2⟩))
    go_ret
    exact ⟨ret_bool (by rw [unhide HD, unhide HL, Bool.true_and]), Below.then hb1 hb2⟩
set_option maxHeartbeats 1000000 in
theorem isComment_any (s : ByteArray) (w : World) (hs : s.size ≤ 1048576) (B : Nat) (hB : B ≤ w.heap.size) (hE : XEnv B w) :
    Calls Tryz.prog 62 #[.string s] w fun e w' => e = .returned (.bool (comB s)) ∧ Below w.heap.size w w' := by
  have HE := hide hE
  have HT := hide (isText_any s w)
  have HX := hide (fun W => Tryz.strings_HasSuffix s ⟨#[45]⟩ W (by omega))
  have HD : Hid (comB s = (textB s && (!Lib.contains s.data.toList [45, 45] && !Lib.hasSuffix s.data.toList [45]))) := hide rfl
  have hcd : ∃ b, Lib.contains s.data.toList (⟨#[45, 45]⟩ : ByteArray).data.toList = b := ⟨_, rfl⟩
  obtain ⟨b, hc⟩ := hcd
  have HC := hide hc
  have HD2 : Hid (comB s = (textB s && (!b && !Lib.hasSuffix s.data.toList [45]))) := hide (by rw [← hc]; rfl)
  clear hE hc HD
  go_enter Tryz.func62, Tryz.ntmps62
  go_wp2_with fail
  refine (unhide HT).mono ?_
  rintro e w1 ⟨rfl, hb1⟩
  obtain ⟨m, hm⟩ := ((unhide HE).on hB hb1).env.1
  have HM := hide hm
  clear hm
  cases ht : textB s
  · rw [ht] at HD2
    clear ht
    go_wp2
    go_ret
    exact ⟨ret_bool (by rw [unhide HD2]; rfl), hb1⟩
  · rw [ht] at HD2
    clear ht
    go_wp2_with fail
    refine (Tryz.strings_Contains s ⟨#[45, 45]⟩ m _ (by omega) (unhide HM)).mono ?_
    rintro e w2 ⟨rfl, rfl⟩
    rw [unhide HC]
    cases b
    · go_wp2_with fail
      refine (unhide HX _).mono ?_
      rintro e w2 ⟨rfl, rfl⟩
      go_wp2
      go_ret
      exact ⟨ret_bool (by rw [unhide HD2]; rfl), hb1⟩
    · go_wp2
      go_ret
      exact ⟨ret_bool (by rw [unhide HD2]; rfl), hb1⟩
set_option maxHeartbeats 1000000 in
theorem isInstruction_any (s : ByteArray) (w : World) (hs : s.size ≤ 1048576) (B : Nat) (hB : B ≤ w.heap.size) (hE : XEnv B w) :
    Calls Tryz.prog 64 #[.string s] w fun e w' => e = .returned (.bool (insB s)) ∧ Below w.heap.size w w' := by
  have HE := hide hE
  have HT := hide (isText_any s w)
  have HX := hide (fun W => Tryz.strings_TrimLeftFunc_runes 46 #[] isBlank_enters blankN s W (isBlank_runes _))
  have hcd : ∃ b, Lib.contains s.data.toList (⟨#[63, 62]⟩ : ByteArray).data.toList = b := ⟨_, rfl⟩
  obtain ⟨b, hc⟩ := hcd
  have HC := hide hc
  have HD2 : Hid (insB s = (textB s && (!b && ((Lib.trimLeftF blankN s).toList == s.toList)))) := hide (by rw [← hc]; rfl)
  clear hE hc
  go_enter Tryz.func64, Tryz.ntmps64
  go_wp2_with fail
  refine (unhide HT).mono ?_
  rintro e w1 ⟨rfl, hb1⟩
  obtain ⟨m, hm⟩ := ((unhide HE).on hB hb1).env.1
  have HM := hide hm
  clear hm
  cases ht : textB s
  · rw [ht] at HD2
    clear ht
    go_wp2
    go_ret
    exact ⟨ret_bool (by rw [unhide HD2]; rfl), hb1⟩
  · rw [ht] at HD2
    clear ht
    go_wp2_with fail
    refine (Tryz.strings_Contains s ⟨#[63, 62]⟩ m _ (by omega) (unhide HM)).mono ?_
    rintro e w2 ⟨rfl, rfl⟩
    rw [unhide HC]
    cases b
    · go_wp2_with fail
      refine (unhide HX _).mono ?_
      rintro e w2 ⟨rfl, hb2⟩
      generalize Lib.trimLeftF blankN s = u at *
      go_wp2
      go_ret
      exact ⟨ret_bool (by rw [unhide HD2]; rfl), Below.then hb1 hb2⟩
    · go_wp2
      go_ret
      exact ⟨ret_bool (by rw [unhide HD2]; rfl), hb1⟩
end Go.Proofs.YtekjiagjgopnjaaGreatDoor
/- Tokens in bytes: which are a document's, and what they are as a text. -/
namespace Go.Proofs.YtekjiagjgopnjaaGreatDoor
def attrsB : List (List UInt8) → List (ByteArray × ByteArray) → Bool
  | _, [] => true
  | seen, x :: l => !seen.contains x.1.data.toList && (qB x.1 && (textB x.2 && attrsB (seen ++ [x.1.data.toList]) l))
/-- May it stand in some document? -/
def okB (t : BTok) : Bool :=
  if t.kind = 2 then t.text.toList.isEmpty && (qB t.name && attrsB [] t.attrs) else
  if t.kind = 7 then t.text.toList.isEmpty && (t.attrs.isEmpty && qB t.name) else
  if t.kind = 4 then t.name.toList.isEmpty && (t.attrs.isEmpty && (!t.text.toList.isEmpty && textB t.text)) else
  if t.kind = 5 then t.name.toList.isEmpty && (t.attrs.isEmpty && comB t.text) else
  if t.kind = 6 then t.attrs.isEmpty && (tarB t.name && insB t.text) else false
/-- What stands open behind a token, and whether there was an element; none: it may not stand there. -/
def docStp (o : List ByteArray) (r : Bool) (last : Int) (t : BTok) : Option (List ByteArray × Bool) :=
  if t.kind = 2 then (if o.isEmpty && r then none else some (o ++ [t.name], true)) else
  if t.kind = 7 then (match o.getLast? with
    | none => none
    | some x => if x.toList == t.name.toList then some (o.dropLast, r) else none) else
  if t.kind = 4 then (if o.isEmpty || last == 4 then none else some (o, r)) else some (o, r)
def docB : List ByteArray → Bool → Int → List BTok → Bool
  | o, r, _, [] => r && o.isEmpty
  | o, r, last, t :: ts => okB t && (match docStp o r last t with
    | none => false
    | some x => docB x.1 x.2 t.kind ts)
def deepGo : Int → Int → List BTok → Int
  | _, m, [] => m
  | d, m, t :: ts => if t.kind = 2 then deepGo (d + 1) (max m (d + 1)) ts else if t.kind = 7 then deepGo (d - 1) m ts else deepGo d m ts
def pastB (ts : List BTok) : Bool := decide (4096 < ts.length) || (decide (32 < deepGo 0 0 ts) || ts.any fun t => decide (64 < t.attrs.length))
def attrB (x : ByteArray × ByteArray) : List UInt8 := 32 :: (x.1.data.toList ++ 61 :: 34 :: (mapO quoO x.2.data.toList ++ [34]))
def tokB (t : BTok) : List UInt8 :=
  if t.kind = 2 then 60 :: (t.name.data.toList ++ (t.attrs.flatMap attrB ++ [62])) else
  if t.kind = 7 then 60 :: 47 :: (t.name.data.toList ++ [62]) else
  if t.kind = 4 then mapO escO t.text.data.toList else
  if t.kind = 5 then 60 :: 33 :: 45 :: 45 :: (t.text.data.toList ++ [45, 45, 62]) else
  if t.kind = 6 then 60 :: 63 :: (t.name.data.toList ++ ((if t.text.toList.isEmpty then [] else 32 :: t.text.data.toList) ++ [63, 62])) else []
def writeB (ts : List BTok) : List UInt8 := ts.flatMap tokB
/-- What Write tells: an error's number, or a text. -/
def writeR (ts : List BTok) : ByteArray × Nat :=
  if docB [] false 0 ts = false then (⟨#[]⟩, 5) else if pastB ts = true then (⟨#[]⟩, 6) else if 32768 < (writeB ts).length then (⟨#[]⟩, 6) else (⟨(writeB ts).toArray⟩, 0)
end Go.Proofs.YtekjiagjgopnjaaGreatDoor
