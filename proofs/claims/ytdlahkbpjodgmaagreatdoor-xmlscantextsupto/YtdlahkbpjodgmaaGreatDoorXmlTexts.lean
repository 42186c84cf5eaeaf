/- A text, escaped, is read as itself: the law XmlscanTexts. -/
import Derived.Test.YtdlahkbpjodgmaaGreatDoorXmlTxB
import Derived.Test.YtdlahkbpjodgmaaGreatDoorXmlLive
namespace Go.Proofs.YtdlahkbpjodgmaaGreatDoor
open Go.RowKit
theorem XEnv.up {B B' : Nat} {w : World} (h : XEnv B w) (hb : B ≤ B') : XEnv B' w := ⟨h.env, h.x, h.m, h.l, h.X, h.M, h.L, Nat.lt_of_lt_of_le h.g1 hb, Nat.lt_of_lt_of_le h.g2 hb, Nat.lt_of_lt_of_le h.g3 hb, Nat.lt_of_lt_of_le h.g4 hb⟩
theorem XEnv.at {w w' : World} (h : XEnv w.heap.size w) (hb : Below w.heap.size w w') : XEnv w'.heap.size w' := (h.low hb).up hb.size
def escS (s : ByteArray) : ByteArray := ⟨(mapO escO s.data.toList).toArray⟩
def quoS (s : ByteArray) : ByteArray := ⟨(mapO quoO s.data.toList).toArray⟩
def docS (s : ByteArray) : ByteArray := (⟨#[60, 97, 32, 98, 61, 34]⟩ : ByteArray) ++ quoS s ++ (⟨#[34, 62]⟩ : ByteArray) ++ escS s ++ (⟨#[60, 47, 97, 62]⟩ : ByteArray)
theorem escS_T {l : List Nat} (h : okL l) : escS (T l) = T (mapN escN l) := by
  unfold escS
  rw [T_data, map_tx esc_both l h]
  rfl
theorem quoS_T {l : List Nat} (h : okL l) : quoS (T l) = T (mapN quoN l) := by
  unfold quoS
  rw [T_data, map_tx quo_both l h]
  rfl
theorem docS_T {l : List Nat} (h : okL l) : docS (T l) = T (docL l) := by
  have e1 : (⟨#[60, 97, 32, 98, 61, 34]⟩ : ByteArray) = T [60, 97, 32, 98, 61, 34] := by decide +kernel
  have e2 : (⟨#[34, 62]⟩ : ByteArray) = T [34, 62] := by decide +kernel
  have e3 : (⟨#[60, 47, 97, 62]⟩ : ByteArray) = T [60, 47, 97, 62] := by decide +kernel
  unfold docS
  rw [escS_T h, quoS_T h, e1, e2, e3, T_app, T_app, T_app, T_app]
  congr 1
  unfold docL
  simp
theorem docL_ok {l : List Nat} (h : okL l) : okL (docL l) := by
  have h1 : okL [60, 97, 32, 98, 61, 34] := by unfold okL; decide +kernel
  have h2 : okL [34, 62] := by unfold okL; decide +kernel
  have h3 : okL [60, 47, 97, 62] := by unfold okL; decide +kernel
  intro c hc
  have hc' : c ∈ [60, 97, 32, 98, 61, 34] ++ (mapN quoN l ++ ([34, 62] ++ (mapN escN l ++ [60, 47, 97, 62]))) := hc
  rcases List.mem_append.1 hc' with hc' | hc'
  · exact h1 c hc'
  · rcases List.mem_append.1 hc' with hc' | hc'
    · exact map_ok quo_ref h c hc'
    · rcases List.mem_append.1 hc' with hc' | hc'
      · exact h2 c hc'
      · rcases List.mem_append.1 hc' with hc' | hc'
        · exact map_ok esc_ref h c hc'
        · exact h3 c hc'
theorem docS_txt {s : ByteArray} (h : ¬ Txt s.data.toList) : ¬ Txt (docS s).data.toList := by
  intro h1
  apply h
  unfold docS at h1
  rw [ByteArray.data_append, ByteArray.data_append, ByteArray.data_append, ByteArray.data_append, Array.toList_append, Array.toList_append, Array.toList_append, Array.toList_append] at h1
  have h2 := txt_ahead 4 [60, 47, 97, 62] rfl (by decide) h1
  rw [List.append_assoc, show ((⟨#[34, 62]⟩ : ByteArray).data.toList ++ (escS s).data.toList) = UInt8.ofNat 34 :: (UInt8.ofNat 62 :: (escS s).data.toList) from rfl] at h2
  have h3 := (txt_cut (by decide) h2).2
  have h4 := txt_tail (by decide) h3
  have := txt_unmap esc_both s.data.toList.length s.data.toList [] rfl (fun _ h => by cases h) h4
  exact this
theorem map_size {o : Nat → List UInt8} (hf : FewO o) (s : ByteArray) : (mapO o s.data.toList).length ≤ 6 * s.size := mapO_len hf s.data.toList
theorem scan_told (cs : List Nat) (ts : List XTok) (w : World) (hl : okL cs) (hs : (T cs).size ≤ 32768) (hE : XEnv w.heap.size w)
    (hX : ([60, 63].isPrefixOf cs && nameA (cs.drop 2) == [120, 109, 108]) = false) (hT : RS.noType (cs.length + 1) (RS.start cs) = true) (h : scanX cs = .ok ts) :
    Calls Tryz.prog 12 #[.string (T cs)] w fun e w' => ∃ vt, e = .returned (.tuple #[vt, .int .i64 0, .int .i64 0]) ∧ Toks w' w.heap.size vt ts ∧ Below w.heap.size w w' := by
  have h1 := scan_plain cs w hl hs hE hX hT
  rw [h] at h1
  refine h1.mono ?_
  rintro e w' ⟨⟨vt, rfl, h2⟩, hb⟩
  exact ⟨vt, rfl, h2, hb⟩
/-- What Scan tells of the document: an error that may be, or the tokens. -/
def txtOut (s : ByteArray) (n : Nat) (w w' : World) (vt : Value) (er : Nat) : Prop := (er = 4 ∨ (er = 6 ∧ 32768 < n)) ∨ (er = 0 ∧ ∃ l, okL l ∧ s = T l ∧ Toks w' w.heap.size vt (⟨2, [97], [([98], l)], []⟩ :: (if l = [] then [] else [⟨4, [], [], l⟩]) ++ [⟨7, [97], [], []⟩]))
theorem txt_walk (s : ByteArray) (w : World) (hE : XEnv w.heap.size w) :
    Calls Tryz.prog 12 #[.string (docS s)] w fun e w' => ∃ (vt : Value) (er pl : Nat), e = .returned (.tuple #[vt, .int .i64 (er : Nat), .int .i64 (pl : Nat)]) ∧ Below w.heap.size w w' ∧
      txtOut s (docS s).size w w' vt er := by
  by_cases hz : 32768 < (docS s).size
  · refine (scan_long _ w hz).mono ?_
    rintro e w' ⟨rfl, rfl⟩
    exact ⟨_, 6, 0, rfl, Below.refl _ _, .inl (.inr ⟨rfl, hz⟩)⟩
  · by_cases ht : Txt s.data.toList
    · obtain ⟨l, hl, rfl⟩ := txt_T ht
      have hd := docS_T hl
      rw [hd] at hz ⊢
      refine (scan_told (docL l) _ w (docL_ok hl) (by omega) hE (doc_decl l) (doc_type l) (doc_scan l)).mono ?_
      rintro e w' ⟨vt, rfl, hT, hb⟩
      exact ⟨vt, 0, 0, rfl, hb, .inr ⟨rfl, l, hl, rfl, hT⟩⟩
    · refine (scan_bad _ w (by omega) hE.env (docS_txt ht)).mono ?_
      rintro e w' ⟨⟨at', _, rfl⟩, hb⟩
      exact ⟨_, 4, at', rfl, hb, .inl (.inl rfl)⟩
set_option maxRecDepth 100000 in
set_option maxHeartbeats 4000000 in
theorem texts_walk (s : ByteArray) (w : World) (hs : s.size ≤ 1048576) (hE : XEnv w.heap.size w) :
    Calls Tryz.prog 7 #[.string s] w fun e w' => e = .returned (.bool true) ∧ Below w.heap.size w w' := by
  have HE := hide hE
  have hes : (escS s).size ≤ 6291456 := by
    have := map_size esc_few s
    show (mapO escO s.data.toList).length ≤ _
    omega
  have hqs : (quoS s).size ≤ 6291456 := by
    have := map_size quo_few s
    show (mapO quoO s.data.toList).length ≤ _
    omega
  have HEs : Hid (∀ W, Calls Tryz.prog 15 #[.string s] W fun e w' => e = .returned (.string (escS s)) ∧ Below W.heap.size W w') := hide (fun W => xEscape_any s W hs)
  have HQs : Hid (∀ W, Calls Tryz.prog 17 #[.string s] W fun e w' => e = .returned (.string (quoS s)) ∧ Below W.heap.size W w') := hide (fun W => xQuote_any s W hs)
  have HRe : Hid (∀ W, Calls Tryz.prog 16 #[.string s] W fun e w' => e = .returned (.string (escS s)) ∧ w' = W) := hide (fun W => refEscape_any s W hs)
  have HRq : Hid (∀ W, Calls Tryz.prog 18 #[.string s] W fun e w' => e = .returned (.string (quoS s)) ∧ w' = W) := hide (fun W => refQuote_any s W hs)
  have HW : Hid (∀ W, XEnv W.heap.size W → Calls Tryz.prog 12 #[.string (docS s)] W fun e w' => ∃ (vt : Value) (er pl : Nat), e = .returned (.tuple #[vt, .int .i64 (er : Nat), .int .i64 (pl : Nat)]) ∧ Below W.heap.size W w' ∧ txtOut s (docS s).size W w' vt er) := hide (fun W => txt_walk s W)
  have HDS : Hid (docS s = (⟨#[60, 97, 32, 98, 61, 34]⟩ : ByteArray) ++ quoS s ++ (⟨#[34, 62]⟩ : ByteArray) ++ escS s ++ (⟨#[60, 47, 97, 62]⟩ : ByteArray)) := hide rfl
  have hds : (docS s).size ≤ 100000000 := by
    unfold docS
    rw [ByteArray.size_append, ByteArray.size_append, ByteArray.size_append, ByteArray.size_append]
    show 6 + (quoS s).size + 2 + (escS s).size + 4 ≤ _
    omega
  generalize escS s = E at *
  generalize quoS s = Q at *
  generalize docS s = D at *
  clear hE
  go_enter Tryz.func7, Tryz.ntmps7
  go_wp2_with fail
  refine (unhide HEs _).mono ?_
  rintro e w1 ⟨rfl, hb1⟩
  go_wp2_with fail
  refine (unhide HRe _).mono ?_
  rintro e w1' ⟨rfl, rfl⟩
  go_wp2_with fail
  refine (unhide HQs _).mono ?_
  rintro e w2 ⟨rfl, hb2⟩
  go_wp2_with fail
  refine (unhide HRq _).mono ?_
  rintro e w2' ⟨rfl, rfl⟩
  go_wp2_with fail
  refine (unhide HQs _).mono ?_
  rintro e w3 ⟨rfl, hb3⟩
  go_wp2_with fail
  refine (unhide HEs _).mono ?_
  rintro e w4 ⟨rfl, hb4⟩
  have hb04 : Below w.heap.size w w4 := Below.then (Below.then (Below.then hb1 hb2) hb3) hb4
  have HE4 := hide ((unhide HE).at hb04)
  clear hb1 hb2 hb3 hb4
  go_wp2_with fail
  rw [← unhide HDS]
  refine (unhide HW _ (unhide HE4)).mono ?_
  rintro e w5 ⟨vt, er, pl, rfl, hb5, hO⟩
  have HL := hide (live_any w5 ((unhide HE4).at hb5))
  have hb05 : Below w.heap.size w w5 := Below.then hb04 hb5
  clear hb04 hb5
  rcases hO with (rfl | ⟨rfl, hz⟩) | ⟨rfl, l, hl, hT, hTk⟩
  · go_wp2_with fail
    refine (unhide HL).mono ?_
    rintro e w6 ⟨rfl, hb6⟩
    go_wp2
    go_ret
    exact ⟨rfl, Below.then hb05 hb6⟩
  · have hz' : decide ((32768 : Int) < (D.size : Int)) = true := decide_eq_true (by omega)
    go_wp2_with fail
    refine (unhide HL).mono ?_
    rintro e w6 ⟨rfl, hb6⟩
    go_wp2
    go_ret
    exact ⟨rfl, Below.then hb05 hb6⟩
  · by_cases hl0 : l = []
    · have he : s.toList = [] := by rw [hT]; exact nil_T hl0
      rw [if_pos hl0] at hTk
      obtain ⟨g, cap, rfl, _⟩ := toks_at hTk (by simp)
      clear hTk hT hl hl0
      go_wp2_with fail
      refine (unhide HL).mono ?_
      rintro e w6 ⟨rfl, hb6⟩
      go_wp2
      go_ret
      exact ⟨rfl, Below.then hb05 hb6⟩
    · have he : s.toList.isEmpty = false := by rw [hT]; exact ne_T hl hl0
      rw [if_neg hl0] at hTk
      obtain ⟨g, cap, rfl, hcap, _, hg, ht⟩ := toks_at hTk (by simp)
      have t0 := ht 0 _ rfl
      have t1 := ht 1 _ rfl
      obtain ⟨v, ha1, ha2⟩ := t0.a
      obtain ⟨g2, cap2, rfl, hcap2, hB2, hg2, hp⟩ := owns_at ha2 (by simp)
      have k1 : w5.cell? ⟨g, 2, none⟩ = some (.slice (some ⟨g2, 0, none⟩) 1 cap2) := ha1
      have k2 : w5.cell? ⟨g2, 1, none⟩ = some (.string s) := by rw [hT]; exact hp 1 _ rfl
      have k3 : w5.cell? ⟨g, 7, none⟩ = some (.string s) := by rw [hT]; exact t1.x
      have HK1 := hide k1
      have HK2 := hide k2
      have HK3 := hide k3
      clear hTk hT hl hl0 ht t0 t1 ha1 ha2 hp k1 k2 k3
      go_wp2_with fail
      refine (unhide HL).mono ?_
      rintro e w6 ⟨rfl, hb6⟩
      have k1 := keptC hb6 (unhide HK1)
      have k2 := keptC hb6 (unhide HK2)
      have k3 := keptC hb6 (unhide HK3)
      go_wp2
      go_ret
      exact ⟨rfl, Below.then hb05 hb6⟩
end Go.Proofs.YtdlahkbpjodgmaaGreatDoor
