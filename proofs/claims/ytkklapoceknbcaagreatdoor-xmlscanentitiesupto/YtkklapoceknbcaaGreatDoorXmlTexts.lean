/- A text, escaped, is read as itself: the law XmlscanTexts. -/
import Derived.Test.YtkklapoceknbcaaGreatDoorXmlTxB
import Derived.Test.YtkklapoceknbcaaGreatDoorXmlLive
namespace Go.Proofs.YtkklapoceknbcaaGreatDoor
open Go.RowKit
theorem XEnv.up {B B' : Nat} {w : World} (h : XEnv B w) (hb : B ≤ B') : XEnv B' w := ⟨h.env, h.x, h.m, h.l, h.X, h.M, h.L, Nat.lt_of_lt_of_le h.g1 hb, Nat.lt_of_lt_of_le h.g2 hb, Nat.lt_of_lt_of_le h.g3 hb, Nat.lt_of_lt_of_le h.g4 hb⟩
theorem XEnv.at {w w' : World} (h : XEnv w.heap.size w) (hb : Below w.heap.size w w') : XEnv w'.heap.size w' := (h.low hb).up hb.size
def escS (s : ByteArray) : ByteArray := ⟨(mapO escO s.data.toList).toArray⟩
def quoS (s : ByteArray) : ByteArray := ⟨(mapO quoO s.data.toList).toArray⟩
def docS (s : ByteArray) : ByteArray := (⟨#[60, 97, 32, 98, 61, 34]⟩ : ByteArray) ++ quoS s ++ (⟨#[34, 62]⟩ : ByteArray) ++ escS s ++ (⟨#[60, 47, 97, 62]⟩ : ByteArray)
theorem escS_T {l : List Nat} (h : okL l) : escS (T l) = T (mapN escN l) := by
  unfold escS
  rw [T_data, map_tx esc_both l h]
  rfl
theorem quoS_T {l : List Nat} (h : okL l) : quoS (T l) = T (mapN quoN l) := by
  unfold quoS
  rw [T_data, map_tx quo_both l h]
  rfl
theorem docS_T {l : List Nat} (h : okL l) : docS (T l) = T (docL l) := by
  have e1 : (⟨#[60, 97, 32, 98, 61, 34]⟩ : ByteArray) = T [60, 97, 32, 98, 61, 34] := by decide +kernel
  have e2 : (⟨#[34, 62]⟩ : ByteArray) = T [34, 62] := by decide +kernel
  have e3 : (⟨#[60, 47, 97, 62]⟩ : ByteArray) = T [60, 47, 97, 62] := by decide +kernel
  unfold docS
  rw [escS_T h, quoS_T h, e1, e2, e3, T_app, T_app, T_app, T_app]
  congr 1
  unfold docL
  simp
theorem docL_ok {l : List Nat} (h : okL l) : okL (docL l) := by
  have h1 : okL [60, 97, 32, 98, 61, 34] := by unfold okL; decide +kernel
  have h2 : okL [34, 62] := by unfold okL; decide +kernel
  have h3 : okL [60, 47, 97, 62] := by unfold okL; decide +kernel
  intro c hc
  have hc' : c ∈ [60, 97, 32, 98, 61, 34] ++ (mapN quoN l ++ ([34, 62] ++ (mapN escN l ++ [60, 47, 97, 62]))) := hc
  rcases List.mem_append.1 hc' with hc' | hc'
  · exact h1 c hc'
  · rcases List.mem_append.1 hc' with hc' | hc'
    · exact map_ok quo_ref h c hc'
    · rcases List.mem_append.1 hc' with hc' | hc'
      · exact h2 c hc'
      · rcases List.mem_append.1 hc' with hc' | hc'
        · exact map_ok esc_ref h c hc'
        · exact h3 c hc'
theorem docS_txt {s : ByteArray} (h : ¬ Txt s.data.toList) : ¬ Txt (docS s).data.toList := by
  intro h1
  apply h
  unfold docS at h1
  rw [ByteArray.data_append, ByteArray.data_append, ByteArray.data_append, ByteArray.data_append, Array.toList_append, Array.toList_append, Array.toList_append, Array.toList_append] at h1
  have h2 := txt_ahead 4 [60, 47, 97, 62] rfl (by decide) h1
  rw [List.append_assoc, show ((⟨#[34, 62]⟩ : ByteArray).data.toList ++ (escS s).data.toList) = UInt8.ofNat 34 :: (UInt8.ofNat 62 :: (escS s).data.toList) from rfl] at h2
  have h3 := (txt_cut (by decide) h2).2
  have h4 := txt_tail (by decide) h3
  have := txt_unmap esc_both s.data.toList.length s.data.toList [] rfl (fun _ h => by cases h) h4
  exact this
theorem map_size {o : Nat → List UInt8} (hf : FewO o) (s : ByteArray) : (mapO o s.data.toList).length ≤ 6 * s.size := mapO_len hf s.data.toList
theorem scan_told (cs : List Nat) (ts : List XTok) (w : World) (hl : okL cs) (hs : (T cs).size ≤ 32768) (hE : XEnv w.heap.size w)
    (hX : ([60, 63].isPrefixOf cs && nameA (cs.drop 2) == [120, 109, 108]) = false) (hT : RS.noType (cs.length + 1) (RS.start cs) = true) (h : scanX cs = .ok ts) :
    Calls Tryz.prog 11 #[.string (T cs)] w fun e w' => ∃ vt, e = .returned (.tuple #[vt, .int .i64 0, .int .i64 0]) ∧ Toks w' w.heap.size vt ts ∧ Below w.heap.size w w' := by
  have h1 := scan_plain cs w hl hs hE hX hT
  rw [h] at h1
  refine h1.mono ?_
  rintro e w' ⟨⟨vt, rfl, h2⟩, hb⟩
  exact ⟨vt, rfl, h2, hb⟩
/-- What Scan tells of the document: an error that may be, or the tokens. -/
def txtOut (s : ByteArray) (n : Nat) (w w' : World) (vt : Value) (er : Nat) : Prop := (er = 4 ∨ (er = 6 ∧ 32768 < n)) ∨ (er = 0 ∧ ∃ l, okL l ∧ s = T l ∧ Toks w' w.heap.size vt (⟨2, [97], [([98], l)], []⟩ :: (if l = [] then [] else [⟨4, [], [], l⟩]) ++ [⟨7, [97], [], []⟩]))
theorem txt_walk (s : ByteArray) (w : World) (hE : XEnv w.heap.size w) :
    Calls Tryz.prog 11 #[.string (docS s)] w fun e w' => ∃ (vt : Value) (er pl : Nat), e = .returned (.tuple #[vt, .int .i64 (er : Nat), .int .i64 (pl : Nat)]) ∧ Below w.heap.size w w' ∧
      txtOut s (docS s).size w w' vt er := by
  by_cases hz : 32768 < (docS s).size
  · refine (scan_long _ w hz).mono ?_
    rintro e w' ⟨rfl, rfl⟩
    exact ⟨_, 6, 0, rfl, Below.refl _ _, .inl (.inr ⟨rfl, hz⟩)⟩
  · by_cases ht : Txt s.data.toList
    · obtain ⟨l, hl, rfl⟩ := txt_T ht
      have hd := docS_T hl
      rw [hd] at hz ⊢
      refine (scan_told (docL l) _ w (docL_ok hl) (by omega) hE (doc_decl l) (doc_type l) (doc_scan l)).mono ?_
      rintro e w' ⟨vt, rfl, hT, hb⟩
      exact ⟨vt, 0, 0, rfl, hb, .inr ⟨rfl, l, hl, rfl, hT⟩⟩
    · refine (scan_bad _ w (by omega) hE.env (docS_txt ht)).mono ?_
      rintro e w' ⟨⟨at', _, rfl⟩, hb⟩
      exact ⟨_, 4, at', rfl, hb, .inl (.inl rfl)⟩
end Go.Proofs.YtkklapoceknbcaaGreatDoor
