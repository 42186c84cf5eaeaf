/- The law XcharDecodes: bytes are just the text that the document says, or the place of what is wrong. -/
import Derived.Test.YtdoobohdddghbaaDoorRefDecode
import Derived.Test.YtdoobohdddghbaaDoorSameBytes
namespace Go.Proofs.YtdoobohdddghbaaDoor
open Go.RowKit
theorem fault_bad (s : ByteArray) : ∀ f pos, faultFrom s f pos = if 0 ≤ (badFrom s f pos).1 then (badErr (badFrom s f pos), (badFrom s f pos).1) else (0, 0)
  | 0, pos => rfl
  | f + 1, pos => by
    unfold faultFrom badFrom
    by_cases hp : pos < s.size
    · rw [if_pos hp, if_pos hp, charB_dec]
      have hmw := mark_width s pos
      have ih := fault_bad s f (pos + (Utf8.decode s pos).2)
      generalize Utf8.decode s pos = d at *
      by_cases h : d.1 = 65533 ∧ d.2 = 1
      · have e1 : (((d.1 : Nat) : Int) == 65533 && !markAt s pos) = true := by rw [hmw h.1, h.1, h.2]; rfl
        have e2 : (((d.1 : Nat) : Int) == 65533 && ((d.2 : Nat) : Int) == 1) = true := by rw [h.1, h.2]; rfl
        rw [if_pos e1, if_pos e2, if_pos (by simp)]
        rfl
      · have e1 : ¬ (((d.1 : Nat) : Int) == 65533 && !markAt s pos) = true := by
          intro h'
          rw [Bool.and_eq_true] at h'
          have h1 : d.1 = 65533 := by have := beq_iff_eq.1 h'.1; omega
          rw [hmw h1] at h'
          exact h ⟨h1, beq_iff_eq.1 h'.2⟩
        have e2 : ¬ (((d.1 : Nat) : Int) == 65533 && ((d.2 : Nat) : Int) == 1) = true := by
          intro h'
          rw [Bool.and_eq_true] at h'
          have h1 := beq_iff_eq.1 h'.1
          have h2 := beq_iff_eq.1 h'.2
          exact h ⟨by omega, by omega⟩
        rw [if_neg e1, if_neg e2]
        by_cases hc : charR ((d.1 : Nat) : Int) = true
        · rw [if_pos hc, if_pos hc, ih]
        · rw [if_neg hc, if_neg hc, if_pos (by simp)]
          rfl
    · rw [if_neg hp, if_neg hp]
      rfl
theorem badErr_ne (x : Int × Bool) : badErr x ≠ 0 := by
  unfold badErr; split <;> decide
theorem narrow_eq (t : ByteArray) (n : Nat) (hn : n ≤ t.size) : narrowV t n = decodedV (t.data.toList.drop n) t.size := by
  have hsz : (⟨(t.data.toList.drop n).toArray⟩ : ByteArray).size = t.size - n := by
    rw [size_mk, List.length_drop]; rfl
  have hf := fault_bad ⟨(t.data.toList.drop n).toArray⟩ (t.size - n + 1) 0
  unfold narrowV decodedV fault
  rw [hsz, hf]
  generalize badFrom ⟨(t.data.toList.drop n).toArray⟩ (t.size - n + 1) 0 = x
  by_cases h0 : 0 ≤ x.1
  · rw [if_pos h0, if_pos h0]
    simp only
    rw [if_neg (badErr_ne x), List.length_drop]
    have hl : t.data.toList.length = t.size := rfl
    rw [hl, show x.1 + (t.size : Int) - ((t.size - n : Nat) : Int) = (n : Int) + x.1 by omega]
  · rw [if_neg h0, if_neg h0]
    simp only [if_true]
    rw [endsL_is]
theorem pre2_iff (t : ByteArray) (a b : UInt8) : Lib.hasPrefix t.data.toList [a, b] = true ↔ 2 ≤ t.size ∧ (t.get! 0).toNat = a.toNat ∧ (t.get! 1).toNat = b.toNat := by
  have hl : t.data.toList.length = t.size := rfl
  by_cases h2 : 2 ≤ t.size
  · have e : t.data.toList = t.get! 0 :: t.get! 1 :: t.data.toList.drop 2 := by
      rw [get_data t 0 (by omega), get_data t 1 (by omega)]
      conv => lhs; rw [← List.drop_zero (l := t.data.toList), List.drop_eq_getElem_cons (by omega), List.drop_eq_getElem_cons (by omega)]
    rw [e]
    simp only [Lib.hasPrefix, List.isPrefixOf, Bool.and_true, Bool.and_eq_true, beq_iff_eq]
    constructor
    · rintro ⟨rfl, rfl⟩; exact ⟨h2, rfl, rfl⟩
    · rintro ⟨_, h, h'⟩; exact ⟨(UInt8.toNat_inj.1 h).symm, (UInt8.toNat_inj.1 h').symm⟩
  · constructor
    · intro h
      unfold Lib.hasPrefix at h
      have := (List.isPrefixOf_iff_prefix.1 h).length_le
      simp at this
      omega
    · exact fun h => absurd h.1 h2
theorem pre3_iff (t : ByteArray) (a b c : UInt8) : Lib.hasPrefix t.data.toList [a, b, c] = true ↔ 3 ≤ t.size ∧ (t.get! 0).toNat = a.toNat ∧ (t.get! 1).toNat = b.toNat ∧ (t.get! 2).toNat = c.toNat := by
  have hl : t.data.toList.length = t.size := rfl
  by_cases h2 : 3 ≤ t.size
  · have e : t.data.toList = t.get! 0 :: t.get! 1 :: t.get! 2 :: t.data.toList.drop 3 := by
      rw [get_data t 0 (by omega), get_data t 1 (by omega), get_data t 2 (by omega)]
      conv => lhs; rw [← List.drop_zero (l := t.data.toList), List.drop_eq_getElem_cons (by omega), List.drop_eq_getElem_cons (by omega), List.drop_eq_getElem_cons (by omega)]
    rw [e]
    simp only [Lib.hasPrefix, List.isPrefixOf, Bool.and_true, Bool.and_eq_true, beq_iff_eq]
    constructor
    · rintro ⟨rfl, rfl, rfl⟩; exact ⟨h2, rfl, rfl, rfl⟩
    · rintro ⟨_, h, h', h''⟩; exact ⟨(UInt8.toNat_inj.1 h).symm, (UInt8.toNat_inj.1 h').symm, (UInt8.toNat_inj.1 h'').symm⟩
  · constructor
    · intro h
      unfold Lib.hasPrefix at h
      have := (List.isPrefixOf_iff_prefix.1 h).length_le
      simp at this
      omega
    · exact fun h => absurd h.1 h2
theorem refV_eq (t : ByteArray) : refV t = decodeAll t := by
  have p1 : _ ↔ 2 ≤ t.size ∧ (t.get! 0).toNat = 254 ∧ (t.get! 1).toNat = 255 := pre2_iff t 254 255
  have p2 : _ ↔ 2 ≤ t.size ∧ (t.get! 0).toNat = 255 ∧ (t.get! 1).toNat = 254 := pre2_iff t 255 254
  have p3 : _ ↔ 3 ≤ t.size ∧ (t.get! 0).toNat = 239 ∧ (t.get! 1).toNat = 187 ∧ (t.get! 2).toNat = 191 := pre3_iff t 239 187 191
  unfold refV decodeAll
  by_cases hb : 32768 < t.size
  · rw [if_pos hb, if_pos hb]
  · rw [if_neg hb, if_neg hb]
    by_cases h1 : Lib.hasPrefix t.data.toList [254, 255] = true
    · rw [if_pos (p1.1 h1), if_pos h1]
    · rw [if_neg (fun h => h1 (p1.2 h)), if_neg h1]
      by_cases h2 : Lib.hasPrefix t.data.toList [255, 254] = true
      · rw [if_pos (p2.1 h2), if_pos h2]
      · rw [if_neg (fun h => h2 (p2.2 h)), if_neg h2]
        unfold narrowL Lib.trimPrefix
        by_cases h3 : Lib.hasPrefix t.data.toList [239, 187, 191] = true
        · rw [if_pos (p3.1 h3), if_pos h3, narrow_eq t 3 (p3.1 h3).1]
          rfl
        · rw [if_neg (fun h => h3 (p3.2 h)), if_neg h3, narrow_eq t 0 (Nat.zero_le _), List.drop_zero]
theorem refDecode_any (v : Value) (t : ByteArray) (w : World) (hE : Env w) (ha : ArgB w v t) :
    Calls Tryd.prog 7 #[v] w fun e w' => e = .returned (decodeAll t) ∧ Below w.heap.size w w' := by
  rcases ha with ⟨rfl, a, c, rfl, hc, _⟩ | ⟨b, off, c, rfl, h1, h2, h3⟩
  · have HE := hide hE
    clear hE
    have hr : decodeAll ⟨#[]⟩ = narrowV ⟨#[]⟩ 0 := by
      rw [← refV_eq]
      unfold refV
      rw [if_neg (by decide), if_neg (fun h => absurd h.1 (by decide)), if_neg (fun h => absurd h.1 (by decide)), if_neg (fun h => absurd h.1 (by decide))]
    rw [hr]
    obtain ⟨va, vb, vc, hvv⟩ := narrowV_tuple ⟨#[]⟩ 0
    have HV := hide hvv
    clear hvv hr
    go_enter Tryd.func7, Tryd.ntmps7
    go_wp2_with fail
    refine (refNarrow_none a c _ (unhide HE) hc).mono ?_
    rintro e w1 ⟨rfl, hb1⟩
    rw [unhide HV]
    go_wp2
    go_ret3
    exact ⟨by rw [unhide HV]; rfl, hb1⟩
  · rw [← refV_eq]
    exact refDecode_row b off c t w hE h1 h2 h3
theorem decodeAll_tuple (t : ByteArray) : ∃ (s : ByteArray) (e p : Int), decodeAll t = .tuple #[.string s, .int .i64 e, .int .i64 p] := by
  rcases dec_cases t with ⟨e, p, _, h⟩ | ⟨l, _, _, _, h⟩
  · exact ⟨_, _, _, h⟩
  · exact ⟨_, _, _, h⟩
set_option maxHeartbeats 2000000 in
theorem decodes_walk (v : Value) (t : ByteArray) (w : World) (hE : Env w) (ha : ArgB w v t) (hs : t.size ≤ 1048576) :
    Calls Tryd.prog 3 #[v] w fun e w' => e = .returned (.bool true) ∧ Below w.heap.size w w' := by
  have HE := hide hE
  have HA := hide ha
  clear hE
  obtain ⟨i0, hi, hz0, hz1, hz2⟩ := info_parts (show (Tryd.prog.info? 5).map (fun i => (i.zero, i.size, i.bytes)) = some (some (.int .u8 0), 1, 1) by kernel_rfl)
  have hlit : (w.alloc (.cells #[] 5)).ownsRow w.heap.size 5 1 (.slice (some ⟨w.heap.size, 0, none⟩) 0 0) 0 [] := World.ownsRow_lit w #[] 0 (Nat.le_refl _) (by unfold maxLen; omega) rfl
  rcases ha with ⟨rfl, a, c, rfl, hc, hn⟩ | ⟨b, off, c, rfl, h1, h2, h3⟩
  · cases a with
    | none =>
      obtain rfl := hn rfl
      have hbb : Below w.heap.size w (w.alloc (.cells #[] 5)) := (Below.refl _ _).alloc (Nat.le_refl _) _
      have HB1 := hide (bytesAt_owned (l := []) hlit)
      have HA1 := hide (argB_below (unhide HA) hbb)
      have HE1 := hide ((unhide HE).below hbb)
      have hdec := decode_any (.slice (some ⟨w.heap.size, 0, none⟩) 0 0) ⟨#[]⟩ (w.alloc (.cells #[] 5)) (unhide HE1) (unhide HB1) (by omega)
      obtain ⟨s1, e1, p1, hd1⟩ := decodeAll_tuple ⟨#[]⟩
      rw [hd1] at hdec
      have HD := hide hdec
      have HD1 := hide hd1
      clear hdec hd1
      go_enter Tryd.func3, Tryd.ntmps3
      go_wp2_with (at_builtin; refine wpList_append_own_none rfl _ _ 22 rfl w.heap.size 5 i0 1 Tryd.underlying22 hi _ 0 [] rfl hlit rfl ?_)
      refine (unhide HD).mono ?_
      rintro e w2 ⟨rfl, hb2⟩
      clear HD
      have href := refDecode_any (.slice none 0 0) ⟨#[]⟩ w2 ((unhide HE1).below hb2) (argB_below (unhide HA1) hb2)
      rw [unhide HD1] at href
      have HR := hide href
      clear href
      go_wp2_with fail
      refine (unhide HR).mono ?_
      rintro e w3 ⟨rfl, hb3⟩
      clear HR
      have hb23 := Below.then hb2 hb3
      go_wp2_with fail
      refine (live_any _ ((unhide HE1).below hb23)).mono ?_
      rintro e w4 ⟨rfl, hb4⟩
      have hb24 := Below.then hb23 hb4
      have hsame := sameBytes_any (.slice (some ⟨w.heap.size, 0, none⟩) 0 0) (.slice none 0 0) ⟨#[]⟩ ⟨#[]⟩ w4 (bytesAt_below (unhide HB1) hb24) (argB_bytes (argB_below (unhide HA1) hb24))
      have HS := hide hsame
      clear hsame
      go_wp2_with fail
      refine (unhide HS).mono ?_
      rintro e w5 ⟨rfl, hb5⟩
      go_wp2
      go_ret
      exact ⟨ret_bool (by simp), Below.then hbb (Below.then hb24 hb5)⟩
    | some x =>
      go_enter Tryd.func3, Tryd.ntmps3
      go_wp2_with (at_builtin; refine wpList_append_own _ rfl _ _ 22 rfl w.heap.size 5 i0 (.int .u8 0) 1 1 Tryd.underlying22 hi hz0 hz1 hz2 rfl (by decide) _ 0 [] rfl hlit x 0 c [] rfl rfl (fun j u h => by simp at h) (fun u hu => by cases hu) (by unfold maxLen; omega) (by omega) (by simp) ?_; intro v1 w1 hown1 hgrow1 hnil1)
      have hbb : Below w.heap.size w w1 := Below.grown ((Below.refl _ _).alloc (Nat.le_refl _) _) hgrow1 (by simp) (owns_ge hlit)
      have HB1 := hide (bytesAt_owned (l := []) (by simpa [byteCells] using hown1))
      have HA1 := hide (argB_below (unhide HA) hbb)
      clear hown1 hgrow1 hnil1
      have HE1 := hide ((unhide HE).below hbb)
      have hdec := decode_any v1 ⟨#[]⟩ w1 (unhide HE1) (unhide HB1) (by omega)
      obtain ⟨s1, e1, p1, hd1⟩ := decodeAll_tuple ⟨#[]⟩
      rw [hd1] at hdec
      have HD := hide hdec
      have HD1 := hide hd1
      clear hdec hd1
      go_wp2_with fail
      refine (unhide HD).mono ?_
      rintro e w2 ⟨rfl, hb2⟩
      clear HD
      have href := refDecode_any (.slice (some x) 0 c) ⟨#[]⟩ w2 ((unhide HE1).below hb2) (argB_below (unhide HA1) hb2)
      rw [unhide HD1] at href
      have HR := hide href
      clear href
      go_wp2_with fail
      refine (unhide HR).mono ?_
      rintro e w3 ⟨rfl, hb3⟩
      clear HR
      have hb23 := Below.then hb2 hb3
      go_wp2_with fail
      refine (live_any _ ((unhide HE1).below hb23)).mono ?_
      rintro e w4 ⟨rfl, hb4⟩
      have hb24 := Below.then hb23 hb4
      have hsame := sameBytes_any v1 (.slice (some x) 0 c) ⟨#[]⟩ ⟨#[]⟩ w4 (bytesAt_below (unhide HB1) hb24) (argB_bytes (argB_below (unhide HA1) hb24))
      have HS := hide hsame
      clear hsame
      go_wp2_with fail
      refine (unhide HS).mono ?_
      rintro e w5 ⟨rfl, hb5⟩
      go_wp2
      go_ret
      exact ⟨ret_bool (by simp), Below.then hbb (Below.then hb24 hb5)⟩
  · have hnews : ∀ j u, (byteCells t.data.toList)[j]? = some u → (w.alloc (.cells #[] 5)).cell? ((⟨b, off, none⟩ : Addr).add j) = some u := by
      intro j u hj
      have e : (⟨b, off, none⟩ : Addr).add j = ⟨b, off + j, none⟩ := by unfold Addr.add; split <;> simp_all
      have hjl : j < t.size := by
        by_cases h : j < t.size
        · exact h
        · rw [List.getElem?_eq_none (by rw [byteCells, List.length_map]; show t.size ≤ j; omega)] at hj; cases hj
      have hb0 : Below w.heap.size w (w.alloc (.cells #[] 5)) := (Below.refl _ _).alloc (Nat.le_refl _) _
      rw [e, argCells_below h3 hb0 j hjl, get_data t j hjl, ← hj]
      simp [byteCells, List.getElem?_eq_getElem (show j < t.data.toList.length from hjl)]
    go_enter Tryd.func3, Tryd.ntmps3
    go_wp2_with (at_builtin; refine wpList_append_own _ rfl _ _ 22 rfl w.heap.size 5 i0 (.int .u8 0) 1 1 Tryd.underlying22 hi hz0 hz1 hz2 rfl (by decide) _ 0 [] rfl hlit ⟨b, off, none⟩ t.size c (byteCells t.data.toList) rfl (by rw [byteCells, List.length_map]; exact (Nat.mul_one _).symm) hnews (fun u hu => by simp only [byteCells, List.mem_map] at hu; obtain ⟨x, _, rfl⟩ := hu; rfl) (by unfold maxLen; omega) (by omega) (by simp) ?_; intro v1 w1 hown1 hgrow1 hnil1)
    have hbb : Below w.heap.size w w1 := Below.grown ((Below.refl _ _).alloc (Nat.le_refl _) _) hgrow1 (by simp) (owns_ge hlit)
    have HB1 := hide (bytesAt_owned (l := t.data.toList) (by simpa [byteCells] using hown1))
    have HA1 := hide (argB_below (unhide HA) hbb)
    clear hown1 hgrow1 hnil1
    have HE1 := hide ((unhide HE).below hbb)
    have hdec := decode_any v1 t w1 (unhide HE1) (by have := unhide HB1; rwa [toArray_data] at this) (by omega)
    obtain ⟨s1, e1, p1, hd1⟩ := decodeAll_tuple t
    rw [hd1] at hdec
    have HD := hide hdec
    have HD1 := hide hd1
    clear hdec hd1
    go_wp2_with fail
    refine (unhide HD).mono ?_
    rintro e w2 ⟨rfl, hb2⟩
    clear HD
    have href := refDecode_any (.slice (some ⟨b, off, none⟩) t.size c) t w2 ((unhide HE1).below hb2) (argB_below (unhide HA1) hb2)
    rw [unhide HD1] at href
    have HR := hide href
    clear href
    go_wp2_with fail
    refine (unhide HR).mono ?_
    rintro e w3 ⟨rfl, hb3⟩
    clear HR
    have hb23 := Below.then hb2 hb3
    go_wp2_with fail
    refine (live_any _ ((unhide HE1).below hb23)).mono ?_
    rintro e w4 ⟨rfl, hb4⟩
    have hb24 := Below.then hb23 hb4
    have hsame := sameBytes_any v1 (.slice (some ⟨b, off, none⟩) t.size c) t t w4 (bytesAt_below (by have := unhide HB1; rwa [toArray_data] at this) hb24) (argB_bytes (argB_below (unhide HA1) hb24))
    have HS := hide hsame
    clear hsame
    go_wp2_with fail
    refine (unhide HS).mono ?_
    rintro e w5 ⟨rfl, hb5⟩
    go_wp2
    go_ret
    exact ⟨ret_bool (by simp), Below.then hbb (Below.then hb24 hb5)⟩
end Go.Proofs.YtdoobohdddghbaaDoor
