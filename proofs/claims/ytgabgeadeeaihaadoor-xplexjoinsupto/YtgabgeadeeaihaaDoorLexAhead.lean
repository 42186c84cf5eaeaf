/- The number, the name, the string, the variable, the word that a text begins with: xplex's functions. -/
import Derived.Test.YtgabgeadeeaihaaDoorLexRuns
import Derived.Test.YtgabgeadeeaihaaDoorLexScan
namespace Go.Proofs.YtgabgeadeeaihaaDoor
open Go.RowKit
theorem cutPrefix_one (q : Nat) (u : UInt8) (hu : u = UInt8.ofNat q) (hq : q < 128) (l : List Nat) (hl : okL l) (w : World) :
    Calls Tryd.prog 55 #[.string (T l), .string ⟨#[u]⟩] w fun e w' => e = .returned (.tuple #[.string (T (if heads q l then l.tail else l)), .bool (heads q l)]) ∧ w' = w := by
  subst hu
  refine (Tryd.strings_CutPrefix (T l) ⟨#[UInt8.ofNat q]⟩ w).mono ?_
  rintro e w' ⟨rfl, rfl⟩
  refine ⟨?_, rfl⟩
  rw [T_data, show (⟨#[UInt8.ofNat q]⟩ : ByteArray).data.toList = [UInt8.ofNat q] from rfl, pre_one hq hl, cut_one hq hl]
  rfl
theorem suf_drop {l a : List Nat} (h : a <+: l) : (T l).extract (T a).size (T l).size = T (l.drop a.length) := by
  obtain ⟨t, rfl⟩ := h
  rw [List.drop_left]; exact T_suf a t
theorem size_pre {l a : List Nat} (h : a <+: l) : (T a).size ≤ (T l).size := by
  obtain ⟨t, rfl⟩ := h
  rw [T_size, T_size, tx_len_app]; omega
theorem pre_sz {l a : List Nat} (h : a <+: l) {n : Nat} (hn : n = (T a).size) : (T l).extract 0 n = T a := by
  obtain ⟨t, rfl⟩ := h
  rw [hn]; exact T_pre a t
theorem sz_cons {c : Nat} (hc : c < 128) (l : List Nat) : (T (c :: l)).size = 1 + (T l).size := by
  rw [T_size, T_size, tx_cons, List.length_append, runeB_one hc]; rfl
theorem sz_app (a b : List Nat) : (T (a ++ b)).size = (T a).size + (T b).size := by rw [T_size, T_size, T_size, tx_len_app]
theorem nil_T {l : List Nat} (h : l = []) : (T l).toList = [] := by rw [h, T_toList]; rfl
theorem ne_T {l : List Nat} (hl : okL l) (h : l ≠ []) : (T l).toList.isEmpty = false := by
  cases hx : (T l).toList with
  | nil => exact absurd ((T_empty hl).1 hx) h
  | cons _ _ => rfl
set_option maxHeartbeats 1000000 in
theorem numberAhead_any (l : List Nat) (w : World) (hl : okL l) (hs : (T l).size ≤ 512) :
    Calls Tryd.prog 40 #[.string (T l)] w fun e w' => e = .returned (.string (T (numA l))) ∧ Below w.heap.size w w' := by
  have hp : digsA l <+: l := List.takeWhile_prefix _
  have hz := size_pre hp
  have HS := hide (suf_drop hp)
  have hod := okL_drop hl (digsA l).length
  have hN : numA l = if heads 46 (l.drop (digsA l).length) && !(digsA (l.drop (digsA l).length).tail).isEmpty then digsA l ++ 46 :: digsA (l.drop (digsA l).length).tail else digsA l := rfl
  have HP := hide (numA_pre l)
  have HN := hide hN
  have hsz : (T l).size = (T (digsA l)).size + (T (l.drop (digsA l).length)).size := by
    conv => lhs; rw [← digsA_pre l]
    exact sz_app _ _
  have HSZ := hide hsz
  clear hp hN hsz
  generalize l.drop (digsA l).length = d at *
  go_enter Tryd.func40, Tryd.ntmps40
  go_wp2_with fail
  refine (digitsAhead_any l _ hl).mono ?_
  rintro e w1 ⟨rfl, hb1⟩
  go_wp2_with fail
  rw [unhide HS]
  refine (cutPrefix_one 46 46 rfl (by decide) d hod _).mono ?_
  rintro e w2 ⟨rfl, rfl⟩
  cases hh : heads 46 d
  · have HH := hide hh
    clear hh
    rw [if_neg (by decide)]
    go_wp2_with fail
    refine (digitsAhead_any d _ hod).mono ?_
    rintro e w3 ⟨rfl, hb3⟩
    go_wp2
    go_ret
    refine ⟨ret_str ?_, Below.then hb1 hb3⟩
    rw [unhide HN, unhide HH, Bool.false_and, if_neg (by decide)]
  · have HH := hide hh
    clear hh
    rw [if_pos rfl]
    have hot : okL d.tail := fun c hc => hod c (List.mem_of_mem_tail hc)
    go_wp2_with fail
    refine (digitsAhead_any d.tail _ hot).mono ?_
    rintro e w3 ⟨rfl, hb3⟩
    have hoy : okL (digsA d.tail) := okL_pre hot (List.takeWhile_prefix _)
    have hzy : (T (digsA l)).size + 1 + (T (digsA d.tail)).size ≤ 512 := by
      have h1 : (T d).size = 1 + (T d.tail).size := by
        conv => lhs; rw [heads_true (unhide HH)]
        exact sz_cons (by decide) _
      have h2 := size_pre (show digsA d.tail <+: d.tail from List.takeWhile_prefix _)
      have h3 := unhide HSZ
      omega
    have hzz : (T (digsA l)).size + 1 + (T (digsA d.tail)).size ≤ (T l).size := by
      have h1 : (T d).size = 1 + (T d.tail).size := by
        conv => lhs; rw [heads_true (unhide HH)]
        exact sz_cons (by decide) _
      have h2 := size_pre (show digsA d.tail <+: d.tail from List.takeWhile_prefix _)
      have h3 := unhide HSZ
      omega
    generalize digsA d.tail = y at *
    by_cases hy : y = []
    · have h1 := nil_T hy
      have HY := hide hy
      clear hy
      go_wp2
      go_ret
      refine ⟨ret_str ?_, Below.then hb1 hb3⟩
      rw [unhide HN, unhide HY, List.isEmpty_nil, Bool.not_true, Bool.and_false, if_neg (by decide)]
    · have h1 := ne_T hoy hy
      go_wp2
      go_ret
      refine ⟨ret_str ?_, Below.then hb1 hb3⟩
      have e := unhide HN
      rw [unhide HH, empty_not hy, Bool.and_self, if_pos rfl] at e
      refine pre_sz (unhide HP) ?_
      rw [e, sz_app, sz_cons (by decide)]
      omega
end Go.Proofs.YtgabgeadeeaihaaDoor
