/- Several texts, laid as one. -/
import Derived.Test.YthkkfldmoflfaaaGreatDoorGah
import Derived.Test.YthkkfldmoflfaaaGreatDoorLexScan
import Derived.Test.YthkkfldmoflfaaaGreatDoorGaf
import Derived.Test.YthkkfldmoflfaaaGreatDoorGad
import Derived.Test.YthkkfldmoflfaaaGreatDoorGaa
/- The number, the name, the string, the variable, the word that a text begins with: xplex's functions. -/
namespace Go.Proofs.YthkkfldmoflfaaaGreatDoor
open Go.RowKit
theorem cutPrefix_one (q : Nat) (u : UInt8) (hu : u = UInt8.ofNat q) (hq : q < 128) (l : List Nat) (hl : okL l) (w : World) :
    Calls Tryz.prog 71 #[.string (T l), .string ⟨#[u]⟩] w fun e w' => e = .returned (.tuple #[.string (T (if heads q l then l.tail else l)), .bool (heads q l)]) ∧ w' = w := by
  subst hu
  refine (Tryz.strings_CutPrefix (T l) ⟨#[UInt8.ofNat q]⟩ w).mono ?_
  rintro e w' ⟨rfl, rfl⟩
  refine ⟨?_, rfl⟩
  rw [T_data, show (⟨#[UInt8.ofNat q]⟩ : ByteArray).data.toList = [UInt8.ofNat q] from rfl, pre_one hq hl, cut_one hq hl]
  rfl
theorem suf_drop {l a : List Nat} (h : a <+: l) : (T l).extract (T a).size (T l).size = T (l.drop a.length) := by
  obtain ⟨t, rfl⟩ := h
  rw [List.drop_left]; exact T_suf a t
theorem size_pre {l a : List Nat} (h : a <+: l) : (T a).size ≤ (T l).size := by
  obtain ⟨t, rfl⟩ := h
  rw [T_size, T_size, tx_len_app]; omega
theorem pre_sz {l a : List Nat} (h : a <+: l) {n : Nat} (hn : n = (T a).size) : (T l).extract 0 n = T a := by
  obtain ⟨t, rfl⟩ := h
  rw [hn]; exact T_pre a t
theorem sz_cons {c : Nat} (hc : c < 128) (l : List Nat) : (T (c :: l)).size = 1 + (T l).size := by
  rw [T_size, T_size, tx_cons, List.length_append, runeB_one hc]; rfl
theorem sz_app (a b : List Nat) : (T (a ++ b)).size = (T a).size + (T b).size := by rw [T_size, T_size, T_size, tx_len_app]
theorem nil_T {l : List Nat} (h : l = []) : (T l).toList = [] := by rw [h, T_toList]; rfl
theorem ne_T {l : List Nat} (hl : okL l) (h : l ≠ []) : (T l).toList.isEmpty = false := by
  cases hx : (T l).toList with
  | nil => exact absurd ((T_empty hl).1 hx) h
  | cons _ _ => rfl
set_option maxHeartbeats 1000000 in
theorem numberAhead_any (l : List Nat) (w : World) (hl : okL l) (hs : (T l).size ≤ 512) :
    Calls Tryz.prog 41 #[.string (T l)] w fun e w' => e = .returned (.string (T (numA l))) ∧ Below w.heap.size w w' := by
  have hp : digsA l <+: l := List.takeWhile_prefix _
  have hz := size_pre hp
  have HS := hide (suf_drop hp)
  have hod := okL_drop hl (digsA l).length
  have hN : numA l = if heads 46 (l.drop (digsA l).length) && !(digsA (l.drop (digsA l).length).tail).isEmpty then digsA l ++ 46 :: digsA (l.drop (digsA l).length).tail else digsA l := rfl
  have HP := hide (numA_pre l)
  have HN := hide hN
  have hsz : (T l).size = (T (digsA l)).size + (T (l.drop (digsA l).length)).size := by
    conv => lhs; rw [← digsA_pre l]
    exact sz_app _ _
  have HSZ := hide hsz
  clear hp hN hsz
  generalize l.drop (digsA l).length = d at *
  go_enter Tryz.func41, Tryz.ntmps41
  go_wp2_with fail
  refine (digitsAhead_any l _ hl).mono ?_
  rintro e w1 ⟨rfl, hb1⟩
  go_wp2_with fail
  rw [unhide HS]
  refine (cutPrefix_one 46 46 rfl (by decide) d hod _).mono ?_
  rintro e w2 ⟨rfl, rfl⟩
  cases hh : heads 46 d
  · have HH := hide hh
    clear hh
    rw [if_neg (by decide)]
    go_wp2_with fail
    refine (digitsAhead_any d _ hod).mono ?_
    rintro e w3 ⟨rfl, hb3⟩
    go_wp2
    go_ret
    refine ⟨ret_str ?_, Below.then hb1 hb3⟩
    rw [unhide HN, unhide HH, Bool.false_and, if_neg (by decide)]
  · have HH := hide hh
    clear hh
    rw [if_pos rfl]
    have hot : okL d.tail := fun c hc => hod c (List.mem_of_mem_tail hc)
    go_wp2_with fail
    refine (digitsAhead_any d.tail _ hot).mono ?_
    rintro e w3 ⟨rfl, hb3⟩
    have hoy : okL (digsA d.tail) := okL_pre hot (List.takeWhile_prefix _)
    have hzy : (T (digsA l)).size + 1 + (T (digsA d.tail)).size ≤ 512 := by
      have h1 : (T d).size = 1 + (T d.tail).size := by
        conv => lhs; rw [heads_true (unhide HH)]
        exact sz_cons (by decide) _
      have h2 := size_pre (show digsA d.tail <+: d.tail from List.takeWhile_prefix _)
      have h3 := unhide HSZ
      omega
    have hzz : (T (digsA l)).size + 1 + (T (digsA d.tail)).size ≤ (T l).size := by
      have h1 : (T d).size = 1 + (T d.tail).size := by
        conv => lhs; rw [heads_true (unhide HH)]
        exact sz_cons (by decide) _
      have h2 := size_pre (show digsA d.tail <+: d.tail from List.takeWhile_prefix _)
      have h3 := unhide HSZ
      omega
    generalize digsA d.tail = y at *
    by_cases hy : y = []
    · have h1 := nil_T hy
      have HY := hide hy
      clear hy
      go_wp2
      go_ret
      refine ⟨ret_str ?_, Below.then hb1 hb3⟩
      rw [unhide HN, unhide HY, List.isEmpty_nil, Bool.not_true, Bool.and_false, if_neg (by decide)]
    · have h1 := ne_T hoy hy
      go_wp2
      go_ret
      refine ⟨ret_str ?_, Below.then hb1 hb3⟩
      have e := unhide HN
      rw [unhide HH, empty_not hy, Bool.and_self, if_pos rfl] at e
      refine pre_sz (unhide HP) ?_
      rw [e, sz_app, sz_cons (by decide)]
      omega
end Go.Proofs.YthkkfldmoflfaaaGreatDoor
/- A name has no colon, so a prefix and a local name are parted at the colon between them. -/
namespace Go.Proofs.YthkkfldmoflfaaaGreatDoor
open Go.RowKit
theorem indexByte_first : ∀ (p r : List UInt8) (c : UInt8), c ∉ p → Lib.indexByte (p ++ c :: r) c = p.length
  | [], r, c, _ => by simp [Lib.indexByte]
  | x :: p, r, c, h => by
    have hx : ¬ (x == c) = true := fun e => h (by rw [beq_iff_eq.1 e]; simp)
    have ih := indexByte_first p r c (fun hm => h (List.mem_cons_of_mem _ hm))
    simp only [List.cons_append, Lib.indexByte, hx, ih]
    simp
theorem cut_first (p r : List UInt8) (c : UInt8) (h : c ∉ p) : Lib.cut (p ++ c :: r) [c] = (p, r, true) := by
  unfold Lib.cut
  rw [Lib.index_one, indexByte_first p r c h, if_pos (by omega)]
  simp
theorem mk_data (s : ByteArray) : (⟨s.data.toList.toArray⟩ : ByteArray) = s := by cases s; simp
end Go.Proofs.YthkkfldmoflfaaaGreatDoor
/- Which characters may be, lie in one of some ranges, begin names and go on in them: the reference's IsChar, 'in', Begins and GoesOn. -/
namespace Go.Proofs.YthkkfldmoflfaaaGreatDoor
open Go.RowKit
set_option maxHeartbeats 1000000 in
theorem in_any (r : Int) (b : Nat) (zs : List Int) (n : Nat) (w : World) (hn : zs.length = n) (hmax : n ≤ 1000)
    (hcell : ∀ i, i < n → w.cell? ⟨b, i, none⟩ = some (.int .i32 (zs.getD i 0))) :
    Calls Tryz.prog 36 #[.int .i32 r, .slice (some ⟨b, 0, none⟩) n n] w fun e w' => e = .returned (.bool (inL r zs)) ∧ w' = w := by
  have HC := hide hcell
  clear hcell
  go_enter Tryz.func36, Tryz.ntmps36
  go_wp2_with fail
  go_loop [5] (fun i => ∃ k : Nat, k ≤ n + 1 ∧ i = .int .i64 k ∧ inL r zs = inL r (zs.drop k)) (fun i => n + 1 - (intOf i).toNat)
  case atStart => exact ⟨0, by omega, rfl, rfl⟩
  case round =>
    obtain ⟨k, hk, rfl, hr⟩ := hrel
    have HR := hide hr
    clear hr
    by_cases hlt : k + 1 < n
    · have hlt' : (k : Int) + 1 < n := by omega
      have c0 := unhide HC k (by omega)
      have c1 := unhide HC (k + 1) (by omega)
      have HS := hide (inL_drop r zs k (by omega))
      generalize zs.getD k 0 = lo at *
      generalize zs.getD (k + 1) 0 = hi at *
      go_wp2
      · go_ret
        exact ⟨ret_bool (by rw [unhide HR, unhide HS]; simp [*]), rfl⟩
      all_goals
        exact ⟨⟨k + 2, by omega, by go_num, by rw [unhide HR, unhide HS]; simp <;> omega⟩, by simp [intOf]; omega⟩
    · have hge : ¬ ((k : Int) + 1 < n) := by omega
      go_wp2
      go_ret
      exact ⟨ret_bool (by rw [unhide HR, inL_end _ _ _ (by omega)]), rfl⟩
theorem cells_of (zs : List Int) (i : Nat) (h : i < zs.length) : (zs.map (Value.int .i32)).toArray[i]? = some (.int .i32 (zs.getD i 0)) := by
  simp [List.getElem?_eq_getElem h]
set_option maxHeartbeats 1000000 in
theorem refBegins_any (r : Int) (w : World) :
    Calls Tryz.prog 19 #[.int .i32 r] w fun e w' => e = .returned (.bool (inL r beginL)) ∧ Below w.heap.size w w' := by
  go_enter Tryz.func19, Tryz.ntmps19
  go_wp2_with fail
  refine (in_any r w.heap.size beginL 30 _ rfl (by decide) (fun i hi => (World.cell?_alloc_new _ _ _ _).trans (cells_of beginL i hi))).mono ?_
  rintro e w' ⟨rfl, rfl⟩
  go_wp2
  go_ret
  exact ⟨rfl, by go_grown⟩
set_option maxHeartbeats 1000000 in
theorem refGoesOn_any (r : Int) (w : World) :
    Calls Tryz.prog 20 #[.int .i32 r] w fun e w' => e = .returned (.bool (inL r beginL || inL r onL)) ∧ Below w.heap.size w w' := by
  go_enter Tryz.func20, Tryz.ntmps20
  go_wp2_with fail
  refine (refBegins_any r _).mono ?_
  rintro e w' ⟨rfl, hb⟩
  cases h : inL r beginL
  · go_wp2_with fail
    refine (in_any r w'.heap.size onL 12 _ rfl (by decide) (fun i hi => (World.cell?_alloc_new _ _ _ _).trans (cells_of onL i hi))).mono ?_
    rintro e w'' ⟨rfl, rfl⟩
    go_wp2
    go_ret
    exact ⟨ret_bool (by simp [h]), hb.alloc hb.size _⟩
  · go_wp2
    go_ret
    exact ⟨ret_bool (by simp [h]), hb⟩
end Go.Proofs.YthkkfldmoflfaaaGreatDoor
/- The reference's Bad, IsText, IsName and Split. -/
namespace Go.Proofs.YthkkfldmoflfaaaGreatDoor
open Go.RowKit
def textB (s : ByteArray) : Bool := (fault s).1 == 0
set_option maxHeartbeats 1000000 in
theorem isText_any (s : ByteArray) (w : World) :
    Calls Tryz.prog 157 #[.string s] w fun e w' => e = .returned (.bool (textB s)) ∧ Below w.heap.size w w' := by
  go_enter Tryz.func157, Tryz.ntmps157
  go_wp2_with fail
  refine (firstFault_any s _).mono ?_
  rintro e w1 ⟨rfl, hb1⟩
  go_wp2
  all_goals
    go_ret
    exact ⟨ret_bool (by simp [textB, *]), hb1⟩
end Go.Proofs.YthkkfldmoflfaaaGreatDoor
/- What the program takes for names and texts is what the reference takes for them: plain lemmas. -/
namespace Go.Proofs.YthkkfldmoflfaaaGreatDoor
open Go.RowKit
theorem textB_eq (s : ByteArray) : textB s = textR s := text_eq s (s.size + 1) 0
theorem validD_at (s : ByteArray) (pos : Nat) (hp : pos < s.size) : Lib.validD (s.data.toList.drop pos) =
    if (Utf8.decode s pos).1 = 65533 ∧ (Utf8.decode s pos).2 = 1 then false else Lib.validD (s.data.toList.drop (pos + (Utf8.decode s pos).2)) := by
  have hne : s.data.toList.drop pos ≠ [] := by
    intro h
    have := congrArg List.length h
    rw [List.length_drop] at this
    have hl : s.data.toList.length = s.size := rfl
    simp only [List.length_nil] at this
    omega
  have e : Lib.decodeL (s.data.toList.drop pos) = Utf8.decode s pos := Lib.decodeL_drop s pos
  rw [Lib.validD_step _ hne, e, List.drop_drop]
theorem valid_name (s : ByteArray) : ∀ f pos, s.size < pos + f → nameFrom s f pos = true → decide ((badFrom s f pos).1 < 0) = Lib.validD (s.data.toList.drop pos)
  | 0, pos, hb, _ => by
    rw [List.drop_eq_nil_of_le (by show s.data.toList.length ≤ pos; have : s.data.toList.length = s.size := rfl; omega)]; rfl
  | f + 1, pos, hb, h => by
    have hd := decode_le s pos
    unfold badFrom
    by_cases hp : pos < s.size
    · have hw := width_pos s pos hp
      rw [if_pos hp, validD_at s pos hp]
      rw [nameFrom, if_pos hp] at h
      by_cases hc : (((pos : Int) == 0 && !beginB (Utf8.decode s pos).1) || !goesB (Utf8.decode s pos).1) = true
      · rw [if_pos hc] at h; cases h
      · rw [if_neg hc] at h
        have hg : goesB (Utf8.decode s pos).1 = true := by
          cases hg : goesB (Utf8.decode s pos).1
          · exact absurd (by simp [hg]) hc
          · rfl
        have hch := char_of_goes _ (by omega) hg
        rw [charB_eq _ (by omega)] at hch
        have ih := valid_name s f _ (by omega) h
        by_cases h1 : (Utf8.decode s pos).1 = 65533 ∧ (Utf8.decode s pos).2 = 1
        · rw [if_pos h1]
          simp [h1.1, h1.2]
        · rw [if_neg h1, ← ih]
          have h1' : (((Utf8.decode s pos).1 : Int) == 65533 && ((Utf8.decode s pos).2 : Int) == 1) = false := by
            rw [Bool.and_eq_false_iff]
            simp only [beq_eq_false_iff_ne, ne_eq]
            omega
          rw [h1', hch]
          simp
    · rw [if_neg hp, List.drop_eq_nil_of_le (by show s.data.toList.length ≤ pos; have : s.data.toList.length = s.size := rfl; omega)]; rfl
/-- The reference's names are the program's. -/
theorem nameB_eq (s : ByteArray) : nameB s = (textR s && !s.data.toList.isEmpty && nameFrom s (s.size + 1) 0) := by
  unfold nameB textR
  cases h : nameFrom s (s.size + 1) 0
  · simp
  · have := valid_name s (s.size + 1) 0 (by omega) h
    rw [List.drop_zero] at this
    rw [this]
    cases s.data.toList.isEmpty <;> simp
end Go.Proofs.YthkkfldmoflfaaaGreatDoor
