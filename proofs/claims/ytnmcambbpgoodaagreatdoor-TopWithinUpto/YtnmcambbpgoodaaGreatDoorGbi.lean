/- Several texts, laid as one. -/
import Derived.Test.YtnmcambbpgoodaaGreatDoorNumParseA
import Derived.Test.YtnmcambbpgoodaaGreatDoorGbe
/- What a text says, in plain terms: its sign, the digits ahead of and behind the point. -/
namespace Go.Proofs.YtnmcambbpgoodaaGreatDoor
open Go.RowKit
def noPt (b : UInt8) : Bool := b != 46
def cut1 (l : List UInt8) : List UInt8 := l.takeWhile noPt
def cut2 (l : List UInt8) : List UInt8 := (l.dropWhile noPt).tail
theorem mem_tw (p : UInt8 → Bool) (b : UInt8) : ∀ l : List UInt8, b ∈ l.takeWhile p → p b = true
  | [], h => by cases h
  | c :: l, h => by
    by_cases hc : p c = true
    · rw [List.takeWhile_cons_of_pos hc] at h
      rcases List.mem_cons.1 h with rfl | h
      · exact hc
      · exact mem_tw p b l h
    · rw [List.takeWhile_cons_of_neg hc] at h
      cases h
theorem cut_is (l : List UInt8) : (Lib.cut l [46]).1 = cut1 l ∧ (Lib.cut l [46]).2.1 = cut2 l := by
  unfold cut1 cut2
  have hno : (46 : UInt8) ∉ l.takeWhile noPt := fun h => by
    have := mem_tw _ _ _ h
    cases this
  have hl := List.takeWhile_append_dropWhile (p := noPt) (l := l)
  cases hd : l.dropWhile noPt with
  | nil =>
    rw [hd, List.append_nil] at hl
    rw [hl] at hno ⊢
    rw [cut_no l 46 hno]
    exact ⟨rfl, rfl⟩
  | cons c r =>
    have hc : c = 46 := by
      have h1 := List.head?_dropWhile_not noPt l
      rw [hd] at h1
      simp only [List.head?_cons] at h1
      unfold noPt at h1
      simpa using h1
    subst hc
    rw [hd] at hl
    have h2 := cut_at (l.takeWhile noPt) r 46 hno
    rw [hl] at h2
    rw [h2]
    exact ⟨rfl, rfl⟩
/-- The digits that count: those ahead of the point, and six behind it. -/
def digs (A R : List UInt8) : List UInt8 := A ++ (R.take 6 ++ List.replicate (6 - (R.take 6).length) 48)
def okB (A R : List UInt8) : Bool := A.all digB && R.all digB && !(A ++ R).isEmpty
def bodyK (below : Bool) (A R : List UInt8) : Int := if okB A R then signK below (valL 0 (digs A R)) else 1
def bodyN (below : Bool) (A R : List UInt8) : Int := if okB A R then signN below (valL 0 (digs A R)) else 0
/-- A text that was trimmed: does it begin with a sign? what is behind it? -/
def signB (l : List UInt8) : Bool := Lib.hasPrefix l [45]
def unsig (l : List UInt8) : List UInt8 := if signB l then l.tail else l
def saidK (l : List UInt8) : Int := bodyK (signB l) (cut1 (unsig l)) (cut2 (unsig l))
def saidN (l : List UInt8) : Int := bodyN (signB l) (cut1 (unsig l)) (cut2 (unsig l))
theorem sign_read (below : Bool) (l : List UInt8) : signK below (readL 0 l) = signK below (valL 0 l) ∧ signN below (readL 0 l) = signN below (valL 0 l) := by
  by_cases h : valL 0 l ≤ 1000000000000000000
  · rw [readL_val l 0 h]
    exact ⟨rfl, rfl⟩
  · have hg : ∀ (l : List UInt8) (n : Nat), 1000000000000000000 < valL n l → n ≤ 1000000000000000000 → 1000000000000000000 < readL n l := by
      intro l
      induction l with
      | nil => intro n h1 h2; exact absurd h1 (by simp only [valL, List.foldl_nil]; omega)
      | cons c l ih =>
        intro n h1 h2
        rw [valL_cons] at h1
        rw [readL]
        split
        · assumption
        · exact ih _ h1 (by omega)
    have hr := hg l 0 (by omega) (by omega)
    unfold signK signN
    rw [if_pos hr, if_pos hr, if_pos (by omega), if_pos (by omega)]
    exact ⟨rfl, rfl⟩
theorem pre_tail (l : List UInt8) (h : signB l = true) : l = 45 :: l.tail := by
  unfold signB Lib.hasPrefix at h
  cases l with
  | nil => cases h
  | cons c l =>
    simp [List.isPrefixOf] at h
    rw [h]
    rfl
theorem unsig_is (t : ByteArray) : (cutPre t ⟨#[45]⟩).data.toList = unsig t.data.toList := by
  unfold cutPre unsig signB
  rw [show (⟨#[45]⟩ : ByteArray).data.toList = [45] from rfl]
  by_cases h : Lib.hasPrefix t.data.toList [45] = true
  · rw [if_pos h, if_pos h, extract_list]
    show (t.data.toList.drop 1).take (t.size - 1) = _
    rw [List.take_of_length_le (by rw [List.length_drop]; exact Nat.le_refl _)]
    simp
  · rw [if_neg h, if_neg h]
theorem mem_parts (l : List UInt8) (b : UInt8) (h : b ∈ l) (hb : 128 ≤ b.toNat) : (cut1 (unsig l)).all digB = false ∨ (cut2 (unsig l)).all digB = false := by
  have h1 : b ∈ unsig l := by
    unfold unsig
    split
    · rename_i hs
      rw [pre_tail l hs] at h
      rcases List.mem_cons.1 h with rfl | h
      · exact absurd hb (by decide)
      · exact h
    · exact h
  have hnd : digB b = false := by unfold digB; simp; omega
  have hn46 : b ≠ 46 := fun e => by rw [e] at hb; exact absurd hb (by decide)
  rw [← List.takeWhile_append_dropWhile (p := noPt) (l := unsig l)] at h1
  rcases List.mem_append.1 h1 with h2 | h2
  · left
    unfold cut1
    exact List.all_eq_false.2 ⟨b, h2, by rw [hnd]; decide⟩
  · right
    unfold cut2
    refine List.all_eq_false.2 ⟨b, ?_, by rw [hnd]; decide⟩
    cases hd : (unsig l).dropWhile noPt with
    | nil => rw [hd] at h2; cases h2
    | cons c r =>
      rw [hd] at h2
      have hc : c = 46 := by
        have h3 := List.head?_dropWhile_not noPt (unsig l)
        rw [hd] at h3
        simp only [List.head?_cons] at h3
        unfold noPt at h3
        simpa using h3
      subst hc
      rcases List.mem_cons.1 h2 with h4 | h4
      · exact absurd h4 hn46
      · exact h4
theorem said_none (l : List UInt8) (h : (cut1 (unsig l)).all digB = false ∨ (cut2 (unsig l)).all digB = false) : saidK l = 1 ∧ saidN l = 0 := by
  unfold saidK saidN bodyK bodyN okB
  rcases h with h | h <;> rw [h] <;> simp
theorem all_ext {s : ByteArray} {l : List UInt8} (h : s.data.toList = l) : s = ⟨l.toArray⟩ := by rw [← h, mk_of]
/-- What any text says: xnum's Parse. -/
theorem parse_all (s : ByteArray) (w : World) (hM : MaxLenIs w) (hT : Lib.Utf8Tabs 2 3 w) (hs : s.size ≤ 1048576) :
    Calls Tryz.prog 107 #[.string s] w fun e w' => e = .returned (.agg #[.int .i64 (saidK (trimB s.data.toList)), .int .i64 (saidN (trimB s.data.toList))]) ∧ Below w.heap.size w w' := by
  have hts := trimF_size s
  obtain ⟨t, ht⟩ : ∃ t, t = Lib.trimF blankP s := ⟨_, rfl⟩
  rw [← ht] at hts
  have hk : saidK (trimB s.data.toList) = saidK t.data.toList ∧ saidN (trimB s.data.toList) = saidN t.data.toList := by
    rcases trim_any s with h | ⟨⟨b, hb1, hb2⟩, ⟨c, hc1, hc2⟩⟩
    · rw [← h, ← ht]
      exact ⟨rfl, rfl⟩
    · rw [← ht] at hb1
      have h1 := said_none _ (mem_parts _ b hb1 hb2)
      have h2 := said_none _ (mem_parts _ c hc1 hc2)
      rw [h1.1, h1.2, h2.1, h2.2]
      exact ⟨rfl, rfl⟩
  rw [hk.1, hk.2]
  have hB : cutPre t ⟨#[45]⟩ = ⟨(unsig t.data.toList).toArray⟩ := all_ext (unsig_is t)
  have hul : (unsig t.data.toList).length ≤ t.size := by
    unfold unsig
    split
    · rw [List.length_tail]; show t.data.toList.length - 1 ≤ t.data.toList.length; omega
    · exact Nat.le_refl _
  have hc := cut_is (unsig t.data.toList)
  have h1l : (cut1 (unsig t.data.toList)).length ≤ (unsig t.data.toList).length := (List.takeWhile_prefix _).length_le
  have h2l : (cut2 (unsig t.data.toList)).length ≤ (unsig t.data.toList).length := by
    unfold cut2
    rw [List.length_tail]
    have := (List.dropWhile_suffix noPt (l := unsig t.data.toList)).length_le
    omega
  have hp : Parts s ⟨(unsig t.data.toList).toArray⟩ ⟨(cut1 (unsig t.data.toList)).toArray⟩ ⟨(cut2 (unsig t.data.toList)).toArray⟩ (signB t.data.toList) := by
    refine ⟨by rw [← ht]; rfl, by rw [← ht]; exact hB, ?_, ?_, ?_, ?_, ?_⟩
    · rw [mk_list, hc.1]
    · rw [mk_list, hc.2]
    · rw [mk_size]; omega
    · rw [mk_size]; omega
    · rw [mk_size]; omega
  unfold saidK saidN
  generalize unsig t.data.toList = L at *
  generalize signB t.data.toList = below at *
  generalize cut1 L = A at *
  generalize cut2 L = R at *
  clear hc hB hk
  unfold bodyK bodyN
  cases hok : okB A R
  · rw [if_neg (by decide), if_neg (by decide)]
    refine parse_none s _ _ _ below w hM hT hs hp ?_
    rw [mk_size, mk_size, mk_list, mk_list]
    unfold okB at hok
    by_cases hA0 : A.length = 0
    · by_cases hR0 : R.length = 0
      · exact .inl ⟨hA0, hR0⟩
      · refine .inr (.inl ⟨hA0, hR0, ?_⟩)
        rw [List.eq_nil_of_length_eq_zero hA0] at hok
        have hRe : R.isEmpty = false := by cases R with | nil => exact absurd rfl hR0 | cons c r => rfl
        simpa [hRe] using hok
    · have hAe : (A ++ R).isEmpty = false := by cases A with | nil => exact absurd rfl hA0 | cons c r => rfl
      rw [hAe] at hok
      cases hAd : A.all digB
      · exact .inr (.inr (.inl ⟨hA0, rfl⟩))
      · rw [hAd] at hok
        exact .inr (.inr (.inr ⟨hA0, rfl, by simpa using hok⟩))
  · rw [if_pos rfl, if_pos rfl]
    unfold okB at hok
    rw [Bool.and_eq_true, Bool.and_eq_true] at hok
    obtain ⟨⟨hAd, hRd⟩, hne⟩ := hok
    have hQ : (⟨R.toArray⟩ : ByteArray).extract 0 (min (⟨R.toArray⟩ : ByteArray).size 6) = ⟨(R.take 6).toArray⟩ := by
      refine all_ext ?_
      rw [extract_list, mk_list, mk_size, List.drop_zero, Nat.sub_zero]
      by_cases h6 : R.length ≤ 6
      · rw [List.take_of_length_le (by omega), List.take_of_length_le h6]
      · rw [show min R.length 6 = 6 by omega]
    have hL : ((⟨A.toArray⟩ : ByteArray) ++ ((⟨(R.take 6).toArray⟩ : ByteArray) ++ (⟨(Lib.repeatL [48] (6 - (⟨(R.take 6).toArray⟩ : ByteArray).size)).toArray⟩ : ByteArray))).data.toList = digs A R := by
      rw [mk_append, mk_append, mk_list, mk_size, rep_eq]
      rfl
    have hda : (digs A R).all digB = true := by
      unfold digs
      rw [List.all_append, hAd, List.all_append]
      have h1 : (R.take 6).all digB = true := List.all_eq_true.2 fun b hb => List.all_eq_true.1 hRd b (List.mem_of_mem_take hb)
      rw [h1]
      simp [digB]
    rw [← (sign_read below (digs A R)).1, ← (sign_read below (digs A R)).2]
    refine parse_some s _ _ _ _ below _ w hM hT hs hp ?_ (by rw [mk_list]; exact hAd) (by rw [mk_list]; exact hRd) hQ (by rw [hL]; exact hda) (by rw [hL])
    rw [mk_size, mk_size]
    by_cases hA0 : A.length = 0
    · refine .inr ⟨hA0, fun hR0 => ?_⟩
      rw [List.eq_nil_of_length_eq_zero hA0, List.eq_nil_of_length_eq_zero hR0] at hne
      cases hne
    · exact .inl hA0
end Go.Proofs.YtnmcambbpgoodaaGreatDoor
/- Numbers of expressions: xparse's number. -/
namespace Go.Proofs.YtnmcambbpgoodaaGreatDoor
open Go.RowKit Go.Maps
/-- A number's text: what it says; none: no number that is Fin. -/
def numP (t : List Nat) : Option Int := if saidK (trimB (tx t)) = 0 then some (saidN (trimB (tx t))) else none
set_option maxRecDepth 100000 in
set_option maxHeartbeats 4000000 in
theorem pnumber_any (t : List Nat) (v : Int) (w : World) (hs : (T t).size ≤ 512) (hE : EnvG w) (hv : numP t = some v) :
    Calls Tryz.prog 101 #[.string (T t)] w fun e w' => e = .returned (exAgg (.mk 16 [] v 0 0 []) (.slice none 0 0)) ∧ Below w.heap.size w w' := by
  obtain ⟨w0, hw0⟩ : ∃ w0, w.alloc expr0 = w0 := ⟨_, rfl⟩
  have hp := fun w' (hb : Below w.heap.size w w') => parse_all (T t) w' ((hE.below hb).lex.env.len) ((hE.below hb).lex.env.tabs) (by omega)
  rw [T_data] at hp
  unfold numP at hv
  have hk : saidK (trimB (tx t)) = 0 := by
    by_cases h : saidK (trimB (tx t)) = 0
    · exact h
    · rw [if_neg h] at hv; cases hv
  rw [if_pos hk] at hv
  rw [hk, Option.some.inj hv] at hp
  have HP := hide hp
  clear hp hv hk hs hE
  go_enter Tryz.func101, Tryz.ntmps101
  go_wp2_with fail
  have hb0 : Below w.heap.size w w0 := by rw [← hw0]; exact (Below.refl _ _).alloc (Nat.le_refl _) _
  have hq0 : w0.heap[w.heap.size]? = some expr0 := by rw [← hw0]; exact palloc_new w expr0
  clear hw0
  refine (unhide HP _ hb0).mono ?_
  rintro e w1 ⟨rfl, hb⟩
  have hq1 := blockK (Kq.of (S := fun _ => False) hb) hq0 (fun h => h)
  have hb1 := Below.then hb0 hb
  have hb2 : Below w1.heap.size w1 (w1.alloc (.cells #[.int .i64 0, .int .i64 0] 29)) := (Below.refl _ _).alloc (Nat.le_refl _) _
  have hn2 := palloc_new w1 (.cells #[.int .i64 0, .int .i64 0] 29)
  have hq2 := blockK (Kq.of (S := fun _ => False) hb2) hq1 (fun h => h)
  obtain ⟨W2, e2⟩ : ∃ W2, w1.alloc (.cells #[.int .i64 0, .int .i64 0] 29) = W2 := ⟨_, rfl⟩
  rw [e2] at hb2 hn2 hq2
  have hlq : w.heap.size < w1.heap.size := (Array.getElem?_eq_some_iff.1 hq1).1
  generalize hg : w1.heap.size = g at hn2 hlq
  have m0 : W2.cell? ⟨g, 0, none⟩ = some (.int .i64 0) := pcell hn2 0
  have m1 : W2.cell? ⟨g, 1, none⟩ = some (.int .i64 0) := pcell hn2 1
  have p0 := popen hn2 0
  have p1 := popen hn2 1
  have hg2 : g < W2.heap.size := (Array.getElem?_eq_some_iff.1 hn2).1
  have HB2 := hide (Below.then hb1 hb2)
  generalize hq : w.heap.size = q at hq2 hlq ⊢
  have HQQ := hide hq
  obtain ⟨a0, a1, a2, a3, a4, a5, a6⟩ := var_cells hq2
  obtain ⟨o0, o1, o2, o3, o4, o5, o6⟩ := var_opens hq2
  have HQ1 := hide hq2
  have hne : q ≠ g := by omega
  have hne2 : g ≠ q := by omega
  clear hq2 hn2 hq1 hq0 hb hb0 hb1 hb2 hq HP
  go_wp2_with fail
  have hk5 := (Kq.set W2 g 0 (.int .i64 0)).andThen (Kq.set _ g 1 (.int .i64 v)) (fun _ _ h => h)
  have hq5 := blockK hk5 (unhide HQ1) hne
  change bodyPost _ _ _ _ _ (put7 ((W2.setCell ⟨g, 0, none⟩ (.int .i64 0)).setCell ⟨g, 1, none⟩ (.int .i64 v)) q (.mk 16 [] v 0 0 []) (.slice none 0 0))
  generalize (W2.setCell ⟨g, 0, none⟩ (.int .i64 0)).setCell ⟨g, 1, none⟩ (.int .i64 v) = W5 at hk5 hq5 ⊢
  have hV := put7_var hq5 (.mk 16 [] v 0 0 []) (.slice none 0 0)
  have hb9 : Below w.heap.size w (put7 W5 q (.mk 16 [] v 0 0 []) (.slice none 0 0)) := Kq.fresh (S := fun j => j = g ∨ j = q) (((Kq.of (S := fun j => j = g ∨ j = q) (unhide HB2)).andThen hk5 (fun _ _ h => .inl h)).andThen (put7_kq W5 q _ _) (fun _ _ h => .inr h)) (fun j hj => by have := unhide HQQ; omega)
  obtain ⟨W9, e9⟩ : ∃ W9, put7 W5 q (.mk 16 [] v 0 0 []) (.slice none 0 0) = W9 := ⟨_, rfl⟩
  rw [e9]
  rw [e9] at hV hb9
  obtain ⟨b0, b1, b2, b3, b4, b5, b6⟩ := var_cells hV
  have HB9 := hide hb9
  clear hV hb9 e9 a0 a1 a2 a3 a4 a5 a6
  refine bodyPost_ret (v := exAgg (.mk 16 [] v 0 0 []) (.slice none 0 0)) (by simp [results, Tryz.results101, go_sem, b0, b1, b2, b3, b4, b5, b6]) rfl ?_
  exact ⟨rfl, unhide HB9⟩
end Go.Proofs.YtnmcambbpgoodaaGreatDoor
