/- Several texts, laid as one. -/
import Derived.Test.YtmemcabipcccaaaGreatDoorOutRr
import Derived.Test.YtmemcabipcccaaaGreatDoorGbl
import Derived.Test.YtmemcabipcccaaaGreatDoorOutA
import Derived.Test.YtmemcabipcccaaaGreatDoorGbm
import Derived.Lib.MapLaws
/- Which trees html has a sign for: the program's way and the reference's are one. -/
namespace Go.Proofs.YtmemcabipcccaaaGreatDoor
open Go.RowKit
def hasE (t : BTok) : Bool := Lib.contains t.text.data.toList [60, 47]
def hasG (t : BTok) : Bool := Lib.contains t.text.data.toList [62]
/-- What html's reference refuses in the element that stands open. -/
def badIn (o : List ByteArray) (t : BTok) : Bool := match o.getLast? with
  | none => false
  | some y => (t.kind != 7) && (voidB y || (rawB y && ((t.kind != 4) || hasE t)))
def nextO (o : List ByteArray) (t : BTok) : List ByteArray := if t.kind = 2 then o ++ [t.name] else if t.kind = 7 then o.dropLast else o
def refHt : List ByteArray → List BTok → Bool
  | _, [] => true
  | o, t :: ts => !badIn o t && (!(decide (t.kind = 6) && hasG t) && refHt (nextO o t) ts)
theorem refHt_cons (o : List ByteArray) (t : BTok) (ts : List BTok) : refHt o (t :: ts) = (!badIn o t && (!(decide (t.kind = 6) && hasG t) && refHt (nextO o t) ts)) := rfl
/-- An element that what stands behind it spoils. -/
def spoilE (a c : BTok) : Bool := decide (a.kind = 2) && ((c.kind != 7) && (voidB a.name || (rawB a.name && (c.kind != 4))))
/-- A text or an instruction that is spoilt. -/
def spoilX (t a c : BTok) : Bool := if t.kind = 4 then rawS a && ((c.kind != 7) || hasE t) else if t.kind = 6 then hasG t else false
def seqS : BTok → List BTok → Bool
  | a, [] => !spoilE a zB
  | a, t :: ts => !spoilE a t && (!spoilX t a (tkAt ts 0) && seqS t ts)
def seqL : BTok → List BTok → Bool
  | _, [] => true
  | a, t :: ts => !lostB t a (tkAt ts 0) && seqL t ts
theorem lost_two (t a c : BTok) : lostB t a c = (spoilE t c || spoilX t a c) := by
  unfold lostB spoilE spoilX hasE hasG
  by_cases k2 : t.kind = 2
  · rw [if_pos k2, if_neg (by omega), if_neg (by omega), decide_eq_true k2, Bool.true_and, Bool.or_false]
  · rw [if_neg k2, decide_eq_false k2, Bool.false_and, Bool.false_or]
theorem seq_S : ∀ (ts : List BTok) (a : BTok), (!spoilE a (tkAt ts 0) && seqL a ts) = seqS a ts
  | [], a => by
    show (!spoilE a zB && true) = !spoilE a zB
    rw [Bool.and_true]
  | t :: ts, a => by
    show (!spoilE a t && (!lostB t a (tkAt ts 0) && seqL t ts)) = (!spoilE a t && (!spoilX t a (tkAt ts 0) && seqS t ts))
    rw [← seq_S ts t, lost_two]
    cases spoilE a t <;> cases spoilE t (tkAt ts 0) <;> cases spoilX t a (tkAt ts 0) <;> rfl
theorem range_all (g : BTok → BTok → BTok → Bool) (s : BTok → List BTok → Bool) (h0 : ∀ a, s a [] = true) (h1 : ∀ a t ts, s a (t :: ts) = (g t a (tkAt ts 0) && s t ts)) : ∀ (ts : List BTok) (a : BTok), ((List.range ts.length).all fun i => g (tkAt ts i) (if i = 0 then a else tkAt ts (i - 1)) (tkAt ts (i + 1))) = s a ts
  | [], a => (h0 a).symm
  | t :: ts, a => by
    rw [List.length_cons, List.range_succ_eq_map, List.all_cons, List.all_map, h1, ← range_all g s h0 h1 ts t]
    show (g t a (tkAt ts 0) && _) = _
    congr 1
    refine List.all_congr rfl (fun i => ?_)
    show g (tkAt ts i) (if i + 1 = 0 then a else tkAt (t :: ts) (i + 1 - 1)) (tkAt ts (i + 1)) = _
    rw [if_neg (by omega)]
    cases i with
    | zero => rfl
    | succ i => rw [if_neg (by omega)]; rfl
theorem html_S (ts : List BTok) : htmlOk ts = seqS zB ts := by
  have h1 : htmlOk ts = seqL zB ts := range_all (fun t a c => !lostB t a c) seqL (fun _ => rfl) (fun _ _ _ => rfl) ts zB
  rw [h1, ← seq_S]
  rfl
theorem refDoc_next {o : List ByteArray} {last : Int} {t : BTok} {ts : List BTok} (h : refDoc o last (t :: ts) = true) : okB t = true ∧ refDoc (nextO o t) t.kind ts = true ∧ (t.kind = 7 → o ≠ []) ∧ (t.kind = 4 → last ≠ 4) := by
  rw [refDoc_cons, Bool.and_eq_true] at h
  obtain ⟨h1, h2⟩ := h
  refine ⟨h1, ?_⟩
  unfold refStp at h2
  unfold nextO
  by_cases k2 : t.kind = 2
  · rw [if_pos k2] at h2 ⊢
    exact ⟨h2, (fun e => by omega), (fun e => by omega)⟩
  · rw [if_neg k2] at h2 ⊢
    by_cases k7 : t.kind = 7
    · rw [if_pos k7] at h2 ⊢
      cases hg : o.getLast? with
      | none => rw [hg] at h2; cases h2
      | some y =>
        rw [hg] at h2
        dsimp only at h2
        by_cases hz : (y.toList == t.name.toList) = true
        · rw [if_pos hz] at h2
          exact ⟨h2, (fun _ e => by rw [e] at hg; cases hg), (fun e => by omega)⟩
        · rw [if_neg hz] at h2; cases h2
    · rw [if_neg k7] at h2 ⊢
      by_cases k4 : t.kind = 4
      · rw [if_pos k4] at h2
        by_cases hz : (last == 4) = true
        · rw [if_pos hz] at h2; cases h2
        · rw [if_neg hz] at h2
          exact ⟨h2, (fun e => by omega), (fun _ e => hz (by rw [e]; rfl))⟩
      · rw [if_neg k4] at h2
        exact ⟨h2, (fun e => by omega), (fun e => by omega)⟩
def Sound (y : ByteArray) : Prop := voidB y = false ∧ rawB y = false
/-- Where both stand. -/
structure HtG (o : List ByteArray) (a : BTok) (ts : List BTok) : Prop where
  fresh : a.kind = 2 → o.getLast? = some a.name
  old : a.kind ≠ 2 → ∀ y, o.getLast? = some y → voidB y = false ∧ (rawB y = false ∨ (tkAt ts 0).kind = 7)
  low : ∀ y ∈ o.dropLast, Sound y
theorem low_push {o : List ByteArray} {y n : ByteArray} (hg : o.getLast? = some y) (hy : Sound y) (hl : ∀ y ∈ o.dropLast, Sound y) : ∀ z ∈ (o ++ [n]).dropLast, Sound z := by
  intro z hz
  rw [List.dropLast_concat] at hz
  obtain ⟨l, rfl⟩ := List.getLast?_eq_some_iff.1 hg
  rw [List.dropLast_concat] at hl
  rcases List.mem_append.1 hz with hz | hz
  · exact hl z hz
  · rw [List.mem_singleton.1 hz]; exact hy
theorem low_pop {o : List ByteArray} (hl : ∀ y ∈ o.dropLast, Sound y) : ∀ z ∈ o.dropLast.dropLast, Sound z := fun z hz => hl z ((List.dropLast_sublist _).subset hz)
theorem old_pop {o : List ByteArray} {ts : List BTok} (hl : ∀ y ∈ o.dropLast, Sound y) : ∀ y, o.dropLast.getLast? = some y → voidB y = false ∧ (rawB y = false ∨ (tkAt ts 0).kind = 7) := fun y hy => ⟨(hl y (List.mem_of_getLast? hy)).1, .inl (hl y (List.mem_of_getLast? hy)).2⟩
theorem nextO2 {o : List ByteArray} {t : BTok} (h : t.kind = 2) : nextO o t = o ++ [t.name] := by unfold nextO; rw [if_pos h]
theorem nextO7 {o : List ByteArray} {t : BTok} (h : t.kind = 7) : nextO o t = o.dropLast := by unfold nextO; rw [if_neg (by omega), if_pos h]
theorem nextO0 {o : List ByteArray} {t : BTok} (h : t.kind ≠ 2) (h' : t.kind ≠ 7) : nextO o t = o := by unfold nextO; rw [if_neg h, if_neg h']
theorem html_ref : ∀ (ts : List BTok) (o : List ByteArray) (last : Int) (a : BTok), refDoc o last ts = true → (a.kind = 4 → last = 4) → HtG o a ts → seqS a ts = refHt o ts
  | [], o, last, a, h, hla, hG => by
    show (!spoilE a zB) = true
    have hk : a.kind ≠ 2 := fun e => by
      have h1 := hG.fresh e
      have h2 : o.isEmpty = true := h
      rw [List.isEmpty_iff] at h2
      rw [h2] at h1
      cases h1
    unfold spoilE
    rw [decide_eq_false hk]
    rfl
  | t :: ts, o, last, a, h, hla, hG => by
    obtain ⟨hok, hn, h7, h4⟩ := refDoc_next h
    have hkk := ok_kinds hok
    show (!spoilE a t && (!spoilX t a (tkAt ts 0) && seqS t ts)) = _
    rw [refHt_cons]
    have hX6 : t.kind ≠ 4 → spoilX t a (tkAt ts 0) = (decide (t.kind = 6) && hasG t) := fun k4 => by
      unfold spoilX
      rw [if_neg k4]
      by_cases k6 : t.kind = 6
      · rw [if_pos k6, decide_eq_true k6, Bool.true_and]
      · rw [if_neg k6, decide_eq_false k6, Bool.false_and]
    by_cases ha : a.kind = 2
    · have hg := hG.fresh ha
      have hE : spoilE a t = ((t.kind != 7) && (voidB a.name || (rawB a.name && (t.kind != 4)))) := by unfold spoilE; rw [decide_eq_true ha, Bool.true_and]
      have hB : badIn o t = ((t.kind != 7) && (voidB a.name || (rawB a.name && ((t.kind != 4) || hasE t)))) := by unfold badIn; rw [hg]
      by_cases k7 : t.kind = 7
      · have e7 : (t.kind != 7) = false := by rw [k7]; rfl
        rw [hE, hB, e7, Bool.false_and, hX6 (by omega), nextO7 k7]
        rw [html_ref ts o.dropLast t.kind t (by rw [nextO7 k7] at hn; exact hn) (fun e => e) ⟨(fun e => by omega), (fun _ => old_pop hG.low), low_pop hG.low⟩]
        rfl
      · have e7 : (t.kind != 7) = true := by simp [k7]
        by_cases k4 : t.kind = 4
        · have e4 : (t.kind != 4) = false := by rw [k4]; rfl
          have e6 : (decide (t.kind = 6) && hasG t) = false := by rw [decide_eq_false (by omega)]; rfl
          have hX : spoilX t a (tkAt ts 0) = (rawB a.name && (((tkAt ts 0).kind != 7) || hasE t)) := by
            unfold spoilX rawS
            rw [if_pos k4, decide_eq_true ha, Bool.true_and]
          have hno : nextO o t = o := nextO0 (by omega) k7
          rw [hE, hB, hX, e7, e4, e6, hno, Bool.true_and, Bool.true_and, Bool.false_or, Bool.and_false, Bool.or_false, Bool.not_false, Bool.true_and]
          rw [hno] at hn
          cases hv : voidB a.name with
          | true => rfl
          | false =>
            cases hr : rawB a.name with
            | false =>
              rw [html_ref ts o t.kind t hn (fun e => e) ⟨(fun e => by omega), (fun _ y hy => by rw [hg] at hy; cases hy; exact ⟨hv, .inl hr⟩), hG.low⟩]
              rfl
            | true =>
              by_cases c7 : (tkAt ts 0).kind = 7
              · have ec : ((tkAt ts 0).kind != 7) = false := by rw [c7]; rfl
                rw [ec, html_ref ts o t.kind t hn (fun e => e) ⟨(fun e => by omega), (fun _ y hy => by rw [hg] at hy; cases hy; exact ⟨hv, .inr c7⟩), hG.low⟩]
                cases hasE t <;> rfl
              · have ec : ((tkAt ts 0).kind != 7) = true := by simp [c7]
                rw [ec]
                have hbad : refHt o ts = false := by
                  cases ts with
                  | nil =>
                    exfalso
                    have h2 : o.isEmpty = true := hn
                    rw [List.isEmpty_iff] at h2
                    rw [h2] at hg
                    cases hg
                  | cons u us =>
                    have hu4 : u.kind ≠ 4 := fun e => (refDoc_next hn).2.2.2 e k4
                    have hu7 : u.kind ≠ 7 := c7
                    rw [refHt_cons]
                    have : badIn o u = true := by
                      unfold badIn
                      rw [hg]
                      dsimp only
                      rw [hr, show (u.kind != 7) = true by simp [hu7], show (u.kind != 4) = true by simp [hu4]]
                      simp
                    rw [this]
                    rfl
                rw [hbad]
                cases hasE t <;> rfl
        · have e4 : (t.kind != 4) = true := by simp [k4]
          rw [hE, hB, hX6 k4, e7, e4, Bool.true_and, Bool.true_and, Bool.and_true, Bool.true_or, Bool.and_true]
          cases hv : voidB a.name with
          | true => rfl
          | false =>
            cases hr : rawB a.name with
            | true => rfl
            | false =>
              have hs : Sound a.name := ⟨hv, hr⟩
              have ih : seqS t ts = refHt (nextO o t) ts := html_ref ts (nextO o t) t.kind t hn (fun e => e) (by
                by_cases k2 : t.kind = 2
                · rw [nextO2 k2]
                  exact ⟨(fun _ => List.getLast?_concat), (fun e => absurd k2 e), low_push hg hs hG.low⟩
                · rw [nextO0 k2 k7]
                  exact ⟨(fun e => absurd e k2), (fun _ y hy => by rw [hg] at hy; cases hy; exact ⟨hv, .inl hr⟩), hG.low⟩)
              rw [ih]
    · have hE : spoilE a t = false := by unfold spoilE; rw [decide_eq_false ha]; rfl
      have hX : spoilX t a (tkAt ts 0) = (decide (t.kind = 6) && hasG t) := by
        by_cases k4 : t.kind = 4
        · unfold spoilX
          rw [if_pos k4, rawS_no ha, decide_eq_false (by omega)]
          rfl
        · exact hX6 k4
      have hB : badIn o t = false := by
        unfold badIn
        cases hg : o.getLast? with
        | none => rfl
        | some y =>
          dsimp only
          obtain ⟨hv, hr⟩ := hG.old ha y hg
          rcases hr with hr | hr
          · rw [hv, hr]; simp
          · have : t.kind = 7 := hr
            rw [show (t.kind != 7) = false by rw [this]; rfl]
            rfl
      have ih : seqS t ts = refHt (nextO o t) ts := html_ref ts (nextO o t) t.kind t hn (fun e => e) (by
        by_cases k2 : t.kind = 2
        · rw [nextO2 k2]
          refine ⟨(fun _ => List.getLast?_concat), (fun e => absurd k2 e), ?_⟩
          cases hg : o.getLast? with
          | none =>
            rw [List.getLast?_eq_none_iff.1 hg]
            intro z hz
            cases hz
          | some y =>
            obtain ⟨hv, hr⟩ := hG.old ha y hg
            rcases hr with hr | hr
            · exact low_push hg ⟨hv, hr⟩ hG.low
            · have : t.kind = 7 := hr
              omega
        · by_cases k7 : t.kind = 7
          · rw [nextO7 k7]
            exact ⟨(fun e => absurd e k2), (fun _ => old_pop hG.low), low_pop hG.low⟩
          · rw [nextO0 k2 k7]
            refine ⟨(fun e => absurd e k2), (fun _ y hy => ?_), hG.low⟩
            obtain ⟨hv, hr⟩ := hG.old ha y hy
            rcases hr with hr | hr
            · exact ⟨hv, .inl hr⟩
            · exact absurd hr k7)
      rw [hE, hX, hB, ih]
theorem html_same {ts : List BTok} (h : forB ts = true) : htmlOk ts = refHt [] ts := by
  rw [html_S]
  exact html_ref ts [] 2 zB (by rw [← forB_ref]; exact h) (fun e => absurd e (by decide)) ⟨(fun e => absurd e (by decide)), (fun _ y hy => by cases hy), (fun y hy => by cases hy)⟩
end Go.Proofs.YtmemcabipcccaaaGreatDoor
/- Which names are void, raw, short, by the reference: stencilref10's lower, among, Void, Raw, Short. -/
namespace Go.Proofs.YtmemcabipcccaaaGreatDoor
open Go.RowKit
theorem low_one (c : UInt8) (h : c.toNat < 128) : Lib.encodeRune (lowZ c.toNat) = [lowU c] := by
  have h1 := lowU_nat c
  unfold lowC at h1
  have h0 : 0 ≤ lowZ c.toNat ∧ lowZ c.toNat ≤ 127 ∧ lowZ c.toNat = ((lowU c).toNat : Int) := by
    unfold lowZ
    rw [h1]
    split <;> split <;> omega
  unfold Lib.encodeRune
  rw [Lib.encodeRuneZ_one h0.1 h0.2.1, List.map_cons, List.map_nil, Lib.toByte _ (lowU c) h0.2.2]
theorem low_high (l : List UInt8) (h : ¬ (l.getD 0 0).toNat < 128) : 128 ≤ (Lib.decodeL l).1 := by
  rw [Lib.decodeL_N]
  rcases Lib.decodeN_shape l.length (l.getD 0 0).toNat (l.getD 1 0).toNat (l.getD 2 0).toNat (l.getD 3 0).toNat with ⟨c, e⟩ | ⟨c1, c2, c3, cv, e⟩ | ⟨c1, c2, c3, c4, cv, cs, e⟩ | ⟨c1, c2, c3, c4, c5, cv, cw, e⟩ | e
  · exact absurd c h
  all_goals (rw [e]; dsimp only; omega)
theorem enc_high (r : Nat) (h : 128 ≤ r) : ∃ c t, Lib.encodeRune (r : Int) = c :: t ∧ 128 ≤ c.toNat := by
  unfold Lib.encodeRune Lib.encodeRuneZ
  have ho : ∀ z : Int, 128 ≤ z → z ≤ 255 → 128 ≤ z.toNat.toUInt8.toNat := fun z h1 h2 => by
    have e : z.toNat.toUInt8.toNat = z.toNat % 256 := rfl
    rw [e]; omega
  rw [if_neg (by omega)]
  split
  · exact ⟨_, _, rfl, ho _ (by omega) (by omega)⟩
  · split
    · exact ⟨_, _, rfl, ho _ (by omega) (by omega)⟩
    · split
      · exact ⟨_, _, rfl, ho _ (by omega) (by omega)⟩
      · exact ⟨_, _, rfl, ho _ (by decide) (by decide)⟩
/-- A word of small letters: the library's way to it and the reference's are one. -/
theorem mapD_low : ∀ (n : Nat) (l w : List UInt8), l.length ≤ n → (∀ c ∈ w, c.toNat < 128) → (Lib.mapD lowZ l = w ↔ l.map lowU = w)
  | 0, l, w, hn, _ => by
    have : l = [] := List.eq_nil_of_length_eq_zero (by omega)
    subst this
    exact Iff.rfl
  | n + 1, [], w, _, _ => Iff.rfl
  | n + 1, c :: r, w, hn, hw => by
    have hne : c :: r ≠ [] := by simp
    by_cases hc : c.toNat < 128
    · have hd : Lib.decodeL (c :: r) = (c.toNat, 1) := by
        rw [Lib.decodeL_N]
        unfold Lib.decodeN
        show (if c.toNat < 128 then _ else _) = _
        rw [if_pos hc]
        rfl
      have hm : Lib.mapD lowZ (c :: r) = lowU c :: Lib.mapD lowZ r := by
        rw [Lib.mapD_step lowZ _ hne, hd]
        dsimp only
        rw [if_pos (by unfold lowZ; split <;> omega), low_one c hc]
        rfl
      rw [hm, List.map_cons]
      cases w with
      | nil => exact ⟨(fun h => by cases h), (fun h => by cases h)⟩
      | cons y w =>
        have ih := mapD_low n r w (by simpa using hn) (fun x hx => hw x (List.mem_cons_of_mem _ hx))
        constructor
        · intro h
          injection h with h1 h2
          rw [h1, ih.1 h2]
        · intro h
          injection h with h1 h2
          rw [h1, ih.2 h2]
    · have h1 := low_high (c :: r) hc
      obtain ⟨x, t, hx, hx2⟩ := enc_high _ h1
      have hz : lowZ ((Lib.decodeL (c :: r)).1 : Int) = ((Lib.decodeL (c :: r)).1 : Int) := by unfold lowZ; rw [if_neg (by omega)]
      have hm : Lib.mapD lowZ (c :: r) = x :: (t ++ Lib.mapD lowZ ((c :: r).drop (Lib.decodeL (c :: r)).2)) := by
        rw [Lib.mapD_step lowZ _ hne, hz, if_pos (by omega), hx]
        rfl
      have hlc : lowU c = c := by unfold lowU; rw [if_neg (by omega)]
      rw [hm, List.map_cons, hlc]
      cases w with
      | nil => exact ⟨(fun h => by cases h), (fun h => by cases h)⟩
      | cons y w =>
        have hy := hw y (List.mem_cons_self ..)
        constructor
        · intro h
          injection h with h1 _
          rw [h1] at hx2; omega
        · intro h
          injection h with h1 _
          rw [h1] at hc; exact absurd hy hc
theorem words_low (L : List (List UInt8)) (hL : ∀ w ∈ L, ∀ c ∈ w, c.toNat < 128) (l : List UInt8) : L.contains (Lib.mapD lowZ l) = L.contains (l.map lowU) := by
  rw [Bool.eq_iff_iff, List.contains_iff_mem, List.contains_iff_mem]
  constructor
  · intro h
    rw [(mapD_low l.length l _ (Nat.le_refl _) (hL _ h)).1 rfl]
    exact h
  · intro h
    rw [(mapD_low l.length l _ (Nat.le_refl _) (hL _ h)).2 rfl]
    exact h
theorem void_low (s : ByteArray) : voidB s = voidL.contains (s.data.toList.map lowU) := words_low voidL (by decide) _
theorem raw_low (s : ByteArray) : rawB s = rawL.contains (s.data.toList.map lowU) := words_low rawL (by decide) _
theorem short_low (s : ByteArray) : shortB s = shortL.contains (s.data.toList.map lowU) := words_low shortL (by decide) _
set_option maxRecDepth 100000 in
set_option maxHeartbeats 4000000 in
theorem refLowS_any (s : ByteArray) (w : World) (hs : s.size ≤ 1048576) :
    Calls Tryz.prog 80 #[.string s] w fun e w' => e = .returned (.string ⟨(s.data.toList.map lowU).toArray⟩) ∧ Below w.heap.size w w' := by
  have hi0 : (Tryz.prog.info? 5).map (fun i => (i.zero, i.size, i.bytes)) = some (some (.int .u8 0), 1, 1) := by kernel_rfl
  obtain ⟨i0, hi, hz0, hz1, hz2⟩ := info_parts hi0
  clear hi0
  go_enter Tryz.func80, Tryz.ntmps80
  go_wp2_with fail
  go_loopw [3, 4] (fun s3 i wr => ∃ k : Nat, i = .int .i64 (k : Nat) ∧ k ≤ s.size ∧ wr.ownsRow w.heap.size 5 1 s3 k (byteCells ((s.data.toList.take k).map lowU)) ∧ Below w.heap.size w wr) (fun _ i _ => s.size - (intOf i).toNat)
  case atStart => exact ⟨0, rfl, Nat.zero_le _, World.ownsRow_nil _ _ _ _, Below.refl _ _⟩
  case round =>
    obtain ⟨k, rfl, hk, hown, hbr⟩ := hrel
    by_cases hlt : k < s.size
    · obtain ⟨ad, c, rfl⟩ := owns_slice hown
      have hsz := hbr.size
      have hk1 : s.data.toList[k]? = some s[k] := List.getElem?_eq_getElem (l := s.data.toList) hlt
      have htk : byteCells ((s.data.toList.take (k + 1)).map lowU) = byteCells ((s.data.toList.take k).map lowU) ++ [.int .u8 ((lowU s[k]).toNat : Nat)] := by
        rw [List.take_add_one, hk1]
        simp [byteCells]
      have hlow := lowU_nat s[k]
      have n1 : (0 : Int) ≤ (k : Int) := by omega
      have n2 : (k : Int) < (s.size : Int) := by omega
      have h256 : s[k].toNat < 256 := s[k].toNat_lt
      by_cases hu : 65 ≤ s[k].toNat ∧ s[k].toNat ≤ 90
      · obtain ⟨u1, u2⟩ := hu
        have HTK : Hid (byteCells ((s.data.toList.take (k + 1)).map lowU) = byteCells ((s.data.toList.take k).map lowU) ++ [.int .u8 ((s[k].toNat : Int) + 32)]) := hide (by
          rw [htk, hlow]
          unfold lowC
          rw [if_pos ⟨u1, u2⟩]
          rfl)
        have d1 : (65 : Int) ≤ (s[k].toNat : Int) := by omega
        have d2 : (s[k].toNat : Int) ≤ 90 := by omega
        have d3 : IntKind.u8.wrap ((s[k].toNat : Int) + 32) = (s[k].toNat : Int) + 32 := by
          show ((s[k].toNat : Int) + 32) % 256 = _
          omega
        clear htk hlow hk1 u1 u2
        go_wp2_with (at_builtin; refine wpList_append_own _ rfl _ _ 32 rfl w.heap.size 5 i0 (.int .u8 0) 1 1 Tryz.underlying32 hi hz0 hz1 hz2 rfl (by decide) _ _ _ rfl (hown.alloc _) ⟨wr.heap.size, 0, none⟩ 1 1 [.int .u8 ((s[k].toNat : Int) + 32)] rfl rfl (cell_one_new _ _ _) (fun x hx => by simp at hx; subst hx; rfl) (by unfold maxLen; omega) (by omega) (by simp; omega) ?_; intro v2 w2 hown2 hgrow2 _)
        have b2 := Below.grown (hbr.alloc hsz _) hgrow2 (by simp; omega) (owns_ge hown)
        refine ⟨⟨k + 1, by go_num, by omega, ?_, b2⟩, by simp [intOf]; omega⟩
        rw [unhide HTK]
        exact hown2
      · have HTK : Hid (byteCells ((s.data.toList.take (k + 1)).map lowU) = byteCells ((s.data.toList.take k).map lowU) ++ [.int .u8 (s[k].toNat : Nat)]) := hide (by
          rw [htk, hlow]
          unfold lowC
          rw [if_neg hu])
        by_cases h65 : 65 ≤ s[k].toNat
        · have d1 : (65 : Int) ≤ (s[k].toNat : Int) := by omega
          have d2 : ¬ (s[k].toNat : Int) ≤ 90 := by omega
          clear htk hlow hk1 hu h65
          go_wp2_with (at_builtin; refine wpList_append_own _ rfl _ _ 32 rfl w.heap.size 5 i0 (.int .u8 0) 1 1 Tryz.underlying32 hi hz0 hz1 hz2 rfl (by decide) _ _ _ rfl (hown.alloc _) ⟨wr.heap.size, 0, none⟩ 1 1 [.int .u8 (s[k].toNat : Nat)] rfl rfl (cell_one_new _ _ _) (fun x hx => by simp at hx; subst hx; rfl) (by unfold maxLen; omega) (by omega) (by simp; omega) ?_; intro v2 w2 hown2 hgrow2 _)
          have b2 := Below.grown (hbr.alloc hsz _) hgrow2 (by simp; omega) (owns_ge hown)
          refine ⟨⟨k + 1, by go_num, by omega, ?_, b2⟩, by simp [intOf]; omega⟩
          rw [unhide HTK]
          exact hown2
        · have d1 : ¬ (65 : Int) ≤ (s[k].toNat : Int) := by omega
          clear htk hlow hk1 hu h65
          go_wp2_with (at_builtin; refine wpList_append_own _ rfl _ _ 32 rfl w.heap.size 5 i0 (.int .u8 0) 1 1 Tryz.underlying32 hi hz0 hz1 hz2 rfl (by decide) _ _ _ rfl (hown.alloc _) ⟨wr.heap.size, 0, none⟩ 1 1 [.int .u8 (s[k].toNat : Nat)] rfl rfl (cell_one_new _ _ _) (fun x hx => by simp at hx; subst hx; rfl) (by unfold maxLen; omega) (by omega) (by simp; omega) ?_; intro v2 w2 hown2 hgrow2 _)
          have b2 := Below.grown (hbr.alloc hsz _) hgrow2 (by simp; omega) (owns_ge hown)
          refine ⟨⟨k + 1, by go_num, by omega, ?_, b2⟩, by simp [intOf]; omega⟩
          rw [unhide HTK]
          exact hown2
    · have hke : k = s.size := by omega
      subst hke
      rw [List.take_of_length_le (show s.data.toList.length ≤ s.size from Nat.le_refl _)] at hown
      have hl : ((s.data.toList.map lowU).length) = s.size := by rw [List.length_map]; rfl
      rw [← hl] at hown
      have hcv := conv_owned hown
      have n2 : ¬ (s.size : Int) < (s.size : Int) := by omega
      clear hown
      go_wp2
      go_ret
      exact ⟨rfl, hbr⟩

def amongB (L : List ByteArray) (x : List UInt8) : Bool := L.any fun y => y.toList == x
theorem among_none {L : List ByteArray} {x : List UInt8} (h : ∀ y ∈ L, (y.toList == x) = false) : amongB L x = false := by
  unfold amongB
  rw [List.any_eq_false]
  intro y hy
  rw [h y hy]
  decide
set_option maxRecDepth 100000 in
set_option maxHeartbeats 4000000 in
theorem among_any (s : ByteArray) (L : List ByteArray) (g cap : Nat) (w : World) (hs : s.size ≤ 1048576) (hn : L.length ≤ 1000) (hL : ∀ (i : Nat) (x : ByteArray), L[i]? = some x → w.cell? ⟨g, i, none⟩ = some (.string x)) :
    Calls Tryz.prog 61 #[.string s, .slice (some ⟨g, 0, none⟩) L.length cap] w fun e w' => e = .returned (.bool (amongB L (s.data.toList.map lowU))) ∧ Below w.heap.size w w' := by
  have HL := hide hL
  have HLO : Hid (∀ W, Calls Tryz.prog 80 #[.string s] W fun e w' => e = .returned (.string ⟨(s.data.toList.map lowU).toArray⟩) ∧ Below W.heap.size W w') := hide fun W => refLowS_any s W hs
  have hX : (⟨(s.data.toList.map lowU).toArray⟩ : ByteArray).toList = s.data.toList.map lowU := by simp [ByteArray.toList_eq]
  have HX := hide hX
  generalize s.data.toList.map lowU = x at *
  obtain ⟨X, hXe⟩ : ∃ X : ByteArray, X = ⟨x.toArray⟩ := ⟨_, rfl⟩
  rw [← hXe] at HLO HX
  obtain ⟨N, hN⟩ : ∃ N, N = L.length := ⟨_, rfl⟩
  have HN := hide hN
  rw [← hN] at hn ⊢
  clear hL hX hXe hN
  go_enter Tryz.func61, Tryz.ntmps61
  go_wp2_with fail
  go_loopw [5] (fun i wr => ∃ k : Nat, i = .int .i64 (k : Nat) ∧ k ≤ N ∧ Hid (∀ y ∈ L.take k, (y.toList == x) = false) ∧ Below w.heap.size w wr) (fun i _ => N - (intOf i).toNat)
  case atStart => exact ⟨0, rfl, Nat.zero_le _, hide (fun y hy => by cases hy), Below.refl _ _⟩
  case round =>
    obtain ⟨k, rfl, hk, hno, hbr⟩ := hrel
    by_cases hlt : k < N
    · obtain ⟨y, hy⟩ : ∃ y, L[k]? = some y := ⟨L[k]'(by rw [← unhide HN]; exact hlt), List.getElem?_eq_getElem _⟩
      have hc := keptC hbr (unhide HL k y hy)
      have HC := hide hc
      have HY := hide hy
      have n1 : (0 : Int) ≤ (k : Int) := by omega
      have n2 : (k : Int) < (N : Int) := by omega
      have n3 : (N : Int) ≤ 1000 := by omega
      clear hy
      cases hq : (y.toList == X.toList) with
      | true =>
        have HYES : Hid (amongB L x = true) := hide (by
          unfold amongB
          rw [List.any_eq_true]
          exact ⟨y, List.mem_of_getElem? (unhide HY), by rw [← unhide HX]; exact hq⟩)
        go_wp2_with fail
        go_region_with (first
          | (go_at_call 80; refine (unhide HLO _).mono ?_; rintro e w1 ⟨rfl, hb1⟩; have hc1 := keptC hb1 (unhide HC); have hb2 := Below.then hbr.drew hb1))
        all_goals (try go_wp2_with fail)
        all_goals (go_ret; exact ⟨congrArg (fun b => Ending.returned (Value.bool b)) (unhide HYES).symm, hb2⟩)
      | false =>
        have HQ := hide hq
        go_wp2_with fail
        go_region_with (first
          | (go_at_call 80; refine (unhide HLO _).mono ?_; rintro e w1 ⟨rfl, hb1⟩; have hc1 := keptC hb1 (unhide HC); have hb2 := Below.then hbr.drew hb1))
        all_goals (try go_wp2_with fail)
        all_goals (refine ⟨⟨k + 1, rfl, by omega, hide (fun z hz => ?_), hb2⟩, by simp [intOf]; omega⟩)
        all_goals
          obtain ⟨hk2, he2⟩ := List.getElem?_eq_some_iff.1 (unhide HY)
          rw [List.take_succ_eq_append_getElem hk2, he2] at hz
          rcases List.mem_append.1 hz with hz | hz
          · exact unhide hno z hz
          · rw [List.mem_singleton.1 hz, ← unhide HX]
            exact unhide HQ
    · have n2 : ¬ (k : Int) < (N : Int) := by omega
      have HK : Hid (k = N) := hide (by omega)
      go_wp2_with fail
      go_ret
      have hno' := unhide hno
      rw [unhide HK, unhide HN, List.take_length] at hno'
      rw [among_none hno']
      exact ⟨rfl, hbr⟩
def wordsB (L : List (List UInt8)) : List ByteArray := L.map fun y => ⟨y.toArray⟩
theorem among_words (L : List (List UInt8)) (x : List UInt8) : amongB (wordsB L) x = L.contains x := by
  unfold amongB wordsB
  rw [List.any_map, Bool.eq_iff_iff, List.any_eq_true, List.contains_iff_mem]
  constructor
  · rintro ⟨y, hy, h⟩
    have h1 := eq_of_beq h
    rw [ByteArray.toList_eq] at h1
    have h2 : y = x := by simpa using h1
    rw [← h2]
    exact hy
  · intro h
    exact ⟨x, h, by simp [ByteArray.toList_eq]⟩
theorem strs_new (W : World) (ps : List ByteArray) (T : TypeId) (i : Nat) (x : ByteArray) (h : ps[i]? = some x) : (W.alloc (.cells (ps.map Value.string).toArray T)).cell? ⟨W.heap.size, i, none⟩ = some (.string x) := by
  rw [World.cell?_alloc_new]
  simp [h]
set_option maxRecDepth 100000 in
set_option maxHeartbeats 4000000 in
theorem refVoid_any (s : ByteArray) (w : World) (hs : s.size ≤ 1048576) :
    Calls Tryz.prog 34 #[.string s] w fun e w' => e = .returned (.bool (voidB s)) ∧ Below w.heap.size w w' := by
  have hbA : Below w.heap.size w (w.alloc (.cells #[.string ⟨#[97, 114, 101, 97]⟩, .string ⟨#[98, 97, 115, 101]⟩, .string ⟨#[98, 114]⟩, .string ⟨#[99, 111, 108]⟩, .string ⟨#[101, 109, 98, 101, 100]⟩, .string ⟨#[104, 114]⟩, .string ⟨#[105, 109, 103]⟩, .string ⟨#[105, 110, 112, 117, 116]⟩, .string ⟨#[108, 105, 110, 107]⟩, .string ⟨#[109, 101, 116, 97]⟩, .string ⟨#[115, 111, 117, 114, 99, 101]⟩, .string ⟨#[116, 114, 97, 99, 107]⟩, .string ⟨#[119, 98, 114]⟩] 9)) := (Below.refl _ _).alloc (Nat.le_refl _) _
  have HB := hide hbA
  have HA : Hid (Calls Tryz.prog 61 #[.string s, .slice (some ⟨w.heap.size, 0, none⟩) 13 13] (w.alloc (.cells #[.string ⟨#[97, 114, 101, 97]⟩, .string ⟨#[98, 97, 115, 101]⟩, .string ⟨#[98, 114]⟩, .string ⟨#[99, 111, 108]⟩, .string ⟨#[101, 109, 98, 101, 100]⟩, .string ⟨#[104, 114]⟩, .string ⟨#[105, 109, 103]⟩, .string ⟨#[105, 110, 112, 117, 116]⟩, .string ⟨#[108, 105, 110, 107]⟩, .string ⟨#[109, 101, 116, 97]⟩, .string ⟨#[115, 111, 117, 114, 99, 101]⟩, .string ⟨#[116, 114, 97, 99, 107]⟩, .string ⟨#[119, 98, 114]⟩] 9)) fun e w' => e = .returned (.bool (amongB (wordsB voidL) (s.data.toList.map lowU))) ∧ Below (w.alloc (.cells #[.string ⟨#[97, 114, 101, 97]⟩, .string ⟨#[98, 97, 115, 101]⟩, .string ⟨#[98, 114]⟩, .string ⟨#[99, 111, 108]⟩, .string ⟨#[101, 109, 98, 101, 100]⟩, .string ⟨#[104, 114]⟩, .string ⟨#[105, 109, 103]⟩, .string ⟨#[105, 110, 112, 117, 116]⟩, .string ⟨#[108, 105, 110, 107]⟩, .string ⟨#[109, 101, 116, 97]⟩, .string ⟨#[115, 111, 117, 114, 99, 101]⟩, .string ⟨#[116, 114, 97, 99, 107]⟩, .string ⟨#[119, 98, 114]⟩] 9)).heap.size (w.alloc (.cells #[.string ⟨#[97, 114, 101, 97]⟩, .string ⟨#[98, 97, 115, 101]⟩, .string ⟨#[98, 114]⟩, .string ⟨#[99, 111, 108]⟩, .string ⟨#[101, 109, 98, 101, 100]⟩, .string ⟨#[104, 114]⟩, .string ⟨#[105, 109, 103]⟩, .string ⟨#[105, 110, 112, 117, 116]⟩, .string ⟨#[108, 105, 110, 107]⟩, .string ⟨#[109, 101, 116, 97]⟩, .string ⟨#[115, 111, 117, 114, 99, 101]⟩, .string ⟨#[116, 114, 97, 99, 107]⟩, .string ⟨#[119, 98, 114]⟩] 9)) w') := hide (among_any s (wordsB voidL) w.heap.size 13 _ hs (by decide) (fun i x h => strs_new w _ _ i x h))
  rw [among_words, ← void_low] at HA
  clear hbA
  go_enter Tryz.func34, Tryz.ntmps34
  go_wp2_with fail
  refine (unhide HA).mono ?_
  rintro e w1 ⟨rfl, hb1⟩
  go_wp2
  go_ret
  exact ⟨rfl, Below.then (unhide HB) hb1⟩
set_option maxRecDepth 100000 in
set_option maxHeartbeats 4000000 in
theorem refRaw_any (s : ByteArray) (w : World) (hs : s.size ≤ 1048576) :
    Calls Tryz.prog 35 #[.string s] w fun e w' => e = .returned (.bool (rawB s)) ∧ Below w.heap.size w w' := by
  have hbA : Below w.heap.size w (w.alloc (.cells #[.string ⟨#[115, 99, 114, 105, 112, 116]⟩, .string ⟨#[115, 116, 121, 108, 101]⟩] 9)) := (Below.refl _ _).alloc (Nat.le_refl _) _
  have HB := hide hbA
  have HA : Hid (Calls Tryz.prog 61 #[.string s, .slice (some ⟨w.heap.size, 0, none⟩) 2 2] (w.alloc (.cells #[.string ⟨#[115, 99, 114, 105, 112, 116]⟩, .string ⟨#[115, 116, 121, 108, 101]⟩] 9)) fun e w' => e = .returned (.bool (amongB (wordsB rawL) (s.data.toList.map lowU))) ∧ Below (w.alloc (.cells #[.string ⟨#[115, 99, 114, 105, 112, 116]⟩, .string ⟨#[115, 116, 121, 108, 101]⟩] 9)).heap.size (w.alloc (.cells #[.string ⟨#[115, 99, 114, 105, 112, 116]⟩, .string ⟨#[115, 116, 121, 108, 101]⟩] 9)) w') := hide (among_any s (wordsB rawL) w.heap.size 2 _ hs (by decide) (fun i x h => strs_new w _ _ i x h))
  rw [among_words, ← raw_low] at HA
  clear hbA
  go_enter Tryz.func35, Tryz.ntmps35
  go_wp2_with fail
  refine (unhide HA).mono ?_
  rintro e w1 ⟨rfl, hb1⟩
  go_wp2
  go_ret
  exact ⟨rfl, Below.then (unhide HB) hb1⟩
set_option maxRecDepth 100000 in
set_option maxHeartbeats 4000000 in
theorem refShort_any (s : ByteArray) (w : World) (hs : s.size ≤ 1048576) :
    Calls Tryz.prog 81 #[.string s] w fun e w' => e = .returned (.bool (shortB s)) ∧ Below w.heap.size w w' := by
  have hbA : Below w.heap.size w (w.alloc (.cells #[.string ⟨#[99, 104, 101, 99, 107, 101, 100]⟩, .string ⟨#[99, 111, 109, 112, 97, 99, 116]⟩, .string ⟨#[100, 101, 99, 108, 97, 114, 101]⟩, .string ⟨#[100, 101, 102, 101, 114]⟩, .string ⟨#[100, 105, 115, 97, 98, 108, 101, 100]⟩, .string ⟨#[105, 115, 109, 97, 112]⟩, .string ⟨#[109, 117, 108, 116, 105, 112, 108, 101]⟩, .string ⟨#[110, 111, 104, 114, 101, 102]⟩, .string ⟨#[110, 111, 114, 101, 115, 105, 122, 101]⟩, .string ⟨#[110, 111, 115, 104, 97, 100, 101]⟩, .string ⟨#[110, 111, 119, 114, 97, 112]⟩, .string ⟨#[114, 101, 97, 100, 111, 110, 108, 121]⟩, .string ⟨#[115, 101, 108, 101, 99, 116, 101, 100]⟩] 9)) := (Below.refl _ _).alloc (Nat.le_refl _) _
  have HB := hide hbA
  have HA : Hid (Calls Tryz.prog 61 #[.string s, .slice (some ⟨w.heap.size, 0, none⟩) 13 13] (w.alloc (.cells #[.string ⟨#[99, 104, 101, 99, 107, 101, 100]⟩, .string ⟨#[99, 111, 109, 112, 97, 99, 116]⟩, .string ⟨#[100, 101, 99, 108, 97, 114, 101]⟩, .string ⟨#[100, 101, 102, 101, 114]⟩, .string ⟨#[100, 105, 115, 97, 98, 108, 101, 100]⟩, .string ⟨#[105, 115, 109, 97, 112]⟩, .string ⟨#[109, 117, 108, 116, 105, 112, 108, 101]⟩, .string ⟨#[110, 111, 104, 114, 101, 102]⟩, .string ⟨#[110, 111, 114, 101, 115, 105, 122, 101]⟩, .string ⟨#[110, 111, 115, 104, 97, 100, 101]⟩, .string ⟨#[110, 111, 119, 114, 97, 112]⟩, .string ⟨#[114, 101, 97, 100, 111, 110, 108, 121]⟩, .string ⟨#[115, 101, 108, 101, 99, 116, 101, 100]⟩] 9)) fun e w' => e = .returned (.bool (amongB (wordsB shortL) (s.data.toList.map lowU))) ∧ Below (w.alloc (.cells #[.string ⟨#[99, 104, 101, 99, 107, 101, 100]⟩, .string ⟨#[99, 111, 109, 112, 97, 99, 116]⟩, .string ⟨#[100, 101, 99, 108, 97, 114, 101]⟩, .string ⟨#[100, 101, 102, 101, 114]⟩, .string ⟨#[100, 105, 115, 97, 98, 108, 101, 100]⟩, .string ⟨#[105, 115, 109, 97, 112]⟩, .string ⟨#[109, 117, 108, 116, 105, 112, 108, 101]⟩, .string ⟨#[110, 111, 104, 114, 101, 102]⟩, .string ⟨#[110, 111, 114, 101, 115, 105, 122, 101]⟩, .string ⟨#[110, 111, 115, 104, 97, 100, 101]⟩, .string ⟨#[110, 111, 119, 114, 97, 112]⟩, .string ⟨#[114, 101, 97, 100, 111, 110, 108, 121]⟩, .string ⟨#[115, 101, 108, 101, 99, 116, 101, 100]⟩] 9)).heap.size (w.alloc (.cells #[.string ⟨#[99, 104, 101, 99, 107, 101, 100]⟩, .string ⟨#[99, 111, 109, 112, 97, 99, 116]⟩, .string ⟨#[100, 101, 99, 108, 97, 114, 101]⟩, .string ⟨#[100, 101, 102, 101, 114]⟩, .string ⟨#[100, 105, 115, 97, 98, 108, 101, 100]⟩, .string ⟨#[105, 115, 109, 97, 112]⟩, .string ⟨#[109, 117, 108, 116, 105, 112, 108, 101]⟩, .string ⟨#[110, 111, 104, 114, 101, 102]⟩, .string ⟨#[110, 111, 114, 101, 115, 105, 122, 101]⟩, .string ⟨#[110, 111, 115, 104, 97, 100, 101]⟩, .string ⟨#[110, 111, 119, 114, 97, 112]⟩, .string ⟨#[114, 101, 97, 100, 111, 110, 108, 121]⟩, .string ⟨#[115, 101, 108, 101, 99, 116, 101, 100]⟩] 9)) w') := hide (among_any s (wordsB shortL) w.heap.size 13 _ hs (by decide) (fun i x h => strs_new w _ _ i x h))
  rw [among_words, ← short_low] at HA
  clear hbA
  go_enter Tryz.func81, Tryz.ntmps81
  go_wp2_with fail
  refine (unhide HA).mono ?_
  rintro e w1 ⟨rfl, hb1⟩
  go_wp2
  go_ret
  exact ⟨rfl, Below.then (unhide HB) hb1⟩
end Go.Proofs.YtmemcabipcccaaaGreatDoor
