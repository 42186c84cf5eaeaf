/- Several texts, laid as one. -/
import Derived.Test.YtjjggncbhenffaaGreatDoorGbm
import Derived.BigQuiet
import Derived.Test.YtjjggncbhenffaaGreatDoorGar
/- Whether a token may stand in some document: xmlscan's isToken. -/
namespace Go.Proofs.YtjjggncbhenffaaGreatDoor
open Go.RowKit
/-- A token as it is handed in: none of its parts is great. -/
structure Small (t : BTok) : Prop where
  l : t.attrs.length ≤ 1048576
  a : ∀ x ∈ t.attrs, x.1.size ≤ 1048576 ∧ x.2.size ≤ 1048576
  n : t.name.size ≤ 1048576
  x : t.text.size ≤ 1048576
def tokV (t : BTok) (v : Value) : Array Value := #[.int .i64 t.kind, .string t.name, v, .string t.text]
/-- A token's own cells, and nothing else new that matters. -/
structure TokBox (w : World) (t : BTok) (v : Value) (W : World) : Prop where
  bel : Below w.heap.size w W
  lt : w.heap.size < W.heap.size
  c0 : W.cell? ⟨w.heap.size, 0, none⟩ = some (.int .i64 t.kind)
  c1 : W.cell? ⟨w.heap.size, 1, none⟩ = some (.string t.name)
  c2 : W.cell? ⟨w.heap.size, 2, none⟩ = some v
  c3 : W.cell? ⟨w.heap.size, 3, none⟩ = some (.string t.text)
theorem TokBox.on {w W W' : World} {t : BTok} {v : Value} (h : TokBox w t v W) (hb : Below W.heap.size W W') : TokBox w t v W' :=
  ⟨Below.then h.bel hb, Nat.lt_of_lt_of_le h.lt hb.size, keptC hb h.c0, keptC hb h.c1, keptC hb h.c2, keptC hb h.c3⟩
theorem okB2 (n : ByteArray) (l : List (ByteArray × ByteArray)) (x : ByteArray) : okB ⟨2, n, l, x⟩ = (x.toList.isEmpty && (qB n && attrsB [] l)) := rfl
theorem okB7 (n : ByteArray) (l : List (ByteArray × ByteArray)) (x : ByteArray) : okB ⟨7, n, l, x⟩ = (x.toList.isEmpty && (l.isEmpty && qB n)) := rfl
theorem okB4 (n : ByteArray) (l : List (ByteArray × ByteArray)) (x : ByteArray) : okB ⟨4, n, l, x⟩ = (n.toList.isEmpty && (l.isEmpty && (!x.toList.isEmpty && textB x))) := rfl
theorem okB5 (n : ByteArray) (l : List (ByteArray × ByteArray)) (x : ByteArray) : okB ⟨5, n, l, x⟩ = (n.toList.isEmpty && (l.isEmpty && comB x)) := rfl
theorem okB6 (n : ByteArray) (l : List (ByteArray × ByteArray)) (x : ByteArray) : okB ⟨6, n, l, x⟩ = (l.isEmpty && (tarB n && insB x)) := rfl
set_option maxRecDepth 100000 in
set_option maxHeartbeats 8000000 in
theorem isToken_any (t : BTok) (v : Value) (w : World) (hv : PairsArg w v t.attrs) (hs : Small t) (B : Nat) (hB : B ≤ w.heap.size) (hE : XEnv B w) :
    Calls Tryz.prog 98 #[.agg #[.int .i64 t.kind, .string t.name, v, .string t.text]] w fun e w' => e = .returned (.bool (okB t)) ∧ Below w.heap.size w w' := by
  have HV := hide hv
  have HS := hide hs
  have HE := hide hE
  obtain ⟨a, cap, rfl, _⟩ := hv
  have HB0 : Hid (TokBox w t (.slice a t.attrs.length cap) (w.alloc (.cells (tokV t (.slice a t.attrs.length cap)) 26 (0, 0)))) := hide (by
    unfold tokV
    refine ⟨(Below.refl _ _).alloc (Nat.le_refl _) _, by simp, ?_, ?_, ?_, ?_⟩
    all_goals simp [go_sem])
  obtain ⟨k, n, l, x⟩ := t
  simp only at *
  clear hs hE
  go_enter Tryz.func98, Tryz.ntmps98
  go_wp2_with fail
  go_quiet (fail)
  have HB1 : Hid (TokBox w ⟨k, n, l, x⟩ (.slice a l.length cap) _) := hide ((unhide HB0).on (below_drewN _ nq))
  unfold tokV at HB1
  simp only at HB1
  generalize (w.alloc (.cells #[.int .i64 k, .string n, .slice a l.length cap, .string x] 26 (0, 0))).drewN nq = W at *
  clear HB0
  have hbW := (unhide HB1).bel
  have c0 := (unhide HB1).c0
  have c1 := (unhide HB1).c1
  have c2 := (unhide HB1).c2
  have c3 := (unhide HB1).c3
  simp only at c0 c1 c2 c3
  have HEW := hide ((unhide HE).low (hbW.mono hB))
  have hBW : B ≤ W.heap.size := Nat.le_trans hB hbW.size
  by_cases k2 : k = 2
  · subst k2
    have HOK := hide (okB2 n l x)
    cases hx0 : x.toList.isEmpty
    · have HR : Hid (okB ⟨2, n, l, x⟩ = false) := hide (by rw [unhide HOK, hx0]; rfl)
      clear HOK
      go_wp2
      go_ret
      exact ⟨ret_bool (unhide HR).symm, hbW⟩
    · rw [hx0, Bool.true_and] at HOK
      go_wp2_with fail
      refine (isQName_any n _ (unhide HS).n (unhide HEW).env).mono ?_
      rintro e w1 ⟨rfl, hb1⟩
      have hbW1 := Below.then hbW hb1
      have d2 := keptC hb1 c2
      cases hq : qB n
      · have HR : Hid (okB ⟨2, n, l, x⟩ = false) := hide (by rw [unhide HOK, hq]; rfl)
        clear HOK hq
        go_wp2
        go_ret
        exact ⟨ret_bool (unhide HR).symm, hbW1⟩
      · have HR : Hid (okB ⟨2, n, l, x⟩ = attrsB [] l) := hide (by rw [unhide HOK, hq, Bool.true_and])
        clear HOK hq
        go_wp2_with fail
        refine (areAttributes_any l _ _ ((unhide HV).below hbW1) (unhide HS).l (unhide HS).a B (Nat.le_trans hBW hb1.size) ((unhide HEW).on hBW hb1)).mono ?_
        rintro e w2 ⟨rfl, hb2⟩
        go_wp2
        go_ret
        exact ⟨ret_bool (unhide HR).symm, Below.then hbW1 hb2⟩
  · have g2 : (k == 2) = false := by simpa using k2
    by_cases k7 : k = 7
    · subst k7
      have HOK := hide (okB7 n l x)
      cases hx0 : x.toList.isEmpty
      · have HR : Hid (okB ⟨7, n, l, x⟩ = false) := hide (by rw [unhide HOK, hx0]; rfl)
        clear HOK
        go_wp2
        go_ret
        exact ⟨ret_bool (unhide HR).symm, hbW⟩
      · rw [hx0, Bool.true_and] at HOK
        cases hl0 : l.isEmpty
        · have HR : Hid (okB ⟨7, n, l, x⟩ = false) := hide (by rw [unhide HOK, hl0]; rfl)
          have hl1 : 0 < l.length := by cases l with | nil => cases hl0 | cons _ _ => simp
          clear HOK hl0
          go_wp2
          go_ret
          exact ⟨ret_bool (unhide HR).symm, hbW⟩
        · have HR : Hid (okB ⟨7, n, l, x⟩ = qB n) := hide (by rw [unhide HOK, hl0, Bool.true_and])
          have hl1 : ¬ 0 < l.length := by cases l with | nil => simp | cons _ _ => cases hl0
          clear HOK hl0
          go_wp2_with fail
          refine (isQName_any n _ (unhide HS).n (unhide HEW).env).mono ?_
          rintro e w1 ⟨rfl, hb1⟩
          go_wp2
          go_ret
          exact ⟨ret_bool (unhide HR).symm, Below.then hbW hb1⟩
    · have g7 : (k == 7) = false := by simpa using k7
      by_cases k4 : k = 4
      · subst k4
        have HOK := hide (okB4 n l x)
        cases hn0 : n.toList.isEmpty
        · have HR : Hid (okB ⟨4, n, l, x⟩ = false) := hide (by rw [unhide HOK, hn0]; rfl)
          clear HOK
          go_wp2
          go_ret
          exact ⟨ret_bool (unhide HR).symm, hbW⟩
        · rw [hn0, Bool.true_and] at HOK
          cases hl0 : l.isEmpty
          · have HR : Hid (okB ⟨4, n, l, x⟩ = false) := hide (by rw [unhide HOK, hl0]; rfl)
            have hl1 : 0 < l.length := by cases l with | nil => cases hl0 | cons _ _ => simp
            clear HOK hl0
            go_wp2
            go_ret
            exact ⟨ret_bool (unhide HR).symm, hbW⟩
          · rw [hl0, Bool.true_and] at HOK
            have hl1 : ¬ 0 < l.length := by cases l with | nil => simp | cons _ _ => cases hl0
            clear hl0
            cases hx0 : x.toList.isEmpty
            · have HR : Hid (okB ⟨4, n, l, x⟩ = textB x) := hide (by rw [unhide HOK, hx0]; rfl)
              clear HOK
              go_wp2_with fail
              refine (isText_any x _).mono ?_
              rintro e w1 ⟨rfl, hb1⟩
              go_wp2
              go_ret
              exact ⟨ret_bool (unhide HR).symm, Below.then hbW hb1⟩
            · have HR : Hid (okB ⟨4, n, l, x⟩ = false) := hide (by rw [unhide HOK, hx0]; rfl)
              clear HOK
              go_wp2
              go_ret
              exact ⟨ret_bool (unhide HR).symm, hbW⟩
      · have g4 : (k == 4) = false := by simpa using k4
        by_cases k5 : k = 5
        · subst k5
          have HOK := hide (okB5 n l x)
          cases hn0 : n.toList.isEmpty
          · have HR : Hid (okB ⟨5, n, l, x⟩ = false) := hide (by rw [unhide HOK, hn0]; rfl)
            clear HOK
            go_wp2
            go_ret
            exact ⟨ret_bool (unhide HR).symm, hbW⟩
          · rw [hn0, Bool.true_and] at HOK
            cases hl0 : l.isEmpty
            · have HR : Hid (okB ⟨5, n, l, x⟩ = false) := hide (by rw [unhide HOK, hl0]; rfl)
              have hl1 : 0 < l.length := by cases l with | nil => cases hl0 | cons _ _ => simp
              clear HOK hl0
              go_wp2
              go_ret
              exact ⟨ret_bool (unhide HR).symm, hbW⟩
            · have HR : Hid (okB ⟨5, n, l, x⟩ = comB x) := hide (by rw [unhide HOK, hl0, Bool.true_and])
              have hl1 : ¬ 0 < l.length := by cases l with | nil => simp | cons _ _ => cases hl0
              clear HOK hl0
              go_wp2_with fail
              refine (isComment_any x _ (unhide HS).x B hBW (unhide HEW)).mono ?_
              rintro e w1 ⟨rfl, hb1⟩
              go_wp2
              go_ret
              exact ⟨ret_bool (unhide HR).symm, Below.then hbW hb1⟩
        · have g5 : (k == 5) = false := by simpa using k5
          by_cases k6 : k = 6
          · subst k6
            have HOK := hide (okB6 n l x)
            cases hl0 : l.isEmpty
            · have HR : Hid (okB ⟨6, n, l, x⟩ = false) := hide (by rw [unhide HOK, hl0]; rfl)
              have hl1 : 0 < l.length := by cases l with | nil => cases hl0 | cons _ _ => simp
              clear HOK hl0
              go_wp2
              go_ret
              exact ⟨ret_bool (unhide HR).symm, hbW⟩
            · rw [hl0, Bool.true_and] at HOK
              have hl1 : ¬ 0 < l.length := by cases l with | nil => simp | cons _ _ => cases hl0
              clear hl0
              go_wp2_with fail
              refine (isTargetB_any n _ (unhide HS).n B hBW (unhide HEW)).mono ?_
              rintro e w1 ⟨rfl, hb1⟩
              have hbW1 := Below.then hbW hb1
              have d3 := keptC hb1 c3
              cases hq : tarB n
              · have HR : Hid (okB ⟨6, n, l, x⟩ = false) := hide (by rw [unhide HOK, hq]; rfl)
                clear HOK hq
                go_wp2
                go_ret
                exact ⟨ret_bool (unhide HR).symm, hbW1⟩
              · have HR : Hid (okB ⟨6, n, l, x⟩ = insB x) := hide (by rw [unhide HOK, hq, Bool.true_and])
                clear HOK hq
                go_wp2_with fail
                refine (isInstruction_any x _ (unhide HS).x B (Nat.le_trans hBW hb1.size) ((unhide HEW).on hBW hb1)).mono ?_
                rintro e w2 ⟨rfl, hb2⟩
                go_wp2
                go_ret
                exact ⟨ret_bool (unhide HR).symm, Below.then hbW1 hb2⟩
          · have g6 : (k == 6) = false := by simpa using k6
            have HR : Hid (okB ⟨k, n, l, x⟩ = false) := hide (by unfold okB; simp only [if_neg k2, if_neg k7, if_neg k4, if_neg k5, if_neg k6])
            clear k2 k7 k4 k5 k6
            go_wp2
            go_ret
            exact ⟨ret_bool (unhide HR).symm, hbW⟩
end Go.Proofs.YtjjggncbhenffaaGreatDoor
/- What Scan tells, Write writes, or there is no room: in plain terms. -/
namespace Go.Proofs.YtjjggncbhenffaaGreatDoor
theorem qB_of {l : List Nat} (h : okL l) (hq : isQ l = true) : qB (T l) = true := by
  unfold qB
  rw [splitB_T h]
  exact hq
theorem textB_of {l : List Nat} (h : okL l) : textB (T l) = true := (textB_txt _).2 (T_txt h)
theorem cut_contains {sign : List Nat} (hs : ∀ c ∈ sign, c < 128) (hne : sign ≠ []) {l : List Nat} (hl : okL l) (h : cutL sign l = none) : Lib.contains (tx l) (sign.map UInt8.ofNat) = false := by
  have := (index_tx sign hs hne l hl).2 h
  unfold Lib.contains
  rw [this]
  rfl
theorem T_inj {a b : List Nat} (ha : okL a) (hb : okL b) (h : tx a = tx b) : a = b := tx_inj ha hb h
theorem attrsB_of : ∀ (a : List (List Nat × List Nat)) (seen : List (List Nat)), (∀ x ∈ seen, okL x) → (∀ x ∈ a, okL x.1 ∧ okL x.2) → (∀ x ∈ a, isQ x.1 = true) → (a.map (·.1)).Nodup → (∀ x ∈ a, x.1 ∉ seen) →
    attrsB (seen.map tx) (a.map fun x => (T x.1, T x.2)) = true
  | [], _, _, _, _, _, _ => rfl
  | (n, v) :: a, seen, hs, ho, hq, hd, hn => by
    have hon := ho (n, v) (List.mem_cons_self ..)
    rw [List.map_cons, List.nodup_cons] at hd
    have ih := attrsB_of a (seen ++ [n]) (fun y hy => by
      rcases List.mem_append.1 hy with hy | hy
      · exact hs y hy
      · rw [List.mem_singleton.1 hy]; exact hon.1) (fun x hx => ho x (List.mem_cons_of_mem _ hx)) (fun x hx => hq x (List.mem_cons_of_mem _ hx)) hd.2 (fun x hx hm => by
        rcases List.mem_append.1 hm with hm | hm
        · exact hn x (List.mem_cons_of_mem _ hx) hm
        · exact hd.1 (List.mem_map.2 ⟨x, hx, List.mem_singleton.1 hm⟩))
    have hc : (seen.map tx).contains (tx n) = false := by
      cases hh : (seen.map tx).contains (tx n)
      · rfl
      · obtain ⟨y, hy, e⟩ := List.mem_map.1 (List.contains_iff_mem.1 hh)
        exact absurd (by rw [← T_inj (hs y hy) hon.1 e]; exact hy) (hn (n, v) (List.mem_cons_self ..))
    rw [List.map_append] at ih
    simp only [List.map_cons, attrsB, T_data, hc, qB_of hon.1 (hq (n, v) (List.mem_cons_self ..)), textB_of hon.2, Bool.not_false, Bool.true_and]
    exact ih
theorem last_suffix {l : List Nat} (hl : okL l) (h : l.getLast? ≠ some 45) : Lib.hasSuffix (tx l) [45] = false := by
  cases hh : Lib.hasSuffix (tx l) [45]
  · rfl
  · exfalso
    unfold Lib.hasSuffix at hh
    obtain ⟨p, hp⟩ := List.isSuffixOf_iff_suffix.1 hh
    rcases List.eq_nil_or_concat l with rfl | ⟨q, c, rfl⟩
    · rw [tx_nil] at hp
      simp at hp
    · rw [List.concat_eq_append] at hp h hl
      have hT : Txt (p ++ UInt8.ofNat 45 :: []) := ⟨q ++ [c], hl, by rw [show (UInt8.ofNat 45 : UInt8) = 45 from rfl, hp]; rfl⟩
      obtain ⟨⟨a, ha, ea⟩, _⟩ := txt_cut (by decide) hT
      have e : tx (q ++ [c]) = tx (a ++ [45]) := by
        rw [← hp, tx_append, show tx a = p from ea.symm]
        rfl
      have := tx_inj hl (okL_app ha (okL_of (by decide))) e
      rw [this] at h
      exact h (by simp)
theorem head_trim {l : List Nat} (hl : okL l) (h : ∀ c, l.head? = some c → blankC c = false) : ((Lib.trimLeftF blankN (T l)).toList == (T l).toList) = true := by
  rw [trim_T hl]
  have : l.dropWhile blankC = l := by
    cases l with
    | nil => rfl
    | cons c l => rw [List.dropWhile_cons, h c rfl]; rfl
  rw [this]
  simp
theorem empty_of (k : List Nat) (h : k = []) : (T k).toList.isEmpty = true := by rw [T_toList, h]; rfl
/-- A token that may stand in some document is one that Write takes. -/
theorem okB_of (x : XTok) (hok : OkTok x) (hA : OkAll x) : okB x.b = true := by
  cases hok with
  | elem n a h ha hd =>
    have h3 := attrsB_of a [] (fun _ h => by cases h) hA.a ha hd (fun _ _ hx => by cases hx)
    show ((T []).toList.isEmpty && (qB (T n) && attrsB [] (a.map fun x => (T x.1, T x.2)))) = true
    rw [empty_of [] rfl, qB_of hA.n h]
    exact h3
  | fin n h =>
    show ((T []).toList.isEmpty && (true && qB (T n))) = true
    rw [empty_of [] rfl, qB_of hA.n h]
    rfl
  | text l h =>
    show ((T []).toList.isEmpty && (true && (!(T l).toList.isEmpty && textB (T l)))) = true
    rw [empty_of [] rfl, textB_of hA.x, ne_T hA.x h]
    rfl
  | comment l h h' =>
    have h1 := cut_contains (sign := [45, 45]) (by decide) (by decide) hA.x h
    have h2 := last_suffix hA.x h'
    show ((T []).toList.isEmpty && (true && comB (T l))) = true
    unfold comB
    rw [T_data, empty_of [] rfl, textB_of hA.x, h2]
    rw [show ([45, 45] : List Nat).map UInt8.ofNat = [45, 45] from rfl] at h1
    rw [h1]
    rfl
  | pi n l h hc hb =>
    have h1 := cut_contains (sign := [63, 62]) (by decide) (by decide) hA.x hc
    rw [show ([63, 62] : List Nat).map UInt8.ofNat = [63, 62] from rfl] at h1
    show (true && (tarB (T n) && insB (T l))) = true
    unfold insB
    rw [tarB_T hA.n, T_data, h, textB_of hA.x, h1, head_trim hA.x hb]
    rfl
theorem attrs_few {o : List (List Nat)} {r : Bool} {k : Nat} {ts : List XTok} (h : DocT o r k ts) : ∀ x ∈ ts, x.attrs.length ≤ 64 := by
  induction h with
  | done k => intro x hx; cases hx
  | elem n a o r k ts h hr ho ha hn ih =>
    intro x hx
    rcases List.mem_cons.1 hx with rfl | hx
    · exact ha
    · exact ih x hx
  | fin n o r k ts h ho hn ih =>
    intro x hx
    rcases List.mem_cons.1 hx with rfl | hx
    · exact Nat.zero_le _
    · exact ih x hx
  | text l o r k ts h ho hk hn ih =>
    intro x hx
    rcases List.mem_cons.1 hx with rfl | hx
    · exact Nat.zero_le _
    · exact ih x hx
  | comment l o r k ts h hn ih =>
    intro x hx
    rcases List.mem_cons.1 hx with rfl | hx
    · exact Nat.zero_le _
    · exact ih x hx
  | pi n l o r k ts h hn ih =>
    intro x hx
    rcases List.mem_cons.1 hx with rfl | hx
    · exact Nat.zero_le _
    · exact ih x hx
/-- What Scan tells, Write writes, or there is no room. -/
theorem write_told {cs : List Nat} {ts : List XTok} (hl : okL cs) (hs : (T cs).size ≤ 32768) (h : scanX cs = .ok ts) :
    DocT [] false 0 ts ∧ ts.length ≤ 4096 ∧ (∀ t ∈ ts.map XTok.b, Small t) ∧ (writeR (ts.map XTok.b) = (⟨#[]⟩, 6) ∨ (writeR (ts.map XTok.b) = (T (writeX ts), 0) ∧ okL (writeX ts) ∧ (T (writeX ts)).size ≤ 32768)) := by
  obtain ⟨hD, hn⟩ := scan_docT hl hs h
  have hF := scan_F hl hs h
  have hdoc := docB_of okB_of hD (fun t ht => (hF t ht).ok)
  have hok : ∀ x ∈ ts, OkTok x := doc_all hD
  have hsm : ∀ t ∈ ts.map XTok.b, Small t := fun t ht => by
    obtain ⟨x, hx, rfl⟩ := List.mem_map.1 ht
    have hf := hF x hx
    have ha : x.attrs.length ≤ 64 := attrs_few hD x hx
    refine ⟨?_, fun y hy => ?_, ?_, ?_⟩
    · show (x.attrs.map _).length ≤ _
      rw [List.length_map]
      omega
    · obtain ⟨z, hz, rfl⟩ := List.mem_map.1 hy
      have := hf.a z hz
      show (T z.1).size ≤ _ ∧ (T z.2).size ≤ _
      rw [T_size, T_size]
      omega
    · have := hf.n
      show (T x.name).size ≤ _
      rw [T_size]
      omega
    · have := hf.x
      show (T x.text).size ≤ _
      rw [T_size]
      omega
  refine ⟨hD, hn, hsm, ?_⟩
  obtain ⟨w1, w2⟩ := write_tx (fun x hx => (hF x hx).ok) hok
  cases hp : pastB (ts.map XTok.b)
  · by_cases hz : 32768 < (writeB (ts.map XTok.b)).length
    · left
      unfold writeR
      rw [if_neg (by rw [show docB [] false 0 (ts.map XTok.b) = true from hdoc]; decide), if_neg (by rw [hp]; decide), if_pos hz]
    · right
      refine ⟨?_, w2, ?_⟩
      · unfold writeR
        rw [if_neg (by rw [show docB [] false 0 (ts.map XTok.b) = true from hdoc]; decide), if_neg (by rw [hp]; decide), if_neg hz, w1]
        rfl
      · rw [T_size, ← w1]
        omega
  · left
    unfold writeR
    rw [if_neg (by rw [show docB [] false 0 (ts.map XTok.b) = true from hdoc]; decide), if_pos hp]
end Go.Proofs.YtjjggncbhenffaaGreatDoor
/- Trees that are built, in plain terms: what always holds on the way. -/
namespace Go.Proofs.YtjjggncbhenffaaGreatDoor
theorem withD_len : ∀ {l : List (List Nat × List Nat)} {s t : Sc}, withD s l = some t → t.length ≤ s.length + l.length
  | [], s, t, h => by cases h; exact Nat.le_refl _
  | x :: l, s, t, h => by
    rw [withD] at h
    rw [List.length_cons]
    split at h
    · have := withD_len h; omega
    · rename_i p _
      split at h
      · have := withD_len h
        have := declareD_len s p x.2
        omega
      · cases h
/-- A builder that has read k tokens, with so many elements open. -/
structure Inv (s : BS) (d k : Nat) : Prop where
  opn : s.opn.length = d + 1
  all : ∀ i ∈ s.opn, i < s.nodes.length
  n : s.nodes.length ≤ 1 + 65 * k
  sc : ∀ x ∈ s.nodes, x.scope.length ≤ 64 * k
theorem Inv.start : Inv BS.start 0 0 := ⟨rfl, fun i hi => by rw [List.mem_singleton.1 hi]; exact Nat.zero_lt_one, Nat.le_refl _, fun x hx => by rw [List.mem_singleton.1 hx]; exact Nat.le_refl _⟩
theorem getLastD_mem {l : List Nat} (h : l ≠ []) : l.getLastD 0 ∈ l := by
  rw [List.getLastD_eq_getLast?, List.getLast?_eq_some_getLast h]
  exact List.getLast_mem h
theorem Inv.ne {s : BS} {d k : Nat} (h : Inv s d k) : s.opn ≠ [] := fun h0 => by have := h.opn; rw [h0] at this; simp at this
theorem Inv.inner {s : BS} {d k : Nat} (h : Inv s d k) : s.inner < s.nodes.length := h.all _ (getLastD_mem h.ne)
theorem Inv.ok {s : BS} {d k : Nat} (h : Inv s d k) (hk : k ≤ 4096) (hd : d ≤ 100) : StOk s := by
  have h1 := h.n
  have h2 := h.opn
  refine ⟨h.ne, h.inner, by omega, by omega, ?_⟩
  unfold BS.scope
  obtain ⟨x, hx⟩ : ∃ x, s.nodes[s.inner]? = some x := ⟨s.nodes[s.inner]'h.inner, List.getElem?_eq_getElem h.inner⟩
  rw [hx]
  have := h.sc x (List.mem_of_getElem? hx)
  show x.scope.length ≤ _
  omega
theorem modify_scope {l : List XNode} {i n m : Nat} (h : ∀ x ∈ l, x.scope.length ≤ m) : ∀ x ∈ l.modify i (fun x => { x with fin := n }), x.scope.length ≤ m := by
  intro x hx
  obtain ⟨j, hj⟩ := List.getElem?_of_mem hx
  rw [List.getElem?_modify] at hj
  obtain ⟨y, hy, e⟩ := Option.map_eq_some_iff.1 hj
  have := h y (List.mem_of_getElem? hy)
  rw [← e]
  split <;> exact this
theorem Inv.leafN {s : BS} {d : Nat} (x : XNode) (hx : x.scope = []) (h1 : s.opn.length = d + 1) (h2 : ∀ i ∈ s.opn, i < s.nodes.length) (m : Nat) (h3 : ∀ y ∈ s.nodes, y.scope.length ≤ m) :
    (s.leaf x).opn.length = d + 1 ∧ (∀ i ∈ (s.leaf x).opn, i < (s.leaf x).nodes.length) ∧ ∀ y ∈ (s.leaf x).nodes, y.scope.length ≤ m := by
  refine ⟨by rw [leaf_opn]; exact h1, fun i hi => ?_, ?_⟩
  · rw [leaf_opn] at hi
    rw [leaf_len]
    have := h2 i hi
    omega
  · refine modify_scope fun y hy => ?_
    rcases List.mem_append.1 hy with hy | hy
    · exact h3 y hy
    · rw [List.mem_singleton.1 hy]
      show x.scope.length ≤ m
      rw [hx]
      exact Nat.zero_le _
theorem Inv.leafs : ∀ (l : List XNode) (s : BS) (d m : Nat), (∀ x ∈ l, x.scope = []) → s.opn.length = d + 1 → (∀ i ∈ s.opn, i < s.nodes.length) → (∀ y ∈ s.nodes, y.scope.length ≤ m) →
    (l.foldl BS.leaf s).opn.length = d + 1 ∧ (∀ i ∈ (l.foldl BS.leaf s).opn, i < (l.foldl BS.leaf s).nodes.length) ∧ ∀ y ∈ (l.foldl BS.leaf s).nodes, y.scope.length ≤ m
  | [], s, d, m, _, h1, h2, h3 => ⟨h1, h2, h3⟩
  | x :: l, s, d, m, hl, h1, h2, h3 => by
    obtain ⟨q1, q2, q3⟩ := Inv.leafN x (hl x (List.mem_cons_self ..)) h1 h2 m h3
    exact Inv.leafs l (s.leaf x) d m (fun y hy => hl y (List.mem_cons_of_mem _ hy)) q1 q2 q3
theorem attrsN_nil {s : Sc} : ∀ {l : List (List Nat × List Nat)} {r : List XNode}, attrsN s l = some r → ∀ x ∈ r, x.scope = []
  | [], r, h, x, hx => by cases h; cases hx
  | y :: l, r, h, x, hx => by
    rw [attrsN] at h
    split at h
    · exact attrsN_nil h x hx
    · split at h
      · cases h
      · obtain ⟨q, hq, rfl⟩ := Option.map_eq_some_iff.1 h
        rcases List.mem_cons.1 hx with rfl | hx
        · rfl
        · exact attrsN_nil hq x hx
theorem attributes_nil {s : Sc} {l : List (List Nat × List Nat)} {r : List XNode} (h : attributesD s l = .ok r) : ∀ x ∈ r, x.scope = [] := by
  unfold attributesD at h
  split at h
  · cases h
  · rename_i q hq
    split at h
    · cases h; exact attrsN_nil hq
    · cases h
theorem Inv.elem {s s' : BS} {d k : Nat} {t : XTok} (h : Inv s d k) (hn : t.attrs.length ≤ 64) (he : s.element t = .ok s') : Inv s' (d + 1) (k + 1) := by
  have hsc : s.scope.length ≤ 64 * k := by
    unfold BS.scope
    obtain ⟨x, hx⟩ : ∃ x, s.nodes[s.inner]? = some x := ⟨s.nodes[s.inner]'h.inner, List.getElem?_eq_getElem h.inner⟩
    rw [hx]
    exact h.sc x (List.mem_of_getElem? hx)
  unfold BS.element BS.elementAt at he
  split at he
  · cases he
  · rename_i inner hw
    split at he
    · cases he
    · rename_i n _
      split at he
      · cases he
      · rename_i as' ha
        cases he
        have hwl := withD_len hw
        have hal := attrs_len2 ha
        have ho := h.opn
        have hnn := h.n
        obtain ⟨q1, q2, q3⟩ := Inv.leafs as' (s.begin (s.placed ⟨2, n, [], 0, 0, 0, inner⟩)) (d + 1) (64 * (k + 1)) (attributes_nil ha)
          (by show (s.opn ++ [_]).length = _; rw [List.length_append]; simp; omega)
          (fun i hi => by
            show i < (s.nodes ++ [_]).length
            rw [List.length_append]
            rcases List.mem_append.1 hi with hi | hi
            · have := h.all i hi; simp; omega
            · rw [List.mem_singleton.1 hi]; simp)
          (fun y hy => by
            rcases List.mem_append.1 hy with hy | hy
            · have := h.sc y hy; omega
            · rw [List.mem_singleton.1 hy]
              show inner.length ≤ _
              omega)
        refine ⟨q1, q2, ?_, q3⟩
        rw [(leafs_opn _ _).2]
        show (s.nodes ++ [_]).length + _ ≤ _
        rw [List.length_append]
        simp
        omega
theorem Inv.fin {s : BS} {d k : Nat} (h : Inv s (d + 1) k) : Inv s.finish d (k + 1) := by
  have h1 := h.opn
  have h2 := h.n
  refine ⟨?_, fun i hi => ?_, ?_, modify_scope fun x hx => by have := h.sc x hx; omega⟩
  · show s.opn.dropLast.length = _
    rw [List.length_dropLast]
    omega
  · show i < (s.nodes.modify _ _).length
    rw [List.length_modify]
    exact h.all i (List.dropLast_subset _ hi)
  · show (s.nodes.modify _ _).length ≤ _
    rw [List.length_modify]
    omega
theorem Inv.leaf {s : BS} {d k : Nat} (h : Inv s d k) (x : XNode) (hx : x.scope = []) : Inv (s.leaf x) d (k + 1) := by
  have h2 := h.n
  obtain ⟨q1, q2, q3⟩ := Inv.leafN x hx h.opn h.all (64 * (k + 1)) (fun y hy => by have := h.sc y hy; omega)
  exact ⟨q1, q2, by rw [leaf_len]; omega, q3⟩
/-- A document's tokens, one after the other. -/
theorem Inv.add {s s' : BS} {o : List (List Nat)} {r : Bool} {q k : Nat} {t : XTok} {ts : List XTok} (h : Inv s o.length k) (hlo : o.length ≤ 32) (hD : DocT o r q (t :: ts)) (ha : s.add t = .ok s') : ∃ o' r' q', DocT o' r' q' ts ∧ Inv s' o'.length (k + 1) ∧ o'.length ≤ 32 := by
  cases hD with
  | elem n a _ _ _ _ h1 hr ho hal hn =>
    have e : s.add ⟨2, n, a, []⟩ = s.element ⟨2, n, a, []⟩ := rfl
    rw [e] at ha
    refine ⟨_, _, _, hn, ?_, ?_⟩
    · rw [List.length_append]
      exact h.elem hal ha
    · rw [List.length_append]; simp; omega
  | fin n _ _ _ _ h1 ho hn =>
    have e : s.add ⟨7, n, [], []⟩ = .ok s.finish := rfl
    rw [e] at ha
    cases ha
    have hol : o.length = o.dropLast.length + 1 := by
      rw [List.length_dropLast]
      have : o ≠ [] := fun h0 => by rw [h0] at ho; cases ho
      have := List.length_pos_iff.2 this
      omega
    rw [hol] at h
    exact ⟨_, _, _, hn, h.fin, by omega⟩
  | text l _ _ _ _ h1 ho hk hn =>
    have e : s.add ⟨4, [], [], l⟩ = .ok (s.leaf ⟨4, nm0, l, 0, 0, 0, []⟩) := rfl
    rw [e] at ha
    cases ha
    exact ⟨_, _, _, hn, h.leaf _ rfl, hlo⟩
  | comment l _ _ _ _ h1 hn =>
    have e : s.add ⟨5, [], [], l⟩ = .ok (s.leaf ⟨5, nm0, l, 0, 0, 0, []⟩) := rfl
    rw [e] at ha
    cases ha
    exact ⟨_, _, _, hn, h.leaf _ rfl, hlo⟩
  | pi n l _ _ _ _ h1 hn =>
    have e : s.add ⟨6, n, [], l⟩ = .ok (s.leaf ⟨6, ⟨[], [], n⟩, l, 0, 0, 0, []⟩) := rfl
    rw [e] at ha
    cases ha
    exact ⟨_, _, _, hn, h.leaf _ rfl, hlo⟩
/-- Tokens that Build takes. -/
structure DocOk (xs : List XTok) : Prop where
  doc : DocT [] false 0 xs
  len : xs.length ≤ 4096
  all : ∀ x ∈ xs, OkAll x
  sm : ∀ t ∈ xs.map XTok.b, Small t
theorem DocOk.tok {xs : List XTok} (h : DocOk xs) {x : XTok} (hx : x ∈ xs) : TokOk x := by
  have hs := h.sm x.b (List.mem_map.2 ⟨x, hx, rfl⟩)
  have ha := h.all x hx
  have hok := doc_all h.doc x hx
  have hf := attrs_few h.doc x hx
  refine ⟨fun y hy => ⟨ha.a y hy, ?_⟩, fun h2 => ?_⟩
  · have := hs.a (T y.1, T y.2) (List.mem_map.2 ⟨y, hy, rfl⟩)
    exact this
  · cases hok with
    | elem n a q1 q2 _ => exact ⟨q2, hf, ha.n, q1, hs.n⟩
    | fin n _ => cases h2
    | text l _ => cases h2
    | comment l _ _ => cases h2
    | pi n l _ _ _ => cases h2
theorem past_of {o : List (List Nat)} {r : Bool} {k : Nat} {ts : List XTok} (h : DocT o r k ts) : ∀ p : Bool, pastGo (o.length : Nat) p (ts.map XTok.b) = p := by
  induction h with
  | done k => exact fun p => rfl
  | elem n a o r k ts h hr ho ha hn ih =>
    intro p
    have e : pastGo (o.length : Nat) p ((⟨2, n, a, []⟩ :: ts).map XTok.b) = pastGo ((o.length : Nat) + 1) (p || (decide (32 < ((o.length : Nat) : Int) + 1) || decide (64 < (a.map fun x => (T x.1, T x.2)).length))) (ts.map XTok.b) := rfl
    rw [e, List.length_map, decide_eq_false (by omega : ¬ 32 < ((o.length : Nat) : Int) + 1), decide_eq_false (by omega : ¬ 64 < a.length), Bool.or_false, Bool.or_false]
    have := ih p
    rw [List.length_append] at this
    exact this
  | fin n o r k ts h ho hn ih =>
    intro p
    have e : pastGo (o.length : Nat) p ((⟨7, n, [], []⟩ :: ts).map XTok.b) = pastGo ((o.length : Nat) - 1) p (ts.map XTok.b) := rfl
    have hol : ((o.length : Nat) : Int) - 1 = (o.dropLast.length : Nat) := by
      rw [List.length_dropLast]
      have : o ≠ [] := fun h0 => by rw [h0] at ho; cases ho
      have := List.length_pos_iff.2 this
      omega
    rw [e, hol]
    exact ih p
  | text l o r k ts h ho hk hn ih => exact fun p => ih p
  | comment l o r k ts h hn ih => exact fun p => ih p
  | pi n l o r k ts h hn ih => exact fun p => ih p
theorem DocOk.past {xs : List XTok} (h : DocOk xs) : pastD (xs.map XTok.b) = false := by
  unfold pastD
  have := past_of h.doc (decide (4096 < (xs.map XTok.b).length))
  rw [List.length_map, decide_eq_false (by have := h.len; omega)] at this
  rw [List.length_map, decide_eq_false (by have := h.len; omega)]
  exact this
theorem DocOk.write {xs : List XTok} (h : DocOk xs) : (writeR (xs.map XTok.b)).2 = 0 ∨ (writeR (xs.map XTok.b)).2 = 6 := by
  have hdoc : docB [] false 0 (xs.map XTok.b) = true := docB_of okB_of h.doc h.all
  unfold writeR
  rw [if_neg (by rw [hdoc]; decide)]
  split
  · exact .inr rfl
  · split
    · exact .inr rfl
    · exact .inl rfl
end Go.Proofs.YtjjggncbhenffaaGreatDoor
