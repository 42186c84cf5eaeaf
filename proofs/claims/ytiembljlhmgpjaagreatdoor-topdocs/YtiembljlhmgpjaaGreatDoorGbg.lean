/- Several texts, laid as one. -/
import Derived.Test.YtiembljlhmgpjaaGreatDoorGbf
import Derived.Test.YtiembljlhmgpjaaGreatDoorXmlDoc
/- Texts with other texts for some of their characters: the reference's Escape and Quote. -/
namespace Go.Proofs.YtiembljlhmgpjaaGreatDoor
open Go.RowKit
end Go.Proofs.YtiembljlhmgpjaaGreatDoor
/- Texts that are escaped, in plain terms: they are read as they were. -/
namespace Go.Proofs.YtiembljlhmgpjaaGreatDoor
def insN (c : Nat) : List Nat := if c = 38 then [38, 97, 109, 112, 59] else if c = 60 then [38, 108, 116, 59] else if c = 13 then [38, 35, 49, 51, 59] else []
def escN (c : Nat) : List Nat := if c = 62 then [38, 103, 116, 59] else insN c
def quoN (c : Nat) : List Nat := if c = 34 then [38, 113, 117, 111, 116, 59] else if c = 9 then [38, 35, 57, 59] else if c = 10 then [38, 35, 49, 48, 59] else insN c
def oneN (o : Nat → List Nat) (c : Nat) : List Nat := if o c = [] then [c] else o c
def mapN (o : Nat → List Nat) (l : List Nat) : List Nat := l.flatMap (oneN o)
/-- What other texts there are: references to their characters. -/
structure RefN (o : Nat → List Nat) : Prop where
  ref : ∀ c, o c ≠ [] → ∀ Z, ∃ nm, readRef (o c ++ Z) = some ⟨[c], nm, (o c).length⟩
  amp : ∀ c, o c ≠ [] → ∃ t, o c = 38 :: t
  has : o 38 ≠ [] ∧ o 60 ≠ []
  ok : ∀ c, okL (o c)
theorem okL_of {l : List Nat} (h : l.all (fun c => decide (32 ≤ c) && decide (c < 128)) = true) : okL l := fun c hc => by
  have := List.all_eq_true.1 h c hc
  simp at this
  simp [charR]
  omega
theorem ins_cases {P : Nat → List Nat → Prop} (h38 : P 38 [38, 97, 109, 112, 59]) (h60 : P 60 [38, 108, 116, 59]) (h13 : P 13 [38, 35, 49, 51, 59]) (h0 : ∀ c, c ≠ 38 → c ≠ 60 → c ≠ 13 → P c []) (c : Nat) : P c (insN c) := by
  unfold insN
  by_cases a : c = 38
  · subst a; exact h38
  · rw [if_neg a]
    by_cases b : c = 60
    · subst b; exact h60
    · rw [if_neg b]
      by_cases d : c = 13
      · subst d; exact h13
      · rw [if_neg d]; exact h0 c a b d
theorem esc_cases {P : Nat → List Nat → Prop} (h62 : P 62 [38, 103, 116, 59]) (h38 : P 38 [38, 97, 109, 112, 59]) (h60 : P 60 [38, 108, 116, 59]) (h13 : P 13 [38, 35, 49, 51, 59]) (h0 : ∀ c, P c []) (c : Nat) : P c (escN c) := by
  unfold escN
  by_cases a : c = 62
  · subst a; exact h62
  · rw [if_neg a]; exact ins_cases h38 h60 h13 (fun c _ _ _ => h0 c) c
theorem quo_cases {P : Nat → List Nat → Prop} (h34 : P 34 [38, 113, 117, 111, 116, 59]) (h9 : P 9 [38, 35, 57, 59]) (h10 : P 10 [38, 35, 49, 48, 59]) (h38 : P 38 [38, 97, 109, 112, 59]) (h60 : P 60 [38, 108, 116, 59]) (h13 : P 13 [38, 35, 49, 51, 59]) (h0 : ∀ c, P c []) (c : Nat) : P c (quoN c) := by
  unfold quoN
  by_cases a : c = 34
  · subst a; exact h34
  · rw [if_neg a]
    by_cases b : c = 9
    · subst b; exact h9
    · rw [if_neg b]
      by_cases d : c = 10
      · subst d; exact h10
      · rw [if_neg d]; exact ins_cases h38 h60 h13 (fun c _ _ _ => h0 c) c
theorem esc_ref : RefN escN := by
  refine ⟨?_, ?_, ⟨by decide, by decide⟩, ?_⟩
  · exact esc_cases (P := fun c o => o ≠ [] → ∀ Z, ∃ nm, readRef (o ++ Z) = some ⟨[c], nm, o.length⟩) (fun _ Z => ⟨_, rfl⟩) (fun _ Z => ⟨_, rfl⟩) (fun _ Z => ⟨_, rfl⟩) (fun _ Z => ⟨_, rfl⟩) (fun c h => absurd rfl h)
  · exact esc_cases (P := fun _ o => o ≠ [] → ∃ t, o = 38 :: t) (fun _ => ⟨_, rfl⟩) (fun _ => ⟨_, rfl⟩) (fun _ => ⟨_, rfl⟩) (fun _ => ⟨_, rfl⟩) (fun c h => absurd rfl h)
  · exact esc_cases (P := fun _ o => okL o) (okL_of (by decide)) (okL_of (by decide)) (okL_of (by decide)) (okL_of (by decide)) (fun c x h => by cases h)
theorem quo_ref : RefN quoN := by
  refine ⟨?_, ?_, ⟨by decide, by decide⟩, ?_⟩
  · exact quo_cases (P := fun c o => o ≠ [] → ∀ Z, ∃ nm, readRef (o ++ Z) = some ⟨[c], nm, o.length⟩) (fun _ Z => ⟨_, rfl⟩) (fun _ Z => ⟨_, rfl⟩) (fun _ Z => ⟨_, rfl⟩) (fun _ Z => ⟨_, rfl⟩) (fun _ Z => ⟨_, rfl⟩) (fun _ Z => ⟨_, rfl⟩) (fun c h => absurd rfl h)
  · exact quo_cases (P := fun _ o => o ≠ [] → ∃ t, o = 38 :: t) (fun _ => ⟨_, rfl⟩) (fun _ => ⟨_, rfl⟩) (fun _ => ⟨_, rfl⟩) (fun _ => ⟨_, rfl⟩) (fun _ => ⟨_, rfl⟩) (fun _ => ⟨_, rfl⟩) (fun c h => absurd rfl h)
  · exact quo_cases (P := fun _ o => okL o) (okL_of (by decide)) (okL_of (by decide)) (okL_of (by decide)) (okL_of (by decide)) (okL_of (by decide)) (okL_of (by decide)) (fun c x h => by cases h)
theorem mapN_app (o : Nat → List Nat) (a b : List Nat) : mapN o (a ++ b) = mapN o a ++ mapN o b := by unfold mapN; rw [List.flatMap_append]
theorem mapN_cons (o : Nat → List Nat) (c : Nat) (t : List Nat) : mapN o (c :: t) = oneN o c ++ mapN o t := rfl
theorem mapN_same (o : Nat → List Nat) : ∀ (l : List Nat), (∀ c ∈ l, o c = []) → mapN o l = l
  | [], _ => rfl
  | c :: l, h => by
    rw [mapN_cons, mapN_same o l (fun x hx => h x (List.mem_cons_of_mem _ hx))]
    unfold oneN
    rw [if_pos (h c (List.mem_cons_self ..))]
    rfl
/-- A text is characters that stay, and behind them nothing, or one that does not. -/
theorem split_at (o : Nat → List Nat) : ∀ (l : List Nat), ∃ p t, l = p ++ t ∧ (∀ c ∈ p, o c = []) ∧ (t = [] ∨ ∃ c u, t = c :: u ∧ o c ≠ [])
  | [] => ⟨[], [], rfl, (fun _ h => by cases h), .inl rfl⟩
  | c :: l => by
    by_cases h : o c = []
    · obtain ⟨p, t, h1, h2, h3⟩ := split_at o l
      refine ⟨c :: p, t, by rw [h1]; rfl, fun x hx => ?_, h3⟩
      rcases List.mem_cons.1 hx with rfl | hx
      · exact h
      · exact h2 x hx
    · exact ⟨[], c :: l, rfl, (fun _ h => by cases h), .inr ⟨c, l, rfl, h⟩⟩
theorem addX_said (ents : List (List Nat × List Nat)) (flat : Bool) (spent : Nat) (c : Nat) (nm : List Nat) (n : Nat) : addX ents flat 10 [] spent ⟨[c], nm, n⟩ = .ok ([c], spent) := rfl
/-- A reference that stands there. -/
theorem ref_at {o : Nat → List Nat} (ho : RefN o) (flat : Bool) {c : Nat} (hc : o c ≠ []) (P Z : List Nat) (ents : List (List Nat × List Nat)) (sp : Nat) (opn : List (List Nat)) (toks : List XTok) (run : List Nat) (n : Nat) :
    (⟨P, o c ++ Z, ents, sp, opn, toks, run, n⟩ : RS).reference flat = .ok ([c], ⟨P ++ o c, Z, ents, sp, opn, toks, run, n⟩) := by
  obtain ⟨nm, h⟩ := ho.ref c hc Z
  unfold RS.reference
  simp only
  rw [h]
  simp only [addX_said]
  unfold RS.adv
  simp only [List.take_left, List.drop_left]
/-- An attribute's text. -/
theorem value_quoted (tag : Nat) (R : List Nat) (ents : List (List Nat × List Nat)) (sp : Nat) (opn : List (List Nat)) (toks : List XTok) (run : List Nat) (n : Nat) : ∀ (k : Nat) (l : List Nat), l.length = k → ∀ (f : Nat) (P text : List Nat), (mapN quoN l).length < f →
    ∃ P', RS.valueGo 34 tag f ⟨P, mapN quoN l ++ 34 :: R, ents, sp, opn, toks, run, n⟩ text = .ok (text ++ l, ⟨P', R, ents, sp, opn, toks, run, n⟩) := by
  intro k
  induction k using Nat.strongRecOn with
  | _ k ih =>
    intro l hl f P text hf
    obtain ⟨p, t, rfl, hp, ht⟩ := split_at quoN l
    obtain ⟨g, rfl⟩ : ∃ g, f = g + 1 := ⟨f - 1, by omega⟩
    have hpq : ∀ c ∈ p, plainC 34 c = true ∧ spaceC c = c := fun c hc => by
      have h := hp c hc
      unfold quoN insN at h
      have h1 : c ≠ 34 := fun e => by rw [e] at h; simp at h
      have h2 : c ≠ 38 := fun e => by rw [e] at h; simp at h
      have h3 : c ≠ 60 := fun e => by rw [e] at h; simp at h
      have h4 : c ≠ 9 := fun e => by rw [e] at h; simp at h
      have h5 : c ≠ 10 := fun e => by rw [e] at h; simp at h
      have h6 : c ≠ 13 := fun e => by rw [e] at h; simp at h
      refine ⟨by simp [plainC, h1, h2, h3], ?_⟩
      unfold spaceC
      split
      · rename_i hb
        unfold blankC at hb
        simp at hb
        omega
      · rfl
    have hmap : p.map spaceC = p := by
      conv => rhs; rw [← List.map_id p]
      exact List.map_congr_left fun c hc => (hpq c hc).2
    have htw : ∀ Z, (∀ c, Z.head? = some c → plainC 34 c = false) → (p ++ Z).takeWhile (plainC 34) = p := fun Z hZ => takeWhile_run (plainC 34) p Z (fun c hc => (hpq c hc).1) hZ
    rcases ht with rfl | ⟨c, u, rfl, hc⟩
    · rw [mapN_app, mapN_same quoN p hp, List.append_assoc]
      rw [show mapN quoN [] ++ 34 :: R = 34 :: R from rfl]
      unfold RS.valueGo
      simp only
      rw [htw (34 :: R) (fun c h => by cases h; rfl)]
      unfold RS.adv
      simp only [List.take_left, List.drop_left]
      rw [if_pos (show heads 34 (34 :: R) = true from rfl), hmap, List.append_nil]
      exact ⟨_, rfl⟩
    · obtain ⟨o', ho'⟩ := quo_ref.amp c hc
      have hone : oneN quoN c = quoN c := by unfold oneN; rw [if_neg hc]
      have hlen : (mapN quoN (p ++ c :: u)).length = p.length + ((quoN c).length + (mapN quoN u).length) := by rw [mapN_app, mapN_same quoN p hp, mapN_cons, hone, List.length_append, List.length_append]
      rw [mapN_app, mapN_same quoN p hp, List.append_assoc, mapN_cons, hone, List.append_assoc]
      have hq1 : 1 ≤ (quoN c).length := by rw [ho']; simp
      obtain ⟨P', h'⟩ := ih u.length (by simp at hl; omega) u rfl g (P ++ p ++ quoN c) (text ++ p ++ [c]) (by
        omega)
      refine ⟨P', ?_⟩
      unfold RS.valueGo
      simp only
      rw [htw (quoN c ++ (mapN quoN u ++ 34 :: R)) (fun x h => by rw [ho'] at h; cases h; rfl)]
      have ea : (⟨P, p ++ (quoN c ++ (mapN quoN u ++ 34 :: R)), ents, sp, opn, toks, run, n⟩ : RS).adv p.length = ⟨P ++ p, quoN c ++ (mapN quoN u ++ 34 :: R), ents, sp, opn, toks, run, n⟩ := by
        unfold RS.adv
        simp only [List.take_left, List.drop_left]
      rw [ea]
      simp only
      rw [if_neg (show ¬ heads 34 (quoN c ++ (mapN quoN u ++ 34 :: R)) = true by rw [ho']; intro h; cases h), if_pos (show heads 38 (quoN c ++ (mapN quoN u ++ 34 :: R)) = true by rw [ho']; rfl), ref_at quo_ref true hc]
      simp only [hmap]
      rw [h', List.append_assoc, List.append_assoc]
      simp
theorem cut_one_at (q : Nat) : ∀ (x r : List Nat), q ∉ x → cutL [q] (x ++ q :: r) = some (x, r)
  | [], r, _ => by
    show cutL [q] (q :: r) = _
    rw [cutL, if_pos (by simp [List.isPrefixOf])]
    rfl
  | c :: x, r, h => by
    have ih := cut_one_at q x r (fun hh => h (List.mem_cons_of_mem _ hh))
    show cutL [q] (c :: (x ++ q :: r)) = _
    rw [cutL, ih, if_neg (by
      simp only [List.isPrefixOf, Bool.and_true, beq_iff_eq]
      intro e
      exact h (by rw [e]; exact List.mem_cons_self ..))]
    rfl
theorem cutL_none (a : List Nat) (q : Nat) (hq : q ∈ a) : ∀ (x : List Nat), q ∉ x → cutL a x = none
  | [], _ => rfl
  | c :: x, h => by
    rw [cutL, cutL_none a q hq x (fun hh => h (List.mem_cons_of_mem _ hh)), if_neg]
    · rfl
    · intro hp
      exact h ((List.isPrefixOf_iff_prefix.1 hp).subset hq)
theorem ahead_at (q : Nat) (x r : List Nat) (h : q ∉ x) : ahead [q] (x ++ q :: r) = x := by unfold ahead; rw [cut_one_at q x r h]
theorem ahead_all (a : List Nat) (q : Nat) (hq : q ∈ a) (x : List Nat) (h : q ∉ x) : ahead a x = x := by unfold ahead; rw [cutL_none a q hq x h]
theorem esc_not (q : Nat) (hq : q = 60 ∨ q = 62) (l : List Nat) : q ∉ mapN escN l := by
  intro h
  obtain ⟨c, _, hc⟩ := List.mem_flatMap.1 h
  unfold oneN at hc
  split at hc
  · rename_i h0
    obtain rfl := List.mem_singleton.1 hc
    rcases hq with rfl | rfl
    · exact esc_ref.has.2 h0
    · cases h0
  · revert hc
    refine esc_cases (P := fun _ o => q ∈ o → False) ?_ ?_ ?_ ?_ ?_ c
    all_goals (intro hc; rcases hq with rfl | rfl <;> revert hc <;> simp)
theorem one_ref {s : RS} {t : List Nat} (h : s.rest = 38 :: t) : s.contentOne = s.refRun := by
  unfold RS.contentOne RS.sees
  rw [h]
  simp [List.isPrefixOf]
theorem one_plain {s : RS} {d : Nat} {t : List Nat} (h : s.rest = d :: t) (h1 : d ≠ 60) (h2 : d ≠ 38) (h3 : s.sees [93, 93, 62] = false) : s.contentOne = s.plain := by
  unfold RS.contentOne
  rw [h3]
  unfold RS.sees
  rw [h]
  simp [List.isPrefixOf, Ne.symm h1, Ne.symm h2]
theorem content_step {s s1 : RS} (h : s.opn ≠ []) (h1 : s.contentOne = .ok s1) (f : Nat) : RS.content (f + 1) s = RS.content f s1 := by
  rw [RS.content, if_neg h, h1]
theorem content_escaped (R : List Nat) (ents : List (List Nat × List Nat)) (sp : Nat) (opn : List (List Nat)) (toks : List XTok) (n : Nat) (ho : opn ≠ []) (ht : toks.length < 4096) : ∀ (k : Nat) (l : List Nat), l.length = k → ∀ (P run : List Nat),
    ∃ j P', j ≤ (mapN escN l).length ∧ ∀ f, RS.content (f + j) ⟨P, mapN escN l ++ 60 :: R, ents, sp, opn, toks, run, n⟩ = RS.content f ⟨P', 60 :: R, ents, sp, opn, toks, run ++ l, n⟩ := by
  intro k
  induction k using Nat.strongRecOn with
  | _ k ih =>
    intro l hl P run
    have hroom : ∀ s : RS, s.toks = toks → s.room = .ok s := fun s hs => by
      unfold RS.room
      rw [hs, if_neg (by omega)]
    obtain ⟨p, t, rfl, hp, hq⟩ := split_at escN l
    have hmap : mapN escN (p ++ t) = p ++ mapN escN t := by rw [mapN_app, mapN_same escN p hp]
    cases hpp : p with
    | nil =>
      subst hpp
      rcases hq with rfl | ⟨c, u, rfl, hc⟩
      · exact ⟨0, P, Nat.zero_le _, fun f => by rw [List.append_nil, List.append_nil]; rfl⟩
      · obtain ⟨o', ho'⟩ := esc_ref.amp c hc
        have hone : oneN escN c = escN c := by unfold oneN; rw [if_neg hc]
        have hm : mapN escN (c :: u) = escN c ++ mapN escN u := by rw [mapN_cons, hone]
        obtain ⟨j, P', hj, h'⟩ := ih u.length (by simp at hl; omega) u rfl (P ++ escN c) (run ++ [c])
        refine ⟨j + 1, P', ?_, fun f => ?_⟩
        · rw [List.nil_append, hm, List.length_append, ho', List.length_cons]
          omega
        · rw [List.nil_append, hm, List.append_assoc, ← Nat.add_assoc]
          rw [content_step (s1 := ⟨P ++ escN c, mapN escN u ++ 60 :: R, ents, sp, opn, toks, run ++ [c], n⟩) ho ?_ (f + j), h' f, List.append_assoc]
          · rfl
          · rw [one_ref (t := o' ++ (mapN escN u ++ 60 :: R)) (by rw [ho']; rfl)]
            unfold RS.refRun
            rw [ref_at esc_ref false hc]
            exact hroom _ rfl
    | cons d p' =>
      have hd := hp d (by rw [hpp]; exact List.mem_cons_self ..)
      have hd1 : d ≠ 60 := fun e => by rw [e] at hd; exact esc_ref.has.2 hd
      have hd2 : d ≠ 38 := fun e => by rw [e] at hd; exact esc_ref.has.1 hd
      have hpl : 1 ≤ p.length := by rw [hpp]; simp
      obtain ⟨j, P', hj, h'⟩ := ih t.length (by rw [List.length_append] at hl; omega) t rfl (P ++ p) (run ++ p)
      have h60 : 60 ∉ p ++ mapN escN t := by rw [← hmap]; exact esc_not 60 (.inl rfl) _
      have h62 : 62 ∉ p ++ mapN escN t := by rw [← hmap]; exact esc_not 62 (.inr rfl) _
      have h38 : 38 ∉ p := fun hh => esc_ref.has.1 (hp 38 hh)
      have hA : plainA (p ++ mapN escN t ++ 60 :: R) = p := by
        unfold plainA
        rw [ahead_at 60 _ R h60]
        have e38 : ahead [38] (p ++ mapN escN t) = p := by
          rcases hq with rfl | ⟨c, u, rfl, hc⟩
          · rw [show mapN escN [] = [] from rfl, List.append_nil]
            exact ahead_all [38] 38 (by simp) p h38
          · obtain ⟨o', ho'⟩ := esc_ref.amp c hc
            have hone : oneN escN c = escN c := by unfold oneN; rw [if_neg hc]
            rw [mapN_cons, hone, ho', List.cons_append]
            exact ahead_at 38 p _ h38
        rw [e38]
        exact ahead_all [93, 93, 62] 62 (by simp) p (fun hh => h62 (List.mem_append_left _ hh))
      have hsee : ∀ (pre : List Nat) (a : Nat), (⟨pre, p ++ mapN escN t ++ 60 :: R, ents, sp, opn, toks, run, a⟩ : RS).sees [93, 93, 62] = false := fun pre a => by
        unfold RS.sees
        simp only
        cases hh : [93, 93, 62].isPrefixOf (p ++ mapN escN t ++ 60 :: R)
        · rfl
        · exfalso
          obtain ⟨z, hz⟩ := List.isPrefixOf_iff_prefix.1 hh
          generalize p ++ mapN escN t = x at *
          match x, hz with
          | [], hz => cases hz
          | [_], hz => cases hz
          | [_, _], hz => cases hz
          | _ :: _ :: e :: x, hz =>
            cases hz
            exact h62 (by simp)
      refine ⟨j + 1, P', ?_, fun f => ?_⟩
      · rw [← hpp, hmap, List.length_append]
        omega
      · rw [← hpp, hmap, ← Nat.add_assoc]
        rw [content_step (s1 := ⟨P ++ p, mapN escN t ++ 60 :: R, ents, sp, opn, toks, run ++ p, n⟩) ho ?_ (f + j), h' f, List.append_assoc]
        rw [one_plain (d := d) (t := p' ++ mapN escN t ++ 60 :: R) (by rw [hpp]; rfl) hd1 hd2 (hsee _ _)]
        unfold RS.plain
        rw [hA]
        have ea : (⟨P, p ++ mapN escN t ++ 60 :: R, ents, sp, opn, toks, run, n⟩ : RS).adv p.length = ⟨P ++ p, mapN escN t ++ 60 :: R, ents, sp, opn, toks, run, n⟩ := by
          unfold RS.adv
          simp only [List.append_assoc, List.take_left, List.drop_left]
        simp only [ea]
        exact hroom _ rfl
end Go.Proofs.YtiembljlhmgpjaaGreatDoor
