/- Several texts, laid as one. -/
import Derived.Test.YtjjggncbhenffaaGreatDoorGbi
import Derived.Test.YtjjggncbhenffaaGreatDoorXmlDoc
/- Texts with other texts for some of their characters: the reference's Escape and Quote. -/
namespace Go.Proofs.YtjjggncbhenffaaGreatDoor
open Go.RowKit
theorem ba_app (a b : List UInt8) : (⟨a.toArray⟩ : ByteArray) ++ ⟨b.toArray⟩ = ⟨(a ++ b).toArray⟩ := by
  apply ByteArray.ext
  rw [ByteArray.data_append]
  simp
theorem ba_one (s : ByteArray) (i : Nat) (h : i < s.size) : s.extract i (i + 1) = ⟨#[s.get! i]⟩ := by
  apply ByteArray.ext
  apply Array.toList_inj.1
  rw [ByteArray.data_extract, Array.toList_extract, List.extract_eq_take_drop, show i + 1 - i = 1 by omega]
  have hg := get_at s i h
  have hl : i < s.data.toList.length := h
  rw [List.drop_eq_getElem_cons hl]
  rw [List.getElem?_eq_getElem hl] at hg
  rw [Option.some.inj hg]
  rfl
theorem map_step (o : Nat → List UInt8) (s : ByteArray) (i : Nat) (h : i < s.size) : mapO o (s.data.toList.take (i + 1)) = mapO o (s.data.toList.take i) ++ oneO o (s.get! i) := by
  rw [List.take_add_one, get_at s i h, mapO_app]
  congr 1
  show oneO o (s.get! i) ++ [] = _
  rw [List.append_nil]
set_option maxRecDepth 100000 in
set_option maxHeartbeats 4000000 in
theorem refQuote_any (s : ByteArray) (w : World) (hs : s.size ≤ 1048576) :
    Calls Tryz.prog 25 #[.string s] w fun e w' => e = .returned (.string ⟨(mapO quoO s.data.toList).toArray⟩) ∧ w' = w := by
  go_enter Tryz.func25, Tryz.ntmps25
  go_wp2_with fail
  go_loopg [3, 4] s.size (fun g v3 v4 wr => ∃ i : Nat, i + g = s.size ∧ v4 = .int .i64 (i : Nat) ∧ v3 = .string ⟨(mapO quoO (s.data.toList.take i)).toArray⟩ ∧ wr = w)
  case atStart => exact ⟨0, by omega, rfl, rfl, rfl⟩
  case round =>
    obtain ⟨i, hig, rfl, rfl, rfl⟩ := hrel
    have HML := hide (mapO_size quo_few s i)
    obtain ⟨O, hO⟩ : ∃ O : ByteArray, (⟨(mapO quoO (s.data.toList.take i)).toArray⟩ : ByteArray) = O := ⟨_, rfl⟩
    have hOs : O.size ≤ 6291456 := by
      have h1 := unhide HML
      have h2 : O.size = (mapO quoO (s.data.toList.take i)).length := by rw [← hO]; rfl
      omega
    have HO := hide hO
    cases gk with
    | zero =>
      obtain rfl : i = s.size := by omega
      have HE : Hid (O = ⟨(mapO quoO s.data.toList).toArray⟩) := hide (by rw [← hO, show s.data.toList.take s.size = s.data.toList from List.take_of_length_le (show s.data.toList.length ≤ s.size from Nat.le_refl _)])
      rw [hO]
      clear hO hig
      go_wp2
      go_ret
      rw [unhide HE]
      exact ⟨rfl, rfl⟩
    | succ g =>
      have hi : i < s.size := by omega
      have HG := hide hig
      have HST := hide (map_step quoO s i hi)
      have HB1 := hide (ba_one s i hi)
      obtain ⟨C, hC⟩ : ∃ C : Nat, (s.get! i).toNat = C := ⟨_, rfl⟩
      have hix : ∀ W, (Instr.index 9 (.string s) (.int .i64 (i : Int))).run Tryz.prog W = .ok (.int .u8 (C : Int)) W := fun W => by
        rw [run_index_string W 9 s .i64 _ Tryz.underlying9, dif_pos ⟨by omega, by omega⟩, ← hC]
        have e := get_at s i hi
        have e2 : s.data.toList[i]? = some (s[i]'hi) := Lib.data_getElem? s i hi
        rw [e2] at e
        rw [← Option.some.inj e]
        rfl
      have HC := hide hC
      have hw1 : wrap64 ((i : Int) + 1) = ((i + 1 : Nat) : Int) := by unfold wrap64; omega
      have hsl : (s.extract i (i + 1)).size = 1 := by rw [ByteArray.size_extract]; omega
      rw [hO]
      clear hO hC hig
      by_cases h38 : C = 38
      · subst h38
        go_wp2_with fail
        go_roundg g
        case measure => omega
        case rel =>
          refine ⟨i + 1, by have := unhide HG; omega, by first | rfl | simp, ?_, rfl⟩
          rw [unhide HST, ← ba_app, unhide HO]
          unfold oneO
          rw [unhide HC]
          rfl
      · have e38 : ((C : Int) == 38) = false := by simp; omega
        by_cases h60 : C = 60
        · subst h60
          go_wp2_with fail
          go_roundg g
          case measure => omega
          case rel =>
            refine ⟨i + 1, by have := unhide HG; omega, by first | rfl | simp, ?_, rfl⟩
            rw [unhide HST, ← ba_app, unhide HO]
            unfold oneO
            rw [unhide HC]
            rfl
        · have e60 : ((C : Int) == 60) = false := by simp; omega
          by_cases h34 : C = 34
          · subst h34
            go_wp2_with fail
            go_roundg g
            case measure => omega
            case rel =>
              refine ⟨i + 1, by have := unhide HG; omega, by first | rfl | simp, ?_, rfl⟩
              rw [unhide HST, ← ba_app, unhide HO]
              unfold oneO
              rw [unhide HC]
              rfl
          · have e34 : ((C : Int) == 34) = false := by simp; omega
            by_cases h9 : C = 9
            · subst h9
              go_wp2_with fail
              go_roundg g
              case measure => omega
              case rel =>
                refine ⟨i + 1, by have := unhide HG; omega, by first | rfl | simp, ?_, rfl⟩
                rw [unhide HST, ← ba_app, unhide HO]
                unfold oneO
                rw [unhide HC]
                rfl
            · have e9 : ((C : Int) == 9) = false := by simp; omega
              by_cases h10 : C = 10
              · subst h10
                go_wp2_with fail
                go_roundg g
                case measure => omega
                case rel =>
                  refine ⟨i + 1, by have := unhide HG; omega, by first | rfl | simp, ?_, rfl⟩
                  rw [unhide HST, ← ba_app, unhide HO]
                  unfold oneO
                  rw [unhide HC]
                  rfl
              · have e10 : ((C : Int) == 10) = false := by simp; omega
                by_cases h13 : C = 13
                · subst h13
                  go_wp2_with fail
                  go_roundg g
                  case measure => omega
                  case rel =>
                    refine ⟨i + 1, by have := unhide HG; omega, by first | rfl | simp, ?_, rfl⟩
                    rw [unhide HST, ← ba_app, unhide HO]
                    unfold oneO
                    rw [unhide HC]
                    rfl
                · have e13 : ((C : Int) == 13) = false := by simp; omega
                  have HN : Hid (quoO C = []) := hide (by unfold quoO insO; simp [h38, h60, h34, h9, h10, h13])
                  clear h38 h60 h34 h9 h10 h13
                  go_wp2_with fail
                  go_roundg g
                  case measure => omega
                  case rel =>
                    refine ⟨i + 1, by have := unhide HG; omega, by first | rfl | simp, ?_, rfl⟩
                    rw [unhide HST, ← ba_app, unhide HO]
                    unfold oneO
                    rw [unhide HC]
                    rw [unhide HN, if_pos rfl, unhide HB1]
end Go.Proofs.YtjjggncbhenffaaGreatDoor
/- Texts that are escaped, in plain terms: they are read as they were. -/
namespace Go.Proofs.YtjjggncbhenffaaGreatDoor
def insN (c : Nat) : List Nat := if c = 38 then [38, 97, 109, 112, 59] else if c = 60 then [38, 108, 116, 59] else if c = 13 then [38, 35, 49, 51, 59] else []
def escN (c : Nat) : List Nat := if c = 62 then [38, 103, 116, 59] else insN c
def quoN (c : Nat) : List Nat := if c = 34 then [38, 113, 117, 111, 116, 59] else if c = 9 then [38, 35, 57, 59] else if c = 10 then [38, 35, 49, 48, 59] else insN c
def oneN (o : Nat → List Nat) (c : Nat) : List Nat := if o c = [] then [c] else o c
def mapN (o : Nat → List Nat) (l : List Nat) : List Nat := l.flatMap (oneN o)
/-- What other texts there are: references to their characters. -/
structure RefN (o : Nat → List Nat) : Prop where
  ref : ∀ c, o c ≠ [] → ∀ Z, ∃ nm, readRef (o c ++ Z) = some ⟨[c], nm, (o c).length⟩
  amp : ∀ c, o c ≠ [] → ∃ t, o c = 38 :: t
  has : o 38 ≠ [] ∧ o 60 ≠ []
  ok : ∀ c, okL (o c)
theorem okL_of {l : List Nat} (h : l.all (fun c => decide (32 ≤ c) && decide (c < 128)) = true) : okL l := fun c hc => by
  have := List.all_eq_true.1 h c hc
  simp at this
  simp [charR]
  omega
theorem ins_cases {P : Nat → List Nat → Prop} (h38 : P 38 [38, 97, 109, 112, 59]) (h60 : P 60 [38, 108, 116, 59]) (h13 : P 13 [38, 35, 49, 51, 59]) (h0 : ∀ c, c ≠ 38 → c ≠ 60 → c ≠ 13 → P c []) (c : Nat) : P c (insN c) := by
  unfold insN
  by_cases a : c = 38
  · subst a; exact h38
  · rw [if_neg a]
    by_cases b : c = 60
    · subst b; exact h60
    · rw [if_neg b]
      by_cases d : c = 13
      · subst d; exact h13
      · rw [if_neg d]; exact h0 c a b d
theorem esc_cases {P : Nat → List Nat → Prop} (h62 : P 62 [38, 103, 116, 59]) (h38 : P 38 [38, 97, 109, 112, 59]) (h60 : P 60 [38, 108, 116, 59]) (h13 : P 13 [38, 35, 49, 51, 59]) (h0 : ∀ c, P c []) (c : Nat) : P c (escN c) := by
  unfold escN
  by_cases a : c = 62
  · subst a; exact h62
  · rw [if_neg a]; exact ins_cases h38 h60 h13 (fun c _ _ _ => h0 c) c
theorem quo_cases {P : Nat → List Nat → Prop} (h34 : P 34 [38, 113, 117, 111, 116, 59]) (h9 : P 9 [38, 35, 57, 59]) (h10 : P 10 [38, 35, 49, 48, 59]) (h38 : P 38 [38, 97, 109, 112, 59]) (h60 : P 60 [38, 108, 116, 59]) (h13 : P 13 [38, 35, 49, 51, 59]) (h0 : ∀ c, P c []) (c : Nat) : P c (quoN c) := by
  unfold quoN
  by_cases a : c = 34
  · subst a; exact h34
  · rw [if_neg a]
    by_cases b : c = 9
    · subst b; exact h9
    · rw [if_neg b]
      by_cases d : c = 10
      · subst d; exact h10
      · rw [if_neg d]; exact ins_cases h38 h60 h13 (fun c _ _ _ => h0 c) c
theorem esc_ref : RefN escN := by
  refine ⟨?_, ?_, ⟨by decide, by decide⟩, ?_⟩
  · exact esc_cases (P := fun c o => o ≠ [] → ∀ Z, ∃ nm, readRef (o ++ Z) = some ⟨[c], nm, o.length⟩) (fun _ Z => ⟨_, rfl⟩) (fun _ Z => ⟨_, rfl⟩) (fun _ Z => ⟨_, rfl⟩) (fun _ Z => ⟨_, rfl⟩) (fun c h => absurd rfl h)
  · exact esc_cases (P := fun _ o => o ≠ [] → ∃ t, o = 38 :: t) (fun _ => ⟨_, rfl⟩) (fun _ => ⟨_, rfl⟩) (fun _ => ⟨_, rfl⟩) (fun _ => ⟨_, rfl⟩) (fun c h => absurd rfl h)
  · exact esc_cases (P := fun _ o => okL o) (okL_of (by decide)) (okL_of (by decide)) (okL_of (by decide)) (okL_of (by decide)) (fun c x h => by cases h)
theorem quo_ref : RefN quoN := by
  refine ⟨?_, ?_, ⟨by decide, by decide⟩, ?_⟩
  · exact quo_cases (P := fun c o => o ≠ [] → ∀ Z, ∃ nm, readRef (o ++ Z) = some ⟨[c], nm, o.length⟩) (fun _ Z => ⟨_, rfl⟩) (fun _ Z => ⟨_, rfl⟩) (fun _ Z => ⟨_, rfl⟩) (fun _ Z => ⟨_, rfl⟩) (fun _ Z => ⟨_, rfl⟩) (fun _ Z => ⟨_, rfl⟩) (fun c h => absurd rfl h)
  · exact quo_cases (P := fun _ o => o ≠ [] → ∃ t, o = 38 :: t) (fun _ => ⟨_, rfl⟩) (fun _ => ⟨_, rfl⟩) (fun _ => ⟨_, rfl⟩) (fun _ => ⟨_, rfl⟩) (fun _ => ⟨_, rfl⟩) (fun _ => ⟨_, rfl⟩) (fun c h => absurd rfl h)
  · exact quo_cases (P := fun _ o => okL o) (okL_of (by decide)) (okL_of (by decide)) (okL_of (by decide)) (okL_of (by decide)) (okL_of (by decide)) (okL_of (by decide)) (fun c x h => by cases h)
theorem mapN_app (o : Nat → List Nat) (a b : List Nat) : mapN o (a ++ b) = mapN o a ++ mapN o b := by unfold mapN; rw [List.flatMap_append]
theorem mapN_cons (o : Nat → List Nat) (c : Nat) (t : List Nat) : mapN o (c :: t) = oneN o c ++ mapN o t := rfl
theorem mapN_same (o : Nat → List Nat) : ∀ (l : List Nat), (∀ c ∈ l, o c = []) → mapN o l = l
  | [], _ => rfl
  | c :: l, h => by
    rw [mapN_cons, mapN_same o l (fun x hx => h x (List.mem_cons_of_mem _ hx))]
    unfold oneN
    rw [if_pos (h c (List.mem_cons_self ..))]
    rfl
/-- A text is characters that stay, and behind them nothing, or one that does not. -/
theorem split_at (o : Nat → List Nat) : ∀ (l : List Nat), ∃ p t, l = p ++ t ∧ (∀ c ∈ p, o c = []) ∧ (t = [] ∨ ∃ c u, t = c :: u ∧ o c ≠ [])
  | [] => ⟨[], [], rfl, (fun _ h => by cases h), .inl rfl⟩
  | c :: l => by
    by_cases h : o c = []
    · obtain ⟨p, t, h1, h2, h3⟩ := split_at o l
      refine ⟨c :: p, t, by rw [h1]; rfl, fun x hx => ?_, h3⟩
      rcases List.mem_cons.1 hx with rfl | hx
      · exact h
      · exact h2 x hx
    · exact ⟨[], c :: l, rfl, (fun _ h => by cases h), .inr ⟨c, l, rfl, h⟩⟩
theorem addX_said (ents : List (List Nat × List Nat)) (flat : Bool) (spent : Nat) (c : Nat) (nm : List Nat) (n : Nat) : addX ents flat 10 [] spent ⟨[c], nm, n⟩ = .ok ([c], spent) := rfl
/-- A reference that stands there. -/
theorem ref_at {o : Nat → List Nat} (ho : RefN o) (flat : Bool) {c : Nat} (hc : o c ≠ []) (P Z : List Nat) (ents : List (List Nat × List Nat)) (sp : Nat) (opn : List (List Nat)) (toks : List XTok) (run : List Nat) (n : Nat) :
    (⟨P, o c ++ Z, ents, sp, opn, toks, run, n⟩ : RS).reference flat = .ok ([c], ⟨P ++ o c, Z, ents, sp, opn, toks, run, n⟩) := by
  obtain ⟨nm, h⟩ := ho.ref c hc Z
  unfold RS.reference
  simp only
  rw [h]
  simp only [addX_said]
  unfold RS.adv
  simp only [List.take_left, List.drop_left]
/-- An attribute's text. -/
theorem value_quoted (tag : Nat) (R : List Nat) (ents : List (List Nat × List Nat)) (sp : Nat) (opn : List (List Nat)) (toks : List XTok) (run : List Nat) (n : Nat) : ∀ (k : Nat) (l : List Nat), l.length = k → ∀ (f : Nat) (P text : List Nat), (mapN quoN l).length < f →
    ∃ P', RS.valueGo 34 tag f ⟨P, mapN quoN l ++ 34 :: R, ents, sp, opn, toks, run, n⟩ text = .ok (text ++ l, ⟨P', R, ents, sp, opn, toks, run, n⟩) := by
  intro k
  induction k using Nat.strongRecOn with
  | _ k ih =>
    intro l hl f P text hf
    obtain ⟨p, t, rfl, hp, ht⟩ := split_at quoN l
    obtain ⟨g, rfl⟩ : ∃ g, f = g + 1 := ⟨f - 1, by omega⟩
    have hpq : ∀ c ∈ p, plainC 34 c = true ∧ spaceC c = c := fun c hc => by
      have h := hp c hc
      unfold quoN insN at h
      have h1 : c ≠ 34 := fun e => by rw [e] at h; simp at h
      have h2 : c ≠ 38 := fun e => by rw [e] at h; simp at h
      have h3 : c ≠ 60 := fun e => by rw [e] at h; simp at h
      have h4 : c ≠ 9 := fun e => by rw [e] at h; simp at h
      have h5 : c ≠ 10 := fun e => by rw [e] at h; simp at h
      have h6 : c ≠ 13 := fun e => by rw [e] at h; simp at h
      refine ⟨by simp [plainC, h1, h2, h3], ?_⟩
      unfold spaceC
      split
      · rename_i hb
        unfold blankC at hb
        simp at hb
        omega
      · rfl
    have hmap : p.map spaceC = p := by
      conv => rhs; rw [← List.map_id p]
      exact List.map_congr_left fun c hc => (hpq c hc).2
    have htw : ∀ Z, (∀ c, Z.head? = some c → plainC 34 c = false) → (p ++ Z).takeWhile (plainC 34) = p := fun Z hZ => takeWhile_run (plainC 34) p Z (fun c hc => (hpq c hc).1) hZ
    rcases ht with rfl | ⟨c, u, rfl, hc⟩
    · rw [mapN_app, mapN_same quoN p hp, List.append_assoc]
      rw [show mapN quoN [] ++ 34 :: R = 34 :: R from rfl]
      unfold RS.valueGo
      simp only
      rw [htw (34 :: R) (fun c h => by cases h; rfl)]
      unfold RS.adv
      simp only [List.take_left, List.drop_left]
      rw [if_pos (show heads 34 (34 :: R) = true from rfl), hmap, List.append_nil]
      exact ⟨_, rfl⟩
    · obtain ⟨o', ho'⟩ := quo_ref.amp c hc
      have hone : oneN quoN c = quoN c := by unfold oneN; rw [if_neg hc]
      have hlen : (mapN quoN (p ++ c :: u)).length = p.length + ((quoN c).length + (mapN quoN u).length) := by rw [mapN_app, mapN_same quoN p hp, mapN_cons, hone, List.length_append, List.length_append]
      rw [mapN_app, mapN_same quoN p hp, List.append_assoc, mapN_cons, hone, List.append_assoc]
      have hq1 : 1 ≤ (quoN c).length := by rw [ho']; simp
      obtain ⟨P', h'⟩ := ih u.length (by simp at hl; omega) u rfl g (P ++ p ++ quoN c) (text ++ p ++ [c]) (by
        omega)
      refine ⟨P', ?_⟩
      unfold RS.valueGo
      simp only
      rw [htw (quoN c ++ (mapN quoN u ++ 34 :: R)) (fun x h => by rw [ho'] at h; cases h; rfl)]
      have ea : (⟨P, p ++ (quoN c ++ (mapN quoN u ++ 34 :: R)), ents, sp, opn, toks, run, n⟩ : RS).adv p.length = ⟨P ++ p, quoN c ++ (mapN quoN u ++ 34 :: R), ents, sp, opn, toks, run, n⟩ := by
        unfold RS.adv
        simp only [List.take_left, List.drop_left]
      rw [ea]
      simp only
      rw [if_neg (show ¬ heads 34 (quoN c ++ (mapN quoN u ++ 34 :: R)) = true by rw [ho']; intro h; cases h), if_pos (show heads 38 (quoN c ++ (mapN quoN u ++ 34 :: R)) = true by rw [ho']; rfl), ref_at quo_ref true hc]
      simp only [hmap]
      rw [h', List.append_assoc, List.append_assoc]
      simp
end Go.Proofs.YtjjggncbhenffaaGreatDoor
/- Tokens as a text, in plain terms: what is written is scanned as it was. -/
namespace Go.Proofs.YtjjggncbhenffaaGreatDoor
def attrL (x : List Nat × List Nat) : List Nat := 32 :: (x.1 ++ 61 :: 34 :: (mapN quoN x.2 ++ [34]))
def tokL (t : XTok) : List Nat :=
  if t.kind = 2 then 60 :: (t.name ++ (t.attrs.flatMap attrL ++ [62])) else
  if t.kind = 7 then 60 :: 47 :: (t.name ++ [62]) else
  if t.kind = 4 then mapN escN t.text else
  if t.kind = 5 then 60 :: 33 :: 45 :: 45 :: (t.text ++ [45, 45, 62]) else
  if t.kind = 6 then 60 :: 63 :: (t.name ++ ((if t.text = [] then [] else 32 :: t.text) ++ [63, 62])) else []
def writeX (ts : List XTok) : List Nat := ts.flatMap tokL
/-- A token that may stand in some document. -/
inductive OkTok : XTok → Prop
  | elem (n : List Nat) (a : List (List Nat × List Nat)) (h : isQ n = true) (ha : ∀ x ∈ a, isQ x.1 = true) (hd : (a.map (·.1)).Nodup) : OkTok ⟨2, n, a, []⟩
  | fin (n : List Nat) (h : isQ n = true) : OkTok ⟨7, n, [], []⟩
  | text (l : List Nat) (h : l ≠ []) : OkTok ⟨4, [], [], l⟩
  | comment (l : List Nat) (h : cutL [45, 45] l = none) (h' : l.getLast? ≠ some 45) : OkTok ⟨5, [], [], l⟩
  | pi (n l : List Nat) (h : isTarget n = true) (hc : cutL [63, 62] l = none) (hb : ∀ c, l.head? = some c → blankC c = false) : OkTok ⟨6, n, [], l⟩
/-- Tokens that end a document: what is open, whether there was an element, the last token's kind, the tokens. -/
inductive DocT : List (List Nat) → Bool → Nat → List XTok → Prop
  | done (k : Nat) : DocT [] true k []
  | elem (n : List Nat) (a : List (List Nat × List Nat)) (o : List (List Nat)) (r : Bool) (k : Nat) (ts : List XTok) (h : OkTok ⟨2, n, a, []⟩) (hr : o = [] → r = false) (ho : o.length < 32) (ha : a.length ≤ 64) (hn : DocT (o ++ [n]) true 2 ts) : DocT o r k (⟨2, n, a, []⟩ :: ts)
  | fin (n : List Nat) (o : List (List Nat)) (r : Bool) (k : Nat) (ts : List XTok) (h : OkTok ⟨7, n, [], []⟩) (ho : o.getLast? = some n) (hn : DocT o.dropLast r 7 ts) : DocT o r k (⟨7, n, [], []⟩ :: ts)
  | text (l : List Nat) (o : List (List Nat)) (r : Bool) (k : Nat) (ts : List XTok) (h : OkTok ⟨4, [], [], l⟩) (ho : o ≠ []) (hk : k ≠ 4) (hn : DocT o r 4 ts) : DocT o r k (⟨4, [], [], l⟩ :: ts)
  | comment (l : List Nat) (o : List (List Nat)) (r : Bool) (k : Nat) (ts : List XTok) (h : OkTok ⟨5, [], [], l⟩) (hn : DocT o r 5 ts) : DocT o r k (⟨5, [], [], l⟩ :: ts)
  | pi (n l : List Nat) (o : List (List Nat)) (r : Bool) (k : Nat) (ts : List XTok) (h : OkTok ⟨6, n, [], l⟩) (hn : DocT o r 6 ts) : DocT o r k (⟨6, n, [], l⟩ :: ts)
theorem adv_app (P a r : List Nat) (e : List (List Nat × List Nat)) (sp : Nat) (o : List (List Nat)) (t : List XTok) (ru : List Nat) (n : Nat) :
    (⟨P, a ++ r, e, sp, o, t, ru, n⟩ : RS).adv a.length = ⟨P ++ a, r, e, sp, o, t, ru, n⟩ := by
  unfold RS.adv
  simp only [List.take_left, List.drop_left]
theorem drop58 : ∀ q : List Nat, q.contains 58 = true → q.dropWhile (· != 58) = 58 :: (q.dropWhile (· != 58)).tail
  | [], h => by cases h
  | c :: q, h => by
    by_cases hc : c = 58
    · subst hc; rfl
    · have hq : q.contains 58 = true := by
        simp only [List.contains_cons, Bool.or_eq_true, beq_iff_eq] at h
        rcases h with h | h
        · exact absurd h.symm hc
        · exact h
      have ih := drop58 q hq
      rw [List.dropWhile_cons, if_pos (by simpa using hc)]
      exact ih
theorem isQ_run {q r : List Nat} (h : isQ q = true) (hr : ∀ c, r.head? = some c → goC c = false ∧ c ≠ 58) : qnameA (q ++ r) = q := by
  have hr1 : ∀ c, r.head? = some c → goC c = false := fun c hc => (hr c hc).1
  unfold isQ at h
  split at h
  · rename_i hc
    obtain ⟨h1, h2⟩ : isNm (q.takeWhile (· != 58)) = true ∧ isNm (q.dropWhile (· != 58)).tail = true := by simpa using h
    obtain ⟨na, ea⟩ := isNm_name h1
    obtain ⟨nb, eb⟩ := isNm_name h2
    have hq : q.takeWhile (· != 58) ++ 58 :: (q.dropWhile (· != 58)).tail = q := by
      rw [← drop58 q hc]
      exact List.takeWhile_append_dropWhile
    generalize q.takeWhile (· != 58) = a at *
    generalize (q.dropWhile (· != 58)).tail = b at *
    subst hq
    have n1 : nameA (a ++ 58 :: b ++ r) = a := by
      rw [List.append_assoc]
      exact nameA_run a _ (fun c hc => by cases hc; exact go58) ea na
    have n2 : nameA (b ++ r) = b := nameA_run b r hr1 eb nb
    rw [qnameA_eq, n1]
    have e1 : (a ++ 58 :: b ++ r).drop a.length = 58 :: (b ++ r) := by rw [List.append_assoc, List.drop_left]; rfl
    rw [e1]
    simp only [List.tail_cons, n2, heads_cons, empty_not na, empty_not nb]
    rfl
  · obtain ⟨na, ea⟩ := isNm_name h
    have n1 : nameA (q ++ r) = q := nameA_run q r hr1 ea na
    rw [qnameA_eq, n1, List.drop_left]
    have h58 : heads 58 r = false := by
      cases hh : heads 58 r
      · rfl
      · have := heads_true hh
        exact absurd rfl (hr 58 (by rw [this]; rfl)).2
    rw [h58]
    simp
theorem isQ_beg {q : List Nat} (h : isQ q = true) : ∃ c t, q = c :: t ∧ begC c = true := by
  unfold isQ at h
  split at h
  · obtain ⟨h1, _⟩ : isNm (q.takeWhile (· != 58)) = true ∧ isNm (q.dropWhile (· != 58)).tail = true := by simpa using h
    obtain ⟨na, ea⟩ := isNm_name h1
    obtain ⟨c, t, e, hb⟩ := nameA_beg (l := q.takeWhile (· != 58)) (by rw [ea]; exact na)
    cases q with
    | nil => cases e
    | cons d q =>
      rw [List.takeWhile_cons] at e
      split at e
      · cases e; exact ⟨_, _, rfl, hb⟩
      · cases e
  · obtain ⟨na, ea⟩ := isNm_name h
    exact nameA_beg (by rw [ea]; exact na)
theorem beg_not {c : Nat} (h : begC c = true) : blankC c = false ∧ c ≠ 47 ∧ c ≠ 62 ∧ c ≠ 33 ∧ c ≠ 63 := by
  have := begC_ge h
  refine ⟨?_, by omega, by omega, by omega, by omega⟩
  unfold blankC
  simp
  omega
theorem blanks_at (P a r : List Nat) (e : List (List Nat × List Nat)) (sp : Nat) (o : List (List Nat)) (t : List XTok) (ru : List Nat) (n : Nat) (ha : ∀ c ∈ a, blankC c = true) (hr : ∀ c, r.head? = some c → blankC c = false) :
    (⟨P, a ++ r, e, sp, o, t, ru, n⟩ : RS).blanks = ⟨P ++ a, r, e, sp, o, t, ru, n⟩ ∧ (⟨P, a ++ r, e, sp, o, t, ru, n⟩ : RS).blank = !a.isEmpty := by
  unfold RS.blanks RS.blank
  simp only
  rw [takeWhile_run blankC a r ha hr]
  exact ⟨adv_app P a r e sp o t ru n, rfl⟩
theorem blanks_no (P r : List Nat) (e : List (List Nat × List Nat)) (sp : Nat) (o : List (List Nat)) (t : List XTok) (ru : List Nat) (n : Nat) (hr : ∀ c, r.head? = some c → blankC c = false) :
    (⟨P, r, e, sp, o, t, ru, n⟩ : RS).blanks = ⟨P, r, e, sp, o, t, ru, n⟩ ∧ (⟨P, r, e, sp, o, t, ru, n⟩ : RS).blank = false := by
  have h := blanks_at P [] r e sp o t ru n (fun _ h => by cases h) hr
  rw [List.append_nil] at h
  exact h
end Go.Proofs.YtjjggncbhenffaaGreatDoor
/- Tokens that lead somewhere from a document's beginning, in plain terms: for the law XmlscanAgain. -/
namespace Go.Proofs.YtjjggncbhenffaaGreatDoor
/-- Tokens read from the beginning: what is open behind them, whether there was an element, the last one's kind. -/
inductive DocS : List XTok → List (List Nat) → Bool → Nat → Prop
  | start : DocS [] [] false 0
  | elem (n : List Nat) (a : List (List Nat × List Nat)) (o : List (List Nat)) (r : Bool) (k : Nat) (ts : List XTok) (hs : DocS ts o r k) (h : OkTok ⟨2, n, a, []⟩) (hr : o = [] → r = false) (ho : o.length < 32) (ha : a.length ≤ 64) : DocS (ts ++ [⟨2, n, a, []⟩]) (o ++ [n]) true 2
  | fin (n : List Nat) (o : List (List Nat)) (r : Bool) (k : Nat) (ts : List XTok) (hs : DocS ts o r k) (h : OkTok ⟨7, n, [], []⟩) (ho : o.getLast? = some n) : DocS (ts ++ [⟨7, n, [], []⟩]) o.dropLast r 7
  | text (l : List Nat) (o : List (List Nat)) (r : Bool) (k : Nat) (ts : List XTok) (hs : DocS ts o r k) (h : OkTok ⟨4, [], [], l⟩) (ho : o ≠ []) (hk : k ≠ 4) : DocS (ts ++ [⟨4, [], [], l⟩]) o r 4
  | comment (l : List Nat) (o : List (List Nat)) (r : Bool) (k : Nat) (ts : List XTok) (hs : DocS ts o r k) (h : OkTok ⟨5, [], [], l⟩) : DocS (ts ++ [⟨5, [], [], l⟩]) o r 5
  | pi (n l : List Nat) (o : List (List Nat)) (r : Bool) (k : Nat) (ts : List XTok) (hs : DocS ts o r k) (h : OkTok ⟨6, n, [], l⟩) : DocS (ts ++ [⟨6, n, [], l⟩]) o r 6
theorem DocS.on {ts : List XTok} {o : List (List Nat)} {r : Bool} {k : Nat} (h : DocS ts o r k) : ∀ us, DocT o r k us → DocT [] false 0 (ts ++ us) := by
  induction h with
  | start => exact fun us h => h
  | elem n a o r k ts hs h hr ho ha ih => intro us hu; rw [List.append_assoc]; exact ih _ (.elem n a o r k us h hr ho ha hu)
  | fin n o r k ts hs h ho ih => intro us hu; rw [List.append_assoc]; exact ih _ (.fin n o r k us h ho hu)
  | text l o r k ts hs h ho hk ih => intro us hu; rw [List.append_assoc]; exact ih _ (.text l o r k us h ho hk hu)
  | comment l o r k ts hs h ih => intro us hu; rw [List.append_assoc]; exact ih _ (.comment l o r k us h hu)
  | pi n l o r k ts hs h ih => intro us hu; rw [List.append_assoc]; exact ih _ (.pi n l o r k us h hu)
theorem DocS.all {ts : List XTok} {k : Nat} (h : DocS ts [] true k) : DocT [] false 0 ts := by
  have := h.on [] (.done k)
  rwa [List.append_nil] at this
/-- What a reader has told leads to where it stands. -/
def Told (s : RS) (r : Bool) : Prop := ∃ k, DocS s.toks s.opn r k ∧ k ≠ 4 ∧ (s.run ≠ [] → s.opn ≠ [])
theorem Told.flush {s : RS} {r : Bool} (h : Told s r) : ∃ k, DocS s.flush.toks s.opn r k := by
  obtain ⟨k, h1, h2, h3⟩ := h
  by_cases hr : s.run = []
  · rw [(flush_eq s).1 hr]; exact ⟨k, h1⟩
  · rw [(flush_eq s).2 hr]
    exact ⟨4, .text s.run s.opn r k s.toks h1 (.text _ hr) (h3 hr) h2⟩
/-- A token told, where it may stand. -/
theorem Told.tell {s s' : RS} {r r' : Bool} {t : XTok} {at' : Nat} (h : Told s r) (ht : s.tell t at' = .ok s') (o' : List (List Nat)) (hk : t.kind ≠ 4) (hs : ∀ ts k, DocS ts s.opn r k → DocS (ts ++ [t]) o' r' t.kind) :
    Told { s' with opn := o' } r' ∧ s'.run = [] := by
  obtain ⟨k, hf⟩ := h.flush
  unfold RS.tell at ht
  split at ht
  · cases ht
  · cases ht
    have hrun : s.flush.run = [] := by
      by_cases hr : s.run = []
      · rw [(flush_eq s).1 hr]; exact hr
      · rw [(flush_eq s).2 hr]
    exact ⟨⟨t.kind, hs _ k hf, hk, fun hx => absurd hrun hx⟩, hrun⟩
end Go.Proofs.YtjjggncbhenffaaGreatDoor
/- What Scan tells may be written: pieces, in plain terms. -/
namespace Go.Proofs.YtjjggncbhenffaaGreatDoor
theorem cutL_first (p q : Nat) : ∀ {l x y : List Nat}, cutL [p, q] l = some (x, y) → l = x ++ p :: q :: y ∧ cutL [p, q] x = none ∧ (p = q → x.getLast? ≠ some p)
  | [], x, y, h => by cases h
  | c :: t, x, y, h => by
    rw [cutL] at h
    split at h
    · rename_i hp
      cases h
      refine ⟨?_, rfl, fun _ hx => by cases hx⟩
      obtain ⟨u, hu⟩ := List.isPrefixOf_iff_prefix.1 hp
      rw [← hu]
      rfl
    · rename_i hp
      cases hc : cutL [p, q] t with
      | none => rw [hc] at h; cases h
      | some z =>
        obtain ⟨x', y'⟩ := z
        rw [hc] at h
        cases h
        obtain ⟨h1, h2, h3⟩ := cutL_first p q hc
        refine ⟨by rw [h1]; rfl, ?_, ?_⟩
        · rw [cutL, if_neg, h2]
          · rfl
          · intro hh
            apply hp
            rw [h1]
            cases x' with
            | nil => simp [List.isPrefixOf] at hh
            | cons d x'' =>
              simp [List.isPrefixOf] at hh ⊢
              exact hh
        · intro e hl
          subst e
          cases x' with
          | nil =>
            simp at hl
            subst hl
            apply hp
            rw [h1]
            simp [List.isPrefixOf]
          | cons d x'' =>
            simp only [List.getLast?_cons_cons] at hl
            exact h3 rfl hl
theorem DocS.isq {ts : List XTok} {o : List (List Nat)} {r : Bool} {k : Nat} (h : DocS ts o r k) : ∀ x ∈ o, isQ x = true := by
  induction h with
  | start => intro x hx; cases hx
  | elem n a o r k ts hs h hr ho ha ih =>
    intro x hx
    rcases List.mem_append.1 hx with hx | hx
    · exact ih x hx
    · rw [List.mem_singleton.1 hx]; cases h; assumption
  | fin n o r k ts hs h ho ih => exact fun x hx => ih x (List.dropLast_subset _ hx)
  | text l o r k ts hs h ho hk ih => exact ih
  | comment l o r k ts hs h ih => exact ih
  | pi n l o r k ts hs h ih => exact ih
theorem comment_okT {s s' : RS} {t : List Nat} (h : s.comment = some (t, s')) : OkTok ⟨5, [], [], t⟩ := by
  rw [comment_eq] at h
  split at h
  · cases h
  · rename_i u s1 hu
    split at h
    · cases h
      obtain ⟨_, y, hc, _⟩ := Adv.takeTo hu
      obtain ⟨_, h2, h3⟩ := cutL_first 45 45 hc
      exact .comment _ h2 (h3 rfl)
    · cases h
theorem drop_head {f : Nat → Bool} : ∀ {l : List Nat} {c : Nat}, (l.dropWhile f).head? = some c → f c = false
  | [], c, h => by cases h
  | d :: l, c, h => by
    rw [List.dropWhile_cons] at h
    split at h
    · exact drop_head h
    · rename_i hd
      cases h
      simpa using hd
theorem instr_okT {s s' : RS} {n t : List Nat} (h : s.instruction = some (n, t, s')) : OkTok ⟨6, n, [], t⟩ := by
  rw [instruction_eq] at h
  split at h
  · cases h
  · rename_i hn
    have hn' : isTarget (nameA (s.take [60, 63]).rest) = true := by simpa using hn
    split at h
    · cases h
      exact .pi _ _ hn' rfl (fun c hc => by cases hc)
    · split at h
      · cases h
      · cases hx : (s.take [60, 63]).name.blanks.takeTo [63, 62] with
        | none => rw [hx] at h; cases h
        | some z =>
          obtain ⟨u, s1⟩ := z
          rw [hx] at h
          cases h
          obtain ⟨_, y, hc, _⟩ := Adv.takeTo hx
          obtain ⟨h1, h2, _⟩ := cutL_first 63 62 hc
          refine .pi _ _ hn' h2 (fun c hc => ?_)
          rw [blanks_rest] at h1
          refine drop_head (l := (s.take [60, 63]).name.rest) (c := c) ?_
          rw [h1]
          cases u with
          | nil => cases hc
          | cons d u => exact hc
theorem isNm_of (l : List Nat) (h : nameA l ≠ []) : isNm (nameA l) = true := by
  unfold isNm
  rw [nameA_twice]
  cases hn : nameA l with
  | nil => exact absurd hn h
  | cons c t => simp
theorem no58 (l : List Nat) : ∀ c ∈ nameA l, c ≠ 58 := fun c hc e => by
  have := nameA_all l c hc
  rw [e, go58] at this
  cases this
theorem tw58 : ∀ (a b : List Nat), (∀ c ∈ a, c ≠ 58) → (a ++ 58 :: b).takeWhile (· != 58) = a ∧ (a ++ 58 :: b).dropWhile (· != 58) = 58 :: b
  | [], b, _ => ⟨rfl, rfl⟩
  | c :: a, b, h => by
    have hc : (c != 58) = true := by simpa using h c (by simp)
    obtain ⟨h1, h2⟩ := tw58 a b (fun x hx => h x (by simp [hx]))
    show (c :: (a ++ 58 :: b)).takeWhile (· != 58) = _ ∧ (c :: (a ++ 58 :: b)).dropWhile (· != 58) = _
    rw [List.takeWhile_cons, List.dropWhile_cons, hc, if_pos rfl, if_pos rfl, h1, h2]
    exact ⟨rfl, rfl⟩
theorem qname_isQ {l : List Nat} (h : qnameA l ≠ []) : isQ (qnameA l) = true := by
  have hn := qnameA_name h
  rw [qnameA_eq]
  split
  · rename_i hc
    have hb : nameA (l.drop (nameA l).length).tail ≠ [] := by
      intro e
      rw [e] at hc
      simp at hc
    obtain ⟨h1, h2⟩ := tw58 (nameA l) (nameA (l.drop (nameA l).length).tail) (no58 l)
    unfold isQ
    rw [if_pos (by simp), h1, h2, isNm_of l hn]
    exact isNm_of _ hb
  · unfold isQ
    rw [if_neg (by
      intro hc
      exact no58 l 58 (List.contains_iff_mem.1 hc) rfl)]
    exact isNm_of l hn
/-- Attributes as a start tag may have them. -/
def OkA (a : List (List Nat × List Nat)) : Prop := (∀ x ∈ a, isQ x.1 = true) ∧ (a.map (·.1)).Nodup
theorem OkA.snoc {a : List (List Nat × List Nat)} {n v : List Nat} (h : OkA a) (hn : isQ n = true) (hc : (a.map (·.1)).contains n = false) : OkA (a ++ [(n, v)]) := by
  refine ⟨fun x hx => ?_, ?_⟩
  · rcases List.mem_append.1 hx with hx | hx
    · exact h.1 x hx
    · rw [List.mem_singleton.1 hx]; exact hn
  · rw [List.map_append, List.nodup_append]
    refine ⟨h.2, by simp, fun x hx y hy => ?_⟩
    simp at hy
    subst hy
    intro e
    subst e
    rw [List.contains_iff_mem.2 hx] at hc
    cases hc
theorem attrs_okA (tag : Nat) : ∀ (f : Nat) (s s' : RS) (acc a : List (List Nat × List Nat)), OkA acc → RS.attrsGo tag f s acc = .ok (a, s') → OkA a
  | 0, s, s', acc, a, _, h => by cases h
  | f + 1, s, s', acc, a, hA, h => by
    rw [RS.attrsGo] at h
    simp only at h
    split at h
    · cases h; exact hA
    · split at h
      · cases h
      · rename_i hn
        split at h
        · cases h
        · split at h
          · cases h
          · refine attrs_okA tag f _ s' _ a (hA.snoc (qname_isQ fun e => hn (.inl e)) ?_) h
            cases hc : (acc.map (·.1)).contains (qnameA s.blanks.rest)
            · rfl
            · exact absurd (.inr hc) hn
end Go.Proofs.YtjjggncbhenffaaGreatDoor
