/- Several texts, laid as one. -/
import Derived.Test.YtjjggncbhenffaaGreatDoorXmlDoc
import Derived.Test.YtjjggncbhenffaaGreatDoorGbi
import Derived.Test.YtjjggncbhenffaaGreatDoorGah
import Derived.Test.YtjjggncbhenffaaGreatDoorGbj
import Derived.Test.YtjjggncbhenffaaGreatDoorXmlWrQ
/- A CDATA section, in plain terms: what is scanned of it. -/
namespace Go.Proofs.YtjjggncbhenffaaGreatDoor
/-- Signs that stand nowhere in a text. -/
def noSign (a l : List Nat) : Prop := ∀ x y, l ≠ x ++ a ++ y
theorem noSign.tail {a l : List Nat} {c : Nat} (h : noSign a (c :: l)) : noSign a l := fun x y e => h (c :: x) y (by rw [e]; rfl)
end Go.Proofs.YtjjggncbhenffaaGreatDoor
/- An element with an attribute and a text, both escaped: what is scanned of it, in plain terms. -/
namespace Go.Proofs.YtjjggncbhenffaaGreatDoor
end Go.Proofs.YtjjggncbhenffaaGreatDoor
/- Signs below 128 at both ends of a text: what is within is a text. -/
namespace Go.Proofs.YtjjggncbhenffaaGreatDoor
theorem txt_tail {q : Nat} (hq : q < 128) {x : List UInt8} (h : Txt (UInt8.ofNat q :: x)) : Txt x := by
  obtain ⟨rs, h1, h2⟩ := h
  cases rs with
  | nil => cases h2
  | cons r rs =>
    have hd1 := dec_rune r (charR_ok (h1 r (by simp))) (rs.flatMap runeB)
    have hd2 := dec_rune q (.inl (by omega)) x
    have e1 : (r :: rs).flatMap runeB = runeB r ++ rs.flatMap runeB := rfl
    rw [e1] at h2
    rw [runeB_one hq, List.singleton_append] at hd2
    rw [h2, hd1] at hd2
    have hr : r = q := congrArg Prod.fst hd2
    subst hr
    rw [runeB_one hq, List.singleton_append] at h2
    exact ⟨rs, fun y hy => h1 y (by simp [hy]), (List.cons.inj h2).2⟩
end Go.Proofs.YtjjggncbhenffaaGreatDoor
/- Escaped texts: bytes and characters. -/
namespace Go.Proofs.YtjjggncbhenffaaGreatDoor
/-- A text that is cut at a sign below 128. -/
theorem txt_split {q : Nat} (hq : q < 128) {y : List UInt8} : ∀ (rs : List Nat), (∀ r ∈ rs, charR (r : Int) = true) → ∀ x : List UInt8, rs.flatMap runeB = x ++ UInt8.ofNat q :: y → Txt x ∧ Txt y
  | [], _, x, h => by
    have := congrArg List.length h
    simp at this
  | r :: rs, hr, x, h => by
    have hrr := hr r (List.mem_cons_self ..)
    have hrs : ∀ z ∈ rs, charR (z : Int) = true := fun z hz => hr z (List.mem_cons_of_mem _ hz)
    rw [List.flatMap_cons] at h
    rcases List.append_eq_append_iff.1 h with ⟨a', h1, h2⟩ | ⟨c', h1, h2⟩
    · obtain ⟨⟨us, hu1, hu2⟩, h4⟩ := txt_split hq rs hrs a' h2
      refine ⟨⟨r :: us, fun z hz => ?_, ?_⟩, h4⟩
      · rcases List.mem_cons.1 hz with rfl | hz
        · exact hrr
        · exact hu1 z hz
      · rw [h1, hu2, List.flatMap_cons]
    · cases c' with
      | nil =>
        rw [List.append_nil] at h1
        rw [List.nil_append] at h2
        refine ⟨⟨[r], fun z hz => by rw [List.mem_singleton.1 hz]; exact hrr, by rw [← h1]; simp⟩, ?_⟩
        exact txt_tail hq ⟨rs, hrs, h2⟩
      | cons b c'' =>
        obtain ⟨rfl, h3⟩ := List.cons.inj h2
        have hlow : r < 128 := by
          by_cases hh : r < 128
          · exact hh
          · exfalso
            have := runeB_high (charR_ok hrr) (by omega) (UInt8.ofNat q) (by rw [h1]; simp)
            rw [u8_nat (by omega)] at this
            omega
        rw [runeB_one hlow] at h1
        have hl := congrArg List.length h1
        simp at hl
        have hx : x = [] := by
          cases x with
          | nil => rfl
          | cons _ _ => simp at hl; omega
        have hc : c'' = [] := by
          cases c'' with
          | nil => rfl
          | cons _ _ => simp at hl; omega
        subst hx hc
        exact ⟨⟨[], (fun _ h => by cases h), rfl⟩, ⟨rs, hrs, by simpa using h3⟩⟩
theorem txt_cut {q : Nat} (hq : q < 128) {x y : List UInt8} (h : Txt (x ++ UInt8.ofNat q :: y)) : Txt x ∧ Txt y := by
  obtain ⟨rs, h1, h2⟩ := h
  exact txt_split hq rs h1 x h2.symm
/-- Other texts, as bytes and as characters. -/
structure BothO (o : Nat → List UInt8) (oN : Nat → List Nat) : Prop where
  few : FewO o
  eq : ∀ c, o c = (oN c).map UInt8.ofNat
  low : ∀ c, ∀ x ∈ oN c, x < 128
  may : ∀ c, oN c ≠ [] → charR (c : Int) = true
theorem esc_both : BothO escO escN := by
  refine ⟨esc_few, ?_, ?_, ?_⟩
  · intro c
    unfold escO escN insO insN
    repeat' split
    all_goals rfl
  · exact esc_cases (P := fun _ o => ∀ x ∈ o, x < 128) (by decide) (by decide) (by decide) (by decide) (fun c x h => by cases h)
  · exact esc_cases (P := fun c o => o ≠ [] → charR (c : Int) = true) (fun _ => by decide +kernel) (fun _ => by decide +kernel) (fun _ => by decide +kernel) (fun _ => by decide +kernel) (fun c h => absurd rfl h)
theorem quo_both : BothO quoO quoN := by
  refine ⟨quo_few, ?_, ?_, ?_⟩
  · intro c
    unfold quoO quoN insO insN
    repeat' split
    all_goals rfl
  · exact quo_cases (P := fun _ o => ∀ x ∈ o, x < 128) (by decide) (by decide) (by decide) (by decide) (by decide) (by decide) (fun c x h => by cases h)
  · exact quo_cases (P := fun c o => o ≠ [] → charR (c : Int) = true) (fun _ => by decide +kernel) (fun _ => by decide +kernel) (fun _ => by decide +kernel) (fun _ => by decide +kernel) (fun _ => by decide +kernel) (fun _ => by decide +kernel) (fun c h => absurd rfl h)
theorem map_tx {o : Nat → List UInt8} {oN : Nat → List Nat} (h : BothO o oN) : ∀ (l : List Nat), okL l → mapO o (tx l) = tx (mapN oN l)
  | [], _ => rfl
  | c :: l, hl => by
    have ih := map_tx h l (fun x hx => hl x (List.mem_cons_of_mem _ hx))
    have hc := hl c (List.mem_cons_self ..)
    rw [tx_cons, mapO_app, ih, mapN_cons, tx_append]
    congr 1
    by_cases h128 : c < 128
    · rw [runeB_one h128]
      show oneO o (UInt8.ofNat c) ++ [] = _
      rw [List.append_nil]
      unfold oneO oneN
      rw [u8_nat (by omega), h.eq c]
      by_cases h0 : oN c = []
      · rw [if_pos (by rw [h0]; rfl), if_pos h0, tx_cons, runeB_one h128]
        rfl
      · rw [if_neg (by simpa using h0), if_neg h0, sign_len_tx (h.low c)]
    · have h0 : oN c = [] := by
        have := h.few.low c (by omega)
        rw [h.eq c] at this
        simpa using this
      rw [mapO_same o (runeB c) (fun b hb => h.few.low _ (runeB_high (charR_ok hc) (by omega) b hb))]
      unfold oneN
      rw [if_pos h0, tx_cons]
      simp [tx]
theorem map_ok {oN : Nat → List Nat} (hr : RefN oN) {l : List Nat} (hl : okL l) : okL (mapN oN l) := by
  intro x hx
  obtain ⟨c, hc, hxc⟩ := List.mem_flatMap.1 hx
  unfold oneN at hxc
  split at hxc
  · rw [List.mem_singleton.1 hxc]; exact hl c hc
  · exact hr.ok c x hxc
end Go.Proofs.YtjjggncbhenffaaGreatDoor
/- Tokens in bytes are the same in characters, where they are a document's. -/
namespace Go.Proofs.YtjjggncbhenffaaGreatDoor
def XTok.b (t : XTok) : BTok := ⟨(t.kind : Nat), T t.name, t.attrs.map fun x => (T x.1, T x.2), T t.text⟩
structure OkAll (t : XTok) : Prop where
  n : okL t.name
  a : ∀ x ∈ t.attrs, okL x.1 ∧ okL x.2
  x : okL t.text
theorem okL_nil : okL [] := fun _ h => by cases h
/-- What is written in bytes is what is written in characters. -/
theorem attr_tx {x : List Nat × List Nat} (h : okL x.2) : attrB (T x.1, T x.2) = tx (attrL x) := by
  have e : attrL x = [32] ++ (x.1 ++ ([61, 34] ++ (mapN quoN x.2 ++ [34]))) := by unfold attrL; simp
  rw [e, tx_append, tx_append, tx_append, tx_append, ← map_tx quo_both x.2 h]
  unfold attrB
  rw [T_data, T_data]
  rfl
theorem attrs_tx : ∀ {a : List (List Nat × List Nat)}, (∀ x ∈ a, okL x.1 ∧ okL x.2) → (a.map fun x => (T x.1, T x.2)).flatMap attrB = tx (a.flatMap attrL)
  | [], _ => rfl
  | x :: a, h => by
    rw [List.map_cons, List.flatMap_cons, List.flatMap_cons, tx_append, attrs_tx (fun y hy => h y (List.mem_cons_of_mem _ hy)), attr_tx (h x (List.mem_cons_self ..)).2]
theorem tok_tx {x : XTok} (h : OkAll x) (hok : OkTok x) : tokB x.b = tx (tokL x) := by
  cases hok with
  | elem n a =>
    show 60 :: ((T n).data.toList ++ ((a.map fun x => (T x.1, T x.2)).flatMap attrB ++ [62])) = tx ([60] ++ (n ++ (a.flatMap attrL ++ [62])))
    rw [tx_append, tx_append, tx_append, attrs_tx h.a, T_data]
    rfl
  | fin n =>
    show 60 :: 47 :: ((T n).data.toList ++ [62]) = tx ([60, 47] ++ (n ++ [62]))
    rw [tx_append, tx_append, T_data]
    rfl
  | text l =>
    show mapO escO (T l).data.toList = tx (mapN escN l)
    rw [T_data, map_tx esc_both l h.x]
  | comment l =>
    show 60 :: 33 :: 45 :: 45 :: ((T l).data.toList ++ [45, 45, 62]) = tx ([60, 33, 45, 45] ++ (l ++ [45, 45, 62]))
    rw [tx_append, tx_append, T_data]
    rfl
  | pi n l =>
    show 60 :: 63 :: ((T n).data.toList ++ ((if (T l).toList.isEmpty then [] else 32 :: (T l).data.toList) ++ [63, 62])) = tx ([60, 63] ++ (n ++ ((if l = [] then [] else 32 :: l) ++ [63, 62])))
    rw [tx_append, tx_append, tx_append, T_data]
    by_cases hl : l = []
    · subst hl
      rw [T_toList]
      rfl
    · rw [if_neg hl, show (T l).toList.isEmpty = false from ne_T h.x hl, T_data]
      rfl
theorem okL_attr {x : List Nat × List Nat} (h : okL x.1 ∧ okL x.2) : okL (attrL x) := by
  have e : attrL x = [32] ++ (x.1 ++ ([61, 34] ++ (mapN quoN x.2 ++ [34]))) := by unfold attrL; simp
  rw [e]
  exact okL_app (okL_of (by decide)) (okL_app h.1 (okL_app (okL_of (by decide)) (okL_app (map_ok quo_ref h.2) (okL_of (by decide)))))
theorem okL_attrs : ∀ {a : List (List Nat × List Nat)}, (∀ x ∈ a, okL x.1 ∧ okL x.2) → okL (a.flatMap attrL)
  | [], _ => okL_nil
  | x :: a, h => by
    rw [List.flatMap_cons]
    exact okL_app (okL_attr (h x (List.mem_cons_self ..))) (okL_attrs fun y hy => h y (List.mem_cons_of_mem _ hy))
theorem okL_tok {x : XTok} (h : OkAll x) (hok : OkTok x) : okL (tokL x) := by
  cases hok with
  | elem n a => exact okL_app (a := [60]) (okL_of (by decide)) (okL_app h.n (okL_app (okL_attrs h.a) (okL_of (by decide))))
  | fin n => exact okL_app (a := [60, 47]) (okL_of (by decide)) (okL_app h.n (okL_of (by decide)))
  | text l => exact map_ok esc_ref h.x
  | comment l => exact okL_app (a := [60, 33, 45, 45]) (okL_of (by decide)) (okL_app h.x (okL_of (by decide)))
  | pi n l =>
    refine okL_app (a := [60, 63]) (okL_of (by decide)) (okL_app h.n (okL_app ?_ (okL_of (by decide))))
    by_cases hl : l = []
    · simp only [hl, if_pos]; exact okL_nil
    · simp only [if_neg hl]; exact okL_app (a := [32]) (okL_of (by decide)) h.x
theorem doc_all : ∀ {xs : List XTok} {o : List (List Nat)} {r : Bool} {k : Nat}, DocT o r k xs → ∀ x ∈ xs, OkTok x
  | [], _, _, _, _ => fun _ h => by cases h
  | t :: ts, o, r, k, h => by
    have h1 : OkTok t ∧ ∃ o' r' k', DocT o' r' k' ts := by
      cases h with
      | elem m a _ _ _ _ h hr ho' ha hn => exact ⟨h, _, _, _, hn⟩
      | fin m _ _ _ _ h ho' hn => exact ⟨h, _, _, _, hn⟩
      | text l _ _ _ _ h ho' hk hn => exact ⟨h, _, _, _, hn⟩
      | comment l _ _ _ _ h hn => exact ⟨h, _, _, _, hn⟩
      | pi m l _ _ _ _ h hn => exact ⟨h, _, _, _, hn⟩
    obtain ⟨ht, o', r', k', hn⟩ := h1
    intro x hx
    rcases List.mem_cons.1 hx with rfl | hx
    · exact ht
    · exact doc_all hn x hx
theorem write_tx : ∀ {xs : List XTok}, (∀ x ∈ xs, OkAll x) → (∀ x ∈ xs, OkTok x) → writeB (xs.map XTok.b) = tx (writeX xs) ∧ okL (writeX xs)
  | [], _, _ => ⟨rfl, okL_nil⟩
  | x :: xs, h1, h2 => by
    obtain ⟨i1, i2⟩ := write_tx (fun y hy => h1 y (List.mem_cons_of_mem _ hy)) (fun y hy => h2 y (List.mem_cons_of_mem _ hy))
    have hx := h1 x (List.mem_cons_self ..)
    have hk := h2 x (List.mem_cons_self ..)
    refine ⟨?_, ?_⟩
    · show tokB x.b ++ writeB (xs.map XTok.b) = tx (tokL x ++ writeX xs)
      rw [i1, tok_tx hx hk, tx_append]
    · exact okL_app (okL_tok hx hk) i2
end Go.Proofs.YtjjggncbhenffaaGreatDoor
