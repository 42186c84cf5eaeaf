/- A tag in memory: xbuild's freePrefix, qname, attribute. -/
import Derived.Test.YtllhajjceecjdaaDoorBuA
import Derived.Test.YtllhajjceecjdaaDoorGbb
import Derived.Lib.SmallJoins
import Derived.Lib.AppendIntMem
namespace Go.Proofs.YtllhajjceecjdaaDoor
open Go.RowKit Go.Maps
/-- What the walks ask of the library's tables. -/
structure BEnv (w : World) : Prop where
  env : Env w
theorem BEnv.below {w w' : World} (h : BEnv w) (hb : Below w.heap.size w w') : BEnv w' := ⟨h.env.below hb⟩
theorem itoaB_any (n : Nat) (w : World) (hn : n < 100) :
    Calls Tryd.prog 75 #[.int .i64 (n : Int)] w fun e w' => e = .returned (.string ⟨(Lib.decDigits n).toArray⟩) ∧ Below w.heap.size w w' := by
  refine (Tryd.strconv_Itoa_small n hn w).mono ?_
  rintro e w' ⟨rfl, rfl⟩
  exact ⟨rfl, Below.refl _ _⟩
theorem ScV.lookB {w : World} {B : Nat} {v : Value} {s : Sc} (h : ScV w B v s) {p : List Nat} (hp : okL p) (hz : (T p).size ≤ 1048576) :
    (Instr.lookup 58 v (.string (T p)) true).run Tryd.prog w = .ok (.tuple #[.agg #[.string (T ((lookS s p).getD []))], .bool (lookS s p).isSome]) w := by
  have hz0 : (zeroValue 56).run Tryd.prog w = .ok (.agg #[.string ⟨#[]⟩]) w := by kernel_rfl
  have hk := Go.WideMaps.keyOf_string_mk Tryd.underlying9 (by unfold maxLen; omega : (T p).size ≤ maxLen)
  rcases h.2 with ⟨rfl, rfl⟩ | ⟨b, rfl, _, hown⟩
  · rw [Maps.look_nil true (Maps.string_keyed Tryd.underlying9) Tryd.underlying58 hz0 hk]
    rfl
  · obtain ⟨u, ps, hrun, hu⟩ := hown.look_ok (Maps.string_keyed Tryd.underlying9) Tryd.underlying58 hz0 (zd := .agg [.lit (.string [])]) (zp := []) rfl hk
    rw [T_data] at hrun hu
    rw [scD_has s p (fun x hx => (h.1 x hx).1.1) hp] at hrun
    rw [scD_at s p (fun x hx => (h.1 x hx).1.1) hp] at hu
    rw [hrun, entElem_inv hu]
    rfl
theorem ScV.lookB1 {w : World} {B : Nat} {v : Value} {s : Sc} (h : ScV w B v s) {p : List Nat} (hp : okL p) (hz : (T p).size ≤ 1048576) :
    (Instr.lookup 58 v (.string (T p)) false).run Tryd.prog w = .ok (.agg #[.string (T ((lookS s p).getD []))]) w := by
  have hz0 : (zeroValue 56).run Tryd.prog w = .ok (.agg #[.string ⟨#[]⟩]) w := by kernel_rfl
  have hk := Go.WideMaps.keyOf_string_mk Tryd.underlying9 (by unfold maxLen; omega : (T p).size ≤ maxLen)
  rcases h.2 with ⟨rfl, rfl⟩ | ⟨b, rfl, _, hown⟩
  · rw [Maps.look_nil false (Maps.string_keyed Tryd.underlying9) Tryd.underlying58 hz0 hk]
    rfl
  · obtain ⟨u, ps, hrun, hu⟩ := hown.lookup (Maps.string_keyed Tryd.underlying9) Tryd.underlying58 hz0 (zd := .agg [.lit (.string [])]) (zp := []) rfl hk
    rw [T_data] at hu
    rw [scD_at s p (fun x hx => (h.1 x hx).1.1) hp] at hu
    rw [hrun, entElem_inv hu]
    rfl
theorem fldB (a : Value) (W : World) : (Instr.field 56 (.agg #[a]) 0).run Tryd.prog W = .ok a W := by kernel_rfl
/-- A tag in memory: what prefixes stand for around it, and here. -/
structure TagV (w : World) (p b : Nat) (ma : Value) (ar he : Sc) : Prop where
  blk : w.heap[p]? = some (.cells #[ma, .map (some b)] 122 (0, 0))
  arV : ScV w 0 ma ar
  heV : w.ownsMap Tryd.prog 9 entElem b he.length (scD he)
  ok : OkSc he
  ne : ma ≠ .map (some b)
theorem TagV.on {w w' : World} {p b : Nat} {ma : Value} {ar he : Sc} (h : TagV w p b ma ar he) (hb : Below w.heap.size w w') : TagV w' p b ma ar he := by
  refine ⟨block_below h.blk hb, h.arV.on hb, ?_, h.ok, h.ne⟩
  obtain ⟨es, clock, h1, h2⟩ := h.heV
  exact ⟨es, clock, block_below h1 hb, h2⟩
theorem TagV.sc {w : World} {p b : Nat} {ma : Value} {ar he : Sc} (h : TagV w p b ma ar he) : ScV w 0 (.map (some b)) he := ⟨h.ok, .inr ⟨b, rfl, Nat.zero_le _, h.heV⟩⟩
theorem TagV.lt {w : World} {p b : Nat} {ma : Value} {ar he : Sc} (h : TagV w p b ma ar he) : p < w.heap.size := (Array.getElem?_eq_some_iff.1 h.blk).1
theorem nsP_size (i : Nat) (h : i < 1000000) : (T (nsP i)).size ≤ 1048576 := by
  rw [← nsP_T]
  have : ∀ (k n : Nat), n < 10 ^ (k + 1) → (Lib.decDigits n).length ≤ k + 1 := by
    intro k
    induction k with
    | zero => intro n hn; rw [Lib.decDigits, dif_pos (by simpa using hn)]; simp
    | succ k ih =>
      intro n hn
      by_cases h10 : n < 10
      · rw [Lib.decDigits, dif_pos h10]; simp
      · rw [Lib.decDigits, dif_neg h10, List.length_append]
        have := ih (n / 10) (by rw [Nat.pow_succ] at hn; omega)
        simp; omega
  have h2 := this 6 i (by omega)
  rw [ByteArray.size_append]
  show 2 + (Lib.decDigits i).toArray.size ≤ _
  rw [List.size_toArray]
  omega
theorem freeRound {ar he : Sc} {k i1 : Nat} {w wr : World} (hN : ∀ j, j < k → freeB ar he j = false) (hF : freeB ar he k = false) (hk : k ≤ i1) (hi : freeB ar he i1 = true) (hb : Below w.heap.size w wr) :
    (∃ k' : Nat, Value.int .i64 ((k : Int) + 1) = .int .i64 (k' : Nat) ∧ k' ≤ i1 ∧ Hid (∀ j, j < k' → freeB ar he j = false) ∧ Below w.heap.size w wr) ∧ i1 - (intOf (Value.int .i64 ((k : Int) + 1))).toNat < i1 - (intOf (Value.int .i64 (k : Nat))).toNat := by
  have hlt : k < i1 := by
    rcases Nat.lt_or_ge k i1 with h | h
    · exact h
    · obtain rfl : k = i1 := by omega
      rw [hF] at hi; cases hi
  refine ⟨⟨k + 1, by simp, hlt, hide (fun j hj => ?_), hb⟩, by simp [intOf]; omega⟩
  rcases Nat.lt_or_ge j k with h | h
  · exact hN j h
  · obtain rfl : j = k := by omega
    exact hF
set_option maxRecDepth 100000 in
set_option maxHeartbeats 4000000 in
theorem freePrefix_any (p b : Nat) (ma : Value) (ar he : Sc) (w : World) (H : TagV w p b ma ar he) (hn : he.length + ar.length ≤ 90) (hE : BEnv w) :
    Calls Tryd.prog 71 #[.pointer (some ⟨p, 0, none⟩)] w fun e w' => e = .returned (.string (T (freeP ar he))) ∧ Below w.heap.size w w' := by
  obtain ⟨i1, hi1, hi2⟩ := free_some ar he
  have HE := hide hE
  have HH := hide H
  have HF : Hid (freeB ar he i1 = true) := hide hi2
  obtain ⟨mm, rfl⟩ := H.arV.one
  clear H hE hi2
  go_enter Tryd.func71, Tryd.ntmps71
  go_wp2_with fail
  go_loopw [3] (fun i wr => ∃ k : Nat, i = .int .i64 (k : Nat) ∧ k ≤ i1 ∧ Hid (∀ j, j < k → freeB ar he j = false) ∧ Below w.heap.size w wr) (fun i _ => i1 - (intOf i).toNat)
  case atStart => exact ⟨0, rfl, Nat.zero_le _, hide (fun j hj => by omega), Below.refl _ _⟩
  case round =>
    obtain ⟨k, rfl, hk, HN, hb⟩ := hrel
    have HI := hide (itoaB_any k wr (by omega))
    have hT := nsP_T k
    have hz : ¬ 9223372036854775807 < (2 : Nat) + (⟨(Lib.decDigits k).toArray⟩ : ByteArray).size := by
      have h1 := nsP_size k (by omega)
      rw [← hT, ByteArray.size_append] at h1
      have h2 : (⟨#[110, 115]⟩ : ByteArray).size = 2 := rfl
      omega
    have HT := hide hT
    have HB := hide hb
    clear hT hb
    go_wp2_with fail
    refine (unhide HI).mono ?_
    rintro e w1 ⟨rfl, hb1⟩
    have hb2 := Below.then (unhide HB) hb1
    have H1 := (unhide HH).on hb2
    have c0 : w1.cell? ⟨p, 0, none⟩ = some (.map mm) := blk_cell H1.blk 0
    have c1 : w1.cell? ⟨p, 1, none⟩ = some (.map (some b)) := blk_cell H1.blk 1
    have l0 := (H1.arV.on ((Below.refl _ _).alloc (Nat.le_refl _) (.cells #[.string (T ((lookS he (nsP k)).getD []))] 56))).lookB1 (nsP_ok k) (nsP_size k (by omega))
    have hlt := H1.lt
    have HBA := hide (hb2.alloc hb2.size (.cells #[.string (T ((lookS he (nsP k)).getD []))] 56))
    have l1 := H1.sc.lookB (nsP_ok k) (nsP_size k (by omega))
    rw [← unhide HT] at l0 l1
    have hfd := fldB
    have HB2 := hide hb2
    obtain ⟨k1, hk1⟩ : ∃ b, (lookS he (nsP k)).isSome = b := ⟨_, rfl⟩
    obtain ⟨q1, hq1⟩ : ∃ b, ((lookS ar (nsP k)).getD [] == []) = b := ⟨_, rfl⟩
    have hee : (T ((lookS ar (nsP k)).getD [])).toList.isEmpty = q1 := by
      rw [← hq1]
      refine is_empty ?_
      cases hx : lookS ar (nsP k) with
      | none => exact okL_e
      | some u =>
        obtain ⟨y, hy, rfl⟩ := Option.map_eq_some_iff.1 hx
        exact (H1.arV.1 y (List.mem_of_find?_eq_some hy)).1.2
    have HFB : Hid (freeB ar he k = (!k1 && q1)) := hide (by
      unfold freeB
      rw [hq1, ← hk1]
      cases lookS he (nsP k) <;> rfl)
    rw [hk1] at l1
    generalize T ((lookS ar (nsP k)).getD []) = ua at *
    generalize T ((lookS he (nsP k)).getD []) = uh at *
    clear hk1 hq1 H1 hb1 hb2
    cases k1
    · cases q1
      · go_wp2
        exact freeRound (unhide HN) (by rw [unhide HFB]; rfl) hk (unhide HF) (unhide HBA)
      · go_wp2
        go_returns
        refine ⟨?_, unhide HBA⟩
        show Ending.returned (.string ((⟨#[110, 115]⟩ : ByteArray) ++ ⟨(Lib.decDigits k).toArray⟩)) = _
        rw [freeP_is (unhide HN) (by rw [unhide HFB]; rfl), ← unhide HT]
    · go_wp2
      exact freeRound (unhide HN) (by rw [unhide HFB]; rfl) hk (unhide HF) (unhide HBA)
theorem OkSc.set {s : Sc} (h : OkSc s) {p u : List Nat} (hp : okL p) (hu : okL u) (h1 : (T p).size ≤ 1048576) (h2 : (T u).size ≤ 1048576) : OkSc (setS s p u) := by
  intro x hx
  rcases insS_mem hx with rfl | hx
  · exact ⟨⟨hp, hu⟩, h1, h2⟩
  · exact h x (List.mem_filter.1 hx).1
theorem freeP_ok {ar he : Sc} (hn : he.length + ar.length ≤ 90) : okL (freeP ar he) ∧ (T (freeP ar he)).size ≤ 1048576 := by
  unfold freeP
  refine ⟨nsP_ok _, nsP_size _ ?_⟩
  have : ∀ f i, freeF ar he f i ≤ i + f := by
    intro f
    induction f with
    | zero => intro i; unfold freeF; omega
    | succ f ih => intro i; unfold freeF; split; omega; have := ih (i + 1); omega
  have := this (he.length + ar.length) 0
  omega
theorem lookS_ok {s : Sc} (h : OkSc s) (p : List Nat) : okL ((lookS s p).getD []) := by
  cases hx : lookS s p with
  | none => exact okL_e
  | some u =>
    obtain ⟨y, hy, rfl⟩ := Option.map_eq_some_iff.1 hx
    exact (h y (List.mem_of_find?_eq_some hy)).1.2
theorem TagV.put {w w' : World} {p b : Nat} {ma : Value} {ar he : Sc} (h : TagV w p b ma ar he) {x u : List Nat} {n : Nat} (hx : okL x) (hu : okL u) (h1 : (T x).size ≤ 1048576) (h2 : (T u).size ≤ 1048576) (hg : w.grownBy w' (some b)) (ho : w'.ownsMap Tryd.prog 9 entElem b n ((scD he).put (.string (tx x)) (.agg [.lit (.string (tx u))]))) : TagV w' p b ma ar (setS he x u) := by
  have hbl := h.heV.lt
  have hk : ∀ k o, w.heap[k]? = some o → k ≠ b → w'.heap[k]? = some o := fun k o ho hne => by
    rw [hg.block k (Array.getElem?_eq_some_iff.1 ho).1 (fun e => hne (Option.some.inj e))]; exact ho
  obtain ⟨es, clock, hm, _⟩ := h.heV
  rw [scD_put (fun y hy => (h.ok y hy).1.1) hx] at ho
  refine ⟨hk _ _ h.blk fun e => ?_, h.arV.kept fun b' es' c' hb' hv => hk _ _ hb' fun e => h.ne (by rw [hv, e]), owns_fit ho, h.ok.set hx hu h1 h2, h.ne⟩
  have hb0 := h.blk
  rw [e, hm] at hb0
  cases hb0
end Go.Proofs.YtllhajjceecjdaaDoor
