/- XplexJoins: tokens as a text; a text as a string. -/
import Derived.Test.YtgabgeadeeaihaaDoorLexRefJoin
import Derived.Test.YtgabgeadeeaihaaDoorLexEnvOf
import Derived.Deep.Slices
namespace Go.Proofs.YtgabgeadeeaihaaDoor
open Go.RowKit
theorem joinK_len (ls : Lexs) (M : Nat) (h : ∀ x ∈ ls, x.2.1.size ≤ M) : ∀ k, (joinK ls k).length ≤ k * (M + 3)
  | 0 => Nat.zero_le _
  | k + 1 => by
    have ih := joinK_len ls M h k
    by_cases hk : k < ls.length
    · obtain ⟨x, hx⟩ : ∃ x, ls[k]? = some x := ⟨ls[k], List.getElem?_eq_getElem hk⟩
      rw [joinK_succ ls k x hx, List.length_append, List.length_append]
      have h1 := txtOf_le x.1 x.2.1
      have h2 := h x (List.mem_of_getElem? hx)
      have h3 : (if k = 0 then ([] : List UInt8) else [32]).length ≤ 1 := by split <;> simp
      have h4 : (txtOf x.1 x.2.1).data.toList.length = (txtOf x.1 x.2.1).size := rfl
      have h5 : (k + 1) * (M + 3) = k * (M + 3) + (M + 3) := Nat.succ_mul _ _
      omega
    · have e : joinK ls (k + 1) = joinK ls k := by
        unfold joinK
        rw [List.take_of_length_le (by omega), List.take_of_length_le (by omega)]
      rw [e]
      have h5 : (k + 1) * (M + 3) = k * (M + 3) + (M + 3) := Nat.succ_mul _ _
      omega
theorem joinK_bound (ls : Lexs) (hn : ls.length ≤ 1048576) (h : ∀ x ∈ ls, x.2.1.size ≤ 1048576) (k : Nat) : (joinK ls k).length ≤ 2000000000000 := by
  have h1 : joinK ls k = joinK ls (min k ls.length) := by
    unfold joinK
    rw [← List.take_eq_take_min]
  rw [h1]
  have h2 := joinK_len ls 1048576 h (min k ls.length)
  have h3 : min k ls.length * (1048576 + 3) ≤ 1048576 * (1048576 + 3) := Nat.mul_le_mul_right _ (by omega)
  omega
/-- Join of tokens that were handed in. -/
theorem join_arg (ls : Lexs) (ad : Option Addr) (cap : Nat) (w : World) (hat : ls ≠ [] → ∃ g o, ad = some ⟨g, o, none⟩ ∧ LexsAt w g o ls) (hn : ls.length ≤ 1048576) (hx : ∀ x ∈ ls, x.2.1.size ≤ 1048576) :
    Calls Tryd.prog 12 #[.slice ad ls.length cap] w fun e w' => e = .returned (.string ⟨(joinP ls).toArray⟩) ∧ Below w.heap.size w w' := by
  by_cases h0 : ls = []
  · subst h0
    exact join_none ad cap w
  · obtain ⟨g, o, rfl, h⟩ := hat h0
    refine join_any ls g o cap w h (by omega) (fun x hx' => by have := hx x hx'; omega) ?_
    have := joinK_bound ls hn hx ls.length
    rw [joinK_all] at this
    omega
theorem litV_form (s : ByteArray) : ∃ (t : ByteArray) (k : Int), litV s = .tuple #[.string t, .int .i64 k] := by
  unfold litV
  split
  · exact ⟨_, _, rfl⟩
  · exact ⟨_, _, rfl⟩
set_option maxRecDepth 100000 in
set_option maxHeartbeats 2000000 in
theorem joins5_walk (ls : Lexs) (ad : Option Addr) (cap : Nat) (s : ByteArray) (w : World) (hat : ls ≠ [] → ∃ g o, ad = some ⟨g, o, none⟩ ∧ LexsAt w g o ls) (hn : ls.length ≤ 1048576) (hx : ∀ x ∈ ls, x.2.1.size ≤ 1048576) (hs : s.size ≤ 1048576) (hE : Env5 w) :
    Calls Tryd.prog 3 #[.slice ad ls.length cap, .string s] w fun e w' => e = .returned (.bool true) ∧ Below w.heap.size w w' := by
  have HE := hide hE
  have HJ : Hid (∀ W, Below w.heap.size w W → Calls Tryd.prog 12 #[.slice ad ls.length cap] W fun e w' => e = .returned (.string ⟨(joinP ls).toArray⟩) ∧ Below W.heap.size W w') :=
    hide fun W hW => join_arg ls ad cap W (fun h0 => by obtain ⟨g, o, e, h⟩ := hat h0; exact ⟨g, o, e, h.below hW⟩) hn hx
  have HR : Hid (∀ W, Below w.heap.size w W → Calls Tryd.prog 13 #[.slice ad ls.length cap] W fun e w' => e = .returned (.string ⟨(joinP ls).toArray⟩) ∧ w' = W) :=
    hide fun W hW => refJoin_any ls ad cap W (fun h0 => by obtain ⟨g, o, e, h⟩ := hat h0; exact ⟨g, o, e, h.below hW⟩) (by omega) (fun x hx' => by have := hx x hx'; omega) (fun k => joinK_bound ls hn hx k)
  obtain ⟨t, k, hv⟩ := litV_form s
  have HV := hide hv
  clear hE hat hx hv
  generalize (⟨(joinP ls).toArray⟩ : ByteArray) = J at *
  go_enter Tryd.func3, Tryd.ntmps3
  go_wp2_with fail
  refine (literal_any s _ (by omega)).mono ?_
  rintro e w1 ⟨rfl, rfl⟩
  rw [unhide HV]
  go_wp2_with fail
  refine (refLiteral_any s _ (by omega)).mono ?_
  rintro e w1 ⟨rfl, rfl⟩
  rw [unhide HV]
  go_wp2_with fail
  refine (live_any _ (unhide HE)).mono ?_
  rintro e w2 ⟨rfl, hb2⟩
  go_wp2_with fail
  refine (unhide HJ _ hb2).mono ?_
  rintro e w3 ⟨rfl, hb3⟩
  have hbb3 := Below.then hb2 hb3
  go_wp2_with fail
  refine (unhide HR _ hbb3).mono ?_
  rintro e w4 ⟨rfl, rfl⟩
  go_wp2
  go_ret
  exact ⟨rfl, hbb3⟩
section
variable {H : Type} {enc : TypeId × Value → H} {W : World} {held : Bool}
theorem lex_read {fuel : Nat} {cs : List Value} {d : DataW H} {q : List MemPlace}
    (h : DataW.trod enc Tryd.prog W 0 (fun _ => true) held fuel 37 cs = some (d, q)) : ∃ (k a : Int) (s : ByteArray), cs = [.int .i64 k, .string s, .int .i64 a] ∧ s.size + 4 ≤ Rows.uptoBulk d := by
  obtain ⟨y0, y1, y2, n, hx, hl, h0, h1, h2⟩ := Deep.trod_struct3 Tryd.underlying37 h
  rw [cellsLex] at hl
  simp only [cellsKind, cellsString, cellsInt] at h0 h1 h2
  obtain ⟨z0, e0, rfl, _⟩ := DataW.trod_int Tryd.underlying35 h0
  obtain ⟨z1, e1, rfl, _⟩ := DataW.trod_string Tryd.underlying9 h1
  obtain ⟨z2, e2, rfl, _⟩ := DataW.trod_int Tryd.underlying3 h2
  match cs, hl with
  | [v0, v1, v2], _ =>
    simp at e0 e1 e2
    have hd := congrArg Prod.fst hx
    simp only at hd
    subst e0 e1 e2 hd
    refine ⟨z0, z2, z1, rfl, ?_⟩
    simp only [Rows.uptoBulk, Rows.uptoBulkAll]
    have : z1.data.toList.length = z1.size := rfl
    omega
theorem bulk_mem : ∀ (ds : List (DataW H)) (d : DataW H), d ∈ ds → Rows.uptoBulk d ≤ Rows.uptoBulkAll ds
  | [], _, h => by cases h
  | e :: ds, d, h => by
    rw [Rows.uptoBulkAll]
    rcases List.mem_cons.1 h with rfl | h
    · omega
    · have := bulk_mem ds d h; omega
theorem bulk_len : ∀ (ds : List (DataW H)), (∀ d ∈ ds, 1 ≤ Rows.uptoBulk d) → ds.length ≤ Rows.uptoBulkAll ds
  | [], _ => Nat.zero_le _
  | e :: ds, h => by
    have := bulk_len ds (fun d hd => h d (by simp [hd]))
    have h1 := h e (by simp)
    rw [Rows.uptoBulkAll, List.length_cons]
    omega
theorem open_lexs {fuel : Nat} {a : Option Addr} {len cap : Nat} {d : DataW H} {q : List MemPlace}
    (h : DataW.trod enc Tryd.prog W 0 (fun _ => true) held fuel 22 [.slice a len cap] = some (d, q)) :
    ∃ ls : Lexs, ls.length = len ∧ (ls ≠ [] → ∃ g o, a = some ⟨g, o, none⟩ ∧ LexsAt W g o ls) ∧ (∀ x ∈ ls, x.2.1.size ≤ Rows.uptoBulk d) ∧ len ≤ Rows.uptoBulk d := by
  rcases Deep.open_slice Tryd.underlying22 h with ⟨h0, _⟩ | ⟨ad, len', cap', m, n, D, Pl, hcs, hb, hl, hm, hmm, hx, hall⟩
  · cases h0
    exact ⟨[], rfl, (fun h => absurd rfl h), (fun x hx => by cases hx), Nat.zero_le _⟩
  · cases hcs
    have hd : d = .slice ((List.range len).map D) ((List.range (m - len)).map fun j => D (len + j)) := congrArg Prod.fst hx
    have hlm : len ≤ m := by rw [hmm]; simp; omega
    have each : ∀ i, i < len → ∃ y : Int × ByteArray × Int, W.cell? (ad.add (i * 3)) = some (.int .i64 y.1) ∧ W.cell? (ad.add (i * 3 + 1)) = some (.string y.2.1) ∧ W.cell? (ad.add (i * 3 + 2)) = some (.int .i64 y.2.2) ∧ y.2.1.size + 4 ≤ Rows.uptoBulk (D i) := by
      intro i hi
      obtain ⟨cs', h1, h2⟩ := hall i (by omega)
      rw [cellsLex] at h1
      obtain ⟨k, a, s, rfl, hsz⟩ := lex_read h2
      obtain ⟨_, _, hcell⟩ := World.cells?_some h1
      have e0 := hcell 0 (by omega)
      have e1 := hcell 1 (by omega)
      have e2 := hcell 2 (by omega)
      rw [Deep.add_add] at e0 e1 e2
      exact ⟨(k, s, a), by simpa using e0, by simpa using e1, by simpa using e2, hsz⟩
    obtain ⟨f, hf⟩ := Deep.choose_lt each
    refine ⟨(List.range len).map f, by simp, fun hne => ?_, fun x hx => ?_, ?_⟩
    · have hlen : 0 < len := by
        cases len with
        | zero => exact absurd rfl hne
        | succ n => omega
      obtain ⟨b, o, sp⟩ := ad
      have hsp : sp = none := by
        have := (hf 0 hlen).1
        simpa [Addr.add] using World.cell?_spot this
      subst hsp
      refine ⟨b, o, rfl, fun i x hx => ?_⟩
      rw [List.getElem?_map] at hx
      obtain ⟨j, hj, rfl⟩ := Option.map_eq_some_iff.1 hx
      have hij : i < len ∧ j = i := by
        obtain ⟨h1, h2⟩ := List.getElem?_eq_some_iff.1 hj
        simp at h1 h2
        exact ⟨h1, h2.symm⟩
      obtain ⟨hi, rfl⟩ := hij
      obtain ⟨e0, e1, e2, _⟩ := hf j hi
      rw [Addr.add_mid] at e0 e1 e2
      exact ⟨e0, by rw [Nat.add_assoc]; exact e1, by rw [Nat.add_assoc]; exact e2⟩
    · obtain ⟨i, hi, rfl⟩ := List.mem_map.1 hx
      have hi' : i < len := by simpa using hi
      have h1 := (hf i hi').2.2.2
      have h2 := bulk_mem ((List.range len).map D) (D i) (List.mem_map.2 ⟨i, hi, rfl⟩)
      rw [hd, Rows.uptoBulk]
      omega
    · have h2 := bulk_len ((List.range len).map D) (fun d hd => by
        obtain ⟨i, hi, rfl⟩ := List.mem_map.1 hd
        have h1 := (hf i (by simpa using hi)).2.2.2
        omega)
      rw [List.length_map, List.length_range] at h2
      rw [hd, Rows.uptoBulk]
      omega
end
end Go.Proofs.YtgabgeadeeaihaaDoor
