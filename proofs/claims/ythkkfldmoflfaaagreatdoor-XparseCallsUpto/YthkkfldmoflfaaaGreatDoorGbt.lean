/- Several texts, laid as one. -/
import Derived.Test.YthkkfldmoflfaaaGreatDoorGbp
import Derived.Test.YthkkfldmoflfaaaGreatDoorGbs
import Derived.Test.YthkkfldmoflfaaaGreatDoorGbo
import Derived.Test.YthkkfldmoflfaaaGreatDoorShelf
import Derived.Test.YthkkfldmoflfaaaGreatDoorGaa
import Derived.Test.YthkkfldmoflfaaaGreatDoorGar
import Derived.Shelf.Strings.BuilderK
/- What is right in a call is right to the reference. -/
namespace Go.Proofs.YthkkfldmoflfaaaGreatDoor
/-- What the judge takes is not deep, and counted. -/
theorem j_dep (fl : Ex → Bool) : ∀ n, (∀ d c e c', jPart fl n d c e = some (true, c') → d + depthX e ≤ 33 ∧ c' = c + sizeX e) ∧ (∀ d c e c', jKids fl n d c e = some (true, c') → (depthKs e.kids = 0 ∨ d + depthKs e.kids ≤ 33) ∧ c' = c + sizeKs e.kids) ∧ (∀ d c e c', jRight fl n d c e = some (true, c') → d + depthX e ≤ 33 ∧ c' = c + sizeX e) ∧ (∀ d c ks c', jAll fl n d c ks = some (true, c') → (depthKs ks = 0 ∨ d + depthKs ks ≤ 33) ∧ c' = c + sizeKs ks) ∧ (∀ d c ks c', jSteps fl n d c ks = some (true, c') → (depthKs ks = 0 ∨ d + depthKs ks ≤ 33) ∧ c' = c + sizeKs ks) ∧ (∀ d c ks c', jPath fl n d c ks = some (true, c') → (depthKs ks = 0 ∨ d + depthKs ks ≤ 33) ∧ c' = c + sizeKs ks)
  | 0 => by
    refine ⟨?_, ?_, ?_, ?_, ?_, ?_⟩ <;> (intros; rename_i h; simp [jPart, jKids, jRight, jAll, jSteps, jPath] at h)
  | n + 1 => by
    obtain ⟨i1, i2, i3, i4, i5, i6⟩ := j_dep fl n
    refine ⟨?_, ?_, ?_, ?_, ?_, ?_⟩
    · intro d c e c' h
      rw [jPart] at h
      split at h
      · rename_i h0
        have := i2 _ _ _ _ h
        have := sizeX_kids e
        have := depthX_kids e
        omega
      · cases h
    · intro d c e c' h
      rw [jKids] at h
      split at h
      · exact i6 _ _ _ _ h
      · split at h
        · exact i4 _ _ _ _ h
        · cases h
    · intro d c e c' h
      rw [jRight] at h
      split at h
      · exact i1 _ _ _ _ h
      · cases h
    · intro d c ks c' h
      cases ks with
      | nil => rw [jAll] at h; cases h; rw [sizeKs, depthKs]; omega
      | cons k ks =>
        rw [jAll] at h
        obtain ⟨c1, h1, h2⟩ := JR.then_some h
        have := i3 _ _ _ _ h1
        have := i4 _ _ _ _ h2
        rw [sizeKs, depthKs]
        omega
    · intro d c ks c' h
      cases ks with
      | nil => rw [jSteps] at h; cases h; rw [sizeKs, depthKs]; omega
      | cons k ks =>
        rw [jSteps] at h
        split at h
        · obtain ⟨c1, h1, h2⟩ := JR.then_some h
          have := i1 _ _ _ _ h1
          have := i5 _ _ _ _ h2
          rw [sizeKs, depthKs]
          omega
        · cases h
    · intro d c ks c' h
      cases ks with
      | nil => rw [jPath] at h; cases h
      | cons k ks =>
        rw [jPath] at h
        split at h
        · cases h
        · obtain ⟨c1, h1, h2⟩ := JR.then_some h
          have := i5 _ _ _ _ h2
          rw [sizeKs, depthKs]
          split at h1
          · have := i1 _ _ _ _ h1
            omega
          · have := i3 _ _ _ _ h1
            omega
theorem okX_kid {x : Ex} {j c : Nat} (hz : smallX x = true) (h : jRight flX (wt (.mk 19 [102] 0 0 0 (List.replicate (j + 1) x))) 0 0 (.mk 19 [102] 0 0 0 (List.replicate (j + 1) x)) = some (true, c)) : okX x := by
  have hJ : okJ (.mk 19 [102] 0 0 0 (List.replicate (j + 1) x)) = true := by
    unfold okJ
    rw [h]
  obtain ⟨c1, h1⟩ := okJ_true (okJ_kid hJ)
  have h2 := (j_dep flX _).2.2.1 _ _ _ _ h
  have h3 := jright_pos h
  rw [sizeX_kids, depthX_kids] at h2
  rw [show (Ex.mk 19 [102] 0 0 0 (List.replicate (j + 1) x)).kids = x :: List.replicate j x from rfl, sizeKs, depthKs] at h2
  exact ⟨hz, by omega, by omega, wt x, c1, h1⟩
mutual
theorem sameX_me : ∀ x : Ex, sameX x x = true
  | .mk o t m a k ks => by
    rw [sameX]
    show ((o == o && (t == t && (m == m && (a == a && (k == k && ks.length == ks.length))))) && sameKs ks ks) = true
    rw [sameKs_me ks]
    simp
theorem sameKs_me : ∀ ks : List Ex, sameKs ks ks = true
  | [] => by rw [sameKs]
  | x :: xs => by rw [sameKs_cons, sameX_me x, sameKs_me xs]; rfl
end
end Go.Proofs.YthkkfldmoflfaaaGreatDoor
/- XparseCalls: has a text a comma, or a sign that may hold one. -/
namespace Go.Proofs.YthkkfldmoflfaaaGreatDoor
open Go.RowKit Go.Maps
def comP (b : UInt8) : Bool := b == 44 || b == 39 || b == 34 || b == 41 || b == 40
theorem comP_is (b : UInt8) : comP b = (b.toNat == 44 || b.toNat == 39 || b.toNat == 34 || b.toNat == 41 || b.toNat == 40) := by
  have h : ∀ n : Nat, n < 256 → (b == UInt8.ofNat n) = (b.toNat == n) := fun n hn => by
    rw [Bool.eq_iff_iff, beq_iff_eq, beq_iff_eq]
    constructor
    · intro e; rw [e, UInt8.toNat_ofNat']; omega
    · intro e; rw [← e]; simp
  unfold comP
  rw [← h 44 (by decide), ← h 39 (by decide), ← h 34 (by decide), ← h 41 (by decide), ← h 40 (by decide)]
  rfl
theorem com_at {s : ByteArray} {k : Nat} (hp : k < s.size) (h : comP (s[k]'hp) = true) : comB s = true := by
  have : s.data.toList.any comP = true := List.any_eq_true.2 ⟨_, List.getElem_mem (show k < s.data.toList.length from hp), h⟩
  exact this
theorem com_on {s : ByteArray} {k : Nat} (hp : k < s.size) (h : comP (s[k]'hp) = false) (h0 : (s.data.toList.take k).any comP = false) : (s.data.toList.take (k + 1)).any comP = false := by
  rw [← List.take_append_getElem (show k < s.data.toList.length from hp), List.any_append, h0, List.any_cons, show comP (s.data.toList[k]'hp) = false from h]
  rfl
set_option maxRecDepth 100000 in
set_option maxHeartbeats 1000000 in
theorem commas_any (s : ByteArray) (w : World) (hs : s.size ≤ 512) :
    Calls Tryz.prog 10 #[.string s] w fun e w' => e = .returned (.bool (comB s)) ∧ w' = w := by
  have hl : s.data.toList.length = s.size := rfl
  go_enter Tryz.func10, Tryz.ntmps10
  go_wp2_with fail
  go_loop [3] (fun v => ∃ k : Nat, v = .int .i64 (k : Nat) ∧ k ≤ s.size ∧ Hid ((s.data.toList.take k).any comP = false)) (fun v => s.size - (intOf v).toNat)
  case atStart => exact ⟨0, rfl, Nat.zero_le _, hide rfl⟩
  case round =>
    obtain ⟨k, rfl, hk, HK⟩ := hrel
    by_cases hp : k < s.size
    · have HT := hide (fun h => com_at (k := k) hp h)
      have HF := hide (fun h => com_on (k := k) hp h (unhide HK))
      have hw : IntKind.i64.wrap ((k : Int) + 1) = ((k + 1 : Nat) : Int) := by rw [wrap_small] <;> omega
      rw [comP_is] at HT HF
      clear HK
      obtain ⟨c, hc⟩ : ∃ c, (s[k]'hp).toNat = c := ⟨_, rfl⟩
      rw [hc] at HT HF
      have hcase : c = 44 ∨ (c ≠ 44 ∧ c = 39) ∨ (c ≠ 44 ∧ c ≠ 39 ∧ c = 34) ∨ (c ≠ 44 ∧ c ≠ 39 ∧ c ≠ 34 ∧ c = 41) ∨ (c ≠ 44 ∧ c ≠ 39 ∧ c ≠ 34 ∧ c ≠ 41 ∧ c = 40) ∨ (c ≠ 44 ∧ c ≠ 39 ∧ c ≠ 34 ∧ c ≠ 41 ∧ c ≠ 40) := by omega
      rcases hcase with rfl | ⟨q1, rfl⟩ | ⟨q1, q2, rfl⟩ | ⟨q1, q2, q3, rfl⟩ | ⟨q1, q2, q3, q4, rfl⟩ | ⟨q1, q2, q3, q4, q5⟩
      · have hr := unhide HT rfl
        clear HT HF
        go_wp2_with fail
        go_returns
        exact ⟨rfl, rfl⟩
      · have hr := unhide HT rfl
        clear HT HF
        go_wp2_with fail
        go_returns
        exact ⟨rfl, rfl⟩
      · have hr := unhide HT rfl
        clear HT HF
        go_wp2_with fail
        go_returns
        exact ⟨rfl, rfl⟩
      · have hr := unhide HT rfl
        clear HT HF
        go_wp2_with fail
        go_returns
        exact ⟨rfl, rfl⟩
      · have hr := unhide HT rfl
        clear HT HF
        go_wp2_with fail
        go_returns
        exact ⟨rfl, rfl⟩
      · have hf := unhide HF (by simp [q1, q2, q3, q4, q5])
        have HF2 := hide hf
        clear HT HF hf
        have p1 : ((c : Int) == 44) = false := by simpa using fun h => q1 (by omega)
        have p2 : ((c : Int) == 39) = false := by simpa using fun h => q2 (by omega)
        have p3 : ((c : Int) == 34) = false := by simpa using fun h => q3 (by omega)
        have p4 : ((c : Int) == 41) = false := by simpa using fun h => q4 (by omega)
        have p5 : ((c : Int) == 40) = false := by simpa using fun h => q5 (by omega)
        clear q1 q2 q3 q4 q5
        go_wp2_with fail
        exact ⟨⟨k + 1, by go_num, by omega, HF2⟩, by show s.size - ((k : Int) + 1).toNat < s.size - (k : Int).toNat; omega⟩
    · have hr : comB s = false := by
        have h := unhide HK
        rw [List.take_of_length_le (by omega)] at h
        exact h
      clear HK
      go_wp2_with fail
      go_returns
      exact ⟨rfl, rfl⟩
end Go.Proofs.YthkkfldmoflfaaaGreatDoor
/- The texts that TopWithin makes. -/
namespace Go.Proofs.YthkkfldmoflfaaaGreatDoor
open Go.RowKit Go.Maps
end Go.Proofs.YthkkfldmoflfaaaGreatDoor
/- What Parse leaves, in one form: an expression and a number. -/
namespace Go.Proofs.YthkkfldmoflfaaaGreatDoor
open Go.RowKit Go.Maps
def outG (w : World) (r : Except Int Ex) (e : Ending) (w' : World) : Prop := ∃ (x : Ex) (al : Option Addr) (cc : Nat) (f : Int), e = .returned (.tuple #[exAgg x (.slice al x.kids.length cc), .int .i64 f]) ∧ exV w' (fun j => w.heap.size ≤ j) x (.slice al x.kids.length cc) ∧ Below w.heap.size w w' ∧ ((r = .ok x ∧ f = 0) ∨ r = .error f)
theorem outG_of {w w' : World} {r : Except Int Ex} {e : Ending} (h : outP w r e w') : outG w r e w' := by
  cases r with
  | ok x =>
    obtain ⟨al, cc, h1, h2, h3⟩ := h
    exact ⟨x, al, cc, 0, h1, h2, h3, .inl ⟨rfl, rfl⟩⟩
  | error f =>
    obtain ⟨h1, h2⟩ := h
    exact ⟨noX, none, 0, f, h1, exV.leaf okL_nil9, h2, .inr rfl⟩
/-- Parse tells r: in one form. -/
theorem ParseIs.one {s : ByteArray} {r : Except Int Ex} (h : ParseIs s r) (w : World) (hG : EnvG w) : Calls Tryz.prog 6 #[.string s] w (outG w r) := (h w hG).mono fun _ _ hh => outG_of hh
end Go.Proofs.YthkkfldmoflfaaaGreatDoor
/- xparse's writer is a strings.Builder in a block of its own type: copyCheck, WriteString, String. -/
namespace Go.Proofs.YthkkfldmoflfaaaGreatDoor
open Go.RowKit Go.Shelf
set_option maxRecDepth 100000 in
theorem wbl_used (b : Nat) (w : World) (h0 : w.cell? ⟨b, 0, none⟩ = some (.pointer (some ⟨b, 0, none⟩))) :
    Calls Tryz.prog 86 #[.pointer (some ⟨b, 0, none⟩)] w fun e w' => e = .returned (.tuple #[]) ∧ w' = w := by
  obtain ⟨j, hj, _⟩ := Option.map_eq_some_iff.1 (show (Tryz.prog.info? 75).map (·.size) = some 2 by kernel_rfl)
  go_enter Tryz.func86, Tryz.ntmps86
  go_wp2
  rw [Lib.run_neq_ptr_same w _ Tryz.underlying72 hj]
  go_wp2
  go_end0
  exact ⟨rfl, rfl⟩
set_option maxRecDepth 100000 in
theorem wbl_fresh (b : Nat) (w : World) (h0 : w.cell? ⟨b, 0, none⟩ = some (.pointer none)) (hsh : w.shape? b = some (77, 2)) (hfz : w.frozen? ⟨b, 0, none⟩ = false) :
    Calls Tryz.prog 86 #[.pointer (some ⟨b, 0, none⟩)] w fun e w' => e = .returned (.tuple #[]) ∧ w' = w.setCell ⟨b, 0, none⟩ (.pointer (some ⟨b, 0, none⟩)) := by
  obtain ⟨j, hj, hjs⟩ := Option.map_eq_some_iff.1 (show (Tryz.prog.info? 75).map (·.size) = some 2 by kernel_rfl)
  go_enter Tryz.func86, Tryz.ntmps86
  go_wp2
  rw [Lib.run_to_unsafe w ⟨b, 0, none⟩ Tryz.underlying72 Tryz.underlying142 hj (by rw [hjs]; decide) hsh (Nat.zero_lt_succ 1)]
  simp only [Result.andThen]
  rw [Oper.upon_value]
  go_wp2
  rw [run_callFunc_extern Tryz.func116 (by kernel_rfl) (by kernel_rfl) (by kernel_rfl) (e := Extern.AbiNoEscape.same) (by kernel_rfl)]
  rw [Lib.run_noEscape]
  simp only [Result.andThen]
  rw [Oper.upon_value]
  go_wp2
  rw [Lib.run_from_unsafe w ⟨b, 0, none⟩ Tryz.underlying142 Tryz.underlying72 hj hsh (by kernel_rfl)]
  simp only [Result.andThen]
  rw [Oper.upon_value]
  go_wp2
  go_end0
  exact ⟨rfl, rfl⟩
/-- A builder, whether it was written or not. -/
abbrev IsW (B b : Nat) (bs : List Value) (w : World) : Prop := Lib.IsBuilderF 77 5 B b bs w
abbrev KeptW (b : Nat) (w w' : World) : Prop := Lib.OthersKept 5 (some b) w w'
theorem wcopyCheck_any (B b : Nat) (bs : List Value) (w : World) (h : IsW B b bs w) :
    Calls Tryz.prog 86 #[.pointer (some ⟨b, 0, none⟩)] w fun e w' => e = .returned (.tuple #[]) ∧ Lib.BuilderAtF 77 5 B b (.pointer (some ⟨b, 0, none⟩)) bs w' ∧ Below B w w' ∧ KeptW b w w' := by
  rcases h with h | h
  · refine (wbl_fresh b w h.cell0 h.shape h.frozen0).mono ?_
    rintro e w' ⟨rfl, rfl⟩
    exact ⟨rfl, h.used _, (Below.refl B w).setCell (p := ⟨b, 0, none⟩) h.1 _, (Lib.OthersKept.refl _ _ w).setCell ⟨b, 0, none⟩ rfl _⟩
  · refine (wbl_used b w h.cell0).mono ?_
    rintro e w' ⟨rfl, rfl⟩
    exact ⟨rfl, h, Below.refl B _, Lib.OthersKept.refl _ _ _⟩
set_option maxHeartbeats 2000000 in
set_option maxRecDepth 100000 in
theorem wwriteString_any (B b : Nat) (bs : List Value) (s : ByteArray) (w : World) (h : IsW B b bs w) (hlen : bs.length + s.size ≤ 140737488355328) (hBw : B ≤ w.heap.size) :
    Calls Tryz.prog 51 #[.pointer (some ⟨b, 0, none⟩), .string s] w fun e w' => e = .returned (.tuple #[.int .i64 s.size, .nilIface]) ∧ IsW B b (bs ++ Lib.strCells s) w' ∧ Below B w w' ∧ KeptW b w w' := by
  obtain ⟨i0, hi, hz0, hz1, hz2⟩ := info_parts Tryz.Builder_Extra_169.infoByte
  have HC := hide (wcopyCheck_any B b bs w h)
  clear h
  go_enter Tryz.func51, Tryz.ntmps51
  go_wp2_with fail
  refine (unhide HC).mono ?_
  rintro e w1 ⟨rfl, h1, hb1, hk1⟩
  obtain ⟨hB, v, hbk, hown, hne⟩ := h1
  have c0 : w1.cell? ⟨b, 0, none⟩ = some (.pointer (some ⟨b, 0, none⟩)) := by rw [Lib.cell_of_heap hbk]; rfl
  have c1 : w1.cell? ⟨b, 1, none⟩ = some v := by rw [Lib.cell_of_heap hbk]; rfl
  go_wp2_with (at_builtin; refine Lib.wpList_append_own_stringF _ rfl _ _ 73 9 rfl B 5 i0 Tryz.underlying73 Tryz.underlying9 hi hz0 hz1 hz2 _ _ _ rfl hown s rfl ?c3 ?c4 ?c5 ?_)
  case c3 => unfold maxLen; omega
  case c4 => omega
  case c5 => have := hb1.size; omega
  intro v' w2 hown' hgrow _
  have hlt : b < w1.heap.size := (Array.getElem?_eq_some_iff.1 hbk).1
  have hb2 : w2.heap[b]? = some (.cells #[.pointer (some ⟨b, 0, none⟩), v] 77 (0, 0)) := by
    rw [hgrow.block b hlt (fun e => hne e.symm)]
    exact hbk
  have d0 : w2.cell? ⟨b, 0, none⟩ = some (.pointer (some ⟨b, 0, none⟩)) := by rw [Lib.cell_of_heap hb2]; rfl
  have d1 : w2.cell? ⟨b, 1, none⟩ = some v := by rw [Lib.cell_of_heap hb2]; rfl
  have f1 : w2.frozen? ⟨b, 1, none⟩ = false := Lib.frozen_of_heap hb2 1
  obtain ⟨ao, n', cap, rfl⟩ : ∃ ao n' cap, v' = .slice ao n' cap := by
    rcases hown'.2 with ⟨hv, _⟩ | ⟨g, cap, cur, fz, hv, _⟩
    · exact ⟨_, _, _, hv⟩
    · exact ⟨_, _, _, hv⟩
  go_wp2
  go_ret2
  refine ⟨rfl, .inr ?_, ?_, (hk1.grown hgrow (Lib.ownsRowF_kind hown)).setCell ⟨b, 1, none⟩ rfl _⟩
  · exact Lib.BuilderAtF.put (T := 77) (e := 5) hB hb2 (bs' := bs ++ Lib.strCells s) (by simpa [Lib.strCells_length] using hown') (by decide)
  · exact (hb1.grown hgrow (by have := hb1.size; omega) (fun k hk => (hown.lt k hk).1)).setCell (p := ⟨b, 1, none⟩) hB _
set_option maxRecDepth 100000 in
set_option maxHeartbeats 2000000 in
theorem wstring_any (B b : Nat) (l : List UInt8) (w : World) (h : IsW B b (Lib.byteCells l) w) (h0 : l ≠ []) (hl : l.length ≤ 1000000) :
    Calls Tryz.prog 30 #[.pointer (some ⟨b, 0, none⟩)] w fun e w' => e = .returned (.string ⟨l.toArray⟩) ∧ Below B w w' := by
  obtain ⟨p, hAt⟩ : ∃ p, Lib.BuilderAtF 77 5 B b p (Lib.byteCells l) w := by
    rcases h with h | h
    · exact ⟨_, h⟩
    · exact ⟨_, h⟩
  obtain ⟨hB, v, hbk, hown, hne⟩ := hAt
  have hl0 : l.length ≠ 0 := by simpa using h0
  rw [Lib.byteCells_length] at hown
  obtain ⟨g, cap, cur, fz, rfl, hbg, hg, hnc, hcm, hcs⟩ : ∃ g cap cur fz, v = .slice (some ⟨g, 0, none⟩) l.length cap ∧ B ≤ g ∧ w.heap[g]? = some (.cells cur 5 fz) ∧ l.length ≤ cap ∧ cap ≤ maxLen ∧ cur.size = cap * 1 := by
    rcases hown.2 with ⟨_, hz⟩ | ⟨g, cap, cur, fz, hv, r1, r2, r3, r4, r5, r6, r7⟩
    · exact absurd hz hl0
    · exact ⟨g, cap, cur, fz, hv, r1, r2, r4, r5, r6⟩
  have c1 : w.drew.cell? ⟨b, 1, none⟩ = some (.slice (some ⟨g, 0, none⟩) l.length cap) := by
    have h1 : w.drew.heap[b]? = some (.cells #[p, .slice (some ⟨g, 0, none⟩) l.length cap] 77 (0, 0)) := hbk
    rw [Lib.cell_of_heap h1]; rfl
  have hSD : (Builtin.unsafeSliceData_ #[73] 104 #[.slice (some ⟨g, 0, none⟩) l.length cap]).run Tryz.prog w.drew = .ok (.pointer (some ⟨g, 0, none⟩)) w.drew :=
    Lib.run_unsafeSliceData_row _ _ _ _ _ _ (by omega)
  have hUS : (Builtin.unsafeString_ #[104, 3] 9 #[.pointer (some ⟨g, 0, none⟩), .int .i64 l.length]).run Tryz.prog w.drew = .ok (.string ⟨l.toArray⟩) (w.drew.freeze ⟨g, 0, none⟩ l.length) := by
    refine Lib.run_unsafeString_row w.drew 104 3 9 5 (by kernel_rfl) (by kernel_rfl) g cur.size (by have hg' : w.drew.heap[g]? = some (.cells cur 5 fz) := hg; simp [World.shape?, hg']) l h0 (by omega) (by omega) ?_
    intro j x hx
    exact hown.cells (g := g) rfl j (.int .u8 x.toNat) (by simp [Lib.byteCells, hx])
  clear hown hne hcs hcm hg hbk h
  go_enter Tryz.func30, Tryz.ntmps30
  have mixed : Tryz.prog.follows .mixedOrders = true := by kernel_rfl
  go_wp2
  go_region_o
  all_goals (go_wp2; go_ret; exact ⟨rfl, Lib.below_freeze (Below.drew (Below.refl B w)) (p := ⟨g, 0, none⟩) hbg _⟩)
end Go.Proofs.YthkkfldmoflfaaaGreatDoor
