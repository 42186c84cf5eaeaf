/- Several texts, laid as one. -/
import Derived.Test.YtmemcabipcccaaaGreatDoorGah
import Derived.Test.YtmemcabipcccaaaGreatDoorGai
import Derived.Deep.RegionHeld3
/- The reference's IsName and Split give what the program's give. -/
namespace Go.Proofs.YtmemcabipcccaaaGreatDoor
open Go.RowKit
theorem refBegins_at (r : Nat) (hr : r ≤ 2147483647) (w : World) :
    Calls Tryz.prog 72 #[.int .i32 r] w fun e w' => e = .returned (.bool (beginB r)) ∧ Below w.heap.size w w' := by
  rw [beginB_eq r (by omega)]; exact refBegins_any r w
theorem refGoesOn_at (r : Nat) (hr : r ≤ 2147483647) (w : World) :
    Calls Tryz.prog 73 #[.int .i32 r] w fun e w' => e = .returned (.bool (goesB r)) ∧ Below w.heap.size w w' := by
  rw [goesB_eq r (by omega)]; exact refGoesOn_any r w
set_option maxHeartbeats 1000000 in
theorem refIsName_any (s : ByteArray) (w : World) (hs : s.size ≤ 4294967280) (hE : Env w) :
    Calls Tryz.prog 45 #[.string s] w fun e w' => e = .returned (.bool (nameB s)) ∧ Below w.heap.size w w' := by
  have HE := hide hE
  clear hE
  have HN := hide (nameB_eq s)
  cases ht : textR s
  · have HT := hide ht
    clear ht
    go_enter Tryz.func45, Tryz.ntmps45
    go_wp2_with fail
    refine (refIsText_any s _ hs (unhide HE)).mono ?_
    rintro e w' ⟨rfl, hb⟩
    rw [unhide HT]
    go_wp2
    go_ret
    exact ⟨ret_bool (by rw [unhide HN, unhide HT]; rfl), hb⟩
  · have HT := hide ht
    clear ht
    by_cases h0 : s.toList = []
    · go_enter Tryz.func45, Tryz.ntmps45
      go_wp2_with fail
      refine (refIsText_any s _ hs (unhide HE)).mono ?_
      rintro e w' ⟨rfl, hb⟩
      rw [unhide HT]
      go_wp2
      go_ret
      have e0 : s.data.toList.isEmpty = true := by rw [← toList_data, h0]; rfl
      exact ⟨ret_bool (by rw [unhide HN, unhide HT, e0]; rfl), hb⟩
    · have h0' : s.toList.isEmpty = false := by cases h : s.toList with | nil => exact absurd h h0 | cons _ _ => rfl
      go_enter Tryz.func45, Tryz.ntmps45
      go_wp2_with fail
      refine (refIsText_any s _ hs (unhide HE)).mono ?_
      rintro e w' ⟨rfl, hb⟩
      rw [unhide HT]
      go_wp2_with fail
      go_loopw [3] (fun i wr => ∃ (pos f : Nat), i = .int .i64 pos ∧ pos ≤ s.size ∧ Below w'.heap.size w' wr ∧ nameFrom s (s.size + 1) 0 = nameFrom s f pos ∧ s.size < pos + f) (fun i wr => s.size - (intOf i).toNat)
      case atStart => exact ⟨0, s.size + 1, rfl, Nat.zero_le _, Below.refl _ _, rfl, by omega⟩
      case round =>
        obtain ⟨pos, f, rfl, hps, hbr, hf, hfu⟩ := hrel
        by_cases hp : pos < s.size
        · have hwd := width_pos s pos hp
          have hdl := decode_le s pos
          obtain ⟨_, _, hwe⟩ := decode_bytes s pos hp
          obtain ⟨g, rfl, hg⟩ := nameFrom_step s f pos hp hfu
          have HF := hide (hf.trans hg)
          clear hf hg
          go_wp2_with fail
          refine (decodeRune_at s pos _ hp (((unhide HE).below hb).below hbr)).mono ?_
          rintro e w1 ⟨rfl, hb1⟩
          generalize hd : Utf8.decode s pos = d at *
          clear hd
          by_cases hz : pos = 0
          · subst hz
            go_wp2_with (first | (go_at_call 72; refine (refBegins_at _ hdl _).mono ?_; rintro e w2 ⟨rfl, hb2⟩) | (go_at_call 73; refine (refGoesOn_at _ hdl _).mono ?_; rintro e w3 ⟨rfl, hb3⟩))
            all_goals first
              | (go_ret
                 refine ⟨ret_bool ?_, Below.then hb (Below.then hbr (Below.then hb1 (by first | exact Below.then hb2 hb3 | exact hb2 | exact hb3)))⟩
                 have key : nameFrom s (s.size + 1) 0 = false := by rw [unhide HF]; simp [*]
                 simp [nameB, key])
              | (exact ⟨⟨0 + d.2, g, by go_num, hwe, Below.then hbr (Below.then hb1 (by first | exact Below.then hb2 hb3 | exact hb2 | exact hb3)), by rw [unhide HF]; simp_all, by omega⟩, by simp [intOf]; omega⟩)
          · have hz' : ((pos : Int) == 0) = false := by simpa using hz
            go_wp2_with (first | (go_at_call 72; refine (refBegins_at _ hdl _).mono ?_; rintro e w2 ⟨rfl, hb2⟩) | (go_at_call 73; refine (refGoesOn_at _ hdl _).mono ?_; rintro e w3 ⟨rfl, hb3⟩))
            all_goals first
              | (go_ret
                 refine ⟨ret_bool ?_, Below.then hb (Below.then hbr (Below.then hb1 (by first | exact Below.then hb2 hb3 | exact hb2 | exact hb3)))⟩
                 have key : nameFrom s (s.size + 1) 0 = false := by rw [unhide HF]; simp [*]
                 simp [nameB, key])
              | (exact ⟨⟨pos + d.2, g, by go_num, hwe, Below.then hbr (Below.then hb1 (by first | exact Below.then hb2 hb3 | exact hb2 | exact hb3)), by rw [unhide HF]; simp_all, by omega⟩, by simp [intOf]; omega⟩)
        · have HF := hide (hf.trans (nameFrom_end s f pos hp))
          clear hf
          go_wp2
          go_ret
          refine ⟨ret_bool ?_, Below.then hb hbr⟩
          have e0 : s.data.toList.isEmpty = false := by rw [← toList_data]; exact h0'
          rw [unhide HN, unhide HT, unhide HF, e0]; rfl
theorem splitV_at (s : ByteArray) (k : Nat) (hk : k < s.size) (hc : (s.get! k).toNat = 58) (hno : ∀ j, j < k → (s.get! j).toNat ≠ 58) :
    splitP s.data.toList = s.data.toList.take k ∧ splitN s.data.toList = s.data.toList.drop (k + 1) ∧ splitB s.data.toList = (nameB ⟨(s.data.toList.take k).toArray⟩ && nameB ⟨(s.data.toList.drop (k + 1)).toArray⟩) := by
  have hl : s.data.toList.length = s.size := rfl
  have h58 : s.data.toList[k]'hk = 58 := by
    rw [get_data s k hk] at hc
    exact UInt8.toNat_inj.1 (show _ = (58 : UInt8).toNat from hc)
  have hn : 58 ∉ s.data.toList.take k := by
    intro hm
    obtain ⟨j, hj, he⟩ := List.getElem_of_mem hm
    rw [List.length_take] at hj
    have := hno j (by omega)
    rw [get_data s j (by omega)] at this
    rw [List.getElem_take] at he
    rw [he] at this
    exact this rfl
  have e : s.data.toList = s.data.toList.take k ++ 58 :: s.data.toList.drop (k + 1) := by
    conv => lhs; rw [← List.take_append_drop k s.data.toList]
    rw [List.drop_eq_getElem_cons (by omega), h58]
  have c := cut_first (s.data.toList.take k) (s.data.toList.drop (k + 1)) 58 hn
  rw [← e] at c
  unfold splitB splitP splitN
  rw [c]
  simp
theorem splitV_none (s : ByteArray) (hno : ∀ j, j < s.size → (s.get! j).toNat ≠ 58) : splitP s.data.toList = [] ∧ splitN s.data.toList = s.data.toList ∧ splitB s.data.toList = nameB s := by
  have hl : s.data.toList.length = s.size := rfl
  have hn : 58 ∉ s.data.toList := by
    intro hm
    obtain ⟨j, hj, he⟩ := List.getElem_of_mem hm
    have := hno j hj
    rw [get_data s j hj, he] at this
    exact this rfl
  have hi : ∀ l : List UInt8, 58 ∉ l → Lib.indexByte l 58 = -1 := by
    intro l
    induction l with
    | nil => intro _; rfl
    | cons x l ih =>
      intro h
      have hx : ¬ (x == 58) = true := fun e => h (by rw [beq_iff_eq.1 e]; simp)
      have := ih (fun hm => h (List.mem_cons_of_mem _ hm))
      simp only [Lib.indexByte, hx, this]
      simp
  have c : Lib.cut s.data.toList [58] = (s.data.toList, [], false) := by
    unfold Lib.cut
    rw [Lib.index_one, hi _ hn, if_neg (by decide)]
  unfold splitB splitP splitN
  rw [c]
  simp
theorem take_extract (s : ByteArray) (k : Nat) : (⟨(s.data.toList.take k).toArray⟩ : ByteArray) = s.extract 0 k := by
  apply ByteArray.ext
  rw [ByteArray.data_extract]
  apply Array.ext'
  simp
theorem drop_extract (s : ByteArray) (k : Nat) : (⟨(s.data.toList.drop k).toArray⟩ : ByteArray) = s.extract k s.size := by
  apply ByteArray.ext
  rw [ByteArray.data_extract]
  apply Array.ext'
  simp [List.take_of_length_le]
set_option maxHeartbeats 1000000 in
theorem refSplit_any (s : ByteArray) (w : World) (hs : s.size ≤ 4294967280) (hE : Env w) :
    Calls Tryz.prog 71 #[.string s] w fun e w' => e = .returned (splitV s.data.toList) ∧ Below w.heap.size w w' := by
  have HE := hide hE
  clear hE
  go_enter Tryz.func71, Tryz.ntmps71
  go_wp2_with fail
  go_loop [5] (fun i => ∃ k : Nat, k ≤ s.size ∧ i = .int .i64 k ∧ ∀ j, j < k → (s.get! j).toNat ≠ 58) (fun i => s.size - (intOf i).toNat)
  case atStart => exact ⟨0, Nat.zero_le _, rfl, fun j hj => by omega⟩
  case round =>
    obtain ⟨k, hk, rfl, hno⟩ := hrel
    by_cases hlt : k < s.size
    · have hg : s.get! k = s[k] := by rw [get_data s k hlt]; rfl
      by_cases hc : (s.get! k).toNat = 58
      · obtain ⟨hsp, hsn, hsb⟩ := splitV_at s k hlt hc hno
        have HP := hide hsp
        have HN := hide hsn
        have HB := hide hsb
        clear hsp hsn hsb hno
        have hc' : ((s[k].toNat : Int) == 58) = true := by rw [← hg, hc]; rfl
        have hlt' : (k : Int) < s.size := by omega
        clear hg hc
        have z1 : (s.extract 0 k).size ≤ 4294967280 := by rw [ByteArray.size_extract]; omega
        have z2 : (s.extract (k + 1) s.size).size ≤ 4294967280 := by rw [ByteArray.size_extract]; omega
        go_wp2_with fail
        refine (refIsName_any (s.extract 0 k) _ z1 (unhide HE)).mono ?_
        rintro e w1 ⟨rfl, hb1⟩
        cases hn : nameB (s.extract 0 k)
        · have HN1 := hide hn
          clear hn
          go_wp2
          go_ret3
          exact ⟨splitV_no (by rw [unhide HB, take_extract, unhide HN1]; rfl), hb1⟩
        · have HN1 := hide hn
          clear hn
          go_wp2_with fail
          refine (refIsName_any (s.extract (k + 1) s.size) _ z2 ((unhide HE).below hb1)).mono ?_
          rintro e w2 ⟨rfl, hb2⟩
          cases hn : nameB (s.extract (k + 1) s.size)
          · have HN2 := hide hn
            clear hn
            go_wp2
            go_ret3
            exact ⟨splitV_no (by rw [unhide HB, take_extract, drop_extract, unhide HN1, unhide HN2]; rfl), Below.then hb1 hb2⟩
          · have HN2 := hide hn
            clear hn
            go_wp2
            go_region
            go_wp2
            go_ret3
            refine ⟨?_, by first | exact (Below.then hb1 hb2).drew | exact Below.then (Below.then hb1 hb2) (below_drewN _ _)⟩
            rw [← splitV_of (unhide HP) (unhide HN) (by rw [unhide HB, take_extract, drop_extract, unhide HN1, unhide HN2]; rfl), take_extract, drop_extract]
            rfl
      · have hc' : ((s[k].toNat : Int) == 58) = false := by rw [← hg]; simp; omega
        have HNO := hide hno
        clear hno
        go_wp2
        go_round
        case rel =>
          refine ⟨k + 1, by omega, by go_num, fun j hj => ?_⟩
          rcases Nat.lt_or_ge j k with h | h
          · exact unhide HNO j h
          · rw [show j = k by omega]; exact hc
        case measure => simp [intOf]; omega
    · have hno' := splitV_none s (fun j hj => hno j (by omega))
      obtain ⟨hsp, hsn, hsb⟩ := hno'
      have HP := hide hsp
      have HN := hide hsn
      have HB := hide hsb
      clear hsp hsn hsb hno
      go_wp2_with fail
      refine (refIsName_any s _ hs (unhide HE)).mono ?_
      rintro e w1 ⟨rfl, hb1⟩
      cases hn : nameB s
      · have HN1 := hide hn
        clear hn
        go_wp2
        go_ret3
        exact ⟨splitV_no (by rw [unhide HB]; exact unhide HN1), hb1⟩
      · have HN1 := hide hn
        clear hn
        go_wp2
        go_ret3
        refine ⟨?_, hb1⟩
        rw [← splitV_of (unhide HP) (unhide HN) (by rw [unhide HB]; exact unhide HN1), mk_data]
        rfl
theorem splitV_cases (l : List UInt8) : ∃ p n : ByteArray, splitV l = .tuple #[.string p, .string n, .bool (splitB l)] := by
  unfold splitV
  cases h : splitB l
  · exact ⟨_, _, rfl⟩
  · exact ⟨_, _, rfl⟩
theorem refIsText_same (s : ByteArray) (w : World) (hs : s.size ≤ 4294967280) (hE : Env w) :
    Calls Tryz.prog 42 #[.string s] w fun e w' => e = .returned (.bool (textB s)) ∧ Below w.heap.size w w' := by
  rw [textB_eq]; exact refIsText_any s w hs hE
end Go.Proofs.YtmemcabipcccaaaGreatDoor
/- The string, the word that a text begins with, and which word is what: xplex's functions. -/
namespace Go.Proofs.YtmemcabipcccaaaGreatDoor
open Go.RowKit
end Go.Proofs.YtmemcabipcccaaaGreatDoor
/- A reader's small steps: what it sees, takes, passes by: xmlscan's rest, sees, take, takeTo, blanks, name. -/
namespace Go.Proofs.YtmemcabipcccaaaGreatDoor
open Go.RowKit
abbrev AtS (w : World) (p : Nat) (s : RS) : Prop := AtR w p s.pre s.rest
/-- A reader of a text of characters that may be, that is not too long. -/
structure Fine (s : RS) : Prop where
  ok : okL (s.pre ++ s.rest)
  le : (T (s.pre ++ s.rest)).size ≤ 32768
theorem adv_whole (s : RS) (n : Nat) : (s.adv n).pre ++ (s.adv n).rest = s.pre ++ s.rest := by
  unfold RS.adv
  simp only
  rw [List.append_assoc, List.take_append_drop]
theorem Fine.adv {s : RS} (h : Fine s) (n : Nat) : Fine (s.adv n) := ⟨by rw [adv_whole]; exact h.ok, by rw [adv_whole]; exact h.le⟩
theorem Fine.okR {s : RS} (h : Fine s) : okL s.rest := okL_right h.ok
theorem Fine.sum {s : RS} (_ : Fine s) : s.place + (T s.rest).size = (T (s.pre ++ s.rest)).size := by
  unfold RS.place
  rw [T_size, T_size, tx_len_app]
theorem Fine.lt {s : RS} (h : Fine s) : s.place + (T s.rest).size ≤ 32768 := by rw [h.sum]; exact h.le
theorem place_adv (s : RS) (n : Nat) : (s.adv n).place = s.place + (T (s.rest.take n)).size := by
  unfold RS.place RS.adv
  simp only
  rw [tx_len_app, T_size]
theorem AtR.to {w w' : World} {p : Nat} {s : RS} {n : Nat} (h : AtS w p s) (hm : Moves p (s.adv n).place w w') : AtS w' p (s.adv n) := h.moved hm (adv_whole s n)
end Go.Proofs.YtmemcabipcccaaaGreatDoor
/- A reader's small steps, more: xmlscan's takeTo, blanks, nameAhead, name, qname. -/
namespace Go.Proofs.YtmemcabipcccaaaGreatDoor
open Go.RowKit
end Go.Proofs.YtmemcabipcccaaaGreatDoor
/- A reader's small steps, more: xmlscan's nameAhead, name, qname, quote, quoted, equals. -/
namespace Go.Proofs.YtmemcabipcccaaaGreatDoor
open Go.RowKit
end Go.Proofs.YtmemcabipcccaaaGreatDoor
/- A reader's small steps, more: xmlscan's quote, quoted, equals, fail. -/
namespace Go.Proofs.YtmemcabipcccaaaGreatDoor
open Go.RowKit
/-- What the package variables of the library hold; they all lie below B. -/
structure XEnv (B : Nat) (w : World) : Prop where
  env : Env w
  x : w.cell? ⟨3, 120, none⟩ = some (.int .u16 88)
  m : w.cell? ⟨3, 109, none⟩ = some (.int .u16 77)
  l : w.cell? ⟨3, 108, none⟩ = some (.int .u16 76)
  X : w.cell? ⟨3, 88, none⟩ = some (.int .u16 120)
  M : w.cell? ⟨3, 77, none⟩ = some (.int .u16 109)
  L : w.cell? ⟨3, 76, none⟩ = some (.int .u16 108)
  g1 : 2 < B
  g2 : 0 < B
  g3 : 1 < B
  g4 : 3 < B
theorem XEnv.low {B : Nat} {w w' : World} (h : XEnv B w) (hb : Below B w w') : XEnv B w' := by
  obtain ⟨⟨⟨m, hm⟩, t1, t2⟩, hx, hmm, hl, hX, hM, hL, g1, g2, g3, g4⟩ := h
  refine ⟨⟨⟨m, ?_⟩, ?_, ?_⟩, ?_, ?_, ?_, ?_, ?_, ?_, g1, g2, g3, g4⟩
  · rw [hb.cell g1]; exact hm
  · intro c hc; rw [hb.cell g2]; exact t1 c hc
  · intro i hi
    rw [hb.cell g3, hb.cell g3]; exact t2 i hi
  · rw [hb.cell g4]; exact hx
  · rw [hb.cell g4]; exact hmm
  · rw [hb.cell g4]; exact hl
  · rw [hb.cell g4]; exact hX
  · rw [hb.cell g4]; exact hM
  · rw [hb.cell g4]; exact hL
theorem XEnv.moved {B : Nat} {w w' : World} {p n : Nat} (h : XEnv B w) (hm : Moves p n w w') (hB : B ≤ p) (hp : p < w.heap.size) : XEnv B w' := h.low (hm.low hB (by omega))
theorem XEnv.on {B : Nat} {w w' : World} (h : XEnv B w) (hB : B ≤ w.heap.size) (hb : Below w.heap.size w w') : XEnv B w' := h.low (hb.mono hB)
theorem adv_adv (s : RS) (n m : Nat) : (s.adv n).adv m = s.adv (n + m) := by
  unfold RS.adv
  simp only [List.drop_drop, List.append_assoc, RS.mk.injEq, and_true, List.append_cancel_left_eq]
  rw [List.take_add]
/-- One state is another one, some characters on. -/
def Adv (s s' : RS) : Prop := ∃ k, s' = s.adv k
theorem Adv.then {a b c : RS} (h : Adv a b) (g : Adv b c) : Adv a c := by
  obtain ⟨k, rfl⟩ := h
  obtain ⟨m, rfl⟩ := g
  exact ⟨k + m, adv_adv _ _ _⟩
theorem Adv.by (s : RS) (n : Nat) : Adv s (s.adv n) := ⟨n, rfl⟩
theorem Adv.fine {s s' : RS} (h : Adv s s') (hf : Fine s) : Fine s' := by
  obtain ⟨k, rfl⟩ := h
  exact hf.adv k
theorem Adv.at {s s' : RS} (h : Adv s s') {w w' : World} {p : Nat} (ha : AtS w p s) (hm : Moves p s'.place w w') : AtS w' p s' := by
  obtain ⟨k, rfl⟩ := h
  exact ha.to hm
theorem Adv.blanks (s : RS) : Adv s s.blanks := ⟨_, rfl⟩
theorem Adv.take (s : RS) (a : List Nat) : Adv s (s.take a) := by
  unfold RS.take
  split
  · exact ⟨_, rfl⟩
  · exact ⟨0, by unfold RS.adv; simp⟩
theorem Adv.name (s : RS) : Adv s s.name := ⟨_, rfl⟩
theorem Adv.qname (s : RS) : Adv s s.qname := ⟨_, rfl⟩
theorem Adv.takeTo {s s' : RS} {a x : List Nat} (h : s.takeTo a = some (x, s')) : Adv s s' ∧ ∃ y, cutL a s.rest = some (x, y) ∧ s' = s.adv (x.length + a.length) := by
  unfold RS.takeTo at h
  cases hc : cutL a s.rest with
  | none => rw [hc] at h; cases h
  | some xy => rw [hc] at h; cases h; exact ⟨⟨_, rfl⟩, xy.2, rfl, rfl⟩
theorem quote_some {s s' : RS} {q : Nat} (h : s.quote = some (q, s')) : s' = s.adv 1 ∧ heads q s.rest = true ∧ (q = 34 ∨ q = 39 ∧ heads 34 s.rest = false) := by
  unfold RS.quote at h
  split at h
  · rename_i hh; cases h; exact ⟨rfl, hh, .inl rfl⟩
  · rename_i hh
    split at h
    · rename_i h2; cases h; exact ⟨rfl, h2, .inr ⟨rfl, by simpa using hh⟩⟩
    · cases h
theorem Adv.quote {s s' : RS} {q : Nat} (h : s.quote = some (q, s')) : Adv s s' := ⟨1, (quote_some h).1⟩
theorem Adv.quoted {s s' : RS} {x : List Nat} (h : s.quoted = some (x, s')) : Adv s s' := by
  unfold RS.quoted at h
  cases hq : s.quote with
  | none => rw [hq] at h; cases h
  | some qs =>
    obtain ⟨q, s1⟩ := qs
    rw [hq] at h
    exact (Adv.quote hq).then (Adv.takeTo h).1
theorem Adv.equals {s s' : RS} (h : s.equals = some s') : Adv s s' := by
  unfold RS.equals at h
  split at h
  · cases h; exact (Adv.blanks s).then ((Adv.by _ 1).then (Adv.blanks _))
  · cases h
end Go.Proofs.YtmemcabipcccaaaGreatDoor
