/- Several texts, laid as one. -/
import Derived.Test.YtmemcabipcccaaaGreatDoorOutRp
import Derived.Test.YtmemcabipcccaaaGreatDoorGbl
import Derived.Test.YtmemcabipcccaaaGreatDoorOutRl
/- The reference's one, of any token of a tree. -/
namespace Go.Proofs.YtmemcabipcccaaaGreatDoor
open Go.RowKit
theorem refOne_any (h : Bool) (ts : List BTok) (a : Option Addr) (cap k : Nat) (w : World) (hv : ToksArg w a ts) (hn : ts.length ≤ 4096) (hs : ∀ t ∈ ts, Small t) (hok : OneOk ts k) :
    Calls Tryz.prog 19 #[.slice a ts.length cap, .int .i64 (k : Nat), .bool h] w fun e w' => ∃ s : ByteArray, e = .returned (.string s) ∧ s.data.toList = soleO h (tkAt ts k) (ahT ts k) (tkAt ts (k + 1)) ∧ Below w.heap.size w w' := by
  obtain ⟨hlt, hokb, hf, hbe, hah⟩ := hok
  have ht : ts[k]? = some (tkAt ts k) := by unfold tkAt; rw [List.getElem?_eq_getElem hlt]; rfl
  obtain ⟨g, o, rfl, hc⟩ := hv (by intro e; rw [e] at hlt; cases hlt)
  obtain ⟨c0, c1, ⟨v, c2, hpv⟩, c3⟩ := hc k _ ht
  obtain ⟨va, vc, hve, _⟩ := id hpv
  subst hve
  have hst := hs _ (List.mem_of_getElem? ht)
  have hp : 0 < k → w.cell? ⟨g, o + (k - 1) * 4, none⟩ = some (.int .i64 (ahT ts k).kind) ∧ w.cell? ⟨g, o + (k - 1) * 4 + 1, none⟩ = some (.string (ahT ts k).name) := fun h0 => by
    have e : ahT ts k = tkAt ts (k - 1) := by unfold ahT; rw [if_neg (by omega)]
    have hp1 : ts[k - 1]? = some (tkAt ts (k - 1)) := by unfold tkAt; rw [List.getElem?_eq_getElem (show k - 1 < ts.length by omega)]; rfl
    obtain ⟨d0, d1, _, _⟩ := hc (k - 1) _ hp1
    rw [e]
    exact ⟨d0, d1⟩
  have hq : (tkAt ts k).kind = 2 → k + 1 < ts.length ∧ w.cell? ⟨g, o + (k + 1) * 4, none⟩ = some (.int .i64 (tkAt ts (k + 1)).kind) := fun h2 => by
    have hb := hbe h2
    have hp1 : ts[k + 1]? = some (tkAt ts (k + 1)) := by unfold tkAt; rw [List.getElem?_eq_getElem hb]; rfl
    exact ⟨hb, (hc (k + 1) _ hp1).k⟩
  have han : (ahT ts k).name.size ≤ 1048576 := (small_ah hs k).n
  have hz : k = 0 → ¬ (ahT ts k).kind = 2 := fun h0 => by unfold ahT; rw [if_pos h0]; decide
  have hkk := ok_kinds hokb
  cases h with
  | false =>
    rcases hkk with e | e | e | e | e
    · exact one_w0k2 ts.length g o cap k _ _ _ va vc w hn e c0 c1 c2 c3 hpv hst hf (hq e).1 (hq e).2
    · exact one_w0k7 ts.length g o cap k _ _ _ va vc w hn hlt e c0 c1 c2 c3 hst (hah e) (hp (hah e)).1
    · exact one_w0k4 ts.length g o cap k _ _ _ va vc w hn hlt e c0 c1 c2 c3 hst
    · exact one_w0k5 ts.length g o cap k _ _ _ va vc w hn hlt e c0 c1 c2 c3 hst
    · exact one_w0k6 ts.length g o cap k _ _ _ va vc w hn hlt e c0 c1 c2 c3 hst
  | true =>
    by_cases h0 : k = 0
    · rcases hkk with e | e | e | e | e
      · exact one_w1k2 ts.length g o cap k _ _ _ va vc w hn e c0 c1 c2 c3 hpv hst hf (hq e).1 (hq e).2 h0
      · have := hah e
        omega
      · exact one_w1k4 ts.length g o cap k _ _ _ va vc w hn hlt e c0 c1 c2 c3 hst h0 (hz h0)
      · exact one_w1k5 ts.length g o cap k _ _ _ va vc w hn hlt e c0 c1 c2 c3 hst h0
      · exact one_w1k6 ts.length g o cap k _ _ _ va vc w hn hlt e c0 c1 c2 c3 hst h0
    · have hk0 : 0 < k := by omega
      by_cases hA : (ahT ts k).kind = 2
      · rcases hkk with e | e | e | e | e
        · exact one_w3k2 ts.length g o cap k _ _ _ va vc w hn e c0 c1 c2 c3 hpv hst hf (hp hk0).1 (hp hk0).2 (hq e).1 (hq e).2 han hk0 hA
        · exact one_w3k7 ts.length g o cap k _ _ _ va vc w hn hlt e c0 c1 c2 c3 hst (hp hk0).1 (hp hk0).2 han hk0 hA
        · exact one_w3k4 ts.length g o cap k _ _ _ va vc w hn hlt e c0 c1 c2 c3 hst (hp hk0).1 (hp hk0).2 han hk0 hA
        · exact one_w3k5 ts.length g o cap k _ _ _ va vc w hn hlt e c0 c1 c2 c3 hst (hp hk0).1 (hp hk0).2 han hk0 hA
        · exact one_w3k6 ts.length g o cap k _ _ _ va vc w hn hlt e c0 c1 c2 c3 hst (hp hk0).1 (hp hk0).2 han hk0 hA
      · rcases hkk with e | e | e | e | e
        · exact one_w2k2 ts.length g o cap k _ _ _ va vc w hn e c0 c1 c2 c3 hpv hst hf (hp hk0).1 (hp hk0).2 (hq e).1 (hq e).2 hk0 hA
        · exact one_w2k7 ts.length g o cap k _ _ _ va vc w hn hlt e c0 c1 c2 c3 hst (hp hk0).1 (hp hk0).2 hk0 hA
        · exact one_w2k4 ts.length g o cap k _ _ _ va vc w hn hlt e c0 c1 c2 c3 hst (hp hk0).1 (hp hk0).2 hk0 hA
        · exact one_w2k5 ts.length g o cap k _ _ _ va vc w hn hlt e c0 c1 c2 c3 hst (hp hk0).1 (hp hk0).2 hk0 hA
        · exact one_w2k6 ts.length g o cap k _ _ _ va vc w hn hlt e c0 c1 c2 c3 hst (hp hk0).1 (hp hk0).2 hk0 hA
end Go.Proofs.YtmemcabipcccaaaGreatDoor
/- What must be whatever is asked: stencillaw10's live. -/
namespace Go.Proofs.YtmemcabipcccaaaGreatDoor
open Go.RowKit
def brE : BTok := ⟨2, ⟨#[98, 114]⟩, [], ⟨#[]⟩⟩
def brF : BTok := ⟨7, ⟨#[98, 114]⟩, [], ⟨#[]⟩⟩
def brT : BTok := ⟨4, ⟨#[]⟩, [], ⟨#[97, 60]⟩⟩
def liveT : List BTok := [brE, brF, brT]
theorem liveT_h : writeO 1 liveT = (⟨#[60, 98, 114, 62, 97, 38, 108, 116, 59]⟩, 0) := by kernel_rfl
theorem liveT_x : writeO 0 liveT = (⟨#[60, 98, 114, 47, 62, 97, 38, 108, 116, 59]⟩, 0) := by kernel_rfl
theorem liveT_v : voidB ⟨#[66, 82]⟩ = true := by kernel_rfl
theorem liveT_r : rawB ⟨#[115, 99, 114, 105, 112, 116]⟩ = true := by kernel_rfl
theorem liveT_s : shortB ⟨#[99, 104, 101, 99, 107, 101, 100]⟩ = true := by kernel_rfl
theorem liveT_small : ∀ t ∈ liveT, Small t := by
  intro t ht
  simp only [liveT, List.mem_cons, List.not_mem_nil, or_false] at ht
  rcases ht with rfl | rfl | rfl
  all_goals exact ⟨Nat.zero_le _, (fun x h => by cases h), by decide, by decide⟩
theorem liveT_arg (w : World) : ToksArg (w.alloc (.cells #[.int .i64 2, .string ⟨#[98, 114]⟩, .slice none 0 0, .string ⟨#[]⟩, .int .i64 7, .string ⟨#[98, 114]⟩, .slice none 0 0, .string ⟨#[]⟩, .int .i64 4, .string ⟨#[]⟩, .slice none 0 0, .string ⟨#[97, 60]⟩] 53)) (some ⟨w.heap.size, 0, none⟩) liveT := by
  intro _
  refine ⟨_, _, rfl, fun i t ht => ?_⟩
  match i, ht with
  | 0, e =>
    cases e
    exact ⟨by simp [go_sem, brE], by simp [go_sem, brE], ⟨.slice none 0 0, by simp [go_sem], pairs_nil _⟩, by simp [go_sem, brE]⟩
  | 1, e =>
    cases e
    exact ⟨by simp [go_sem, brF], by simp [go_sem, brF], ⟨.slice none 0 0, by simp [go_sem], pairs_nil _⟩, by simp [go_sem, brF]⟩
  | 2, e =>
    cases e
    exact ⟨by simp [go_sem, brT], by simp [go_sem, brT], ⟨.slice none 0 0, by simp [go_sem], pairs_nil _⟩, by simp [go_sem, brT]⟩
set_option maxRecDepth 100000 in
set_option maxHeartbeats 4000000 in
theorem live10_any (w : World) (hE : XEnv w.heap.size w) :
    Calls Tryz.prog 7 #[] w fun e w' => e = .returned (.bool true) ∧ Below w.heap.size w w' := by
  have HE := hide hE
  have hbA : Below w.heap.size w (w.alloc (.cells #[.int .i64 2, .string ⟨#[98, 114]⟩, .slice none 0 0, .string ⟨#[]⟩, .int .i64 7, .string ⟨#[98, 114]⟩, .slice none 0 0, .string ⟨#[]⟩, .int .i64 4, .string ⟨#[]⟩, .slice none 0 0, .string ⟨#[97, 60]⟩] 53)) := (Below.refl _ _).alloc (Nat.le_refl _) _
  have HBA := hide hbA
  have HC : Hid (∀ (m : Int) (W : World), Below (w.heap.size + 1) (w.alloc (.cells #[.int .i64 2, .string ⟨#[98, 114]⟩, .slice none 0 0, .string ⟨#[]⟩, .int .i64 7, .string ⟨#[98, 114]⟩, .slice none 0 0, .string ⟨#[]⟩, .int .i64 4, .string ⟨#[]⟩, .slice none 0 0, .string ⟨#[97, 60]⟩] 53)) W → Calls Tryz.prog 5 #[.int .i64 m, .slice (some ⟨w.heap.size, 0, none⟩) 3 3] W fun e w' => e = .returned (.tuple #[.string (writeO m liveT).1, .int .i64 ((writeO m liveT).2 : Nat)]) ∧ Below W.heap.size W w') := hide fun m W hb => by
    have hb' : Below w.heap.size w W := hbA.trans (hb.mono (by omega))
    exact outWrite_any m liveT (some ⟨w.heap.size, 0, none⟩) 3 W ((liveT_arg w).below (by simpa using hb)) (by decide) liveT_small w.heap.size hb'.size ((unhide HE).low hb')
  have HC1 := hide (unhide HC 1 _ (Below.refl _ _))
  have HC0 := hide (unhide HC 0)
  rw [liveT_h] at HC1
  rw [liveT_x] at HC0
  clear hE hbA HC
  go_enter Tryz.func7, Tryz.ntmps7
  go_wp2_with fail
  refine (unhide HC1).mono ?_
  rintro e w1 ⟨rfl, hb1⟩
  have HC2 := hide (unhide HC0 w1 (hb1.mono (by simp)))
  have hb01 := Below.then (unhide HBA) hb1
  clear HC0 HC1
  go_wp2_with fail
  refine (unhide HC2).mono ?_
  rintro e w2 ⟨rfl, hb2⟩
  have hb02 := Below.then hb01 hb2
  have HV := hide (xVoid_any ⟨#[66, 82]⟩ w2 (by decide) ((unhide HE).low hb02).env)
  rw [liveT_v] at HV
  clear HC2
  go_wp2_with fail
  refine (unhide HV).mono ?_
  rintro e w3 ⟨rfl, hb3⟩
  have hb03 := Below.then hb02 hb3
  have HR := hide (xRaw_any ⟨#[115, 99, 114, 105, 112, 116]⟩ w3 (by decide) ((unhide HE).low hb03).env)
  rw [liveT_r] at HR
  clear HV
  go_wp2_with fail
  refine (unhide HR).mono ?_
  rintro e w4 ⟨rfl, hb4⟩
  have hb04 := Below.then hb03 hb4
  have HS := hide (xShort_any ⟨#[99, 104, 101, 99, 107, 101, 100]⟩ w4 (by decide) ((unhide HE).low hb04).env)
  rw [liveT_s] at HS
  clear HR
  go_wp2_with fail
  refine (unhide HS).mono ?_
  rintro e w5 ⟨rfl, hb5⟩
  go_wp2
  go_ret
  exact ⟨rfl, Below.then hb04 hb5⟩
end Go.Proofs.YtmemcabipcccaaaGreatDoor
/- As text it is just the texts, one behind the other: the law XoutPlain. -/
namespace Go.Proofs.YtmemcabipcccaaaGreatDoor
open Go.RowKit
theorem write_two (m : Int) (ts : List BTok) : (∃ c : Nat, (c = 2 ∨ c = 5 ∨ c = 6) ∧ writeO m ts = (⟨#[]⟩, c)) ∨ writeO m ts = (⟨(textO m ts).toArray⟩, 0) := by
  unfold writeO
  split
  · exact .inl ⟨2, .inl rfl, rfl⟩
  · split
    · rename_i h
      rcases right_of ts with h0 | h0 | h0
      · exact absurd h0 h
      · exact .inl ⟨5, .inr (.inl rfl), by rw [h0]⟩
      · exact .inl ⟨6, .inr (.inr rfl), by rw [h0]⟩
    · split
      · exact .inl ⟨5, .inr (.inl rfl), rfl⟩
      · split
        · exact .inl ⟨6, .inr (.inr rfl), rfl⟩
        · exact .inr rfl
end Go.Proofs.YtmemcabipcccaaaGreatDoor
/- The reference's Write is the program's: stencilref10's Write. -/
namespace Go.Proofs.YtmemcabipcccaaaGreatDoor
open Go.RowKit
theorem sole_spot {m : Int} (hm : m = 0 ∨ m = 1) (ts : List BTok) (k : Nat) : soleO (m == 1) (tkAt ts k) (ahT ts k) (tkAt ts (k + 1)) = spotO m ts k := by
  rw [spotO_G]
  unfold soleO spotG
  rcases hm with rfl | rfl
  · rfl
  · rfl
/-- What is written of the first tokens. -/
def textK (m : Int) (ts : List BTok) (k : Nat) : List UInt8 := (List.range k).flatMap (spotO m ts)
theorem textK_step (m : Int) (ts : List BTok) (k : Nat) : textK m ts (k + 1) = textK m ts k ++ spotO m ts k := by
  unfold textK
  rw [List.range_succ, List.flatMap_append]
  simp
theorem textK_le {m : Int} {ts : List BTok} {k : Nat} (h : k ≤ ts.length) : (textK m ts k).length ≤ (textO m ts).length := by
  obtain ⟨d, hd⟩ : ∃ d, ts.length = k + d := ⟨ts.length - k, by omega⟩
  unfold textK textO
  rw [hd, List.range_add, List.flatMap_append, List.length_append]
  omega
theorem doc_behind : ∀ (ts : List BTok) (o : List ByteArray) (last : Int), refDoc o last ts = true → ∀ k, (tkAt ts k).kind = 2 → k + 1 < ts.length
  | [], o, last, _, k, hk => by
    have : tkAt [] k = zB := tk_no (Nat.zero_le _)
    rw [this] at hk
    cases hk
  | t :: ts, o, last, h, 0, hk => by
    have hk' : t.kind = 2 := hk
    have h1 := (refDoc_next h).2.1
    rw [nextO2 hk'] at h1
    cases ts with
    | nil =>
      have h2 : (o ++ [t.name]).isEmpty = true := h1
      simp at h2
    | cons u us => simp
  | t :: ts, o, last, h, k + 1, hk => by
    have := doc_behind ts _ _ (refDoc_next h).2.1 k hk
    rw [List.length_cons]
    omega
theorem one_ok {ts : List BTok} (h : rightO ts = 0) {k : Nat} (hk : k < ts.length) : OneOk ts k := by
  have hf := right_forB h
  have hp := right_past h
  have hm : tkAt ts k ∈ ts := by
    unfold tkAt
    rw [List.getElem?_eq_getElem hk]
    exact List.getElem_mem hk
  have hok := forB_all hf _ hm
  refine ⟨hk, hok, ?_, fun e => ?_, fun e => ?_⟩
  · by_cases h2 : (tkAt ts k).kind = 2
    · exact (past_few hp).2 _ hm h2
    · exact ok_few hok h2
  · rw [forB_ref] at hf
    exact doc_behind ts _ _ hf k e
  · cases k with
    | succ k => omega
    | zero =>
      cases ts with
      | nil => cases hk
      | cons t ts => exact absurd e (first_no hf)
structure RwSt (w : World) (m : Int) (ts : List BTok) (k : Nat) (O : ByteArray) (w' : World) : Prop where
  le : k ≤ ts.length
  bel : Below w.heap.size w w'
  dat : O.data.toList = textK m ts k
  sz : O.size ≤ 32768
theorem write_6 {m : Int} {ts : List BTok} {k : Nat} (h0 : ¬ (m < 0 ∨ 2 < m)) (h1 : rightO ts = 0) (h2 : ¬ (m = 1 ∧ htmlOk ts = false)) (hk : k ≤ ts.length) (hl : 32768 < (textK m ts k).length) : writeO m ts = (⟨#[]⟩, 6) := by
  have := textK_le (m := m) hk
  unfold writeO
  rw [if_neg h0, if_neg (by rw [h1]; decide), if_neg h2, if_pos (by omega)]
theorem write_0 {m : Int} {ts : List BTok} {O : ByteArray} (h0 : ¬ (m < 0 ∨ 2 < m)) (h1 : rightO ts = 0) (h2 : ¬ (m = 1 ∧ htmlOk ts = false)) (hO : O.data.toList = textK m ts ts.length) (hl : O.size ≤ 32768) : writeO m ts = (O, 0) := by
  have e : textO m ts = O.data.toList := hO.symm
  unfold writeO
  rw [if_neg h0, if_neg (by rw [h1]; decide), if_neg h2, e, if_neg (by show ¬ 32768 < O.data.size; have : O.data.size = O.size := rfl; omega)]
end Go.Proofs.YtmemcabipcccaaaGreatDoor
/- The reference's Write: the walk. -/
namespace Go.Proofs.YtmemcabipcccaaaGreatDoor
open Go.RowKit
def HtmlGo (m : Int) (ts : List BTok) : Prop := ¬ (m = 1 ∧ htmlOk ts = false)
set_option maxRecDepth 100000 in
set_option maxHeartbeats 16000000 in
theorem refOutWrite_any (m : Int) (ts : List BTok) (a : Option Addr) (cap : Nat) (w : World) (hv : ToksArg w a ts) (hn : ts.length ≤ 1048576) (hs : ∀ t ∈ ts, Small t) (B : Nat) (hB : B ≤ w.heap.size) (hE : XEnv B w) :
    Calls Tryz.prog 6 #[.int .i64 m, .slice a ts.length cap] w fun e w' => e = .returned (.tuple #[.string (writeO m ts).1, .int .i64 ((writeO m ts).2 : Nat)]) ∧ Below w.heap.size w w' := by
  have HV := hide hv
  have HS := hide hs
  have HR := hide (refRight_any ts a cap w hv hn hs B hB hE)
  have HW : Hid (writeO m ts = if m < 0 ∨ 2 < m then (⟨#[]⟩, 2) else if rightO ts ≠ 0 then (⟨#[]⟩, rightO ts) else if m = 1 ∧ htmlOk ts = false then (⟨#[]⟩, 5) else if 32768 < (textO m ts).length then (⟨#[]⟩, 6) else (⟨(textO m ts).toArray⟩, 0)) := hide rfl
  clear hv hs hE
  by_cases h0 : m < 0
  · have HX : Hid (writeO m ts = (⟨#[]⟩, 2)) := hide (by rw [unhide HW, if_pos (.inl h0)])
    clear HW HR
    go_enter Tryz.func6, Tryz.ntmps6
    go_wp2
    go_ret2
    rw [unhide HX]
    exact ⟨rfl, Below.refl _ _⟩
  by_cases h2 : 2 < m
  · have HX : Hid (writeO m ts = (⟨#[]⟩, 2)) := hide (by rw [unhide HW, if_pos (.inr h2)])
    clear HW HR
    go_enter Tryz.func6, Tryz.ntmps6
    go_wp2
    go_ret2
    rw [unhide HX]
    exact ⟨rfl, Below.refl _ _⟩
  have HNO : Hid (¬ (m < 0 ∨ 2 < m)) := hide (by omega)
  rcases right_of ts with hr | hr | hr
  rotate_left 1
  · have HX : Hid (writeO m ts = (⟨#[]⟩, 5)) := hide (by rw [unhide HW, if_neg (unhide HNO), hr, if_pos (by decide)])
    rw [hr] at HR
    clear HW hr
    go_enter Tryz.func6, Tryz.ntmps6
    go_wp2_with fail
    refine (unhide HR).mono ?_
    rintro e w1 ⟨rfl, hb1⟩
    go_wp2
    go_ret2
    rw [unhide HX]
    exact ⟨rfl, hb1⟩
  · have HX : Hid (writeO m ts = (⟨#[]⟩, 6)) := hide (by rw [unhide HW, if_neg (unhide HNO), hr, if_pos (by decide)])
    rw [hr] at HR
    clear HW hr
    go_enter Tryz.func6, Tryz.ntmps6
    go_wp2_with fail
    refine (unhide HR).mono ?_
    rintro e w1 ⟨rfl, hb1⟩
    go_wp2
    go_ret2
    rw [unhide HX]
    exact ⟨rfl, hb1⟩
  have HRZ := hide hr
  have hlen := (past_few (right_past hr)).1
  have HFB := hide (right_forB hr)
  rw [hr] at HR
  clear HW hr
  by_cases m0 : m = 0
  · subst m0
    have HHT : Hid (HtmlGo 0 ts) := hide (fun e => absurd e.1 (by decide))
    go_enter Tryz.func6, Tryz.ntmps6
    go_wp2_with fail
    refine (unhide HR).mono ?_
    rintro e w1 ⟨rfl, hb1⟩

    have HI0 : Hid (RwSt w 0 ts 0 ⟨#[]⟩ w1) := hide ⟨Nat.zero_le _, hb1, rfl, Nat.zero_le _⟩
    clear HR
    go_wp2_with fail
    go_loopw [7, 8] (fun s i wr => ∃ (k : Nat) (O : ByteArray), i = .int .i64 (k : Nat) ∧ s = .string O ∧ Hid (RwSt w 0 ts k O wr)) (fun _ i _ => ts.length - (intOf i).toNat)
    case atStart => exact ⟨0, _, rfl, rfl, HI0⟩
    case round =>
      clear HI0
      obtain ⟨k, O, rfl, rfl, hG⟩ := hrel
      have hk := (unhide hG).le
      have hbr := (unhide hG).bel
      have hOs := (unhide hG).sz
      have HOd := hide (unhide hG).dat
      clear hG
      by_cases hlt : k < ts.length
      · have n1 : (0 : Int) ≤ (k : Int) := by omega
        have n2 : (k : Int) < (ts.length : Int) := by omega
        have n3 : (ts.length : Int) ≤ 4096 := by omega
        have hH : (((0 : Int) == 1) : Bool) = false := rfl
        have HON : Hid (Calls Tryz.prog 19 #[.slice a ts.length cap, .int .i64 (k : Nat), .bool false] wr fun e w' => ∃ s : ByteArray, e = .returned (.string s) ∧ s.data.toList = spotO 0 ts k ∧ Below wr.heap.size wr w') := hide (by
          rw [← sole_spot (m := 0) (.inl rfl) ts k]
          exact refOne_any false ts a cap k wr ((unhide HV).below hbr) (by omega) (unhide HS) (one_ok (unhide HRZ) hlt))
        have HSL := hide (spotO_len (unhide HS) (unhide HRZ) 0 k)
        clear hH
        go_wp2_with fail
        refine (unhide HON).mono ?_
        rintro e w5 ⟨E, rfl, hEd, hb5⟩
        have HEd := hide hEd
        have hEs : E.size ≤ 500000000 := by
          have h1 := unhide HSL
          rw [← hEd] at h1
          exact h1
        have hb05 := Below.then hbr hb5
        clear hEd
        have HD2 : Hid ((O ++ E).data.toList = textK 0 ts (k + 1)) := hide (by
          rw [textK_step]
          exact bytes_two _ _ _ _ (unhide HOd) (unhide HEd))
        have HSZ : Hid ((O ++ E).size = O.size + E.size) := hide (by rw [ByteArray.size_append])
        by_cases hbig : 32768 < O.size + E.size
        · have g1 : (32768 : Int) < (O.size : Int) + (E.size : Int) := by omega
          have HX : Hid (writeO 0 ts = (⟨#[]⟩, 6)) := hide (write_6 (k := k + 1) (by omega) (unhide HRZ) (unhide HHT) hlt (by
            rw [← unhide HD2]
            show 32768 < (O ++ E).size
            rw [unhide HSZ]
            exact hbig))
          clear hbig
          go_wp2
          go_ret2
          rw [unhide HX]
          exact ⟨rfl, hb05⟩
        · have g1 : ¬ (32768 : Int) < (O.size : Int) + (E.size : Int) := by omega
          have HI8 : Hid (RwSt w 0 ts (k + 1) (O ++ E) w5) := hide ⟨hlt, hb05, unhide HD2, by rw [unhide HSZ]; omega⟩
          clear hbig
          go_wp2_with fail
          exact ⟨⟨k + 1, _, by go_num, rfl, HI8⟩, by simp [intOf]; omega⟩
      · have n2 : ¬ (k : Int) < (ts.length : Int) := by omega
        have HX : Hid (writeO 0 ts = (O, 0)) := hide (write_0 (by omega) (unhide HRZ) (unhide HHT) (by rw [unhide HOd, show k = ts.length by omega]) hOs)
        go_wp2
        go_ret2
        rw [unhide HX]
        exact ⟨rfl, hbr⟩
  by_cases m2 : m = 2
  · subst m2
    have HHT : Hid (HtmlGo 2 ts) := hide (fun e => absurd e.1 (by decide))
    go_enter Tryz.func6, Tryz.ntmps6
    go_wp2_with fail
    refine (unhide HR).mono ?_
    rintro e w1 ⟨rfl, hb1⟩

    have HI0 : Hid (RwSt w 2 ts 0 ⟨#[]⟩ w1) := hide ⟨Nat.zero_le _, hb1, rfl, Nat.zero_le _⟩
    clear HR
    go_wp2_with fail
    go_loopw [7, 8] (fun s i wr => ∃ (k : Nat) (O : ByteArray), i = .int .i64 (k : Nat) ∧ s = .string O ∧ Hid (RwSt w 2 ts k O wr)) (fun _ i _ => ts.length - (intOf i).toNat)
    case atStart => exact ⟨0, _, rfl, rfl, HI0⟩
    case round =>
      clear HI0
      obtain ⟨k, O, rfl, rfl, hG⟩ := hrel
      have hk := (unhide hG).le
      have hbr := (unhide hG).bel
      have hOs := (unhide hG).sz
      have HOd := hide (unhide hG).dat
      clear hG
      by_cases hlt : k < ts.length
      · have n1 : (0 : Int) ≤ (k : Int) := by omega
        have n2 : (k : Int) < (ts.length : Int) := by omega
        have n3 : (ts.length : Int) ≤ 4096 := by omega
        obtain ⟨t, ht⟩ : ∃ t, ts[k]? = some t := ⟨ts[k], List.getElem?_eq_getElem hlt⟩
        obtain ⟨g, oo, ha, hc⟩ := ((unhide HV).below hbr) (by intro h0; rw [h0] at hlt; cases hlt)
        subst ha
        obtain ⟨c0, _, _, c3⟩ := hc k t ht
        have htx := (unhide HS t (List.mem_of_getElem? ht)).x
        have HSP : Hid (spotO 2 ts k = plainO t) := hide (by show plainO (tkAt ts k) = _; rw [tk_at ht])
        clear hc ht
        by_cases h4 : t.kind = 4
        · have HP : Hid (t.text.data.toList = spotO 2 ts k) := hide (by rw [unhide HSP]; unfold plainO; rw [if_pos h4])
          rw [h4] at c0
          clear h4
          have HD2 : Hid ((O ++ t.text).data.toList = textK 2 ts (k + 1)) := hide (by
            rw [textK_step]
            exact bytes_two _ _ _ _ (unhide HOd) (unhide HP))
          have HSZ : Hid ((O ++ t.text).size = O.size + t.text.size) := hide (by rw [ByteArray.size_append])
          by_cases hbig : 32768 < O.size + t.text.size
          · have g1 : (32768 : Int) < (O.size : Int) + (t.text.size : Int) := by omega
            have HX : Hid (writeO 2 ts = (⟨#[]⟩, 6)) := hide (write_6 (k := k + 1) (by omega) (unhide HRZ) (unhide HHT) hlt (by
              rw [← unhide HD2]
              show 32768 < (O ++ t.text).size
              rw [unhide HSZ]
              exact hbig))
            clear hbig
            go_wp2
            go_ret2
            rw [unhide HX]
            exact ⟨rfl, hbr⟩
          · have g1 : ¬ (32768 : Int) < (O.size : Int) + (t.text.size : Int) := by omega
            have HI8 : Hid (RwSt w 2 ts (k + 1) (O ++ t.text) wr) := hide ⟨hlt, hbr, unhide HD2, by rw [unhide HSZ]; omega⟩
            clear hbig
            go_wp2_with fail
            exact ⟨⟨k + 1, _, by go_num, rfl, HI8⟩, by simp [intOf]; omega⟩
        · have HI8 : Hid (RwSt w 2 ts (k + 1) O wr) := hide ⟨hlt, hbr, by
            rw [textK_step, unhide HSP, unhide HOd]
            unfold plainO
            rw [if_neg h4, List.append_nil], hOs⟩
          have g1 : ¬ (32768 : Int) < (O.size : Int) := by omega
          go_wp2_with fail
          exact ⟨⟨k + 1, _, by go_num, rfl, HI8⟩, by simp [intOf]; omega⟩
      · have n2 : ¬ (k : Int) < (ts.length : Int) := by omega
        have HX : Hid (writeO 2 ts = (O, 0)) := hide (write_0 (by omega) (unhide HRZ) (unhide HHT) (by rw [unhide HOd, show k = ts.length by omega]) hOs)
        go_wp2
        go_ret2
        rw [unhide HX]
        exact ⟨rfl, hbr⟩
  · have m1 : m = 1 := by omega
    subst m1
    have HHS := hide (html_same (unhide HFB))
    go_enter Tryz.func6, Tryz.ntmps6
    go_wp2_with fail
    refine (unhide HR).mono ?_
    rintro e w1 ⟨rfl, hb1⟩
    have HHW := hide (refHtml_any ts a cap w1 ((unhide HV).below hb1) hn (unhide HS) (unhide HFB))
    rw [← unhide HHS] at HHW
    cases hh : htmlOk ts with
    | false =>
      have HX : Hid (writeO 1 ts = (⟨#[]⟩, 5)) := hide (by unfold writeO; rw [if_neg (by omega), if_neg (by rw [unhide HRZ]; decide), if_pos ⟨rfl, hh⟩])
      rw [hh] at HHW
      clear hh HHS
      go_wp2_with fail
      refine (unhide HHW).mono ?_
      rintro e w2 ⟨rfl, hb2⟩
      go_wp2
      go_ret2
      rw [unhide HX]
      exact ⟨rfl, Below.then hb1 hb2⟩
    | true =>
      have HHT : Hid (HtmlGo 1 ts) := hide (fun e => by rw [hh] at e; cases e.2)
      rw [hh] at HHW
      clear hh HHS
      go_wp2_with fail
      refine (unhide HHW).mono ?_
      rintro e w2 ⟨rfl, hb2⟩
      have hb02 := Below.then hb1 hb2
      clear HHW
      have HI0 : Hid (RwSt w 1 ts 0 ⟨#[]⟩ w2) := hide ⟨Nat.zero_le _, hb02, rfl, Nat.zero_le _⟩
      clear HR
      go_wp2_with fail
      go_loopw [7, 8] (fun s i wr => ∃ (k : Nat) (O : ByteArray), i = .int .i64 (k : Nat) ∧ s = .string O ∧ Hid (RwSt w 1 ts k O wr)) (fun _ i _ => ts.length - (intOf i).toNat)
      case atStart => exact ⟨0, _, rfl, rfl, HI0⟩
      case round =>
        clear HI0
        obtain ⟨k, O, rfl, rfl, hG⟩ := hrel
        have hk := (unhide hG).le
        have hbr := (unhide hG).bel
        have hOs := (unhide hG).sz
        have HOd := hide (unhide hG).dat
        clear hG
        by_cases hlt : k < ts.length
        · have n1 : (0 : Int) ≤ (k : Int) := by omega
          have n2 : (k : Int) < (ts.length : Int) := by omega
          have n3 : (ts.length : Int) ≤ 4096 := by omega
          have hH : (((1 : Int) == 1) : Bool) = true := rfl
          have HON : Hid (Calls Tryz.prog 19 #[.slice a ts.length cap, .int .i64 (k : Nat), .bool true] wr fun e w' => ∃ s : ByteArray, e = .returned (.string s) ∧ s.data.toList = spotO 1 ts k ∧ Below wr.heap.size wr w') := hide (by
            rw [← sole_spot (m := 1) (.inr rfl) ts k]
            exact refOne_any true ts a cap k wr ((unhide HV).below hbr) (by omega) (unhide HS) (one_ok (unhide HRZ) hlt))
          have HSL := hide (spotO_len (unhide HS) (unhide HRZ) 1 k)
          clear hH
          go_wp2_with fail
          refine (unhide HON).mono ?_
          rintro e w5 ⟨E, rfl, hEd, hb5⟩
          have HEd := hide hEd
          have hEs : E.size ≤ 500000000 := by
            have h1 := unhide HSL
            rw [← hEd] at h1
            exact h1
          have hb05 := Below.then hbr hb5
          clear hEd
          have HD2 : Hid ((O ++ E).data.toList = textK 1 ts (k + 1)) := hide (by
            rw [textK_step]
            exact bytes_two _ _ _ _ (unhide HOd) (unhide HEd))
          have HSZ : Hid ((O ++ E).size = O.size + E.size) := hide (by rw [ByteArray.size_append])
          by_cases hbig : 32768 < O.size + E.size
          · have g1 : (32768 : Int) < (O.size : Int) + (E.size : Int) := by omega
            have HX : Hid (writeO 1 ts = (⟨#[]⟩, 6)) := hide (write_6 (k := k + 1) (by omega) (unhide HRZ) (unhide HHT) hlt (by
              rw [← unhide HD2]
              show 32768 < (O ++ E).size
              rw [unhide HSZ]
              exact hbig))
            clear hbig
            go_wp2
            go_ret2
            rw [unhide HX]
            exact ⟨rfl, hb05⟩
          · have g1 : ¬ (32768 : Int) < (O.size : Int) + (E.size : Int) := by omega
            have HI8 : Hid (RwSt w 1 ts (k + 1) (O ++ E) w5) := hide ⟨hlt, hb05, unhide HD2, by rw [unhide HSZ]; omega⟩
            clear hbig
            go_wp2_with fail
            exact ⟨⟨k + 1, _, by go_num, rfl, HI8⟩, by simp [intOf]; omega⟩
        · have n2 : ¬ (k : Int) < (ts.length : Int) := by omega
          have HX : Hid (writeO 1 ts = (O, 0)) := hide (write_0 (by omega) (unhide HRZ) (unhide HHT) (by rw [unhide HOd, show k = ts.length by omega]) hOs)
          go_wp2
          go_ret2
          rw [unhide HX]
          exact ⟨rfl, hbr⟩
end Go.Proofs.YtmemcabipcccaaaGreatDoor
