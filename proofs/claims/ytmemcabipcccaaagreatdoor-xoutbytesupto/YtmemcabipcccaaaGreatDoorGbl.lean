/- Several texts, laid as one. -/
import Derived.Test.YtmemcabipcccaaaGreatDoorOutEp
import Derived.Test.YtmemcabipcccaaaGreatDoorOutJp
import Derived.Test.YtmemcabipcccaaaGreatDoorXmlWrB
import Derived.Test.YtmemcabipcccaaaGreatDoorGbi
import Derived.Test.YtmemcabipcccaaaGreatDoorGaa
/- A tree's tokens by xml: bytes and characters. -/
namespace Go.Proofs.YtmemcabipcccaaaGreatDoor
open Go.RowKit
end Go.Proofs.YtmemcabipcccaaaGreatDoor
/- A tree within an element, told plainly: what Scan makes of what Write wrote. -/
namespace Go.Proofs.YtmemcabipcccaaaGreatDoor
open Go.RowKit
theorem docRun_nil : ∀ (ts : List BTok) (k : Int) (x : List ByteArray × Bool × Int), docRun [] true k ts = some x → x.1 = []
  | [], k, x, h => by cases h; rfl
  | t :: ts, k, x, h => by
    rw [docRun_cons] at h
    cases hk : okB t with
    | false => rw [hk] at h; cases h
    | true =>
      rw [hk] at h
      cases hs : docStp [] true k t with
      | none => rw [hs] at h; cases h
      | some y =>
        rw [hs] at h
        have h' : docRun y.1 y.2 t.kind ts = some x := h
        have hy : y = ([], true) := by
          unfold docStp at hs
          by_cases k2 : t.kind = 2
          · rw [if_pos k2, if_pos (by rfl)] at hs
            cases hs
          · by_cases k7 : t.kind = 7
            · rw [if_neg k2, if_pos k7] at hs
              cases hs
            · by_cases k4 : t.kind = 4
              · rw [if_neg k2, if_neg k7, if_pos k4, if_pos (by rfl)] at hs
                cases hs
              · rw [if_neg k2, if_neg k7, if_neg k4] at hs
                cases hs
                rfl
        rw [hy] at h'
        exact docRun_nil ts _ x h'
theorem first_no {t : BTok} {ts : List BTok} (h : forB (t :: ts) = true) : t.kind ≠ 7 := by
  intro h7
  obtain ⟨k, hr⟩ := forB_run h
  rw [docRun_cons] at hr
  cases hk : okB t with
  | false => rw [hk] at hr; cases hr
  | true =>
    rw [hk] at hr
    have e : docStp [aroS] true 2 t = if (aroS.toList == t.name.toList) = true then some (([] : List ByteArray), true) else none := by
      unfold docStp
      rw [if_neg (by omega), if_pos h7]
      rfl
    rw [e] at hr
    by_cases hz : (aroS.toList == t.name.toList) = true
    · rw [if_pos hz] at hr
      have := docRun_nil ts _ _ hr
      cases this
    · rw [if_neg hz] at hr
      cases hr
theorem docRun_all : ∀ (ts : List BTok) (o : List ByteArray) (r : Bool) (k : Int) (x : List ByteArray × Bool × Int), docRun o r k ts = some x → ∀ t ∈ ts, okB t = true
  | [], _, _, _, _, _ => fun _ h => by cases h
  | t :: ts, o, r, k, x, h => by
    rw [docRun_cons] at h
    cases hk : okB t with
    | false => rw [hk] at h; cases h
    | true =>
      rw [hk] at h
      cases hs : docStp o r k t with
      | none => rw [hs] at h; cases h
      | some y =>
        rw [hs] at h
        have h' : docRun y.1 y.2 t.kind ts = some x := h
        intro u hu
        rcases List.mem_cons.1 hu with rfl | hu
        · exact hk
        · exact docRun_all ts _ _ _ _ h' u hu
theorem forB_all {ts : List BTok} (h : forB ts = true) : ∀ t ∈ ts, okB t = true := by
  obtain ⟨k, hr⟩ := forB_run h
  exact docRun_all _ _ _ _ _ hr
theorem ok_few {t : BTok} (h : okB t = true) (hk : t.kind ≠ 2) : t.attrs.length ≤ 64 := by
  have : t.attrs = [] := by
    unfold okB at h
    rw [if_neg hk] at h
    repeat' split at h
    all_goals (first | cases h | (simp only [Bool.and_eq_true] at h; first | exact isEmpty_of h.2.1 | exact isEmpty_of h.1))
  rw [this]
  exact Nat.zero_le _
end Go.Proofs.YtmemcabipcccaaaGreatDoor
/- Tokens as a text: xout's Write. -/
namespace Go.Proofs.YtmemcabipcccaaaGreatDoor
open Go.RowKit
theorem right_of (ts : List BTok) : rightO ts = 0 ∨ rightO ts = 5 ∨ rightO ts = 6 := by
  unfold rightO
  split
  · split
    · exact .inr (.inr rfl)
    · exact .inl rfl
  · exact .inr (.inl rfl)
theorem byW_any (b : Nat) (m : Int) (w : World) :
    Calls Tryz.prog 15 #[.pointer (some ⟨b, 0, none⟩), .int .i64 m] w fun e w' => e = .returned (.func (.func (wayF m)) #[.pointer (some ⟨b, 0, none⟩)] #[]) ∧ w' = w := by_any b m w
set_option maxRecDepth 100000 in
set_option maxHeartbeats 8000000 in
theorem outWrite_any (m : Int) (ts : List BTok) (a : Option Addr) (cap : Nat) (w : World) (hv : ToksArg w a ts) (hn : ts.length ≤ 1048576) (hs : ∀ t ∈ ts, Small t) (B : Nat) (hB : B ≤ w.heap.size) (hE : XEnv B w) :
    Calls Tryz.prog 5 #[.int .i64 m, .slice a ts.length cap] w fun e w' => e = .returned (.tuple #[.string (writeO m ts).1, .int .i64 ((writeO m ts).2 : Nat)]) ∧ Below w.heap.size w w' := by
  have HV := hide hv
  have HS := hide hs
  have HE := hide hE
  have HR := hide (outRight_any ts a cap w hv hn hs B hB hE)
  have HW : Hid (writeO m ts = if m < 0 ∨ 2 < m then (⟨#[]⟩, 2) else if rightO ts ≠ 0 then (⟨#[]⟩, rightO ts) else if m = 1 ∧ htmlOk ts = false then (⟨#[]⟩, 5) else if 32768 < (textO m ts).length then (⟨#[]⟩, 6) else (⟨(textO m ts).toArray⟩, 0)) := hide rfl
  clear hv hs hE
  by_cases h0 : m < 0
  · have HX : Hid (writeO m ts = (⟨#[]⟩, 2)) := hide (by rw [unhide HW, if_pos (.inl h0)])
    clear HW HR
    go_enter Tryz.func5, Tryz.ntmps5
    go_wp2
    go_ret2
    rw [unhide HX]
    exact ⟨rfl, Below.refl _ _⟩
  by_cases h2 : 2 < m
  · have HX : Hid (writeO m ts = (⟨#[]⟩, 2)) := hide (by rw [unhide HW, if_pos (.inr h2)])
    clear HW HR
    go_enter Tryz.func5, Tryz.ntmps5
    go_wp2
    go_ret2
    rw [unhide HX]
    exact ⟨rfl, Below.refl _ _⟩
  have HNO : Hid (¬ (m < 0 ∨ 2 < m)) := hide (by omega)
  have HRO := hide (right_of ts)
  have HR0 : Hid (rightO ts = rightO ts) := hide rfl
  generalize hr : rightO ts = r at HR HW HRO
  rw [hr] at HR0
  clear HR0
  have HR0 := hide hr
  clear hr
  rcases unhide HRO with rfl | rfl | rfl
  rotate_left 1
  · have HX : Hid (writeO m ts = (⟨#[]⟩, 5)) := hide (by rw [unhide HW, if_neg (unhide HNO), if_pos (by decide)])
    clear HW HRO HR0
    go_enter Tryz.func5, Tryz.ntmps5
    go_wp2_with fail
    refine (unhide HR).mono ?_
    rintro e w1 ⟨rfl, hb1⟩
    go_wp2
    go_ret2
    rw [unhide HX]
    exact ⟨rfl, hb1⟩
  · have HX : Hid (writeO m ts = (⟨#[]⟩, 6)) := hide (by rw [unhide HW, if_neg (unhide HNO), if_pos (by decide)])
    clear HW HRO HR0
    go_enter Tryz.func5, Tryz.ntmps5
    go_wp2_with fail
    refine (unhide HR).mono ?_
    rintro e w1 ⟨rfl, hb1⟩
    go_wp2
    go_ret2
    rw [unhide HX]
    exact ⟨rfl, hb1⟩
  by_cases h1 : m = 1
  · subst h1
    go_enter Tryz.func5, Tryz.ntmps5
    go_wp2_with fail
    refine (unhide HR).mono ?_
    rintro e w1 ⟨rfl, hb1⟩
    have HH := hide (isHtml_any ts a cap w1 ((unhide HV).below hb1) hn (unhide HS) ((unhide HE).low (hb1.mono hB)).env)
    cases hh : htmlOk ts with
    | false =>
      have HX : Hid (writeO 1 ts = (⟨#[]⟩, 5)) := hide (by rw [unhide HW, if_neg (unhide HNO), if_neg (by decide), if_pos ⟨by first | rfl | trivial, hh⟩])
      rw [hh] at HH
      clear HW hh
      go_wp2_with fail
      refine (unhide HH).mono ?_
      rintro e w2 ⟨rfl, hb2⟩
      go_wp2
      go_ret2
      rw [unhide HX]
      exact ⟨rfl, Below.then hb1 hb2⟩
    | true =>
      have HX : Hid (writeO 1 ts = if 32768 < (textO 1 ts).length then (⟨#[]⟩, 6) else (⟨(textO 1 ts).toArray⟩, 0)) := hide (by rw [unhide HW, if_neg (unhide HNO), if_neg (by decide), if_neg (by rw [hh]; simp)])
      rw [hh] at HH
      clear HW hh
      go_wp2_with fail
      refine (unhide HH).mono ?_
      rintro e w2 ⟨rfl, hb2⟩
      have hb02 := Below.then hb1 hb2
      have HI0 : Hid (IsW w2.heap.size w2.heap.size (Lib.byteCells []) (w2.alloc (.cells #[.pointer none, .slice none 0 0] 43))) := hide (Lib.IsBuilderF.of (.inl ⟨Nat.le_refl _, .slice none 0 0, alloc_newO _ _, World.ownsRow_nil _ _ _ _, (by intro h; cases h)⟩))
      have HBW : Hid (Below w2.heap.size w2 (w2.alloc (.cells #[.pointer none, .slice none 0 0] 43))) := hide ((Below.refl _ _).alloc (Nat.le_refl _) _)
      have HALL : Hid (∀ W, Below w2.heap.size w2 W → IsW w2.heap.size w2.heap.size (Lib.byteCells []) W → Calls Tryz.prog 14 #[.pointer (some ⟨w2.heap.size, 0, none⟩), .slice a ts.length cap, .func (.func (wayF 1)) #[.pointer (some ⟨w2.heap.size, 0, none⟩)] #[]] W fun e W' => e = .returned (.tuple #[]) ∧ WOut w2.heap.size w2.heap.size (textO 1 ts) W W') := hide fun W hb hI => all_any 1 w2 w2.heap.size ts a cap W ((unhide HV).below hb02) hb hI (unhide HS) (unhide HR0) (((unhide HE).low (hb02.mono hB)).up (Nat.le_trans hB hb02.size) |>.low hb)
      clear HR HRO HNO HH
      go_wp2_with fail
      refine (byW_any _ 1 _).mono ?_
      rintro e w5 ⟨rfl, rfl⟩
      go_wp2_with fail
      refine (unhide HALL _ (unhide HBW) (unhide HI0)).mono ?_
      rintro e w6 ⟨rfl, hO⟩
      have hb6 := Below.then hb02 ((unhide HBW).trans hO.bel)
      have HLn := hide (wrLen_any w2.heap.size w2.heap.size _ w6 hO.bld)
      have HSt := hide (wrStr_any w2.heap.size w2.heap.size _ w6 hO.bld (Nat.le_trans (unhide HBW).size hO.bel.size))
      have HB6 := hide ((unhide HBW).trans hO.bel)
      rw [Lib.byteCells_length] at HLn
      clear hO HALL
      go_wp2_with fail
      refine (unhide HLn).mono ?_
      rintro e w7 ⟨rfl, rfl⟩
      by_cases hz : 32768 < (textO 1 ts).length
      · have hz' : (32768 : Int) < ((textO 1 ts).length : Int) := by omega
        have HX2 : Hid (writeO 1 ts = (⟨#[]⟩, 6)) := hide (by rw [unhide HX, if_pos hz])
        clear hz
        go_wp2
        go_ret2
        rw [unhide HX2]
        exact ⟨rfl, hb6⟩
      · have hz' : ¬ (32768 : Int) < ((textO 1 ts).length : Int) := by omega
        have HX2 : Hid (writeO 1 ts = (⟨(textO 1 ts).toArray⟩, 0)) := hide (by rw [unhide HX, if_neg hz])
        clear hz
        go_wp2_with fail
        refine (unhide HSt).mono ?_
        rintro e w8 ⟨rfl, hb8⟩
        go_wp2
        go_ret2
        rw [unhide HX2]
        exact ⟨rfl, Below.then hb02 ((unhide HB6).trans hb8)⟩
  · have HX : Hid (writeO m ts = if 32768 < (textO m ts).length then (⟨#[]⟩, 6) else (⟨(textO m ts).toArray⟩, 0)) := hide (by rw [unhide HW, if_neg (unhide HNO), if_neg (by decide), if_neg (fun e => h1 e.1)])
    clear HW
    go_enter Tryz.func5, Tryz.ntmps5
    go_wp2_with fail
    refine (unhide HR).mono ?_
    rintro e w1 ⟨rfl, hb1⟩
    have HI0 : Hid (IsW w1.heap.size w1.heap.size (Lib.byteCells []) (w1.alloc (.cells #[.pointer none, .slice none 0 0] 43))) := hide (Lib.IsBuilderF.of (.inl ⟨Nat.le_refl _, .slice none 0 0, alloc_newO _ _, World.ownsRow_nil _ _ _ _, (by intro h; cases h)⟩))
    have HBW : Hid (Below w1.heap.size w1 (w1.alloc (.cells #[.pointer none, .slice none 0 0] 43))) := hide ((Below.refl _ _).alloc (Nat.le_refl _) _)
    have HALL : Hid (∀ W, Below w1.heap.size w1 W → IsW w1.heap.size w1.heap.size (Lib.byteCells []) W → Calls Tryz.prog 14 #[.pointer (some ⟨w1.heap.size, 0, none⟩), .slice a ts.length cap, .func (.func (wayF m)) #[.pointer (some ⟨w1.heap.size, 0, none⟩)] #[]] W fun e W' => e = .returned (.tuple #[]) ∧ WOut w1.heap.size w1.heap.size (textO m ts) W W') := hide fun W hb hI => all_any m w1 w1.heap.size ts a cap W ((unhide HV).below hb1) hb hI (unhide HS) (unhide HR0) (((unhide HE).low (hb1.mono hB)).up (Nat.le_trans hB hb1.size) |>.low hb)
    clear HR HRO HNO 
    go_wp2_with fail
    refine (byW_any _ m _).mono ?_
    rintro e w5 ⟨rfl, rfl⟩
    go_wp2_with fail
    refine (unhide HALL _ (unhide HBW) (unhide HI0)).mono ?_
    rintro e w6 ⟨rfl, hO⟩
    have hb6 := Below.then hb1 ((unhide HBW).trans hO.bel)
    have HLn := hide (wrLen_any w1.heap.size w1.heap.size _ w6 hO.bld)
    have HSt := hide (wrStr_any w1.heap.size w1.heap.size _ w6 hO.bld (Nat.le_trans (unhide HBW).size hO.bel.size))
    have HB6 := hide ((unhide HBW).trans hO.bel)
    rw [Lib.byteCells_length] at HLn
    clear hO HALL
    go_wp2_with fail
    refine (unhide HLn).mono ?_
    rintro e w7 ⟨rfl, rfl⟩
    by_cases hz : 32768 < (textO m ts).length
    · have hz' : (32768 : Int) < ((textO m ts).length : Int) := by omega
      have HX2 : Hid (writeO m ts = (⟨#[]⟩, 6)) := hide (by rw [unhide HX, if_pos hz])
      clear hz
      go_wp2
      go_ret2
      rw [unhide HX2]
      exact ⟨rfl, hb6⟩
    · have hz' : ¬ (32768 : Int) < ((textO m ts).length : Int) := by omega
      have HX2 : Hid (writeO m ts = (⟨(textO m ts).toArray⟩, 0)) := hide (by rw [unhide HX, if_neg hz])
      clear hz
      go_wp2_with fail
      refine (unhide HSt).mono ?_
      rintro e w8 ⟨rfl, hb8⟩
      go_wp2
      go_ret2
      rw [unhide HX2]
      exact ⟨rfl, Below.then hb1 ((unhide HB6).trans hb8)⟩
end Go.Proofs.YtmemcabipcccaaaGreatDoor
/- Which characters are blanks: the reference's IsBlank. -/
namespace Go.Proofs.YtmemcabipcccaaaGreatDoor
open Go.RowKit
theorem refIsBlank_any (r : Int) (w : World) :
    Calls Tryz.prog 47 #[.int .i32 r] w fun e w' => e = .returned (.bool (blankB r)) ∧ w' = w := by
  go_enter Tryz.func47, Tryz.ntmps47
  go_wp2
  all_goals
    go_ret
    exact ⟨by simp [blankB, *], rfl⟩
end Go.Proofs.YtmemcabipcccaaaGreatDoor
