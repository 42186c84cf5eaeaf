/- Several texts, laid as one. -/
import Derived.Test.YtmemcabipcccaaaGreatDoorGbe
import Derived.Test.YtmemcabipcccaaaGreatDoorGbb
import Derived.Shelf.Abstract
/- What xout's writer writes of a token, by html: isRaw, html. -/
namespace Go.Proofs.YtmemcabipcccaaaGreatDoor
open Go.RowKit
set_option maxRecDepth 100000 in
set_option maxHeartbeats 8000000 in
theorem isRaw_any (t : BTok) (u : Pl) (a : BTok) (ua : Pl) (c : BTok) (uc : Pl) (w : World) (ha : a.name.size ≤ 1048576) (hE : Env w) :
    Calls Tryz.prog 53 #[spotCs t u a ua c uc] w fun e w' => e = .returned (.bool (decide (a.kind = 2) && rawB a.name)) ∧ Below w.heap.size w w' := by
  have hbA : Below w.heap.size w (w.alloc (.cells #[.int .i64 t.kind, .string t.name, .slice u.1 t.attrs.length u.2, .string t.text, .int .i64 a.kind, .string a.name, .slice ua.1 a.attrs.length ua.2, .string a.text, .int .i64 c.kind, .string c.name, .slice uc.1 c.attrs.length uc.2, .string c.text] 62)) := (Below.refl _ _).alloc (Nat.le_refl _) _
  have HR := hide (xRaw_any a.name _ ha (hE.below hbA))
  have HB := hide hbA
  unfold spotCs
  clear hE hbA
  by_cases k : a.kind = 2
  · rw [decide_eq_true k, Bool.true_and]
    rw [k] at HR HB ⊢
    clear k
    go_enter Tryz.func53, Tryz.ntmps53
    go_wp2_with fail
    refine (unhide HR).mono ?_
    rintro e w1 ⟨rfl, hb1⟩
    go_wp2_with fail
    go_returns
    exact ⟨rfl, Below.then (unhide HB) hb1⟩
  · rw [decide_eq_false k, Bool.false_and]
    clear HR
    go_enter Tryz.func53, Tryz.ntmps53
    go_wp2_with fail
    go_returns
    exact ⟨rfl, unhide HB⟩
def rawS (a : BTok) : Bool := decide (a.kind = 2) && rawB a.name
def htmlO (t a : BTok) : List UInt8 :=
  if t.kind = 7 ∧ voidB t.name = true then [] else if t.kind = 4 ∧ rawS a = true then t.text.data.toList else if t.kind = 6 then instrO t ⟨#[62]⟩ else bothB hAttrB t
set_option maxRecDepth 100000 in
set_option maxHeartbeats 8000000 in
theorem wHtml_any (w0 : World) (b : Nat) (l : List UInt8) (t : BTok) (u : Pl) (a : BTok) (ua : Pl) (c : BTok) (uc : Pl) (w : World) (hv : PairsArg w0 (.slice u.1 t.attrs.length u.2) t.attrs) (hb : Below w0.heap.size w0 w) (h : IsW w0.heap.size b (Lib.byteCells l) w) (hs : Small t) (ha : a.name.size ≤ 1048576) (hz : l.length ≤ 80000000000000) (hE : XEnv w0.heap.size w) :
    Calls Tryz.prog 31 #[.pointer (some ⟨b, 0, none⟩), spotCs t u a ua c uc] w fun e w' => e = .returned (.tuple #[]) ∧ WOut w0.heap.size b (l ++ htmlO t a) w w' := by
  have hB := hb.size
  obtain ⟨W0, hW0⟩ : ∃ W0, W0 = w.alloc (.cells #[.int .i64 t.kind, .string t.name, .slice u.1 t.attrs.length u.2, .string t.text, .int .i64 a.kind, .string a.name, .slice ua.1 a.attrs.length ua.2, .string a.text, .int .i64 c.kind, .string c.name, .slice uc.1 c.attrs.length uc.2, .string c.text] 62) := ⟨_, rfl⟩
  have hbA : Below w.heap.size w W0 := by rw [hW0]; exact (Below.refl _ _).alloc (Nat.le_refl _) _
  have hO0 := WOut.start h hB hbA
  have HO0 := hide hO0
  have hBW := Nat.le_trans hB hbA.size
  have hE0 := hE.low hO0.bel
  have HI := hide (wInstr_any w0.heap.size b l t u ⟨#[62]⟩ W0 hO0.bld (by have := hs.n; have := hs.x; have e : (⟨#[62]⟩ : ByteArray).size = 1 := rfl; omega) hBW)
  have HC := hide (fun (W : World) (hW : Below W0.heap.size W0 W) => wComH_any w0 b l t u W hv ((hb.trans hO0.bel).trans (hW.mono hBW)) (hO0.bld.more hW) hs hz (hE0.low (hW.mono hBW)))
  have HVO := hide (xVoid_any t.name W0 hs.n hE0.env)
  have HRA := hide (isRaw_any t u a ua c uc W0 ha hE0.env)
  have HB0 : Hid (W0.heap[w.heap.size]? = some (.cells #[.int .i64 t.kind, .string t.name, .slice u.1 t.attrs.length u.2, .string t.text, .int .i64 a.kind, .string a.name, .slice ua.1 a.attrs.length ua.2, .string a.text, .int .i64 c.kind, .string c.name, .slice uc.1 c.attrs.length uc.2, .string c.text] 62 (0, 0))) := hide (by rw [hW0]; exact alloc_newO _ _)
  have HPT : Hid (l.length + (flatB [t.text]).length ≤ 140737488355328) := hide (by have := hs.x; have e : (flatB [t.text]).length = t.text.size := (by simp [flatB]); omega)
  unfold tokVs at HI HC
  unfold spotCs at HRA
  have HX : Hid (htmlO t a = if t.kind = 7 ∧ voidB t.name = true then [] else if t.kind = 4 ∧ rawS a = true then t.text.data.toList else if t.kind = 6 then instrO t ⟨#[62]⟩ else bothB hAttrB t) := hide rfl
  have HRS : Hid ((decide (a.kind = 2) && rawB a.name) = rawS a) := hide rfl
  rw [unhide HRS] at HRA
  subst hW0
  unfold spotCs
  clear hO0 hbA h hs hv hb hBW hE hE0 ha HRS
  by_cases k7 : t.kind = 7
  · rw [k7] at HC HVO HO0 HB0 ⊢
    cases hvo : voidB t.name with
    | true =>
      have HE' : Hid (htmlO t a = []) := hide (by rw [unhide HX, if_pos ⟨k7, hvo⟩])
      rw [hvo] at HVO
      rw [unhide HE', List.append_nil]
      clear HC HI HRA k7 hvo
      go_enter Tryz.func31, Tryz.ntmps31
      go_wp2_with fail
      refine (unhide HVO).mono ?_
      rintro e w1 ⟨rfl, hb1⟩
      go_wp2_with fail
      go_end0
      exact ⟨rfl, (unhide HO0).more hB hb1⟩
    | false =>
      have HE' : Hid (htmlO t a = bothB hAttrB t) := hide (by rw [unhide HX, if_neg (by rw [hvo]; simp), if_neg (by rw [k7]; simp), if_neg (by rw [k7]; decide)])
      rw [hvo] at HVO
      clear HI HRA k7 hvo
      go_enter Tryz.func31, Tryz.ntmps31
      go_wp2_with fail
      refine (unhide HVO).mono ?_
      rintro e w1 ⟨rfl, hb1⟩
      have hk := (hb1.block w.heap.size (Array.getElem?_eq_some_iff.1 (unhide HB0)).1).trans (unhide HB0)
      have c0 : w1.cell? ⟨w.heap.size, 0, none⟩ = some (.int .i64 7) := by rw [Lib.cell_of_heap hk]; rfl
      have c1 : w1.cell? ⟨w.heap.size, 1, none⟩ = some (.string t.name) := by rw [Lib.cell_of_heap hk]; rfl
      have c2 : w1.cell? ⟨w.heap.size, 2, none⟩ = some (.slice u.1 t.attrs.length u.2) := by rw [Lib.cell_of_heap hk]; rfl
      have c3 : w1.cell? ⟨w.heap.size, 3, none⟩ = some (.string t.text) := by rw [Lib.cell_of_heap hk]; rfl
      clear hk
      go_wp2_with fail
      refine (unhide HC w1 hb1).mono ?_
      rintro e w2 ⟨rfl, hO⟩
      go_wp2_with fail
      go_end0
      rw [← unhide HE'] at hO
      exact ⟨rfl, ((unhide HO0).more hB hb1).next hO⟩
  by_cases k4 : t.kind = 4
  · rw [k4] at HC HRA HO0 HB0 ⊢
    cases hra : rawS a with
    | true =>
      have HE' : Hid (l ++ flatB [t.text] = l ++ htmlO t a) := hide (by rw [unhide HX, if_neg (by rw [k4]; simp), if_pos ⟨k4, hra⟩]; simp [flatB])
      rw [hra] at HRA
      clear HC HI HVO k4 k7 hra
      go_enter Tryz.func31, Tryz.ntmps31
      go_wp2_with fail
      refine (unhide HRA).mono ?_
      rintro e w1 ⟨rfl, hb1⟩
      have hk := (hb1.block w.heap.size (Array.getElem?_eq_some_iff.1 (unhide HB0)).1).trans (unhide HB0)
      have c3 : w1.cell? ⟨w.heap.size, 3, none⟩ = some (.string t.text) := by rw [Lib.cell_of_heap hk]; rfl
      clear hk
      go_wp2_with fail
      refine (put_fresh w0.heap.size b l w w1 [t.text] _ rfl ((unhide HO0).more hB hb1) (by simp) (unhide HPT) hB).mono ?_
      rintro e w2 ⟨rfl, hO⟩
      go_wp2_with fail
      go_end0
      rw [unhide HE'] at hO
      exact ⟨rfl, hO⟩
    | false =>
      have HE' : Hid (htmlO t a = bothB hAttrB t) := hide (by rw [unhide HX, if_neg (by rw [k4]; simp), if_neg (by rw [hra]; simp), if_neg (by rw [k4]; decide)])
      rw [hra] at HRA
      clear HI HVO k4 k7 hra
      go_enter Tryz.func31, Tryz.ntmps31
      go_wp2_with fail
      refine (unhide HRA).mono ?_
      rintro e w1 ⟨rfl, hb1⟩
      have hk := (hb1.block w.heap.size (Array.getElem?_eq_some_iff.1 (unhide HB0)).1).trans (unhide HB0)
      have c0 : w1.cell? ⟨w.heap.size, 0, none⟩ = some (.int .i64 4) := by rw [Lib.cell_of_heap hk]; rfl
      have c1 : w1.cell? ⟨w.heap.size, 1, none⟩ = some (.string t.name) := by rw [Lib.cell_of_heap hk]; rfl
      have c2 : w1.cell? ⟨w.heap.size, 2, none⟩ = some (.slice u.1 t.attrs.length u.2) := by rw [Lib.cell_of_heap hk]; rfl
      have c3 : w1.cell? ⟨w.heap.size, 3, none⟩ = some (.string t.text) := by rw [Lib.cell_of_heap hk]; rfl
      clear hk
      go_wp2_with fail
      refine (unhide HC w1 hb1).mono ?_
      rintro e w2 ⟨rfl, hO⟩
      go_wp2_with fail
      go_end0
      rw [← unhide HE'] at hO
      exact ⟨rfl, ((unhide HO0).more hB hb1).next hO⟩
  by_cases k6 : t.kind = 6
  · have HE' : Hid (htmlO t a = instrO t ⟨#[62]⟩) := hide (by rw [unhide HX, if_neg (fun e => k7 e.1), if_neg (fun e => k4 e.1), if_pos k6])
    rw [k6] at HI HO0 ⊢
    clear HC HVO HRA k7 k4 k6
    go_enter Tryz.func31, Tryz.ntmps31
    go_wp2_with fail
    refine (unhide HI).mono ?_
    rintro e w1 ⟨rfl, hO⟩
    go_wp2_with fail
    go_end0
    rw [← unhide HE'] at hO
    exact ⟨rfl, (unhide HO0).next hO⟩
  · have HE' : Hid (htmlO t a = bothB hAttrB t) := hide (by rw [unhide HX, if_neg (fun e => k7 e.1), if_neg (fun e => k4 e.1), if_neg k6])
    have HC0 := hide (unhide HC _ (Below.refl _ _))
    clear HI HVO HRA HC
    go_enter Tryz.func31, Tryz.ntmps31
    go_wp2_with fail
    refine (unhide HC0).mono ?_
    rintro e w1 ⟨rfl, hO⟩
    go_wp2_with fail
    go_end0
    rw [← unhide HE'] at hO
    exact ⟨rfl, (unhide HO0).next hO⟩
end Go.Proofs.YtmemcabipcccaaaGreatDoor
/- What html can't write: isLost. -/
namespace Go.Proofs.YtmemcabipcccaaaGreatDoor
open Go.RowKit
/-- Would a token be read as something else in html? -/
def lostB (t a c : BTok) : Bool :=
  if t.kind = 2 then (c.kind != 7) && (voidB t.name || (rawB t.name && (c.kind != 4))) else if t.kind = 4 then rawS a && ((c.kind != 7) || Lib.contains t.text.data.toList [60, 47]) else if t.kind = 6 then Lib.contains t.text.data.toList [62] else false
set_option maxRecDepth 100000 in
set_option maxHeartbeats 8000000 in
theorem isLost_any (t : BTok) (u : Pl) (a : BTok) (ua : Pl) (c : BTok) (uc : Pl) (w : World) (hs : Small t) (ha : a.name.size ≤ 1048576) (hE : Env w) :
    Calls Tryz.prog 30 #[spotCs t u a ua c uc] w fun e w' => e = .returned (.bool (lostB t a c)) ∧ Below w.heap.size w w' := by
  obtain ⟨W0, hW0⟩ : ∃ W0, W0 = w.alloc (.cells #[.int .i64 t.kind, .string t.name, .slice u.1 t.attrs.length u.2, .string t.text, .int .i64 a.kind, .string a.name, .slice ua.1 a.attrs.length ua.2, .string a.text, .int .i64 c.kind, .string c.name, .slice uc.1 c.attrs.length uc.2, .string c.text] 62) := ⟨_, rfl⟩
  have hbA : Below w.heap.size w W0 := by rw [hW0]; exact (Below.refl _ _).alloc (Nat.le_refl _) _
  have hE0 := hE.below hbA
  have HB := hide hbA
  have HVO := hide (xVoid_any t.name W0 hs.n hE0)
  have HRW := hide (fun W (hW : Below W0.heap.size W0 W) => xRaw_any t.name W hs.n (hE0.below hW))
  have HRA := hide (isRaw_any t u a ua c uc W0 ha hE0)
  have hx := hs.x
  have HCN := hide (fun W (hW : Below W0.heap.size W0 W) (sub : ByteArray) => (Tryz.strings_Contains t.text sub ((hE0.below hW).len).choose W (by omega) ((hE0.below hW).len).choose_spec))
  have HB0 : Hid (W0.heap[w.heap.size]? = some (.cells #[.int .i64 t.kind, .string t.name, .slice u.1 t.attrs.length u.2, .string t.text, .int .i64 a.kind, .string a.name, .slice ua.1 a.attrs.length ua.2, .string a.text, .int .i64 c.kind, .string c.name, .slice uc.1 c.attrs.length uc.2, .string c.text] 62 (0, 0))) := hide (by rw [hW0]; exact alloc_newO _ _)
  have HX : Hid (lostB t a c = if t.kind = 2 then (c.kind != 7) && (voidB t.name || (rawB t.name && (c.kind != 4))) else if t.kind = 4 then rawS a && ((c.kind != 7) || Lib.contains t.text.data.toList [60, 47]) else if t.kind = 6 then Lib.contains t.text.data.toList [62] else false) := hide rfl
  have HRS : Hid ((decide (a.kind = 2) && rawB a.name) = rawS a) := hide rfl
  rw [unhide HRS] at HRA
  unfold spotCs at HRA
  subst hW0
  unfold spotCs
  clear hbA hE0 hE hs ha HRS hx
  by_cases k2 : t.kind = 2
  · have HX2 := HX
    rw [if_pos k2] at HX2
    rw [k2] at HVO HRW HB0 HB ⊢
    clear k2 HX HRA HCN
    by_cases c7 : c.kind = 7
    · have HR : Hid (lostB t a c = false) := hide (by rw [unhide HX2, c7]; rfl)
      rw [c7] at HB ⊢
      rw [unhide HR]
      clear HX2 c7 HVO HRW HB0
      go_enter Tryz.func30, Tryz.ntmps30
      go_wp2_with fail
      go_returns
      exact ⟨rfl, unhide HB⟩
    · have c7' : (c.kind != 7) = true := by simpa using c7
      rw [c7', Bool.true_and] at HX2
      cases hvo : voidB t.name with
      | true =>
        rw [hvo] at HVO HX2
        rw [show lostB t a c = true from (unhide HX2).trans (Bool.true_or _)]
        clear HX2 hvo HRW HB0
        go_enter Tryz.func30, Tryz.ntmps30
        go_wp2_with fail
        refine (unhide HVO).mono ?_
        rintro e w1 ⟨rfl, hb1⟩
        go_wp2_with fail
        go_returns
        exact ⟨rfl, Below.then (unhide HB) hb1⟩
      | false =>
        rw [hvo, Bool.false_or] at HX2
        rw [hvo] at HVO
        cases hrw : rawB t.name with
        | true =>
          rw [hrw] at HRW
          rw [hrw, Bool.true_and] at HX2
          rw [unhide HX2]
          clear HX2 hvo hrw
          go_enter Tryz.func30, Tryz.ntmps30
          go_wp2_with fail
          refine (unhide HVO).mono ?_
          rintro e w1 ⟨rfl, hb1⟩
          have hk := (hb1.block w.heap.size (Array.getElem?_eq_some_iff.1 (unhide HB0)).1).trans (unhide HB0)
          have HK := hide hk
          have c1 : w1.cell? ⟨w.heap.size, 1, none⟩ = some (.string t.name) := by rw [Lib.cell_of_heap hk]; rfl
          have c8 : w1.cell? ⟨w.heap.size, 8, none⟩ = some (.int .i64 c.kind) := by rw [Lib.cell_of_heap hk]; rfl
          clear hk
          go_wp2_with fail
          refine (unhide HRW _ hb1).mono ?_
          rintro e w2 ⟨rfl, hb2⟩
          clear c1 c8
          have hk2 := (hb2.block w.heap.size (Array.getElem?_eq_some_iff.1 (unhide HK)).1).trans (unhide HK)
          have c8 : w2.cell? ⟨w.heap.size, 8, none⟩ = some (.int .i64 c.kind) := by rw [Lib.cell_of_heap hk2]; rfl
          clear hk2
          go_wp2_with fail
          go_returns
          exact ⟨rfl, Below.then (unhide HB) (Below.then hb1 hb2)⟩
        | false =>
          rw [hrw] at HRW
          rw [hrw, Bool.false_and] at HX2
          rw [unhide HX2]
          clear HX2 hvo hrw
          go_enter Tryz.func30, Tryz.ntmps30
          go_wp2_with fail
          refine (unhide HVO).mono ?_
          rintro e w1 ⟨rfl, hb1⟩
          have hk := (hb1.block w.heap.size (Array.getElem?_eq_some_iff.1 (unhide HB0)).1).trans (unhide HB0)
          have c1 : w1.cell? ⟨w.heap.size, 1, none⟩ = some (.string t.name) := by rw [Lib.cell_of_heap hk]; rfl
          have c8 : w1.cell? ⟨w.heap.size, 8, none⟩ = some (.int .i64 c.kind) := by rw [Lib.cell_of_heap hk]; rfl
          clear hk
          go_wp2_with fail
          refine (unhide HRW _ hb1).mono ?_
          rintro e w2 ⟨rfl, hb2⟩
          clear c1 c8
          go_wp2_with fail
          go_returns
          exact ⟨rfl, Below.then (unhide HB) (Below.then hb1 hb2)⟩
  by_cases k4 : t.kind = 4
  · have HX4 := HX
    rw [if_neg k2, if_pos k4] at HX4
    rw [k4] at HRA HCN HB0 HB ⊢
    clear k2 k4 HX HVO HRW
    cases hra : rawS a with
    | false =>
      rw [hra] at HRA
      rw [hra, Bool.false_and] at HX4
      rw [unhide HX4]
      clear HX4 hra HCN HB0
      go_enter Tryz.func30, Tryz.ntmps30
      go_wp2_with fail
      refine (unhide HRA).mono ?_
      rintro e w1 ⟨rfl, hb1⟩
      go_wp2_with fail
      go_returns
      exact ⟨rfl, Below.then (unhide HB) hb1⟩
    | true =>
      rw [hra] at HRA
      rw [hra, Bool.true_and] at HX4
      clear hra
      by_cases c7 : c.kind = 7
      · rw [c7] at HX4 HRA HCN HB0 HB ⊢
        have HR : Hid (lostB t a c = Lib.contains t.text.data.toList (⟨#[60, 47]⟩ : ByteArray).data.toList) := hide (unhide HX4)
        rw [unhide HR]
        clear HX4 c7
        go_enter Tryz.func30, Tryz.ntmps30
        go_wp2_with fail
        refine (unhide HRA).mono ?_
        rintro e w1 ⟨rfl, hb1⟩
        have hk := (hb1.block w.heap.size (Array.getElem?_eq_some_iff.1 (unhide HB0)).1).trans (unhide HB0)
        have c8 : w1.cell? ⟨w.heap.size, 8, none⟩ = some (.int .i64 7) := by rw [Lib.cell_of_heap hk]; rfl
        have c3 : w1.cell? ⟨w.heap.size, 3, none⟩ = some (.string t.text) := by rw [Lib.cell_of_heap hk]; rfl
        clear hk
        go_wp2_with fail
        refine (unhide HCN _ hb1 _).mono ?_
        rintro e w2 ⟨rfl, rfl⟩
        go_wp2_with fail
        go_returns
        exact ⟨rfl, Below.then (unhide HB) hb1⟩
      · have c7' : (c.kind != 7) = true := by simpa using c7
        rw [c7', Bool.true_or] at HX4
        rw [unhide HX4]
        clear HX4 HCN
        go_enter Tryz.func30, Tryz.ntmps30
        go_wp2_with fail
        refine (unhide HRA).mono ?_
        rintro e w1 ⟨rfl, hb1⟩
        have hk := (hb1.block w.heap.size (Array.getElem?_eq_some_iff.1 (unhide HB0)).1).trans (unhide HB0)
        have c3 : w1.cell? ⟨w.heap.size, 3, none⟩ = some (.string t.text) := by rw [Lib.cell_of_heap hk]; rfl
        have c8 : w1.cell? ⟨w.heap.size, 8, none⟩ = some (.int .i64 c.kind) := by rw [Lib.cell_of_heap hk]; rfl
        clear hk
        go_wp2_with fail
        go_returns
        exact ⟨rfl, Below.then (unhide HB) hb1⟩
  by_cases k6 : t.kind = 6
  · have HR : Hid (lostB t a c = Lib.contains t.text.data.toList (⟨#[62]⟩ : ByteArray).data.toList) := hide (by rw [unhide HX, if_neg k2, if_neg k4, if_pos k6])
    rw [unhide HR]
    rw [k6] at HCN HB ⊢
    clear k2 k4 k6 HX HVO HRW HRA HB0
    go_enter Tryz.func30, Tryz.ntmps30
    go_wp2_with fail
    refine (unhide HCN _ (Below.refl _ _) _).mono ?_
    rintro e w2 ⟨rfl, rfl⟩
    go_wp2_with fail
    go_returns
    exact ⟨rfl, unhide HB⟩
  · rw [show lostB t a c = false by rw [unhide HX, if_neg k2, if_neg k4, if_neg k6]]
    clear HX HVO HRW HRA HB0 HCN
    go_enter Tryz.func30, Tryz.ntmps30
    go_wp2_with fail
    go_returns
    exact ⟨rfl, unhide HB⟩
end Go.Proofs.YtmemcabipcccaaaGreatDoor
/- Can tokens be written as html: isHtml. -/
namespace Go.Proofs.YtmemcabipcccaaaGreatDoor
open Go.RowKit Go.Maps Go.Sort Go.Shelf
attribute [local go_sem] Oper.semAt_some
theorem cell_cells {w : World} {g o : Nat} {v : Value} (h : w.cell? ⟨g, o, none⟩ = some v) : ∃ c T fz, w.heap[g]? = some (.cells c T fz) := by
  unfold World.cell? at h
  simp only at h
  split at h
  · rename_i c T fz heq
    exact ⟨c, T, fz, heq⟩
  · cases h
/-- A cell stays where only blocks that are no cells are turned. -/
theorem cell_turned {w W : World} {row : Option Nat} (hg : w.grownBy W row) (hr : ∀ r, row = some r → ∃ o : Obj, w.heap[r]? = some o ∧ o.isCells = false) {g o : Nat} {v : Value} (h : w.cell? ⟨g, o, none⟩ = some v) : W.cell? ⟨g, o, none⟩ = some v := by
  obtain ⟨c, T, fz, hc⟩ := cell_cells h
  have hk : W.heap[g]? = some (.cells c T fz) := (hg.block g (Array.getElem?_eq_some_iff.1 hc).1 (fun e => by
    obtain ⟨o', ho, hn⟩ := hr g e.symm
    rw [hc] at ho
    cases ho
    cases hn)).trans hc
  rw [Lib.cell_of_heap hc] at h
  rw [Lib.cell_of_heap hk]
  exact h
theorem SpRd.turned {Bl : Nat} {a : Option Addr} {cap : Nat} {ts : List BTok} {us : List Pl} {w W : World} {row : Option Nat} (h : SpRd Bl a cap ts us w) (hg : w.grownBy W row) (hr : ∀ r, row = some r → ∃ o : Obj, w.heap[r]? = some o ∧ o.isCells = false) : SpRd Bl a cap ts us W := by
  refine ⟨cell_turned hg hr h.box, h.len, fun hne => ?_⟩
  obtain ⟨g, o, e, hc⟩ := h.toks hne
  exact ⟨g, o, e, fun i t u h1 h2 => ⟨cell_turned hg hr (hc i t u h1 h2).1, cell_turned hg hr (hc i t u h1 h2).2.1, cell_turned hg hr (hc i t u h1 h2).2.2.1, cell_turned hg hr (hc i t u h1 h2).2.2.2⟩⟩
theorem spRd_own {β : Type} (B Bl : Nat) (a : Option Addr) (cap : Nat) (ts : List BTok) (us : List Pl) : OwnFrom B (fun (_ : β) W => SpRd Bl a cap ts us W) := fun _ _ _ _ hs hg hr => hs.turned hg (fun r e => (hr r e).2)
/-- A block of cells stays. -/
theorem blk_own {β : Type} (B g : Nat) (c : Array Value) (T : TypeId) : OwnFrom B (fun (_ : β) W => W.heap[g]? = some (.cells c T (0, 0))) := fun _ _ _ row hs hg hr => (hg.block g (Array.getElem?_eq_some_iff.1 hs).1 (fun e => by
    obtain ⟨o', ho, hn⟩ := (hr g e.symm).2
    rw [hs] at ho
    cases ho
    cases hn)).trans hs
/-- Is the spot lost in html? -/
def lostAt (ts : List BTok) (i : Nat) : Bool := lostB (tkAt ts i) (ahT ts i) (tkAt ts (i + 1))
def htmlOk (ts : List BTok) : Bool := (List.range ts.length).all fun i => !lostAt ts i
def spotA (t : BTok) (u : Pl) (a : BTok) (ua : Pl) (b : BTok) (ub : Pl) : Array Value :=
  #[.int .i64 t.kind, .string t.name, .slice u.1 t.attrs.length u.2, .string t.text, .int .i64 a.kind, .string a.name, .slice ua.1 a.attrs.length ua.2, .string a.text, .int .i64 b.kind, .string b.name, .slice ub.1 b.attrs.length ub.2, .string b.text]
theorem small_z : Small zB := ⟨Nat.zero_le _, (fun x h => by cases h), by decide, by decide⟩
theorem small_tk {ts : List BTok} (hs : ∀ t ∈ ts, Small t) (i : Nat) : Small (tkAt ts i) := by
  unfold tkAt
  cases h : ts[i]? with
  | none => exact small_z
  | some t => exact hs t (List.mem_of_getElem? h)
theorem small_ah {ts : List BTok} (hs : ∀ t ∈ ts, Small t) (i : Nat) : Small (ahT ts i) := by
  unfold ahT
  split
  · exact small_z
  · exact small_tk hs _
theorem isHtml_res (W : World) (v : Bool) (B : Nat) (x0 x1 x3 x4 x5 x6 x7 x8 : Value) (h : W.cell? ⟨B, 0, none⟩ = some (.bool v)) : (results Tryz.f13 #[x0, x1, .pointer (some ⟨B, 0, none⟩), x3, x4, x5, x6, x7, x8]).run Tryz.prog W = .ok (.bool v) W := by
  simp [results, Tryz.results13, go_sem, h]
set_option maxRecDepth 100000 in
set_option maxHeartbeats 4000000 in
theorem isHtml_in (n : Nat) (hn : 3 ≤ n) (ts : List BTok) (a : Option Addr) (cap : Nat) (w : World) (hv : ToksArg w a ts) (hlen : ts.length ≤ 1048576) (hs : ∀ t ∈ ts, Small t) (hE : Env w) :
    CallsIn Fence.wide n Tryz.prog 13 #[.slice a ts.length cap] w fun e W' => e = .returned (.bool (htmlOk ts)) ∧ Below w.heap.size w W' := by
  have h1 : 1 ≤ n := by omega
  have hbR : Below w.heap.size w (w.alloc (.cells #[.bool false] 4)) := (Below.refl _ _).alloc (Nat.le_refl _) _
  have HBR := hide hbR
  have HSQ := hide (spots_seq ts a cap _ (hv.below hbR))
  simp only [World.size_alloc] at HSQ
  have HBX := hide (Boxed.new w 4 (.bool false))
  refine callsIn_of_wp_marks Tryz.func13 rfl trivial ?_ rfl
  simp only [Tryz.ntmps13, List.size_toArray, List.length_cons, List.length_nil, Nat.reduceAdd, Nat.reduceSub, Array.replicate_succ, Array.replicate_zero, List.push_toArray, List.append_toArray, List.nil_append, List.cons_append]
  clear hv hbR
  gi_wp2_with (refine ⟨trivial, ?_⟩; gi_at_call 29; refine (callsIn_wide.2 (unhide HSQ)).mono ?_; rintro e W1 ⟨us, rfl, hR, hP, hsz, hb1⟩)
  have hbW : Below w.heap.size w W1 := (unhide HBR).trans (hb1.mono (by omega))
  have hBX : Boxed W1 w.heap.size 4 (.bool false) := (hb1.block w.heap.size (by omega)).trans (unhide HBX)
  have HZ : Hid (w.heap.size + 1 + 1 = W1.heap.size) := hide hsz.symm
  have HSM := hide hs
  have HEE := hide hE
  clear hsz hb1 HSQ HBX HBR hP hs hE
  refine wpIn_rangeFunc_ownH rfl h1 (gf := 52) (lb := #[.pointer (some ⟨w.heap.size + 1, 0, none⟩)]) rfl trivial (enters_of Tryz.func52 (by kernel_rfl) rfl)
    (spots_stops (n - 1) (by omega) (w.heap.size + 1) a cap ts us hlen W1 hR) (fun h k x => k (h x)) (fun W l o o' _ ho hc _ hr => hr.turned (grownBy_putObj' W l o') (fun r e => by cases e; exact ⟨o, ho, hc⟩)) (Below.refl _ _) (fun _ => rfl)
    (fun pre W => (Boxed W w.heap.size 4 (.bool false) ∧ Below w.heap.size w W) ∧ SpRd (w.heap.size + 1) a cap ts us W ∧ ∀ i ∈ pre, lostAt ts i = false)
    (fun c pre W => (Boxed W w.heap.size 4 (.bool false) ∧ Below w.heap.size w W) ∧ (c = Code.ret ∧ ∃ i ∈ pre, lostAt ts i = true))
    (((Own.from (boxed_own w.heap.size 4 (fun _ => .bool false)) _).and (ownFrom_below (Nat.le_refl _) (by have := unhide HZ; omega))).and ((spRd_own _ _ a cap ts us).and (ownFrom_pure _ _)))
    (fun c => ((Own.from (boxed_own w.heap.size 4 (fun _ => .bool false)) _).and (ownFrom_below (Nat.le_refl _) (by have := unhide HZ; omega))).and (ownFrom_pure _ _))
    ⟨⟨hBX, hbW⟩, hR, fun i hi => by cases hi⟩
    (fun x a' W => ∃ Bs, a' = { tmps := #[.slice a ts.length cap, undef, .pointer (some ⟨w.heap.size, 0, none⟩), .pointer (some ⟨Bs, 0, none⟩), .slice a ts.length cap, .func (.func 52) #[] #[.pointer (some ⟨w.heap.size + 1, 0, none⟩)], spotV ts us x, undef, undef], defers := [] } ∧ W.heap[Bs]? = some (.cells (spotA (tkAt ts x) (plAt us x) (ahT ts x) (ahU us x) (tkAt ts (x + 1)) (plAt us (x + 1))) 62 (0, 0)))
    ?hAx ?assign ?body ?done ?stop
  case hAx =>
    rintro x a' s W W' row ⟨Bs, e, hb⟩ hg hr
    exact ⟨Bs, e, blk_own (β := Unit) _ Bs _ _ s W W' row hb hg hr⟩
  case assign =>
    intro l pre x W K hI hK
    simp only [spotV, spotCs]
    gi_wp2
    obtain ⟨⟨hbx, hbl⟩, hr, hall⟩ := hI
    have hbA : ∀ o : Obj, Below W.heap.size W (W.alloc o) := fun o => (Below.refl _ _).alloc (Nat.le_refl _) _
    exact hK _ _ (KeepsFrom.of_grownBy (World.grownBy_alloc W _ none) (fun j e => by cases e)) (fun hr => hr.below (hbA _)) ⟨⟨((hbA _).block w.heap.size (Array.getElem?_eq_some_iff.1 hbx).1).trans hbx, hbl.trans ((hbA _).mono hbl.size)⟩, hr.below (hbA _), hall⟩ ⟨W.heap.size, rfl, alloc_newO W _⟩
  case body =>
    rintro l pre x a' W hl hlo ⟨⟨hbx, hbl⟩, hr, hall⟩ ⟨Bs, rfl, hblk⟩ hlt
    have q0 : W.cell? ⟨Bs, 0, none⟩ = some (.int .i64 (tkAt ts x).kind) := by rw [Lib.cell_of_heap hblk]; rfl
    have q1 : W.cell? ⟨Bs, 1, none⟩ = some (.string (tkAt ts x).name) := by rw [Lib.cell_of_heap hblk]; rfl
    have q2 : W.cell? ⟨Bs, 2, none⟩ = some (.slice (plAt us x).1 (tkAt ts x).attrs.length (plAt us x).2) := by rw [Lib.cell_of_heap hblk]; rfl
    have q3 : W.cell? ⟨Bs, 3, none⟩ = some (.string (tkAt ts x).text) := by rw [Lib.cell_of_heap hblk]; rfl
    have q4 : W.cell? ⟨Bs, 4, none⟩ = some (.int .i64 (ahT ts x).kind) := by rw [Lib.cell_of_heap hblk]; rfl
    have q5 : W.cell? ⟨Bs, 5, none⟩ = some (.string (ahT ts x).name) := by rw [Lib.cell_of_heap hblk]; rfl
    have q6 : W.cell? ⟨Bs, 6, none⟩ = some (.slice (ahU us x).1 (ahT ts x).attrs.length (ahU us x).2) := by rw [Lib.cell_of_heap hblk]; rfl
    have q7 : W.cell? ⟨Bs, 7, none⟩ = some (.string (ahT ts x).text) := by rw [Lib.cell_of_heap hblk]; rfl
    have q8 : W.cell? ⟨Bs, 8, none⟩ = some (.int .i64 (tkAt ts (x + 1)).kind) := by rw [Lib.cell_of_heap hblk]; rfl
    have q9 : W.cell? ⟨Bs, 9, none⟩ = some (.string (tkAt ts (x + 1)).name) := by rw [Lib.cell_of_heap hblk]; rfl
    have q10 : W.cell? ⟨Bs, 10, none⟩ = some (.slice (plAt us (x + 1)).1 (tkAt ts (x + 1)).attrs.length (plAt us (x + 1)).2) := by rw [Lib.cell_of_heap hblk]; rfl
    have q11 : W.cell? ⟨Bs, 11, none⟩ = some (.string (tkAt ts (x + 1)).text) := by rw [Lib.cell_of_heap hblk]; rfl
    have HLO := hide (isLost_any (tkAt ts x) (plAt us x) (ahT ts x) (ahU us x) (tkAt ts (x + 1)) (plAt us (x + 1)) W (small_tk (unhide HSM) x) (small_ah (unhide HSM) x).n ((unhide HEE).below hbl))
    rw [show lostB (tkAt ts x) (ahT ts x) (tkAt ts (x + 1)) = lostAt ts x from rfl] at HLO
    unfold spotCs at HLO
    have HI : Hid ((Boxed W w.heap.size 4 (.bool false) ∧ Below w.heap.size w W) ∧ SpRd (w.heap.size + 1) a cap ts us W ∧ ∀ i ∈ pre, lostAt ts i = false) := hide ⟨⟨hbx, hbl⟩, hr, hall⟩
    clear hbx hbl hr hall hblk
    cases hlx : lostAt ts x with
    | true =>
      rw [hlx] at HLO
      gi_wp2
      refine ⟨trivial, fun h => (by cases h), ((callsIn_wide.2 (unhide HLO)).inRound l).mono ?_⟩
      rintro e W2 ⟨rfl, hb2⟩
      have hbx2 : Boxed W2 w.heap.size 4 (.bool false) := (hb2.block w.heap.size (Array.getElem?_eq_some_iff.1 (unhide HI).1.1).1).trans (unhide HI).1.1
      have z1 := hbx2.cell
      have z2 := hbx2.frozen
      gi_wp2
      refine ⟨(KeepsFrom.of_grownBy (grown_belowO hb2) (fun j e => by cases e)).trans (KeepsFrom.of_grownBy (grownBy_setCell' W2 w.heap.size _) (fun j e => by cases e; have := unhide HZ; omega)), ⟨hbx2.set _, ?_⟩, rfl, x, by simp, hlx⟩
      exact ((unhide HI).1.2.trans (hb2.mono (unhide HI).1.2.size)).setCell (p := ⟨w.heap.size, 0, none⟩) (Nat.le_refl _) _
    | false =>
      rw [hlx] at HLO
      gi_wp2
      refine ⟨trivial, fun h => (by cases h), ((callsIn_wide.2 (unhide HLO)).inRound l).mono ?_⟩
      rintro e W2 ⟨rfl, hb2⟩
      have hbx2 : Boxed W2 w.heap.size 4 (.bool false) := (hb2.block w.heap.size (Array.getElem?_eq_some_iff.1 (unhide HI).1.1).1).trans (unhide HI).1.1
      gi_wp2
      refine ⟨KeepsFrom.of_grownBy (grown_belowO hb2) (fun j e => by cases e), fun hr => hr.below hb2, ⟨hbx2, (unhide HI).1.2.trans (hb2.mono (unhide HI).1.2.size)⟩, (unhide HI).2.1.below hb2, fun i hi => ?_⟩
      rcases List.mem_append.1 hi with hi | hi
      · exact (unhide HI).2.2 i hi
      · rw [List.mem_singleton.1 hi]; exact hlx
  case done =>
    rintro D ys W hD rfl ⟨⟨hbx, hbl⟩, hr, hall⟩ hKK
    have z1 := hbx.cell
    have z2 := hbx.frozen
    have hDw : D ≠ w.heap.size := by have := unhide HZ; omega
    have hKK2 : (W.setCell ⟨w.heap.size, 0, none⟩ (.bool true)).heap[D]? = some (.deferred (some [])) := ((grownBy_setCell' W w.heap.size (.bool true)).block D (Array.getElem?_eq_some_iff.1 hKK).1 (fun e => hDw (by cases e; rfl))).trans hKK
    have hbx2 : Boxed ((W.setCell ⟨w.heap.size, 0, none⟩ (.bool true)).putObj D (.deferred none)) w.heap.size 4 (.bool true) := (hbx.set (.bool true)).kept (grownBy_putObj' _ D _) (fun e => hDw (by cases e; rfl))
    have hok : htmlOk ts = true := by
      unfold htmlOk
      rw [List.all_eq_true]
      intro i hi
      rw [hall i hi]
      rfl
    have HOK := hide hok
    clear hok
    gi_wp2
    refine ⟨by simp, .inl ⟨_, _, rfl, run_takeDeferred hKK2, ?_⟩⟩
    exact ⟨_, isHtml_res _ true _ _ _ _ _ _ _ _ _ hbx2.cell, by rw [unhide HOK], (hbl.setCell (p := ⟨w.heap.size, 0, none⟩) (Nat.le_refl _) _).trans (belowK_b (w := w) (Nat.le_refl _) _ D _ _ (by have := unhide HZ; omega) hKK2 rfl rfl)⟩
  case stop =>
    rintro D c pre W hD hpre ⟨⟨hbx, hbl⟩, rfl, i, hi, hli⟩ hKK
    have hDw : D ≠ w.heap.size := by have := unhide HZ; omega
    have hbx2 : Boxed (W.putObj D (.deferred none)) w.heap.size 4 (.bool false) := hbx.kept (grownBy_putObj' _ D _) (fun e => hDw (by cases e; rfl))
    have hok : htmlOk ts = false := by
      unfold htmlOk
      rw [List.all_eq_false]
      exact ⟨i, hpre.subset hi, by rw [hli]; decide⟩
    have HOK := hide hok
    clear hok
    gi_wp2
    refine ⟨by simp, .inl ⟨_, _, rfl, run_takeDeferred hKK, ?_⟩⟩
    exact ⟨_, isHtml_res _ false _ _ _ _ _ _ _ _ _ hbx2.cell, by rw [unhide HOK], hbl.trans (belowK_b (w := w) (Nat.le_refl _) _ D _ _ (by have := unhide HZ; omega) hKK rfl rfl)⟩
theorem isHtml_any (ts : List BTok) (a : Option Addr) (cap : Nat) (w : World) (hv : ToksArg w a ts) (hlen : ts.length ≤ 1048576) (hs : ∀ t ∈ ts, Small t) (hE : Env w) :
    Calls Tryz.prog 13 #[.slice a ts.length cap] w fun e W' => e = .returned (.bool (htmlOk ts)) ∧ Below w.heap.size w W' :=
  callsIn_wide.1 (isHtml_in 3 (Nat.le_refl _) ts a cap w hv hlen hs hE)
end Go.Proofs.YtmemcabipcccaaaGreatDoor
/- What xout's writer writes of a token, by xml. -/
namespace Go.Proofs.YtmemcabipcccaaaGreatDoor
open Go.RowKit
def xmlO (t a c : BTok) : List UInt8 :=
  if t.kind = 2 ∧ c.kind = 7 then 60 :: (t.name.data.toList ++ (t.attrs.flatMap attrB ++ [47, 62])) else if t.kind = 7 ∧ a.kind = 2 then [] else if t.kind = 6 then instrO t ⟨#[63, 62]⟩ else bothB attrB t
set_option maxRecDepth 100000 in
set_option maxHeartbeats 8000000 in
theorem wXml_any (w0 : World) (b : Nat) (l : List UInt8) (t : BTok) (u : Pl) (a : BTok) (ua : Pl) (c : BTok) (uc : Pl) (w : World) (hv : PairsArg w0 (.slice u.1 t.attrs.length u.2) t.attrs) (hb : Below w0.heap.size w0 w) (h : IsW w0.heap.size b (Lib.byteCells l) w) (hs : Small t) (hz : l.length ≤ 80000000000000) :
    Calls Tryz.prog 33 #[.pointer (some ⟨b, 0, none⟩), spotCs t u a ua c uc] w fun e w' => e = .returned (.tuple #[]) ∧ WOut w0.heap.size b (l ++ xmlO t a c) w w' := by
  have hB := hb.size
  obtain ⟨W0, hW0⟩ : ∃ W0, W0 = w.alloc (.cells #[.int .i64 t.kind, .string t.name, .slice u.1 t.attrs.length u.2, .string t.text, .int .i64 a.kind, .string a.name, .slice ua.1 a.attrs.length ua.2, .string a.text, .int .i64 c.kind, .string c.name, .slice uc.1 c.attrs.length uc.2, .string c.text] 62) := ⟨_, rfl⟩
  have hbA : Below w.heap.size w W0 := by rw [hW0]; exact (Below.refl _ _).alloc (Nat.le_refl _) _
  have hO0 := WOut.start h hB hbA
  have HO0 := hide hO0
  have hBW := Nat.le_trans hB hbA.size
  have HT := hide (wTagX_any w0 b l t u ⟨#[47, 62]⟩ _ hv (hb.trans hO0.bel) hO0.bld hs (by decide) hz)
  have HI := hide (wInstr_any w0.heap.size b l t u ⟨#[63, 62]⟩ W0 hO0.bld (by have := hs.n; have := hs.x; have e : (⟨#[63, 62]⟩ : ByteArray).size = 2 := rfl; omega) hBW)
  have HC := hide (wComX_any w0 b l t u _ hv (hb.trans hO0.bel) hO0.bld hs hz)
  unfold tokVs at HT HI HC
  have HX : Hid (xmlO t a c = if t.kind = 2 ∧ c.kind = 7 then 60 :: (t.name.data.toList ++ (t.attrs.flatMap attrB ++ [47, 62])) else if t.kind = 7 ∧ a.kind = 2 then [] else if t.kind = 6 then instrO t ⟨#[63, 62]⟩ else bothB attrB t) := hide rfl
  subst hW0
  unfold spotCs
  clear hO0 hbA h hs hv hb hBW
  by_cases k1 : t.kind = 2 ∧ c.kind = 7
  · have HE : Hid (xmlO t a c = 60 :: (t.name.data.toList ++ (t.attrs.flatMap attrB ++ (⟨#[47, 62]⟩ : ByteArray).data.toList))) := hide (by rw [unhide HX, if_pos k1])
    rw [k1.1, k1.2] at HT HO0 ⊢
    rw [unhide HE]
    clear k1 HI HC
    go_enter Tryz.func33, Tryz.ntmps33
    go_wp2_with fail
    refine (unhide HT).mono ?_
    rintro e w1 ⟨rfl, hO⟩
    go_wp2_with fail
    go_end0
    exact ⟨rfl, (unhide HO0).next hO⟩
  by_cases k2 : t.kind = 7 ∧ a.kind = 2
  · have HE : Hid (xmlO t a c = []) := hide (by rw [unhide HX, if_neg k1, if_pos k2])
    rw [k2.1, k2.2] at HO0 ⊢
    rw [unhide HE, List.append_nil]
    clear k1 k2 HI HC HT
    go_enter Tryz.func33, Tryz.ntmps33
    go_wp2_with fail
    go_end0
    exact ⟨rfl, unhide HO0⟩
  by_cases k6 : t.kind = 6
  · have HE : Hid (xmlO t a c = instrO t ⟨#[63, 62]⟩) := hide (by rw [unhide HX, if_neg k1, if_neg k2, if_pos k6])
    rw [k6] at HI HO0 ⊢
    clear k1 k2 k6 HC HT
    go_enter Tryz.func33, Tryz.ntmps33
    go_wp2_with fail
    refine (unhide HI).mono ?_
    rintro e w1 ⟨rfl, hO⟩
    go_wp2_with fail
    go_end0
    rw [← unhide HE] at hO
    exact ⟨rfl, (unhide HO0).next hO⟩
  have HE : Hid (xmlO t a c = bothB attrB t) := hide (by rw [unhide HX, if_neg k1, if_neg k2, if_neg k6])
  by_cases k3 : t.kind = 2
  · have hc : ¬ c.kind = 7 := fun e => k1 ⟨k3, e⟩
    rw [k3] at HC HO0 ⊢
    clear k1 k2 k3 k6 HI HT
    go_enter Tryz.func33, Tryz.ntmps33
    go_wp2_with fail
    refine (unhide HC).mono ?_
    rintro e w1 ⟨rfl, hO⟩
    go_wp2_with fail
    go_end0
    rw [← unhide HE] at hO
    exact ⟨rfl, (unhide HO0).next hO⟩
  by_cases k4 : t.kind = 7
  · have hc : ¬ a.kind = 2 := fun e => k2 ⟨k4, e⟩
    rw [k4] at HC HO0 ⊢
    clear k1 k2 k3 k4 k6 HI HT
    go_enter Tryz.func33, Tryz.ntmps33
    go_wp2_with fail
    refine (unhide HC).mono ?_
    rintro e w1 ⟨rfl, hO⟩
    go_wp2_with fail
    go_end0
    rw [← unhide HE] at hO
    exact ⟨rfl, (unhide HO0).next hO⟩
  · clear k1 k2 HI HT
    go_enter Tryz.func33, Tryz.ntmps33
    go_wp2_with fail
    refine (unhide HC).mono ?_
    rintro e w1 ⟨rfl, hO⟩
    go_wp2_with fail
    go_end0
    rw [← unhide HE] at hO
    exact ⟨rfl, (unhide HO0).next hO⟩
end Go.Proofs.YtmemcabipcccaaaGreatDoor
