/- strings.EqualFold of a name and xml. -/
import Derived.Test.YtefjfjieoiegnaaGreatDoorGak
import Derived.Test.YtefjfjieoiegnaaGreatDoorGal
namespace Go.Proofs.YtefjfjieoiegnaaGreatDoor
open Go.RowKit
attribute [local go_sem] jumps_normal jumps_exit jumps_ret jumps_goto jumps_panic
set_option maxRecDepth 100000 in
theorem simpleFold_low (r : Nat) (v : Nat) (w : World) (hr : r < 128) (hv : v < 128) (hc : w.cell? ⟨3, r, none⟩ = some (.int .u16 (v : Nat))) :
    Calls Tryz.prog 188 #[.int .i32 (r : Nat)] w fun e w' => e = .returned (.int .i32 (v : Nat)) ∧ w' = w := by
  have h1 : decide ((r : Int) < 0) = false := decide_eq_false (by omega)
  have h2 : decide ((1114111 : Int) < (r : Int)) = false := decide_eq_false (by omega)
  have h3 : decide ((r : Int) < 128) = true := decide_eq_true (by omega)
  have h4 : IntKind.i64.wrap (r : Int) = (r : Int) := by rw [IntKind.wrap_i64]; omega
  have h5 : IntKind.i32.wrap (v : Int) = (v : Int) := by rw [IntKind.wrap_i32]; omega
  have h6 : (r : Int) < 128 := by omega
  clear hv hr
  go_enter Tryz.func188, Tryz.ntmps188
  go_wp2
  go_ret
  exact ⟨rfl, rfl⟩
theorem or_high : ∀ b, b < 256 → ∀ x, x < 26 → decide ((128 : Int) ≤ bits BinOp.or IntKind.u8 (b : Nat) ((x + 97 : Nat) : Int)) = decide (128 ≤ b) := by decide +kernel
set_option maxRecDepth 100000 in
theorem fold_frame {a : Act} {x0 x1 x5 : Value} (hd : a.defers = []) (hs : a.tmps.size = 123) (h0 : a.tmps[0]? = some x0) (h1 : a.tmps[1]? = some x1) (h5 : a.tmps[5]? = some x5) : ∃ u : Nat → Value, a = { tmps := #[x0, x1, u 2, u 3, u 4, x5, u 6, u 7, u 8, u 9, u 10, u 11, u 12, u 13, u 14, u 15, u 16, u 17, u 18, u 19, u 20, u 21, u 22, u 23, u 24, u 25, u 26, u 27, u 28, u 29, u 30, u 31, u 32, u 33, u 34, u 35, u 36, u 37, u 38, u 39, u 40, u 41, u 42, u 43, u 44, u 45, u 46, u 47, u 48, u 49, u 50, u 51, u 52, u 53, u 54, u 55, u 56, u 57, u 58, u 59, u 60, u 61, u 62, u 63, u 64, u 65, u 66, u 67, u 68, u 69, u 70, u 71, u 72, u 73, u 74, u 75, u 76, u 77, u 78, u 79, u 80, u 81, u 82, u 83, u 84, u 85, u 86, u 87, u 88, u 89, u 90, u 91, u 92, u 93, u 94, u 95, u 96, u 97, u 98, u 99, u 100, u 101, u 102, u 103, u 104, u 105, u 106, u 107, u 108, u 109, u 110, u 111, u 112, u 113, u 114, u 115, u 116, u 117, u 118, u 119, u 120, u 121, u 122], defers := [] } := by
  obtain ⟨tmps, defers⟩ := a
  simp only at hd hs h0 h1 h5
  subst hd
  refine ⟨fun i => tmps[i]!, ?_⟩
  have e := arr_of hs
  have e0 : tmps[0]! = x0 := by rw [getElem!_def, h0]
  have e1 : tmps[1]! = x1 := by rw [getElem!_def, h1]
  have e5 : tmps[5]! = x5 := by rw [getElem!_def, h5]
  have e' : tmps = #[tmps[0]!, tmps[1]!, tmps[2]!, tmps[3]!, tmps[4]!, tmps[5]!, tmps[6]!, tmps[7]!, tmps[8]!, tmps[9]!, tmps[10]!, tmps[11]!, tmps[12]!, tmps[13]!, tmps[14]!, tmps[15]!, tmps[16]!, tmps[17]!, tmps[18]!, tmps[19]!, tmps[20]!, tmps[21]!, tmps[22]!, tmps[23]!, tmps[24]!, tmps[25]!, tmps[26]!, tmps[27]!, tmps[28]!, tmps[29]!, tmps[30]!, tmps[31]!, tmps[32]!, tmps[33]!, tmps[34]!, tmps[35]!, tmps[36]!, tmps[37]!, tmps[38]!, tmps[39]!, tmps[40]!, tmps[41]!, tmps[42]!, tmps[43]!, tmps[44]!, tmps[45]!, tmps[46]!, tmps[47]!, tmps[48]!, tmps[49]!, tmps[50]!, tmps[51]!, tmps[52]!, tmps[53]!, tmps[54]!, tmps[55]!, tmps[56]!, tmps[57]!, tmps[58]!, tmps[59]!, tmps[60]!, tmps[61]!, tmps[62]!, tmps[63]!, tmps[64]!, tmps[65]!, tmps[66]!, tmps[67]!, tmps[68]!, tmps[69]!, tmps[70]!, tmps[71]!, tmps[72]!, tmps[73]!, tmps[74]!, tmps[75]!, tmps[76]!, tmps[77]!, tmps[78]!, tmps[79]!, tmps[80]!, tmps[81]!, tmps[82]!, tmps[83]!, tmps[84]!, tmps[85]!, tmps[86]!, tmps[87]!, tmps[88]!, tmps[89]!, tmps[90]!, tmps[91]!, tmps[92]!, tmps[93]!, tmps[94]!, tmps[95]!, tmps[96]!, tmps[97]!, tmps[98]!, tmps[99]!, tmps[100]!, tmps[101]!, tmps[102]!, tmps[103]!, tmps[104]!, tmps[105]!, tmps[106]!, tmps[107]!, tmps[108]!, tmps[109]!, tmps[110]!, tmps[111]!, tmps[112]!, tmps[113]!, tmps[114]!, tmps[115]!, tmps[116]!, tmps[117]!, tmps[118]!, tmps[119]!, tmps[120]!, tmps[121]!, tmps[122]!] := e
  rw [e0, e1, e5] at e'
  exact congrArg (fun t => ({ tmps := t, defers := [] } : Act)) e'
set_option maxRecDepth 100000 in
set_option maxHeartbeats 4000000 in
theorem foldXml_high (l : List Nat) (w : World) (hl : okL l) (hs : (T l).size ≤ 1048576) (B : Nat) (hE : XEnv B w) (hB : B ≤ w.heap.size) (hh : ∃ c ∈ l, 128 ≤ c) :
    Calls Tryz.prog 158 #[.string (T l), .string ⟨#[120, 109, 108]⟩] w fun e w' => e = .returned (.bool false) ∧ Below w.heap.size w w' := by
  have HH := hide hh
  have HL := hide hl
  clear hh hl
  go_enter Tryz.func158, Tryz.ntmps158
  go_wp2_with fail
  refine wp_scope_one 0 (fun _ a' w' => ∃ (p t : List Nat) (c : Nat) (u : Nat → Value), (l = p ++ c :: t ∧ (∀ x ∈ p, x < 128) ∧ 128 ≤ c ∧ p.length < 3 ∧ w' = w) ∧ a' = { tmps := #[.string (T l), .string ⟨#[120, 109, 108]⟩, u 2, u 3, u 4, .int .i64 (p.length : Nat), u 6, u 7, u 8, u 9, u 10, u 11, u 12, u 13, u 14, u 15, u 16, u 17, u 18, u 19, u 20, u 21, u 22, u 23, u 24, u 25, u 26, u 27, u 28, u 29, u 30, u 31, u 32, u 33, u 34, u 35, u 36, u 37, u 38, u 39, u 40, u 41, u 42, u 43, u 44, u 45, u 46, u 47, u 48, u 49, u 50, u 51, u 52, u 53, u 54, u 55, u 56, u 57, u 58, u 59, u 60, u 61, u 62, u 63, u 64, u 65, u 66, u 67, u 68, u 69, u 70, u 71, u 72, u 73, u 74, u 75, u 76, u 77, u 78, u 79, u 80, u 81, u 82, u 83, u 84, u 85, u 86, u 87, u 88, u 89, u 90, u 91, u 92, u 93, u 94, u 95, u 96, u 97, u 98, u 99, u 100, u 101, u 102, u 103, u 104, u 105, u 106, u 107, u 108, u 109, u 110, u 111, u 112, u 113, u 114, u 115, u 116, u 117, u 118, u 119, u 120, u 121, u 122], defers := [] }) rfl ?_ ?_
  · rintro n a' w' ⟨p, t, c, u, ⟨hpt, hp, hc, hp3, rfl⟩, rfl⟩
    have hpl : (tx p).length = p.length := by rw [sign_len_tx hp, List.length_map]
    have hsl : (T l).extract p.length (T l).size = T (c :: t) := by rw [← hpl, hpt]; exact T_suf p _
    have hsz : p.length ≤ (T l).size := by rw [T_size, hpt, tx_len_app, hpl]; omega
    have hoc : okL (c :: t) := fun x hx => unhide HL x (by rw [hpt]; exact List.mem_append_right _ hx)
    obtain ⟨hd, hlt, hcc, hpos⟩ := dec_at (l := c :: t) (p := []) rfl hoc
    have hnx : ∀ ty, (Instr.next (.pointer (some ⟨w'.heap.size, 0, none⟩)) true ty).run Tryz.prog (w'.iter (T (c :: t)) 0) = _ := fun ty => run_next_any w' (T (c :: t)) 0 ty hlt
    rw [show Utf8.decode (T (c :: t)) 0 = _ from hd] at hnx
    simp only at hnx
    have hcm : c ≤ 1114111 := by
      have := charR_ok hcc
      unfold okR at this
      omega
    have HSL := hide hsl
    have HSZ := hide hsz
    have HE := hide hE
    clear hd hlt hcc hpos hpl hsl hpt hoc hp hsz hE
    rcases (show p.length = 0 ∨ p.length = 1 ∨ p.length = 2 by omega) with h | h | h
    · rw [h] at HSL HSZ
      rw [h]
      have hsl := unhide HSL
      have hsz := unhide HSZ
      have i1 : (((120 : Nat) : Int) == (c : Int)) = false := by simp; omega
      have i2 : decide (((120 : Nat) : Int) < (c : Int)) = true := decide_eq_true (by omega)
      have i3 : decide ((c : Int) < 128) = false := decide_eq_false (by omega)
      have i4 : decide (((88 : Nat) : Int) < (c : Int)) = true := decide_eq_true (by omega)
      have hE1 := unhide HE
      clear h hp3 HSL HSZ
      go_wp2_with fail
      refine wp_loop_rounds 2 ?_
      rw [rounds_succ]
      go_wp2_with fail
      have hbI : Below w'.heap.size w' (w'.iter (T (c :: t)) (runeB c).length) := (Below.refl _ _).alloc (Nat.le_refl _) _
      have hE2 := hE1.on hB hbI
      refine (Tryz.utf8_DecodeRuneInString _ _ hE2.env.tabs).mono ?_
      rintro e w2 ⟨rfl, hb2⟩
      rw [show Lib.decodeGo ((⟨#[120, 109, 108]⟩ : ByteArray).extract 0 3) = (120, 1) from by decide +kernel]
      have hbw : Below w'.heap.size w' w2 := hbI.trans (hb2.mono hbI.size)
      have hE3 := hE1.on hB hbw
      have cx := hE3.x
      have cX := hE3.X
      clear hE1 hE2 hE3 hb2 hbI hnx
      go_wp2_with fail
      refine (simpleFold_low 120 88 _ (by decide) (by decide) cx).mono ?_
      rintro e w3 ⟨rfl, rfl⟩
      go_wp2_with fail
      refine wp_loop_rounds 3 ?_
      rw [rounds_succ]
      go_wp2_with fail
      refine (simpleFold_low 88 120 _ (by decide) (by decide) cX).mono ?_
      rintro e w4 ⟨rfl, rfl⟩
      go_wp2_with fail
      rw [rounds_succ]
      go_wp2
      go_ret
      exact ⟨rfl, hbw⟩
    · rw [h] at HSL HSZ
      rw [h]
      have hsl := unhide HSL
      have hsz := unhide HSZ
      have i1 : (((109 : Nat) : Int) == (c : Int)) = false := by simp; omega
      have i2 : decide (((109 : Nat) : Int) < (c : Int)) = true := decide_eq_true (by omega)
      have i3 : decide ((c : Int) < 128) = false := decide_eq_false (by omega)
      have i4 : decide (((77 : Nat) : Int) < (c : Int)) = true := decide_eq_true (by omega)
      have hE1 := unhide HE
      clear h hp3 HSL HSZ
      go_wp2_with fail
      refine wp_loop_rounds 2 ?_
      rw [rounds_succ]
      go_wp2_with fail
      have hbI : Below w'.heap.size w' (w'.iter (T (c :: t)) (runeB c).length) := (Below.refl _ _).alloc (Nat.le_refl _) _
      have hE2 := hE1.on hB hbI
      refine (Tryz.utf8_DecodeRuneInString _ _ hE2.env.tabs).mono ?_
      rintro e w2 ⟨rfl, hb2⟩
      rw [show Lib.decodeGo ((⟨#[120, 109, 108]⟩ : ByteArray).extract 1 3) = (109, 1) from by decide +kernel]
      have hbw : Below w'.heap.size w' w2 := hbI.trans (hb2.mono hbI.size)
      have hE3 := hE1.on hB hbw
      have cx := hE3.m
      have cX := hE3.M
      clear hE1 hE2 hE3 hb2 hbI hnx
      go_wp2_with fail
      refine (simpleFold_low 109 77 _ (by decide) (by decide) cx).mono ?_
      rintro e w3 ⟨rfl, rfl⟩
      go_wp2_with fail
      refine wp_loop_rounds 3 ?_
      rw [rounds_succ]
      go_wp2_with fail
      refine (simpleFold_low 77 109 _ (by decide) (by decide) cX).mono ?_
      rintro e w4 ⟨rfl, rfl⟩
      go_wp2_with fail
      rw [rounds_succ]
      go_wp2
      go_ret
      exact ⟨rfl, hbw⟩
    · rw [h] at HSL HSZ
      rw [h]
      have hsl := unhide HSL
      have hsz := unhide HSZ
      have i1 : (((108 : Nat) : Int) == (c : Int)) = false := by simp; omega
      have i2 : decide (((108 : Nat) : Int) < (c : Int)) = true := decide_eq_true (by omega)
      have i3 : decide ((c : Int) < 128) = false := decide_eq_false (by omega)
      have i4 : decide (((76 : Nat) : Int) < (c : Int)) = true := decide_eq_true (by omega)
      have hE1 := unhide HE
      clear h hp3 HSL HSZ
      go_wp2_with fail
      refine wp_loop_rounds 2 ?_
      rw [rounds_succ]
      go_wp2_with fail
      have hbI : Below w'.heap.size w' (w'.iter (T (c :: t)) (runeB c).length) := (Below.refl _ _).alloc (Nat.le_refl _) _
      have hE2 := hE1.on hB hbI
      refine (Tryz.utf8_DecodeRuneInString _ _ hE2.env.tabs).mono ?_
      rintro e w2 ⟨rfl, hb2⟩
      rw [show Lib.decodeGo ((⟨#[120, 109, 108]⟩ : ByteArray).extract 2 3) = (108, 1) from by decide +kernel]
      have hbw : Below w'.heap.size w' w2 := hbI.trans (hb2.mono hbI.size)
      have hE3 := hE1.on hB hbw
      have cx := hE3.l
      have cX := hE3.L
      clear hE1 hE2 hE3 hb2 hbI hnx
      go_wp2_with fail
      refine (simpleFold_low 108 76 _ (by decide) (by decide) cx).mono ?_
      rintro e w3 ⟨rfl, rfl⟩
      go_wp2_with fail
      refine wp_loop_rounds 3 ?_
      rw [rounds_succ]
      go_wp2_with fail
      refine (simpleFold_low 76 108 _ (by decide) (by decide) cX).mono ?_
      rintro e w4 ⟨rfl, rfl⟩
      go_wp2_with fail
      rw [rounds_succ]
      go_wp2
      go_ret
      exact ⟨rfl, hbw⟩
  · intro HR1
    have HR := hide HR1
    clear HR1
    go_wp2_with fail
    obtain ⟨N, hN⟩ : ∃ N : Int, min ((T l).size : Int) 3 = N := ⟨_, rfl⟩
    rw [hN]
    have HN := hide hN
    have HE := hide hE
    clear hN hE
    go_loopg [5, 7, 8] 3 (fun g v5 _ _ wr => ∃ p t : List Nat, l = p ++ t ∧ p.length + g = 3 ∧ (∀ x ∈ p, x < 128) ∧ v5 = .int .i64 (p.length : Nat) ∧ wr = w)
    case atStart => exact ⟨[], l, rfl, rfl, (fun _ h => by cases h), rfl, rfl⟩
    case round =>
      obtain ⟨p, t, hpt, hg, hp, rfl, rfl⟩ := hrel
      have hpl : (tx p).length = p.length := by rw [sign_len_tx hp, List.length_map]
      have hsz : (T l).size = p.length + (tx t).length := by rw [T_size, hpt, tx_len_app, hpl]
      cases gk with
      | zero =>
        have hne : ¬ (T l).size = 3 := by
          intro h
          cases t with
          | nil =>
            obtain ⟨c, hc, h128⟩ := unhide HH
            rw [hpt, List.append_nil] at hc
            have := hp c hc
            omega
          | cons c t =>
            have := runeB_pos (unhide HL c (by rw [hpt]; simp))
            rw [tx_cons, List.length_append] at hsz
            omega
        have i1 : decide ((p.length : Int) < N) = false := decide_eq_false (by have := unhide HN; omega)
        have i2 : (((T l).size : Int) == 3) = false := by simp; omega
        clear hpt hg hpl hsz hne hp
        go_wp2
        go_ret
        exact ⟨rfl, Below.refl _ _⟩
      | succ g =>
        cases t with
        | nil =>
          obtain ⟨c, hc, h128⟩ := unhide HH
          rw [hpt, List.append_nil] at hc
          have := hp c hc
          omega
        | cons c t =>
          have hcc := unhide HL c (by rw [hpt]; simp)
          have hpos := runeB_pos hcc
          rw [tx_cons, List.length_append] at hsz
          have hlt : p.length < (T l).size := by omega
          have i1 : decide ((p.length : Int) < N) = true := decide_eq_true (by have := unhide HN; omega)
          obtain ⟨x, hx1, hx2, hx⟩ : ∃ x : Nat, 97 ≤ x ∧ x ≤ 122 ∧ ∀ w, (Instr.index 9 (.string ⟨#[120, 109, 108]⟩) (.int .i64 (p.length : Int))).run Tryz.prog w = .ok (.int .u8 (x : Int)) w := by
            rcases (show p.length = 0 ∨ p.length = 1 ∨ p.length = 2 by omega) with h | h | h
            · exact ⟨120, by decide, by decide, fun w => by rw [h]; exact run_index_string w 9 _ .i64 _ Tryz.underlying9⟩
            · exact ⟨109, by decide, by decide, fun w => by rw [h]; exact run_index_string w 9 _ .i64 _ Tryz.underlying9⟩
            · exact ⟨108, by decide, by decide, fun w => by rw [h]; exact run_index_string w 9 _ .i64 _ Tryz.underlying9⟩
          obtain ⟨b, hb1, hb⟩ : ∃ b : Nat, ((c < 128 ∧ b = c) ∨ (128 ≤ c ∧ 128 ≤ b ∧ b < 256)) ∧ ∀ w, (Instr.index 9 (.string (T l)) (.int .i64 (p.length : Int))).run Tryz.prog w = .ok (.int .u8 (b : Int)) w := by
            have e : (T l)[p.length]'hlt ∈ runeB c ∧ (c < 128 → ((T l)[p.length]'hlt).toNat = c) := by
              have e1 : (T l).data.toList[p.length]? = (runeB c)[0]? := by
                rw [T_data, hpt, tx_append, List.getElem?_append_right (by omega), hpl, Nat.sub_self, tx_cons, List.getElem?_append_left hpos]
              have e2 : (T l).data.toList[p.length]? = some ((T l)[p.length]'hlt) := Lib.data_getElem? (T l) p.length hlt
              rw [e2] at e1
              refine ⟨List.mem_of_getElem? e1.symm, fun h => ?_⟩
              rw [runeB_one h] at e1
              have e3 := Option.some.inj e1
              rw [e3]
              simp
              omega
            refine ⟨((T l)[p.length]'hlt).toNat, ?_, fun w => ?_⟩
            · by_cases h : c < 128
              · exact .inl ⟨h, e.2 h⟩
              · exact .inr ⟨by omega, runeB_high (charR_ok hcc) (by omega) _ e.1, UInt8.toNat_lt _⟩
            · rw [run_index_string w 9 (T l) .i64 _ Tryz.underlying9, dif_pos ⟨by omega, by omega⟩]
              rfl
          have HPT := hide hpt
          have HX : Hid (97 ≤ x ∧ x ≤ 122) := hide ⟨hx1, hx2⟩
          have HG := hide hg
          have HP := hide hp
          have HS := hide hsz
          clear hpt hg hsz hpl hp hx1 hx2 hlt
          rcases hb1 with ⟨h128, rfl⟩ | ⟨h128, hb2, hb3⟩
          · have hor : decide ((128 : Int) ≤ bits BinOp.or IntKind.u8 (b : Nat) (x : Nat)) = false := by
              have hX := unhide HX
              have := or_high b (by omega) (x - 97) (by omega)
              rw [show x - 97 + 97 = x by omega] at this
              rw [this]
              exact decide_eq_false (by omega)
            have hp' : ∀ y ∈ p ++ [b], y < 128 := by
              intro y hy
              rcases List.mem_append.1 hy with hy | hy
              · exact unhide HP y hy
              · rw [List.mem_singleton.1 hy]; exact h128
            have HW : Hid (wrap64 ((p.length : Int) + 1) = (p.length : Int) + 1) := hide (by have := unhide HG; unfold wrap64; omega)
            obtain ⟨X, hX⟩ : ∃ X : Int, (x : Int) = X := ⟨_, rfl⟩
            obtain ⟨D, hD⟩ : ∃ D : Int, (b : Int) = D := ⟨_, rfl⟩
            have HXD : Hid ((x : Int) = X ∧ (b : Int) = D) := hide ⟨hX, hD⟩
            rw [hX] at hx hor
            rw [hD] at hb hor
            have hX' := unhide HX
            rcases (show b = x ∨ x < b ∨ (b < x ∧ b < 65) ∨ (65 ≤ b ∧ b ≤ 90 ∧ x = b + 32) ∨ (65 ≤ b ∧ b ≤ 90 ∧ x ≠ b + 32) ∨ (90 < b ∧ b < x) by omega) with h | h | h | h | h | h
            · have e : X = D := by omega
              subst e
              clear hX' hX hD h h128 hcc
              go_wp2_with fail
              go_roundg g
              case measure => omega
              case rel => exact ⟨p ++ [b], t, by rw [unhide HPT]; simp, by have := unhide HG; simp; omega, hp', by rw [unhide HW]; simp, rfl⟩
            · have i2 : (X == D) = false := by simp; omega
              have i3 : decide (X < D) = true := decide_eq_true (by omega)
              have i4 : decide ((65 : Int) ≤ X) = true := decide_eq_true (by omega)
              have i5 : decide (X ≤ 90) = false := decide_eq_false (by omega)
              clear hX' hX hD h h128 hcc
              go_wp2
              go_ret
              exact ⟨rfl, Below.refl _ _⟩
            · have i2 : (X == D) = false := by simp; omega
              have i3 : decide (X < D) = false := decide_eq_false (by omega)
              have i4 : decide ((65 : Int) ≤ D) = false := decide_eq_false (by omega)
              clear hX' hX hD h h128 hcc
              go_wp2
              go_ret
              exact ⟨rfl, Below.refl _ _⟩
            · have i2 : (X == D) = false := by simp; omega
              have i3 : decide (X < D) = false := decide_eq_false (by omega)
              have i4 : decide ((65 : Int) ≤ D) = true := decide_eq_true (by omega)
              have i5 : decide (D ≤ 90) = true := decide_eq_true (by omega)
              obtain ⟨S, hS, hS1⟩ : ∃ S : Int, IntKind.u8.wrap (D + 97) = S ∧ IntKind.u8.wrap (S - 65) = X := by
                refine ⟨D + 97, ?_, ?_⟩
                · rw [IntKind.wrap_u8]; omega
                · rw [IntKind.wrap_u8]; omega
              clear hX' hX hD h h128 hcc
              go_wp2_with fail
              go_roundg g
              case measure => omega
              case rel => exact ⟨p ++ [b], t, by rw [unhide HPT]; simp, by have := unhide HG; simp; omega, hp', by rw [unhide HW]; simp, rfl⟩
            · have i2 : (X == D) = false := by simp; omega
              have i3 : decide (X < D) = false := decide_eq_false (by omega)
              have i4 : decide ((65 : Int) ≤ D) = true := decide_eq_true (by omega)
              have i5 : decide (D ≤ 90) = true := decide_eq_true (by omega)
              obtain ⟨S, Y, hS, hS1, hY⟩ : ∃ S Y : Int, IntKind.u8.wrap (D + 97) = S ∧ IntKind.u8.wrap (S - 65) = Y ∧ (X == Y) = false := by
                refine ⟨D + 97, D + 32, ?_, ?_, ?_⟩
                · rw [IntKind.wrap_u8]; omega
                · rw [IntKind.wrap_u8]; omega
                · simp; omega
              clear hX' hX hD h h128 hcc
              go_wp2
              go_ret
              exact ⟨rfl, Below.refl _ _⟩
            · have i2 : (X == D) = false := by simp; omega
              have i3 : decide (X < D) = false := decide_eq_false (by omega)
              have i4 : decide ((65 : Int) ≤ D) = true := decide_eq_true (by omega)
              have i5 : decide (D ≤ 90) = false := decide_eq_false (by omega)
              clear hX' hX hD h h128 hcc
              go_wp2
              go_ret
              exact ⟨rfl, Below.refl _ _⟩
          · have hor : decide ((128 : Int) ≤ bits BinOp.or IntKind.u8 (b : Nat) (x : Nat)) = true := by
              have hX := unhide HX
              have := or_high b hb3 (x - 97) (by omega)
              rw [show x - 97 + 97 = x by omega] at this
              rw [this]
              exact decide_eq_true hb2
            go_wp2_with fail
            go_step3
            have key : ∀ a' : Act, a'.defers = [] → a'.tmps.size = 123 → a'.tmps[0]? = some (.string (T l)) → a'.tmps[1]? = some (.string ⟨#[120, 109, 108]⟩) → a'.tmps[5]? = some (.int .i64 (p.length : Nat)) → ∃ (p t : List Nat) (c : Nat) (u : Nat → Value), (l = p ++ c :: t ∧ (∀ x ∈ p, x < 128) ∧ 128 ≤ c ∧ p.length < 3 ∧ wr = wr) ∧ a' = { tmps := #[.string (T l), .string ⟨#[120, 109, 108]⟩, u 2, u 3, u 4, .int .i64 (p.length : Nat), u 6, u 7, u 8, u 9, u 10, u 11, u 12, u 13, u 14, u 15, u 16, u 17, u 18, u 19, u 20, u 21, u 22, u 23, u 24, u 25, u 26, u 27, u 28, u 29, u 30, u 31, u 32, u 33, u 34, u 35, u 36, u 37, u 38, u 39, u 40, u 41, u 42, u 43, u 44, u 45, u 46, u 47, u 48, u 49, u 50, u 51, u 52, u 53, u 54, u 55, u 56, u 57, u 58, u 59, u 60, u 61, u 62, u 63, u 64, u 65, u 66, u 67, u 68, u 69, u 70, u 71, u 72, u 73, u 74, u 75, u 76, u 77, u 78, u 79, u 80, u 81, u 82, u 83, u 84, u 85, u 86, u 87, u 88, u 89, u 90, u 91, u 92, u 93, u 94, u 95, u 96, u 97, u 98, u 99, u 100, u 101, u 102, u 103, u 104, u 105, u 106, u 107, u 108, u 109, u 110, u 111, u 112, u 113, u 114, u 115, u 116, u 117, u 118, u 119, u 120, u 121, u 122], defers := [] } := by
              intro a' h1 h2 h3 h4 h5
              obtain ⟨u, hu⟩ := fold_frame h1 h2 h3 h4 h5
              exact ⟨p, t, c, u, ⟨unhide HPT, unhide HP, h128, by have := unhide HG; omega, rfl⟩, hu⟩
            exact ⟨rfl, 0, key _ rfl rfl rfl rfl rfl⟩
theorem fold_low : ∀ c, c < 128 → ∀ k, k < 26 → Lib.foldEq (UInt8.ofNat c) (UInt8.ofNat (97 + k)) = (lowC c == 97 + k) := by decide +kernel
theorem fold_list : ∀ (l m : List Nat), (∀ c ∈ l, c < 128) → (∀ c ∈ m, 97 ≤ c ∧ c ≤ 122) → Lib.equalFold (l.map UInt8.ofNat) (m.map UInt8.ofNat) = (l.map lowC == m)
  | [], [], _, _ => rfl
  | [], _ :: _, _, _ => rfl
  | _ :: _, [], _, _ => rfl
  | c :: l, d :: m, h1, h2 => by
    have ih := fold_list l m (fun x hx => h1 x (List.mem_cons_of_mem _ hx)) (fun x hx => h2 x (List.mem_cons_of_mem _ hx))
    have hd := h2 d (List.mem_cons_self ..)
    have e := fold_low c (h1 c (List.mem_cons_self ..)) (d - 97) (by omega)
    rw [show 97 + (d - 97) = d by omega] at e
    rw [List.map_cons, List.map_cons, List.map_cons, Lib.equalFold, ih, e]
    rfl
theorem foldXml_big (l : List Nat) (w : World) (hl : okL l) (hs : (T l).size ≤ 1048576) (B : Nat) (hE : XEnv B w) (hB : B ≤ w.heap.size) :
    Calls Tryz.prog 158 #[.string (T l), .string ⟨#[120, 109, 108]⟩] w fun e w' => e = .returned (.bool (l.map lowC == [120, 109, 108])) ∧ Below w.heap.size w w' := by
  by_cases hh : ∃ c ∈ l, 128 ≤ c
  · refine (foldXml_high l w hl hs B hE hB hh).mono ?_
    rintro e w' ⟨rfl, hb⟩
    refine ⟨ret_bool ?_, hb⟩
    obtain ⟨c, hc, h128⟩ := hh
    symm
    apply beq_eq_false_iff_ne.2
    intro h
    have h1 : lowC c ∈ l.map lowC := List.mem_map.2 ⟨c, hc, rfl⟩
    rw [h] at h1
    have h2 : lowC c = c := by unfold lowC; rw [if_neg (by omega)]
    rw [h2] at h1
    simp at h1
    omega
  · have ha : ∀ c ∈ l, c < 128 := fun c hc => by
      by_cases h : c < 128
      · exact h
      · exact absurd ⟨c, hc, by omega⟩ hh
    have hd : (T l).data.toList = l.map UInt8.ofNat := by rw [T_data, sign_len_tx ha]
    refine (Tryz.strings_EqualFold (T l) ⟨#[120, 109, 108]⟩ w (by omega) ?_ ?_).mono ?_
    · rw [hd]
      intro j b hb
      obtain ⟨c, hc, rfl⟩ := List.mem_map.1 (List.mem_of_getElem? hb)
      have := ha c hc
      simp
      omega
    · intro j b hb
      have := List.mem_of_getElem? hb
      simp at this
      rcases this with rfl | rfl | rfl <;> decide
    · rintro e w' ⟨rfl, rfl⟩
      refine ⟨ret_bool ?_, Below.refl _ _⟩
      rw [hd]
      exact fold_list l [120, 109, 108] ha (by decide)
end Go.Proofs.YtefjfjieoiegnaaGreatDoor
