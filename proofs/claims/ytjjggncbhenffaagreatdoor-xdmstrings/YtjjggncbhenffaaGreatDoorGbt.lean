/- Several texts, laid as one. -/
import Derived.Shelf.SlIterI.Nil
import Derived.Shelf.SlIter.Nil
import Derived.Shelf.SortM.Plain
import Derived.Shelf.SortM.SortNone
import Derived.Test.YtjjggncbhenffaaGreatDoorProg
import Derived.Test.YtjjggncbhenffaaGreatDoorGbs
import Derived.Test.YtjjggncbhenffaaGreatDoorGbr
/-
  DERIVED: THE SHELF's CONTRACTS AT THIS DUMP, IN PLAIN WORDS (tools/lay-plain.mjs out of 'YtjjggncbhenffaaGreatDoorXdmShTry.lean', which tools/lay-shelf.mjs wrote): THE SAME DECLARATIONS UNDER THE SAME NAMES: 'import', 'namespace', 'open', 'def', 'theorem' AND NOTHING ELSE: no command of the shelf's: FOR A HAND-IN. Each laying: the table of numbers ('.._ren') and one theorem, a field a fact of the dump's own or the kernel's comparison; each contract: ONE APPLICATION.
-/
namespace Go.Proofs
open Go.Shelf
def Tryz.collI_ren : Go.Shelf.Ren := ⟨fun | 8 => 53 | 11 => 90 | n => n, fun | 26 => 3 | 28 => 108 | 24 => 41 | 0 => 0 | 33 => 59 | 4 => 4 | n => n, fun | n => n⟩
theorem Tryz.collI : Go.Proofs.SlLaysZI.n8 Tryz.prog Tryz.collI_ren := {
  mixed := by kernel_rfl
  f8 := ⟨Tryz.f53.name, by decide, Tryz.func53.trans (congrArg some (by kernel_rfl))⟩
  f11 := ⟨Tryz.f90.name, by decide, Tryz.func90.trans (congrArg some (by kernel_rfl))⟩
  t0 := Tryz.underlying0
  a0 := Tryz.isAgg0
  z0 := Tryz.sizeOf0
  v0 := Tryz.zeroValue0
  t24 := Tryz.underlying41
  a24 := Tryz.isAgg41
  z24 := Tryz.sizeOf41
  v24 := Tryz.zeroValue41
  t26 := Tryz.underlying3
  a26 := Tryz.isAgg3
  z26 := Tryz.sizeOf3
  v26 := Tryz.zeroValue3
  t28 := Tryz.underlying108
  a28 := Tryz.isAgg108
  z28 := Tryz.sizeOf108
  v28 := Tryz.zeroValue108
  i26 := by kernel_rfl }
def Tryz.keysS_ren : Go.Shelf.Ren := ⟨fun | 7 => 49 | 10 => 88 | n => n, fun | 23 => 67 | 26 => 9 | 3 => 95 | 28 => 92 | 0 => 0 | 27 => 91 | 33 => 44 | 4 => 4 | n => n, fun | n => n⟩
theorem Tryz.keysS : Go.Proofs.SlLaysZ.n7 Tryz.prog Tryz.keysS_ren := {
  mixed := by kernel_rfl
  f7 := ⟨Tryz.f49.name, by decide, Tryz.func49.trans (congrArg some (by kernel_rfl))⟩
  f10 := ⟨Tryz.f88.name, by decide, Tryz.func88.trans (congrArg some (by kernel_rfl))⟩
  t0 := Tryz.underlying0
  a0 := Tryz.isAgg0
  z0 := Tryz.sizeOf0
  v0 := Tryz.zeroValue0
  t4 := Tryz.underlying4
  a4 := Tryz.isAgg4
  z4 := Tryz.sizeOf4
  v4 := Tryz.zeroValue4
  t23 := Tryz.underlying67
  a23 := Tryz.isAgg67
  z23 := Tryz.sizeOf67
  v23 := Tryz.zeroValue67
  t26 := Tryz.underlying9
  a26 := Tryz.isAgg9
  z26 := Tryz.sizeOf9
  v26 := Tryz.zeroValue9
  t27 := Tryz.underlying91
  a27 := Tryz.isAgg91
  z27 := Tryz.sizeOf91
  v27 := Tryz.zeroValue91
  t28 := Tryz.underlying92
  a28 := Tryz.isAgg92
  z28 := Tryz.sizeOf92
  v28 := Tryz.zeroValue92
  t33 := Tryz.underlying44
  a33 := Tryz.isAgg44
  z33 := Tryz.sizeOf44
  v33 := Tryz.zeroValue44 }
def Tryz.sortedS_ren : Go.Shelf.Ren := ⟨fun | 6 => 48 | 8 => 86 | 9 => 87 | 11 => 124 | 13 => 126 | 12 => 125 | 23 => 177 | 24 => 178 | 14 => 168 | 15 => 169 | 16 => 170 | 17 => 171 | 18 => 172 | 19 => 173 | 20 => 174 | 21 => 175 | 22 => 176 | 25 => 201 | 26 => 202 | 27 => 203 | 28 => 204 | 29 => 205 | 30 => 206 | 31 => 225 | n => n, fun | 26 => 9 | 28 => 92 | 24 => 89 | 0 => 0 | 3 => 3 | 37 => 152 | 48 => 187 | 50 => 189 | 4 => 4 | 40 => 181 | 39 => 180 | 45 => 113 | 5 => 5 | 9 => 9 | 51 => 209 | 55 => 213 | 57 => 228 | 58 => 229 | 33 => 44 | n => n, fun | n => n⟩
theorem Tryz.sortedS : Go.Proofs.SlLaysZ.n6 Tryz.prog Tryz.sortedS_ren := {
  mixed := by kernel_rfl
  f6 := ⟨Tryz.f48.name, by decide, Tryz.func48.trans (congrArg some (by kernel_rfl))⟩
  f8 := ⟨Tryz.f86.name, by decide, Tryz.func86.trans (congrArg some (by kernel_rfl))⟩
  f11 := ⟨Tryz.f124.name, by decide, Tryz.func124.trans (congrArg some (by kernel_rfl))⟩
  t0 := Tryz.underlying0
  a0 := Tryz.isAgg0
  z0 := Tryz.sizeOf0
  v0 := Tryz.zeroValue0
  t24 := Tryz.underlying89
  a24 := Tryz.isAgg89
  z24 := Tryz.sizeOf89
  v24 := Tryz.zeroValue89
  t26 := Tryz.underlying9
  a26 := Tryz.isAgg9
  z26 := Tryz.sizeOf9
  v26 := Tryz.zeroValue9
  t28 := Tryz.underlying92
  a28 := Tryz.isAgg92
  z28 := Tryz.sizeOf92
  v28 := Tryz.zeroValue92
  i26 := by kernel_rfl }
def Tryz.sortS_ren : Go.Shelf.Ren := ⟨fun | 6 => 87 | 8 => 126 | 9 => 125 | 19 => 177 | 20 => 178 | 21 => 168 | 22 => 169 | 23 => 170 | 24 => 171 | 25 => 172 | 26 => 173 | 27 => 174 | 28 => 175 | 29 => 176 | 36 => 201 | 31 => 202 | 32 => 203 | 37 => 204 | 38 => 205 | 39 => 206 | 41 => 225 | n => n, fun | 27 => 89 | 29 => 9 | 3 => 3 | 32 => 152 | 26 => 89 | 0 => 0 | 44 => 187 | 46 => 189 | 4 => 4 | 36 => 181 | 35 => 180 | 41 => 113 | 5 => 5 | 9 => 9 | 53 => 209 | 57 => 213 | 63 => 228 | 64 => 229 | n => n, fun | n => n⟩
theorem Tryz.sortS : Go.Proofs.SlLaysM.n6 Tryz.prog Tryz.sortS_ren := {
  mixed := by kernel_rfl
  f6 := ⟨Tryz.f87.name, by decide, Tryz.func87.trans (congrArg some (by kernel_rfl))⟩
  f8 := Tryz.func126.trans (congrArg some (by kernel_rfl))
  f9 := ⟨Tryz.f125.name, by decide, Tryz.func125.trans (congrArg some (by kernel_rfl))⟩
  f19 := Tryz.func177.trans (congrArg some (by kernel_rfl))
  f20 := Tryz.func178.trans (congrArg some (by kernel_rfl))
  f21 := ⟨Tryz.f168.name, by decide, Tryz.func168.trans (congrArg some (by kernel_rfl))⟩
  f22 := ⟨Tryz.f169.name, by decide, Tryz.func169.trans (congrArg some (by kernel_rfl))⟩
  f23 := ⟨Tryz.f170.name, by decide, Tryz.func170.trans (congrArg some (by kernel_rfl))⟩
  f24 := ⟨Tryz.f171.name, by decide, Tryz.func171.trans (congrArg some (by kernel_rfl))⟩
  f25 := ⟨Tryz.f172.name, by decide, Tryz.func172.trans (congrArg some (by kernel_rfl))⟩
  f26 := ⟨Tryz.f173.name, by decide, Tryz.func173.trans (congrArg some (by kernel_rfl))⟩
  f27 := ⟨Tryz.f174.name, by decide, Tryz.func174.trans (congrArg some (by kernel_rfl))⟩
  f28 := ⟨Tryz.f175.name, by decide, Tryz.func175.trans (congrArg some (by kernel_rfl))⟩
  f29 := ⟨Tryz.f176.name, by decide, Tryz.func176.trans (congrArg some (by kernel_rfl))⟩
  f31 := Tryz.func202.trans (congrArg some (by kernel_rfl))
  f32 := Tryz.func203.trans (congrArg some (by kernel_rfl))
  f36 := ⟨Tryz.f201.name, by decide, Tryz.func201.trans (congrArg some (by kernel_rfl))⟩
  f37 := ⟨Tryz.f204.name, by decide, Tryz.func204.trans (congrArg some (by kernel_rfl))⟩
  f38 := ⟨Tryz.f205.name, by decide, Tryz.func205.trans (congrArg some (by kernel_rfl))⟩
  f39 := ⟨Tryz.f206.name, by decide, Tryz.func206.trans (congrArg some (by kernel_rfl))⟩
  f41 := ⟨Tryz.f225.name, by decide, Tryz.func225.trans (congrArg some (by kernel_rfl))⟩
  t0 := Tryz.underlying0
  a0 := Tryz.isAgg0
  z0 := Tryz.sizeOf0
  v0 := Tryz.zeroValue0
  t3 := Tryz.underlying3
  a3 := Tryz.isAgg3
  z3 := Tryz.sizeOf3
  v3 := Tryz.zeroValue3
  t4 := Tryz.underlying4
  a4 := Tryz.isAgg4
  z4 := Tryz.sizeOf4
  v4 := Tryz.zeroValue4
  t5 := Tryz.underlying5
  a5 := Tryz.isAgg5
  z5 := Tryz.sizeOf5
  v5 := Tryz.zeroValue5
  t9 := Tryz.underlying9
  a9 := Tryz.isAgg9
  z9 := Tryz.sizeOf9
  v9 := Tryz.zeroValue9
  t26 := Tryz.underlying89
  a26 := Tryz.isAgg89
  z26 := Tryz.sizeOf89
  v26 := Tryz.zeroValue89
  t27 := Tryz.underlying89
  a27 := Tryz.isAgg89
  z27 := Tryz.sizeOf89
  v27 := Tryz.zeroValue89
  t29 := Tryz.underlying9
  a29 := Tryz.isAgg9
  z29 := Tryz.sizeOf9
  v29 := Tryz.zeroValue9
  t32 := Tryz.underlying152
  a32 := Tryz.isAgg152
  z32 := Tryz.sizeOf152
  v32 := Tryz.zeroValue152
  t35 := Tryz.underlying180
  a35 := Tryz.isAgg180
  z35 := Tryz.sizeOf180
  v35 := Tryz.zeroValue180
  t36 := Tryz.underlying181
  a36 := Tryz.isAgg181
  z36 := Tryz.sizeOf181
  v36 := Tryz.zeroValue181
  t41 := Tryz.underlying113
  a41 := Tryz.isAgg113
  z41 := Tryz.sizeOf113
  v41 := Tryz.zeroValue113
  t44 := Tryz.underlying187
  a44 := Tryz.isAgg187
  z44 := Tryz.sizeOf187
  v44 := Tryz.zeroValue187
  t46 := Tryz.underlying189
  a46 := Tryz.isAgg189
  z46 := Tryz.sizeOf189
  v46 := Tryz.zeroValue189
  t53 := Tryz.underlying209
  a53 := Tryz.isAgg209
  z53 := Tryz.sizeOf209
  v53 := Tryz.zeroValue209
  t57 := Tryz.underlying213
  a57 := Tryz.isAgg213
  z57 := Tryz.sizeOf213
  v57 := Tryz.zeroValue213
  t63 := Tryz.underlying228
  a63 := Tryz.isAgg228
  z63 := Tryz.sizeOf228
  v63 := Tryz.zeroValue228
  t64 := Tryz.underlying229
  a64 := Tryz.isAgg229
  z64 := Tryz.sizeOf229
  v64 := Tryz.zeroValue229 }
end Go.Proofs
/- A tree that is none: xdm's Kids and Attrs. -/
namespace Go.Proofs.YtjjggncbhenffaaGreatDoor
open Go.RowKit Go.Maps Go.Sort Go.Shelf
theorem grown_of_below {w w' : World} (h : Below w.heap.size w w') : w.grownBy w' none := ⟨h.os, h.tape, h.output, h.size, fun k hk _ => h.block k hk⟩
theorem part_none (n : Int) (w : World) :
    Calls Tryz.prog 50 #[.pointer none, .int .i64 n] w fun e w' => (∃ a cap, e = .returned (.slice a 0 cap)) ∧ Below w.heap.size w w' := by
  refine (part_any 0 (.pointer none) [] n w w (TreeV.none w 0) (Below.refl _ _) (fun i x h => by cases h) (Nat.zero_le _)).mono ?_
  rintro e w' ⟨⟨u, rfl, a, cap, rfl, _⟩, hb⟩
  refine ⟨⟨a, cap, ?_⟩, hb⟩
  have : (partD [] n).length = 0 := Nat.le_zero.1 (part_len [] n)
  rw [this]
set_option maxRecDepth 100000 in
set_option maxHeartbeats 2000000 in
theorem kids1_none (l Bt Bn : Nat) (n : Int) (w : World) (ht : w.cell? ⟨Bt, 0, none⟩ = some (.pointer none)) (hn : w.cell? ⟨Bn, 0, none⟩ = some (.int .i64 n)) :
    Calls Tryz.prog 91 #[.func (.yield l) #[] #[], .pointer (some ⟨Bt, 0, none⟩), .pointer (some ⟨Bn, 0, none⟩)] w fun e w' => (∃ v, e = .returned v) ∧ Below w.heap.size w w' := by
  have HP := hide (part_none n w)
  go_enter Tryz.func91, Tryz.ntmps91
  go_wp2_with fail
  refine (unhide HP).mono ?_
  rintro e w1 ⟨⟨a, cap, rfl⟩, hb1⟩
  go_wp2_with fail
  go_loopw [5] (fun i wr => i = .int .i64 0 ∧ wr = w1) (fun _ _ => 0)
  case atStart => exact ⟨rfl, rfl⟩
  case round =>
    obtain ⟨rfl, rfl⟩ := hrel
    go_wp2
    go_end0
    exact ⟨⟨_, rfl⟩, hb1⟩
set_option maxRecDepth 100000 in
set_option maxHeartbeats 2000000 in
theorem attrs1_none (l Bt Bn : Nat) (n : Int) (w : World) (ht : w.cell? ⟨Bt, 0, none⟩ = some (.pointer none)) (hn : w.cell? ⟨Bn, 0, none⟩ = some (.int .i64 n)) :
    Calls Tryz.prog 95 #[.func (.yield l) #[] #[], .pointer (some ⟨Bt, 0, none⟩), .pointer (some ⟨Bn, 0, none⟩)] w fun e w' => (∃ v, e = .returned v) ∧ Below w.heap.size w w' := by
  have HP := hide (part_none n w)
  go_enter Tryz.func95, Tryz.ntmps95
  go_wp2_with fail
  refine (unhide HP).mono ?_
  rintro e w1 ⟨⟨a, cap, rfl⟩, hb1⟩
  go_wp2_with fail
  go_loopw [10] (fun i wr => i = .int .i64 0 ∧ wr = w1) (fun _ _ => 0)
  case atStart => exact ⟨rfl, rfl⟩
  case round =>
    obtain ⟨rfl, rfl⟩ := hrel
    go_wp2
    go_end0
    exact ⟨⟨_, rfl⟩, hb1⟩
theorem kids_gives_none (Bt Bn : Nat) (n : Int) (w : World) (ht : w.cell? ⟨Bt, 0, none⟩ = some (.pointer none)) (hn : w.cell? ⟨Bn, 0, none⟩ = some (.int .i64 n)) (hBt : Bt < w.heap.size) (hBn : Bn < w.heap.size) (k : Nat) :
    SeqGives Fence.wide k Tryz.prog 91 #[.pointer (some ⟨Bt, 0, none⟩), .pointer (some ⟨Bn, 0, none⟩)] encZ (fun ss : List Int => ss = []) 0 w := fun l J W hW hJ _ h0 => by
  refine callsIn_wide.2 ?_
  refine (kids1_none l Bt Bn n W ((hW.cell (p := ⟨Bt, 0, none⟩) hBt).trans ht) ((hW.cell (p := ⟨Bn, 0, none⟩) hBn).trans hn)).mono ?_
  rintro e w' ⟨h1, h2⟩
  exact ⟨h1, [], rfl, hJ [] W w' none h0 (grown_of_below h2) (fun r e => by cases e)⟩
set_option maxRecDepth 100000 in
set_option maxHeartbeats 2000000 in
theorem kids_seq (v : Value) (n : Int) (w : World) (hv : ∃ p, v = .pointer p) :
    Calls Tryz.prog 54 #[v, .int .i64 n] w fun e w' => ∃ Bt Bn, e = .returned (.func (.func 91) #[] #[.pointer (some ⟨Bt, 0, none⟩), .pointer (some ⟨Bn, 0, none⟩)]) ∧ w'.cell? ⟨Bt, 0, none⟩ = some v ∧ w'.cell? ⟨Bn, 0, none⟩ = some (.int .i64 n) ∧ Bt < w'.heap.size ∧ Bn < w'.heap.size ∧ Below w.heap.size w w' := by
  obtain ⟨p, rfl⟩ := hv
  go_enter Tryz.func54, Tryz.ntmps54
  go_wp2
  go_returns
  refine ⟨_, _, rfl, ?_, ?_, ?_, ?_, ?_⟩
  · simp
  · simp
  · simp; omega
  · simp
  · exact ((Below.refl _ _).alloc (Nat.le_refl _) _).alloc (by simp) _
set_option maxRecDepth 100000 in
set_option maxHeartbeats 2000000 in
theorem kids_none (n : Int) (w : World) :
    Calls Tryz.prog 23 #[.pointer none, .int .i64 n] w fun e w' => e = .returned (.slice none 0 0) ∧ Below w.heap.size w w' := by
  have HS := hide (kids_seq (.pointer none) n w ⟨_, rfl⟩)
  go_enter Tryz.func23, Tryz.ntmps23
  go_wp2_with fail
  refine (unhide HS).mono ?_
  rintro e w1 ⟨Bt, Bn, rfl, h1, h2, h3, h4, hb1⟩
  have cS := AnyZI.collect_in Tryz.collI Fence.wide 3 trivial trivial rfl (Nat.le_refl _) 91 #[.pointer (some ⟨Bt, 0, none⟩), .pointer (some ⟨Bn, 0, none⟩)] trivial (enters_of Tryz.func91 (by kernel_rfl) rfl) _ 0 (Nat.zero_le _) (by omega) _ (kids_gives_none Bt Bn n w1 h1 h2 h3 h4 1)
  have cC : Calls Tryz.prog 53 #[.func (.func 91) #[] #[.pointer (some ⟨Bt, 0, none⟩), .pointer (some ⟨Bn, 0, none⟩)]] w1 _ := callsIn_wide.1 cS
  clear cS h1 h2
  go_wp2_with fail
  refine cC.mono ?_
  rintro e w2 ⟨v, ss, rfl, rfl, _, hnil, hb2⟩
  obtain rfl : v = .slice none 0 0 := hnil.2 rfl
  go_wp2
  go_returns
  exact ⟨rfl, Below.then hb1 hb2⟩
theorem attrs_gives_none (Bt Bn : Nat) (n : Int) (w : World) (ht : w.cell? ⟨Bt, 0, none⟩ = some (.pointer none)) (hn : w.cell? ⟨Bn, 0, none⟩ = some (.int .i64 n)) (hBt : Bt < w.heap.size) (hBn : Bn < w.heap.size) (k : Nat) :
    SeqGives Fence.wide k Tryz.prog 95 #[.pointer (some ⟨Bt, 0, none⟩), .pointer (some ⟨Bn, 0, none⟩)] encZ (fun ss : List Int => ss = []) 0 w := fun l J W hW hJ _ h0 => by
  refine callsIn_wide.2 ?_
  refine (attrs1_none l Bt Bn n W ((hW.cell (p := ⟨Bt, 0, none⟩) hBt).trans ht) ((hW.cell (p := ⟨Bn, 0, none⟩) hBn).trans hn)).mono ?_
  rintro e w' ⟨h1, h2⟩
  exact ⟨h1, [], rfl, hJ [] W w' none h0 (grown_of_below h2) (fun r e => by cases e)⟩
set_option maxRecDepth 100000 in
set_option maxHeartbeats 2000000 in
theorem attrs_seq (v : Value) (n : Int) (w : World) (hv : ∃ p, v = .pointer p) :
    Calls Tryz.prog 59 #[v, .int .i64 n] w fun e w' => ∃ Bt Bn, e = .returned (.func (.func 95) #[] #[.pointer (some ⟨Bt, 0, none⟩), .pointer (some ⟨Bn, 0, none⟩)]) ∧ w'.cell? ⟨Bt, 0, none⟩ = some v ∧ w'.cell? ⟨Bn, 0, none⟩ = some (.int .i64 n) ∧ Bt < w'.heap.size ∧ Bn < w'.heap.size ∧ Below w.heap.size w w' := by
  obtain ⟨p, rfl⟩ := hv
  go_enter Tryz.func59, Tryz.ntmps59
  go_wp2
  go_returns
  refine ⟨_, _, rfl, ?_, ?_, ?_, ?_, ?_⟩
  · simp
  · simp
  · simp; omega
  · simp
  · exact ((Below.refl _ _).alloc (Nat.le_refl _) _).alloc (by simp) _
set_option maxRecDepth 100000 in
set_option maxHeartbeats 2000000 in
theorem attrs_none (n : Int) (w : World) :
    Calls Tryz.prog 28 #[.pointer none, .int .i64 n] w fun e w' => e = .returned (.slice none 0 0) ∧ Below w.heap.size w w' := by
  have HS := hide (attrs_seq (.pointer none) n w ⟨_, rfl⟩)
  go_enter Tryz.func28, Tryz.ntmps28
  go_wp2_with fail
  refine (unhide HS).mono ?_
  rintro e w1 ⟨Bt, Bn, rfl, h1, h2, h3, h4, hb1⟩
  have cS := AnyZI.collect_in Tryz.collI Fence.wide 3 trivial trivial rfl (Nat.le_refl _) 95 #[.pointer (some ⟨Bt, 0, none⟩), .pointer (some ⟨Bn, 0, none⟩)] trivial (enters_of Tryz.func95 (by kernel_rfl) rfl) _ 0 (Nat.zero_le _) (by omega) _ (attrs_gives_none Bt Bn n w1 h1 h2 h3 h4 1)
  have cC : Calls Tryz.prog 53 #[.func (.func 95) #[] #[.pointer (some ⟨Bt, 0, none⟩), .pointer (some ⟨Bn, 0, none⟩)]] w1 _ := callsIn_wide.1 cS
  clear cS h1 h2
  go_wp2_with fail
  refine cC.mono ?_
  rintro e w2 ⟨v, ss, rfl, rfl, _, hnil, hb2⟩
  obtain rfl : v = .slice none 0 0 := hnil.2 rfl
  go_wp2
  go_returns
  exact ⟨rfl, Below.then hb1 hb2⟩
end Go.Proofs.YtjjggncbhenffaaGreatDoor
/- Trees that are built: every name's Uri is what its scope tells of its prefix, in plain terms. -/
namespace Go.Proofs.YtjjggncbhenffaaGreatDoor
def lookR (s : Sc) (p : List Nat) : Option (List Nat) := if p = xmlL then some xmlUriL else match lookS s p with
  | some u => some u
  | none => if p = [] then some [] else none
def AttrOk (ns : List XNode) (x : XNode) : Prop := (x.name.pre = [] ∧ x.name.uri = []) ∨ (x.name.pre ≠ [] ∧ ∃ k : Nat, x.parent = (k : Int) ∧ ∃ y, ns[k]? = some y ∧ lookR y.scope x.name.pre = some x.name.uri)
structure InvS (L : List XNode) : Prop where
  el : ∀ x ∈ L, x.kind = 2 → lookR x.scope x.name.pre = some x.name.uri
  oth : ∀ x ∈ L, x.kind ≠ 2 → x.scope = []
  atr : ∀ x ∈ L, x.kind = 3 → AttrOk L x
theorem AttrOk.more {L : List XNode} {x : XNode} (h : AttrOk L x) (M : List XNode) : AttrOk (L ++ M) x := by
  rcases h with h | ⟨h0, k, hk, y, hy, hl⟩
  · exact .inl h
  · refine .inr ⟨h0, k, hk, y, ?_, hl⟩
    rw [List.getElem?_append_left (List.getElem?_eq_some_iff.1 hy).1]
    exact hy
theorem InvS.snoc {L : List XNode} (h : InvS L) {x : XNode} (h1 : x.kind = 2 → lookR x.scope x.name.pre = some x.name.uri) (h2 : x.kind ≠ 2 → x.scope = []) (h3 : x.kind = 3 → AttrOk L x) : InvS (L ++ [x]) := by
  refine ⟨fun y hy => ?_, fun y hy => ?_, fun y hy => ?_⟩
  · rcases List.mem_append.1 hy with hy | hy
    · exact h.el y hy
    · rw [List.mem_singleton.1 hy]; exact h1
  · rcases List.mem_append.1 hy with hy | hy
    · exact h.oth y hy
    · rw [List.mem_singleton.1 hy]; exact h2
  · rcases List.mem_append.1 hy with hy | hy
    · exact fun hk => (h.atr y hy hk).more _
    · rw [List.mem_singleton.1 hy]; exact fun hk => (h3 hk).more _
def strip0 (x : XNode) : XNode := { x with fin := 0 }
theorem modify_strip (L : List XNode) (i n : Nat) : (L.modify i fun x => { x with fin := n }).map strip0 = L.map strip0 := by
  apply List.ext_getElem?
  intro j
  rw [List.getElem?_map, List.getElem?_modify, List.getElem?_map]
  cases L[j]? with
  | none => rfl
  | some x =>
    show some (strip0 (if i = j then { x with fin := n } else x)) = some (strip0 x)
    split <;> rfl
theorem leaf_strip (s : BS) (x : XNode) : (s.leaf x).nodes.map strip0 = s.nodes.map strip0 ++ [strip0 (s.placed x)] := by
  show ((s.nodes ++ [s.placed x]).modify _ _).map strip0 = _
  rw [modify_strip, List.map_append]
  rfl
theorem leaf_inner (s : BS) (x : XNode) : (s.leaf x).inner = s.inner := by
  unfold BS.inner
  rw [show (s.leaf x).opn = s.opn from by show (s.opn ++ [_]).dropLast = s.opn; rw [List.dropLast_concat]]
theorem expandD_R {s : Sc} {q : List Nat} {n : Nm} (h : expandD s q = some n) : lookR s n.pre = some n.uri := by
  unfold expandD at h
  unfold lookR
  split at h
  · rename_i hx
    cases h
    rw [if_pos hx]
  · rename_i hx
    split at h
    · rename_i u hu
      cases h
      show (if (splitQ q).1 = xmlL then _ else _) = some u
      rw [if_neg hx, hu]
    · rename_i hu
      split at h
      · rename_i h0
        cases h
        rw [h0] at hu
        show (if ([] : List Nat) = xmlL then _ else _) = _
        rw [if_neg (by decide)]
        show (match lookS s [] with | some u => some u | none => _) = some []
        rw [hu]
        rfl
      · cases h
theorem leafs_S : ∀ (l : List XNode) (s : BS) (y : XNode), InvS (s.nodes.map strip0) → (s.nodes.map strip0)[s.inner]? = some y → (∀ x ∈ l, x.kind = 3 ∧ x.scope = [] ∧ ((x.name.pre = [] ∧ x.name.uri = []) ∨ (x.name.pre ≠ [] ∧ lookR y.scope x.name.pre = some x.name.uri))) → InvS ((l.foldl BS.leaf s).nodes.map strip0)
  | [], s, y, h, _, _ => h
  | x :: l, s, y, h, hy, hl => by
    obtain ⟨h3, h0, hn⟩ := hl x (List.mem_cons_self ..)
    refine leafs_S l (s.leaf x) y ?_ ?_ (fun z hz => hl z (List.mem_cons_of_mem _ hz))
    · rw [leaf_strip]
      refine h.snoc (fun e => ?_) (fun _ => h0) (fun _ => ?_)
      · have : x.kind = 2 := e
        rw [h3] at this
        cases this
      · rcases hn with hn | ⟨hn, hr⟩
        · exact .inl hn
        · exact .inr ⟨hn, s.inner, rfl, y, hy, hr⟩
    · rw [leaf_strip, leaf_inner, List.getElem?_append_left (List.getElem?_eq_some_iff.1 hy).1]
      exact hy
theorem splitQ_ne {q : List Nat} (hq : isQ q = true) (hn : isNm q = false) : (splitQ q).1 ≠ [] := by
  unfold isQ at hq
  unfold splitQ
  split at hq
  · rename_i hc
    rw [if_pos hc]
    intro h0
    have h0' : q.takeWhile (· != 58) = [] := h0
    rw [h0', isNm_nil] at hq
    cases hq
  · rw [hn] at hq
    cases hq
theorem expandD_pre {s : Sc} {q : List Nat} {n : Nm} (h : expandD s q = some n) (h0 : (splitQ q).1 ≠ []) : n.pre ≠ [] := by
  unfold expandD at h
  split at h
  · cases h; exact h0
  · split at h
    · cases h; exact h0
    · cases h
theorem attrsN_S {s : Sc} : ∀ {l : List (List Nat × List Nat)} {r : List XNode}, (∀ x ∈ l, isQ x.1 = true) → attrsN s l = some r → ∀ x ∈ r, x.kind = 3 ∧ x.scope = [] ∧ ((x.name.pre = [] ∧ x.name.uri = []) ∨ (x.name.pre ≠ [] ∧ lookR s x.name.pre = some x.name.uri))
  | [], r, _, h, x, hx => by cases h; cases hx
  | y :: l, r, hl, h, x, hx => by
    have hl' : ∀ z ∈ l, isQ z.1 = true := fun z hz => hl z (List.mem_cons_of_mem _ hz)
    rw [attrsN] at h
    split at h
    · exact attrsN_S hl' h x hx
    · split at h
      · cases h
      · rename_i n hn
        obtain ⟨q, hq, rfl⟩ := Option.map_eq_some_iff.1 h
        rcases List.mem_cons.1 hx with rfl | hx
        · refine ⟨rfl, rfl, ?_⟩
          unfold expandA at hn
          split at hn
          · cases hn; exact .inl ⟨rfl, rfl⟩
          · rename_i hN
            have hN' : isNm y.1 = false := by simpa using hN
            exact .inr ⟨expandD_pre hn (splitQ_ne (hl y (List.mem_cons_self ..)) hN'), expandD_R hn⟩
        · exact attrsN_S hl' hq x hx
theorem InvS.add {s s' : BS} {t : XTok} (h : InvS (s.nodes.map strip0)) (hq : t.kind = 2 → ∀ x ∈ t.attrs, isQ x.1 = true) (hk : t.kind ≠ 3) (ha : s.add t = .ok s') : InvS (s'.nodes.map strip0) := by
  unfold BS.add at ha
  split at ha
  · rename_i h2
    have hq := hq h2
    unfold BS.element BS.elementAt at ha
    split at ha
    · cases ha
    · rename_i inner hin
      split at ha
      · cases ha
      · rename_i n hn
        split at ha
        · cases ha
        · rename_i as' hat
          cases ha
          have hat' : attrsN inner t.attrs = some as' := by
            unfold attributesD at hat
            split at hat
            · cases hat
            · rename_i q hq
              split at hat
              · cases hat; exact hq
              · cases hat
          refine leafs_S as' _ (strip0 (s.placed ⟨2, n, [], 0, 0, 0, inner⟩)) ?_ ?_ (attrsN_S hq hat')
          · show InvS ((s.nodes ++ [_]).map strip0)
            rw [List.map_append]
            exact h.snoc (fun _ => expandD_R hn) (fun h2 => absurd rfl h2) (fun h3 => by cases h3)
          · rw [begin_inner]
            show ((s.nodes ++ [_]).map strip0)[_]? = _
            rw [List.map_append, List.getElem?_append_right (by rw [List.length_map]; exact Nat.le_refl _), List.length_map, Nat.sub_self]
            rfl
  · rename_i h2
    split at ha
    · cases ha
      show InvS ((s.nodes.modify _ _).map strip0)
      rw [modify_strip]
      exact h
    · split at ha
      · cases ha
        rw [leaf_strip]
        exact h.snoc (fun e => by cases e) (fun _ => rfl) (fun e => by cases e)
      · cases ha
        rw [leaf_strip]
        exact h.snoc (fun e => absurd e h2) (fun _ => rfl) (fun e => absurd e hk)
theorem adds_S : ∀ (ts : List XTok) (s s' : BS), InvS (s.nodes.map strip0) → (∀ t ∈ ts, (t.kind = 2 → ∀ x ∈ t.attrs, isQ x.1 = true) ∧ t.kind ≠ 3) → s.adds ts = .ok s' → InvS (s'.nodes.map strip0)
  | [], s, s', h, _, ha => by cases ha; exact h
  | t :: ts, s, s', h, hx, ha => by
    unfold BS.adds at ha
    split at ha
    · cases ha
    · rename_i s1 h1
      exact adds_S ts s1 s' (h.add (hx t (List.mem_cons_self ..)).1 (hx t (List.mem_cons_self ..)).2 h1) (fun y hy => hx y (List.mem_cons_of_mem _ hy)) ha
theorem InvS.start : InvS (BS.start.nodes.map strip0) := by
  refine ⟨fun x hx => ?_, fun x hx => ?_, fun x hx => ?_⟩
  · rw [List.mem_singleton.1 hx]; exact fun e => by cases e
  · rw [List.mem_singleton.1 hx]; exact fun _ => rfl
  · rw [List.mem_singleton.1 hx]; exact fun e => by cases e
/-- What a tree's scopes and names tell. -/
theorem treeD_S {ts : List XTok} {ns : List XNode} (hx : ∀ t ∈ ts, (t.kind = 2 → ∀ x ∈ t.attrs, isQ x.1 = true) ∧ t.kind ≠ 3) (h : treeD ts = .ok ns) : InvS (ns.map strip0) := by
  unfold treeD at h
  split at h
  · cases h
  · rename_i s hs
    cases h
    show InvS ((s.nodes.modify _ _).map strip0)
    rw [modify_strip]
    exact adds_S ts BS.start s InvS.start hx hs
theorem doc_kind {o : List (List Nat)} {r : Bool} {k : Nat} {ts : List XTok} (h : DocT o r k ts) : ∀ t ∈ ts, t.kind ≠ 3 := by
  induction h with
  | done => intro t ht; cases ht
  | elem n a o r k ts h hr ho ha hn ih => intro t ht; rcases List.mem_cons.1 ht with rfl | ht; exact fun e => (by cases e); exact ih t ht
  | fin n o r k ts h ho hn ih => intro t ht; rcases List.mem_cons.1 ht with rfl | ht; exact fun e => (by cases e); exact ih t ht
  | text l o r k ts h ho hk hn ih => intro t ht; rcases List.mem_cons.1 ht with rfl | ht; exact fun e => (by cases e); exact ih t ht
  | comment l o r k ts h hn ih => intro t ht; rcases List.mem_cons.1 ht with rfl | ht; exact fun e => (by cases e); exact ih t ht
  | pi n l o r k ts h hn ih => intro t ht; rcases List.mem_cons.1 ht with rfl | ht; exact fun e => (by cases e); exact ih t ht
theorem DocOk.scopes {xs : List XTok} {ns : List XNode} (h : DocOk xs) (ht : treeD xs = .ok ns) : InvS (ns.map strip0) ∧ ∀ x ∈ ns, x.scope.length ≤ 262144 := by
  refine ⟨treeD_S (fun t htm => ⟨fun h2 => ((h.tok htm).q h2).1, doc_kind h.doc t htm⟩) ht, ?_⟩
  unfold treeD at ht
  split at ht
  · cases ht
  · rename_i s hs
    cases ht
    obtain ⟨hI, _⟩ := adds_ok xs BS.start s [] false 0 0 h.doc Inv.start (by decide) InvT.start (fun t htm => by
      have := h.tok htm
      refine ⟨this.a, (h.all t htm).x, ?_⟩
      exact (h.sm t.b (List.mem_map.2 ⟨t, htm, rfl⟩)).x) hs
    have hx := h.len
    exact modify_scope fun x hx' => by have := hI.sc x hx'; omega
end Go.Proofs.YtjjggncbhenffaaGreatDoor
/- Trees that are built: parents stand ahead, in plain terms. -/
namespace Go.Proofs.YtjjggncbhenffaaGreatDoor
/-- The first node has no parent; every other has one that stands ahead of it. -/
def InvP (L : List XNode) : Prop := ∀ (i : Nat) (x : XNode), L[i]? = some x → (i = 0 ∧ x.parent = -1) ∨ ∃ p : Nat, x.parent = (p : Int) ∧ p < i
theorem InvP.snoc {L : List XNode} (h : InvP L) {x : XNode} {p : Nat} (hx : x.parent = (p : Int)) (hp : p < L.length) : InvP (L ++ [x]) := by
  intro i y hy
  by_cases hi : i < L.length
  · rw [List.getElem?_append_left hi] at hy
    exact h i y hy
  · have h1 := (List.getElem?_eq_some_iff.1 hy).1
    rw [List.length_append, List.length_singleton] at h1
    have e : i = L.length := by omega
    subst e
    rw [List.getElem?_append_right (Nat.le_refl _), Nat.sub_self] at hy
    cases hy
    exact .inr ⟨p, hx, hp⟩
theorem leafs_P : ∀ (l : List XNode) (s : BS), InvP (s.nodes.map strip0) → s.inner < s.nodes.length → InvP ((l.foldl BS.leaf s).nodes.map strip0)
  | [], _, h, _ => h
  | x :: l, s, h, hi => by
    refine leafs_P l (s.leaf x) ?_ ?_
    · rw [leaf_strip]
      exact h.snoc (p := s.inner) rfl (by rw [List.length_map]; exact hi)
    · rw [leaf_inner]
      have h1 := congrArg List.length (leaf_strip s x)
      rw [List.length_map, List.length_append, List.length_map] at h1
      omega
theorem InvP.add {s s' : BS} {t : XTok} (h : InvP (s.nodes.map strip0)) (hi : s.inner < s.nodes.length) (ha : s.add t = .ok s') : InvP (s'.nodes.map strip0) := by
  unfold BS.add at ha
  split at ha
  · unfold BS.element BS.elementAt at ha
    split at ha
    · cases ha
    · split at ha
      · cases ha
      · split at ha
        · cases ha
        · cases ha
          refine leafs_P _ _ ?_ ?_
          · show InvP ((s.nodes ++ [_]).map strip0)
            rw [List.map_append]
            exact h.snoc (p := s.inner) rfl (by rw [List.length_map]; exact hi)
          · rw [begin_inner]
            show _ < (s.nodes ++ [_]).length
            simp
  · split at ha
    · cases ha
      show InvP ((s.nodes.modify _ _).map strip0)
      rw [modify_strip]
      exact h
    · split at ha
      · cases ha
        rw [leaf_strip]
        exact h.snoc (p := s.inner) rfl (by rw [List.length_map]; exact hi)
      · cases ha
        rw [leaf_strip]
        exact h.snoc (p := s.inner) rfl (by rw [List.length_map]; exact hi)
theorem adds_P : ∀ (ts : List XTok) (s s' : BS) (o : List (List Nat)) (r : Bool) (q k : Nat), DocT o r q ts → Inv s o.length k → o.length ≤ 32 → InvP (s.nodes.map strip0) → s.adds ts = .ok s' → InvP (s'.nodes.map strip0)
  | [], s, s', o, r, q, k, _, _, _, h, ha => by cases ha; exact h
  | t :: ts, s, s', o, r, q, k, hD, hI, ho, h, ha => by
    unfold BS.adds at ha
    split at ha
    · cases ha
    · rename_i s1 h1
      obtain ⟨o', r', q', hD', hI', ho'⟩ := hI.add ho hD h1
      exact adds_P ts s1 s' o' r' q' (k + 1) hD' hI' ho' (h.add hI.inner h1) ha
theorem DocOk.parents {xs : List XTok} {ns : List XNode} (h : DocOk xs) (ht : treeD xs = .ok ns) : InvP ns := by
  unfold treeD at ht
  split at ht
  · cases ht
  · rename_i s hs
    cases ht
    have h0 : InvP (BS.start.nodes.map strip0) := by
      intro i x hx
      have hx' : [strip0 rootN][i]? = some x := hx
      have h1 := (List.getElem?_eq_some_iff.1 hx').1
      simp at h1
      subst h1
      cases hx'
      exact .inl ⟨rfl, rfl⟩
    have h1 := adds_P xs BS.start s [] false 0 0 h.doc Inv.start (by decide) h0 hs
    intro i x hx
    have hx' : (s.nodes.modify s.inner fun x => { x with fin := s.nodes.length })[i]? = some x := hx
    have h2 := h1 i (strip0 x) (by rw [← modify_strip s.nodes s.inner s.nodes.length, List.getElem?_map, hx']; rfl)
    exact h2
end Go.Proofs.YtjjggncbhenffaaGreatDoor
