/- Several texts, laid as one. -/
import Derived.Test.YtjjggncbhenffaaGreatDoorGbq
import Derived.Test.YtjjggncbhenffaaGreatDoorGbs
import Derived.Test.YtjjggncbhenffaaGreatDoorGbr
import Derived.Shelf.SlIterI.Nil
import Derived.Shelf.SlIter.Nil
import Derived.Shelf.SortM.Plain
import Derived.Shelf.SortM.SortNone
import Derived.Test.YtjjggncbhenffaaGreatDoorProg
/- The tree of a text: xdm's Parse. -/
namespace Go.Proofs.YtjjggncbhenffaaGreatDoor
open Go.RowKit Go.Maps
theorem doc_ok {cs : List Nat} {ts : List XTok} (hl : okL cs) (hs : (T cs).size ≤ 32768) (h : scanX cs = .ok ts) : DocOk ts := by
  obtain ⟨h1, h2, h3, _⟩ := write_told hl hs h
  exact ⟨h1, h2, fun x hx => (scan_F hl hs h x hx).ok, h3⟩
theorem adds_errs : ∀ {ts : List XTok} {s : BS} {n : Nat}, s.adds ts = .error n → n = 7 ∨ n = 8
  | [], s, n, h => by cases h
  | t :: ts, s, n, h => by
    rw [adds_cons] at h
    split at h
    · rename_i ha
      cases h
      exact add_errs ha
    · exact adds_errs h
theorem tree_errs {ts : List XTok} {n : Nat} (h : treeD ts = .error n) : n = 7 ∨ n = 8 := by
  unfold treeD at h
  split at h
  · rename_i ha
    cases h
    exact adds_errs ha
  · cases h
set_option maxRecDepth 100000 in
set_option maxHeartbeats 4000000 in
theorem parse_T (cs : List Nat) (w : World) (hl : okL cs) (hs : (T cs).size ≤ 32768) (hE : XEnv w.heap.size w) :
    Calls Tryz.prog 14 #[.string (T cs)] w fun e w' => TreeOut w' w.heap.size (parseD cs) e ∧ Below w.heap.size w w' := by
  have HE := hide hE
  have HS := hide (scan_any cs w hl hs hE)
  cases hsc : scanX cs with
  | error x =>
    rw [hsc] at HS
    have her := (scan_er hl hs hsc).1
    have HEQ : Hid (parseD cs = .error x.1) := hide (by unfold parseD; rw [hsc])
    obtain ⟨n, pl⟩ := x
    simp only at her HEQ
    clear hsc hE
    rcases her with rfl | rfl
    all_goals
      go_enter Tryz.func14, Tryz.ntmps14
      go_wp2_with fail
      refine (unhide HS).mono ?_
      rintro e w1 ⟨hp, hb1⟩
      have hp' := hp
      unfold scanP at hp'
      subst hp'
      go_wp2
      go_returns
      rw [unhide HEQ]
      exact ⟨rfl, hb1⟩
  | ok ts =>
    rw [hsc] at HS
    have hdk := doc_ok hl hs hsc
    have HEQ : Hid (parseD cs = treeD ts) := hide (by unfold parseD; rw [hsc])
    have hpos := doc_pos hdk.doc
    have HBU := hide (fun W a cap (hb : Below w.heap.size w W) (hv : ToksArg W a (ts.map XTok.b)) => build_any ts a cap W hdk hv ((unhide HE).at hb))
    have HTA := hide (fun (W : World) (B : Nat) (v : Value) (h : Toks W B v ts) => toks_arg h hpos)
    have hml : (ts.map XTok.b).length = ts.length := List.length_map ..
    clear hsc hE hdk
    go_enter Tryz.func14, Tryz.ntmps14
    go_wp2_with fail
    refine (unhide HS).mono ?_
    rintro e w1 ⟨hp, hb1⟩
    obtain ⟨vt, he, hT⟩ := hp
    subst he
    obtain ⟨a, cap, hvt, hA⟩ := unhide HTA _ _ _ hT
    rw [hml] at hvt
    subst hvt
    have HB2 := hide (unhide HBU w1 a cap hb1 hA)
    clear hT hA HBU HTA HS
    go_wp2_with fail
    refine (unhide HB2).mono ?_
    rintro e w2 ⟨hO, hb2⟩
    have hb02 := Below.then hb1 hb2
    cases htr : treeD ts with
    | error n =>
      rw [htr] at hO
      have hO' : e = .returned (.tuple #[.pointer none, .int .i64 (n : Nat)]) := hO
      subst hO'
      rw [htr] at HEQ
      rcases tree_errs htr with rfl | rfl
      all_goals
        clear hO htr
        go_wp2
        go_returns
        rw [unhide HEQ]
        exact ⟨rfl, hb02⟩
    | ok ns =>
      rw [htr] at hO HEQ
      obtain ⟨q, he, hq⟩ := hO
      subst he
      have HQ : Hid (TreeAt w2 w.heap.size q ns) := hide (by
        obtain ⟨h1, vn, h2, vs, h3, h4, h5⟩ := hq
        have hle := hb1.size
        refine ⟨by omega, vn, h2, vs, h3, ?_, fun i x v hx hv => (h5 i x v hx hv).low hle⟩
        exact owns_lower h4 hle)
      clear hq htr
      go_wp2
      go_returns
      rw [unhide HEQ]
      exact ⟨⟨q, rfl, unhide HQ⟩, hb02⟩
end Go.Proofs.YtjjggncbhenffaaGreatDoor
/- What must be whatever is asked: stencillaw04's live. -/
namespace Go.Proofs.YtjjggncbhenffaaGreatDoor
open Go.RowKit Go.Maps
def liveY : List Nat := [60, 97, 32, 120, 109, 108, 110, 115, 61, 34, 117, 34, 62, 60, 98, 32, 99, 61, 34, 49, 34, 62, 120, 60, 47, 98, 62, 60, 47, 97, 62]
theorem liveY_T : (⟨#[60, 97, 32, 120, 109, 108, 110, 115, 61, 34, 117, 34, 62, 60, 98, 32, 99, 61, 34, 49, 34, 62, 120, 60, 47, 98, 62, 60, 47, 97, 62]⟩ : ByteArray) = T liveY := by
  have : tx liveY = [60, 97, 32, 120, 109, 108, 110, 115, 61, 34, 117, 34, 62, 60, 98, 32, 99, 61, 34, 49, 34, 62, 120, 60, 47, 98, 62, 60, 47, 97, 62] := by decide +kernel
  unfold T
  rw [this]
theorem liveY_ok : okL liveY := by
  unfold okL
  decide +kernel
def liveN : List XNode := match parseD liveY with
  | .ok ns => ns
  | .error _ => []
theorem liveY_parse : parseD liveY = .ok liveN := by kernel_rfl
theorem liveN_len : liveN.length = 5 := by kernel_rfl
theorem liveN_1 : nmV (nodeD liveN 1).name = .agg #[.string ⟨#[117]⟩, .string ⟨#[]⟩, .string ⟨#[97]⟩] := by kernel_rfl
theorem liveN_3k : (nodeD liveN 3).kind = 3 := by kernel_rfl
theorem liveN_3 : nmV (nodeD liveN 3).name = .agg #[.string ⟨#[]⟩, .string ⟨#[]⟩, .string ⟨#[99]⟩] := by kernel_rfl
theorem liveN_s : T (strD liveN 0) = ⟨#[120]⟩ := by kernel_rfl
theorem liveN_4 : (nodeD liveN 4).parent = 2 := by kernel_rfl
theorem parse_ok {cs : List Nat} {ns : List XNode} (hl : okL cs) (hs : (T cs).size ≤ 32768) (h : parseD cs = .ok ns) : TreeOk ns := by
  unfold parseD at h
  split at h
  · cases h
  · rename_i ts hts
    exact (doc_ok hl hs hts).tree h
theorem fldNm0 (a b c : Value) (W : World) : (Instr.field 47 (.agg #[a, b, c]) 0).run Tryz.prog W = .ok a W := by kernel_rfl
set_option maxRecDepth 100000 in
set_option maxHeartbeats 2000000 in
theorem live4_any (w : World) (hE : XEnv w.heap.size w) :
    Calls Tryz.prog 12 #[] w fun e w' => e = .returned (.bool true) ∧ Below w.heap.size w w' := by
  have hz : (T liveY).size ≤ 32768 := by rw [← liveY_T]; decide
  have HS := hide (parse_T liveY w liveY_ok hz hE)
  have HOK := hide (parse_ok liveY_ok hz liveY_parse)
  rw [liveY_parse, ← liveY_T] at HS
  clear hE hz
  have hfd := fldNm0
  go_enter Tryz.func12, Tryz.ntmps12
  go_wp2_with fail
  refine (unhide HS).mono ?_
  rintro e w1 ⟨⟨q, rfl, hT⟩, hb⟩
  have hTV : TreeV w1 w.heap.size (.pointer (some ⟨q, 0, none⟩)) liveN := .inr ⟨q, rfl, hT⟩
  have HL := hide (fun W (hb : Below w1.heap.size w1 W) => len_any _ _ _ W (hTV.on hb))
  have HN := hide (fun n W (hb : Below w1.heap.size w1 W) => trName_any _ _ _ n W (hTV.on hb))
  have HK := hide (fun n W (hb : Below w1.heap.size w1 W) => trKind_any _ _ _ n W (hTV.on hb))
  have HP := hide (fun n W (hb : Below w1.heap.size w1 W) => trParent_any _ _ _ n W (hTV.on hb))
  have HST := hide (fun n W (hb : Below w1.heap.size w1 W) => string_any _ _ _ n W (hTV.on hb) (unhide HOK).fin (unhide HOK).len (unhide HOK).txt)
  clear hT hTV HS
  have h0 := unhide HL w1 (Below.refl _ _)
  rw [liveN_len] at h0
  go_wp2_with fail
  refine h0.mono ?_
  rintro e w2 ⟨rfl, hb2⟩
  clear h0
  have h0 := unhide HN 1 w2 hb2
  rw [liveN_1] at h0
  go_wp2_with fail
  refine h0.mono ?_
  rintro e w3 ⟨rfl, hb3⟩
  clear h0
  have hb3 := Below.then hb2 hb3
  have h0 := unhide HK 3 w3 hb3
  rw [liveN_3k] at h0
  go_wp2_with fail
  refine h0.mono ?_
  rintro e w4 ⟨rfl, hb4⟩
  clear h0
  have hb4 := Below.then hb3 hb4
  have h0 := unhide HN 3 w4 hb4
  rw [liveN_3] at h0
  go_wp2_with fail
  refine h0.mono ?_
  rintro e w5 ⟨rfl, hb5⟩
  clear h0
  have hb5 := Below.then hb4 hb5
  have h0 := unhide HST 0 w5 hb5
  rw [liveN_s] at h0
  go_wp2_with fail
  refine h0.mono ?_
  rintro e w6 ⟨rfl, hb6⟩
  clear h0
  have hb6 := Below.then hb5 hb6
  have h0 := unhide HP 4 w6 hb6
  rw [liveN_4] at h0
  go_wp2_with fail
  refine h0.mono ?_
  rintro e w7 ⟨rfl, hb7⟩
  clear h0
  have hb7 := Below.then hb6 hb7
  go_wp2
  go_returns
  exact ⟨rfl, Below.then hb hb7⟩
end Go.Proofs.YtjjggncbhenffaaGreatDoor
/- A tree that is none: xdm's Nodes and Strip. -/
namespace Go.Proofs.YtjjggncbhenffaaGreatDoor
open Go.RowKit Go.Maps
set_option maxRecDepth 100000 in
set_option maxHeartbeats 2000000 in
theorem strip_none (v : Value) (w : World) :
    Calls Tryz.prog 29 #[.pointer none, v] w fun e w' => e = .returned (.pointer none) ∧ Below w.heap.size w w' := by
  go_enter Tryz.func29, Tryz.ntmps29
  go_wp2
  go_returns
  exact ⟨rfl, (Below.refl _ _).alloc (Nat.le_refl _) _⟩
set_option maxRecDepth 100000 in
set_option maxHeartbeats 2000000 in
theorem nodes_none (w : World) :
    Calls Tryz.prog 30 #[.pointer none] w fun e w' => e = .returned (.slice none 0 0) ∧ Below w.heap.size w w' := by
  have HL := hide (len_any 0 _ _ w (TreeV.none w 0))
  go_enter Tryz.func30, Tryz.ntmps30
  go_wp2_with fail
  refine (unhide HL).mono ?_
  rintro e w1 ⟨rfl, hb1⟩
  go_wp2_with fail
  go_loopw [3, 8] (fun a i wr => a = .slice none 0 0 ∧ i = .int .i64 0 ∧ wr = w1) (fun _ _ _ => 0)
  case atStart => exact ⟨rfl, rfl, rfl⟩
  case round =>
    obtain ⟨rfl, rfl, rfl⟩ := hrel
    go_wp2
    go_returns
    exact ⟨rfl, hb1⟩
end Go.Proofs.YtjjggncbhenffaaGreatDoor
/-
  DERIVED: THE SHELF's CONTRACTS AT THIS DUMP, IN PLAIN WORDS (tools/lay-plain.mjs out of 'YtjjggncbhenffaaGreatDoorXdmShTry.lean', which tools/lay-shelf.mjs wrote): THE SAME DECLARATIONS UNDER THE SAME NAMES: 'import', 'namespace', 'open', 'def', 'theorem' AND NOTHING ELSE: no command of the shelf's: FOR A HAND-IN. Each laying: the table of numbers ('.._ren') and one theorem, a field a fact of the dump's own or the kernel's comparison; each contract: ONE APPLICATION.
-/
namespace Go.Proofs
open Go.Shelf
def Tryz.collI_ren : Go.Shelf.Ren := ⟨fun | 8 => 53 | 11 => 90 | n => n, fun | 26 => 3 | 28 => 108 | 24 => 41 | 0 => 0 | 33 => 59 | 4 => 4 | n => n, fun | n => n⟩
theorem Tryz.collI : Go.Proofs.SlLaysZI.n8 Tryz.prog Tryz.collI_ren := {
  mixed := by kernel_rfl
  f8 := ⟨Tryz.f53.name, by decide, Tryz.func53.trans (congrArg some (by kernel_rfl))⟩
  f11 := ⟨Tryz.f90.name, by decide, Tryz.func90.trans (congrArg some (by kernel_rfl))⟩
  t0 := Tryz.underlying0
  a0 := Tryz.isAgg0
  z0 := Tryz.sizeOf0
  v0 := Tryz.zeroValue0
  t24 := Tryz.underlying41
  a24 := Tryz.isAgg41
  z24 := Tryz.sizeOf41
  v24 := Tryz.zeroValue41
  t26 := Tryz.underlying3
  a26 := Tryz.isAgg3
  z26 := Tryz.sizeOf3
  v26 := Tryz.zeroValue3
  t28 := Tryz.underlying108
  a28 := Tryz.isAgg108
  z28 := Tryz.sizeOf108
  v28 := Tryz.zeroValue108
  i26 := by kernel_rfl }
def Tryz.keysS_ren : Go.Shelf.Ren := ⟨fun | 7 => 49 | 10 => 88 | n => n, fun | 23 => 67 | 26 => 9 | 3 => 95 | 28 => 92 | 0 => 0 | 27 => 91 | 33 => 44 | 4 => 4 | n => n, fun | n => n⟩
theorem Tryz.keysS : Go.Proofs.SlLaysZ.n7 Tryz.prog Tryz.keysS_ren := {
  mixed := by kernel_rfl
  f7 := ⟨Tryz.f49.name, by decide, Tryz.func49.trans (congrArg some (by kernel_rfl))⟩
  f10 := ⟨Tryz.f88.name, by decide, Tryz.func88.trans (congrArg some (by kernel_rfl))⟩
  t0 := Tryz.underlying0
  a0 := Tryz.isAgg0
  z0 := Tryz.sizeOf0
  v0 := Tryz.zeroValue0
  t4 := Tryz.underlying4
  a4 := Tryz.isAgg4
  z4 := Tryz.sizeOf4
  v4 := Tryz.zeroValue4
  t23 := Tryz.underlying67
  a23 := Tryz.isAgg67
  z23 := Tryz.sizeOf67
  v23 := Tryz.zeroValue67
  t26 := Tryz.underlying9
  a26 := Tryz.isAgg9
  z26 := Tryz.sizeOf9
  v26 := Tryz.zeroValue9
  t27 := Tryz.underlying91
  a27 := Tryz.isAgg91
  z27 := Tryz.sizeOf91
  v27 := Tryz.zeroValue91
  t28 := Tryz.underlying92
  a28 := Tryz.isAgg92
  z28 := Tryz.sizeOf92
  v28 := Tryz.zeroValue92
  t33 := Tryz.underlying44
  a33 := Tryz.isAgg44
  z33 := Tryz.sizeOf44
  v33 := Tryz.zeroValue44 }
def Tryz.sortedS_ren : Go.Shelf.Ren := ⟨fun | 6 => 48 | 8 => 86 | 9 => 87 | 11 => 124 | 13 => 126 | 12 => 125 | 23 => 177 | 24 => 178 | 14 => 168 | 15 => 169 | 16 => 170 | 17 => 171 | 18 => 172 | 19 => 173 | 20 => 174 | 21 => 175 | 22 => 176 | 25 => 201 | 26 => 202 | 27 => 203 | 28 => 204 | 29 => 205 | 30 => 206 | 31 => 225 | n => n, fun | 26 => 9 | 28 => 92 | 24 => 89 | 0 => 0 | 3 => 3 | 37 => 152 | 48 => 187 | 50 => 189 | 4 => 4 | 40 => 181 | 39 => 180 | 45 => 113 | 5 => 5 | 9 => 9 | 51 => 209 | 55 => 213 | 57 => 228 | 58 => 229 | 33 => 44 | n => n, fun | n => n⟩
theorem Tryz.sortedS : Go.Proofs.SlLaysZ.n6 Tryz.prog Tryz.sortedS_ren := {
  mixed := by kernel_rfl
  f6 := ⟨Tryz.f48.name, by decide, Tryz.func48.trans (congrArg some (by kernel_rfl))⟩
  f8 := ⟨Tryz.f86.name, by decide, Tryz.func86.trans (congrArg some (by kernel_rfl))⟩
  f11 := ⟨Tryz.f124.name, by decide, Tryz.func124.trans (congrArg some (by kernel_rfl))⟩
  t0 := Tryz.underlying0
  a0 := Tryz.isAgg0
  z0 := Tryz.sizeOf0
  v0 := Tryz.zeroValue0
  t24 := Tryz.underlying89
  a24 := Tryz.isAgg89
  z24 := Tryz.sizeOf89
  v24 := Tryz.zeroValue89
  t26 := Tryz.underlying9
  a26 := Tryz.isAgg9
  z26 := Tryz.sizeOf9
  v26 := Tryz.zeroValue9
  t28 := Tryz.underlying92
  a28 := Tryz.isAgg92
  z28 := Tryz.sizeOf92
  v28 := Tryz.zeroValue92
  i26 := by kernel_rfl }
def Tryz.sortS_ren : Go.Shelf.Ren := ⟨fun | 6 => 87 | 8 => 126 | 9 => 125 | 19 => 177 | 20 => 178 | 21 => 168 | 22 => 169 | 23 => 170 | 24 => 171 | 25 => 172 | 26 => 173 | 27 => 174 | 28 => 175 | 29 => 176 | 36 => 201 | 31 => 202 | 32 => 203 | 37 => 204 | 38 => 205 | 39 => 206 | 41 => 225 | n => n, fun | 27 => 89 | 29 => 9 | 3 => 3 | 32 => 152 | 26 => 89 | 0 => 0 | 44 => 187 | 46 => 189 | 4 => 4 | 36 => 181 | 35 => 180 | 41 => 113 | 5 => 5 | 9 => 9 | 53 => 209 | 57 => 213 | 63 => 228 | 64 => 229 | n => n, fun | n => n⟩
theorem Tryz.sortS : Go.Proofs.SlLaysM.n6 Tryz.prog Tryz.sortS_ren := {
  mixed := by kernel_rfl
  f6 := ⟨Tryz.f87.name, by decide, Tryz.func87.trans (congrArg some (by kernel_rfl))⟩
  f8 := Tryz.func126.trans (congrArg some (by kernel_rfl))
  f9 := ⟨Tryz.f125.name, by decide, Tryz.func125.trans (congrArg some (by kernel_rfl))⟩
  f19 := Tryz.func177.trans (congrArg some (by kernel_rfl))
  f20 := Tryz.func178.trans (congrArg some (by kernel_rfl))
  f21 := ⟨Tryz.f168.name, by decide, Tryz.func168.trans (congrArg some (by kernel_rfl))⟩
  f22 := ⟨Tryz.f169.name, by decide, Tryz.func169.trans (congrArg some (by kernel_rfl))⟩
  f23 := ⟨Tryz.f170.name, by decide, Tryz.func170.trans (congrArg some (by kernel_rfl))⟩
  f24 := ⟨Tryz.f171.name, by decide, Tryz.func171.trans (congrArg some (by kernel_rfl))⟩
  f25 := ⟨Tryz.f172.name, by decide, Tryz.func172.trans (congrArg some (by kernel_rfl))⟩
  f26 := ⟨Tryz.f173.name, by decide, Tryz.func173.trans (congrArg some (by kernel_rfl))⟩
  f27 := ⟨Tryz.f174.name, by decide, Tryz.func174.trans (congrArg some (by kernel_rfl))⟩
  f28 := ⟨Tryz.f175.name, by decide, Tryz.func175.trans (congrArg some (by kernel_rfl))⟩
  f29 := ⟨Tryz.f176.name, by decide, Tryz.func176.trans (congrArg some (by kernel_rfl))⟩
  f31 := Tryz.func202.trans (congrArg some (by kernel_rfl))
  f32 := Tryz.func203.trans (congrArg some (by kernel_rfl))
  f36 := ⟨Tryz.f201.name, by decide, Tryz.func201.trans (congrArg some (by kernel_rfl))⟩
  f37 := ⟨Tryz.f204.name, by decide, Tryz.func204.trans (congrArg some (by kernel_rfl))⟩
  f38 := ⟨Tryz.f205.name, by decide, Tryz.func205.trans (congrArg some (by kernel_rfl))⟩
  f39 := ⟨Tryz.f206.name, by decide, Tryz.func206.trans (congrArg some (by kernel_rfl))⟩
  f41 := ⟨Tryz.f225.name, by decide, Tryz.func225.trans (congrArg some (by kernel_rfl))⟩
  t0 := Tryz.underlying0
  a0 := Tryz.isAgg0
  z0 := Tryz.sizeOf0
  v0 := Tryz.zeroValue0
  t3 := Tryz.underlying3
  a3 := Tryz.isAgg3
  z3 := Tryz.sizeOf3
  v3 := Tryz.zeroValue3
  t4 := Tryz.underlying4
  a4 := Tryz.isAgg4
  z4 := Tryz.sizeOf4
  v4 := Tryz.zeroValue4
  t5 := Tryz.underlying5
  a5 := Tryz.isAgg5
  z5 := Tryz.sizeOf5
  v5 := Tryz.zeroValue5
  t9 := Tryz.underlying9
  a9 := Tryz.isAgg9
  z9 := Tryz.sizeOf9
  v9 := Tryz.zeroValue9
  t26 := Tryz.underlying89
  a26 := Tryz.isAgg89
  z26 := Tryz.sizeOf89
  v26 := Tryz.zeroValue89
  t27 := Tryz.underlying89
  a27 := Tryz.isAgg89
  z27 := Tryz.sizeOf89
  v27 := Tryz.zeroValue89
  t29 := Tryz.underlying9
  a29 := Tryz.isAgg9
  z29 := Tryz.sizeOf9
  v29 := Tryz.zeroValue9
  t32 := Tryz.underlying152
  a32 := Tryz.isAgg152
  z32 := Tryz.sizeOf152
  v32 := Tryz.zeroValue152
  t35 := Tryz.underlying180
  a35 := Tryz.isAgg180
  z35 := Tryz.sizeOf180
  v35 := Tryz.zeroValue180
  t36 := Tryz.underlying181
  a36 := Tryz.isAgg181
  z36 := Tryz.sizeOf181
  v36 := Tryz.zeroValue181
  t41 := Tryz.underlying113
  a41 := Tryz.isAgg113
  z41 := Tryz.sizeOf113
  v41 := Tryz.zeroValue113
  t44 := Tryz.underlying187
  a44 := Tryz.isAgg187
  z44 := Tryz.sizeOf187
  v44 := Tryz.zeroValue187
  t46 := Tryz.underlying189
  a46 := Tryz.isAgg189
  z46 := Tryz.sizeOf189
  v46 := Tryz.zeroValue189
  t53 := Tryz.underlying209
  a53 := Tryz.isAgg209
  z53 := Tryz.sizeOf209
  v53 := Tryz.zeroValue209
  t57 := Tryz.underlying213
  a57 := Tryz.isAgg213
  z57 := Tryz.sizeOf213
  v57 := Tryz.zeroValue213
  t63 := Tryz.underlying228
  a63 := Tryz.isAgg228
  z63 := Tryz.sizeOf228
  v63 := Tryz.zeroValue228
  t64 := Tryz.underlying229
  a64 := Tryz.isAgg229
  z64 := Tryz.sizeOf229
  v64 := Tryz.zeroValue229 }
end Go.Proofs
/- A tree that is none: xdm's Kids and Attrs. -/
namespace Go.Proofs.YtjjggncbhenffaaGreatDoor
open Go.RowKit Go.Maps Go.Sort Go.Shelf
theorem grown_of_below {w w' : World} (h : Below w.heap.size w w') : w.grownBy w' none := ⟨h.os, h.tape, h.output, h.size, fun k hk _ => h.block k hk⟩
theorem part_none (n : Int) (w : World) :
    Calls Tryz.prog 50 #[.pointer none, .int .i64 n] w fun e w' => (∃ a cap, e = .returned (.slice a 0 cap)) ∧ Below w.heap.size w w' := by
  refine (part_any 0 (.pointer none) [] n w w (TreeV.none w 0) (Below.refl _ _) (fun i x h => by cases h) (Nat.zero_le _)).mono ?_
  rintro e w' ⟨⟨u, rfl, a, cap, rfl, _⟩, hb⟩
  refine ⟨⟨a, cap, ?_⟩, hb⟩
  have : (partD [] n).length = 0 := Nat.le_zero.1 (part_len [] n)
  rw [this]
set_option maxRecDepth 100000 in
set_option maxHeartbeats 2000000 in
theorem kids1_none (l Bt Bn : Nat) (n : Int) (w : World) (ht : w.cell? ⟨Bt, 0, none⟩ = some (.pointer none)) (hn : w.cell? ⟨Bn, 0, none⟩ = some (.int .i64 n)) :
    Calls Tryz.prog 91 #[.func (.yield l) #[] #[], .pointer (some ⟨Bt, 0, none⟩), .pointer (some ⟨Bn, 0, none⟩)] w fun e w' => (∃ v, e = .returned v) ∧ Below w.heap.size w w' := by
  have HP := hide (part_none n w)
  go_enter Tryz.func91, Tryz.ntmps91
  go_wp2_with fail
  refine (unhide HP).mono ?_
  rintro e w1 ⟨⟨a, cap, rfl⟩, hb1⟩
  go_wp2_with fail
  go_loopw [5] (fun i wr => i = .int .i64 0 ∧ wr = w1) (fun _ _ => 0)
  case atStart => exact ⟨rfl, rfl⟩
  case round =>
    obtain ⟨rfl, rfl⟩ := hrel
    go_wp2
    go_end0
    exact ⟨⟨_, rfl⟩, hb1⟩
set_option maxRecDepth 100000 in
set_option maxHeartbeats 2000000 in
theorem attrs1_none (l Bt Bn : Nat) (n : Int) (w : World) (ht : w.cell? ⟨Bt, 0, none⟩ = some (.pointer none)) (hn : w.cell? ⟨Bn, 0, none⟩ = some (.int .i64 n)) :
    Calls Tryz.prog 95 #[.func (.yield l) #[] #[], .pointer (some ⟨Bt, 0, none⟩), .pointer (some ⟨Bn, 0, none⟩)] w fun e w' => (∃ v, e = .returned v) ∧ Below w.heap.size w w' := by
  have HP := hide (part_none n w)
  go_enter Tryz.func95, Tryz.ntmps95
  go_wp2_with fail
  refine (unhide HP).mono ?_
  rintro e w1 ⟨⟨a, cap, rfl⟩, hb1⟩
  go_wp2_with fail
  go_loopw [10] (fun i wr => i = .int .i64 0 ∧ wr = w1) (fun _ _ => 0)
  case atStart => exact ⟨rfl, rfl⟩
  case round =>
    obtain ⟨rfl, rfl⟩ := hrel
    go_wp2
    go_end0
    exact ⟨⟨_, rfl⟩, hb1⟩
theorem kids_gives_none (Bt Bn : Nat) (n : Int) (w : World) (ht : w.cell? ⟨Bt, 0, none⟩ = some (.pointer none)) (hn : w.cell? ⟨Bn, 0, none⟩ = some (.int .i64 n)) (hBt : Bt < w.heap.size) (hBn : Bn < w.heap.size) (k : Nat) :
    SeqGives Fence.wide k Tryz.prog 91 #[.pointer (some ⟨Bt, 0, none⟩), .pointer (some ⟨Bn, 0, none⟩)] encZ (fun ss : List Int => ss = []) 0 w := fun l J W hW hJ _ h0 => by
  refine callsIn_wide.2 ?_
  refine (kids1_none l Bt Bn n W ((hW.cell (p := ⟨Bt, 0, none⟩) hBt).trans ht) ((hW.cell (p := ⟨Bn, 0, none⟩) hBn).trans hn)).mono ?_
  rintro e w' ⟨h1, h2⟩
  exact ⟨h1, [], rfl, hJ [] W w' none h0 (grown_of_below h2) (fun r e => by cases e)⟩
set_option maxRecDepth 100000 in
set_option maxHeartbeats 2000000 in
theorem kids_seq (v : Value) (n : Int) (w : World) (hv : ∃ p, v = .pointer p) :
    Calls Tryz.prog 54 #[v, .int .i64 n] w fun e w' => ∃ Bt Bn, e = .returned (.func (.func 91) #[] #[.pointer (some ⟨Bt, 0, none⟩), .pointer (some ⟨Bn, 0, none⟩)]) ∧ w'.cell? ⟨Bt, 0, none⟩ = some v ∧ w'.cell? ⟨Bn, 0, none⟩ = some (.int .i64 n) ∧ Bt < w'.heap.size ∧ Bn < w'.heap.size ∧ Below w.heap.size w w' := by
  obtain ⟨p, rfl⟩ := hv
  go_enter Tryz.func54, Tryz.ntmps54
  go_wp2
  go_returns
  refine ⟨_, _, rfl, ?_, ?_, ?_, ?_, ?_⟩
  · simp
  · simp
  · simp; omega
  · simp
  · exact ((Below.refl _ _).alloc (Nat.le_refl _) _).alloc (by simp) _
set_option maxRecDepth 100000 in
set_option maxHeartbeats 2000000 in
theorem kids_none (n : Int) (w : World) :
    Calls Tryz.prog 23 #[.pointer none, .int .i64 n] w fun e w' => e = .returned (.slice none 0 0) ∧ Below w.heap.size w w' := by
  have HS := hide (kids_seq (.pointer none) n w ⟨_, rfl⟩)
  go_enter Tryz.func23, Tryz.ntmps23
  go_wp2_with fail
  refine (unhide HS).mono ?_
  rintro e w1 ⟨Bt, Bn, rfl, h1, h2, h3, h4, hb1⟩
  have cS := AnyZI.collect_in Tryz.collI Fence.wide 3 trivial trivial rfl (Nat.le_refl _) 91 #[.pointer (some ⟨Bt, 0, none⟩), .pointer (some ⟨Bn, 0, none⟩)] trivial (enters_of Tryz.func91 (by kernel_rfl) rfl) _ 0 (Nat.zero_le _) (by omega) _ (kids_gives_none Bt Bn n w1 h1 h2 h3 h4 1)
  have cC : Calls Tryz.prog 53 #[.func (.func 91) #[] #[.pointer (some ⟨Bt, 0, none⟩), .pointer (some ⟨Bn, 0, none⟩)]] w1 _ := callsIn_wide.1 cS
  clear cS h1 h2
  go_wp2_with fail
  refine cC.mono ?_
  rintro e w2 ⟨v, ss, rfl, rfl, _, hnil, hb2⟩
  obtain rfl : v = .slice none 0 0 := hnil.2 rfl
  go_wp2
  go_returns
  exact ⟨rfl, Below.then hb1 hb2⟩
theorem attrs_gives_none (Bt Bn : Nat) (n : Int) (w : World) (ht : w.cell? ⟨Bt, 0, none⟩ = some (.pointer none)) (hn : w.cell? ⟨Bn, 0, none⟩ = some (.int .i64 n)) (hBt : Bt < w.heap.size) (hBn : Bn < w.heap.size) (k : Nat) :
    SeqGives Fence.wide k Tryz.prog 95 #[.pointer (some ⟨Bt, 0, none⟩), .pointer (some ⟨Bn, 0, none⟩)] encZ (fun ss : List Int => ss = []) 0 w := fun l J W hW hJ _ h0 => by
  refine callsIn_wide.2 ?_
  refine (attrs1_none l Bt Bn n W ((hW.cell (p := ⟨Bt, 0, none⟩) hBt).trans ht) ((hW.cell (p := ⟨Bn, 0, none⟩) hBn).trans hn)).mono ?_
  rintro e w' ⟨h1, h2⟩
  exact ⟨h1, [], rfl, hJ [] W w' none h0 (grown_of_below h2) (fun r e => by cases e)⟩
set_option maxRecDepth 100000 in
set_option maxHeartbeats 2000000 in
theorem attrs_seq (v : Value) (n : Int) (w : World) (hv : ∃ p, v = .pointer p) :
    Calls Tryz.prog 59 #[v, .int .i64 n] w fun e w' => ∃ Bt Bn, e = .returned (.func (.func 95) #[] #[.pointer (some ⟨Bt, 0, none⟩), .pointer (some ⟨Bn, 0, none⟩)]) ∧ w'.cell? ⟨Bt, 0, none⟩ = some v ∧ w'.cell? ⟨Bn, 0, none⟩ = some (.int .i64 n) ∧ Bt < w'.heap.size ∧ Bn < w'.heap.size ∧ Below w.heap.size w w' := by
  obtain ⟨p, rfl⟩ := hv
  go_enter Tryz.func59, Tryz.ntmps59
  go_wp2
  go_returns
  refine ⟨_, _, rfl, ?_, ?_, ?_, ?_, ?_⟩
  · simp
  · simp
  · simp; omega
  · simp
  · exact ((Below.refl _ _).alloc (Nat.le_refl _) _).alloc (by simp) _
set_option maxRecDepth 100000 in
set_option maxHeartbeats 2000000 in
theorem attrs_none (n : Int) (w : World) :
    Calls Tryz.prog 28 #[.pointer none, .int .i64 n] w fun e w' => e = .returned (.slice none 0 0) ∧ Below w.heap.size w w' := by
  have HS := hide (attrs_seq (.pointer none) n w ⟨_, rfl⟩)
  go_enter Tryz.func28, Tryz.ntmps28
  go_wp2_with fail
  refine (unhide HS).mono ?_
  rintro e w1 ⟨Bt, Bn, rfl, h1, h2, h3, h4, hb1⟩
  have cS := AnyZI.collect_in Tryz.collI Fence.wide 3 trivial trivial rfl (Nat.le_refl _) 95 #[.pointer (some ⟨Bt, 0, none⟩), .pointer (some ⟨Bn, 0, none⟩)] trivial (enters_of Tryz.func95 (by kernel_rfl) rfl) _ 0 (Nat.zero_le _) (by omega) _ (attrs_gives_none Bt Bn n w1 h1 h2 h3 h4 1)
  have cC : Calls Tryz.prog 53 #[.func (.func 95) #[] #[.pointer (some ⟨Bt, 0, none⟩), .pointer (some ⟨Bn, 0, none⟩)]] w1 _ := callsIn_wide.1 cS
  clear cS h1 h2
  go_wp2_with fail
  refine cC.mono ?_
  rintro e w2 ⟨v, ss, rfl, rfl, _, hnil, hb2⟩
  obtain rfl : v = .slice none 0 0 := hnil.2 rfl
  go_wp2
  go_returns
  exact ⟨rfl, Below.then hb1 hb2⟩
end Go.Proofs.YtjjggncbhenffaaGreatDoor
/- The prefixes of a scope in their order: slices.Sorted(maps.Keys(..)). -/
namespace Go.Proofs.YtjjggncbhenffaaGreatDoor
open Go.RowKit Go.Maps Go.Sort Go.Shelf
theorem sortsS (m : Nat) : AnyZ.SortsIn Tryz.prog Tryz.sortedS_ren Fence.wide m :=
  ⟨fun blk off cap ss W hH hblk hsz => callsIn_wide.2 (AnyM.slices_Sort_string Tryz.sortS blk off cap ss W hH hblk hsz),
   fun p cap W => callsIn_wide.2 (AnyM.slices_Sort_string_none Tryz.sortS p cap W)⟩
theorem keys_any (mb : Option Nat) (w : World) :
    Calls Tryz.prog 49 #[.map mb] w fun e w' => e = .returned (.func (.func 88) #[] #[.pointer (some ⟨w.heap.size, 0, none⟩)]) ∧ w' = w.alloc (.cells #[.map mb] 67) :=
  callsIn_wide.1 (AnyZ.keys_in Tryz.keysS Fence.wide 5 trivial rfl mb w)
def keysL (s : Sc) : List (List UInt8) := s.map fun x => tx x.1
theorem sorted_any (B : Nat) (mb : Option Nat) (s : Sc) (w : World) (h : ScV w B (.map mb) s) (hl : s.length ≤ 1048576) :
    Calls Tryz.prog 48 #[.func (.func 88) #[] #[.pointer (some ⟨w.heap.size, 0, none⟩)]] (w.alloc (.cells #[.map mb] 67)) fun e w' => ∃ v ss, e = .returned v ∧ ss.Perm (keysL s) ∧
      w'.ownsRow (w.heap.size + 1) 9 1 v ss.length ((ss.mergeSort (fun x y => decide (x ≤ y))).map encStr) ∧ (v = .slice none 0 0 ↔ ss = []) ∧ Below (w.heap.size + 1) (w.alloc (.cells #[.map mb] 67)) w' := by
  have e1 : (w.alloc (.cells #[.map mb] 67)).heap.size = w.heap.size + 1 := by simp
  rcases h.2 with ⟨h1, rfl⟩ | ⟨b, h1, _, hown⟩
  · cases h1
    have hseq : SeqGives Fence.wide 2 Tryz.prog 88 #[.pointer (some ⟨w.heap.size, 0, none⟩)] encStr (fun ss : List (List UInt8) => ss = []) 0 (w.alloc (.cells #[.map none] 67)) :=
      AnyZ.keys_gives_nil (ρ := Tryz.keysS_ren) { Tryz.keysS with } Fence.wide _ trivial rfl w.heap.size _ (by simp) (by simp)
    have cS := AnyZ.sorted_in Tryz.sortedS Fence.wide 5 trivial trivial trivial trivial rfl (by omega) (sortsS _) (enters_of Tryz.func87 (by kernel_rfl) rfl) 88 #[.pointer (some ⟨w.heap.size, 0, none⟩)] trivial (enters_of Tryz.func88 (by kernel_rfl) rfl) _ 0 (Nat.zero_le _) (by omega) _ hseq
    refine (callsIn_wide.1 cS).mono ?_
    rintro e w' ⟨v, ss, rfl, rfl, hrow, hnil, hb⟩
    rw [e1] at hrow hb
    exact ⟨v, [], rfl, List.Perm.refl _, hrow, hnil, hb⟩
  · cases h1
    have hbl := hown.lt
    have hsz : Maps.size (scD s) = s.length := by show (s.map _).length = _; rw [List.length_map]
    have hky : strKeys (scD s) = keysL s := by
      show (s.map _).map _ = _
      rw [List.map_map]
      rfl
    have hseq : SeqGives Fence.wide 2 Tryz.prog 88 #[.pointer (some ⟨w.heap.size, 0, none⟩)] encStr (fun ss => ss.Perm (strKeys (scD s))) (Maps.size (scD s)) (w.alloc (.cells #[.map (some b)] 67)) :=
      AnyZ.keys_gives (ρ := Tryz.keysS_ren) { Tryz.keysS with } Fence.wide _ trivial rfl (by omega) w.heap.size b s.length (scD s) _ (by simp) (by simp) (by
        obtain ⟨es, clock, hb, Ft, hs, hD⟩ := hown
        exact ⟨es, clock, (Below.heap_alloc _ _ b hbl).trans hb, Ft, hs, hD⟩)
    have cS := AnyZ.sorted_in Tryz.sortedS Fence.wide 5 trivial trivial trivial trivial rfl (by omega) (sortsS _) (enters_of Tryz.func87 (by kernel_rfl) rfl) 88 #[.pointer (some ⟨w.heap.size, 0, none⟩)] trivial (enters_of Tryz.func88 (by kernel_rfl) rfl) _ _ (by rw [hsz]; unfold maxLen; omega) (by rw [hsz]; omega) _ hseq
    refine (callsIn_wide.1 cS).mono ?_
    rintro e w' ⟨v, ss, rfl, hp, hrow, hnil, hb⟩
    rw [e1] at hrow hb
    rw [hky] at hp
    exact ⟨v, ss, rfl, hp, hrow, hnil, hb⟩
end Go.Proofs.YtjjggncbhenffaaGreatDoor
/- A tree that is none: xdm's Scope. -/
namespace Go.Proofs.YtjjggncbhenffaaGreatDoor
open Go.RowKit Go.Maps
theorem scope_nil (n : Int) : (nodeD [] n).scope = [] := by
  unfold nodeD
  split
  · rw [List.getElem?_nil]; rfl
  · rfl
set_option maxRecDepth 100000 in
set_option maxHeartbeats 2000000 in
theorem scope_none (n : Int) (w : World) :
    Calls Tryz.prog 19 #[.pointer none, .int .i64 n] w fun e w' => e = .returned (.slice none 0 0) ∧ Below w.heap.size w w' := by
  have HN := hide (node_ex 0 _ _ n w (TreeV.none w 0))
  rw [scope_nil] at HN
  generalize nodeD [] n = x at *
  have hfd := fld6
  go_enter Tryz.func19, Tryz.ntmps19
  go_wp2_with fail
  refine (unhide HN).mono ?_
  rintro e w1 ⟨⟨m, rfl, hu⟩, hb1⟩
  have HK := hide (keys_any m w1)
  have HS := hide (sorted_any 0 m [] w1 hu (Nat.zero_le _))
  clear hu HN
  go_wp2_with fail
  refine (unhide HK).mono ?_
  rintro e w2 ⟨rfl, rfl⟩
  clear HK
  go_wp2_with fail
  refine (unhide HS).mono ?_
  rintro e w3 ⟨v, ss, rfl, hp, _, hnil, hb3⟩
  have hss : ss = [] := List.perm_nil.1 hp
  obtain rfl : v = .slice none 0 0 := hnil.2 hss
  have hb : Below w.heap.size w w3 := Below.then hb1 (((Below.refl _ _).alloc (Nat.le_refl _) _).trans (hb3.mono (Nat.le_succ _)))
  clear hp hnil hss HS hb1 hb3
  go_wp2_with fail
  go_loopw [6, 17] (fun a i wr => a = .slice none 0 0 ∧ i = .int .i64 0 ∧ wr = w3) (fun _ _ _ => 0)
  case atStart => exact ⟨rfl, rfl, rfl⟩
  case round =>
    obtain ⟨rfl, rfl, rfl⟩ := hrel
    go_wp2
    go_returns
    exact ⟨rfl, hb⟩
end Go.Proofs.YtjjggncbhenffaaGreatDoor
