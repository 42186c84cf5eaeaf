/- Several texts, laid as one. -/
import Derived.Test.YtjjggncbhenffaaGreatDoorGbr
import Derived.Test.YtjjggncbhenffaaGreatDoorGbt
import Derived.Test.YtjjggncbhenffaaGreatDoorGbs
import Derived.Shelf.SlIterI.Nil
import Derived.Shelf.SlIter.Nil
import Derived.Shelf.SortM.Plain
import Derived.Shelf.SortM.SortNone
import Derived.Test.YtjjggncbhenffaaGreatDoorProg
/- The tree of a text: xdm's Parse. -/
namespace Go.Proofs.YtjjggncbhenffaaGreatDoor
open Go.RowKit Go.Maps
theorem doc_ok {cs : List Nat} {ts : List XTok} (hl : okL cs) (hs : (T cs).size ≤ 32768) (h : scanX cs = .ok ts) : DocOk ts := by
  obtain ⟨h1, h2, h3, _⟩ := write_told hl hs h
  exact ⟨h1, h2, fun x hx => (scan_F hl hs h x hx).ok, h3⟩
theorem adds_errs : ∀ {ts : List XTok} {s : BS} {n : Nat}, s.adds ts = .error n → n = 7 ∨ n = 8
  | [], s, n, h => by cases h
  | t :: ts, s, n, h => by
    rw [adds_cons] at h
    split at h
    · rename_i ha
      cases h
      exact add_errs ha
    · exact adds_errs h
theorem tree_errs {ts : List XTok} {n : Nat} (h : treeD ts = .error n) : n = 7 ∨ n = 8 := by
  unfold treeD at h
  split at h
  · rename_i ha
    cases h
    exact adds_errs ha
  · cases h
set_option maxRecDepth 100000 in
set_option maxHeartbeats 4000000 in
theorem parse_T (cs : List Nat) (w : World) (hl : okL cs) (hs : (T cs).size ≤ 32768) (hE : XEnv w.heap.size w) :
    Calls Tryz.prog 14 #[.string (T cs)] w fun e w' => TreeOut w' w.heap.size (parseD cs) e ∧ Below w.heap.size w w' := by
  have HE := hide hE
  have HS := hide (scan_any cs w hl hs hE)
  cases hsc : scanX cs with
  | error x =>
    rw [hsc] at HS
    have her := (scan_er hl hs hsc).1
    have HEQ : Hid (parseD cs = .error x.1) := hide (by unfold parseD; rw [hsc])
    obtain ⟨n, pl⟩ := x
    simp only at her HEQ
    clear hsc hE
    rcases her with rfl | rfl
    all_goals
      go_enter Tryz.func14, Tryz.ntmps14
      go_wp2_with fail
      refine (unhide HS).mono ?_
      rintro e w1 ⟨hp, hb1⟩
      have hp' := hp
      unfold scanP at hp'
      subst hp'
      go_wp2
      go_returns
      rw [unhide HEQ]
      exact ⟨rfl, hb1⟩
  | ok ts =>
    rw [hsc] at HS
    have hdk := doc_ok hl hs hsc
    have HEQ : Hid (parseD cs = treeD ts) := hide (by unfold parseD; rw [hsc])
    have hpos := doc_pos hdk.doc
    have HBU := hide (fun W a cap (hb : Below w.heap.size w W) (hv : ToksArg W a (ts.map XTok.b)) => build_any ts a cap W hdk hv ((unhide HE).at hb))
    have HTA := hide (fun (W : World) (B : Nat) (v : Value) (h : Toks W B v ts) => toks_arg h hpos)
    have hml : (ts.map XTok.b).length = ts.length := List.length_map ..
    clear hsc hE hdk
    go_enter Tryz.func14, Tryz.ntmps14
    go_wp2_with fail
    refine (unhide HS).mono ?_
    rintro e w1 ⟨hp, hb1⟩
    obtain ⟨vt, he, hT⟩ := hp
    subst he
    obtain ⟨a, cap, hvt, hA⟩ := unhide HTA _ _ _ hT
    rw [hml] at hvt
    subst hvt
    have HB2 := hide (unhide HBU w1 a cap hb1 hA)
    clear hT hA HBU HTA HS
    go_wp2_with fail
    refine (unhide HB2).mono ?_
    rintro e w2 ⟨hO, hb2⟩
    have hb02 := Below.then hb1 hb2
    cases htr : treeD ts with
    | error n =>
      rw [htr] at hO
      have hO' : e = .returned (.tuple #[.pointer none, .int .i64 (n : Nat)]) := hO
      subst hO'
      rw [htr] at HEQ
      rcases tree_errs htr with rfl | rfl
      all_goals
        clear hO htr
        go_wp2
        go_returns
        rw [unhide HEQ]
        exact ⟨rfl, hb02⟩
    | ok ns =>
      rw [htr] at hO HEQ
      obtain ⟨q, he, hq⟩ := hO
      subst he
      have HQ : Hid (TreeAt w2 w.heap.size q ns) := hide (by
        obtain ⟨h1, vn, h2, vs, h3, h4, h5⟩ := hq
        have hle := hb1.size
        refine ⟨by omega, vn, h2, vs, h3, ?_, fun i x v hx hv => (h5 i x v hx hv).low hle⟩
        exact owns_lower h4 hle)
      clear hq htr
      go_wp2
      go_returns
      rw [unhide HEQ]
      exact ⟨⟨q, rfl, unhide HQ⟩, hb02⟩
end Go.Proofs.YtjjggncbhenffaaGreatDoor
/- What must be whatever is asked: stencillaw04's live. -/
namespace Go.Proofs.YtjjggncbhenffaaGreatDoor
open Go.RowKit Go.Maps
def liveY : List Nat := [60, 97, 32, 120, 109, 108, 110, 115, 61, 34, 117, 34, 62, 60, 98, 32, 99, 61, 34, 49, 34, 62, 120, 60, 47, 98, 62, 60, 47, 97, 62]
theorem liveY_T : (⟨#[60, 97, 32, 120, 109, 108, 110, 115, 61, 34, 117, 34, 62, 60, 98, 32, 99, 61, 34, 49, 34, 62, 120, 60, 47, 98, 62, 60, 47, 97, 62]⟩ : ByteArray) = T liveY := by
  have : tx liveY = [60, 97, 32, 120, 109, 108, 110, 115, 61, 34, 117, 34, 62, 60, 98, 32, 99, 61, 34, 49, 34, 62, 120, 60, 47, 98, 62, 60, 47, 97, 62] := by decide +kernel
  unfold T
  rw [this]
theorem liveY_ok : okL liveY := by
  unfold okL
  decide +kernel
def liveN : List XNode := match parseD liveY with
  | .ok ns => ns
  | .error _ => []
theorem liveY_parse : parseD liveY = .ok liveN := by kernel_rfl
theorem liveN_len : liveN.length = 5 := by kernel_rfl
theorem liveN_1 : nmV (nodeD liveN 1).name = .agg #[.string ⟨#[117]⟩, .string ⟨#[]⟩, .string ⟨#[97]⟩] := by kernel_rfl
theorem liveN_3k : (nodeD liveN 3).kind = 3 := by kernel_rfl
theorem liveN_3 : nmV (nodeD liveN 3).name = .agg #[.string ⟨#[]⟩, .string ⟨#[]⟩, .string ⟨#[99]⟩] := by kernel_rfl
theorem liveN_s : T (strD liveN 0) = ⟨#[120]⟩ := by kernel_rfl
theorem liveN_4 : (nodeD liveN 4).parent = 2 := by kernel_rfl
theorem parse_ok {cs : List Nat} {ns : List XNode} (hl : okL cs) (hs : (T cs).size ≤ 32768) (h : parseD cs = .ok ns) : TreeOk ns := by
  unfold parseD at h
  split at h
  · cases h
  · rename_i ts hts
    exact (doc_ok hl hs hts).tree h
theorem fldNm0 (a b c : Value) (W : World) : (Instr.field 47 (.agg #[a, b, c]) 0).run Tryz.prog W = .ok a W := by kernel_rfl
set_option maxRecDepth 100000 in
set_option maxHeartbeats 2000000 in
theorem live4_any (w : World) (hE : XEnv w.heap.size w) :
    Calls Tryz.prog 12 #[] w fun e w' => e = .returned (.bool true) ∧ Below w.heap.size w w' := by
  have hz : (T liveY).size ≤ 32768 := by rw [← liveY_T]; decide
  have HS := hide (parse_T liveY w liveY_ok hz hE)
  have HOK := hide (parse_ok liveY_ok hz liveY_parse)
  rw [liveY_parse, ← liveY_T] at HS
  clear hE hz
  have hfd := fldNm0
  go_enter Tryz.func12, Tryz.ntmps12
  go_wp2_with fail
  refine (unhide HS).mono ?_
  rintro e w1 ⟨⟨q, rfl, hT⟩, hb⟩
  have hTV : TreeV w1 w.heap.size (.pointer (some ⟨q, 0, none⟩)) liveN := .inr ⟨q, rfl, hT⟩
  have HL := hide (fun W (hb : Below w1.heap.size w1 W) => len_any _ _ _ W (hTV.on hb))
  have HN := hide (fun n W (hb : Below w1.heap.size w1 W) => trName_any _ _ _ n W (hTV.on hb))
  have HK := hide (fun n W (hb : Below w1.heap.size w1 W) => trKind_any _ _ _ n W (hTV.on hb))
  have HP := hide (fun n W (hb : Below w1.heap.size w1 W) => trParent_any _ _ _ n W (hTV.on hb))
  have HST := hide (fun n W (hb : Below w1.heap.size w1 W) => string_any _ _ _ n W (hTV.on hb) (unhide HOK).fin (unhide HOK).len (unhide HOK).txt)
  clear hT hTV HS
  have h0 := unhide HL w1 (Below.refl _ _)
  rw [liveN_len] at h0
  go_wp2_with fail
  refine h0.mono ?_
  rintro e w2 ⟨rfl, hb2⟩
  clear h0
  have h0 := unhide HN 1 w2 hb2
  rw [liveN_1] at h0
  go_wp2_with fail
  refine h0.mono ?_
  rintro e w3 ⟨rfl, hb3⟩
  clear h0
  have hb3 := Below.then hb2 hb3
  have h0 := unhide HK 3 w3 hb3
  rw [liveN_3k] at h0
  go_wp2_with fail
  refine h0.mono ?_
  rintro e w4 ⟨rfl, hb4⟩
  clear h0
  have hb4 := Below.then hb3 hb4
  have h0 := unhide HN 3 w4 hb4
  rw [liveN_3] at h0
  go_wp2_with fail
  refine h0.mono ?_
  rintro e w5 ⟨rfl, hb5⟩
  clear h0
  have hb5 := Below.then hb4 hb5
  have h0 := unhide HST 0 w5 hb5
  rw [liveN_s] at h0
  go_wp2_with fail
  refine h0.mono ?_
  rintro e w6 ⟨rfl, hb6⟩
  clear h0
  have hb6 := Below.then hb5 hb6
  have h0 := unhide HP 4 w6 hb6
  rw [liveN_4] at h0
  go_wp2_with fail
  refine h0.mono ?_
  rintro e w7 ⟨rfl, hb7⟩
  clear h0
  have hb7 := Below.then hb6 hb7
  go_wp2
  go_returns
  exact ⟨rfl, Below.then hb hb7⟩
end Go.Proofs.YtjjggncbhenffaaGreatDoor
/- A tree that is none: xdm's Nodes and Strip. -/
namespace Go.Proofs.YtjjggncbhenffaaGreatDoor
open Go.RowKit Go.Maps
end Go.Proofs.YtjjggncbhenffaaGreatDoor
/-
  DERIVED: THE SHELF's CONTRACTS AT THIS DUMP, IN PLAIN WORDS (tools/lay-plain.mjs out of 'YtjjggncbhenffaaGreatDoorXdmShTry.lean', which tools/lay-shelf.mjs wrote): THE SAME DECLARATIONS UNDER THE SAME NAMES: 'import', 'namespace', 'open', 'def', 'theorem' AND NOTHING ELSE: no command of the shelf's: FOR A HAND-IN. Each laying: the table of numbers ('.._ren') and one theorem, a field a fact of the dump's own or the kernel's comparison; each contract: ONE APPLICATION.
-/
namespace Go.Proofs
open Go.Shelf
end Go.Proofs
/- A tree that is none: xdm's Kids and Attrs. -/
namespace Go.Proofs.YtjjggncbhenffaaGreatDoor
open Go.RowKit Go.Maps Go.Sort Go.Shelf
end Go.Proofs.YtjjggncbhenffaaGreatDoor
/- The prefixes of a scope in their order: slices.Sorted(maps.Keys(..)). -/
namespace Go.Proofs.YtjjggncbhenffaaGreatDoor
open Go.RowKit Go.Maps Go.Sort Go.Shelf
end Go.Proofs.YtjjggncbhenffaaGreatDoor
/- A tree that is none: xdm's Scope. -/
namespace Go.Proofs.YtjjggncbhenffaaGreatDoor
open Go.RowKit Go.Maps
end Go.Proofs.YtjjggncbhenffaaGreatDoor
