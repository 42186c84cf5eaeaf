/- Several texts, laid as one. -/
import Derived.Test.YtjjggncbhenffaaGreatDoorXdmM
import Derived.Test.YtjjggncbhenffaaGreatDoorGai
import Derived.Maps.Views
import Derived.Maps.Ext
import Derived.Maps.RangeWalk
/- Names and prefixes: xdm's declared, mayDeclare, expand, expandAttribute. -/
namespace Go.Proofs.YtjjggncbhenffaaGreatDoor
open Go.RowKit
theorem okL_cs {l : List Nat} (h : l.all (fun c => decide (32 ≤ c) && decide (c < 128)) = true) : okL l := fun c hc => by
  have := List.all_eq_true.1 h c hc
  simp at this
  simp [charR]
  omega
theorem xmlns_ok : okL xmlnsL := okL_cs (by decide)
theorem xml_ok : okL xmlL := okL_cs (by decide)
theorem uri_ok : okL xmlUriL := okL_cs (by decide)
theorem okL_e : okL [] := fun _ h => by cases h
theorem is_xmlns {n : List Nat} (h : okL n) : ((T n).toList == [120, 109, 108, 110, 115]) = (n == xmlnsL) := by
  rw [← eq_T h xmlns_ok]
  rfl
theorem is_xml {n : List Nat} (h : okL n) : ((T n).toList == [120, 109, 108]) = (n == xmlL) := by
  rw [← eq_T h xml_ok]
  rfl
theorem is_uri {n : List Nat} (h : okL n) : ((T n).toList == [104, 116, 116, 112, 58, 47, 47, 119, 119, 119, 46, 119, 51, 46, 111, 114, 103, 47, 88, 77, 76, 47, 49, 57, 57, 56, 47, 110, 97, 109, 101, 115, 112, 97, 99, 101]) = (n == xmlUriL) := by
  rw [← eq_T h uri_ok]
  rfl
theorem is_empty {n : List Nat} (h : okL n) : (T n).toList.isEmpty = (n == []) := by
  by_cases hn : n = []
  · subst hn; rw [T_toList]; rfl
  · rw [ne_T h hn]
    simp [hn]
def declV (n : List Nat) : Value := match declD n with
  | some p => .tuple #[.string (T p), .bool true]
  | none => .tuple #[.string (T n), .bool false]
theorem cut_xmlns {n : List Nat} (h : okL n) : (xmlnsL ++ [58]).isPrefixOf n = true → Lib.trimPrefix (tx n) [120, 109, 108, 110, 115, 58] = tx (n.drop 6) := by
  intro hp
  obtain ⟨r, rfl⟩ := List.isPrefixOf_iff_prefix.1 hp
  have e1 : tx (xmlnsL ++ [58]) = [120, 109, 108, 110, 115, 58] := by decide +kernel
  have hpp : Lib.hasPrefix (tx (xmlnsL ++ [58] ++ r)) [120, 109, 108, 110, 115, 58] = true := by
    rw [show ([120, 109, 108, 110, 115, 58] : List UInt8) = (xmlnsL ++ [58]).map UInt8.ofNat from rfl, pre_tx _ _ (by decide) h]
    exact hp
  unfold Lib.trimPrefix
  rw [hpp, if_pos rfl, tx_append, e1]
  rfl
theorem trim_not {n : List Nat} (h : okL n) : (xmlnsL ++ [58]).isPrefixOf n = false → Lib.trimPrefix (tx n) [120, 109, 108, 110, 115, 58] = tx n := by
  intro hp
  have hpp : Lib.hasPrefix (tx n) [120, 109, 108, 110, 115, 58] = false := by
    rw [show ([120, 109, 108, 110, 115, 58] : List UInt8) = (xmlnsL ++ [58]).map UInt8.ofNat from rfl, pre_tx _ _ (by decide) h]
    exact hp
  unfold Lib.trimPrefix
  rw [hpp]
  rfl
theorem cut_decl (n : List Nat) (h : okL n) (hn : n ≠ xmlnsL) (w : World) :
    Calls Tryz.prog 113 #[.string (T n), .string ⟨#[120, 109, 108, 110, 115, 58]⟩] w fun e w' => e = .returned (declV n) ∧ w' = w := by
  refine (Tryz.strings_CutPrefix (T n) ⟨#[120, 109, 108, 110, 115, 58]⟩ w).mono ?_
  rintro e w' ⟨rfl, rfl⟩
  refine ⟨?_, rfl⟩
  rw [T_data, show (⟨#[120, 109, 108, 110, 115, 58]⟩ : ByteArray).data.toList = [120, 109, 108, 110, 115, 58] from rfl]
  unfold declV declD
  rw [if_neg hn]
  have hpre : Lib.hasPrefix (tx n) [120, 109, 108, 110, 115, 58] = (xmlnsL ++ [58]).isPrefixOf n := by
    rw [show ([120, 109, 108, 110, 115, 58] : List UInt8) = (xmlnsL ++ [58]).map UInt8.ofNat from rfl, pre_tx _ _ (by decide) h]
  rw [hpre]
  cases hp : (xmlnsL ++ [58]).isPrefixOf n
  · rw [trim_not h hp]
    rfl
  · rw [cut_xmlns h hp]
    rfl
set_option maxHeartbeats 2000000 in
theorem declared_any (n : List Nat) (w : World) (h : okL n) :
    Calls Tryz.prog 142 #[.string (T n)] w fun e w' => e = .returned (declV n) ∧ w' = w := by
  by_cases hn : n = xmlnsL
  · have h1 : ((T n).toList == [120, 109, 108, 110, 115]) = true := by rw [is_xmlns h]; simp [hn]
    have HV : Hid (declV n = .tuple #[.string ⟨#[]⟩, .bool true]) := hide (by rw [hn]; rfl)
    rw [unhide HV]
    clear hn HV
    go_enter Tryz.func142, Tryz.ntmps142
    go_wp2
    go_returns
    exact ⟨rfl, rfl⟩
  · have h1 : ((T n).toList == [120, 109, 108, 110, 115]) = false := by rw [is_xmlns h]; simp [hn]
    have HC := hide (fun W => cut_decl n h hn W)
    obtain ⟨a, b, hv⟩ : ∃ a b, declV n = .tuple #[.string a, .bool b] := by
      unfold declV
      split <;> exact ⟨_, _, rfl⟩
    rw [hv] at HC ⊢
    clear hn hv
    go_enter Tryz.func142, Tryz.ntmps142
    go_wp2_with fail
    refine (unhide HC _).mono ?_
    rintro e w1 ⟨rfl, rfl⟩
    go_wp2
    go_returns
    exact ⟨rfl, rfl⟩
set_option maxHeartbeats 2000000 in
theorem mayDeclare_any (p u : List Nat) (w : World) (hp : okL p) (hu : okL u) :
    Calls Tryz.prog 143 #[.string (T p), .string (T u)] w fun e w' => e = .returned (.bool (mayD p u)) ∧ w' = w := by
  have h1 := is_xmlns hp
  have h2 := is_xml hp
  have h3 := is_empty hp
  have h4 := is_uri hu
  have h5 := is_empty hu
  obtain ⟨b1, e1⟩ : ∃ b, (p == xmlnsL) = b := ⟨_, rfl⟩
  obtain ⟨b2, e2⟩ : ∃ b, (p == xmlL) = b := ⟨_, rfl⟩
  obtain ⟨b3, e3⟩ : ∃ b, (p == []) = b := ⟨_, rfl⟩
  obtain ⟨b4, e4⟩ : ∃ b, (u == xmlUriL) = b := ⟨_, rfl⟩
  obtain ⟨b5, e5⟩ : ∃ b, (u == []) = b := ⟨_, rfl⟩
  have HM : Hid (mayD p u = if b1 = true then false else if b2 = true then b4 else if b3 = true then !b4 else !b5 && !b4) := hide (by
    unfold mayD
    rw [← e1, ← e2, ← e3, ← e4, ← e5]
    simp only [beq_iff_eq])
  rw [e1] at h1
  rw [e2] at h2
  rw [e3] at h3
  rw [e4] at h4
  rw [e5] at h5
  clear e1 e2 e3 e4 e5
  rw [unhide HM]
  clear HM
  cases b1 <;> cases b2 <;> cases b3 <;> cases b4 <;> cases b5
  all_goals
    go_enter Tryz.func143, Tryz.ntmps143
    go_wp2
    go_returns
    exact ⟨rfl, rfl⟩
end Go.Proofs.YtjjggncbhenffaaGreatDoor
/- Names, expanded: xdm's expand, expandAttribute. -/
namespace Go.Proofs.YtjjggncbhenffaaGreatDoor
open Go.RowKit
theorem key_same {a b : List Nat} (ha : okL a) (hb : okL b) : (Lit.string (tx a)).sameKey (.string (tx b)) = (a == b) := by
  show (tx a == tx b) = _
  rw [Bool.eq_iff_iff, beq_iff_eq, beq_iff_eq]
  exact ⟨tx_inj ha hb, fun e => by rw [e]⟩
theorem scD_find : ∀ (s : Sc) (p : List Nat), (∀ x ∈ s, okL x.1) → okL p → (s.map fun x => ((.string (tx x.1) : Lit), (.agg [.lit (.string (tx x.2))] : DataW Unit))).find? (fun q => q.1.sameKey (.string (tx p))) = (s.find? fun y => y.1 == p).map fun x => ((.string (tx x.1) : Lit), (.agg [.lit (.string (tx x.2))] : DataW Unit))
  | [], p, _, _ => rfl
  | x :: s, p, h, hp => by
    have ih := scD_find s p (fun y hy => h y (List.mem_cons_of_mem _ hy)) hp
    rw [List.map_cons, List.find?_cons, List.find?_cons, key_same (h x (List.mem_cons_self ..)) hp, ih]
    cases x.1 == p <;> rfl
theorem scD_has (s : Sc) (p : List Nat) (h : ∀ x ∈ s, okL x.1) (hp : okL p) : Maps.has (scD s) (.string (tx p)) = (lookS s p).isSome := by
  unfold scD lookS
  rw [Maps.has_eq, Bool.eq_iff_iff, List.any_eq_true, ← List.find?_isSome, scD_find s p h hp]
  cases s.find? fun y => y.1 == p <;> simp
theorem scD_at (s : Sc) (p : List Nat) (h : ∀ x ∈ s, okL x.1) (hp : okL p) : (scD s).atKey (.string (tx p)) (.agg [.lit (.string [])]) = .agg [.lit (.string (tx ((lookS s p).getD [])))] := by
  unfold scD lookS DataW.atKey
  simp only
  rw [scD_find s p h hp]
  cases s.find? fun y => y.1 == p <;> rfl
/-- A look-up among prefixes. -/
theorem ScV.look {w : World} {B : Nat} {v : Value} {s : Sc} (h : ScV w B v s) {p : List Nat} (hp : okL p) (hz : (T p).size ≤ 1048576) :
    (Instr.lookup 67 v (.string (T p)) true).run Tryz.prog w = .ok (.tuple #[.agg #[.string (T ((lookS s p).getD []))], .bool (lookS s p).isSome]) w := by
  have hz0 : (zeroValue 95).run Tryz.prog w = .ok (.agg #[.string ⟨#[]⟩]) w := by kernel_rfl
  have hk := Go.WideMaps.keyOf_string_mk Tryz.underlying9 (by unfold maxLen; omega : (T p).size ≤ maxLen)
  rcases h.2 with ⟨rfl, rfl⟩ | ⟨b, rfl, _, hown⟩
  · rw [Maps.look_nil true (Maps.string_keyed Tryz.underlying9) Tryz.underlying67 hz0 hk]
    rfl
  · obtain ⟨u, ps, hrun, hu⟩ := hown.look_ok (Maps.string_keyed Tryz.underlying9) Tryz.underlying67 hz0 (zd := .agg [.lit (.string [])]) (zp := []) rfl hk
    rw [T_data] at hrun hu
    rw [scD_has s p (fun x hx => (h.1 x hx).1.1) hp] at hrun
    rw [scD_at s p (fun x hx => (h.1 x hx).1.1) hp] at hu
    rw [hrun, entElem_inv hu]
    rfl
theorem splitV_T {q : List Nat} (h : okL q) (hq : isQ q = true) : splitV (T q).data.toList = .tuple #[.string (T (splitQ q).1), .string (T (splitQ q).2), .bool true] := by
  have hb : splitB (T q).data.toList = true := by rw [splitB_T h]; exact hq
  unfold splitV
  rw [if_pos hb]
  have hc := cut_tx (q := 58) (by decide) h
  rw [show UInt8.ofNat 58 = 58 from rfl] at hc
  unfold splitP splitN splitQ
  rw [T_data, hc]
  cases hm : q.contains 58
  · rfl
  · rfl
theorem splitQ_ok {q : List Nat} (h : okL q) : okL (splitQ q).1 ∧ okL (splitQ q).2 := by
  unfold splitQ
  split
  · exact ⟨okL_pre h (List.takeWhile_prefix _), fun c hx => h c ((List.dropWhile_sublist _).subset (List.mem_of_mem_tail hx))⟩
  · exact ⟨okL_e, h⟩
theorem splitQ_size {q : List Nat} : (T (splitQ q).1).size ≤ (T q).size := by
  unfold splitQ
  split
  · exact size_pre (List.takeWhile_prefix _)
  · exact Nat.zero_le _
def nmV (n : Nm) : Value := .agg #[.string (T n.uri), .string (T n.pre), .string (T n.loc)]
def expV (o : Option Nm) : Value := match o with
  | some n => .tuple #[nmV n, .bool true]
  | none => .tuple #[nmV nm0, .bool false]
theorem T_uri : T xmlUriL = ⟨#[104, 116, 116, 112, 58, 47, 47, 119, 119, 119, 46, 119, 51, 46, 111, 114, 103, 47, 88, 77, 76, 47, 49, 57, 57, 56, 47, 110, 97, 109, 101, 115, 112, 97, 99, 101]⟩ := by decide +kernel
set_option maxRecDepth 100000 in
set_option maxHeartbeats 4000000 in
theorem expand_any (B : Nat) (v : Value) (s : Sc) (q : List Nat) (w : World) (hv : ScV w B v s) (hq : okL q) (hQ : isQ q = true) (hz : (T q).size ≤ 1048576) (hE : Env w) :
    Calls Tryz.prog 104 #[v, .string (T q)] w fun e w' => e = .returned (expV (expandD s q)) ∧ Below w.heap.size w w' := by
  have HS := hide (fun W (hb : Below w.heap.size w W) => split_any (T q) W (by omega) (hE.below hb))
  rw [splitV_T hq hQ] at HS
  obtain ⟨ho1, ho2⟩ := splitQ_ok hq
  have hsz : (T (splitQ q).1).size ≤ 1048576 := Nat.le_trans splitQ_size hz
  have HX : Hid (expandD s q = if (splitQ q).1 = xmlL then some ⟨xmlUriL, (splitQ q).1, (splitQ q).2⟩ else match lookS s (splitQ q).1 with
    | some u => some ⟨u, (splitQ q).1, (splitQ q).2⟩
    | none => if (splitQ q).1 = [] then some ⟨[], [], (splitQ q).2⟩ else none) := hide rfl
  have hx := is_xml ho1
  have he := is_empty ho1
  have HLK := hide (fun W (hb : Below w.heap.size w W) => (hv.on hb).look ho1 hsz)
  obtain ⟨m, rfl⟩ := hv.one
  clear hE hv
  generalize (splitQ q).1 = p at *
  generalize (splitQ q).2 = l at *
  by_cases hpx : p = xmlL
  · have h1 : (p == xmlL) = true := by simp [hpx]
    rw [h1] at hx
    rw [unhide HX, if_pos hpx]
    clear HX HLK he
    show Calls _ _ _ w fun e w' => e = .returned (.tuple #[.agg #[.string (T xmlUriL), .string (T p), .string (T l)], .bool true]) ∧ Below w.heap.size w w'
    rw [T_uri]
    clear hpx h1
    go_enter Tryz.func104, Tryz.ntmps104
    go_wp2_with fail
    refine (unhide HS _ ((Below.refl _ _).alloc (Nat.le_refl _) _)).mono ?_
    rintro e w1 ⟨rfl, hb1⟩
    have hbx := block_below (alloc_new _ _) hb1
    have hb01 := Below.then ((Below.refl _ _).alloc (Nat.le_refl _) _) hb1
    have hsz1 : w.heap.size < w1.heap.size := (Array.getElem?_eq_some_iff.1 hbx).1
    have r0 : w1.cell? ⟨w.heap.size, 0, none⟩ = some (.string ⟨#[]⟩) := blk_cell hbx 0
    have r1 : w1.cell? ⟨w.heap.size, 1, none⟩ = some (.string ⟨#[]⟩) := blk_cell hbx 1
    have r2 : w1.cell? ⟨w.heap.size, 2, none⟩ = some (.string ⟨#[]⟩) := blk_cell hbx 2
    have t0 := blk_open hbx 0
    have t1 := blk_open hbx 1
    have t2 := blk_open hbx 2
    clear hb1 hbx
    go_wp2_with fail
    refine bodyPost_ret (v := .tuple #[.agg #[.string ⟨#[104, 116, 116, 112, 58, 47, 47, 119, 119, 119, 46, 119, 51, 46, 111, 114, 103, 47, 88, 77, 76, 47, 49, 57, 57, 56, 47, 110, 97, 109, 101, 115, 112, 97, 99, 101]⟩, .string (T p), .string (T l)], .bool true]) (by simp [results, Tryz.results104, go_sem, r0, r1, r2]) rfl ?_
    exact ⟨rfl, ((hb01.setCell (Nat.le_refl _) _).setCell (Nat.le_refl _) _).setCell (Nat.le_refl _) _⟩
  · have h1 : (p == xmlL) = false := by simp [hpx]
    rw [h1] at hx
    rw [unhide HX, if_neg hpx]
    clear HX hpx h1
    cases hls : lookS s p with
    | some u =>
      rw [hls] at HLK
      clear hls
      show Calls _ _ _ w fun e w' => e = .returned (.tuple #[.agg #[.string (T u), .string (T p), .string (T l)], .bool true]) ∧ Below w.heap.size w w'
      go_enter Tryz.func104, Tryz.ntmps104
      go_wp2_with fail
      refine (unhide HS _ ((Below.refl _ _).alloc (Nat.le_refl _) _)).mono ?_
      rintro e w1 ⟨rfl, hb1⟩
      have hbx := block_below (alloc_new _ _) hb1
      have hb01 := Below.then ((Below.refl _ _).alloc (Nat.le_refl _) _) hb1
      have hsz1 : w.heap.size < w1.heap.size := (Array.getElem?_eq_some_iff.1 hbx).1
      have r0 : w1.cell? ⟨w.heap.size, 0, none⟩ = some (.string ⟨#[]⟩) := blk_cell hbx 0
      have r1 : w1.cell? ⟨w.heap.size, 1, none⟩ = some (.string ⟨#[]⟩) := blk_cell hbx 1
      have r2 : w1.cell? ⟨w.heap.size, 2, none⟩ = some (.string ⟨#[]⟩) := blk_cell hbx 2
      have t0 := blk_open hbx 0
      have t1 := blk_open hbx 1
      have t2 := blk_open hbx 2
      clear hb1 hbx
      have hlk : _ = Result.ok (Value.tuple #[.agg #[.string (T u)], .bool true]) w1 := unhide HLK w1 hb01
      go_wp2_with fail
      refine bodyPost_ret (v := .tuple #[.agg #[.string (T u), .string (T p), .string (T l)], .bool true]) (by simp [results, Tryz.results104, go_sem, r0, r1, r2, hsz1]) rfl ?_
      exact ⟨rfl, (((hb01.setCell (Nat.le_refl _) _).setCell (Nat.le_refl _) _).setCell (Nat.le_refl _) _).alloc (by simp; omega) _⟩
    | none =>
      rw [hls] at HLK
      clear hls
      by_cases hp0 : p = []
      · have h2 : (p == []) = true := by simp [hp0]
        rw [h2] at he
        have HT : Hid (T p = ⟨#[]⟩) := hide (by rw [hp0]; rfl)
        simp only [if_pos hp0]
        show Calls _ _ _ w fun e w' => e = .returned (.tuple #[.agg #[.string ⟨#[]⟩, .string ⟨#[]⟩, .string (T l)], .bool true]) ∧ Below w.heap.size w w'
        rw [← unhide HT]
        clear h2 hp0
        go_enter Tryz.func104, Tryz.ntmps104
        go_wp2_with fail
        refine (unhide HS _ ((Below.refl _ _).alloc (Nat.le_refl _) _)).mono ?_
        rintro e w1 ⟨rfl, hb1⟩
        have hbx := block_below (alloc_new _ _) hb1
        have hb01 := Below.then ((Below.refl _ _).alloc (Nat.le_refl _) _) hb1
        have hsz1 : w.heap.size < w1.heap.size := (Array.getElem?_eq_some_iff.1 hbx).1
        have r0 : w1.cell? ⟨w.heap.size, 0, none⟩ = some (.string ⟨#[]⟩) := blk_cell hbx 0
        have r1 : w1.cell? ⟨w.heap.size, 1, none⟩ = some (.string ⟨#[]⟩) := blk_cell hbx 1
        have r2 : w1.cell? ⟨w.heap.size, 2, none⟩ = some (.string ⟨#[]⟩) := blk_cell hbx 2
        have t0 := blk_open hbx 0
        have t1 := blk_open hbx 1
        have t2 := blk_open hbx 2
        clear hb1 hbx
        have hlk : _ = Result.ok (Value.tuple #[.agg #[.string ⟨#[]⟩], .bool false]) w1 := unhide HLK w1 hb01
        rw [← unhide HT] at hlk
        go_wp2_with fail
        refine bodyPost_ret (v := .tuple #[.agg #[.string (T p), .string (T p), .string (T l)], .bool true]) (by simp [results, Tryz.results104, go_sem, r0, r1, r2, hsz1]) rfl ?_
        exact ⟨rfl, (((hb01.setCell (Nat.le_refl _) _).setCell (Nat.le_refl _) _).setCell (Nat.le_refl _) _).alloc (by simp; omega) _⟩
      · have h2 : (p == []) = false := by simp [hp0]
        rw [h2] at he
        simp only [if_neg hp0]
        show Calls _ _ _ w fun e w' => e = .returned (.tuple #[.agg #[.string ⟨#[]⟩, .string ⟨#[]⟩, .string ⟨#[]⟩], .bool false]) ∧ Below w.heap.size w w'
        clear h2 hp0
        go_enter Tryz.func104, Tryz.ntmps104
        go_wp2_with fail
        refine (unhide HS _ ((Below.refl _ _).alloc (Nat.le_refl _) _)).mono ?_
        rintro e w1 ⟨rfl, hb1⟩
        have hbx := block_below (alloc_new _ _) hb1
        have hb01 := Below.then ((Below.refl _ _).alloc (Nat.le_refl _) _) hb1
        have hsz1 : w.heap.size < w1.heap.size := (Array.getElem?_eq_some_iff.1 hbx).1
        have r0 : w1.cell? ⟨w.heap.size, 0, none⟩ = some (.string ⟨#[]⟩) := blk_cell hbx 0
        have r1 : w1.cell? ⟨w.heap.size, 1, none⟩ = some (.string ⟨#[]⟩) := blk_cell hbx 1
        have r2 : w1.cell? ⟨w.heap.size, 2, none⟩ = some (.string ⟨#[]⟩) := blk_cell hbx 2
        have t0 := blk_open hbx 0
        have t1 := blk_open hbx 1
        have t2 := blk_open hbx 2
        clear hb1 hbx
        have hlk : _ = Result.ok (Value.tuple #[.agg #[.string ⟨#[]⟩], .bool false]) w1 := unhide HLK w1 hb01
        go_wp2_with fail
        refine bodyPost_ret (v := .tuple #[.agg #[.string ⟨#[]⟩, .string ⟨#[]⟩, .string ⟨#[]⟩], .bool false]) (by simp [results, Tryz.results104, go_sem, r0, r1, r2, hsz1]) rfl ?_
        exact ⟨rfl, (((hb01.setCell (Nat.le_refl _) _).setCell (Nat.le_refl _) _).setCell (Nat.le_refl _) _).alloc (by simp; omega) _⟩
end Go.Proofs.YtjjggncbhenffaaGreatDoor
/- An attribute's name, expanded: xdm's expandAttribute. -/
namespace Go.Proofs.YtjjggncbhenffaaGreatDoor
open Go.RowKit
theorem expV_cases (o : Option Nm) : ∃ a b c d, expV o = .tuple #[.agg #[.string a, .string b, .string c], .bool d] := by
  cases o with
  | none => exact ⟨_, _, _, _, rfl⟩
  | some n => exact ⟨_, _, _, _, rfl⟩
set_option maxRecDepth 100000 in
set_option maxHeartbeats 4000000 in
theorem expandA_any (B : Nat) (v : Value) (s : Sc) (q : List Nat) (w : World) (hv : ScV w B v s) (hq : okL q) (hQ : isQ q = true) (hz : (T q).size ≤ 1048576) (hE : Env w) :
    Calls Tryz.prog 147 #[v, .string (T q)] w fun e w' => e = .returned (expV (expandA s q)) ∧ Below w.heap.size w w' := by
  have HN : Hid (∀ W, Below w.heap.size w W → Calls Tryz.prog 182 #[.string (T q)] W fun e w' => e = .returned (.bool (isNm q)) ∧ Below W.heap.size W w') := hide (fun W hb => by
    rw [← nameB_T hq]
    exact isName_any (T q) W (by unfold maxLen; omega) (hE.below hb))
  have HX := hide (fun W (hb : Below w.heap.size w W) => expand_any B v s q W (hv.on hb) hq hQ hz (hE.below hb))
  have HA : Hid (expandA s q = if isNm q = true then some ⟨[], [], q⟩ else expandD s q) := hide rfl
  obtain ⟨m, rfl⟩ := hv.one
  clear hv hE
  by_cases hn : isNm q = true
  · rw [hn] at HN
    rw [unhide HA, if_pos hn]
    show Calls _ _ _ w fun e w' => e = .returned (.tuple #[.agg #[.string ⟨#[]⟩, .string ⟨#[]⟩, .string (T q)], .bool true]) ∧ Below w.heap.size w w'
    clear HX HA hn
    go_enter Tryz.func147, Tryz.ntmps147
    go_wp2_with fail
    refine (unhide HN _ ((Below.refl _ _).alloc (Nat.le_refl _) _)).mono ?_
    rintro e w1 ⟨rfl, hb1⟩
    have hbx := block_below (alloc_new _ _) hb1
    have hb01 := Below.then ((Below.refl _ _).alloc (Nat.le_refl _) _) hb1
    have hsz1 : w.heap.size < w1.heap.size := (Array.getElem?_eq_some_iff.1 hbx).1
    have r0 : w1.cell? ⟨w.heap.size, 0, none⟩ = some (.string ⟨#[]⟩) := blk_cell hbx 0
    have r1 : w1.cell? ⟨w.heap.size, 1, none⟩ = some (.string ⟨#[]⟩) := blk_cell hbx 1
    have r2 : w1.cell? ⟨w.heap.size, 2, none⟩ = some (.string ⟨#[]⟩) := blk_cell hbx 2
    have t0 := blk_open hbx 0
    have t1 := blk_open hbx 1
    have t2 := blk_open hbx 2
    clear hb1 hbx
    go_wp2_with fail
    refine bodyPost_ret (v := .tuple #[.agg #[.string ⟨#[]⟩, .string ⟨#[]⟩, .string (T q)], .bool true]) (by simp [results, Tryz.results147, go_sem, r0, r1, r2]) rfl ?_
    exact ⟨rfl, ((hb01.setCell (Nat.le_refl _) _).setCell (Nat.le_refl _) _).setCell (Nat.le_refl _) _⟩
  · have hn' : isNm q = false := by simpa using hn
    rw [hn'] at HN
    rw [unhide HA, if_neg hn]
    obtain ⟨a, b, c, d, he⟩ := expV_cases (expandD s q)
    rw [he] at HX ⊢
    clear HA hn hn' he
    go_enter Tryz.func147, Tryz.ntmps147
    go_wp2_with fail
    refine (unhide HN _ ((Below.refl _ _).alloc (Nat.le_refl _) _)).mono ?_
    rintro e w1 ⟨rfl, hb1⟩
    have hbx := block_below (alloc_new _ _) hb1
    have hb01 := Below.then ((Below.refl _ _).alloc (Nat.le_refl _) _) hb1
    have HBX := hide hbx
    clear hb1 hbx
    go_wp2_with fail
    refine (unhide HX _ hb01).mono ?_
    rintro e w2 ⟨rfl, hb2⟩
    have hbx := block_below (unhide HBX) hb2
    have hb02 := Below.then hb01 hb2
    have hsz1 : w.heap.size < w2.heap.size := (Array.getElem?_eq_some_iff.1 hbx).1
    have r0 : w2.cell? ⟨w.heap.size, 0, none⟩ = some (.string ⟨#[]⟩) := blk_cell hbx 0
    have r1 : w2.cell? ⟨w.heap.size, 1, none⟩ = some (.string ⟨#[]⟩) := blk_cell hbx 1
    have r2 : w2.cell? ⟨w.heap.size, 2, none⟩ = some (.string ⟨#[]⟩) := blk_cell hbx 2
    have t0 := blk_open hbx 0
    have t1 := blk_open hbx 1
    have t2 := blk_open hbx 2
    clear hb2 hbx
    go_wp2_with fail
    refine bodyPost_ret (v := .tuple #[.agg #[.string a, .string b, .string c], .bool d]) (by simp [results, Tryz.results147, go_sem, r0, r1, r2]) rfl ?_
    exact ⟨rfl, ((hb02.setCell (Nat.le_refl _) _).setCell (Nat.le_refl _) _).setCell (Nat.le_refl _) _⟩
end Go.Proofs.YtjjggncbhenffaaGreatDoor
/- What prefixes stand for, copied and changed: maps.Copy, xdm's copied, declare. -/
namespace Go.Proofs.YtjjggncbhenffaaGreatDoor
open Go.RowKit Go.Maps
theorem strKeyed : Maps.Keyed Tryz.prog 9 := Maps.string_keyed Tryz.underlying9
theorem strInv {P : Program} {k : TypeId} (hk : P.underlying k = some .string) {key : Value} {kl : Lit} (h : keyOf P k key = some kl) : ∃ s : ByteArray, key = .string s ∧ s.size ≤ maxLen ∧ kl = .string s.data.toList := by
  have e : keyOf P k key = mapKey P k key := by simp [keyOf, hk]
  rw [e] at h
  cases key with
  | string s =>
    simp [mapKey, hk] at h
    exact ⟨s, rfl, h.1, h.2.symm⟩
  | _ => simp [mapKey, hk] at h
theorem str_inv {key : Value} {kl : Lit} (h : keyOf Tryz.prog 9 key = some kl) : ∃ s : ByteArray, key = .string s ∧ s.size ≤ maxLen ∧ kl = .string s.data.toList := strInv Tryz.underlying9 h
theorem ent_inv {v : Value} {y : DataW Unit × List MemPlace} (h : entElem v = some y) : ∃ c : ByteArray, v = .agg #[.string c] ∧ y = (.agg [.lit (.string c.data.toList)], []) := by
  unfold entElem at h
  split at h
  · rename_i a
    unfold entCells at h
    split at h
    · rename_i s hs
      cases h
      exact ⟨s, by rw [show a = #[.string s] from Array.toList_inj.1 hs], rfl⟩
    · cases h
  · cases h
set_option maxRecDepth 100000 in
set_option maxHeartbeats 4000000 in
theorem copy_any (b n d : Nat) (D0 : DataW Unit) (w : World) (hown : w.ownsMap Tryz.prog 9 entElem b n D0) (hd : w.ownsMap Tryz.prog 9 entElem d 0 (.map [])) (hne : b ≠ d) (hmax : Maps.size D0 ≤ maxLen) :
    Calls Tryz.prog 184 #[.map (some d), .map (some b)] w fun e w' => e = .returned (.tuple #[]) ∧ w'.ownsMap Tryz.prog 9 entElem d (Maps.size D0) D0 ∧ Kp (· = d) w w' := by
  have hbl := hown.lt
  have hdl := hd.lt
  go_enter Tryz.func184, Tryz.ntmps184
  go_wp2_with (first
    | (at_range; refine wpList_range_own _ rfl _ 67 rfl 9 95 strKeyed Tryz.underlying67 _ b n _ rfl hown ?_; intro w0 hrg0 hg0 hs0)
    | go_in)
  go_frame
  go_loopw [4, 5] (fun _ _ wr => ∃ (left : Lit → Bool) (cnt : Nat) (Dout : DataW Unit), wr.ranges Tryz.prog 9 entElem b w.heap.size n D0 left cnt ∧ cnt ≤ Maps.size D0 ∧
      wr.ownsMap Tryz.prog 9 entElem d (Maps.size D0 - cnt) Dout ∧ Agree Dout D0 left ∧ Kp (· = d) w wr)
    (fun _ _ wr => wr.rangeLeft b w.heap.size)
  case atStart =>
    exact ⟨_, _, .map [], hrg0, Nat.le_refl _, (hd.kept hg0 (by simp)).mono (Nat.zero_le _), agree_start D0, ⟨hg0.os, hg0.tape, hg0.output, hg0.size, fun k hk _ => hg0.block k hk (by simp)⟩⟩
  case round =>
    obtain ⟨left, cnt, Dout, hrg, hcs, hout, hA, hkp⟩ := hrel
    have hsz := hkp.size
    go_wp2_with (first
      | (at_next; refine wpList_next_ranges _ rfl _ rfl 9 strKeyed entElem Value.string (fun c : ByteArray => Value.agg #[.string c]) (fun key kl hkey => by obtain ⟨x, rfl, _⟩ := str_inv hkey; exact ⟨x, rfl⟩) (fun v y hv => by obtain ⟨c, rfl, _⟩ := ent_inv hv; exact ⟨c, rfl⟩) b w.heap.size n _ _ _ rfl hrg ?_ ?_)
      | go_in)
    · intro hc0 hl0
      go_wp2
      go_returns
      subst hc0
      have e := agree_end hA hl0 (hout.canon strKeyed) (hown.canon strKeyed)
      subst e
      exact ⟨rfl, by simpa using hout, hkp⟩
    · intro x c kl ya yb w1 cnt1 hkey hlx hy hat hrg1 hlt hg1 hs1 hen
      obtain ⟨_, e1, hxs, rfl⟩ := str_inv hkey
      cases e1
      obtain ⟨_, e2, e3⟩ := ent_inv hy
      cases e2
      cases e3
      have hout1 := (hout.kept hg1 (by simp; omega)).alloc (.cells #[.string c] 95)
      have hrg1a := hrg1.alloc (.cells #[.string c] 95)
      have HRG := hide hrg1a
      have HA := hide hA
      have HAT := hide hat
      have HK := hide hkp
      have hkl : keyOf Tryz.prog 9 (.string x) = some (.string x.data.toList) := hkey
      clear hrg1 hrg1a hA hat hkp hown hd hg0 hrg0 hkey hlx hy hout
      go_wp2_with (first
        | (at_mapUpdate; refine wpList_mapUpdate_own _ rfl _ _ _ 67 rfl 9 95 strKeyed Tryz.underlying67 entElem d _ _ rfl hout1 (by omega) _ _ _ rfl rfl hkl _ [] rfl ?_; intro w2 hout2 hg2; go_frame)
        | go_in)
      have hrg2 := (unhide HRG).kept hg2 (fun e => hne (Option.some.inj e)) (fun e => by have := Option.some.inj e; omega)
      have hk1 := ((unhide HK).grown hg1 (fun j e hj => by have := Option.some.inj e; omega)).grown (World.grownBy_alloc w1 (.cells #[.string c] 95) none) (fun j e _ => by cases e)
      have hk2 := hk1.grown hg2 (fun j e _ => (Option.some.inj e).symm)
      refine ⟨⟨_, cnt1, _, hrg2, by omega, hout2.mono (by omega), agree_step (unhide HA) hout1.isMap trivial (unhide HAT), hk2⟩, ?_⟩
      rw [hrg2.left_eq, hrg.left_eq]
      exact hlt
set_option maxRecDepth 100000 in
set_option maxHeartbeats 4000000 in
theorem copy_nil (d : Nat) (w : World) (hd : w.ownsMap Tryz.prog 9 entElem d 0 (.map [])) :
    Calls Tryz.prog 184 #[.map (some d), .map none] w fun e w' => e = .returned (.tuple #[]) ∧ w'.ownsMap Tryz.prog 9 entElem d 0 (.map []) ∧ Kp (· = d) w w' := by
  have hrg := run_range_nilMap (P := Tryz.prog) w 67 9 95 Tryz.underlying67
  have hnx : ∀ ty, (Instr.next (.pointer (some ⟨w.heap.size, 0, none⟩)) false ty).run Tryz.prog (w.alloc (.mapIter none 0 #[] 0)) = _ := fun ty => run_next_nilMap _ ty 0 0 #[]
  go_enter Tryz.func184, Tryz.ntmps184
  go_wp2
  refine wp_loop_rounds 1 ?_
  rw [rounds_succ]
  go_wp2
  go_returns
  exact ⟨rfl, hd.alloc _, (Kp.refl (· = d) w).grown (World.grownBy_alloc w _ none) (fun j e _ => by cases e)⟩
/-- A copy: another map of the same. -/
theorem scD_size (s : Sc) : Maps.size (scD s) = s.length := by
  unfold scD
  rw [Maps.size_eq, List.length_map]
set_option maxRecDepth 100000 in
set_option maxHeartbeats 4000000 in
theorem copied_any (B : Nat) (v : Value) (s : Sc) (w : World) (hv : ScV w B v s) (hs : s.length ≤ 1000000) :
    Calls Tryz.prog 144 #[v] w fun e w' => e = .returned (.map (some w.heap.size)) ∧ w'.ownsMap Tryz.prog 9 entElem w.heap.size s.length (scD s) ∧ Below w.heap.size w w' := by
  have hmk : ∀ W : World, (Instr.makeMap 67 none).run Tryz.prog W = .ok (.map (some W.heap.size)) (W.alloc (.map #[] 0)) := fun W => rfl
  have HC : Hid (Calls Tryz.prog 184 #[.map (some w.heap.size), v] (w.alloc (.map #[] 0)) fun e w' => e = .returned (.tuple #[]) ∧ w'.ownsMap Tryz.prog 9 entElem w.heap.size s.length (scD s) ∧ Kp (· = w.heap.size) (w.alloc (.map #[] 0)) w') := hide (by
    rcases hv.2 with ⟨rfl, rfl⟩ | ⟨b, rfl, hB, hown⟩
    · exact copy_nil w.heap.size _ (World.ownsMap_made _ _ _ _)
    · have h := copy_any b s.length w.heap.size (scD s) _ (hown.alloc _) (World.ownsMap_made _ _ _ _) (by have := hown.lt; omega) (by rw [scD_size]; unfold maxLen; omega)
      rw [scD_size] at h
      exact h)
  obtain ⟨m, rfl⟩ := hv.one
  clear hv
  go_enter Tryz.func144, Tryz.ntmps144
  go_wp2_with fail
  refine (unhide HC).mono ?_
  rintro e w1 ⟨rfl, hown, hk⟩
  have HO := hide hown
  have HK := hide hk
  clear hown hk
  go_wp2
  go_returns
  refine ⟨rfl, unhide HO, ?_⟩
  have h := unhide HK
  have hsz := h.size
  have hasz : (w.alloc (.map #[] 0)).heap.size = w.heap.size + 1 := by simp
  rw [hasz] at hsz
  exact ⟨h.os, h.tape, h.output, by omega, fun k hk => by rw [h.block k (by rw [hasz]; omega) (by omega)]; exact Below.heap_alloc w _ k hk⟩
end Go.Proofs.YtjjggncbhenffaaGreatDoor
