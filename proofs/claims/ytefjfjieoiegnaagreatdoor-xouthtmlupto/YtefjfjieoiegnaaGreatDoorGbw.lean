/- Several texts, laid as one. -/
import Derived.Test.YtefjfjieoiegnaaGreatDoorGbv
import Derived.Test.YtefjfjieoiegnaaGreatDoorGaj
import Derived.Lib.LaidU8
import Derived.HandedShaped
import Derived.WalkKit
import Derived.ProofKit
import Derived.OpenShut
import Derived.ShutString
import Derived.Deep.DeepHandedRow
import Derived.Lib.LaidTab
/- Of html a void element has no end tag, and a raw one's text stands as it is: the law XoutHtml. -/
namespace Go.Proofs.YtefjfjieoiegnaaGreatDoor
open Go.RowKit
def inS : ByteArray := ⟨#[105, 110, 112, 117, 116]⟩
def chS : ByteArray := ⟨#[99, 104, 101, 99, 107, 101, 100]⟩
def scS : ByteArray := ⟨#[115, 99, 114, 105, 112, 116]⟩
def voidT (v : ByteArray) : List BTok := [⟨2, inS, [(chS, v)], ⟨#[]⟩⟩, ⟨7, inS, [], ⟨#[]⟩⟩]
def rawT (s : ByteArray) : List BTok := [⟨2, scS, [], ⟨#[]⟩⟩, ⟨4, ⟨#[]⟩, [], s⟩, ⟨7, scS, [], ⟨#[]⟩⟩]
theorem voidT_small {v : ByteArray} (h : v.size ≤ 1048576) : ∀ t ∈ voidT v, Small t := by
  intro t ht
  simp only [voidT, List.mem_cons, List.not_mem_nil, or_false] at ht
  rcases ht with rfl | rfl
  · refine ⟨by simp, fun x hx => ?_, (show inS.size ≤ 1048576 by decide), (show (⟨#[]⟩ : ByteArray).size ≤ 1048576 by decide)⟩
    rw [List.mem_singleton.1 hx]
    exact ⟨by show chS.size ≤ 1048576; decide, h⟩
  · exact ⟨Nat.zero_le _, (fun x h => by cases h), by decide, by decide⟩
theorem rawT_small {s : ByteArray} (h : s.size ≤ 1048576) : ∀ t ∈ rawT s, Small t := by
  intro t ht
  simp only [rawT, List.mem_cons, List.not_mem_nil, or_false] at ht
  rcases ht with rfl | rfl | rfl
  · exact ⟨Nat.zero_le _, (fun x h => by cases h), by decide, by decide⟩
  · exact ⟨Nat.zero_le _, (fun x h => by cases h), (show (⟨#[]⟩ : ByteArray).size ≤ 1048576 by decide), h⟩
  · exact ⟨Nat.zero_le _, (fun x h => by cases h), by decide, by decide⟩
theorem rawT_text (s : ByteArray) : textO 1 (rawT s) = [60, 115, 99, 114, 105, 112, 116, 62] ++ s.data.toList ++ [60, 47, 115, 99, 114, 105, 112, 116, 62] := by
  rw [text_seq]
  show htmlO ⟨2, scS, [], ⟨#[]⟩⟩ zB ++ (htmlO ⟨4, ⟨#[]⟩, [], s⟩ ⟨2, scS, [], ⟨#[]⟩⟩ ++ (htmlO ⟨7, scS, [], ⟨#[]⟩⟩ ⟨4, ⟨#[]⟩, [], s⟩ ++ [])) = _
  have h1 : htmlO ⟨2, scS, [], ⟨#[]⟩⟩ zB = [60, 115, 99, 114, 105, 112, 116, 62] := by kernel_rfl
  have h2 : htmlO ⟨4, ⟨#[]⟩, [], s⟩ ⟨2, scS, [], ⟨#[]⟩⟩ = s.data.toList := by
    unfold htmlO
    rw [if_neg (by simp), if_pos ⟨rfl, by kernel_rfl⟩]
  have h3 : htmlO ⟨7, scS, [], ⟨#[]⟩⟩ ⟨4, ⟨#[]⟩, [], s⟩ = [60, 47, 115, 99, 114, 105, 112, 116, 62] := by
    unfold htmlO
    rw [if_neg (fun e => absurd e.2 (by rw [show voidB scS = false by kernel_rfl]; decide)), if_neg (by simp), if_neg (by simp)]
    rfl
  rw [h1, h2, h3]
  simp
/-- The input element with the attribute that may stand without its text. -/
theorem voidT_ch : writeO 1 (voidT chS) = (⟨#[60, 105, 110, 112, 117, 116, 32, 99, 104, 101, 99, 107, 101, 100, 62]⟩, 0) := by kernel_rfl
theorem rawT_two (s : ByteArray) : (∃ c : Nat, (c = 2 ∨ c = 5 ∨ c = 6) ∧ writeO 1 (rawT s) = (⟨#[]⟩, c)) ∨ writeO 1 (rawT s) = (⟨#[60, 115, 99, 114, 105, 112, 116, 62]⟩ ++ s ++ ⟨#[60, 47, 115, 99, 114, 105, 112, 116, 62]⟩, 0) := by
  rcases write_two 1 (rawT s) with h | h
  · exact .inl h
  · right
    have e : (⟨(textO 1 (rawT s)).toArray⟩ : ByteArray) = ⟨#[60, 115, 99, 114, 105, 112, 116, 62]⟩ ++ s ++ ⟨#[60, 47, 115, 99, 114, 105, 112, 116, 62]⟩ := by
      apply ByteArray.ext
      rw [ByteArray.data_append, ByteArray.data_append, rawT_text]
      simp
    rw [h, e]
/-- Where the law lays its tokens. -/
structure HtmlW (w : World) (s v : ByteArray) (W : World) : Prop where
  bel : Below w.heap.size w W
  va : ToksArg W (some ⟨w.heap.size + 1, 0, none⟩) (voidT v)
  ra : ToksArg W (some ⟨w.heap.size + 1 + 1, 0, none⟩) (rawT s)
theorem html_laid (w : World) (s v : ByteArray) : HtmlW w s v (((w.alloc (.cells #[.string ⟨#[99, 104, 101, 99, 107, 101, 100]⟩, .string v] 40)).alloc (.cells #[.int .i64 2, .string ⟨#[105, 110, 112, 117, 116]⟩, .slice (some ⟨w.heap.size, 0, none⟩) 1 1, .string ⟨#[]⟩, .int .i64 7, .string ⟨#[105, 110, 112, 117, 116]⟩, .slice none 0 0, .string ⟨#[]⟩] 37)).alloc (.cells #[.int .i64 2, .string ⟨#[115, 99, 114, 105, 112, 116]⟩, .slice none 0 0, .string ⟨#[]⟩, .int .i64 4, .string ⟨#[]⟩, .slice none 0 0, .string s, .int .i64 7, .string ⟨#[115, 99, 114, 105, 112, 116]⟩, .slice none 0 0, .string ⟨#[]⟩] 37)) := by
  have hb : Below w.heap.size w (((w.alloc (.cells #[.string ⟨#[99, 104, 101, 99, 107, 101, 100]⟩, .string v] 40)).alloc (.cells #[.int .i64 2, .string ⟨#[105, 110, 112, 117, 116]⟩, .slice (some ⟨w.heap.size, 0, none⟩) 1 1, .string ⟨#[]⟩, .int .i64 7, .string ⟨#[105, 110, 112, 117, 116]⟩, .slice none 0 0, .string ⟨#[]⟩] 37)).alloc (.cells #[.int .i64 2, .string ⟨#[115, 99, 114, 105, 112, 116]⟩, .slice none 0 0, .string ⟨#[]⟩, .int .i64 4, .string ⟨#[]⟩, .slice none 0 0, .string s, .int .i64 7, .string ⟨#[115, 99, 114, 105, 112, 116]⟩, .slice none 0 0, .string ⟨#[]⟩] 37)) := (((Below.refl _ _).alloc (Nat.le_refl _) _).alloc (by simp) _).alloc (by simp; omega) _
  have b0 : ((((w.alloc (.cells #[.string ⟨#[99, 104, 101, 99, 107, 101, 100]⟩, .string v] 40)).alloc (.cells #[.int .i64 2, .string ⟨#[105, 110, 112, 117, 116]⟩, .slice (some ⟨w.heap.size, 0, none⟩) 1 1, .string ⟨#[]⟩, .int .i64 7, .string ⟨#[105, 110, 112, 117, 116]⟩, .slice none 0 0, .string ⟨#[]⟩] 37)).alloc (.cells #[.int .i64 2, .string ⟨#[115, 99, 114, 105, 112, 116]⟩, .slice none 0 0, .string ⟨#[]⟩, .int .i64 4, .string ⟨#[]⟩, .slice none 0 0, .string s, .int .i64 7, .string ⟨#[115, 99, 114, 105, 112, 116]⟩, .slice none 0 0, .string ⟨#[]⟩] 37))).heap[w.heap.size]? = some (.cells #[.string ⟨#[99, 104, 101, 99, 107, 101, 100]⟩, .string v] 40 (0, 0)) := by
    rw [Lib.alloc_old _ _ _ (by simp; omega), Lib.alloc_old _ _ _ (by simp)]
    exact alloc_newO _ _
  have b1 : ((((w.alloc (.cells #[.string ⟨#[99, 104, 101, 99, 107, 101, 100]⟩, .string v] 40)).alloc (.cells #[.int .i64 2, .string ⟨#[105, 110, 112, 117, 116]⟩, .slice (some ⟨w.heap.size, 0, none⟩) 1 1, .string ⟨#[]⟩, .int .i64 7, .string ⟨#[105, 110, 112, 117, 116]⟩, .slice none 0 0, .string ⟨#[]⟩] 37)).alloc (.cells #[.int .i64 2, .string ⟨#[115, 99, 114, 105, 112, 116]⟩, .slice none 0 0, .string ⟨#[]⟩, .int .i64 4, .string ⟨#[]⟩, .slice none 0 0, .string s, .int .i64 7, .string ⟨#[115, 99, 114, 105, 112, 116]⟩, .slice none 0 0, .string ⟨#[]⟩] 37))).heap[w.heap.size + 1]? = some (.cells #[.int .i64 2, .string ⟨#[105, 110, 112, 117, 116]⟩, .slice (some ⟨w.heap.size, 0, none⟩) 1 1, .string ⟨#[]⟩, .int .i64 7, .string ⟨#[105, 110, 112, 117, 116]⟩, .slice none 0 0, .string ⟨#[]⟩] 37 (0, 0)) := by
    rw [Lib.alloc_old _ _ _ (by simp)]
    have := alloc_newO (w.alloc (.cells #[.string ⟨#[99, 104, 101, 99, 107, 101, 100]⟩, .string v] 40)) (.cells #[.int .i64 2, .string ⟨#[105, 110, 112, 117, 116]⟩, .slice (some ⟨w.heap.size, 0, none⟩) 1 1, .string ⟨#[]⟩, .int .i64 7, .string ⟨#[105, 110, 112, 117, 116]⟩, .slice none 0 0, .string ⟨#[]⟩] 37)
    simpa using this
  have b2 : ((((w.alloc (.cells #[.string ⟨#[99, 104, 101, 99, 107, 101, 100]⟩, .string v] 40)).alloc (.cells #[.int .i64 2, .string ⟨#[105, 110, 112, 117, 116]⟩, .slice (some ⟨w.heap.size, 0, none⟩) 1 1, .string ⟨#[]⟩, .int .i64 7, .string ⟨#[105, 110, 112, 117, 116]⟩, .slice none 0 0, .string ⟨#[]⟩] 37)).alloc (.cells #[.int .i64 2, .string ⟨#[115, 99, 114, 105, 112, 116]⟩, .slice none 0 0, .string ⟨#[]⟩, .int .i64 4, .string ⟨#[]⟩, .slice none 0 0, .string s, .int .i64 7, .string ⟨#[115, 99, 114, 105, 112, 116]⟩, .slice none 0 0, .string ⟨#[]⟩] 37))).heap[w.heap.size + 1 + 1]? = some (.cells #[.int .i64 2, .string ⟨#[115, 99, 114, 105, 112, 116]⟩, .slice none 0 0, .string ⟨#[]⟩, .int .i64 4, .string ⟨#[]⟩, .slice none 0 0, .string s, .int .i64 7, .string ⟨#[115, 99, 114, 105, 112, 116]⟩, .slice none 0 0, .string ⟨#[]⟩] 37 (0, 0)) := by
    have := alloc_newO ((w.alloc (.cells #[.string ⟨#[99, 104, 101, 99, 107, 101, 100]⟩, .string v] 40)).alloc (.cells #[.int .i64 2, .string ⟨#[105, 110, 112, 117, 116]⟩, .slice (some ⟨w.heap.size, 0, none⟩) 1 1, .string ⟨#[]⟩, .int .i64 7, .string ⟨#[105, 110, 112, 117, 116]⟩, .slice none 0 0, .string ⟨#[]⟩] 37)) (.cells #[.int .i64 2, .string ⟨#[115, 99, 114, 105, 112, 116]⟩, .slice none 0 0, .string ⟨#[]⟩, .int .i64 4, .string ⟨#[]⟩, .slice none 0 0, .string s, .int .i64 7, .string ⟨#[115, 99, 114, 105, 112, 116]⟩, .slice none 0 0, .string ⟨#[]⟩] 37)
    simpa using this
  generalize (((w.alloc (.cells #[.string ⟨#[99, 104, 101, 99, 107, 101, 100]⟩, .string v] 40)).alloc (.cells #[.int .i64 2, .string ⟨#[105, 110, 112, 117, 116]⟩, .slice (some ⟨w.heap.size, 0, none⟩) 1 1, .string ⟨#[]⟩, .int .i64 7, .string ⟨#[105, 110, 112, 117, 116]⟩, .slice none 0 0, .string ⟨#[]⟩] 37)).alloc (.cells #[.int .i64 2, .string ⟨#[115, 99, 114, 105, 112, 116]⟩, .slice none 0 0, .string ⟨#[]⟩, .int .i64 4, .string ⟨#[]⟩, .slice none 0 0, .string s, .int .i64 7, .string ⟨#[115, 99, 114, 105, 112, 116]⟩, .slice none 0 0, .string ⟨#[]⟩] 37)) = W at *
  have d : ∀ {g : Nat} {c : Array Value} {T : TypeId} (_ : W.heap[g]? = some (.cells c T (0, 0))) (j : Nat), W.cell? ⟨g, j, none⟩ = c[j]? := fun h j => Lib.cell_of_heap h j
  refine ⟨hb, fun _ => ⟨_, _, rfl, fun i t ht => ?_⟩, fun _ => ⟨_, _, rfl, fun i t ht => ?_⟩⟩
  · match i, ht with
    | 0, e =>
      cases e
      refine ⟨(d b1 _).trans rfl, (d b1 _).trans rfl, ⟨_, (d b1 _).trans rfl, ⟨_, _, rfl, fun _ => ⟨_, _, rfl, fun i x hx => ?_⟩⟩⟩, (d b1 _).trans rfl⟩
      match i, hx with
      | 0, e => cases e; exact ⟨(d b0 _).trans rfl, (d b0 _).trans rfl⟩
    | 1, e =>
      cases e
      exact ⟨(d b1 _).trans rfl, (d b1 _).trans rfl, ⟨.slice none 0 0, (d b1 _).trans rfl, pairs_nil _⟩, (d b1 _).trans rfl⟩
  · match i, ht with
    | 0, e =>
      cases e
      exact ⟨(d b2 _).trans rfl, (d b2 _).trans rfl, ⟨.slice none 0 0, (d b2 _).trans rfl, pairs_nil _⟩, (d b2 _).trans rfl⟩
    | 1, e =>
      cases e
      exact ⟨(d b2 _).trans rfl, (d b2 _).trans rfl, ⟨.slice none 0 0, (d b2 _).trans rfl, pairs_nil _⟩, (d b2 _).trans rfl⟩
    | 2, e =>
      cases e
      exact ⟨(d b2 _).trans rfl, (d b2 _).trans rfl, ⟨.slice none 0 0, (d b2 _).trans rfl, pairs_nil _⟩, (d b2 _).trans rfl⟩
set_option maxRecDepth 100000 in
set_option maxHeartbeats 8000000 in
theorem outHtml_walk (s v : ByteArray) (w : World) (hs : s.size ≤ 1048576) (hv : v.size ≤ 1048576) (hE : XEnv w.heap.size w) :
    Calls Tryz.prog 8 #[.string s, .string v] w fun e w' => e = .returned (.bool true) ∧ Below w.heap.size w w' := by
  have HL := hide (fun W (hb : Below w.heap.size w W) => live10_any W (hE.at hb))
  have HB0 := hide (html_laid w s v).bel
  have hl := html_laid w s v
  have HC1 : Hid (Calls Tryz.prog 16 #[.int .i64 1, .slice (some ⟨w.heap.size + 1, 0, none⟩) 2 2] (((w.alloc (.cells #[.string ⟨#[99, 104, 101, 99, 107, 101, 100]⟩, .string v] 40)).alloc (.cells #[.int .i64 2, .string ⟨#[105, 110, 112, 117, 116]⟩, .slice (some ⟨w.heap.size, 0, none⟩) 1 1, .string ⟨#[]⟩, .int .i64 7, .string ⟨#[105, 110, 112, 117, 116]⟩, .slice none 0 0, .string ⟨#[]⟩] 37)).alloc (.cells #[.int .i64 2, .string ⟨#[115, 99, 114, 105, 112, 116]⟩, .slice none 0 0, .string ⟨#[]⟩, .int .i64 4, .string ⟨#[]⟩, .slice none 0 0, .string s, .int .i64 7, .string ⟨#[115, 99, 114, 105, 112, 116]⟩, .slice none 0 0, .string ⟨#[]⟩] 37)) fun e w' => e = .returned (.tuple #[.string (writeO 1 (voidT v)).1, .int .i64 ((writeO 1 (voidT v)).2 : Nat)]) ∧ Below ((((w.alloc (.cells #[.string ⟨#[99, 104, 101, 99, 107, 101, 100]⟩, .string v] 40)).alloc (.cells #[.int .i64 2, .string ⟨#[105, 110, 112, 117, 116]⟩, .slice (some ⟨w.heap.size, 0, none⟩) 1 1, .string ⟨#[]⟩, .int .i64 7, .string ⟨#[105, 110, 112, 117, 116]⟩, .slice none 0 0, .string ⟨#[]⟩] 37)).alloc (.cells #[.int .i64 2, .string ⟨#[115, 99, 114, 105, 112, 116]⟩, .slice none 0 0, .string ⟨#[]⟩, .int .i64 4, .string ⟨#[]⟩, .slice none 0 0, .string s, .int .i64 7, .string ⟨#[115, 99, 114, 105, 112, 116]⟩, .slice none 0 0, .string ⟨#[]⟩] 37))).heap.size (((w.alloc (.cells #[.string ⟨#[99, 104, 101, 99, 107, 101, 100]⟩, .string v] 40)).alloc (.cells #[.int .i64 2, .string ⟨#[105, 110, 112, 117, 116]⟩, .slice (some ⟨w.heap.size, 0, none⟩) 1 1, .string ⟨#[]⟩, .int .i64 7, .string ⟨#[105, 110, 112, 117, 116]⟩, .slice none 0 0, .string ⟨#[]⟩] 37)).alloc (.cells #[.int .i64 2, .string ⟨#[115, 99, 114, 105, 112, 116]⟩, .slice none 0 0, .string ⟨#[]⟩, .int .i64 4, .string ⟨#[]⟩, .slice none 0 0, .string s, .int .i64 7, .string ⟨#[115, 99, 114, 105, 112, 116]⟩, .slice none 0 0, .string ⟨#[]⟩] 37)) w') := hide (outWrite_any 1 (voidT v) _ 2 _ hl.va (by show 2 ≤ 1048576; decide) (voidT_small hv) w.heap.size hl.bel.size (hE.low hl.bel))
  have HC2 : Hid (∀ W, Below ((((w.alloc (.cells #[.string ⟨#[99, 104, 101, 99, 107, 101, 100]⟩, .string v] 40)).alloc (.cells #[.int .i64 2, .string ⟨#[105, 110, 112, 117, 116]⟩, .slice (some ⟨w.heap.size, 0, none⟩) 1 1, .string ⟨#[]⟩, .int .i64 7, .string ⟨#[105, 110, 112, 117, 116]⟩, .slice none 0 0, .string ⟨#[]⟩] 37)).alloc (.cells #[.int .i64 2, .string ⟨#[115, 99, 114, 105, 112, 116]⟩, .slice none 0 0, .string ⟨#[]⟩, .int .i64 4, .string ⟨#[]⟩, .slice none 0 0, .string s, .int .i64 7, .string ⟨#[115, 99, 114, 105, 112, 116]⟩, .slice none 0 0, .string ⟨#[]⟩] 37))).heap.size (((w.alloc (.cells #[.string ⟨#[99, 104, 101, 99, 107, 101, 100]⟩, .string v] 40)).alloc (.cells #[.int .i64 2, .string ⟨#[105, 110, 112, 117, 116]⟩, .slice (some ⟨w.heap.size, 0, none⟩) 1 1, .string ⟨#[]⟩, .int .i64 7, .string ⟨#[105, 110, 112, 117, 116]⟩, .slice none 0 0, .string ⟨#[]⟩] 37)).alloc (.cells #[.int .i64 2, .string ⟨#[115, 99, 114, 105, 112, 116]⟩, .slice none 0 0, .string ⟨#[]⟩, .int .i64 4, .string ⟨#[]⟩, .slice none 0 0, .string s, .int .i64 7, .string ⟨#[115, 99, 114, 105, 112, 116]⟩, .slice none 0 0, .string ⟨#[]⟩] 37)) W → Calls Tryz.prog 16 #[.int .i64 1, .slice (some ⟨w.heap.size + 1 + 1, 0, none⟩) 3 3] W fun e w' => e = .returned (.tuple #[.string (writeO 1 (rawT s)).1, .int .i64 ((writeO 1 (rawT s)).2 : Nat)]) ∧ Below W.heap.size W w') := hide (fun W hb => outWrite_any 1 (rawT s) _ 3 W (hl.ra.below hb) (by show 3 ≤ 1048576; decide) (rawT_small hs) w.heap.size (Below.then hl.bel hb).size (hE.low (Below.then hl.bel hb)))
  have HC3 : Hid (∀ W, Below ((((w.alloc (.cells #[.string ⟨#[99, 104, 101, 99, 107, 101, 100]⟩, .string v] 40)).alloc (.cells #[.int .i64 2, .string ⟨#[105, 110, 112, 117, 116]⟩, .slice (some ⟨w.heap.size, 0, none⟩) 1 1, .string ⟨#[]⟩, .int .i64 7, .string ⟨#[105, 110, 112, 117, 116]⟩, .slice none 0 0, .string ⟨#[]⟩] 37)).alloc (.cells #[.int .i64 2, .string ⟨#[115, 99, 114, 105, 112, 116]⟩, .slice none 0 0, .string ⟨#[]⟩, .int .i64 4, .string ⟨#[]⟩, .slice none 0 0, .string s, .int .i64 7, .string ⟨#[115, 99, 114, 105, 112, 116]⟩, .slice none 0 0, .string ⟨#[]⟩] 37))).heap.size (((w.alloc (.cells #[.string ⟨#[99, 104, 101, 99, 107, 101, 100]⟩, .string v] 40)).alloc (.cells #[.int .i64 2, .string ⟨#[105, 110, 112, 117, 116]⟩, .slice (some ⟨w.heap.size, 0, none⟩) 1 1, .string ⟨#[]⟩, .int .i64 7, .string ⟨#[105, 110, 112, 117, 116]⟩, .slice none 0 0, .string ⟨#[]⟩] 37)).alloc (.cells #[.int .i64 2, .string ⟨#[115, 99, 114, 105, 112, 116]⟩, .slice none 0 0, .string ⟨#[]⟩, .int .i64 4, .string ⟨#[]⟩, .slice none 0 0, .string s, .int .i64 7, .string ⟨#[115, 99, 114, 105, 112, 116]⟩, .slice none 0 0, .string ⟨#[]⟩] 37)) W → Calls Tryz.prog 20 #[.int .i64 1, .slice (some ⟨w.heap.size + 1, 0, none⟩) 2 2] W fun e w' => e = .returned (.tuple #[.string (writeO 1 (voidT v)).1, .int .i64 ((writeO 1 (voidT v)).2 : Nat)]) ∧ Below W.heap.size W w') := hide (fun W hb => refOutWrite_any 1 (voidT v) _ 2 W (hl.va.below hb) (by show 2 ≤ 1048576; decide) (voidT_small hv) w.heap.size (Below.then hl.bel hb).size (hE.low (Below.then hl.bel hb)))
  clear hE hl
  have hvc : ∃ b, (v.toList == [99, 104, 101, 99, 107, 101, 100]) = b ∧ (b = true → (writeO 1 (voidT v)).1 = ⟨#[60, 105, 110, 112, 117, 116, 32, 99, 104, 101, 99, 107, 101, 100, 62]⟩) := ⟨_, rfl, fun h => by
    have e : v = chS := bytes_same (by rw [show chS.toList = [99, 104, 101, 99, 107, 101, 100] by kernel_rfl]; exact h)
    rw [e, voidT_ch]⟩
  obtain ⟨b, hb, hbt⟩ := hvc
  obtain ⟨A, ec, hA⟩ : ∃ A ec, writeO 1 (voidT v) = (A, ec) := ⟨_, _, rfl⟩
  rw [hA] at HC1 HC3 hbt
  simp only at HC1 HC3 hbt
  have HBT := hide hbt
  clear hA hbt
  have e1 : (A.toList == A.toList) = true := by simp
  cases b with
  | true =>
    obtain rfl := unhide HBT rfl
    clear HBT
    rcases rawT_two s with ⟨c, hc, hR⟩ | hR
    · rw [hR] at HC2
      simp only at HC2
      clear hR
      go_enter Tryz.func8, Tryz.ntmps8
      go_wp2_with fail
      refine (unhide HC1).mono ?_
      rintro e w1 ⟨rfl, hb1⟩
      have HD2 := hide (unhide HC2 _ hb1)
      clear HC1 HC2
      go_wp2_with fail
      refine (unhide HD2).mono ?_
      rintro e w2 ⟨rfl, hb2⟩
      have hb12 := Below.then hb1 hb2
      have HD3 := hide (unhide HC3 _ hb12)
      clear HC3 HD2
      go_wp2_with fail
      refine (unhide HD3).mono ?_
      rintro e w3 ⟨rfl, hb3⟩
      have hb03 := Below.then (Below.then (unhide HB0) hb12) hb3
      have HL2 := hide (unhide HL _ hb03)
      clear HD3 HL
      rcases hc with rfl | rfl | rfl
      all_goals
        go_wp2_with fail
        refine (unhide HL2).mono ?_
        rintro e w4 ⟨rfl, hb4⟩
        go_wp2
        go_ret
        exact ⟨rfl, Below.then hb03 hb4⟩
    · rw [hR] at HC2
      simp only at HC2
      clear hR
      have e2 : ((⟨#[60, 115, 99, 114, 105, 112, 116, 62]⟩ ++ s ++ ⟨#[60, 47, 115, 99, 114, 105, 112, 116, 62]⟩ : ByteArray).toList == (⟨#[60, 115, 99, 114, 105, 112, 116, 62]⟩ ++ s ++ ⟨#[60, 47, 115, 99, 114, 105, 112, 116, 62]⟩ : ByteArray).toList) = true := by simp
      go_enter Tryz.func8, Tryz.ntmps8
      go_wp2_with fail
      refine (unhide HC1).mono ?_
      rintro e w1 ⟨rfl, hb1⟩
      have HD2 := hide (unhide HC2 _ hb1)
      clear HC1 HC2
      go_wp2_with fail
      refine (unhide HD2).mono ?_
      rintro e w2 ⟨rfl, hb2⟩
      have hb12 := Below.then hb1 hb2
      have HD3 := hide (unhide HC3 _ hb12)
      clear HC3 HD2
      go_wp2_with fail
      refine (unhide HD3).mono ?_
      rintro e w3 ⟨rfl, hb3⟩
      have hb03 := Below.then (Below.then (unhide HB0) hb12) hb3
      have HL2 := hide (unhide HL _ hb03)
      clear HD3 HL
      go_wp2_with fail
      refine (unhide HL2).mono ?_
      rintro e w4 ⟨rfl, hb4⟩
      go_wp2
      go_ret
      exact ⟨rfl, Below.then hb03 hb4⟩
  | false =>
    clear HBT
    rcases rawT_two s with ⟨c, hc, hR⟩ | hR
    · rw [hR] at HC2
      simp only at HC2
      clear hR
      go_enter Tryz.func8, Tryz.ntmps8
      go_wp2_with fail
      refine (unhide HC1).mono ?_
      rintro e w1 ⟨rfl, hb1⟩
      have HD2 := hide (unhide HC2 _ hb1)
      clear HC1 HC2
      go_wp2_with fail
      refine (unhide HD2).mono ?_
      rintro e w2 ⟨rfl, hb2⟩
      have hb12 := Below.then hb1 hb2
      have HD3 := hide (unhide HC3 _ hb12)
      clear HC3 HD2
      go_wp2_with fail
      refine (unhide HD3).mono ?_
      rintro e w3 ⟨rfl, hb3⟩
      have hb03 := Below.then (Below.then (unhide HB0) hb12) hb3
      have HL2 := hide (unhide HL _ hb03)
      clear HD3 HL
      rcases hc with rfl | rfl | rfl
      all_goals
        go_wp2_with fail
        refine (unhide HL2).mono ?_
        rintro e w4 ⟨rfl, hb4⟩
        go_wp2
        go_ret
        exact ⟨rfl, Below.then hb03 hb4⟩
    · rw [hR] at HC2
      simp only at HC2
      clear hR
      have e2 : ((⟨#[60, 115, 99, 114, 105, 112, 116, 62]⟩ ++ s ++ ⟨#[60, 47, 115, 99, 114, 105, 112, 116, 62]⟩ : ByteArray).toList == (⟨#[60, 115, 99, 114, 105, 112, 116, 62]⟩ ++ s ++ ⟨#[60, 47, 115, 99, 114, 105, 112, 116, 62]⟩ : ByteArray).toList) = true := by simp
      go_enter Tryz.func8, Tryz.ntmps8
      go_wp2_with fail
      refine (unhide HC1).mono ?_
      rintro e w1 ⟨rfl, hb1⟩
      have HD2 := hide (unhide HC2 _ hb1)
      clear HC1 HC2
      go_wp2_with fail
      refine (unhide HD2).mono ?_
      rintro e w2 ⟨rfl, hb2⟩
      have hb12 := Below.then hb1 hb2
      have HD3 := hide (unhide HC3 _ hb12)
      clear HC3 HD2
      go_wp2_with fail
      refine (unhide HD3).mono ?_
      rintro e w3 ⟨rfl, hb3⟩
      have hb03 := Below.then (Below.then (unhide HB0) hb12) hb3
      have HL2 := hide (unhide HL _ hb03)
      clear HD3 HL
      go_wp2_with fail
      refine (unhide HL2).mono ?_
      rintro e w4 ⟨rfl, hb4⟩
      go_wp2
      go_ret
      exact ⟨rfl, Below.then hb03 hb4⟩
end Go.Proofs.YtefjfjieoiegnaaGreatDoor
/- From what a row lists of the library's tables, and from the world's shape, to what the walks of layer 3 ask. -/
namespace Go.Proofs.YtefjfjieoiegnaaGreatDoor
open Go.ChangeShapes Go.WideShapes Go.ChangeAt Go.RowKit
theorem u8extra : U8Extra Tryz.prog Tryz.lays260_ren where
  n3 := by kernel_rfl
  n4 := by kernel_rfl
  y3 := by kernel_rfl
  y4 := by kernel_rfl
  c5 := by kernel_rfl
  c119 := by kernel_rfl
  c138 := by kernel_rfl
theorem first_data : Rows.laid_unicode_utf8_first = Lib.firstData := by kernel_rfl
theorem accept_data : Rows.laid_unicode_utf8_acceptRanges = Lib.acceptData := by kernel_rfl
def foldTab : List Int := [0, 1, 2, 3, 4, 5, 6, 7, 8, 9, 10, 11, 12, 13, 14, 15, 16, 17, 18, 19, 20, 21, 22, 23, 24, 25, 26, 27, 28, 29, 30, 31, 32, 33, 34, 35, 36, 37, 38, 39, 40, 41, 42, 43, 44, 45, 46, 47, 48, 49, 50, 51, 52, 53, 54, 55, 56, 57, 58, 59, 60, 61, 62, 63, 64, 97, 98, 99, 100, 101, 102, 103, 104, 105, 106, 107, 108, 109, 110, 111, 112, 113, 114, 115, 116, 117, 118, 119, 120, 121, 122, 91, 92, 93, 94, 95, 96, 65, 66, 67, 68, 69, 70, 71, 72, 73, 74, 8490, 76, 77, 78, 79, 80, 81, 82, 383, 84, 85, 86, 87, 88, 89, 90, 123, 124, 125, 126, 127]
theorem fold_data : (Rows.laid_unicode_asciiFold : DataW Unit) = Lib.tabData .u16 foldTab := by kernel_rfl
theorem xTab_of {P : Program} {W : World} {name : String} {k : IntKind} {zs : List Int} {g : Nat} {t e : TypeId} {n : Nat} (hg : P.globalNamed name = some g) (hty : (P.globals[g]?).map (·.type) = some t) (ht : P.underlying t = some (.array n e)) (he : P.underlying e = some (.int k)) (hce : P.cellsOf e = 1) (hct : P.cellsOf t = n) (h : Lib.VarReads P W name (Lib.tabData k zs)) (j : Nat) : W.cell? ⟨g, j, none⟩ = (zs.map fun z => Value.int k z)[j]? := by
  obtain ⟨g', t', cs, fuel, p, hg', ht', hvar, hd⟩ := h
  obtain rfl := Option.some.inj (hg.symm.trans hg')
  obtain rfl := Option.some.inj (hty.symm.trans ht')
  rw [World.var?_cell hg hvar j, ← Lib.cells_of_tab ht he hce hct hd]
  simp
theorem env_of {W : World} (hM : laidMet Tryz.prog [("unicode/utf8.acceptRanges", Rows.laid_unicode_utf8_acceptRanges), ("unicode.asciiFold", Rows.laid_unicode_asciiFold), ("unicode.caseOrbit", Rows.laid_unicode_caseOrbit), ("unicode.CaseRanges", Rows.laid_unicode_CaseRanges), ("unicode/utf8.first", Rows.laid_unicode_utf8_first)] W) (hs : W.ShapedOpen Tryz.prog) : XEnv W.heap.size W := by
  have h3 := Lib.laidMet.reads hM (n := "unicode/utf8.first") (d := Rows.laid_unicode_utf8_first) (by simp)
  have h4 := Lib.laidMet.reads hM (n := "unicode/utf8.acceptRanges") (d := Rows.laid_unicode_utf8_acceptRanges) (by simp)
  have h5 := Lib.laidMet.reads hM (n := "unicode.asciiFold") (d := Rows.laid_unicode_asciiFold) (by simp)
  rw [first_data] at h3
  rw [accept_data] at h4
  rw [fold_data] at h5
  have ht := utf8Tabs_of_reads Tryz.lays260 u8extra h3 h4
  have hf := xTab_of (g := 3) (t := 182) (e := 181) (n := 128) (by kernel_rfl) (by kernel_rfl) (by kernel_rfl) Tryz.underlying181 (by kernel_rfl) (by kernel_rfl) h5
  obtain ⟨m, hm⟩ : ∃ m, W.cell? ⟨2, 0, none⟩ = some (.int .i64 m) := cell_of_shapedOpen_int (zero := #[.int .i64 0]) (t := 3) hs (of_decide_eq_true (by kernel_rfl)) (by kernel_rfl) rfl (by kernel_rfl) (by kernel_rfl) Tryz.underlying3
  have fx : W.cell? ⟨3, 120, none⟩ = some (.int .u16 88) := (hf 120).trans rfl
  refine ⟨⟨⟨m, hm⟩, ht⟩, fx, (hf 109).trans rfl, (hf 108).trans rfl, (hf 88).trans rfl, (hf 77).trans rfl, (hf 76).trans rfl, block_lt_of_cell hm, ?_, ?_, block_lt_of_cell fx⟩
  · exact block_lt_of_cell (ht.1 0 (by decide))
  · exact block_lt_of_cell (ht.2 0 (by decide)).1
theorem own : ownKnob Tryz.prog.godebug = none := by kernel_rfl
end Go.Proofs.YtefjfjieoiegnaaGreatDoor
