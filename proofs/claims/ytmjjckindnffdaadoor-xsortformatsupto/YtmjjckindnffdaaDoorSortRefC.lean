/- The reference's letters in capitals, and small. -/
import Derived.Test.YtmjjckindnffdaaDoorSortRefR
import Derived.OwnWalk
import Derived.Maps.AppendAt
import Derived.ArgAppend
namespace Go.Proofs.YtmjjckindnffdaaDoor
open Go.RowKit
theorem sowns_ge {w : World} {base : Nat} {e : TypeId} {size : Nat} {v : Value} {n : Nat} {xs : List Value} (h : w.ownsRow base e size v n xs) : ∀ k, v.ownBlock = some k → base ≤ k := by
  intro k hk
  rcases h.2 with ⟨rfl, _⟩ | ⟨g, cap, cur, rfl, h2, _⟩
  · simp [Value.ownBlock] at hk
  · simp [Value.ownBlock] at hk; omega
theorem sowns_slice {w : World} {base : Nat} {e : TypeId} {size : Nat} {v : Value} {n : Nat} {xs : List Value} (h : w.ownsRow base e size v n xs) : ∃ a c, v = .slice a n c := by
  rcases h.2 with ⟨rfl, h0⟩ | ⟨g, cap, cur, rfl, _⟩
  · exact ⟨none, 0, by rw [h0]⟩
  · exact ⟨_, _, rfl⟩
def sbyteCells (l : List UInt8) : List Value := l.map fun c => Value.int .u8 (c.toNat : Int)
theorem sconv_owned {w : World} {base : Nat} {v : Value} {l : List UInt8} (h : w.ownsRow base 5 1 v l.length (sbyteCells l)) :
    (convert 66 9 v).run Tryd.prog w = .ok (.string ⟨l.toArray⟩) w := by
  rcases h.2 with ⟨rfl, h0⟩ | ⟨g, cap, cur, rfl, _⟩
  · rw [run_convert_bytes_nil _ 66 5 Tryd.underlying66 Tryd.underlying5 _ _ _ Tryd.underlying9]
    have : l = [] := List.length_eq_zero_iff.1 h0
    subst this
    rfl
  · refine (run_convert_bytes_arg _ 66 5 Tryd.underlying66 Tryd.underlying5 g 0 l.length cap (l.map fun c => (c.toNat : Int)) (by simp) ?_ 9 Tryd.underlying9).trans ?_
    · intro i hi
      rw [Nat.zero_add, h.cellAt i (by omega)]
      simp [sbyteCells, hi]
    · congr 2
      unfold strOfNums
      congr 2
      rw [List.map_map]
      have : ((fun n : Int => UInt8.ofNat n.toNat) ∘ fun c : UInt8 => (c.toNat : Int)) = id := by
        funext c
        simp
      rw [this, List.map_id]
theorem refUpper_byte (b : UInt8) (h1 : 97 ≤ b.toNat) (h2 : b.toNat ≤ 122) : IntKind.u8.wrap ((b.toNat : Int) - 32) = ((Lib.upperB b).toNat : Int) := by
  rw [(lower_upper b h1 h2).2, IntKind.wrap_u8]
  omega
set_option maxRecDepth 100000 in
set_option maxHeartbeats 1000000 in
theorem refUpper_any (t : List UInt8) (w : World) (hs : t.length ≤ 1000000) (hm : ∀ b ∈ t, 97 ≤ b.toNat ∧ b.toNat ≤ 122) :
    Calls Tryd.prog 25 #[.string ⟨t.toArray⟩] w fun e w' => e = .returned (.string ⟨(t.map Lib.upperB).toArray⟩) ∧ Below w.heap.size w w' := by
  obtain ⟨i0, hi, hz0, hz1, hz2⟩ := info_parts (show (Tryd.prog.info? 5).map (fun i => (i.zero, i.size, i.bytes)) = some (some (.int .u8 0), 1, 1) by kernel_rfl)
  have hsz0 : (⟨t.toArray⟩ : ByteArray).size = t.length := mk_size t
  go_enter Tryd.func25, Tryd.ntmps25
  go_wp2_with fail
  go_loopw [3, 4] (fun v i wr => ∃ k : Nat, k ≤ t.length ∧ i = .int .i64 (k : Int) ∧ wr.ownsRow w.heap.size 5 1 v ((t.take k).map Lib.upperB).length (sbyteCells ((t.take k).map Lib.upperB)) ∧ Below w.heap.size w wr) (fun _ i _ => t.length - vNat i)
  case atStart => exact ⟨0, Nat.zero_le _, rfl, World.ownsRow_nil _ _ _ _, Below.refl _ _⟩
  case round =>
    obtain ⟨k, hk, rfl, hown, hbr⟩ := hrel
    by_cases hlt : k < t.length
    · obtain ⟨ad, c, rfl⟩ := sowns_slice hown
      have hsz := hbr.size
      have hks : k < (⟨t.toArray⟩ : ByteArray).size := by rw [hsz0]; exact hlt
      have hks' : (k : Int) < ((⟨t.toArray⟩ : ByteArray).size : Int) := by omega
      have hb := hm (t[k]) (List.getElem_mem hlt)
      have hwr : IntKind.u8.wrap ((((⟨t.toArray⟩ : ByteArray)[k]'hks).toNat : Int) - 32) = ((Lib.upperB t[k]).toNat : Int) := refUpper_byte t[k] hb.1 hb.2
      have hll : ((t.take k).map Lib.upperB).length = k := by rw [List.length_map, List.length_take]; omega
      have HN := hide (show (t.take (k + 1)).map Lib.upperB = (t.take k).map Lib.upperB ++ [Lib.upperB t[k]] by
        rw [List.take_add_one, List.getElem?_eq_getElem hlt, Option.toList_some, List.map_append]
        rfl)
      clear hm hb
      generalize (t.take k).map Lib.upperB = l at *
      generalize Lib.upperB t[k] = X at *
      generalize (⟨t.toArray⟩ : ByteArray) = S at *
      go_wp2_with (at_builtin; refine wpList_append_own _ rfl _ _ 66 rfl w.heap.size 5 i0 (.int .u8 0) 1 1 Tryd.underlying66 hi hz0 hz1 hz2 rfl (by decide) _ _ _ rfl (hown.alloc _) ⟨wr.heap.size, 0, none⟩ 1 1 [.int .u8 (X.toNat : Int)] rfl rfl (cell_one_new _ _ _) (fun x hx => by simp at hx; subst hx; rfl) (by unfold maxLen; omega) (by omega) (by simp; omega) ?_; intro v2 w2 hown2 hgrow2 hnil2)
      have b2 := Below.grown (hbr.alloc hsz _) hgrow2 (by simp; omega) (sowns_ge hown)
      refine ⟨⟨k + 1, hlt, by rw [Int.natCast_add]; rfl, ?_, b2⟩, ?_⟩
      · rw [unhide HN]
        simpa [sbyteCells] using hown2
      · show t.length - ((k : Int) + 1).toNat < t.length - (k : Int).toNat
        omega
    · have hke : k = t.length := by omega
      subst hke
      rw [List.take_of_length_le (Nat.le_refl _)] at hown
      have hcv := sconv_owned hown
      have hne : ¬ (t.length : Int) < ((⟨t.toArray⟩ : ByteArray).size : Int) := by omega
      clear hown hm
      generalize hR : (⟨(t.map Lib.upperB).toArray⟩ : ByteArray) = R at *
      have HR := hide hR
      clear hR
      generalize (⟨t.toArray⟩ : ByteArray) = S at *
      go_wp2
      go_ret
      exact ⟨by rw [unhide HR]; rfl, hbr⟩
theorem refLower_byte (b : UInt8) (h1 : 65 ≤ b.toNat) (h2 : b.toNat ≤ 90) : IntKind.u8.wrap ((b.toNat : Int) + 32) = ((Lib.lowerB b).toNat : Int) := by
  rw [(upper_lower b h1 h2).2, IntKind.wrap_u8]
  omega
set_option maxRecDepth 100000 in
set_option maxHeartbeats 1000000 in
theorem refLower_any (t : List UInt8) (w : World) (hs : t.length ≤ 1000000) (hm : ∀ b ∈ t, 65 ≤ b.toNat ∧ b.toNat ≤ 90) :
    Calls Tryd.prog 26 #[.string ⟨t.toArray⟩] w fun e w' => e = .returned (.string ⟨(t.map Lib.lowerB).toArray⟩) ∧ Below w.heap.size w w' := by
  obtain ⟨i0, hi, hz0, hz1, hz2⟩ := info_parts (show (Tryd.prog.info? 5).map (fun i => (i.zero, i.size, i.bytes)) = some (some (.int .u8 0), 1, 1) by kernel_rfl)
  have hsz0 : (⟨t.toArray⟩ : ByteArray).size = t.length := mk_size t
  go_enter Tryd.func26, Tryd.ntmps26
  go_wp2_with fail
  go_loopw [3, 4] (fun v i wr => ∃ k : Nat, k ≤ t.length ∧ i = .int .i64 (k : Int) ∧ wr.ownsRow w.heap.size 5 1 v ((t.take k).map Lib.lowerB).length (sbyteCells ((t.take k).map Lib.lowerB)) ∧ Below w.heap.size w wr) (fun _ i _ => t.length - vNat i)
  case atStart => exact ⟨0, Nat.zero_le _, rfl, World.ownsRow_nil _ _ _ _, Below.refl _ _⟩
  case round =>
    obtain ⟨k, hk, rfl, hown, hbr⟩ := hrel
    by_cases hlt : k < t.length
    · obtain ⟨ad, c, rfl⟩ := sowns_slice hown
      have hsz := hbr.size
      have hks : k < (⟨t.toArray⟩ : ByteArray).size := by rw [hsz0]; exact hlt
      have hks' : (k : Int) < ((⟨t.toArray⟩ : ByteArray).size : Int) := by omega
      have hb := hm (t[k]) (List.getElem_mem hlt)
      have hwr : IntKind.u8.wrap ((((⟨t.toArray⟩ : ByteArray)[k]'hks).toNat : Int) + 32) = ((Lib.lowerB t[k]).toNat : Int) := refLower_byte t[k] hb.1 hb.2
      have hll : ((t.take k).map Lib.lowerB).length = k := by rw [List.length_map, List.length_take]; omega
      have HN := hide (show (t.take (k + 1)).map Lib.lowerB = (t.take k).map Lib.lowerB ++ [Lib.lowerB t[k]] by
        rw [List.take_add_one, List.getElem?_eq_getElem hlt, Option.toList_some, List.map_append]
        rfl)
      clear hm hb
      generalize (t.take k).map Lib.lowerB = l at *
      generalize Lib.lowerB t[k] = X at *
      generalize (⟨t.toArray⟩ : ByteArray) = S at *
      go_wp2_with (at_builtin; refine wpList_append_own _ rfl _ _ 66 rfl w.heap.size 5 i0 (.int .u8 0) 1 1 Tryd.underlying66 hi hz0 hz1 hz2 rfl (by decide) _ _ _ rfl (hown.alloc _) ⟨wr.heap.size, 0, none⟩ 1 1 [.int .u8 (X.toNat : Int)] rfl rfl (cell_one_new _ _ _) (fun x hx => by simp at hx; subst hx; rfl) (by unfold maxLen; omega) (by omega) (by simp; omega) ?_; intro v2 w2 hown2 hgrow2 hnil2)
      have b2 := Below.grown (hbr.alloc hsz _) hgrow2 (by simp; omega) (sowns_ge hown)
      refine ⟨⟨k + 1, hlt, by rw [Int.natCast_add]; rfl, ?_, b2⟩, ?_⟩
      · rw [unhide HN]
        simpa [sbyteCells] using hown2
      · show t.length - ((k : Int) + 1).toNat < t.length - (k : Int).toNat
        omega
    · have hke : k = t.length := by omega
      subst hke
      rw [List.take_of_length_le (Nat.le_refl _)] at hown
      have hcv := sconv_owned hown
      have hne : ¬ (t.length : Int) < ((⟨t.toArray⟩ : ByteArray).size : Int) := by omega
      clear hown hm
      generalize hR : (⟨(t.map Lib.lowerB).toArray⟩ : ByteArray) = R at *
      have HR := hide hR
      clear hR
      generalize (⟨t.toArray⟩ : ByteArray) = S at *
      go_wp2
      go_ret
      exact ⟨by rw [unhide HR]; rfl, hbr⟩
end Go.Proofs.YtmjjckindnffdaaDoor
