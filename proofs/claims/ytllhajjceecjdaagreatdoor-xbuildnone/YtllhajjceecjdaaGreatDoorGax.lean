/- Several texts, laid as one. -/
import Derived.Test.YtllhajjceecjdaaGreatDoorXmlMem
import Derived.Test.YtllhajjceecjdaaGreatDoorGaw
import Derived.Deep.RegionHeld3
/- A reader's small steps: what it sees, takes, passes by: xmlscan's rest, sees, take, takeTo, blanks, name. -/
namespace Go.Proofs.YtllhajjceecjdaaGreatDoor
open Go.RowKit
abbrev AtS (w : World) (p : Nat) (s : RS) : Prop := AtR w p s.pre s.rest
/-- A reader of a text of characters that may be, that is not too long. -/
structure Fine (s : RS) : Prop where
  ok : okL (s.pre ++ s.rest)
  le : (T (s.pre ++ s.rest)).size ≤ 32768
theorem adv_whole (s : RS) (n : Nat) : (s.adv n).pre ++ (s.adv n).rest = s.pre ++ s.rest := by
  unfold RS.adv
  simp only
  rw [List.append_assoc, List.take_append_drop]
theorem Fine.adv {s : RS} (h : Fine s) (n : Nat) : Fine (s.adv n) := ⟨by rw [adv_whole]; exact h.ok, by rw [adv_whole]; exact h.le⟩
theorem Fine.okR {s : RS} (h : Fine s) : okL s.rest := okL_right h.ok
theorem Fine.sum {s : RS} (_ : Fine s) : s.place + (T s.rest).size = (T (s.pre ++ s.rest)).size := by
  unfold RS.place
  rw [T_size, T_size, tx_len_app]
theorem Fine.lt {s : RS} (h : Fine s) : s.place + (T s.rest).size ≤ 32768 := by rw [h.sum]; exact h.le
theorem AtR.to {w w' : World} {p : Nat} {s : RS} {n : Nat} (h : AtS w p s) (hm : Moves p (s.adv n).place w w') : AtS w' p (s.adv n) := h.moved hm (adv_whole s n)
end Go.Proofs.YtllhajjceecjdaaGreatDoor
/- A reader's small steps, more: xmlscan's takeTo, blanks, nameAhead, name, qname. -/
namespace Go.Proofs.YtllhajjceecjdaaGreatDoor
open Go.RowKit
end Go.Proofs.YtllhajjceecjdaaGreatDoor
/- A reader's small steps, more: xmlscan's nameAhead, name, qname, quote, quoted, equals. -/
namespace Go.Proofs.YtllhajjceecjdaaGreatDoor
open Go.RowKit
end Go.Proofs.YtllhajjceecjdaaGreatDoor
/- A reader's small steps, more: xmlscan's quote, quoted, equals, fail. -/
namespace Go.Proofs.YtllhajjceecjdaaGreatDoor
open Go.RowKit
/-- What the package variables of the library hold; they all lie below B. -/
structure XEnv (B : Nat) (w : World) : Prop where
  env : Env w
  x : w.cell? ⟨2, 120, none⟩ = some (.int .u16 88)
  m : w.cell? ⟨2, 109, none⟩ = some (.int .u16 77)
  l : w.cell? ⟨2, 108, none⟩ = some (.int .u16 76)
  X : w.cell? ⟨2, 88, none⟩ = some (.int .u16 120)
  M : w.cell? ⟨2, 77, none⟩ = some (.int .u16 109)
  L : w.cell? ⟨2, 76, none⟩ = some (.int .u16 108)
  g1 : 5 < B
  g2 : 0 < B
  g3 : 1 < B
  g4 : 2 < B
theorem XEnv.low {B : Nat} {w w' : World} (h : XEnv B w) (hb : Below B w w') : XEnv B w' := by
  obtain ⟨⟨⟨m, hm⟩, t1, t2⟩, hx, hmm, hl, hX, hM, hL, g1, g2, g3, g4⟩ := h
  refine ⟨⟨⟨m, ?_⟩, ?_, ?_⟩, ?_, ?_, ?_, ?_, ?_, ?_, g1, g2, g3, g4⟩
  · rw [hb.cell g1]; exact hm
  · intro c hc; rw [hb.cell g2]; exact t1 c hc
  · intro i hi
    rw [hb.cell g3, hb.cell g3]; exact t2 i hi
  · rw [hb.cell g4]; exact hx
  · rw [hb.cell g4]; exact hmm
  · rw [hb.cell g4]; exact hl
  · rw [hb.cell g4]; exact hX
  · rw [hb.cell g4]; exact hM
  · rw [hb.cell g4]; exact hL
theorem XEnv.moved {B : Nat} {w w' : World} {p n : Nat} (h : XEnv B w) (hm : Moves p n w w') (hB : B ≤ p) (hp : p < w.heap.size) : XEnv B w' := h.low (hm.low hB (by omega))
theorem XEnv.on {B : Nat} {w w' : World} (h : XEnv B w) (hB : B ≤ w.heap.size) (hb : Below w.heap.size w w') : XEnv B w' := h.low (hb.mono hB)
theorem adv_adv (s : RS) (n m : Nat) : (s.adv n).adv m = s.adv (n + m) := by
  unfold RS.adv
  simp only [List.drop_drop, List.append_assoc, RS.mk.injEq, and_true, List.append_cancel_left_eq]
  rw [List.take_add]
/-- One state is another one, some characters on. -/
def Adv (s s' : RS) : Prop := ∃ k, s' = s.adv k
theorem Adv.then {a b c : RS} (h : Adv a b) (g : Adv b c) : Adv a c := by
  obtain ⟨k, rfl⟩ := h
  obtain ⟨m, rfl⟩ := g
  exact ⟨k + m, adv_adv _ _ _⟩
theorem Adv.by (s : RS) (n : Nat) : Adv s (s.adv n) := ⟨n, rfl⟩
theorem Adv.at {s s' : RS} (h : Adv s s') {w w' : World} {p : Nat} (ha : AtS w p s) (hm : Moves p s'.place w w') : AtS w' p s' := by
  obtain ⟨k, rfl⟩ := h
  exact ha.to hm
theorem Adv.blanks (s : RS) : Adv s s.blanks := ⟨_, rfl⟩
theorem Adv.take (s : RS) (a : List Nat) : Adv s (s.take a) := by
  unfold RS.take
  split
  · exact ⟨_, rfl⟩
  · exact ⟨0, by unfold RS.adv; simp⟩
theorem Adv.name (s : RS) : Adv s s.name := ⟨_, rfl⟩
theorem Adv.qname (s : RS) : Adv s s.qname := ⟨_, rfl⟩
theorem Adv.takeTo {s s' : RS} {a x : List Nat} (h : s.takeTo a = some (x, s')) : Adv s s' ∧ ∃ y, cutL a s.rest = some (x, y) ∧ s' = s.adv (x.length + a.length) := by
  unfold RS.takeTo at h
  cases hc : cutL a s.rest with
  | none => rw [hc] at h; cases h
  | some xy => rw [hc] at h; cases h; exact ⟨⟨_, rfl⟩, xy.2, rfl, rfl⟩
theorem quote_some {s s' : RS} {q : Nat} (h : s.quote = some (q, s')) : s' = s.adv 1 ∧ heads q s.rest = true ∧ (q = 34 ∨ q = 39 ∧ heads 34 s.rest = false) := by
  unfold RS.quote at h
  split at h
  · rename_i hh; cases h; exact ⟨rfl, hh, .inl rfl⟩
  · rename_i hh
    split at h
    · rename_i h2; cases h; exact ⟨rfl, h2, .inr ⟨rfl, by simpa using hh⟩⟩
    · cases h
theorem Adv.quote {s s' : RS} {q : Nat} (h : s.quote = some (q, s')) : Adv s s' := ⟨1, (quote_some h).1⟩
theorem Adv.quoted {s s' : RS} {x : List Nat} (h : s.quoted = some (x, s')) : Adv s s' := by
  unfold RS.quoted at h
  cases hq : s.quote with
  | none => rw [hq] at h; cases h
  | some qs =>
    obtain ⟨q, s1⟩ := qs
    rw [hq] at h
    exact (Adv.quote hq).then (Adv.takeTo h).1
theorem Adv.equals {s s' : RS} (h : s.equals = some s') : Adv s s' := by
  unfold RS.equals at h
  split at h
  · cases h; exact (Adv.blanks s).then ((Adv.by _ 1).then (Adv.blanks _))
  · cases h
end Go.Proofs.YtllhajjceecjdaaGreatDoor
