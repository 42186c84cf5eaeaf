/- Rows of keys, in plain terms: how two are compared, and that this orders them. -/
import Derived.Test.YtoeahagloobmoaaGreatDoorNumKey
import Derived.Lib.Bytealg
namespace Go.Proofs.YtoeahagloobmoaaGreatDoor
/-- A key: a text or a number, and which way round. -/
structure KeyD where
  num : Bool
  down : Bool
  t : ByteArray
  k : Int
  v : Int
/-- What stands for a key that a row lacks. -/
def keyZ : KeyD := ⟨false, false, ByteArray.empty, 0, 0⟩
/-- A comparison by which things are ordered, some of them alike. -/
structure Good {α : Type} (c : α → α → Int) : Prop where
  anti : ∀ x y, c x y < 0 ↔ 0 < c y x
  tr : ∀ x y z, c x y ≤ 0 → c y z ≤ 0 → c x z ≤ 0
theorem Good.zero {α : Type} {c : α → α → Int} (h : Good c) {x y : α} (e : c x y = 0) : c y x = 0 := by
  have h1 := h.anti x y
  have h2 := h.anti y x
  have n1 : ¬ 0 < c y x := fun z => by have := h1.2 z; omega
  have n2 : ¬ c y x < 0 := fun z => by have := h2.1 z; omega
  omega
theorem Good.strict1 {α : Type} {c : α → α → Int} (h : Good c) {x y z : α} (e : c x y < 0) (f : c y z ≤ 0) : c x z < 0 := by
  have h1 := h.tr x y z (by omega) f
  by_cases h2 : c x z < 0
  · exact h2
  · exfalso
    have h3 : c x z = 0 := by omega
    have h4 := h.zero h3
    have h5 := h.tr y z x f (by omega)
    have h6 := (h.anti x y).1 e
    omega
theorem Good.strict2 {α : Type} {c : α → α → Int} (h : Good c) {x y z : α} (e : c x y ≤ 0) (f : c y z < 0) : c x z < 0 := by
  have h1 := h.tr x y z e (by omega)
  by_cases h2 : c x z < 0
  · exact h2
  · exfalso
    have h3 : c x z = 0 := by omega
    have h4 := h.zero h3
    have h5 := h.tr z x y (by omega) e
    have h6 := (h.anti y z).1 f
    omega
theorem Good.of {α β : Type} {c : β → β → Int} (h : Good c) (f : α → β) : Good (fun x y => c (f x) (f y)) :=
  ⟨fun x y => h.anti (f x) (f y), fun x y z => h.tr (f x) (f y) (f z)⟩
theorem Good.flip {α : Type} {c : α → α → Int} (h : Good c) : Good (fun x y => c y x) :=
  ⟨fun x y => h.anti y x, fun x y z h1 h2 => h.tr z y x h2 h1⟩
/-- One comparison, and where that tells nothing another one. -/
def thenC (a b : Int) : Int := if a = 0 then b else a
theorem Good.lex {α : Type} {c d : α → α → Int} (h : Good c) (k : Good d) : Good (fun x y => thenC (c x y) (d x y)) := by
  constructor
  · intro x y
    show thenC (c x y) (d x y) < 0 ↔ 0 < thenC (c y x) (d y x)
    unfold thenC
    by_cases e : c x y = 0
    · rw [if_pos e, if_pos (h.zero e)]
      exact k.anti x y
    · rw [if_neg e, if_neg (fun z => e (h.zero z))]
      exact h.anti x y
  · intro x y z h1 h2
    have h1' : thenC (c x y) (d x y) ≤ 0 := h1
    have h2' : thenC (c y z) (d y z) ≤ 0 := h2
    show thenC (c x z) (d x z) ≤ 0
    unfold thenC at h1' h2' ⊢
    by_cases e : c x y = 0
    · rw [if_pos e] at h1'
      by_cases f : c y z = 0
      · rw [if_pos f] at h2'
        have g1 := h.tr x y z (by omega) (by omega)
        have g2 := h.tr z y x (by have := h.zero f; omega) (by have := h.zero e; omega)
        have g3 : c x z = 0 := by
          by_cases q : c x z < 0
          · have := (h.anti x z).1 q
            omega
          · omega
        rw [if_pos g3]
        exact k.tr x y z h1' h2'
      · rw [if_neg f] at h2'
        have g := h.strict2 (x := x) (y := y) (z := z) (by omega) (by omega)
        rw [if_neg (by omega)]
        omega
    · rw [if_neg e] at h1'
      have hle : c y z ≤ 0 := by
        by_cases f : c y z = 0
        · omega
        · rw [if_neg f] at h2'
          exact h2'
      have g := h.strict1 (x := x) (y := y) (z := z) (by omega) hle
      rw [if_neg (by omega)]
      omega
theorem good_none {α : Type} : Good (fun (_ _ : α) => (0 : Int)) := ⟨fun _ _ => by omega, fun _ _ _ _ _ => by omega⟩
theorem good_cmpN : Good cmpN := by
  constructor
  · intro x y
    unfold cmpN
    repeat' split
    all_goals omega
  · intro x y z
    unfold cmpN
    repeat' split
    all_goals omega
theorem good_bytes : Good Lib.compareBytes := by
  constructor
  · intro x
    induction x with
    | nil => intro y; cases y <;> simp [Lib.compareBytes]
    | cons a x ih =>
      intro y
      cases y with
      | nil => simp [Lib.compareBytes]
      | cons b y =>
        simp only [Lib.compareBytes]
        by_cases h1 : a < b
        · have h2 : ¬ b < a := fun h => by rw [UInt8.lt_iff_toNat_lt] at h h1; omega
          simp [h1, h2]
        · by_cases h2 : b < a
          · simp [h1, h2]
          · simp only [if_neg h1, if_neg h2]
            exact ih y
  · intro x
    induction x with
    | nil => intro y z; cases y <;> cases z <;> simp [Lib.compareBytes]
    | cons a x ih =>
      intro y z
      cases y with
      | nil => cases z <;> simp [Lib.compareBytes]
      | cons b y =>
        cases z with
        | nil => simp [Lib.compareBytes]
        | cons d z =>
          simp only [Lib.compareBytes]
          have i := ih y z
          by_cases h1 : a < b
          · by_cases h2 : b < d
            · have h3 : a < d := by rw [UInt8.lt_iff_toNat_lt] at h1 h2 ⊢; omega
              simp [h1, h2, h3]
            · by_cases h4 : d < b
              · simp [h1, h2, h4]
              · have h3 : a < d := by rw [UInt8.lt_iff_toNat_lt] at h1 h2 h4 ⊢; omega
                simp [h1, h2, h4, h3]
          · by_cases h5 : b < a
            · simp [h1, h5]
            · by_cases h2 : b < d
              · have h3 : a < d := by rw [UInt8.lt_iff_toNat_lt] at h1 h2 h5 ⊢; omega
                simp [h1, h5, h2, h3]
              · by_cases h4 : d < b
                · simp [h1, h5, h2, h4]
                · have h3 : ¬ a < d := by rw [UInt8.lt_iff_toNat_lt] at h1 h2 h4 h5 ⊢; omega
                  have h6 : ¬ d < a := by rw [UInt8.lt_iff_toNat_lt] at h1 h2 h4 h5 ⊢; omega
                  simp only [if_neg h1, if_neg h5, if_neg h2, if_neg h4, if_neg h3, if_neg h6]
                  exact i
/-- Two keys, in the way of a third. -/
def cmpKey (h a b : KeyD) : Int :=
  if h.num then (if h.down then cmpN (keyN b.k b.v) (keyN a.k a.v) else cmpN (keyN a.k a.v) (keyN b.k b.v))
  else (if h.down then Lib.compareBytes b.t.data.toList a.t.data.toList else Lib.compareBytes a.t.data.toList b.t.data.toList)
theorem good_key (h : KeyD) : Good (cmpKey h) := by
  obtain ⟨n, d, t, k, v⟩ := h
  cases n <;> cases d
  · exact good_bytes.of (fun a : KeyD => a.t.data.toList)
  · exact (good_bytes.of (fun a : KeyD => a.t.data.toList)).flip
  · exact good_cmpN.of (fun a : KeyD => keyN a.k a.v)
  · exact (good_cmpN.of (fun a : KeyD => keyN a.k a.v)).flip
/-- The key at a place of a row, or what stands for it. -/
def keyG (l : List KeyD) (i : Nat) : KeyD := l.getD i keyZ
/-- Two rows, by the keys from a place on, as many as the first one has. -/
def cmpFrom (h a b : List KeyD) : Nat → Nat → Int
  | _, 0 => 0
  | i, f + 1 => thenC (cmpKey (keyG h i) (keyG a i) (keyG b i)) (cmpFrom h a b (i + 1) f)
def cmpRow (h a b : List KeyD) : Int := cmpFrom h a b 0 h.length
theorem good_from (h : List KeyD) : ∀ f i, Good (fun a b => cmpFrom h a b i f)
  | 0, _ => good_none
  | f + 1, i => ((good_key (keyG h i)).of (fun a : List KeyD => keyG a i)).lex (good_from h f (i + 1))
theorem good_row (h : List KeyD) : Good (cmpRow h) := good_from h h.length 0
end Go.Proofs.YtoeahagloobmoaaGreatDoor
