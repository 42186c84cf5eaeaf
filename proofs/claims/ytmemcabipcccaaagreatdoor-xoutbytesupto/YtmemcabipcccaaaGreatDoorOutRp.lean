/- The reference's one: the walk. -/
import Derived.Test.YtmemcabipcccaaaGreatDoorGbs
namespace Go.Proofs.YtmemcabipcccaaaGreatDoor
open Go.RowKit
set_option maxRecDepth 100000 in
set_option maxHeartbeats 8000000 in
theorem one_w0k2 (N g o cap k : Nat) (t a c : BTok) (va : Option Addr) (vc : Nat) (w : World) (hN : N ≤ 4096) (hkd : t.kind = 2) (c0 : w.cell? ⟨g, o + k * 4, none⟩ = some (.int .i64 t.kind)) (c1 : w.cell? ⟨g, o + k * 4 + 1, none⟩ = some (.string t.name)) (c2 : w.cell? ⟨g, o + k * 4 + 2, none⟩ = some (.slice va t.attrs.length vc)) (c3 : w.cell? ⟨g, o + k * 4 + 3, none⟩ = some (.string t.text)) (hpv : PairsArg w (.slice va t.attrs.length vc) t.attrs) (hs : Small t) (hf : t.attrs.length ≤ 64) (hk1 : k + 1 < N) (q0 : w.cell? ⟨g, o + (k + 1) * 4, none⟩ = some (.int .i64 c.kind)) :
    Calls Tryz.prog 19 #[.slice (some ⟨g, o, none⟩) N cap, .int .i64 (k : Nat), .bool false] w fun e w' => ∃ s : ByteArray, e = .returned (.string s) ∧ s.data.toList = soleO false t a c ∧ Below w.heap.size w w' := by
  have n1 : (0 : Int) ≤ (k : Int) := by omega
  have n2 : (k : Int) < (N : Int) := by omega
  have n3 : (N : Int) ≤ 4096 := by omega
  have hnm := hs.n
  have htx := hs.x
  have hbA : Below w.heap.size w (w.alloc (.cells #[.int .i64 t.kind, .string t.name, .slice va t.attrs.length vc, .string t.text] 53)) := (Below.refl _ _).alloc (Nat.le_refl _) _
  have HBA := hide hbA
  have HKB : Hid ((w.alloc (.cells #[.int .i64 t.kind, .string t.name, .slice va t.attrs.length vc, .string t.text] 53)).heap[w.heap.size]? = some (.cells #[.int .i64 t.kind, .string t.name, .slice va t.attrs.length vc, .string t.text] 53 (0, 0))) := hide (alloc_newO w _)
  have m3 : (k : Int) + 1 < (N : Int) := by omega
  have HST : Hid (∀ W, Below w.heap.size w W → Calls Tryz.prog 37 #[.agg #[.int .i64 t.kind, .string t.name, .slice va t.attrs.length vc, .string t.text], .bool false] W fun e w' => ∃ s : ByteArray, e = .returned (.string s) ∧ s.data.toList = startO false t ∧ Below W.heap.size W w') := hide fun W hb => refStart_any false t (va, vc) W (hpv.below hb) hs hf
  have HSL : Hid ((startO false t).length ≤ 480000000) := hide (by
    have h1 := startK_len (h := false) (t := t) t.attrs.length hs hf
    unfold startK at h1
    rw [List.take_length] at h1
    exact h1)
  have HSO := hide (one_elem false (a := a) (c := c) hkd)
  rw [hkd] at c0 HBA HKB HST
  have q0a := keptC (unhide HBA) q0
  clear hpv hf hs hbA hkd
  go_enter Tryz.func19, Tryz.ntmps19
  by_cases hc : c.kind = 7
  · have HCC := hide hc
    rw [hc] at q0a
    clear hc
    go_wp2_with fail
    refine (unhide HST _ (unhide HBA)).mono ?_
    rintro e w5 ⟨E, rfl, hE, hb5⟩
    have hEs : E.size ≤ 480000000 := by
      have h1 := unhide HSL
      rw [← hE] at h1
      exact h1
    have HF : Hid ((E ++ ⟨#[47, 62]⟩).data.toList = soleO false t a c) := hide (by
      rw [unhide HSO, if_pos ⟨unhide HCC, by first | rfl | trivial⟩, ← hE]
      exact bytes_two _ _ _ _ rfl rfl)
    clear hE
    go_wp2
    go_ret
    exact ⟨_, rfl, unhide HF, Below.then (unhide HBA) hb5⟩
  · have HCC := hide hc
    go_wp2_with fail
    refine (unhide HST _ (unhide HBA)).mono ?_
    rintro e w5 ⟨E, rfl, hE, hb5⟩
    have hEs : E.size ≤ 480000000 := by
      have h1 := unhide HSL
      rw [← hE] at h1
      exact h1
    have HF : Hid ((E ++ ⟨#[62]⟩).data.toList = soleO false t a c) := hide (by
      rw [unhide HSO, if_neg (fun e => unhide HCC e.1), ← hE]
      exact bytes_two _ _ _ _ rfl rfl)
    clear hE
    go_wp2
    go_ret
    exact ⟨_, rfl, unhide HF, Below.then (unhide HBA) hb5⟩
set_option maxRecDepth 100000 in
set_option maxHeartbeats 8000000 in
theorem one_w0k7 (N g o cap k : Nat) (t a c : BTok) (va : Option Addr) (vc : Nat) (w : World) (hN : N ≤ 4096) (hlt : k < N) (hkd : t.kind = 7) (c0 : w.cell? ⟨g, o + k * 4, none⟩ = some (.int .i64 t.kind)) (c1 : w.cell? ⟨g, o + k * 4 + 1, none⟩ = some (.string t.name)) (c2 : w.cell? ⟨g, o + k * 4 + 2, none⟩ = some (.slice va t.attrs.length vc)) (c3 : w.cell? ⟨g, o + k * 4 + 3, none⟩ = some (.string t.text)) (hs : Small t) (hk0 : 0 < k) (p0 : w.cell? ⟨g, o + (k - 1) * 4, none⟩ = some (.int .i64 a.kind)) :
    Calls Tryz.prog 19 #[.slice (some ⟨g, o, none⟩) N cap, .int .i64 (k : Nat), .bool false] w fun e w' => ∃ s : ByteArray, e = .returned (.string s) ∧ s.data.toList = soleO false t a c ∧ Below w.heap.size w w' := by
  have n1 : (0 : Int) ≤ (k : Int) := by omega
  have n2 : (k : Int) < (N : Int) := by omega
  have n3 : (N : Int) ≤ 4096 := by omega
  have hnm := hs.n
  have htx := hs.x
  have hbA : Below w.heap.size w (w.alloc (.cells #[.int .i64 t.kind, .string t.name, .slice va t.attrs.length vc, .string t.text] 53)) := (Below.refl _ _).alloc (Nat.le_refl _) _
  have HBA := hide hbA
  have HKB : Hid ((w.alloc (.cells #[.int .i64 t.kind, .string t.name, .slice va t.attrs.length vc, .string t.text] 53)).heap[w.heap.size]? = some (.cells #[.int .i64 t.kind, .string t.name, .slice va t.attrs.length vc, .string t.text] 53 (0, 0))) := hide (alloc_newO w _)
  have m1 : (0 : Int) < (k : Int) := by omega
  have HSO := hide (one_fin false (a := a) (c := c) hkd)
  rw [hkd] at c0 HBA HKB
  have p0a := keptC (unhide HBA) p0
  clear hs hbA hlt hkd
  go_enter Tryz.func19, Tryz.ntmps19
  by_cases hA : a.kind = 2
  · have HAA := hide hA
    rw [hA] at p0a
    clear hA
    have HF : Hid ((⟨#[]⟩ : ByteArray).data.toList = soleO false t a c) := hide (by rw [unhide HSO, if_pos (.inl ⟨unhide HAA, by first | rfl | trivial⟩)])
    go_wp2
    go_ret
    exact ⟨_, rfl, unhide HF, (unhide HBA)⟩
  ·
    have HF : Hid ((((⟨#[60, 47]⟩ : ByteArray) ++ t.name) ++ ⟨#[62]⟩).data.toList = soleO false t a c) := hide (by rw [unhide HSO, if_neg (by simp [hA])]; simp [ByteArray.data_append])
    go_wp2
    go_ret
    exact ⟨_, rfl, unhide HF, (unhide HBA)⟩
set_option maxRecDepth 100000 in
set_option maxHeartbeats 8000000 in
theorem one_w0k4 (N g o cap k : Nat) (t a c : BTok) (va : Option Addr) (vc : Nat) (w : World) (hN : N ≤ 4096) (hlt : k < N) (hkd : t.kind = 4) (c0 : w.cell? ⟨g, o + k * 4, none⟩ = some (.int .i64 t.kind)) (c1 : w.cell? ⟨g, o + k * 4 + 1, none⟩ = some (.string t.name)) (c2 : w.cell? ⟨g, o + k * 4 + 2, none⟩ = some (.slice va t.attrs.length vc)) (c3 : w.cell? ⟨g, o + k * 4 + 3, none⟩ = some (.string t.text)) (hs : Small t) :
    Calls Tryz.prog 19 #[.slice (some ⟨g, o, none⟩) N cap, .int .i64 (k : Nat), .bool false] w fun e w' => ∃ s : ByteArray, e = .returned (.string s) ∧ s.data.toList = soleO false t a c ∧ Below w.heap.size w w' := by
  have n1 : (0 : Int) ≤ (k : Int) := by omega
  have n2 : (k : Int) < (N : Int) := by omega
  have n3 : (N : Int) ≤ 4096 := by omega
  have hnm := hs.n
  have htx := hs.x
  have hbA : Below w.heap.size w (w.alloc (.cells #[.int .i64 t.kind, .string t.name, .slice va t.attrs.length vc, .string t.text] 53)) := (Below.refl _ _).alloc (Nat.le_refl _) _
  have HBA := hide hbA
  have HKB : Hid ((w.alloc (.cells #[.int .i64 t.kind, .string t.name, .slice va t.attrs.length vc, .string t.text] 53)).heap[w.heap.size]? = some (.cells #[.int .i64 t.kind, .string t.name, .slice va t.attrs.length vc, .string t.text] 53 (0, 0))) := hide (alloc_newO w _)
  have HES : Hid (∀ W, Calls Tryz.prog 38 #[.string t.text] W fun e w' => e = .returned (.string ⟨(mapO escO t.text.data.toList).toArray⟩) ∧ w' = W) := hide fun W => refEscape_any t.text W htx
  have HSO := hide (one_text false (a := a) (c := c) hkd)
  rw [hkd] at c0 HBA HKB
  clear hs hbA hlt hkd
  go_enter Tryz.func19, Tryz.ntmps19
  have HF : Hid ((⟨(mapO escO t.text.data.toList).toArray⟩ : ByteArray).data.toList = soleO false t a c) := hide (by rw [unhide HSO, if_neg (by simp)])
  go_wp2_with fail
  refine (unhide HES _).mono ?_
  rintro e w5 ⟨rfl, rfl⟩
  go_wp2
  go_ret
  exact ⟨_, rfl, unhide HF, (unhide HBA)⟩
set_option maxRecDepth 100000 in
set_option maxHeartbeats 8000000 in
theorem one_w0k5 (N g o cap k : Nat) (t a c : BTok) (va : Option Addr) (vc : Nat) (w : World) (hN : N ≤ 4096) (hlt : k < N) (hkd : t.kind = 5) (c0 : w.cell? ⟨g, o + k * 4, none⟩ = some (.int .i64 t.kind)) (c1 : w.cell? ⟨g, o + k * 4 + 1, none⟩ = some (.string t.name)) (c2 : w.cell? ⟨g, o + k * 4 + 2, none⟩ = some (.slice va t.attrs.length vc)) (c3 : w.cell? ⟨g, o + k * 4 + 3, none⟩ = some (.string t.text)) (hs : Small t) :
    Calls Tryz.prog 19 #[.slice (some ⟨g, o, none⟩) N cap, .int .i64 (k : Nat), .bool false] w fun e w' => ∃ s : ByteArray, e = .returned (.string s) ∧ s.data.toList = soleO false t a c ∧ Below w.heap.size w w' := by
  have n1 : (0 : Int) ≤ (k : Int) := by omega
  have n2 : (k : Int) < (N : Int) := by omega
  have n3 : (N : Int) ≤ 4096 := by omega
  have hnm := hs.n
  have htx := hs.x
  have hbA : Below w.heap.size w (w.alloc (.cells #[.int .i64 t.kind, .string t.name, .slice va t.attrs.length vc, .string t.text] 53)) := (Below.refl _ _).alloc (Nat.le_refl _) _
  have HBA := hide hbA
  have HKB : Hid ((w.alloc (.cells #[.int .i64 t.kind, .string t.name, .slice va t.attrs.length vc, .string t.text] 53)).heap[w.heap.size]? = some (.cells #[.int .i64 t.kind, .string t.name, .slice va t.attrs.length vc, .string t.text] 53 (0, 0))) := hide (alloc_newO w _)
  have HSO := hide (one_com false (a := a) (c := c) hkd)
  rw [hkd] at c0 HBA HKB
  clear hs hbA hlt hkd
  go_enter Tryz.func19, Tryz.ntmps19
  have HF : Hid (((⟨#[60, 33, 45, 45]⟩ : ByteArray) ++ t.text ++ ⟨#[45, 45, 62]⟩).data.toList = soleO false t a c) := hide (by rw [unhide HSO]; simp [ByteArray.data_append])
  go_wp2
  go_ret
  exact ⟨_, rfl, unhide HF, (unhide HBA)⟩
set_option maxRecDepth 100000 in
set_option maxHeartbeats 8000000 in
theorem one_w0k6 (N g o cap k : Nat) (t a c : BTok) (va : Option Addr) (vc : Nat) (w : World) (hN : N ≤ 4096) (hlt : k < N) (hkd : t.kind = 6) (c0 : w.cell? ⟨g, o + k * 4, none⟩ = some (.int .i64 t.kind)) (c1 : w.cell? ⟨g, o + k * 4 + 1, none⟩ = some (.string t.name)) (c2 : w.cell? ⟨g, o + k * 4 + 2, none⟩ = some (.slice va t.attrs.length vc)) (c3 : w.cell? ⟨g, o + k * 4 + 3, none⟩ = some (.string t.text)) (hs : Small t) :
    Calls Tryz.prog 19 #[.slice (some ⟨g, o, none⟩) N cap, .int .i64 (k : Nat), .bool false] w fun e w' => ∃ s : ByteArray, e = .returned (.string s) ∧ s.data.toList = soleO false t a c ∧ Below w.heap.size w w' := by
  have n1 : (0 : Int) ≤ (k : Int) := by omega
  have n2 : (k : Int) < (N : Int) := by omega
  have n3 : (N : Int) ≤ 4096 := by omega
  have hnm := hs.n
  have htx := hs.x
  have hbA : Below w.heap.size w (w.alloc (.cells #[.int .i64 t.kind, .string t.name, .slice va t.attrs.length vc, .string t.text] 53)) := (Below.refl _ _).alloc (Nat.le_refl _) _
  have HBA := hide hbA
  have HKB : Hid ((w.alloc (.cells #[.int .i64 t.kind, .string t.name, .slice va t.attrs.length vc, .string t.text] 53)).heap[w.heap.size]? = some (.cells #[.int .i64 t.kind, .string t.name, .slice va t.attrs.length vc, .string t.text] 53 (0, 0))) := hide (alloc_newO w _)
  have HSO := hide (one_ins false (a := a) (c := c) hkd)
  rw [hkd] at c0 HBA HKB
  clear hs hbA hlt hkd
  go_enter Tryz.func19, Tryz.ntmps19
  cases hte : t.text.toList.isEmpty with
  | true =>
    have HF : Hid ((((⟨#[60, 63]⟩ : ByteArray) ++ t.name) ++ ⟨#[63, 62]⟩).data.toList = soleO false t a c) := hide (by rw [unhide HSO, hte]; simp [ByteArray.data_append])
    go_wp2
    go_ret
    exact ⟨_, rfl, unhide HF, (unhide HBA)⟩
  | false =>
    have HF : Hid ((((⟨#[60, 63]⟩ : ByteArray) ++ t.name) ++ (⟨#[32]⟩ ++ t.text) ++ ⟨#[63, 62]⟩).data.toList = soleO false t a c) := hide (by rw [unhide HSO, hte]; simp [ByteArray.data_append])
    go_wp2
    go_ret
    exact ⟨_, rfl, unhide HF, (unhide HBA)⟩
set_option maxRecDepth 100000 in
set_option maxHeartbeats 8000000 in
theorem one_w1k2 (N g o cap k : Nat) (t a c : BTok) (va : Option Addr) (vc : Nat) (w : World) (hN : N ≤ 4096) (hkd : t.kind = 2) (c0 : w.cell? ⟨g, o + k * 4, none⟩ = some (.int .i64 t.kind)) (c1 : w.cell? ⟨g, o + k * 4 + 1, none⟩ = some (.string t.name)) (c2 : w.cell? ⟨g, o + k * 4 + 2, none⟩ = some (.slice va t.attrs.length vc)) (c3 : w.cell? ⟨g, o + k * 4 + 3, none⟩ = some (.string t.text)) (hpv : PairsArg w (.slice va t.attrs.length vc) t.attrs) (hs : Small t) (hf : t.attrs.length ≤ 64) (hk1 : k + 1 < N) (q0 : w.cell? ⟨g, o + (k + 1) * 4, none⟩ = some (.int .i64 c.kind)) (hz : k = 0) :
    Calls Tryz.prog 19 #[.slice (some ⟨g, o, none⟩) N cap, .int .i64 (k : Nat), .bool true] w fun e w' => ∃ s : ByteArray, e = .returned (.string s) ∧ s.data.toList = soleO true t a c ∧ Below w.heap.size w w' := by
  have n1 : (0 : Int) ≤ (k : Int) := by omega
  have n2 : (k : Int) < (N : Int) := by omega
  have n3 : (N : Int) ≤ 4096 := by omega
  have hnm := hs.n
  have htx := hs.x
  have hbA : Below w.heap.size w (w.alloc (.cells #[.int .i64 t.kind, .string t.name, .slice va t.attrs.length vc, .string t.text] 53)) := (Below.refl _ _).alloc (Nat.le_refl _) _
  have HBA := hide hbA
  have HKB : Hid ((w.alloc (.cells #[.int .i64 t.kind, .string t.name, .slice va t.attrs.length vc, .string t.text] 53)).heap[w.heap.size]? = some (.cells #[.int .i64 t.kind, .string t.name, .slice va t.attrs.length vc, .string t.text] 53 (0, 0))) := hide (alloc_newO w _)
  have m3 : (k : Int) + 1 < (N : Int) := by omega
  have HST : Hid (∀ W, Below w.heap.size w W → Calls Tryz.prog 37 #[.agg #[.int .i64 t.kind, .string t.name, .slice va t.attrs.length vc, .string t.text], .bool true] W fun e w' => ∃ s : ByteArray, e = .returned (.string s) ∧ s.data.toList = startO true t ∧ Below W.heap.size W w') := hide fun W hb => refStart_any true t (va, vc) W (hpv.below hb) hs hf
  have HSL : Hid ((startO true t).length ≤ 480000000) := hide (by
    have h1 := startK_len (h := true) (t := t) t.attrs.length hs hf
    unfold startK at h1
    rw [List.take_length] at h1
    exact h1)
  have HSO := hide (one_elem true (a := a) (c := c) hkd)
  rw [hkd] at c0 HBA HKB HST
  subst hz
  rw [Nat.zero_mul, Nat.add_zero] at c0 c1 c2 c3
  have q0a := keptC (unhide HBA) q0
  clear hpv hf hs hbA hkd
  go_enter Tryz.func19, Tryz.ntmps19
  by_cases hc : c.kind = 7
  · rw [hc] at q0a
    go_wp2_with fail
    refine (unhide HST _ (unhide HBA)).mono ?_
    rintro e w5 ⟨E, rfl, hE, hb5⟩
    have hEs : E.size ≤ 480000000 := by
      have h1 := unhide HSL
      rw [← hE] at h1
      exact h1
    have HF : Hid ((E ++ ⟨#[62]⟩).data.toList = soleO true t a c) := hide (by
      rw [unhide HSO, if_neg (by simp), ← hE]
      exact bytes_two _ _ _ _ rfl rfl)
    clear hE
    go_wp2
    go_ret
    exact ⟨_, rfl, unhide HF, Below.then (unhide HBA) hb5⟩
  ·
    go_wp2_with fail
    refine (unhide HST _ (unhide HBA)).mono ?_
    rintro e w5 ⟨E, rfl, hE, hb5⟩
    have hEs : E.size ≤ 480000000 := by
      have h1 := unhide HSL
      rw [← hE] at h1
      exact h1
    have HF : Hid ((E ++ ⟨#[62]⟩).data.toList = soleO true t a c) := hide (by
      rw [unhide HSO, if_neg (by simp), ← hE]
      exact bytes_two _ _ _ _ rfl rfl)
    clear hE
    go_wp2
    go_ret
    exact ⟨_, rfl, unhide HF, Below.then (unhide HBA) hb5⟩
set_option maxRecDepth 100000 in
set_option maxHeartbeats 8000000 in
theorem one_w1k4 (N g o cap k : Nat) (t a c : BTok) (va : Option Addr) (vc : Nat) (w : World) (hN : N ≤ 4096) (hlt : k < N) (hkd : t.kind = 4) (c0 : w.cell? ⟨g, o + k * 4, none⟩ = some (.int .i64 t.kind)) (c1 : w.cell? ⟨g, o + k * 4 + 1, none⟩ = some (.string t.name)) (c2 : w.cell? ⟨g, o + k * 4 + 2, none⟩ = some (.slice va t.attrs.length vc)) (c3 : w.cell? ⟨g, o + k * 4 + 3, none⟩ = some (.string t.text)) (hs : Small t) (hz : k = 0) (hA : ¬ a.kind = 2) :
    Calls Tryz.prog 19 #[.slice (some ⟨g, o, none⟩) N cap, .int .i64 (k : Nat), .bool true] w fun e w' => ∃ s : ByteArray, e = .returned (.string s) ∧ s.data.toList = soleO true t a c ∧ Below w.heap.size w w' := by
  have n1 : (0 : Int) ≤ (k : Int) := by omega
  have n2 : (k : Int) < (N : Int) := by omega
  have n3 : (N : Int) ≤ 4096 := by omega
  have hnm := hs.n
  have htx := hs.x
  have hbA : Below w.heap.size w (w.alloc (.cells #[.int .i64 t.kind, .string t.name, .slice va t.attrs.length vc, .string t.text] 53)) := (Below.refl _ _).alloc (Nat.le_refl _) _
  have HBA := hide hbA
  have HKB : Hid ((w.alloc (.cells #[.int .i64 t.kind, .string t.name, .slice va t.attrs.length vc, .string t.text] 53)).heap[w.heap.size]? = some (.cells #[.int .i64 t.kind, .string t.name, .slice va t.attrs.length vc, .string t.text] 53 (0, 0))) := hide (alloc_newO w _)
  have HES : Hid (∀ W, Calls Tryz.prog 38 #[.string t.text] W fun e w' => e = .returned (.string ⟨(mapO escO t.text.data.toList).toArray⟩) ∧ w' = W) := hide fun W => refEscape_any t.text W htx
  have HSO := hide (one_text true (a := a) (c := c) hkd)
  rw [hkd] at c0 HBA HKB
  subst hz
  rw [Nat.zero_mul, Nat.add_zero] at c0 c1 c2 c3
  clear hs hbA hlt hkd
  go_enter Tryz.func19, Tryz.ntmps19
  have HF : Hid ((⟨(mapO escO t.text.data.toList).toArray⟩ : ByteArray).data.toList = soleO true t a c) := hide (by rw [unhide HSO, if_neg (fun e => by rw [rawS_no hA] at e; cases e.2)])
  go_wp2_with fail
  refine (unhide HES _).mono ?_
  rintro e w5 ⟨rfl, rfl⟩
  go_wp2
  go_ret
  exact ⟨_, rfl, unhide HF, (unhide HBA)⟩
set_option maxRecDepth 100000 in
set_option maxHeartbeats 8000000 in
theorem one_w1k5 (N g o cap k : Nat) (t a c : BTok) (va : Option Addr) (vc : Nat) (w : World) (hN : N ≤ 4096) (hlt : k < N) (hkd : t.kind = 5) (c0 : w.cell? ⟨g, o + k * 4, none⟩ = some (.int .i64 t.kind)) (c1 : w.cell? ⟨g, o + k * 4 + 1, none⟩ = some (.string t.name)) (c2 : w.cell? ⟨g, o + k * 4 + 2, none⟩ = some (.slice va t.attrs.length vc)) (c3 : w.cell? ⟨g, o + k * 4 + 3, none⟩ = some (.string t.text)) (hs : Small t) (hz : k = 0) :
    Calls Tryz.prog 19 #[.slice (some ⟨g, o, none⟩) N cap, .int .i64 (k : Nat), .bool true] w fun e w' => ∃ s : ByteArray, e = .returned (.string s) ∧ s.data.toList = soleO true t a c ∧ Below w.heap.size w w' := by
  have n1 : (0 : Int) ≤ (k : Int) := by omega
  have n2 : (k : Int) < (N : Int) := by omega
  have n3 : (N : Int) ≤ 4096 := by omega
  have hnm := hs.n
  have htx := hs.x
  have hbA : Below w.heap.size w (w.alloc (.cells #[.int .i64 t.kind, .string t.name, .slice va t.attrs.length vc, .string t.text] 53)) := (Below.refl _ _).alloc (Nat.le_refl _) _
  have HBA := hide hbA
  have HKB : Hid ((w.alloc (.cells #[.int .i64 t.kind, .string t.name, .slice va t.attrs.length vc, .string t.text] 53)).heap[w.heap.size]? = some (.cells #[.int .i64 t.kind, .string t.name, .slice va t.attrs.length vc, .string t.text] 53 (0, 0))) := hide (alloc_newO w _)
  have HSO := hide (one_com true (a := a) (c := c) hkd)
  rw [hkd] at c0 HBA HKB
  subst hz
  rw [Nat.zero_mul, Nat.add_zero] at c0 c1 c2 c3
  clear hs hbA hlt hkd
  go_enter Tryz.func19, Tryz.ntmps19
  have HF : Hid (((⟨#[60, 33, 45, 45]⟩ : ByteArray) ++ t.text ++ ⟨#[45, 45, 62]⟩).data.toList = soleO true t a c) := hide (by rw [unhide HSO]; simp [ByteArray.data_append])
  go_wp2
  go_ret
  exact ⟨_, rfl, unhide HF, (unhide HBA)⟩
set_option maxRecDepth 100000 in
set_option maxHeartbeats 8000000 in
theorem one_w1k6 (N g o cap k : Nat) (t a c : BTok) (va : Option Addr) (vc : Nat) (w : World) (hN : N ≤ 4096) (hlt : k < N) (hkd : t.kind = 6) (c0 : w.cell? ⟨g, o + k * 4, none⟩ = some (.int .i64 t.kind)) (c1 : w.cell? ⟨g, o + k * 4 + 1, none⟩ = some (.string t.name)) (c2 : w.cell? ⟨g, o + k * 4 + 2, none⟩ = some (.slice va t.attrs.length vc)) (c3 : w.cell? ⟨g, o + k * 4 + 3, none⟩ = some (.string t.text)) (hs : Small t) (hz : k = 0) :
    Calls Tryz.prog 19 #[.slice (some ⟨g, o, none⟩) N cap, .int .i64 (k : Nat), .bool true] w fun e w' => ∃ s : ByteArray, e = .returned (.string s) ∧ s.data.toList = soleO true t a c ∧ Below w.heap.size w w' := by
  have n1 : (0 : Int) ≤ (k : Int) := by omega
  have n2 : (k : Int) < (N : Int) := by omega
  have n3 : (N : Int) ≤ 4096 := by omega
  have hnm := hs.n
  have htx := hs.x
  have hbA : Below w.heap.size w (w.alloc (.cells #[.int .i64 t.kind, .string t.name, .slice va t.attrs.length vc, .string t.text] 53)) := (Below.refl _ _).alloc (Nat.le_refl _) _
  have HBA := hide hbA
  have HKB : Hid ((w.alloc (.cells #[.int .i64 t.kind, .string t.name, .slice va t.attrs.length vc, .string t.text] 53)).heap[w.heap.size]? = some (.cells #[.int .i64 t.kind, .string t.name, .slice va t.attrs.length vc, .string t.text] 53 (0, 0))) := hide (alloc_newO w _)
  have HSO := hide (one_ins true (a := a) (c := c) hkd)
  rw [hkd] at c0 HBA HKB
  subst hz
  rw [Nat.zero_mul, Nat.add_zero] at c0 c1 c2 c3
  clear hs hbA hlt hkd
  go_enter Tryz.func19, Tryz.ntmps19
  cases hte : t.text.toList.isEmpty with
  | true =>
    have HF : Hid ((((⟨#[60, 63]⟩ : ByteArray) ++ t.name) ++ ⟨#[62]⟩).data.toList = soleO true t a c) := hide (by rw [unhide HSO, hte]; simp [ByteArray.data_append])
    go_wp2
    go_ret
    exact ⟨_, rfl, unhide HF, (unhide HBA)⟩
  | false =>
    have HF : Hid ((((⟨#[60, 63]⟩ : ByteArray) ++ t.name) ++ (⟨#[32]⟩ ++ t.text) ++ ⟨#[62]⟩).data.toList = soleO true t a c) := hide (by rw [unhide HSO, hte]; simp [ByteArray.data_append])
    go_wp2
    go_ret
    exact ⟨_, rfl, unhide HF, (unhide HBA)⟩
set_option maxRecDepth 100000 in
set_option maxHeartbeats 8000000 in
theorem one_w2k2 (N g o cap k : Nat) (t a c : BTok) (va : Option Addr) (vc : Nat) (w : World) (hN : N ≤ 4096) (hkd : t.kind = 2) (c0 : w.cell? ⟨g, o + k * 4, none⟩ = some (.int .i64 t.kind)) (c1 : w.cell? ⟨g, o + k * 4 + 1, none⟩ = some (.string t.name)) (c2 : w.cell? ⟨g, o + k * 4 + 2, none⟩ = some (.slice va t.attrs.length vc)) (c3 : w.cell? ⟨g, o + k * 4 + 3, none⟩ = some (.string t.text)) (hpv : PairsArg w (.slice va t.attrs.length vc) t.attrs) (hs : Small t) (hf : t.attrs.length ≤ 64) (p0 : w.cell? ⟨g, o + (k - 1) * 4, none⟩ = some (.int .i64 a.kind)) (p1 : w.cell? ⟨g, o + (k - 1) * 4 + 1, none⟩ = some (.string a.name)) (hk1 : k + 1 < N) (q0 : w.cell? ⟨g, o + (k + 1) * 4, none⟩ = some (.int .i64 c.kind)) (hk0 : 0 < k) (hA : ¬ a.kind = 2) :
    Calls Tryz.prog 19 #[.slice (some ⟨g, o, none⟩) N cap, .int .i64 (k : Nat), .bool true] w fun e w' => ∃ s : ByteArray, e = .returned (.string s) ∧ s.data.toList = soleO true t a c ∧ Below w.heap.size w w' := by
  have n1 : (0 : Int) ≤ (k : Int) := by omega
  have n2 : (k : Int) < (N : Int) := by omega
  have n3 : (N : Int) ≤ 4096 := by omega
  have hnm := hs.n
  have htx := hs.x
  have hbA : Below w.heap.size w (w.alloc (.cells #[.int .i64 t.kind, .string t.name, .slice va t.attrs.length vc, .string t.text] 53)) := (Below.refl _ _).alloc (Nat.le_refl _) _
  have HBA := hide hbA
  have HKB : Hid ((w.alloc (.cells #[.int .i64 t.kind, .string t.name, .slice va t.attrs.length vc, .string t.text] 53)).heap[w.heap.size]? = some (.cells #[.int .i64 t.kind, .string t.name, .slice va t.attrs.length vc, .string t.text] 53 (0, 0))) := hide (alloc_newO w _)
  have m1 : (0 : Int) < (k : Int) := by omega
  have m3 : (k : Int) + 1 < (N : Int) := by omega
  have HST : Hid (∀ W, Below w.heap.size w W → Calls Tryz.prog 37 #[.agg #[.int .i64 t.kind, .string t.name, .slice va t.attrs.length vc, .string t.text], .bool true] W fun e w' => ∃ s : ByteArray, e = .returned (.string s) ∧ s.data.toList = startO true t ∧ Below W.heap.size W w') := hide fun W hb => refStart_any true t (va, vc) W (hpv.below hb) hs hf
  have HSL : Hid ((startO true t).length ≤ 480000000) := hide (by
    have h1 := startK_len (h := true) (t := t) t.attrs.length hs hf
    unfold startK at h1
    rw [List.take_length] at h1
    exact h1)
  have HSO := hide (one_elem true (a := a) (c := c) hkd)
  rw [hkd] at c0 HBA HKB HST
  have p0a := keptC (unhide HBA) p0
  have p1a := keptC (unhide HBA) p1
  have q0a := keptC (unhide HBA) q0
  clear hpv hf hs hbA hkd
  go_enter Tryz.func19, Tryz.ntmps19
  by_cases hc : c.kind = 7
  · rw [hc] at q0a
    go_wp2_with fail
    refine (unhide HST _ (unhide HBA)).mono ?_
    rintro e w5 ⟨E, rfl, hE, hb5⟩
    have hEs : E.size ≤ 480000000 := by
      have h1 := unhide HSL
      rw [← hE] at h1
      exact h1
    have HF : Hid ((E ++ ⟨#[62]⟩).data.toList = soleO true t a c) := hide (by
      rw [unhide HSO, if_neg (by simp), ← hE]
      exact bytes_two _ _ _ _ rfl rfl)
    clear hE
    go_wp2
    go_ret
    exact ⟨_, rfl, unhide HF, Below.then (unhide HBA) hb5⟩
  ·
    go_wp2_with fail
    refine (unhide HST _ (unhide HBA)).mono ?_
    rintro e w5 ⟨E, rfl, hE, hb5⟩
    have hEs : E.size ≤ 480000000 := by
      have h1 := unhide HSL
      rw [← hE] at h1
      exact h1
    have HF : Hid ((E ++ ⟨#[62]⟩).data.toList = soleO true t a c) := hide (by
      rw [unhide HSO, if_neg (by simp), ← hE]
      exact bytes_two _ _ _ _ rfl rfl)
    clear hE
    go_wp2
    go_ret
    exact ⟨_, rfl, unhide HF, Below.then (unhide HBA) hb5⟩
set_option maxRecDepth 100000 in
set_option maxHeartbeats 8000000 in
theorem one_w2k7 (N g o cap k : Nat) (t a c : BTok) (va : Option Addr) (vc : Nat) (w : World) (hN : N ≤ 4096) (hlt : k < N) (hkd : t.kind = 7) (c0 : w.cell? ⟨g, o + k * 4, none⟩ = some (.int .i64 t.kind)) (c1 : w.cell? ⟨g, o + k * 4 + 1, none⟩ = some (.string t.name)) (c2 : w.cell? ⟨g, o + k * 4 + 2, none⟩ = some (.slice va t.attrs.length vc)) (c3 : w.cell? ⟨g, o + k * 4 + 3, none⟩ = some (.string t.text)) (hs : Small t) (p0 : w.cell? ⟨g, o + (k - 1) * 4, none⟩ = some (.int .i64 a.kind)) (p1 : w.cell? ⟨g, o + (k - 1) * 4 + 1, none⟩ = some (.string a.name)) (hk0 : 0 < k) (hA : ¬ a.kind = 2) :
    Calls Tryz.prog 19 #[.slice (some ⟨g, o, none⟩) N cap, .int .i64 (k : Nat), .bool true] w fun e w' => ∃ s : ByteArray, e = .returned (.string s) ∧ s.data.toList = soleO true t a c ∧ Below w.heap.size w w' := by
  have n1 : (0 : Int) ≤ (k : Int) := by omega
  have n2 : (k : Int) < (N : Int) := by omega
  have n3 : (N : Int) ≤ 4096 := by omega
  have hnm := hs.n
  have htx := hs.x
  have hbA : Below w.heap.size w (w.alloc (.cells #[.int .i64 t.kind, .string t.name, .slice va t.attrs.length vc, .string t.text] 53)) := (Below.refl _ _).alloc (Nat.le_refl _) _
  have HBA := hide hbA
  have HKB : Hid ((w.alloc (.cells #[.int .i64 t.kind, .string t.name, .slice va t.attrs.length vc, .string t.text] 53)).heap[w.heap.size]? = some (.cells #[.int .i64 t.kind, .string t.name, .slice va t.attrs.length vc, .string t.text] 53 (0, 0))) := hide (alloc_newO w _)
  have m1 : (0 : Int) < (k : Int) := by omega
  have HVO := hide (fun W => refVoid_any t.name W hnm)
  have HSO := hide (one_fin true (a := a) (c := c) hkd)
  rw [hkd] at c0 HBA HKB
  have p0a := keptC (unhide HBA) p0
  have p1a := keptC (unhide HBA) p1
  clear hs hbA hlt hkd
  go_enter Tryz.func19, Tryz.ntmps19
  go_wp2_with fail
  refine (unhide HVO _).mono ?_
  rintro e w5 ⟨rfl, hb5⟩
  have hkb5 := (hb5.block w.heap.size (Array.getElem?_eq_some_iff.1 (unhide HKB)).1).trans (unhide HKB)
  have j1 : w5.cell? ⟨w.heap.size, 1, none⟩ = some (.string t.name) := by rw [Lib.cell_of_heap hkb5]; rfl
  have hb05 := Below.then (unhide HBA) hb5
  clear hkb5
  cases hvo : voidB t.name with
  | true =>
    have HF : Hid ((⟨#[]⟩ : ByteArray).data.toList = soleO true t a c) := hide (by rw [unhide HSO, if_pos (.inr ⟨by first | rfl | trivial, hvo⟩)])
    go_wp2
    go_ret
    exact ⟨_, rfl, unhide HF, hb05⟩
  | false =>
    have HF : Hid ((((⟨#[60, 47]⟩ : ByteArray) ++ t.name) ++ ⟨#[62]⟩).data.toList = soleO true t a c) := hide (by rw [unhide HSO, if_neg (by simp [hvo])]; simp [ByteArray.data_append])
    go_wp2
    go_ret
    exact ⟨_, rfl, unhide HF, hb05⟩
set_option maxRecDepth 100000 in
set_option maxHeartbeats 8000000 in
theorem one_w2k4 (N g o cap k : Nat) (t a c : BTok) (va : Option Addr) (vc : Nat) (w : World) (hN : N ≤ 4096) (hlt : k < N) (hkd : t.kind = 4) (c0 : w.cell? ⟨g, o + k * 4, none⟩ = some (.int .i64 t.kind)) (c1 : w.cell? ⟨g, o + k * 4 + 1, none⟩ = some (.string t.name)) (c2 : w.cell? ⟨g, o + k * 4 + 2, none⟩ = some (.slice va t.attrs.length vc)) (c3 : w.cell? ⟨g, o + k * 4 + 3, none⟩ = some (.string t.text)) (hs : Small t) (p0 : w.cell? ⟨g, o + (k - 1) * 4, none⟩ = some (.int .i64 a.kind)) (p1 : w.cell? ⟨g, o + (k - 1) * 4 + 1, none⟩ = some (.string a.name)) (hk0 : 0 < k) (hA : ¬ a.kind = 2) :
    Calls Tryz.prog 19 #[.slice (some ⟨g, o, none⟩) N cap, .int .i64 (k : Nat), .bool true] w fun e w' => ∃ s : ByteArray, e = .returned (.string s) ∧ s.data.toList = soleO true t a c ∧ Below w.heap.size w w' := by
  have n1 : (0 : Int) ≤ (k : Int) := by omega
  have n2 : (k : Int) < (N : Int) := by omega
  have n3 : (N : Int) ≤ 4096 := by omega
  have hnm := hs.n
  have htx := hs.x
  have hbA : Below w.heap.size w (w.alloc (.cells #[.int .i64 t.kind, .string t.name, .slice va t.attrs.length vc, .string t.text] 53)) := (Below.refl _ _).alloc (Nat.le_refl _) _
  have HBA := hide hbA
  have HKB : Hid ((w.alloc (.cells #[.int .i64 t.kind, .string t.name, .slice va t.attrs.length vc, .string t.text] 53)).heap[w.heap.size]? = some (.cells #[.int .i64 t.kind, .string t.name, .slice va t.attrs.length vc, .string t.text] 53 (0, 0))) := hide (alloc_newO w _)
  have m1 : (0 : Int) < (k : Int) := by omega
  have HES : Hid (∀ W, Calls Tryz.prog 38 #[.string t.text] W fun e w' => e = .returned (.string ⟨(mapO escO t.text.data.toList).toArray⟩) ∧ w' = W) := hide fun W => refEscape_any t.text W htx
  have HSO := hide (one_text true (a := a) (c := c) hkd)
  rw [hkd] at c0 HBA HKB
  have p0a := keptC (unhide HBA) p0
  have p1a := keptC (unhide HBA) p1
  clear hs hbA hlt hkd
  go_enter Tryz.func19, Tryz.ntmps19
  have HF : Hid ((⟨(mapO escO t.text.data.toList).toArray⟩ : ByteArray).data.toList = soleO true t a c) := hide (by rw [unhide HSO, if_neg (fun e => by rw [rawS_no hA] at e; cases e.2)])
  go_wp2_with fail
  refine (unhide HES _).mono ?_
  rintro e w5 ⟨rfl, rfl⟩
  go_wp2
  go_ret
  exact ⟨_, rfl, unhide HF, (unhide HBA)⟩
set_option maxRecDepth 100000 in
set_option maxHeartbeats 8000000 in
theorem one_w2k5 (N g o cap k : Nat) (t a c : BTok) (va : Option Addr) (vc : Nat) (w : World) (hN : N ≤ 4096) (hlt : k < N) (hkd : t.kind = 5) (c0 : w.cell? ⟨g, o + k * 4, none⟩ = some (.int .i64 t.kind)) (c1 : w.cell? ⟨g, o + k * 4 + 1, none⟩ = some (.string t.name)) (c2 : w.cell? ⟨g, o + k * 4 + 2, none⟩ = some (.slice va t.attrs.length vc)) (c3 : w.cell? ⟨g, o + k * 4 + 3, none⟩ = some (.string t.text)) (hs : Small t) (p0 : w.cell? ⟨g, o + (k - 1) * 4, none⟩ = some (.int .i64 a.kind)) (p1 : w.cell? ⟨g, o + (k - 1) * 4 + 1, none⟩ = some (.string a.name)) (hk0 : 0 < k) (hA : ¬ a.kind = 2) :
    Calls Tryz.prog 19 #[.slice (some ⟨g, o, none⟩) N cap, .int .i64 (k : Nat), .bool true] w fun e w' => ∃ s : ByteArray, e = .returned (.string s) ∧ s.data.toList = soleO true t a c ∧ Below w.heap.size w w' := by
  have n1 : (0 : Int) ≤ (k : Int) := by omega
  have n2 : (k : Int) < (N : Int) := by omega
  have n3 : (N : Int) ≤ 4096 := by omega
  have hnm := hs.n
  have htx := hs.x
  have hbA : Below w.heap.size w (w.alloc (.cells #[.int .i64 t.kind, .string t.name, .slice va t.attrs.length vc, .string t.text] 53)) := (Below.refl _ _).alloc (Nat.le_refl _) _
  have HBA := hide hbA
  have HKB : Hid ((w.alloc (.cells #[.int .i64 t.kind, .string t.name, .slice va t.attrs.length vc, .string t.text] 53)).heap[w.heap.size]? = some (.cells #[.int .i64 t.kind, .string t.name, .slice va t.attrs.length vc, .string t.text] 53 (0, 0))) := hide (alloc_newO w _)
  have m1 : (0 : Int) < (k : Int) := by omega
  have HSO := hide (one_com true (a := a) (c := c) hkd)
  rw [hkd] at c0 HBA HKB
  have p0a := keptC (unhide HBA) p0
  have p1a := keptC (unhide HBA) p1
  clear hs hbA hlt hkd
  go_enter Tryz.func19, Tryz.ntmps19
  have HF : Hid (((⟨#[60, 33, 45, 45]⟩ : ByteArray) ++ t.text ++ ⟨#[45, 45, 62]⟩).data.toList = soleO true t a c) := hide (by rw [unhide HSO]; simp [ByteArray.data_append])
  go_wp2
  go_ret
  exact ⟨_, rfl, unhide HF, (unhide HBA)⟩
set_option maxRecDepth 100000 in
set_option maxHeartbeats 8000000 in
theorem one_w2k6 (N g o cap k : Nat) (t a c : BTok) (va : Option Addr) (vc : Nat) (w : World) (hN : N ≤ 4096) (hlt : k < N) (hkd : t.kind = 6) (c0 : w.cell? ⟨g, o + k * 4, none⟩ = some (.int .i64 t.kind)) (c1 : w.cell? ⟨g, o + k * 4 + 1, none⟩ = some (.string t.name)) (c2 : w.cell? ⟨g, o + k * 4 + 2, none⟩ = some (.slice va t.attrs.length vc)) (c3 : w.cell? ⟨g, o + k * 4 + 3, none⟩ = some (.string t.text)) (hs : Small t) (p0 : w.cell? ⟨g, o + (k - 1) * 4, none⟩ = some (.int .i64 a.kind)) (p1 : w.cell? ⟨g, o + (k - 1) * 4 + 1, none⟩ = some (.string a.name)) (hk0 : 0 < k) (hA : ¬ a.kind = 2) :
    Calls Tryz.prog 19 #[.slice (some ⟨g, o, none⟩) N cap, .int .i64 (k : Nat), .bool true] w fun e w' => ∃ s : ByteArray, e = .returned (.string s) ∧ s.data.toList = soleO true t a c ∧ Below w.heap.size w w' := by
  have n1 : (0 : Int) ≤ (k : Int) := by omega
  have n2 : (k : Int) < (N : Int) := by omega
  have n3 : (N : Int) ≤ 4096 := by omega
  have hnm := hs.n
  have htx := hs.x
  have hbA : Below w.heap.size w (w.alloc (.cells #[.int .i64 t.kind, .string t.name, .slice va t.attrs.length vc, .string t.text] 53)) := (Below.refl _ _).alloc (Nat.le_refl _) _
  have HBA := hide hbA
  have HKB : Hid ((w.alloc (.cells #[.int .i64 t.kind, .string t.name, .slice va t.attrs.length vc, .string t.text] 53)).heap[w.heap.size]? = some (.cells #[.int .i64 t.kind, .string t.name, .slice va t.attrs.length vc, .string t.text] 53 (0, 0))) := hide (alloc_newO w _)
  have m1 : (0 : Int) < (k : Int) := by omega
  have HSO := hide (one_ins true (a := a) (c := c) hkd)
  rw [hkd] at c0 HBA HKB
  have p0a := keptC (unhide HBA) p0
  have p1a := keptC (unhide HBA) p1
  clear hs hbA hlt hkd
  go_enter Tryz.func19, Tryz.ntmps19
  cases hte : t.text.toList.isEmpty with
  | true =>
    have HF : Hid ((((⟨#[60, 63]⟩ : ByteArray) ++ t.name) ++ ⟨#[62]⟩).data.toList = soleO true t a c) := hide (by rw [unhide HSO, hte]; simp [ByteArray.data_append])
    go_wp2
    go_ret
    exact ⟨_, rfl, unhide HF, (unhide HBA)⟩
  | false =>
    have HF : Hid ((((⟨#[60, 63]⟩ : ByteArray) ++ t.name) ++ (⟨#[32]⟩ ++ t.text) ++ ⟨#[62]⟩).data.toList = soleO true t a c) := hide (by rw [unhide HSO, hte]; simp [ByteArray.data_append])
    go_wp2
    go_ret
    exact ⟨_, rfl, unhide HF, (unhide HBA)⟩
set_option maxRecDepth 100000 in
set_option maxHeartbeats 8000000 in
theorem one_w3k2 (N g o cap k : Nat) (t a c : BTok) (va : Option Addr) (vc : Nat) (w : World) (hN : N ≤ 4096) (hkd : t.kind = 2) (c0 : w.cell? ⟨g, o + k * 4, none⟩ = some (.int .i64 t.kind)) (c1 : w.cell? ⟨g, o + k * 4 + 1, none⟩ = some (.string t.name)) (c2 : w.cell? ⟨g, o + k * 4 + 2, none⟩ = some (.slice va t.attrs.length vc)) (c3 : w.cell? ⟨g, o + k * 4 + 3, none⟩ = some (.string t.text)) (hpv : PairsArg w (.slice va t.attrs.length vc) t.attrs) (hs : Small t) (hf : t.attrs.length ≤ 64) (p0 : w.cell? ⟨g, o + (k - 1) * 4, none⟩ = some (.int .i64 a.kind)) (p1 : w.cell? ⟨g, o + (k - 1) * 4 + 1, none⟩ = some (.string a.name)) (hk1 : k + 1 < N) (q0 : w.cell? ⟨g, o + (k + 1) * 4, none⟩ = some (.int .i64 c.kind)) (ha : a.name.size ≤ 1048576) (hk0 : 0 < k) (hA : a.kind = 2) :
    Calls Tryz.prog 19 #[.slice (some ⟨g, o, none⟩) N cap, .int .i64 (k : Nat), .bool true] w fun e w' => ∃ s : ByteArray, e = .returned (.string s) ∧ s.data.toList = soleO true t a c ∧ Below w.heap.size w w' := by
  have n1 : (0 : Int) ≤ (k : Int) := by omega
  have n2 : (k : Int) < (N : Int) := by omega
  have n3 : (N : Int) ≤ 4096 := by omega
  have hnm := hs.n
  have htx := hs.x
  have hbA : Below w.heap.size w (w.alloc (.cells #[.int .i64 t.kind, .string t.name, .slice va t.attrs.length vc, .string t.text] 53)) := (Below.refl _ _).alloc (Nat.le_refl _) _
  have HBA := hide hbA
  have HKB : Hid ((w.alloc (.cells #[.int .i64 t.kind, .string t.name, .slice va t.attrs.length vc, .string t.text] 53)).heap[w.heap.size]? = some (.cells #[.int .i64 t.kind, .string t.name, .slice va t.attrs.length vc, .string t.text] 53 (0, 0))) := hide (alloc_newO w _)
  have m1 : (0 : Int) < (k : Int) := by omega
  have m3 : (k : Int) + 1 < (N : Int) := by omega
  have HST : Hid (∀ W, Below w.heap.size w W → Calls Tryz.prog 37 #[.agg #[.int .i64 t.kind, .string t.name, .slice va t.attrs.length vc, .string t.text], .bool true] W fun e w' => ∃ s : ByteArray, e = .returned (.string s) ∧ s.data.toList = startO true t ∧ Below W.heap.size W w') := hide fun W hb => refStart_any true t (va, vc) W (hpv.below hb) hs hf
  have HSL : Hid ((startO true t).length ≤ 480000000) := hide (by
    have h1 := startK_len (h := true) (t := t) t.attrs.length hs hf
    unfold startK at h1
    rw [List.take_length] at h1
    exact h1)
  have HRAW := hide (fun W => refRaw_any a.name W ha)
  have HSO := hide (one_elem true (a := a) (c := c) hkd)
  rw [hkd] at c0 HBA HKB HST
  have hA2 := hA
  rw [hA] at p0
  have p0a := keptC (unhide HBA) p0
  have p1a := keptC (unhide HBA) p1
  have q0a := keptC (unhide HBA) q0
  clear hpv hf hs hbA hkd
  go_enter Tryz.func19, Tryz.ntmps19
  go_wp2_with fail
  refine (unhide HRAW _).mono ?_
  rintro e w1 ⟨rfl, hb1⟩
  have hkb := (hb1.block w.heap.size (by simp)).trans (unhide HKB)
  have k0 : w1.cell? ⟨w.heap.size, 0, none⟩ = some (.int .i64 2) := by rw [Lib.cell_of_heap hkb]; rfl
  have k1 : w1.cell? ⟨w.heap.size, 1, none⟩ = some (.string t.name) := by rw [Lib.cell_of_heap hkb]; rfl
  have k2 : w1.cell? ⟨w.heap.size, 2, none⟩ = some (.slice va t.attrs.length vc) := by rw [Lib.cell_of_heap hkb]; rfl
  have k3 : w1.cell? ⟨w.heap.size, 3, none⟩ = some (.string t.text) := by rw [Lib.cell_of_heap hkb]; rfl
  have hb01 := Below.then (unhide HBA) hb1
  have HKB1 := hide hkb
  have r0 := keptC hb01 p0
  have r1 := keptC hb01 q0
  clear hkb
  cases hraw : rawB a.name with
  | true =>
    by_cases hc : c.kind = 7
    · rw [hc] at r1
      go_wp2_with fail
      refine (unhide HST _ hb01).mono ?_
      rintro e w5 ⟨E, rfl, hE, hb5⟩
      have hEs : E.size ≤ 480000000 := by
        have h1 := unhide HSL
        rw [← hE] at h1
        exact h1
      have HF : Hid ((E ++ ⟨#[62]⟩).data.toList = soleO true t a c) := hide (by
        rw [unhide HSO, if_neg (by simp), ← hE]
        exact bytes_two _ _ _ _ rfl rfl)
      clear hE
      go_wp2
      go_ret
      exact ⟨_, rfl, unhide HF, Below.then hb01 hb5⟩
    ·
      go_wp2_with fail
      refine (unhide HST _ hb01).mono ?_
      rintro e w5 ⟨E, rfl, hE, hb5⟩
      have hEs : E.size ≤ 480000000 := by
        have h1 := unhide HSL
        rw [← hE] at h1
        exact h1
      have HF : Hid ((E ++ ⟨#[62]⟩).data.toList = soleO true t a c) := hide (by
        rw [unhide HSO, if_neg (by simp), ← hE]
        exact bytes_two _ _ _ _ rfl rfl)
      clear hE
      go_wp2
      go_ret
      exact ⟨_, rfl, unhide HF, Below.then hb01 hb5⟩
  | false =>
    by_cases hc : c.kind = 7
    · rw [hc] at r1
      go_wp2_with fail
      refine (unhide HST _ hb01).mono ?_
      rintro e w5 ⟨E, rfl, hE, hb5⟩
      have hEs : E.size ≤ 480000000 := by
        have h1 := unhide HSL
        rw [← hE] at h1
        exact h1
      have HF : Hid ((E ++ ⟨#[62]⟩).data.toList = soleO true t a c) := hide (by
        rw [unhide HSO, if_neg (by simp), ← hE]
        exact bytes_two _ _ _ _ rfl rfl)
      clear hE
      go_wp2
      go_ret
      exact ⟨_, rfl, unhide HF, Below.then hb01 hb5⟩
    ·
      go_wp2_with fail
      refine (unhide HST _ hb01).mono ?_
      rintro e w5 ⟨E, rfl, hE, hb5⟩
      have hEs : E.size ≤ 480000000 := by
        have h1 := unhide HSL
        rw [← hE] at h1
        exact h1
      have HF : Hid ((E ++ ⟨#[62]⟩).data.toList = soleO true t a c) := hide (by
        rw [unhide HSO, if_neg (by simp), ← hE]
        exact bytes_two _ _ _ _ rfl rfl)
      clear hE
      go_wp2
      go_ret
      exact ⟨_, rfl, unhide HF, Below.then hb01 hb5⟩
set_option maxRecDepth 100000 in
set_option maxHeartbeats 8000000 in
theorem one_w3k7 (N g o cap k : Nat) (t a c : BTok) (va : Option Addr) (vc : Nat) (w : World) (hN : N ≤ 4096) (hlt : k < N) (hkd : t.kind = 7) (c0 : w.cell? ⟨g, o + k * 4, none⟩ = some (.int .i64 t.kind)) (c1 : w.cell? ⟨g, o + k * 4 + 1, none⟩ = some (.string t.name)) (c2 : w.cell? ⟨g, o + k * 4 + 2, none⟩ = some (.slice va t.attrs.length vc)) (c3 : w.cell? ⟨g, o + k * 4 + 3, none⟩ = some (.string t.text)) (hs : Small t) (p0 : w.cell? ⟨g, o + (k - 1) * 4, none⟩ = some (.int .i64 a.kind)) (p1 : w.cell? ⟨g, o + (k - 1) * 4 + 1, none⟩ = some (.string a.name)) (ha : a.name.size ≤ 1048576) (hk0 : 0 < k) (hA : a.kind = 2) :
    Calls Tryz.prog 19 #[.slice (some ⟨g, o, none⟩) N cap, .int .i64 (k : Nat), .bool true] w fun e w' => ∃ s : ByteArray, e = .returned (.string s) ∧ s.data.toList = soleO true t a c ∧ Below w.heap.size w w' := by
  have n1 : (0 : Int) ≤ (k : Int) := by omega
  have n2 : (k : Int) < (N : Int) := by omega
  have n3 : (N : Int) ≤ 4096 := by omega
  have hnm := hs.n
  have htx := hs.x
  have hbA : Below w.heap.size w (w.alloc (.cells #[.int .i64 t.kind, .string t.name, .slice va t.attrs.length vc, .string t.text] 53)) := (Below.refl _ _).alloc (Nat.le_refl _) _
  have HBA := hide hbA
  have HKB : Hid ((w.alloc (.cells #[.int .i64 t.kind, .string t.name, .slice va t.attrs.length vc, .string t.text] 53)).heap[w.heap.size]? = some (.cells #[.int .i64 t.kind, .string t.name, .slice va t.attrs.length vc, .string t.text] 53 (0, 0))) := hide (alloc_newO w _)
  have m1 : (0 : Int) < (k : Int) := by omega
  have HVO := hide (fun W => refVoid_any t.name W hnm)
  have HRAW := hide (fun W => refRaw_any a.name W ha)
  have HSO := hide (one_fin true (a := a) (c := c) hkd)
  rw [hkd] at c0 HBA HKB
  have hA2 := hA
  rw [hA] at p0
  have p0a := keptC (unhide HBA) p0
  have p1a := keptC (unhide HBA) p1
  clear hs hbA hlt hkd
  go_enter Tryz.func19, Tryz.ntmps19
  go_wp2_with fail
  refine (unhide HRAW _).mono ?_
  rintro e w1 ⟨rfl, hb1⟩
  have hkb := (hb1.block w.heap.size (by simp)).trans (unhide HKB)
  have k0 : w1.cell? ⟨w.heap.size, 0, none⟩ = some (.int .i64 7) := by rw [Lib.cell_of_heap hkb]; rfl
  have k1 : w1.cell? ⟨w.heap.size, 1, none⟩ = some (.string t.name) := by rw [Lib.cell_of_heap hkb]; rfl
  have k2 : w1.cell? ⟨w.heap.size, 2, none⟩ = some (.slice va t.attrs.length vc) := by rw [Lib.cell_of_heap hkb]; rfl
  have k3 : w1.cell? ⟨w.heap.size, 3, none⟩ = some (.string t.text) := by rw [Lib.cell_of_heap hkb]; rfl
  have hb01 := Below.then (unhide HBA) hb1
  have HKB1 := hide hkb
  have r0 := keptC hb01 p0
  clear hkb
  cases hraw : rawB a.name with
  | true =>
    go_wp2_with fail
    refine (unhide HVO _).mono ?_
    rintro e w5 ⟨rfl, hb5⟩
    have hkb5 := (hb5.block w.heap.size (Array.getElem?_eq_some_iff.1 (unhide HKB1)).1).trans (unhide HKB1)
    have j1 : w5.cell? ⟨w.heap.size, 1, none⟩ = some (.string t.name) := by rw [Lib.cell_of_heap hkb5]; rfl
    have hb05 := Below.then hb01 hb5
    clear hkb5
    cases hvo : voidB t.name with
    | true =>
      have HF : Hid ((⟨#[]⟩ : ByteArray).data.toList = soleO true t a c) := hide (by rw [unhide HSO, if_pos (.inr ⟨by first | rfl | trivial, hvo⟩)])
      go_wp2
      go_ret
      exact ⟨_, rfl, unhide HF, hb05⟩
    | false =>
      have HF : Hid ((((⟨#[60, 47]⟩ : ByteArray) ++ t.name) ++ ⟨#[62]⟩).data.toList = soleO true t a c) := hide (by rw [unhide HSO, if_neg (by simp [hvo])]; simp [ByteArray.data_append])
      go_wp2
      go_ret
      exact ⟨_, rfl, unhide HF, hb05⟩
  | false =>
    go_wp2_with fail
    refine (unhide HVO _).mono ?_
    rintro e w5 ⟨rfl, hb5⟩
    have hkb5 := (hb5.block w.heap.size (Array.getElem?_eq_some_iff.1 (unhide HKB1)).1).trans (unhide HKB1)
    have j1 : w5.cell? ⟨w.heap.size, 1, none⟩ = some (.string t.name) := by rw [Lib.cell_of_heap hkb5]; rfl
    have hb05 := Below.then hb01 hb5
    clear hkb5
    cases hvo : voidB t.name with
    | true =>
      have HF : Hid ((⟨#[]⟩ : ByteArray).data.toList = soleO true t a c) := hide (by rw [unhide HSO, if_pos (.inr ⟨by first | rfl | trivial, hvo⟩)])
      go_wp2
      go_ret
      exact ⟨_, rfl, unhide HF, hb05⟩
    | false =>
      have HF : Hid ((((⟨#[60, 47]⟩ : ByteArray) ++ t.name) ++ ⟨#[62]⟩).data.toList = soleO true t a c) := hide (by rw [unhide HSO, if_neg (by simp [hvo])]; simp [ByteArray.data_append])
      go_wp2
      go_ret
      exact ⟨_, rfl, unhide HF, hb05⟩
set_option maxRecDepth 100000 in
set_option maxHeartbeats 8000000 in
theorem one_w3k4 (N g o cap k : Nat) (t a c : BTok) (va : Option Addr) (vc : Nat) (w : World) (hN : N ≤ 4096) (hlt : k < N) (hkd : t.kind = 4) (c0 : w.cell? ⟨g, o + k * 4, none⟩ = some (.int .i64 t.kind)) (c1 : w.cell? ⟨g, o + k * 4 + 1, none⟩ = some (.string t.name)) (c2 : w.cell? ⟨g, o + k * 4 + 2, none⟩ = some (.slice va t.attrs.length vc)) (c3 : w.cell? ⟨g, o + k * 4 + 3, none⟩ = some (.string t.text)) (hs : Small t) (p0 : w.cell? ⟨g, o + (k - 1) * 4, none⟩ = some (.int .i64 a.kind)) (p1 : w.cell? ⟨g, o + (k - 1) * 4 + 1, none⟩ = some (.string a.name)) (ha : a.name.size ≤ 1048576) (hk0 : 0 < k) (hA : a.kind = 2) :
    Calls Tryz.prog 19 #[.slice (some ⟨g, o, none⟩) N cap, .int .i64 (k : Nat), .bool true] w fun e w' => ∃ s : ByteArray, e = .returned (.string s) ∧ s.data.toList = soleO true t a c ∧ Below w.heap.size w w' := by
  have n1 : (0 : Int) ≤ (k : Int) := by omega
  have n2 : (k : Int) < (N : Int) := by omega
  have n3 : (N : Int) ≤ 4096 := by omega
  have hnm := hs.n
  have htx := hs.x
  have hbA : Below w.heap.size w (w.alloc (.cells #[.int .i64 t.kind, .string t.name, .slice va t.attrs.length vc, .string t.text] 53)) := (Below.refl _ _).alloc (Nat.le_refl _) _
  have HBA := hide hbA
  have HKB : Hid ((w.alloc (.cells #[.int .i64 t.kind, .string t.name, .slice va t.attrs.length vc, .string t.text] 53)).heap[w.heap.size]? = some (.cells #[.int .i64 t.kind, .string t.name, .slice va t.attrs.length vc, .string t.text] 53 (0, 0))) := hide (alloc_newO w _)
  have m1 : (0 : Int) < (k : Int) := by omega
  have HES : Hid (∀ W, Calls Tryz.prog 38 #[.string t.text] W fun e w' => e = .returned (.string ⟨(mapO escO t.text.data.toList).toArray⟩) ∧ w' = W) := hide fun W => refEscape_any t.text W htx
  have HRAW := hide (fun W => refRaw_any a.name W ha)
  have HSO := hide (one_text true (a := a) (c := c) hkd)
  rw [hkd] at c0 HBA HKB
  have hA2 := hA
  rw [hA] at p0
  have p0a := keptC (unhide HBA) p0
  have p1a := keptC (unhide HBA) p1
  clear hs hbA hlt hkd
  go_enter Tryz.func19, Tryz.ntmps19
  go_wp2_with fail
  refine (unhide HRAW _).mono ?_
  rintro e w1 ⟨rfl, hb1⟩
  have hkb := (hb1.block w.heap.size (by simp)).trans (unhide HKB)
  have k0 : w1.cell? ⟨w.heap.size, 0, none⟩ = some (.int .i64 4) := by rw [Lib.cell_of_heap hkb]; rfl
  have k1 : w1.cell? ⟨w.heap.size, 1, none⟩ = some (.string t.name) := by rw [Lib.cell_of_heap hkb]; rfl
  have k2 : w1.cell? ⟨w.heap.size, 2, none⟩ = some (.slice va t.attrs.length vc) := by rw [Lib.cell_of_heap hkb]; rfl
  have k3 : w1.cell? ⟨w.heap.size, 3, none⟩ = some (.string t.text) := by rw [Lib.cell_of_heap hkb]; rfl
  have hb01 := Below.then (unhide HBA) hb1
  have HKB1 := hide hkb
  have r0 := keptC hb01 p0
  clear hkb
  cases hraw : rawB a.name with
  | true =>
    have HF : Hid (t.text.data.toList = soleO true t a c) := hide (by rw [unhide HSO, if_pos ⟨by first | rfl | trivial, by unfold rawS; rw [hA2, hraw]; rfl⟩])
    go_wp2
    go_ret
    exact ⟨_, rfl, unhide HF, hb01⟩
  | false =>
    have HF : Hid ((⟨(mapO escO t.text.data.toList).toArray⟩ : ByteArray).data.toList = soleO true t a c) := hide (by rw [unhide HSO, if_neg (fun e => by unfold rawS at e; rw [hraw, Bool.and_false] at e; cases e.2)])
    go_wp2_with fail
    refine (unhide HES _).mono ?_
    rintro e w5 ⟨rfl, rfl⟩
    go_wp2
    go_ret
    exact ⟨_, rfl, unhide HF, hb01⟩
set_option maxRecDepth 100000 in
set_option maxHeartbeats 8000000 in
theorem one_w3k5 (N g o cap k : Nat) (t a c : BTok) (va : Option Addr) (vc : Nat) (w : World) (hN : N ≤ 4096) (hlt : k < N) (hkd : t.kind = 5) (c0 : w.cell? ⟨g, o + k * 4, none⟩ = some (.int .i64 t.kind)) (c1 : w.cell? ⟨g, o + k * 4 + 1, none⟩ = some (.string t.name)) (c2 : w.cell? ⟨g, o + k * 4 + 2, none⟩ = some (.slice va t.attrs.length vc)) (c3 : w.cell? ⟨g, o + k * 4 + 3, none⟩ = some (.string t.text)) (hs : Small t) (p0 : w.cell? ⟨g, o + (k - 1) * 4, none⟩ = some (.int .i64 a.kind)) (p1 : w.cell? ⟨g, o + (k - 1) * 4 + 1, none⟩ = some (.string a.name)) (ha : a.name.size ≤ 1048576) (hk0 : 0 < k) (hA : a.kind = 2) :
    Calls Tryz.prog 19 #[.slice (some ⟨g, o, none⟩) N cap, .int .i64 (k : Nat), .bool true] w fun e w' => ∃ s : ByteArray, e = .returned (.string s) ∧ s.data.toList = soleO true t a c ∧ Below w.heap.size w w' := by
  have n1 : (0 : Int) ≤ (k : Int) := by omega
  have n2 : (k : Int) < (N : Int) := by omega
  have n3 : (N : Int) ≤ 4096 := by omega
  have hnm := hs.n
  have htx := hs.x
  have hbA : Below w.heap.size w (w.alloc (.cells #[.int .i64 t.kind, .string t.name, .slice va t.attrs.length vc, .string t.text] 53)) := (Below.refl _ _).alloc (Nat.le_refl _) _
  have HBA := hide hbA
  have HKB : Hid ((w.alloc (.cells #[.int .i64 t.kind, .string t.name, .slice va t.attrs.length vc, .string t.text] 53)).heap[w.heap.size]? = some (.cells #[.int .i64 t.kind, .string t.name, .slice va t.attrs.length vc, .string t.text] 53 (0, 0))) := hide (alloc_newO w _)
  have m1 : (0 : Int) < (k : Int) := by omega
  have HRAW := hide (fun W => refRaw_any a.name W ha)
  have HSO := hide (one_com true (a := a) (c := c) hkd)
  rw [hkd] at c0 HBA HKB
  have hA2 := hA
  rw [hA] at p0
  have p0a := keptC (unhide HBA) p0
  have p1a := keptC (unhide HBA) p1
  clear hs hbA hlt hkd
  go_enter Tryz.func19, Tryz.ntmps19
  go_wp2_with fail
  refine (unhide HRAW _).mono ?_
  rintro e w1 ⟨rfl, hb1⟩
  have hkb := (hb1.block w.heap.size (by simp)).trans (unhide HKB)
  have k0 : w1.cell? ⟨w.heap.size, 0, none⟩ = some (.int .i64 5) := by rw [Lib.cell_of_heap hkb]; rfl
  have k1 : w1.cell? ⟨w.heap.size, 1, none⟩ = some (.string t.name) := by rw [Lib.cell_of_heap hkb]; rfl
  have k2 : w1.cell? ⟨w.heap.size, 2, none⟩ = some (.slice va t.attrs.length vc) := by rw [Lib.cell_of_heap hkb]; rfl
  have k3 : w1.cell? ⟨w.heap.size, 3, none⟩ = some (.string t.text) := by rw [Lib.cell_of_heap hkb]; rfl
  have hb01 := Below.then (unhide HBA) hb1
  have HKB1 := hide hkb
  have r0 := keptC hb01 p0
  clear hkb
  cases hraw : rawB a.name with
  | true =>
    have HF : Hid (((⟨#[60, 33, 45, 45]⟩ : ByteArray) ++ t.text ++ ⟨#[45, 45, 62]⟩).data.toList = soleO true t a c) := hide (by rw [unhide HSO]; simp [ByteArray.data_append])
    go_wp2
    go_ret
    exact ⟨_, rfl, unhide HF, hb01⟩
  | false =>
    have HF : Hid (((⟨#[60, 33, 45, 45]⟩ : ByteArray) ++ t.text ++ ⟨#[45, 45, 62]⟩).data.toList = soleO true t a c) := hide (by rw [unhide HSO]; simp [ByteArray.data_append])
    go_wp2
    go_ret
    exact ⟨_, rfl, unhide HF, hb01⟩
set_option maxRecDepth 100000 in
set_option maxHeartbeats 8000000 in
theorem one_w3k6 (N g o cap k : Nat) (t a c : BTok) (va : Option Addr) (vc : Nat) (w : World) (hN : N ≤ 4096) (hlt : k < N) (hkd : t.kind = 6) (c0 : w.cell? ⟨g, o + k * 4, none⟩ = some (.int .i64 t.kind)) (c1 : w.cell? ⟨g, o + k * 4 + 1, none⟩ = some (.string t.name)) (c2 : w.cell? ⟨g, o + k * 4 + 2, none⟩ = some (.slice va t.attrs.length vc)) (c3 : w.cell? ⟨g, o + k * 4 + 3, none⟩ = some (.string t.text)) (hs : Small t) (p0 : w.cell? ⟨g, o + (k - 1) * 4, none⟩ = some (.int .i64 a.kind)) (p1 : w.cell? ⟨g, o + (k - 1) * 4 + 1, none⟩ = some (.string a.name)) (ha : a.name.size ≤ 1048576) (hk0 : 0 < k) (hA : a.kind = 2) :
    Calls Tryz.prog 19 #[.slice (some ⟨g, o, none⟩) N cap, .int .i64 (k : Nat), .bool true] w fun e w' => ∃ s : ByteArray, e = .returned (.string s) ∧ s.data.toList = soleO true t a c ∧ Below w.heap.size w w' := by
  have n1 : (0 : Int) ≤ (k : Int) := by omega
  have n2 : (k : Int) < (N : Int) := by omega
  have n3 : (N : Int) ≤ 4096 := by omega
  have hnm := hs.n
  have htx := hs.x
  have hbA : Below w.heap.size w (w.alloc (.cells #[.int .i64 t.kind, .string t.name, .slice va t.attrs.length vc, .string t.text] 53)) := (Below.refl _ _).alloc (Nat.le_refl _) _
  have HBA := hide hbA
  have HKB : Hid ((w.alloc (.cells #[.int .i64 t.kind, .string t.name, .slice va t.attrs.length vc, .string t.text] 53)).heap[w.heap.size]? = some (.cells #[.int .i64 t.kind, .string t.name, .slice va t.attrs.length vc, .string t.text] 53 (0, 0))) := hide (alloc_newO w _)
  have m1 : (0 : Int) < (k : Int) := by omega
  have HRAW := hide (fun W => refRaw_any a.name W ha)
  have HSO := hide (one_ins true (a := a) (c := c) hkd)
  rw [hkd] at c0 HBA HKB
  have hA2 := hA
  rw [hA] at p0
  have p0a := keptC (unhide HBA) p0
  have p1a := keptC (unhide HBA) p1
  clear hs hbA hlt hkd
  go_enter Tryz.func19, Tryz.ntmps19
  go_wp2_with fail
  refine (unhide HRAW _).mono ?_
  rintro e w1 ⟨rfl, hb1⟩
  have hkb := (hb1.block w.heap.size (by simp)).trans (unhide HKB)
  have k0 : w1.cell? ⟨w.heap.size, 0, none⟩ = some (.int .i64 6) := by rw [Lib.cell_of_heap hkb]; rfl
  have k1 : w1.cell? ⟨w.heap.size, 1, none⟩ = some (.string t.name) := by rw [Lib.cell_of_heap hkb]; rfl
  have k2 : w1.cell? ⟨w.heap.size, 2, none⟩ = some (.slice va t.attrs.length vc) := by rw [Lib.cell_of_heap hkb]; rfl
  have k3 : w1.cell? ⟨w.heap.size, 3, none⟩ = some (.string t.text) := by rw [Lib.cell_of_heap hkb]; rfl
  have hb01 := Below.then (unhide HBA) hb1
  have HKB1 := hide hkb
  have r0 := keptC hb01 p0
  clear hkb
  cases hraw : rawB a.name with
  | true =>
    cases hte : t.text.toList.isEmpty with
    | true =>
      have HF : Hid ((((⟨#[60, 63]⟩ : ByteArray) ++ t.name) ++ ⟨#[62]⟩).data.toList = soleO true t a c) := hide (by rw [unhide HSO, hte]; simp [ByteArray.data_append])
      go_wp2
      go_ret
      exact ⟨_, rfl, unhide HF, hb01⟩
    | false =>
      have HF : Hid ((((⟨#[60, 63]⟩ : ByteArray) ++ t.name) ++ (⟨#[32]⟩ ++ t.text) ++ ⟨#[62]⟩).data.toList = soleO true t a c) := hide (by rw [unhide HSO, hte]; simp [ByteArray.data_append])
      go_wp2
      go_ret
      exact ⟨_, rfl, unhide HF, hb01⟩
  | false =>
    cases hte : t.text.toList.isEmpty with
    | true =>
      have HF : Hid ((((⟨#[60, 63]⟩ : ByteArray) ++ t.name) ++ ⟨#[62]⟩).data.toList = soleO true t a c) := hide (by rw [unhide HSO, hte]; simp [ByteArray.data_append])
      go_wp2
      go_ret
      exact ⟨_, rfl, unhide HF, hb01⟩
    | false =>
      have HF : Hid ((((⟨#[60, 63]⟩ : ByteArray) ++ t.name) ++ (⟨#[32]⟩ ++ t.text) ++ ⟨#[62]⟩).data.toList = soleO true t a c) := hide (by rw [unhide HSO, hte]; simp [ByteArray.data_append])
      go_wp2
      go_ret
      exact ⟨_, rfl, unhide HF, hb01⟩
end Go.Proofs.YtmemcabipcccaaaGreatDoor
