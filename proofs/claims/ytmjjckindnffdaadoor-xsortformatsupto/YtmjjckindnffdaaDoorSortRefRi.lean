/- The reference's Read of Roman numbers. -/
import Derived.Test.YtmjjckindnffdaaDoorSortRefRd
namespace Go.Proofs.YtmjjckindnffdaaDoor
open Go.RowKit
set_option maxRecDepth 100000 in
set_option maxHeartbeats 2000000 in
theorem refRead_ie (w : World) :
    Calls Tryd.prog 14 #[.string ⟨#[]⟩, .string ⟨#[105]⟩] w fun e w' => (∃ r, AnsR .i [] r ∧ e = .returned (readV r)) ∧ Below w.heap.size w w' := by
  have HF1 := hide (fun u => refFormat_i 1 u (by decide) (by decide))
  have HA := hide (ans_out ((signs_i [] (fun x r e => by cases e)).end (by decide) 0 (Or.inl (Nat.le_refl _))) (Or.inl (by decide)))
  generalize (⟨(wrF .i 1).toArray⟩ : ByteArray) = T1 at *
  go_enter Tryd.func14, Tryd.ntmps14
  go_wp2_with fail
  refine (unhide HF1 _).mono ?_
  rintro e w1 ⟨rfl, hb1⟩
  clear HF1
  go_wp2_with fail
  go_loop [8, 14] (fun v i => v = .int .i64 0 ∧ i = .int .i64 0) (fun _ i => vNat i)
  case atStart => exact ⟨rfl, rfl⟩
  case round =>
    obtain ⟨rfl, rfl⟩ := hrel
    go_wp2_with fail
    go_ret2
    exact ⟨⟨none, unhide HA, rfl⟩, hb1⟩
set_option maxRecDepth 100000 in
set_option maxHeartbeats 2000000 in
theorem refRead_id (t : List UInt8) (c : UInt8) (r : List UInt8) (w : World) (hs : t.length ≤ 1048576) (hcr : t = c :: r) (hcd : 48 ≤ c.toNat ∧ c.toNat ≤ 57) :
    Calls Tryd.prog 14 #[.string ⟨t.toArray⟩, .string ⟨#[105]⟩] w fun e w' => (∃ r, AnsR .i t r ∧ e = .returned (readV r)) ∧ Below w.heap.size w w' := by
  have HFx := hide (show ∀ (n : Nat) (u : World), 1 ≤ n → n < 9223372036854775808 → Calls Tryd.prog 12 #[.int .i64 (n : Int), .string ⟨#[105]⟩] u fun e w' => e = .returned (.tuple #[.string ⟨(wrF .i n).toArray⟩, .int .i64 0]) ∧ Below u.heap.size u w' from fun n u h1 h2 => refFormat_i n u h1 h2)
  have HF1 := hide (show ∀ u, Calls Tryd.prog 12 #[.int .i64 1, .string ⟨#[105]⟩] u fun e w' => e = .returned (.tuple #[.string ⟨(wrF .i 1).toArray⟩, .int .i64 0]) ∧ Below u.heap.size u w' from fun u => unhide HFx 1 u (by decide) (by decide))
  have hsz0 : (⟨t.toArray⟩ : ByteArray).size = t.length := mk_size t
  have HSG := hide (signs_i t (fun x r' e => by rw [hcr] at e; obtain ⟨e1, _⟩ := List.cons.inj e; rw [← e1]; exact hcd))
  have htn : ¬ t = [] := by rw [hcr]; simp
  have hem : t.isEmpty = false := by rw [hcr]; rfl
  have h0l : 0 < t.length := by rw [hcr]; simp
  have h00 : 0 < (⟨t.toArray⟩ : ByteArray).size := by
    rw [hsz0, hcr]
    simp
  have h00' : (0 : Int) < ((⟨t.toArray⟩ : ByteArray).size : Int) := by omega
  obtain ⟨C0, hC0⟩ : ∃ C0 : Int, (((⟨t.toArray⟩ : ByteArray)[0]'h00).toNat : Int) = C0 := ⟨_, rfl⟩
  have hC1 : C0 = (c.toNat : Int) := by
    subst hcr
    exact hC0.symm
  have q1 : ¬ C0 < 48 := by omega
  have q2 : ¬ 57 < C0 := by omega
  clear hC1 hcd hcr
  generalize (⟨(wrF .i 1).toArray⟩ : ByteArray) = T1 at *
  go_enter Tryd.func14, Tryd.ntmps14
  go_wp2_with fail
  refine (unhide HF1 _).mono ?_
  rintro e w1 ⟨rfl, hb1⟩
  clear HF1
  go_wp2_with fail
  go_loop [8, 14] (fun v i => ∃ k : Nat, k ≤ t.length ∧ i = .int .i64 (k : Int) ∧ v = .int .i64 ((valV 10 48 (t.take k) : Nat) : Int)) (fun _ i => t.length - vNat i)
  case atStart => exact ⟨0, Nat.zero_le _, rfl, rfl⟩
  case round =>
    obtain ⟨k, hk, rfl, rfl⟩ := hrel
    obtain ⟨x, hx⟩ : ∃ x, x = valV 10 48 (t.take k) := ⟨_, rfl⟩
    rw [← hx]
    obtain ⟨X, hX⟩ : ∃ X : Int, (x : Int) = X := ⟨_, rfl⟩
    rw [hX]
    by_cases hc : k < t.length ∧ x ≤ 1000000000
    · obtain ⟨hk1, hx9⟩ := hc
      have hks : k < (⟨t.toArray⟩ : ByteArray).size := by omega
      have hks' : (k : Int) < ((⟨t.toArray⟩ : ByteArray).size : Int) := by omega
      have hX9 : X ≤ 1000000000 := by omega
      obtain ⟨C, hC⟩ : ∃ C : Int, (t[k].toNat : Int) = C := ⟨_, rfl⟩
      have hC' : (((⟨t.toArray⟩ : ByteArray)[k]'hks).toNat : Int) = C := hC
      by_cases hin : 48 ≤ t[k].toNat ∧ t[k].toNat ≤ 57
      · have g1 : ¬ C < 48 := by omega
        have g2 : ¬ 57 < C := by omega
        obtain ⟨D, e1, e2, e2', hD⟩ := rd_dig t[k] hin
        have hnx := rd_next 10 48 (by decide) t k hk1 x hx hx9 D (by rw [hD]; omega) (by omega)
        rw [hX] at hnx
        rw [hC] at e1
        have HN := hide hnx
        clear hin hC hD hx hX hnx
        generalize (⟨t.toArray⟩ : ByteArray) = S at *
        go_wp2_with fail
        refine ⟨⟨k + 1, hk1, by rw [Int.natCast_add]; rfl, by rw [← unhide HN]; rfl⟩, ?_⟩
        show t.length - ((k : Int) + 1).toNat < t.length - (k : Int).toNat
        omega
      · have HA := hide ((unhide HSG).stop k hk1 hin)
        have g : C < 48 ∨ ¬ C < 48 ∧ 57 < C := by omega
        clear hin hC hx hX
        generalize (⟨t.toArray⟩ : ByteArray) = S at *
        rcases g with g | ⟨g, g'⟩
        · go_wp2_with fail
          go_ret2
          exact ⟨⟨none, unhide HA, rfl⟩, hb1⟩
        · go_wp2_with fail
          go_ret2
          exact ⟨⟨none, unhide HA, rfl⟩, hb1⟩
    · have HO := hide (show OnlyR .i t x by
        rw [hx]
        exact (unhide HSG).end (by decide) k (by omega))
      have hcc : ¬ (k : Int) < ((⟨t.toArray⟩ : ByteArray).size : Int) ∨ (k : Int) < ((⟨t.toArray⟩ : ByteArray).size : Int) ∧ ¬ X ≤ 1000000000 := by omega
      clear hc hx
      rcases hcc with hcc | ⟨hcc, hcd⟩
      · have ho := unhide HO
        by_cases g1 : x < 1
        · have g1' : X < 1 := by omega
          have HA := hide (ans_out ho (Or.inl g1))
          clear ho HO
          go_wp2_with fail
          go_ret2
          exact ⟨⟨none, unhide HA, rfl⟩, hb1⟩
        · by_cases g2 : 1000000000 < x
          · have g1' : ¬ X < 1 := by omega
            have g2' : 1000000000 < X := by omega
            have HA := hide (ans_out ho (Or.inr g2))
            clear ho HO
            go_wp2_with fail
            go_ret2
            exact ⟨⟨none, unhide HA, rfl⟩, hb1⟩
          · have g1' : ¬ X < 1 := by omega
            have g2' : ¬ 1000000000 < X := by omega
            have HC := hide (show ∀ u, Calls Tryd.prog 12 #[.int .i64 X, .string ⟨#[105]⟩] u fun e w' => e = .returned (.tuple #[.string ⟨(wrF .i x).toArray⟩, .int .i64 0]) ∧ Below u.heap.size u w' from fun u => by
              rw [← hX]
              exact unhide HFx x u (by omega) (by omega))
            by_cases g3 : wrF .i x = t
            · have hq := str_beq (wrF .i x) t true (by simp [g3])
              have HA := hide (ans_yes (by omega) (by omega) g3)
              have HX := hide hX
              clear ho HO g3 hX
              generalize (⟨(wrF .i x).toArray⟩ : ByteArray) = T at *
              generalize (⟨t.toArray⟩ : ByteArray) = S at *
              go_wp2_with fail
              refine (unhide HC _).mono ?_
              rintro e w9 ⟨rfl, hb9⟩
              go_wp2_with fail
              go_ret2
              exact ⟨⟨_, unhide HA, by rw [← unhide HX]; rfl⟩, Below.then hb1 hb9⟩
            · have hq := str_beq (wrF .i x) t false (by simp [g3])
              have HA := hide (ans_no ho g3)
              clear ho HO g3
              generalize (⟨(wrF .i x).toArray⟩ : ByteArray) = T at *
              generalize (⟨t.toArray⟩ : ByteArray) = S at *
              go_wp2_with fail
              refine (unhide HC _).mono ?_
              rintro e w9 ⟨rfl, hb9⟩
              go_wp2_with fail
              go_ret2
              exact ⟨⟨none, unhide HA, rfl⟩, Below.then hb1 hb9⟩
      · have g2 : 1000000000 < x := by omega
        have g1' : ¬ X < 1 := by omega
        have g2' : 1000000000 < X := by omega
        have HA := hide (ans_out (unhide HO) (Or.inr g2))
        clear HO
        go_wp2_with fail
        go_ret2
        exact ⟨⟨none, unhide HA, rfl⟩, hb1⟩
set_option maxRecDepth 100000 in
set_option maxHeartbeats 2000000 in
theorem refRead_irl (t : List UInt8) (c : UInt8) (r : List UInt8) (w : World) (hs : t.length ≤ 1048576) (hcr : t = c :: r) (hcd : ¬ (48 ≤ c.toNat)) :
    Calls Tryd.prog 14 #[.string ⟨t.toArray⟩, .string ⟨#[105]⟩] w fun e w' => (∃ r, AnsR .i t r ∧ e = .returned (readV r)) ∧ Below w.heap.size w w' := by
  have HFx := hide (show ∀ (n : Nat) (u : World), 1 ≤ n → n < 9223372036854775808 → Calls Tryd.prog 12 #[.int .i64 (n : Int), .string ⟨#[105]⟩] u fun e w' => e = .returned (.tuple #[.string ⟨(wrF .i n).toArray⟩, .int .i64 0]) ∧ Below u.heap.size u w' from fun n u h1 h2 => refFormat_i n u h1 h2)
  have HF1 := hide (show ∀ u, Calls Tryd.prog 12 #[.int .i64 1, .string ⟨#[105]⟩] u fun e w' => e = .returned (.tuple #[.string ⟨(wrF .i 1).toArray⟩, .int .i64 0]) ∧ Below u.heap.size u w' from fun u => unhide HFx 1 u (by decide) (by decide))
  have hsz0 : (⟨t.toArray⟩ : ByteArray).size = t.length := mk_size t
  have htn : ¬ t = [] := by rw [hcr]; simp
  have hem : t.isEmpty = false := by rw [hcr]; rfl
  have h0l : 0 < t.length := by rw [hcr]; simp
  have h00 : 0 < (⟨t.toArray⟩ : ByteArray).size := by
    rw [hsz0, hcr]
    simp
  have h00' : (0 : Int) < ((⟨t.toArray⟩ : ByteArray).size : Int) := by omega
  obtain ⟨C0, hC0⟩ : ∃ C0 : Int, (((⟨t.toArray⟩ : ByteArray)[0]'h00).toNat : Int) = C0 := ⟨_, rfl⟩
  have hC1 : C0 = (c.toNat : Int) := by
    subst hcr
    exact hC0.symm
  have q : C0 < 48 := by omega
  have HRO := hide (rom_only .i (by simp) t c r hcr (by omega))
  clear hC1 hcd hcr
  generalize (⟨(wrF .i 1).toArray⟩ : ByteArray) = T1 at *
  go_enter Tryd.func14, Tryd.ntmps14
  go_wp2_with fail
  refine (unhide HF1 _).mono ?_
  rintro e w1 ⟨rfl, hb1⟩
  clear HF1
  go_wp2_with fail
  go_loopw [8, 9] (fun v i wr => ∃ k x : Nat, 1 ≤ k ∧ k ≤ 4000 ∧ i = .int .i64 (k : Int) ∧ v = .int .i64 (x : Int) ∧ Hid (∀ m : Nat, 1 ≤ m → m < k → wrF .i m = t → x = m) ∧ Below w.heap.size w wr) (fun _ i _ => 4000 - vNat i)
  case atStart => exact ⟨1, 0, by omega, by omega, rfl, rfl, hide (fun m h1 h2 => absurd h2 (by omega)), hb1⟩
  case round =>
    obtain ⟨k, x, hk1, hk4, rfl, rfl, hxx, hB⟩ := hrel
    by_cases hk : k ≤ 3999
    · have hk' : (k : Int) ≤ 3999 := by omega
      have HC := hide (unhide HFx k wr hk1 (by omega))
      by_cases g3 : wrF .i k = t
      · have hq := str_beq (wrF .i k) t true (by simp [g3])
        have HN := hide (show Hid (∀ m : Nat, 1 ≤ m → m < k + 1 → wrF .i m = t → k = m) from hide (fun m _ _ h3 => wrF_inj .i (g3.trans h3.symm)))
        clear hxx g3
        generalize (⟨(wrF .i k).toArray⟩ : ByteArray) = T at *
        generalize (⟨t.toArray⟩ : ByteArray) = S at *
        go_wp2_with fail
        refine (unhide HC).mono ?_
        rintro e w2 ⟨rfl, hb2⟩
        go_wp2_with fail
        refine ⟨⟨k + 1, k, by omega, by omega, by rw [Int.natCast_add]; rfl, rfl, unhide HN, Below.then hB hb2⟩, ?_⟩
        show 4000 - ((k : Int) + 1).toNat < 4000 - (k : Int).toNat
        omega
      · have hq := str_beq (wrF .i k) t false (by simp [g3])
        have HN := hide (show Hid (∀ m : Nat, 1 ≤ m → m < k + 1 → wrF .i m = t → x = m) from hide (fun m h1 h2 h3 => by
          by_cases e : m = k
          · subst e
            exact absurd h3 g3
          · exact unhide hxx m h1 (by omega) h3))
        clear hxx g3
        generalize (⟨(wrF .i k).toArray⟩ : ByteArray) = T at *
        generalize (⟨t.toArray⟩ : ByteArray) = S at *
        go_wp2_with fail
        refine (unhide HC).mono ?_
        rintro e w2 ⟨rfl, hb2⟩
        go_wp2_with fail
        refine ⟨⟨k + 1, x, by omega, by omega, by rw [Int.natCast_add]; rfl, rfl, unhide HN, Below.then hB hb2⟩, ?_⟩
        show 4000 - ((k : Int) + 1).toNat < 4000 - (k : Int).toNat
        omega
    · have hk' : ¬ (k : Int) ≤ 3999 := by omega
      have HO := hide (show OnlyR .i t x from fun m h1 _ h3 => unhide hxx m h1 (by have := unhide HRO m h3; omega) h3)
      obtain ⟨X, hX⟩ : ∃ X : Int, (x : Int) = X := ⟨_, rfl⟩
      rw [hX]
      clear hxx HRO
      have ho := unhide HO
      by_cases g1 : x < 1
      · have g1' : X < 1 := by omega
        have HA := hide (ans_out ho (Or.inl g1))
        clear ho HO
        go_wp2_with fail
        go_ret2
        exact ⟨⟨none, unhide HA, rfl⟩, hB⟩
      · by_cases g2 : 1000000000 < x
        · have g1' : ¬ X < 1 := by omega
          have g2' : 1000000000 < X := by omega
          have HA := hide (ans_out ho (Or.inr g2))
          clear ho HO
          go_wp2_with fail
          go_ret2
          exact ⟨⟨none, unhide HA, rfl⟩, hB⟩
        · have g1' : ¬ X < 1 := by omega
          have g2' : ¬ 1000000000 < X := by omega
          have HC := hide (show ∀ u, Calls Tryd.prog 12 #[.int .i64 X, .string ⟨#[105]⟩] u fun e w' => e = .returned (.tuple #[.string ⟨(wrF .i x).toArray⟩, .int .i64 0]) ∧ Below u.heap.size u w' from fun u => by
            rw [← hX]
            exact unhide HFx x u (by omega) (by omega))
          by_cases g3 : wrF .i x = t
          · have hq := str_beq (wrF .i x) t true (by simp [g3])
            have HA := hide (ans_yes (by omega) (by omega) g3)
            have HX := hide hX
            clear ho HO g3 hX
            generalize (⟨(wrF .i x).toArray⟩ : ByteArray) = T at *
            generalize (⟨t.toArray⟩ : ByteArray) = S at *
            go_wp2_with fail
            refine (unhide HC _).mono ?_
            rintro e w9 ⟨rfl, hb9⟩
            go_wp2_with fail
            go_ret2
            exact ⟨⟨_, unhide HA, by rw [← unhide HX]; rfl⟩, Below.then hB hb9⟩
          · have hq := str_beq (wrF .i x) t false (by simp [g3])
            have HA := hide (ans_no ho g3)
            clear ho HO g3
            generalize (⟨(wrF .i x).toArray⟩ : ByteArray) = T at *
            generalize (⟨t.toArray⟩ : ByteArray) = S at *
            go_wp2_with fail
            refine (unhide HC _).mono ?_
            rintro e w9 ⟨rfl, hb9⟩
            go_wp2_with fail
            go_ret2
            exact ⟨⟨none, unhide HA, rfl⟩, Below.then hB hb9⟩
set_option maxRecDepth 100000 in
set_option maxHeartbeats 2000000 in
theorem refRead_irh (t : List UInt8) (c : UInt8) (r : List UInt8) (w : World) (hs : t.length ≤ 1048576) (hcr : t = c :: r) (hcd : 48 ≤ c.toNat ∧ 57 < c.toNat) :
    Calls Tryd.prog 14 #[.string ⟨t.toArray⟩, .string ⟨#[105]⟩] w fun e w' => (∃ r, AnsR .i t r ∧ e = .returned (readV r)) ∧ Below w.heap.size w w' := by
  have HFx := hide (show ∀ (n : Nat) (u : World), 1 ≤ n → n < 9223372036854775808 → Calls Tryd.prog 12 #[.int .i64 (n : Int), .string ⟨#[105]⟩] u fun e w' => e = .returned (.tuple #[.string ⟨(wrF .i n).toArray⟩, .int .i64 0]) ∧ Below u.heap.size u w' from fun n u h1 h2 => refFormat_i n u h1 h2)
  have HF1 := hide (show ∀ u, Calls Tryd.prog 12 #[.int .i64 1, .string ⟨#[105]⟩] u fun e w' => e = .returned (.tuple #[.string ⟨(wrF .i 1).toArray⟩, .int .i64 0]) ∧ Below u.heap.size u w' from fun u => unhide HFx 1 u (by decide) (by decide))
  have hsz0 : (⟨t.toArray⟩ : ByteArray).size = t.length := mk_size t
  have htn : ¬ t = [] := by rw [hcr]; simp
  have hem : t.isEmpty = false := by rw [hcr]; rfl
  have h0l : 0 < t.length := by rw [hcr]; simp
  have h00 : 0 < (⟨t.toArray⟩ : ByteArray).size := by
    rw [hsz0, hcr]
    simp
  have h00' : (0 : Int) < ((⟨t.toArray⟩ : ByteArray).size : Int) := by omega
  obtain ⟨C0, hC0⟩ : ∃ C0 : Int, (((⟨t.toArray⟩ : ByteArray)[0]'h00).toNat : Int) = C0 := ⟨_, rfl⟩
  have hC1 : C0 = (c.toNat : Int) := by
    subst hcr
    exact hC0.symm
  have q : ¬ C0 < 48 ∧ 57 < C0 := by omega
  obtain ⟨q1, q2⟩ := q
  have HRO := hide (rom_only .i (by simp) t c r hcr (by omega))
  clear hC1 hcd hcr
  generalize (⟨(wrF .i 1).toArray⟩ : ByteArray) = T1 at *
  go_enter Tryd.func14, Tryd.ntmps14
  go_wp2_with fail
  refine (unhide HF1 _).mono ?_
  rintro e w1 ⟨rfl, hb1⟩
  clear HF1
  go_wp2_with fail
  go_loopw [8, 9] (fun v i wr => ∃ k x : Nat, 1 ≤ k ∧ k ≤ 4000 ∧ i = .int .i64 (k : Int) ∧ v = .int .i64 (x : Int) ∧ Hid (∀ m : Nat, 1 ≤ m → m < k → wrF .i m = t → x = m) ∧ Below w.heap.size w wr) (fun _ i _ => 4000 - vNat i)
  case atStart => exact ⟨1, 0, by omega, by omega, rfl, rfl, hide (fun m h1 h2 => absurd h2 (by omega)), hb1⟩
  case round =>
    obtain ⟨k, x, hk1, hk4, rfl, rfl, hxx, hB⟩ := hrel
    by_cases hk : k ≤ 3999
    · have hk' : (k : Int) ≤ 3999 := by omega
      have HC := hide (unhide HFx k wr hk1 (by omega))
      by_cases g3 : wrF .i k = t
      · have hq := str_beq (wrF .i k) t true (by simp [g3])
        have HN := hide (show Hid (∀ m : Nat, 1 ≤ m → m < k + 1 → wrF .i m = t → k = m) from hide (fun m _ _ h3 => wrF_inj .i (g3.trans h3.symm)))
        clear hxx g3
        generalize (⟨(wrF .i k).toArray⟩ : ByteArray) = T at *
        generalize (⟨t.toArray⟩ : ByteArray) = S at *
        go_wp2_with fail
        refine (unhide HC).mono ?_
        rintro e w2 ⟨rfl, hb2⟩
        go_wp2_with fail
        refine ⟨⟨k + 1, k, by omega, by omega, by rw [Int.natCast_add]; rfl, rfl, unhide HN, Below.then hB hb2⟩, ?_⟩
        show 4000 - ((k : Int) + 1).toNat < 4000 - (k : Int).toNat
        omega
      · have hq := str_beq (wrF .i k) t false (by simp [g3])
        have HN := hide (show Hid (∀ m : Nat, 1 ≤ m → m < k + 1 → wrF .i m = t → x = m) from hide (fun m h1 h2 h3 => by
          by_cases e : m = k
          · subst e
            exact absurd h3 g3
          · exact unhide hxx m h1 (by omega) h3))
        clear hxx g3
        generalize (⟨(wrF .i k).toArray⟩ : ByteArray) = T at *
        generalize (⟨t.toArray⟩ : ByteArray) = S at *
        go_wp2_with fail
        refine (unhide HC).mono ?_
        rintro e w2 ⟨rfl, hb2⟩
        go_wp2_with fail
        refine ⟨⟨k + 1, x, by omega, by omega, by rw [Int.natCast_add]; rfl, rfl, unhide HN, Below.then hB hb2⟩, ?_⟩
        show 4000 - ((k : Int) + 1).toNat < 4000 - (k : Int).toNat
        omega
    · have hk' : ¬ (k : Int) ≤ 3999 := by omega
      have HO := hide (show OnlyR .i t x from fun m h1 _ h3 => unhide hxx m h1 (by have := unhide HRO m h3; omega) h3)
      obtain ⟨X, hX⟩ : ∃ X : Int, (x : Int) = X := ⟨_, rfl⟩
      rw [hX]
      clear hxx HRO
      have ho := unhide HO
      by_cases g1 : x < 1
      · have g1' : X < 1 := by omega
        have HA := hide (ans_out ho (Or.inl g1))
        clear ho HO
        go_wp2_with fail
        go_ret2
        exact ⟨⟨none, unhide HA, rfl⟩, hB⟩
      · by_cases g2 : 1000000000 < x
        · have g1' : ¬ X < 1 := by omega
          have g2' : 1000000000 < X := by omega
          have HA := hide (ans_out ho (Or.inr g2))
          clear ho HO
          go_wp2_with fail
          go_ret2
          exact ⟨⟨none, unhide HA, rfl⟩, hB⟩
        · have g1' : ¬ X < 1 := by omega
          have g2' : ¬ 1000000000 < X := by omega
          have HC := hide (show ∀ u, Calls Tryd.prog 12 #[.int .i64 X, .string ⟨#[105]⟩] u fun e w' => e = .returned (.tuple #[.string ⟨(wrF .i x).toArray⟩, .int .i64 0]) ∧ Below u.heap.size u w' from fun u => by
            rw [← hX]
            exact unhide HFx x u (by omega) (by omega))
          by_cases g3 : wrF .i x = t
          · have hq := str_beq (wrF .i x) t true (by simp [g3])
            have HA := hide (ans_yes (by omega) (by omega) g3)
            have HX := hide hX
            clear ho HO g3 hX
            generalize (⟨(wrF .i x).toArray⟩ : ByteArray) = T at *
            generalize (⟨t.toArray⟩ : ByteArray) = S at *
            go_wp2_with fail
            refine (unhide HC _).mono ?_
            rintro e w9 ⟨rfl, hb9⟩
            go_wp2_with fail
            go_ret2
            exact ⟨⟨_, unhide HA, by rw [← unhide HX]; rfl⟩, Below.then hB hb9⟩
          · have hq := str_beq (wrF .i x) t false (by simp [g3])
            have HA := hide (ans_no ho g3)
            clear ho HO g3
            generalize (⟨(wrF .i x).toArray⟩ : ByteArray) = T at *
            generalize (⟨t.toArray⟩ : ByteArray) = S at *
            go_wp2_with fail
            refine (unhide HC _).mono ?_
            rintro e w9 ⟨rfl, hb9⟩
            go_wp2_with fail
            go_ret2
            exact ⟨⟨none, unhide HA, rfl⟩, Below.then hB hb9⟩
set_option maxRecDepth 100000 in
set_option maxHeartbeats 2000000 in
theorem refRead_Ie (w : World) :
    Calls Tryd.prog 14 #[.string ⟨#[]⟩, .string ⟨#[73]⟩] w fun e w' => (∃ r, AnsR .I [] r ∧ e = .returned (readV r)) ∧ Below w.heap.size w w' := by
  have HF1 := hide (fun u => refFormat_I 1 u (by decide) (by decide))
  have HA := hide (ans_out ((signs_I [] (fun x r e => by cases e)).end (by decide) 0 (Or.inl (Nat.le_refl _))) (Or.inl (by decide)))
  generalize (⟨(wrF .I 1).toArray⟩ : ByteArray) = T1 at *
  go_enter Tryd.func14, Tryd.ntmps14
  go_wp2_with fail
  refine (unhide HF1 _).mono ?_
  rintro e w1 ⟨rfl, hb1⟩
  clear HF1
  go_wp2_with fail
  go_loop [8, 14] (fun v i => v = .int .i64 0 ∧ i = .int .i64 0) (fun _ i => vNat i)
  case atStart => exact ⟨rfl, rfl⟩
  case round =>
    obtain ⟨rfl, rfl⟩ := hrel
    go_wp2_with fail
    go_ret2
    exact ⟨⟨none, unhide HA, rfl⟩, hb1⟩
set_option maxRecDepth 100000 in
set_option maxHeartbeats 2000000 in
theorem refRead_Id (t : List UInt8) (c : UInt8) (r : List UInt8) (w : World) (hs : t.length ≤ 1048576) (hcr : t = c :: r) (hcd : 48 ≤ c.toNat ∧ c.toNat ≤ 57) :
    Calls Tryd.prog 14 #[.string ⟨t.toArray⟩, .string ⟨#[73]⟩] w fun e w' => (∃ r, AnsR .I t r ∧ e = .returned (readV r)) ∧ Below w.heap.size w w' := by
  have HFx := hide (show ∀ (n : Nat) (u : World), 1 ≤ n → n < 9223372036854775808 → Calls Tryd.prog 12 #[.int .i64 (n : Int), .string ⟨#[73]⟩] u fun e w' => e = .returned (.tuple #[.string ⟨(wrF .I n).toArray⟩, .int .i64 0]) ∧ Below u.heap.size u w' from fun n u h1 h2 => refFormat_I n u h1 h2)
  have HF1 := hide (show ∀ u, Calls Tryd.prog 12 #[.int .i64 1, .string ⟨#[73]⟩] u fun e w' => e = .returned (.tuple #[.string ⟨(wrF .I 1).toArray⟩, .int .i64 0]) ∧ Below u.heap.size u w' from fun u => unhide HFx 1 u (by decide) (by decide))
  have hsz0 : (⟨t.toArray⟩ : ByteArray).size = t.length := mk_size t
  have HSG := hide (signs_I t (fun x r' e => by rw [hcr] at e; obtain ⟨e1, _⟩ := List.cons.inj e; rw [← e1]; exact hcd))
  have htn : ¬ t = [] := by rw [hcr]; simp
  have hem : t.isEmpty = false := by rw [hcr]; rfl
  have h0l : 0 < t.length := by rw [hcr]; simp
  have h00 : 0 < (⟨t.toArray⟩ : ByteArray).size := by
    rw [hsz0, hcr]
    simp
  have h00' : (0 : Int) < ((⟨t.toArray⟩ : ByteArray).size : Int) := by omega
  obtain ⟨C0, hC0⟩ : ∃ C0 : Int, (((⟨t.toArray⟩ : ByteArray)[0]'h00).toNat : Int) = C0 := ⟨_, rfl⟩
  have hC1 : C0 = (c.toNat : Int) := by
    subst hcr
    exact hC0.symm
  have q1 : ¬ C0 < 48 := by omega
  have q2 : ¬ 57 < C0 := by omega
  clear hC1 hcd hcr
  generalize (⟨(wrF .I 1).toArray⟩ : ByteArray) = T1 at *
  go_enter Tryd.func14, Tryd.ntmps14
  go_wp2_with fail
  refine (unhide HF1 _).mono ?_
  rintro e w1 ⟨rfl, hb1⟩
  clear HF1
  go_wp2_with fail
  go_loop [8, 14] (fun v i => ∃ k : Nat, k ≤ t.length ∧ i = .int .i64 (k : Int) ∧ v = .int .i64 ((valV 10 48 (t.take k) : Nat) : Int)) (fun _ i => t.length - vNat i)
  case atStart => exact ⟨0, Nat.zero_le _, rfl, rfl⟩
  case round =>
    obtain ⟨k, hk, rfl, rfl⟩ := hrel
    obtain ⟨x, hx⟩ : ∃ x, x = valV 10 48 (t.take k) := ⟨_, rfl⟩
    rw [← hx]
    obtain ⟨X, hX⟩ : ∃ X : Int, (x : Int) = X := ⟨_, rfl⟩
    rw [hX]
    by_cases hc : k < t.length ∧ x ≤ 1000000000
    · obtain ⟨hk1, hx9⟩ := hc
      have hks : k < (⟨t.toArray⟩ : ByteArray).size := by omega
      have hks' : (k : Int) < ((⟨t.toArray⟩ : ByteArray).size : Int) := by omega
      have hX9 : X ≤ 1000000000 := by omega
      obtain ⟨C, hC⟩ : ∃ C : Int, (t[k].toNat : Int) = C := ⟨_, rfl⟩
      have hC' : (((⟨t.toArray⟩ : ByteArray)[k]'hks).toNat : Int) = C := hC
      by_cases hin : 48 ≤ t[k].toNat ∧ t[k].toNat ≤ 57
      · have g1 : ¬ C < 48 := by omega
        have g2 : ¬ 57 < C := by omega
        obtain ⟨D, e1, e2, e2', hD⟩ := rd_dig t[k] hin
        have hnx := rd_next 10 48 (by decide) t k hk1 x hx hx9 D (by rw [hD]; omega) (by omega)
        rw [hX] at hnx
        rw [hC] at e1
        have HN := hide hnx
        clear hin hC hD hx hX hnx
        generalize (⟨t.toArray⟩ : ByteArray) = S at *
        go_wp2_with fail
        refine ⟨⟨k + 1, hk1, by rw [Int.natCast_add]; rfl, by rw [← unhide HN]; rfl⟩, ?_⟩
        show t.length - ((k : Int) + 1).toNat < t.length - (k : Int).toNat
        omega
      · have HA := hide ((unhide HSG).stop k hk1 hin)
        have g : C < 48 ∨ ¬ C < 48 ∧ 57 < C := by omega
        clear hin hC hx hX
        generalize (⟨t.toArray⟩ : ByteArray) = S at *
        rcases g with g | ⟨g, g'⟩
        · go_wp2_with fail
          go_ret2
          exact ⟨⟨none, unhide HA, rfl⟩, hb1⟩
        · go_wp2_with fail
          go_ret2
          exact ⟨⟨none, unhide HA, rfl⟩, hb1⟩
    · have HO := hide (show OnlyR .I t x by
        rw [hx]
        exact (unhide HSG).end (by decide) k (by omega))
      have hcc : ¬ (k : Int) < ((⟨t.toArray⟩ : ByteArray).size : Int) ∨ (k : Int) < ((⟨t.toArray⟩ : ByteArray).size : Int) ∧ ¬ X ≤ 1000000000 := by omega
      clear hc hx
      rcases hcc with hcc | ⟨hcc, hcd⟩
      · have ho := unhide HO
        by_cases g1 : x < 1
        · have g1' : X < 1 := by omega
          have HA := hide (ans_out ho (Or.inl g1))
          clear ho HO
          go_wp2_with fail
          go_ret2
          exact ⟨⟨none, unhide HA, rfl⟩, hb1⟩
        · by_cases g2 : 1000000000 < x
          · have g1' : ¬ X < 1 := by omega
            have g2' : 1000000000 < X := by omega
            have HA := hide (ans_out ho (Or.inr g2))
            clear ho HO
            go_wp2_with fail
            go_ret2
            exact ⟨⟨none, unhide HA, rfl⟩, hb1⟩
          · have g1' : ¬ X < 1 := by omega
            have g2' : ¬ 1000000000 < X := by omega
            have HC := hide (show ∀ u, Calls Tryd.prog 12 #[.int .i64 X, .string ⟨#[73]⟩] u fun e w' => e = .returned (.tuple #[.string ⟨(wrF .I x).toArray⟩, .int .i64 0]) ∧ Below u.heap.size u w' from fun u => by
              rw [← hX]
              exact unhide HFx x u (by omega) (by omega))
            by_cases g3 : wrF .I x = t
            · have hq := str_beq (wrF .I x) t true (by simp [g3])
              have HA := hide (ans_yes (by omega) (by omega) g3)
              have HX := hide hX
              clear ho HO g3 hX
              generalize (⟨(wrF .I x).toArray⟩ : ByteArray) = T at *
              generalize (⟨t.toArray⟩ : ByteArray) = S at *
              go_wp2_with fail
              refine (unhide HC _).mono ?_
              rintro e w9 ⟨rfl, hb9⟩
              go_wp2_with fail
              go_ret2
              exact ⟨⟨_, unhide HA, by rw [← unhide HX]; rfl⟩, Below.then hb1 hb9⟩
            · have hq := str_beq (wrF .I x) t false (by simp [g3])
              have HA := hide (ans_no ho g3)
              clear ho HO g3
              generalize (⟨(wrF .I x).toArray⟩ : ByteArray) = T at *
              generalize (⟨t.toArray⟩ : ByteArray) = S at *
              go_wp2_with fail
              refine (unhide HC _).mono ?_
              rintro e w9 ⟨rfl, hb9⟩
              go_wp2_with fail
              go_ret2
              exact ⟨⟨none, unhide HA, rfl⟩, Below.then hb1 hb9⟩
      · have g2 : 1000000000 < x := by omega
        have g1' : ¬ X < 1 := by omega
        have g2' : 1000000000 < X := by omega
        have HA := hide (ans_out (unhide HO) (Or.inr g2))
        clear HO
        go_wp2_with fail
        go_ret2
        exact ⟨⟨none, unhide HA, rfl⟩, hb1⟩
set_option maxRecDepth 100000 in
set_option maxHeartbeats 2000000 in
theorem refRead_Irl (t : List UInt8) (c : UInt8) (r : List UInt8) (w : World) (hs : t.length ≤ 1048576) (hcr : t = c :: r) (hcd : ¬ (48 ≤ c.toNat)) :
    Calls Tryd.prog 14 #[.string ⟨t.toArray⟩, .string ⟨#[73]⟩] w fun e w' => (∃ r, AnsR .I t r ∧ e = .returned (readV r)) ∧ Below w.heap.size w w' := by
  have HFx := hide (show ∀ (n : Nat) (u : World), 1 ≤ n → n < 9223372036854775808 → Calls Tryd.prog 12 #[.int .i64 (n : Int), .string ⟨#[73]⟩] u fun e w' => e = .returned (.tuple #[.string ⟨(wrF .I n).toArray⟩, .int .i64 0]) ∧ Below u.heap.size u w' from fun n u h1 h2 => refFormat_I n u h1 h2)
  have HF1 := hide (show ∀ u, Calls Tryd.prog 12 #[.int .i64 1, .string ⟨#[73]⟩] u fun e w' => e = .returned (.tuple #[.string ⟨(wrF .I 1).toArray⟩, .int .i64 0]) ∧ Below u.heap.size u w' from fun u => unhide HFx 1 u (by decide) (by decide))
  have hsz0 : (⟨t.toArray⟩ : ByteArray).size = t.length := mk_size t
  have htn : ¬ t = [] := by rw [hcr]; simp
  have hem : t.isEmpty = false := by rw [hcr]; rfl
  have h0l : 0 < t.length := by rw [hcr]; simp
  have h00 : 0 < (⟨t.toArray⟩ : ByteArray).size := by
    rw [hsz0, hcr]
    simp
  have h00' : (0 : Int) < ((⟨t.toArray⟩ : ByteArray).size : Int) := by omega
  obtain ⟨C0, hC0⟩ : ∃ C0 : Int, (((⟨t.toArray⟩ : ByteArray)[0]'h00).toNat : Int) = C0 := ⟨_, rfl⟩
  have hC1 : C0 = (c.toNat : Int) := by
    subst hcr
    exact hC0.symm
  have q : C0 < 48 := by omega
  have HRO := hide (rom_only .I (by simp) t c r hcr (by omega))
  clear hC1 hcd hcr
  generalize (⟨(wrF .I 1).toArray⟩ : ByteArray) = T1 at *
  go_enter Tryd.func14, Tryd.ntmps14
  go_wp2_with fail
  refine (unhide HF1 _).mono ?_
  rintro e w1 ⟨rfl, hb1⟩
  clear HF1
  go_wp2_with fail
  go_loopw [8, 9] (fun v i wr => ∃ k x : Nat, 1 ≤ k ∧ k ≤ 4000 ∧ i = .int .i64 (k : Int) ∧ v = .int .i64 (x : Int) ∧ Hid (∀ m : Nat, 1 ≤ m → m < k → wrF .I m = t → x = m) ∧ Below w.heap.size w wr) (fun _ i _ => 4000 - vNat i)
  case atStart => exact ⟨1, 0, by omega, by omega, rfl, rfl, hide (fun m h1 h2 => absurd h2 (by omega)), hb1⟩
  case round =>
    obtain ⟨k, x, hk1, hk4, rfl, rfl, hxx, hB⟩ := hrel
    by_cases hk : k ≤ 3999
    · have hk' : (k : Int) ≤ 3999 := by omega
      have HC := hide (unhide HFx k wr hk1 (by omega))
      by_cases g3 : wrF .I k = t
      · have hq := str_beq (wrF .I k) t true (by simp [g3])
        have HN := hide (show Hid (∀ m : Nat, 1 ≤ m → m < k + 1 → wrF .I m = t → k = m) from hide (fun m _ _ h3 => wrF_inj .I (g3.trans h3.symm)))
        clear hxx g3
        generalize (⟨(wrF .I k).toArray⟩ : ByteArray) = T at *
        generalize (⟨t.toArray⟩ : ByteArray) = S at *
        go_wp2_with fail
        refine (unhide HC).mono ?_
        rintro e w2 ⟨rfl, hb2⟩
        go_wp2_with fail
        refine ⟨⟨k + 1, k, by omega, by omega, by rw [Int.natCast_add]; rfl, rfl, unhide HN, Below.then hB hb2⟩, ?_⟩
        show 4000 - ((k : Int) + 1).toNat < 4000 - (k : Int).toNat
        omega
      · have hq := str_beq (wrF .I k) t false (by simp [g3])
        have HN := hide (show Hid (∀ m : Nat, 1 ≤ m → m < k + 1 → wrF .I m = t → x = m) from hide (fun m h1 h2 h3 => by
          by_cases e : m = k
          · subst e
            exact absurd h3 g3
          · exact unhide hxx m h1 (by omega) h3))
        clear hxx g3
        generalize (⟨(wrF .I k).toArray⟩ : ByteArray) = T at *
        generalize (⟨t.toArray⟩ : ByteArray) = S at *
        go_wp2_with fail
        refine (unhide HC).mono ?_
        rintro e w2 ⟨rfl, hb2⟩
        go_wp2_with fail
        refine ⟨⟨k + 1, x, by omega, by omega, by rw [Int.natCast_add]; rfl, rfl, unhide HN, Below.then hB hb2⟩, ?_⟩
        show 4000 - ((k : Int) + 1).toNat < 4000 - (k : Int).toNat
        omega
    · have hk' : ¬ (k : Int) ≤ 3999 := by omega
      have HO := hide (show OnlyR .I t x from fun m h1 _ h3 => unhide hxx m h1 (by have := unhide HRO m h3; omega) h3)
      obtain ⟨X, hX⟩ : ∃ X : Int, (x : Int) = X := ⟨_, rfl⟩
      rw [hX]
      clear hxx HRO
      have ho := unhide HO
      by_cases g1 : x < 1
      · have g1' : X < 1 := by omega
        have HA := hide (ans_out ho (Or.inl g1))
        clear ho HO
        go_wp2_with fail
        go_ret2
        exact ⟨⟨none, unhide HA, rfl⟩, hB⟩
      · by_cases g2 : 1000000000 < x
        · have g1' : ¬ X < 1 := by omega
          have g2' : 1000000000 < X := by omega
          have HA := hide (ans_out ho (Or.inr g2))
          clear ho HO
          go_wp2_with fail
          go_ret2
          exact ⟨⟨none, unhide HA, rfl⟩, hB⟩
        · have g1' : ¬ X < 1 := by omega
          have g2' : ¬ 1000000000 < X := by omega
          have HC := hide (show ∀ u, Calls Tryd.prog 12 #[.int .i64 X, .string ⟨#[73]⟩] u fun e w' => e = .returned (.tuple #[.string ⟨(wrF .I x).toArray⟩, .int .i64 0]) ∧ Below u.heap.size u w' from fun u => by
            rw [← hX]
            exact unhide HFx x u (by omega) (by omega))
          by_cases g3 : wrF .I x = t
          · have hq := str_beq (wrF .I x) t true (by simp [g3])
            have HA := hide (ans_yes (by omega) (by omega) g3)
            have HX := hide hX
            clear ho HO g3 hX
            generalize (⟨(wrF .I x).toArray⟩ : ByteArray) = T at *
            generalize (⟨t.toArray⟩ : ByteArray) = S at *
            go_wp2_with fail
            refine (unhide HC _).mono ?_
            rintro e w9 ⟨rfl, hb9⟩
            go_wp2_with fail
            go_ret2
            exact ⟨⟨_, unhide HA, by rw [← unhide HX]; rfl⟩, Below.then hB hb9⟩
          · have hq := str_beq (wrF .I x) t false (by simp [g3])
            have HA := hide (ans_no ho g3)
            clear ho HO g3
            generalize (⟨(wrF .I x).toArray⟩ : ByteArray) = T at *
            generalize (⟨t.toArray⟩ : ByteArray) = S at *
            go_wp2_with fail
            refine (unhide HC _).mono ?_
            rintro e w9 ⟨rfl, hb9⟩
            go_wp2_with fail
            go_ret2
            exact ⟨⟨none, unhide HA, rfl⟩, Below.then hB hb9⟩
set_option maxRecDepth 100000 in
set_option maxHeartbeats 2000000 in
theorem refRead_Irh (t : List UInt8) (c : UInt8) (r : List UInt8) (w : World) (hs : t.length ≤ 1048576) (hcr : t = c :: r) (hcd : 48 ≤ c.toNat ∧ 57 < c.toNat) :
    Calls Tryd.prog 14 #[.string ⟨t.toArray⟩, .string ⟨#[73]⟩] w fun e w' => (∃ r, AnsR .I t r ∧ e = .returned (readV r)) ∧ Below w.heap.size w w' := by
  have HFx := hide (show ∀ (n : Nat) (u : World), 1 ≤ n → n < 9223372036854775808 → Calls Tryd.prog 12 #[.int .i64 (n : Int), .string ⟨#[73]⟩] u fun e w' => e = .returned (.tuple #[.string ⟨(wrF .I n).toArray⟩, .int .i64 0]) ∧ Below u.heap.size u w' from fun n u h1 h2 => refFormat_I n u h1 h2)
  have HF1 := hide (show ∀ u, Calls Tryd.prog 12 #[.int .i64 1, .string ⟨#[73]⟩] u fun e w' => e = .returned (.tuple #[.string ⟨(wrF .I 1).toArray⟩, .int .i64 0]) ∧ Below u.heap.size u w' from fun u => unhide HFx 1 u (by decide) (by decide))
  have hsz0 : (⟨t.toArray⟩ : ByteArray).size = t.length := mk_size t
  have htn : ¬ t = [] := by rw [hcr]; simp
  have hem : t.isEmpty = false := by rw [hcr]; rfl
  have h0l : 0 < t.length := by rw [hcr]; simp
  have h00 : 0 < (⟨t.toArray⟩ : ByteArray).size := by
    rw [hsz0, hcr]
    simp
  have h00' : (0 : Int) < ((⟨t.toArray⟩ : ByteArray).size : Int) := by omega
  obtain ⟨C0, hC0⟩ : ∃ C0 : Int, (((⟨t.toArray⟩ : ByteArray)[0]'h00).toNat : Int) = C0 := ⟨_, rfl⟩
  have hC1 : C0 = (c.toNat : Int) := by
    subst hcr
    exact hC0.symm
  have q : ¬ C0 < 48 ∧ 57 < C0 := by omega
  obtain ⟨q1, q2⟩ := q
  have HRO := hide (rom_only .I (by simp) t c r hcr (by omega))
  clear hC1 hcd hcr
  generalize (⟨(wrF .I 1).toArray⟩ : ByteArray) = T1 at *
  go_enter Tryd.func14, Tryd.ntmps14
  go_wp2_with fail
  refine (unhide HF1 _).mono ?_
  rintro e w1 ⟨rfl, hb1⟩
  clear HF1
  go_wp2_with fail
  go_loopw [8, 9] (fun v i wr => ∃ k x : Nat, 1 ≤ k ∧ k ≤ 4000 ∧ i = .int .i64 (k : Int) ∧ v = .int .i64 (x : Int) ∧ Hid (∀ m : Nat, 1 ≤ m → m < k → wrF .I m = t → x = m) ∧ Below w.heap.size w wr) (fun _ i _ => 4000 - vNat i)
  case atStart => exact ⟨1, 0, by omega, by omega, rfl, rfl, hide (fun m h1 h2 => absurd h2 (by omega)), hb1⟩
  case round =>
    obtain ⟨k, x, hk1, hk4, rfl, rfl, hxx, hB⟩ := hrel
    by_cases hk : k ≤ 3999
    · have hk' : (k : Int) ≤ 3999 := by omega
      have HC := hide (unhide HFx k wr hk1 (by omega))
      by_cases g3 : wrF .I k = t
      · have hq := str_beq (wrF .I k) t true (by simp [g3])
        have HN := hide (show Hid (∀ m : Nat, 1 ≤ m → m < k + 1 → wrF .I m = t → k = m) from hide (fun m _ _ h3 => wrF_inj .I (g3.trans h3.symm)))
        clear hxx g3
        generalize (⟨(wrF .I k).toArray⟩ : ByteArray) = T at *
        generalize (⟨t.toArray⟩ : ByteArray) = S at *
        go_wp2_with fail
        refine (unhide HC).mono ?_
        rintro e w2 ⟨rfl, hb2⟩
        go_wp2_with fail
        refine ⟨⟨k + 1, k, by omega, by omega, by rw [Int.natCast_add]; rfl, rfl, unhide HN, Below.then hB hb2⟩, ?_⟩
        show 4000 - ((k : Int) + 1).toNat < 4000 - (k : Int).toNat
        omega
      · have hq := str_beq (wrF .I k) t false (by simp [g3])
        have HN := hide (show Hid (∀ m : Nat, 1 ≤ m → m < k + 1 → wrF .I m = t → x = m) from hide (fun m h1 h2 h3 => by
          by_cases e : m = k
          · subst e
            exact absurd h3 g3
          · exact unhide hxx m h1 (by omega) h3))
        clear hxx g3
        generalize (⟨(wrF .I k).toArray⟩ : ByteArray) = T at *
        generalize (⟨t.toArray⟩ : ByteArray) = S at *
        go_wp2_with fail
        refine (unhide HC).mono ?_
        rintro e w2 ⟨rfl, hb2⟩
        go_wp2_with fail
        refine ⟨⟨k + 1, x, by omega, by omega, by rw [Int.natCast_add]; rfl, rfl, unhide HN, Below.then hB hb2⟩, ?_⟩
        show 4000 - ((k : Int) + 1).toNat < 4000 - (k : Int).toNat
        omega
    · have hk' : ¬ (k : Int) ≤ 3999 := by omega
      have HO := hide (show OnlyR .I t x from fun m h1 _ h3 => unhide hxx m h1 (by have := unhide HRO m h3; omega) h3)
      obtain ⟨X, hX⟩ : ∃ X : Int, (x : Int) = X := ⟨_, rfl⟩
      rw [hX]
      clear hxx HRO
      have ho := unhide HO
      by_cases g1 : x < 1
      · have g1' : X < 1 := by omega
        have HA := hide (ans_out ho (Or.inl g1))
        clear ho HO
        go_wp2_with fail
        go_ret2
        exact ⟨⟨none, unhide HA, rfl⟩, hB⟩
      · by_cases g2 : 1000000000 < x
        · have g1' : ¬ X < 1 := by omega
          have g2' : 1000000000 < X := by omega
          have HA := hide (ans_out ho (Or.inr g2))
          clear ho HO
          go_wp2_with fail
          go_ret2
          exact ⟨⟨none, unhide HA, rfl⟩, hB⟩
        · have g1' : ¬ X < 1 := by omega
          have g2' : ¬ 1000000000 < X := by omega
          have HC := hide (show ∀ u, Calls Tryd.prog 12 #[.int .i64 X, .string ⟨#[73]⟩] u fun e w' => e = .returned (.tuple #[.string ⟨(wrF .I x).toArray⟩, .int .i64 0]) ∧ Below u.heap.size u w' from fun u => by
            rw [← hX]
            exact unhide HFx x u (by omega) (by omega))
          by_cases g3 : wrF .I x = t
          · have hq := str_beq (wrF .I x) t true (by simp [g3])
            have HA := hide (ans_yes (by omega) (by omega) g3)
            have HX := hide hX
            clear ho HO g3 hX
            generalize (⟨(wrF .I x).toArray⟩ : ByteArray) = T at *
            generalize (⟨t.toArray⟩ : ByteArray) = S at *
            go_wp2_with fail
            refine (unhide HC _).mono ?_
            rintro e w9 ⟨rfl, hb9⟩
            go_wp2_with fail
            go_ret2
            exact ⟨⟨_, unhide HA, by rw [← unhide HX]; rfl⟩, Below.then hB hb9⟩
          · have hq := str_beq (wrF .I x) t false (by simp [g3])
            have HA := hide (ans_no ho g3)
            clear ho HO g3
            generalize (⟨(wrF .I x).toArray⟩ : ByteArray) = T at *
            generalize (⟨t.toArray⟩ : ByteArray) = S at *
            go_wp2_with fail
            refine (unhide HC _).mono ?_
            rintro e w9 ⟨rfl, hb9⟩
            go_wp2_with fail
            go_ret2
            exact ⟨⟨none, unhide HA, rfl⟩, Below.then hB hb9⟩
end Go.Proofs.YtmjjckindnffdaaDoor
