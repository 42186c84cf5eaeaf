/- The reference's Read. -/
import Derived.Test.YtmjjckindnffdaaDoorSortRefF
import Derived.Test.YtmjjckindnffdaaDoorSortRead
import Derived.Test.YtmjjckindnffdaaDoorSortAns
namespace Go.Proofs.YtmjjckindnffdaaDoor
open Go.RowKit
theorem rd_let (b : UInt8) : ∃ C D E G : Int, (b.toNat : Int) = C ∧ IntKind.i64.wrap C = C ∧ wrap64 C = C ∧ wrap64 (C - 97) = D ∧ wrap64 (D + 1) = E ∧ wrap64 (E + 32) = G ∧ E = (b.toNat : Int) - 96 ∧ G = (b.toNat : Int) - 64 := by
  have hb := b.toNat_lt
  refine ⟨_, (b.toNat : Int) - 97, (b.toNat : Int) - 96, (b.toNat : Int) - 64, rfl, by rw [i64_is]; exact wrap_same _ (by omega) (by omega), wrap_same _ (by omega) (by omega), wrap_same _ (by omega) (by omega), ?_, ?_, rfl, rfl⟩
  · rw [wrap_same _ (by omega) (by omega)]
    omega
  · rw [wrap_same _ (by omega) (by omega)]
    omega
theorem rd_dig (b : UInt8) (h : 48 ≤ b.toNat ∧ b.toNat ≤ 57) : ∃ D : Int, IntKind.u8.wrap ((b.toNat : Int) - 48) = D ∧ IntKind.i64.wrap D = D ∧ wrap64 D = D ∧ D = (b.toNat : Int) - 48 := by
  refine ⟨(b.toNat : Int) - 48, ?_, by rw [i64_is]; exact wrap_same _ (by omega) (by omega), wrap_same _ (by omega) (by omega), rfl⟩
  rw [IntKind.wrap_u8]
  omega
theorem rd_next (B c : Nat) (hB : B ≤ 26) (t : List UInt8) (k : Nat) (h : k < t.length) (x : Nat) (hx : x = valV B c (t.take k)) (hl : x ≤ 1000000000) (E : Int) (hE : E = (t[k].toNat : Int) - (c : Int)) (h0 : c ≤ t[k].toNat) : wrap64 (wrap64 ((x : Int) * (B : Int)) + E) = ((valV B c (t.take (k + 1)) : Nat) : Int) := by
  have hb := t[k].toNat_lt
  have hm : x * B ≤ 1000000000 * 26 := Nat.mul_le_mul hl hB
  have hm' : ((x : Int) * (B : Int)) = ((x * B : Nat) : Int) := by simp
  rw [valV_next B c t k h, ← hx, hm']
  clear hx hm'
  generalize x * B = P at *
  rw [wrap_same (P : Int) (by omega) (by omega), wrap_same _ (by omega) (by omega), hE]
  omega
theorem str_beq (a b : List UInt8) (v : Bool) (h : decide (a = b) = v) : ((⟨a.toArray⟩ : ByteArray).toList == (⟨b.toArray⟩ : ByteArray).toList) = v := by
  rw [ByteArray.toList_eq, ByteArray.toList_eq, ← h]
  show (a == b) = _
  rw [Bool.eq_iff_iff, beq_iff_eq, decide_eq_true_eq]
set_option maxRecDepth 100000 in
set_option maxHeartbeats 2000000 in
theorem refRead_a (t : List UInt8) (w : World) (hs : t.length ≤ 1048576) :
    Calls Tryd.prog 14 #[.string ⟨t.toArray⟩, .string ⟨#[97]⟩] w fun e w' => (∃ r, AnsR .a t r ∧ e = .returned (readV r)) ∧ Below w.heap.size w w' := by
  have HFx := hide (show ∀ (n : Nat) (u : World), 1 ≤ n → n < 9223372036854775808 → Calls Tryd.prog 12 #[.int .i64 (n : Int), .string ⟨#[97]⟩] u fun e w' => e = .returned (.tuple #[.string ⟨(wrF .a n).toArray⟩, .int .i64 0]) ∧ Below u.heap.size u w' from fun n u h1 h2 => refFormat_a n u h1 h2)
  have HF1 := hide (show ∀ u, Calls Tryd.prog 12 #[.int .i64 1, .string ⟨#[97]⟩] u fun e w' => e = .returned (.tuple #[.string ⟨(wrF .a 1).toArray⟩, .int .i64 0]) ∧ Below u.heap.size u w' from fun u => unhide HFx 1 u (by decide) (by decide))
  have hsz0 : (⟨t.toArray⟩ : ByteArray).size = t.length := mk_size t
  generalize (⟨(wrF .a 1).toArray⟩ : ByteArray) = T1 at *
  go_enter Tryd.func14, Tryd.ntmps14
  go_wp2_with fail
  refine (unhide HF1 _).mono ?_
  rintro e w1 ⟨rfl, hb1⟩
  clear HF1
  go_wp2_with fail
  go_loop [8, 12] (fun v i => ∃ k : Nat, k ≤ t.length ∧ i = .int .i64 (k : Int) ∧ v = .int .i64 ((valV 26 96 (t.take k) : Nat) : Int)) (fun _ i => t.length - vNat i)
  case atStart => exact ⟨0, Nat.zero_le _, rfl, rfl⟩
  case round =>
    obtain ⟨k, hk, rfl, rfl⟩ := hrel
    obtain ⟨x, hx⟩ : ∃ x, x = valV 26 96 (t.take k) := ⟨_, rfl⟩
    rw [← hx]
    obtain ⟨X, hX⟩ : ∃ X : Int, (x : Int) = X := ⟨_, rfl⟩
    rw [hX]
    by_cases hc : k < t.length ∧ x ≤ 1000000000
    · obtain ⟨hk1, hx9⟩ := hc
      have hks : k < (⟨t.toArray⟩ : ByteArray).size := by omega
      have hks' : (k : Int) < ((⟨t.toArray⟩ : ByteArray).size : Int) := by omega
      have hX9 : X ≤ 1000000000 := by omega
      obtain ⟨C, D, E, G, hC, e0, e0', e1, e2, e3, hE, hG⟩ := rd_let t[k]
      have hC' : (((⟨t.toArray⟩ : ByteArray)[k]'hks).toNat : Int) = C := hC
      by_cases hin : 97 ≤ t[k].toNat ∧ t[k].toNat ≤ 122
      · have g1 : ¬ E < 1 := by omega
        have g2 : ¬ 26 < E := by omega
        have hnx := rd_next 26 96 (by decide) t k hk1 x hx hx9 E (by rw [hE]; omega) (by omega)
        rw [hX] at hnx
        have HN := hide hnx
        clear hin hC hE hG hx hX hnx
        generalize (⟨t.toArray⟩ : ByteArray) = S at *
        go_wp2_with fail
        refine ⟨⟨k + 1, hk1, by rw [Int.natCast_add]; rfl, by rw [← unhide HN]; rfl⟩, ?_⟩
        show t.length - ((k : Int) + 1).toNat < t.length - (k : Int).toNat
        omega
      · have HA := hide ((signs_a t).stop k hk1 hin)
        have g : E < 1 ∨ ¬ E < 1 ∧ 26 < E := by omega
        clear hin hC hE hG hx hX
        generalize (⟨t.toArray⟩ : ByteArray) = S at *
        rcases g with g | ⟨g, g'⟩
        · go_wp2_with fail
          go_ret2
          exact ⟨⟨none, unhide HA, rfl⟩, hb1⟩
        · go_wp2_with fail
          go_ret2
          exact ⟨⟨none, unhide HA, rfl⟩, hb1⟩
    · have HO := hide (show OnlyR .a t x by
        rw [hx]
        exact (signs_a t).end (by decide) k (by omega))
      have hcc : ¬ (k : Int) < ((⟨t.toArray⟩ : ByteArray).size : Int) ∨ (k : Int) < ((⟨t.toArray⟩ : ByteArray).size : Int) ∧ ¬ X ≤ 1000000000 := by omega
      clear hc hx
      rcases hcc with hcc | ⟨hcc, hcd⟩
      · have ho := unhide HO
        by_cases g1 : x < 1
        · have g1' : X < 1 := by omega
          have HA := hide (ans_out ho (Or.inl g1))
          clear ho HO
          go_wp2_with fail
          go_ret2
          exact ⟨⟨none, unhide HA, rfl⟩, hb1⟩
        · by_cases g2 : 1000000000 < x
          · have g1' : ¬ X < 1 := by omega
            have g2' : 1000000000 < X := by omega
            have HA := hide (ans_out ho (Or.inr g2))
            clear ho HO
            go_wp2_with fail
            go_ret2
            exact ⟨⟨none, unhide HA, rfl⟩, hb1⟩
          · have g1' : ¬ X < 1 := by omega
            have g2' : ¬ 1000000000 < X := by omega
            have HC := hide (show ∀ u, Calls Tryd.prog 12 #[.int .i64 X, .string ⟨#[97]⟩] u fun e w' => e = .returned (.tuple #[.string ⟨(wrF .a x).toArray⟩, .int .i64 0]) ∧ Below u.heap.size u w' from fun u => by
              rw [← hX]
              exact unhide HFx x u (by omega) (by omega))
            by_cases g3 : wrF .a x = t
            · have hq := str_beq (wrF .a x) t true (by simp [g3])
              have HA := hide (ans_yes (by omega) (by omega) g3)
              have HX := hide hX
              clear ho HO g3 hX
              generalize (⟨(wrF .a x).toArray⟩ : ByteArray) = T at *
              generalize (⟨t.toArray⟩ : ByteArray) = S at *
              go_wp2_with fail
              refine (unhide HC _).mono ?_
              rintro e w9 ⟨rfl, hb9⟩
              go_wp2_with fail
              go_ret2
              exact ⟨⟨_, unhide HA, by rw [← unhide HX]; rfl⟩, Below.then hb1 hb9⟩
            · have hq := str_beq (wrF .a x) t false (by simp [g3])
              have HA := hide (ans_no ho g3)
              clear ho HO g3
              generalize (⟨(wrF .a x).toArray⟩ : ByteArray) = T at *
              generalize (⟨t.toArray⟩ : ByteArray) = S at *
              go_wp2_with fail
              refine (unhide HC _).mono ?_
              rintro e w9 ⟨rfl, hb9⟩
              go_wp2_with fail
              go_ret2
              exact ⟨⟨none, unhide HA, rfl⟩, Below.then hb1 hb9⟩
      · have g2 : 1000000000 < x := by omega
        have g1' : ¬ X < 1 := by omega
        have g2' : 1000000000 < X := by omega
        have HA := hide (ans_out (unhide HO) (Or.inr g2))
        clear HO
        go_wp2_with fail
        go_ret2
        exact ⟨⟨none, unhide HA, rfl⟩, hb1⟩
set_option maxRecDepth 100000 in
set_option maxHeartbeats 2000000 in
theorem refRead_A (t : List UInt8) (w : World) (hs : t.length ≤ 1048576) :
    Calls Tryd.prog 14 #[.string ⟨t.toArray⟩, .string ⟨#[65]⟩] w fun e w' => (∃ r, AnsR .A t r ∧ e = .returned (readV r)) ∧ Below w.heap.size w w' := by
  have HFx := hide (show ∀ (n : Nat) (u : World), 1 ≤ n → n < 9223372036854775808 → Calls Tryd.prog 12 #[.int .i64 (n : Int), .string ⟨#[65]⟩] u fun e w' => e = .returned (.tuple #[.string ⟨(wrF .A n).toArray⟩, .int .i64 0]) ∧ Below u.heap.size u w' from fun n u h1 h2 => refFormat_A n u h1 h2)
  have HF1 := hide (show ∀ u, Calls Tryd.prog 12 #[.int .i64 1, .string ⟨#[65]⟩] u fun e w' => e = .returned (.tuple #[.string ⟨(wrF .A 1).toArray⟩, .int .i64 0]) ∧ Below u.heap.size u w' from fun u => unhide HFx 1 u (by decide) (by decide))
  have hsz0 : (⟨t.toArray⟩ : ByteArray).size = t.length := mk_size t
  generalize (⟨(wrF .A 1).toArray⟩ : ByteArray) = T1 at *
  go_enter Tryd.func14, Tryd.ntmps14
  go_wp2_with fail
  refine (unhide HF1 _).mono ?_
  rintro e w1 ⟨rfl, hb1⟩
  clear HF1
  go_wp2_with fail
  go_loop [8, 12] (fun v i => ∃ k : Nat, k ≤ t.length ∧ i = .int .i64 (k : Int) ∧ v = .int .i64 ((valV 26 64 (t.take k) : Nat) : Int)) (fun _ i => t.length - vNat i)
  case atStart => exact ⟨0, Nat.zero_le _, rfl, rfl⟩
  case round =>
    obtain ⟨k, hk, rfl, rfl⟩ := hrel
    obtain ⟨x, hx⟩ : ∃ x, x = valV 26 64 (t.take k) := ⟨_, rfl⟩
    rw [← hx]
    obtain ⟨X, hX⟩ : ∃ X : Int, (x : Int) = X := ⟨_, rfl⟩
    rw [hX]
    by_cases hc : k < t.length ∧ x ≤ 1000000000
    · obtain ⟨hk1, hx9⟩ := hc
      have hks : k < (⟨t.toArray⟩ : ByteArray).size := by omega
      have hks' : (k : Int) < ((⟨t.toArray⟩ : ByteArray).size : Int) := by omega
      have hX9 : X ≤ 1000000000 := by omega
      obtain ⟨C, D, E, G, hC, e0, e0', e1, e2, e3, hE, hG⟩ := rd_let t[k]
      have hC' : (((⟨t.toArray⟩ : ByteArray)[k]'hks).toNat : Int) = C := hC
      by_cases hin : 65 ≤ t[k].toNat ∧ t[k].toNat ≤ 90
      · have g1 : ¬ G < 1 := by omega
        have g2 : ¬ 26 < G := by omega
        have hnx := rd_next 26 64 (by decide) t k hk1 x hx hx9 G (by rw [hG]; omega) (by omega)
        rw [hX] at hnx
        have HN := hide hnx
        clear hin hC hE hG hx hX hnx
        generalize (⟨t.toArray⟩ : ByteArray) = S at *
        go_wp2_with fail
        refine ⟨⟨k + 1, hk1, by rw [Int.natCast_add]; rfl, by rw [← unhide HN]; rfl⟩, ?_⟩
        show t.length - ((k : Int) + 1).toNat < t.length - (k : Int).toNat
        omega
      · have HA := hide ((signs_A t).stop k hk1 hin)
        have g : G < 1 ∨ ¬ G < 1 ∧ 26 < G := by omega
        clear hin hC hE hG hx hX
        generalize (⟨t.toArray⟩ : ByteArray) = S at *
        rcases g with g | ⟨g, g'⟩
        · go_wp2_with fail
          go_ret2
          exact ⟨⟨none, unhide HA, rfl⟩, hb1⟩
        · go_wp2_with fail
          go_ret2
          exact ⟨⟨none, unhide HA, rfl⟩, hb1⟩
    · have HO := hide (show OnlyR .A t x by
        rw [hx]
        exact (signs_A t).end (by decide) k (by omega))
      have hcc : ¬ (k : Int) < ((⟨t.toArray⟩ : ByteArray).size : Int) ∨ (k : Int) < ((⟨t.toArray⟩ : ByteArray).size : Int) ∧ ¬ X ≤ 1000000000 := by omega
      clear hc hx
      rcases hcc with hcc | ⟨hcc, hcd⟩
      · have ho := unhide HO
        by_cases g1 : x < 1
        · have g1' : X < 1 := by omega
          have HA := hide (ans_out ho (Or.inl g1))
          clear ho HO
          go_wp2_with fail
          go_ret2
          exact ⟨⟨none, unhide HA, rfl⟩, hb1⟩
        · by_cases g2 : 1000000000 < x
          · have g1' : ¬ X < 1 := by omega
            have g2' : 1000000000 < X := by omega
            have HA := hide (ans_out ho (Or.inr g2))
            clear ho HO
            go_wp2_with fail
            go_ret2
            exact ⟨⟨none, unhide HA, rfl⟩, hb1⟩
          · have g1' : ¬ X < 1 := by omega
            have g2' : ¬ 1000000000 < X := by omega
            have HC := hide (show ∀ u, Calls Tryd.prog 12 #[.int .i64 X, .string ⟨#[65]⟩] u fun e w' => e = .returned (.tuple #[.string ⟨(wrF .A x).toArray⟩, .int .i64 0]) ∧ Below u.heap.size u w' from fun u => by
              rw [← hX]
              exact unhide HFx x u (by omega) (by omega))
            by_cases g3 : wrF .A x = t
            · have hq := str_beq (wrF .A x) t true (by simp [g3])
              have HA := hide (ans_yes (by omega) (by omega) g3)
              have HX := hide hX
              clear ho HO g3 hX
              generalize (⟨(wrF .A x).toArray⟩ : ByteArray) = T at *
              generalize (⟨t.toArray⟩ : ByteArray) = S at *
              go_wp2_with fail
              refine (unhide HC _).mono ?_
              rintro e w9 ⟨rfl, hb9⟩
              go_wp2_with fail
              go_ret2
              exact ⟨⟨_, unhide HA, by rw [← unhide HX]; rfl⟩, Below.then hb1 hb9⟩
            · have hq := str_beq (wrF .A x) t false (by simp [g3])
              have HA := hide (ans_no ho g3)
              clear ho HO g3
              generalize (⟨(wrF .A x).toArray⟩ : ByteArray) = T at *
              generalize (⟨t.toArray⟩ : ByteArray) = S at *
              go_wp2_with fail
              refine (unhide HC _).mono ?_
              rintro e w9 ⟨rfl, hb9⟩
              go_wp2_with fail
              go_ret2
              exact ⟨⟨none, unhide HA, rfl⟩, Below.then hb1 hb9⟩
      · have g2 : 1000000000 < x := by omega
        have g1' : ¬ X < 1 := by omega
        have g2' : 1000000000 < X := by omega
        have HA := hide (ans_out (unhide HO) (Or.inr g2))
        clear HO
        go_wp2_with fail
        go_ret2
        exact ⟨⟨none, unhide HA, rfl⟩, hb1⟩
set_option maxRecDepth 100000 in
set_option maxHeartbeats 2000000 in
theorem refRead_d (t : List UInt8) (g : ByteArray) (w : World) (hs : t.length ≤ 1048576) (hg : g.size ≤ 1000000) (h : g ≠ ⟨#[97]⟩ ∧ g ≠ ⟨#[65]⟩ ∧ g ≠ ⟨#[105]⟩ ∧ g ≠ ⟨#[73]⟩) (ht : Lib.trimLeftB g.data.toList 48 = [49]) :
    Calls Tryd.prog 14 #[.string ⟨t.toArray⟩, .string g] w fun e w' => (∃ r, AnsR (.d g.size) t r ∧ e = .returned (readV r)) ∧ Below w.heap.size w w' := by
  have HFx := hide (show ∀ (n : Nat) (u : World), 1 ≤ n → n < 9223372036854775808 → Calls Tryd.prog 12 #[.int .i64 (n : Int), .string g] u fun e w' => e = .returned (.tuple #[.string ⟨(wrF (.d g.size) n).toArray⟩, .int .i64 0]) ∧ Below u.heap.size u w' from fun n u h1 h2 => refFormat_d g n u h1 h2 hg h ht)
  have HF1 := hide (show ∀ u, Calls Tryd.prog 12 #[.int .i64 1, .string g] u fun e w' => e = .returned (.tuple #[.string ⟨(wrF (.d g.size) 1).toArray⟩, .int .i64 0]) ∧ Below u.heap.size u w' from fun u => unhide HFx 1 u (by decide) (by decide))
  have hsz0 : (⟨t.toArray⟩ : ByteArray).size = t.length := mk_size t
  have HSG := hide (signs_d g.size t)
  obtain ⟨n1, n2, n3, n4⟩ := h
  have q1 := beq_ne g _ n1
  have q2 := beq_ne g _ n2
  have q3 := beq_ne g _ n3
  have q4 := beq_ne g _ n4
  clear n1 n2 n3 n4 ht
  generalize (⟨(wrF (.d g.size) 1).toArray⟩ : ByteArray) = T1 at *
  go_enter Tryd.func14, Tryd.ntmps14
  go_wp2_with fail
  refine (unhide HF1 _).mono ?_
  rintro e w1 ⟨rfl, hb1⟩
  clear HF1
  go_wp2_with fail
  go_loop [8, 14] (fun v i => ∃ k : Nat, k ≤ t.length ∧ i = .int .i64 (k : Int) ∧ v = .int .i64 ((valV 10 48 (t.take k) : Nat) : Int)) (fun _ i => t.length - vNat i)
  case atStart => exact ⟨0, Nat.zero_le _, rfl, rfl⟩
  case round =>
    obtain ⟨k, hk, rfl, rfl⟩ := hrel
    obtain ⟨x, hx⟩ : ∃ x, x = valV 10 48 (t.take k) := ⟨_, rfl⟩
    rw [← hx]
    obtain ⟨X, hX⟩ : ∃ X : Int, (x : Int) = X := ⟨_, rfl⟩
    rw [hX]
    by_cases hc : k < t.length ∧ x ≤ 1000000000
    · obtain ⟨hk1, hx9⟩ := hc
      have hks : k < (⟨t.toArray⟩ : ByteArray).size := by omega
      have hks' : (k : Int) < ((⟨t.toArray⟩ : ByteArray).size : Int) := by omega
      have hX9 : X ≤ 1000000000 := by omega
      obtain ⟨C, hC⟩ : ∃ C : Int, (t[k].toNat : Int) = C := ⟨_, rfl⟩
      have hC' : (((⟨t.toArray⟩ : ByteArray)[k]'hks).toNat : Int) = C := hC
      by_cases hin : 48 ≤ t[k].toNat ∧ t[k].toNat ≤ 57
      · have g1 : ¬ C < 48 := by omega
        have g2 : ¬ 57 < C := by omega
        obtain ⟨D, e1, e2, e2', hD⟩ := rd_dig t[k] hin
        have hnx := rd_next 10 48 (by decide) t k hk1 x hx hx9 D (by rw [hD]; omega) (by omega)
        rw [hX] at hnx
        rw [hC] at e1
        have HN := hide hnx
        clear hin hC hD hx hX hnx
        generalize (⟨t.toArray⟩ : ByteArray) = S at *
        go_wp2_with fail
        refine ⟨⟨k + 1, hk1, by rw [Int.natCast_add]; rfl, by rw [← unhide HN]; rfl⟩, ?_⟩
        show t.length - ((k : Int) + 1).toNat < t.length - (k : Int).toNat
        omega
      · have HA := hide ((unhide HSG).stop k hk1 hin)
        have g : C < 48 ∨ ¬ C < 48 ∧ 57 < C := by omega
        clear hin hC hx hX
        generalize (⟨t.toArray⟩ : ByteArray) = S at *
        rcases g with g | ⟨g, g'⟩
        · go_wp2_with fail
          go_ret2
          exact ⟨⟨none, unhide HA, rfl⟩, hb1⟩
        · go_wp2_with fail
          go_ret2
          exact ⟨⟨none, unhide HA, rfl⟩, hb1⟩
    · have HO := hide (show OnlyR (.d g.size) t x by
        rw [hx]
        exact (unhide HSG).end (by decide) k (by omega))
      have hcc : ¬ (k : Int) < ((⟨t.toArray⟩ : ByteArray).size : Int) ∨ (k : Int) < ((⟨t.toArray⟩ : ByteArray).size : Int) ∧ ¬ X ≤ 1000000000 := by omega
      clear hc hx
      rcases hcc with hcc | ⟨hcc, hcd⟩
      · have ho := unhide HO
        by_cases g1 : x < 1
        · have g1' : X < 1 := by omega
          have HA := hide (ans_out ho (Or.inl g1))
          clear ho HO
          go_wp2_with fail
          go_ret2
          exact ⟨⟨none, unhide HA, rfl⟩, hb1⟩
        · by_cases g2 : 1000000000 < x
          · have g1' : ¬ X < 1 := by omega
            have g2' : 1000000000 < X := by omega
            have HA := hide (ans_out ho (Or.inr g2))
            clear ho HO
            go_wp2_with fail
            go_ret2
            exact ⟨⟨none, unhide HA, rfl⟩, hb1⟩
          · have g1' : ¬ X < 1 := by omega
            have g2' : ¬ 1000000000 < X := by omega
            have HC := hide (show ∀ u, Calls Tryd.prog 12 #[.int .i64 X, .string g] u fun e w' => e = .returned (.tuple #[.string ⟨(wrF (.d g.size) x).toArray⟩, .int .i64 0]) ∧ Below u.heap.size u w' from fun u => by
              rw [← hX]
              exact unhide HFx x u (by omega) (by omega))
            by_cases g3 : wrF (.d g.size) x = t
            · have hq := str_beq (wrF (.d g.size) x) t true (by simp [g3])
              have HA := hide (ans_yes (by omega) (by omega) g3)
              have HX := hide hX
              clear ho HO g3 hX
              generalize (⟨(wrF (.d g.size) x).toArray⟩ : ByteArray) = T at *
              generalize (⟨t.toArray⟩ : ByteArray) = S at *
              go_wp2_with fail
              refine (unhide HC _).mono ?_
              rintro e w9 ⟨rfl, hb9⟩
              go_wp2_with fail
              go_ret2
              exact ⟨⟨_, unhide HA, by rw [← unhide HX]; rfl⟩, Below.then hb1 hb9⟩
            · have hq := str_beq (wrF (.d g.size) x) t false (by simp [g3])
              have HA := hide (ans_no ho g3)
              clear ho HO g3
              generalize (⟨(wrF (.d g.size) x).toArray⟩ : ByteArray) = T at *
              generalize (⟨t.toArray⟩ : ByteArray) = S at *
              go_wp2_with fail
              refine (unhide HC _).mono ?_
              rintro e w9 ⟨rfl, hb9⟩
              go_wp2_with fail
              go_ret2
              exact ⟨⟨none, unhide HA, rfl⟩, Below.then hb1 hb9⟩
      · have g2 : 1000000000 < x := by omega
        have g1' : ¬ X < 1 := by omega
        have g2' : 1000000000 < X := by omega
        have HA := hide (ans_out (unhide HO) (Or.inr g2))
        clear HO
        go_wp2_with fail
        go_ret2
        exact ⟨⟨none, unhide HA, rfl⟩, hb1⟩
end Go.Proofs.YtmjjckindnffdaaDoor
