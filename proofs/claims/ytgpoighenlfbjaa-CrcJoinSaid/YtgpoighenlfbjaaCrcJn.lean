/-
  CONTRACTS of crc.times and crc.Join. No conditions.
-/
import Derived.Test.YtgpoighenlfbjaaCrcBase
namespace Go.Proofs.Ytgpoighenlfbjaa
open Go.RowKit

theorem tm_step (a b : B32) (k : Nat) :
    bits .xor .u32 (vI (tmN k a b)) (vI (shN k a) * bits .and .u32 (vI b / ((2 : Int) ^ (31 - k))) 1 % 4294967296) = vI (tmN (k + 1) a b) := by
  have e : vI b / ((2 : Int) ^ (31 - k)) = vI (b >>> (31 - k)) := by
    rw [vI_shr, Int.natCast_pow]
    rfl
  rw [e, ← vI_one, vI_and, bitB_shr, ← vI_mul, vI_xor]
  congr 1
  rw [tmN]
  congr 1
  unfold bitB
  cases b.getLsbD (31 - k) <;> simp
theorem times_any (a b : B32) (w : World) :
    Calls Try.prog 14 #[.int .u32 (vI a), .int .u32 (vI b)] w fun e w' => e = .returned (.int .u32 (vI (tmB a b))) ∧ w = w' := by
  go_enter Try.func14, Try.ntmps14
  go_wp2
  go_loop [0, 5, 7] (fun va vp v => ∃ k : Nat, v = .int .i64 k ∧ k ≤ 32 ∧ va = .int .u32 (vI (shN k a)) ∧ vp = .int .u32 (vI (tmN k a b))) (fun _ _ v => 32 - (intOf v).toNat)
  case atStart => exact ⟨0, rfl, by omega, rfl, rfl⟩
  case round =>
    obtain ⟨k, rfl, hk, rfl, rfl⟩ := hrel
    by_cases hlt : k < 32
    · have hd : decide ((k : Int) < 32) = true := by simp; omega
      have E := Lib.hid (tm_step a b k)
      have hsh := shifted_any (shN k a)
      obtain ⟨b0, b1⟩ := vI_rng b
      obtain ⟨a0, a1⟩ := vI_rng (shN k a)
      have S := Lib.hid (show shB (shN k a) = shN (k + 1) a from rfl)
      generalize shN k a = x at *
      generalize vI b = vb at *
      generalize vI (tmN k a b) = vt at *
      go_wp2_with (go_at_call 16; refine (hsh _).mono ?_; rintro e w' ⟨rfl, rfl⟩)
      go_round
      case rel => exact ⟨k + 1, by go_num, by omega, by rw [S.out], by rw [← E.out]⟩
      case measure => simp [intOf]; omega
    · obtain rfl : k = 32 := by omega
      go_wp2
      go_ret
      exact ⟨rfl, rfl⟩

theorem and_bit (m : Nat) (h : m < 4611686018427387904) : bits .and .i64 (m : Int) 1 = ((m % 2 : Nat) : Int) := by
  have := bits_mask .i64 63 (by decide) (fun n h0 h1 => by rw [IntKind.wrap_i64]; omega) 1 (by decide) (m : Int) (by omega) (by omega)
  rw [show ((2 : Int) ^ 1 - 1) = 1 by decide] at this
  rw [this]
  omega
theorem zeroB : vI (shN (8 * 1) oneB) = 8388608 := by decide
set_option maxHeartbeats 1000000 in
theorem join_any (a b : B32) (n : Nat) (hn : n ≤ 1048576) (w : World) :
    Calls Try.prog 11 #[.int .u32 (vI a), .int .u32 (vI b), .int .i64 n] w fun e w' => e = .returned (.int .u32 (vI (joinB a b n))) ∧ w = w' := by
  go_enter Try.func11, Try.ntmps11
  go_wp2
  go_loop [0, 7, 8] (fun va vz v => ∃ j p m : Nat, n = j + p * m ∧ m ≤ 1048576 ∧ v = .int .i64 m ∧ va = .int .u32 (vI (shN (8 * j) a)) ∧ vz = .int .u32 (vI (shN (8 * p) oneB))) (fun _ _ v => (intOf v).toNat)
  case atStart => exact ⟨0, 1, n, by omega, hn, rfl, rfl, by rw [zeroB]⟩
  case round =>
    obtain ⟨j, p, m, hnm, hm, rfl, rfl, rfl⟩ := hrel
    have H := Lib.hid hnm
    clear hnm
    by_cases hz : 0 < m
    · have hd : decide ((0 : Int) < (m : Int)) = true := by simp; omega
      have hb := and_bit m (by omega)
      have ht1 := times_any (shN (8 * j) a) (shN (8 * p) oneB)
      have ht2 := times_any (shN (8 * p) oneB) (shN (8 * p) oneB)
      rw [tm_pow, ← shN_add, show 8 * p + 8 * j = 8 * (j + p) by omega] at ht1
      rw [tm_pow, ← shN_add, show 8 * p + 8 * p = 8 * (p + p) by omega] at ht2
      obtain ⟨x', X'⟩ : ∃ x', Hid (x' = shN (8 * (j + p)) a) := ⟨_, Lib.hid rfl⟩
      obtain ⟨z', Z'⟩ : ∃ x', Hid (x' = shN (8 * (p + p)) oneB) := ⟨_, Lib.hid rfl⟩
      obtain ⟨x, X⟩ : ∃ x', Hid (x' = shN (8 * j) a) := ⟨_, Lib.hid rfl⟩
      obtain ⟨z, Z⟩ : ∃ x', Hid (x' = shN (8 * p) oneB) := ⟨_, Lib.hid rfl⟩
      rw [← X'.out, ← X.out, ← Z.out] at ht1
      rw [← Z'.out, ← Z.out] at ht2
      rw [← X.out, ← Z.out]
      by_cases ho : m % 2 = 1
      · rw [ho] at hb
        have hn2 : n = (j + p) + (p + p) * (m / 2) := by
          have := H.out
          obtain ⟨q, hq⟩ : ∃ q, q = m / 2 := ⟨_, rfl⟩
          have hm2 : m = 2 * q + 1 := by omega
          rw [← hq, this, hm2, Nat.mul_add, Nat.mul_one, Nat.add_mul, ← Nat.mul_assoc, Nat.mul_comm p 2, Nat.two_mul, Nat.add_mul]
          omega
        have H2 := Lib.hid hn2
        clear hn2 ho
        go_wp2_with (go_at_call_of 14 (Value.int .u32 (vI x)); refine (ht1 _).mono ?_; rintro e w' ⟨rfl, rfl⟩)
        go_wp2_with (go_at_call 14; refine (ht2 _).mono ?_; rintro e w' ⟨rfl, rfl⟩)
        go_round
        case rel => exact ⟨j + p, p + p, m / 2, H2.out, by omega, by go_num, by rw [X'.out], by rw [Z'.out]⟩
        case measure => simp [intOf]; omega
      · rw [show m % 2 = 0 by omega] at hb
        have hn2 : n = j + (p + p) * (m / 2) := by
          have := H.out
          obtain ⟨q, hq⟩ : ∃ q, q = m / 2 := ⟨_, rfl⟩
          have hm2 : m = 2 * q := by omega
          rw [← hq, this, hm2, ← Nat.mul_assoc, Nat.mul_comm p 2, Nat.two_mul]
        have H2 := Lib.hid hn2
        clear hn2 ho
        go_wp2_with (go_at_call 14; refine (ht2 _).mono ?_; rintro e w' ⟨rfl, rfl⟩)
        go_round
        case rel => exact ⟨j, p + p, m / 2, H2.out, by omega, by go_num, by rw [X.out], by rw [Z'.out]⟩
        case measure => simp [intOf]; omega
    · obtain rfl : m = 0 := by omega
      have hj : n = j := by have := H.out; simpa using this
      clear H
      obtain rfl := hj
      have E := Lib.hid (vI_xor (shN (8 * n) a) b)
      go_wp2
      go_ret
      exact ⟨ret_int (by rw [E.out]; rfl), rfl⟩
end Go.Proofs.Ytgpoighenlfbjaa
