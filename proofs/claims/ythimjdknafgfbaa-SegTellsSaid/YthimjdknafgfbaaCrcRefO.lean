/-
  CONTRACTS of the document's own codicilref04.More and Of. No conditions but the text's size. (As in CrcRef, for seats that have no Join.)
-/
import Derived.Test.YthimjdknafgfbaaCrcMore
namespace Go.Proofs.Ythimjdknafgfbaa
open Go.RowKit

theorem ref_step (x : B32) : (bits .and .u32 (vI x) 1 = 1 ∧ bits .xor .u32 (vI x / (2 : Int)) 3988292384 = vI (shB x)) ∨ (bits .and .u32 (vI x) 1 = 0 ∧ vI x / (2 : Int) = vI (shB x)) := by
  have e : bits .and .u32 (vI x) 1 = vI (bitB x 0) := by rw [← vI_one, vI_and, and_one]
  rw [e]
  unfold bitB shB
  cases h : x.getLsbD 0
  · refine .inr ⟨by simp [vI_zero], ?_⟩
    rw [vI_shr1]
    simp
  · refine .inl ⟨by simp [vI_one], ?_⟩
    rw [vI_shr1, ← vI_poly, vI_xor]
    simp
set_option maxHeartbeats 1000000 in
theorem refMore_any (sum : B32) (s : ByteArray) (w : World) (hs : s.size ≤ maxLen) :
    Calls Try.prog 31 #[.int .u32 (vI sum), .string s] w fun e w' => e = .returned (.int .u32 (vI (moreB sum s.data.toList))) ∧ w = w' := by
  unfold maxLen at hs
  go_enter Try.func31, Try.ntmps31
  go_wp2
  go_loop [5, 6] (fun vr v => ∃ k : Nat, v = .int .i64 k ∧ k ≤ s.size ∧ vr = .int .u32 (vI (regK (~~~ sum) s k))) (fun _ v => s.size - (intOf v).toNat)
  case atStart => exact ⟨0, rfl, by omega, by rw [vI_max]; rfl⟩
  case round =>
    obtain ⟨k, rfl, hk, rfl⟩ := hrel
    by_cases hlt : k < s.size
    · have hd : decide ((k : Int) < (s.size : Int)) = true := by simp; omega
      have HR := Lib.hid (regK_on (~~~ sum) s k hlt)
      generalize regK (~~~ sum) s k = r at HR ⊢
      have e0 := vI_xor r (BitVec.ofNat 32 (s[k]).toNat)
      rw [vI_byte, show ((s[k]).toNat : Int) = ((s[k]).toNat : Int) % 4294967296 by have := (s[k]).toNat_lt; omega] at e0
      generalize r ^^^ BitVec.ofNat 32 (s[k]).toNat = x at e0 HR
      have X : Hid (vI x = vI (shN 0 x)) := Lib.hid rfl
      generalize vI r = vr at *
      generalize vI x = vx at *
      go_wp2
      go_loop [5, 7] (fun vr v => ∃ j : Nat, v = .int .i64 j ∧ j ≤ 8 ∧ vr = .int .u32 (vI (shN j x))) (fun _ v => 8 - (intOf v).toNat)
      case atStart => exact ⟨0, rfl, by omega, by rw [X.out]⟩
      case round =>
        obtain ⟨j, rfl, hj, rfl⟩ := hrel
        by_cases hj8 : j < 8
        · have hdj : decide ((j : Int) < 8) = true := by simp; omega
          have hst := ref_step (shN j x)
          have S := Lib.hid (show vI (shB (shN j x)) = vI (shN (j + 1) x) from rfl)
          obtain ⟨v0, v1⟩ := vI_rng (shN j x)
          generalize vI (shN j x) = vy at *
          generalize vI (shB (shN j x)) = vz at *
          rcases hst with ⟨c1, c2⟩ | ⟨c1, c2⟩
          · go_wp2
            go_round
            case rel => exact ⟨j + 1, by go_num, by omega, by rw [S.out]⟩
            case measure => simp [intOf]; omega
          · go_wp2
            go_round
            case rel => exact ⟨j + 1, by go_num, by omega, by rw [S.out]⟩
            case measure => simp [intOf]; omega
        · obtain rfl : j = 8 := by omega
          go_wp2
          go_round
          case rel => exact ⟨k + 1, by go_num, by omega, by rw [HR.out]⟩
          case measure => simp [intOf]; omega
    · obtain rfl : k = s.size := by omega
      have hall : regK (~~~ sum) s s.size = regF (~~~ sum) s.data.toList := by unfold regK; rw [List.take_of_length_le (by rw [← Lib.size_eq]; exact Nat.le_refl _)]
      have HA := Lib.hid hall
      clear hall
      go_wp2
      go_ret
      exact ⟨ret_int (by rw [vI_max, HA.out]; rfl), rfl⟩
theorem refOf_any (s : ByteArray) (w : World) (hs : s.size ≤ maxLen) :
    Calls Try.prog 27 #[.string s] w fun e w' => e = .returned (.int .u32 (vI (moreB 0#32 s.data.toList))) ∧ w = w' := by
  have h0 := vI_zero
  have hm := refMore_any 0#32 s w hs
  rw [h0] at hm
  clear h0
  go_enter Try.func27, Try.ntmps27
  go_wp2_with (go_at_call 31; refine hm.mono ?_; rintro r w1 ⟨rfl, rfl⟩)
  go_ret
  exact ⟨rfl, rfl⟩
end Go.Proofs.Ythimjdknafgfbaa
