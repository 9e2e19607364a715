/-
  CONTRACTS of crc.More and crc.Of. No conditions but the text's size.
-/
import Derived.Test.YthimjdknafgfbaaCrcBase
namespace Go.Proofs.Ythimjdknafgfbaa
open Go.RowKit

theorem take_snoc (s : ByteArray) (k : Nat) (h : k < s.size) : s.data.toList.take (k + 1) = s.data.toList.take k ++ [s[k]] := by
  rw [List.take_succ_eq_append_getElem (by simpa using h)]; rfl
def regK (r : B32) (s : ByteArray) (k : Nat) : B32 := regF r (s.data.toList.take k)
theorem regK_on (r : B32) (s : ByteArray) (k : Nat) (h : k < s.size) : regK r s (k + 1) = shN 8 (regK r s k ^^^ BitVec.ofNat 32 (s[k]).toNat) := by
  unfold regK
  rw [take_snoc s k h, regF_app]
  rfl
theorem vI_byte (c : UInt8) : vI (BitVec.ofNat 32 c.toNat) = (c.toNat : Int) := by
  unfold vI
  rw [BitVec.toNat_ofNat]
  have := c.toNat_lt
  omega
theorem and15_lt (x : B32) : ∃ q : Nat, q < 16 ∧ vI x % 16 = q ∧ x &&& 15#32 = BitVec.ofNat 32 q := by
  obtain ⟨h0, h1⟩ := vI_rng x
  refine ⟨(vI x % 16).toNat, by omega, by omega, vI_inj ?_⟩
  rw [← vI_mod16]
  unfold vI at *
  rw [BitVec.toNat_ofNat]
  omega
theorem vI_shr4 (x : B32) : vI x / (16 : Int) = vI (x >>> 4) := by rw [vI_shr]; rfl
theorem half_step (x : B32) : ∃ q : Nat, q < 16 ∧ vI x % 16 = q ∧ bits .xor .u32 (vI x / (16 : Int)) (movI q) = vI (shN 4 x) := by
  obtain ⟨q, h1, h2, h3⟩ := and15_lt x
  refine ⟨q, h1, h2, ?_⟩
  unfold movI
  rw [vI_shr4, vI_xor, sh4_split x, h3]
theorem vI_max (x : B32) : bits .xor .u32 IntKind.u32.max (vI x) = vI (~~~ x) := by
  rw [show IntKind.u32.max = vI (BitVec.allOnes 32) by decide]
  exact vI_not x
set_option maxHeartbeats 1000000 in
theorem more_any (sum : B32) (s : ByteArray) (w : World) (hs : s.size ≤ maxLen) :
    Calls Try.prog 30 #[.int .u32 (vI sum), .string s] w fun e w' => e = .returned (.int .u32 (vI (moreB sum s.data.toList))) ∧ Below w.heap.size w w' := by
  unfold maxLen at hs
  have hlen := movL_len (Nat.le_refl 16)
  have hsz := Try.size16.trans (congrArg some (AR.size .u32 (movL 16) hlen).symm)
  have hc0 := halfMoves_any w
  clear hlen
  go_enter Try.func30, Try.ntmps30
  go_wp2_with (first | (go_at_call 32; refine hc0.mono ?_; rintro r w1 ⟨rfl, hb1⟩; have K0 : AR .u32 55 (w1.alloc (.cells ((List.replicate 16 0).map (Value.int .u32)).toArray 55)) w1.heap.size (List.replicate 16 0) := heap_alloc_new w1 _) | (refine wpList_store_row rfl 55 (.tmp 5) _ rfl w1.heap.size ((movL 16).map (Value.int .u32)).toArray rfl rfl 55 _ K0 hsz rfl (AR.all _ _) ?_))
  generalize hW0 : (w1.alloc _).setRow w1.heap.size ((movL 16).map (Value.int .u32)).toArray = W0
  have K1 : AR .u32 55 W0 w1.heap.size (movL 16) := by rw [← hW0]; exact AR.row K0 _
  have B1 : Below w.heap.size w W0 := by rw [← hW0]; exact below_row (hb1.alloc hb1.size _) hb1.size _
  clear hW0 K0
  go_loop [6, 13] (fun vr v => ∃ k : Nat, v = .int .i64 k ∧ k ≤ s.size ∧ vr = .int .u32 (vI (regK (~~~ sum) s k))) (fun _ v => s.size - (intOf v).toNat)
  case atStart => exact ⟨0, rfl, by omega, by rw [vI_max]; rfl⟩
  case round =>
    obtain ⟨k, rfl, hk, rfl⟩ := hrel
    by_cases hlt : k < s.size
    · have hd : decide ((k : Int) < (s.size : Int)) = true := by simp; omega
      have HR := Lib.hid (regK_on (~~~ sum) s k hlt)
      generalize regK (~~~ sum) s k = r at HR ⊢
      have e0 := vI_xor r (BitVec.ofNat 32 (s[k]).toNat)
      rw [vI_byte, show ((s[k]).toNat : Int) = ((s[k]).toNat : Int) % 4294967296 by have := (s[k]).toNat_lt; omega] at e0
      generalize r ^^^ BitVec.ofNat 32 (s[k]).toNat = x at e0 HR
      obtain ⟨q1, hq1, e1, f1⟩ := half_step x
      obtain ⟨q2, hq2, e2, f2⟩ := half_step (shN 4 x)
      rw [← shN_add 4 4 x] at f2
      obtain ⟨hr0, hr1⟩ := vI_rng r
      obtain ⟨hx0, hx1⟩ := vI_rng x
      obtain ⟨hy0, hy1⟩ := vI_rng (shN 4 x)
      have c1 := K1.cell (j := q1) (by rw [movL_len (Nat.le_refl 16)]; exact hq1)
      have c2 := K1.cell (j := q2) (by rw [movL_len (Nat.le_refl 16)]; exact hq2)
      rw [movL_get hq1] at c1
      rw [movL_get hq2] at c2
      generalize vI r = vr at *
      generalize vI x = vx at *
      generalize vI (shN 4 x) = vy at *
      have F2 := Lib.hid f2
      clear f2
      go_wp2
      go_round
      case rel => exact ⟨k + 1, by go_num, by omega, by rw [HR.out, ← F2.out]⟩
      case measure => simp [intOf]; omega
    · obtain rfl : k = s.size := by omega
      have hall : regK (~~~ sum) s s.size = regF (~~~ sum) s.data.toList := by unfold regK; rw [List.take_of_length_le (by rw [← Lib.size_eq]; exact Nat.le_refl _)]
      have HA := Lib.hid hall
      clear hall
      go_wp2
      go_ret
      exact ⟨ret_int (by rw [vI_max, HA.out]; rfl), B1⟩
theorem of_any (s : ByteArray) (w : World) (hs : s.size ≤ maxLen) :
    Calls Try.prog 26 #[.string s] w fun e w' => e = .returned (.int .u32 (vI (moreB 0#32 s.data.toList))) ∧ Below w.heap.size w w' := by
  have h0 := vI_zero
  have hm := more_any 0#32 s w hs
  rw [h0] at hm
  clear h0
  go_enter Try.func26, Try.ntmps26
  go_wp2_with (go_at_call 30; refine hm.mono ?_; rintro r w1 ⟨rfl, hb1⟩)
  go_ret
  exact ⟨rfl, hb1⟩
end Go.Proofs.Ythimjdknafgfbaa
