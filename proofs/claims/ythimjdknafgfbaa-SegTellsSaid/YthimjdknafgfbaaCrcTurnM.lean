/-
  PLAIN LEAN, no program: bits that are turned within 32 in a row change the register. No conditions.
-/
import Derived.Test.YthimjdknafgfbaaCrcMath
namespace Go.Proofs.Ythimjdknafgfbaa
open Go

theorem regF_xor (l : List UInt8) (a b : B32) : regF (a ^^^ b) l = regF a l ^^^ shN (8 * l.length) b := by
  rw [regF_lin l (a ^^^ b), regF_lin l a, shN_xor, BitVec.xor_assoc, BitVec.xor_assoc]
  congr 1
  rw [BitVec.xor_comm]
def b8 (c : UInt8) : B32 := BitVec.ofNat 32 c.toNat
theorem b8_xor (c m : UInt8) : b8 (c ^^^ m) = b8 c ^^^ b8 m := by
  unfold b8
  apply BitVec.eq_of_toNat_eq
  rw [BitVec.toNat_xor, BitVec.toNat_ofNat, BitVec.toNat_ofNat, BitVec.toNat_ofNat, UInt8.toNat_xor, Nat.xor_mod_two_pow]
theorem regF_set : ∀ (l : List UInt8) (R : B32) (q : Nat) (m : UInt8), (h : q < l.length) →
    regF R (l.set q (l[q] ^^^ m)) = regF R l ^^^ shN (8 * (l.length - q)) (b8 m)
  | [], _, _, _, h => absurd h (Nat.not_lt_zero _)
  | d :: l, R, 0, m, _ => by
    show regF (shN 8 (R ^^^ b8 (d ^^^ m))) l = regF (shN 8 (R ^^^ b8 d)) l ^^^ _
    rw [b8_xor, ← BitVec.xor_assoc, shN_xor, regF_xor, ← shN_add]
    rfl
  | d :: l, R, q + 1, m, h => by
    show regF (shN 8 (R ^^^ b8 d)) (l.set q (l[q]'(Nat.lt_of_succ_lt_succ h) ^^^ m)) = regF (shN 8 (R ^^^ b8 d)) l ^^^ _
    rw [regF_set l _ q m (Nat.lt_of_succ_lt_succ h), List.length_cons, Nat.add_sub_add_right]
theorem sh_back : ∀ j, j < 32 → shN j (1#32 <<< j) = 1#32 := by decide +kernel
theorem b8_bit : ∀ r, r < 8 → b8 (UInt8.ofNat (2 ^ r)) = 1#32 <<< r := by decide +kernel
/-- the lowest j bits -/
def lowB (x : B32) : Nat → B32
  | 0 => 0#32
  | j + 1 => if x.getLsbD j then lowB x j ^^^ (1#32 <<< j) else lowB x j
theorem lowB_off (x : B32) : ∀ (j i : Nat), j ≤ i → (lowB x j).getLsbD i = false
  | 0, i, _ => by simp [lowB]
  | j + 1, i, h => by
    rw [lowB]
    split
    · rw [BitVec.getLsbD_xor, lowB_off x j i (by omega), BitVec.getLsbD_shiftLeft]
      simp
      omega
    · exact lowB_off x j i (by omega)
theorem lowB_ne {x : B32} {j : Nat} (hj : j < 32) (h : x.getLsbD j = true) : lowB x (j + 1) ≠ 0#32 := by
  intro e
  have := congrArg (fun b : B32 => b.getLsbD j) e
  rw [lowB, if_pos h] at this
  simp only [BitVec.getLsbD_xor, lowB_off x j j (Nat.le_refl _), BitVec.getLsbD_shiftLeft] at this
  simp [hj] at this
/-- one bit more is turned -/
theorem turn_on {l : List UInt8} {R : B32} {S x : B32} {F j q r : Nat} (hreg : regF R l = S ^^^ shN (8 * l.length - F) (lowB x j)) (hj : j < 32) (hx : x.getLsbD j = true) (hq : q < l.length) (hr : r < 8) (hqr : 8 * q + r = F + j) :
    regF R (l.set q (l[q] ^^^ UInt8.ofNat (2 ^ r))) = S ^^^ shN (8 * l.length - F) (lowB x (j + 1)) := by
  rw [regF_set, hreg, lowB, if_pos hx, shN_xor, b8_bit r hr, ← BitVec.xor_assoc]
  congr 1
  have e1 : shN (8 * (l.length - q)) (1#32 <<< r) = shN (8 * (l.length - q) - r) 1#32 := by
    have := shN_add r (8 * (l.length - q) - r) (1#32 <<< r)
    rw [sh_back r (by omega)] at this
    rw [← this]
    congr 1
    omega
  have e2 : shN (8 * l.length - F) (1#32 <<< j) = shN (8 * l.length - F - j) 1#32 := by
    have := shN_add j (8 * l.length - F - j) (1#32 <<< j)
    rw [sh_back j hj] at this
    rw [← this]
    congr 1
    omega
  rw [e1, e2]
  congr 1
  omega
theorem turned_ne {l s : List UInt8} {x : B32} {n j : Nat} (hreg : regF (~~~ 0#32) l = regF (~~~ 0#32) s ^^^ shN n (lowB x j)) (h : lowB x j ≠ 0#32) : vI (moreB 0#32 l) ≠ vI (moreB 0#32 s) := by
  intro e
  have e1 := vI_inj e
  unfold moreB at e1
  have e2 := congrArg (fun b => ~~~ b) e1
  simp only [BitVec.not_not] at e2
  rw [hreg] at e2
  apply h
  apply shN_ne n
  have := congrArg (fun b => regF (~~~ 0#32) s ^^^ b) e2
  simp only [← BitVec.xor_assoc, BitVec.xor_self, BitVec.zero_xor] at this
  exact this
theorem bit_val (x : B32) (j : Nat) : bits .and .u32 (vI x / ((2 : Int) ^ j)) 1 = if x.getLsbD j then 1 else 0 := by
  have e : vI x / ((2 : Int) ^ j) = vI (x >>> j) := by
    rw [vI_shr, Int.natCast_pow]
    rfl
  rw [e, ← vI_one, vI_and, bitB_shr]
  unfold bitB
  cases x.getLsbD j <;> simp [vI_zero]
theorem flip_val (c : UInt8) (r : Nat) (hr : r < 8) : bits .xor .u8 (c.toNat : Int) ((2 : Int) ^ r % 256) = ((c ^^^ UInt8.ofNat (2 ^ r)).toNat : Int) := by
  have hp : (2 : Int) ^ r % 256 = ((UInt8.ofNat (2 ^ r)).toNat : Int) := by
    have : ∀ r : Nat, r < 8 → (2 : Int) ^ r % 256 = ((UInt8.ofNat (2 ^ r)).toNat : Int) := by decide +kernel
    exact this r hr
  rw [hp, u8_xor_nat _ _ c.toNat_lt (UInt8.ofNat (2 ^ r)).toNat_lt, UInt8.toNat_xor]
def nI8 (l : List UInt8) : List Int := l.map fun b => (b.toNat : Int)
theorem nI8_get {l : List UInt8} {q : Nat} (h : q < l.length) : (nI8 l).getD q 0 = ((l[q]).toNat : Int) := by
  unfold nI8
  simp [List.getD, h]
theorem nI8_len (l : List UInt8) : (nI8 l).length = l.length := by simp [nI8]
theorem nI8_set (l : List UInt8) (q : Nat) (c : UInt8) : (nI8 l).set q (c.toNat : Int) = nI8 (l.set q c) := by
  unfold nI8
  rw [List.map_set]
end Go.Proofs.Ythimjdknafgfbaa
