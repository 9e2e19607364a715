/-
  PLAIN LEAN, no program: the register of CRC-32 over BitVec 32. No conditions.
-/
import Derived.Laws.BitsAllLaws
import Derived.KernelRfl
import Derived.Lib.Strings
namespace Go.Proofs.Ythimjdknafgfbaa
open Go

abbrev B32 := BitVec 32
def polyB : B32 := 0xedb88320#32
/-- the register, moved once -/
def shB (x : B32) : B32 := if x.getLsbD 0 then (x >>> 1) ^^^ polyB else x >>> 1
def shN : Nat → B32 → B32
  | 0, x => x
  | n + 1, x => shB (shN n x)
theorem shN_add (m : Nat) : ∀ (n : Nat) (x : B32), shN (n + m) x = shN n (shN m x)
  | 0, x => by rw [Nat.zero_add]; rfl
  | n + 1, x => by rw [show n + 1 + m = (n + m) + 1 by omega, shN, shN, shN_add m n x]
theorem shN_in (n : Nat) (x : B32) : shN (n + 1) x = shN n (shB x) := shN_add 1 n x
theorem shB_xor (x y : B32) : shB (x ^^^ y) = shB x ^^^ shB y := by
  unfold shB
  rw [BitVec.getLsbD_xor, BitVec.ushiftRight_xor_distrib]
  cases hx : x.getLsbD 0 <;> cases hy : y.getLsbD 0 <;> simp
  · rw [BitVec.xor_assoc]
  · rw [BitVec.xor_assoc, BitVec.xor_assoc]; congr 1; rw [BitVec.xor_comm]
  · rw [show x >>> 1 ^^^ polyB ^^^ (y >>> 1 ^^^ polyB) = x >>> 1 ^^^ y >>> 1 ^^^ (polyB ^^^ polyB) by simp only [BitVec.xor_assoc]; congr 1; rw [← BitVec.xor_assoc, BitVec.xor_comm polyB, BitVec.xor_assoc]]
    simp
theorem shN_xor : ∀ (n : Nat) (x y : B32), shN n (x ^^^ y) = shN n x ^^^ shN n y
  | 0, _, _ => rfl
  | n + 1, x, y => by rw [shN, shN_xor n, shB_xor]; rfl
theorem shB_zero : shB 0#32 = 0#32 := by decide
theorem shN_zero : ∀ n, shN n 0#32 = 0#32
  | 0 => rfl
  | n + 1 => by rw [shN, shN_zero n, shB_zero]
theorem shB_ne {x : B32} (h : shB x = 0#32) : x = 0#32 := by
  unfold shB at h
  cases hx : x.getLsbD 0
  · rw [hx] at h
    simp only [Bool.false_eq_true, if_false] at h
    apply BitVec.eq_of_getLsbD_eq
    intro i hi
    rcases Nat.eq_zero_or_pos i with rfl | hp
    · simpa using hx
    · have := congrArg (fun b : B32 => b.getLsbD (i - 1)) h
      simp only [BitVec.getLsbD_ushiftRight] at this
      rw [show 1 + (i - 1) = i by omega] at this
      simpa using this
  · rw [hx] at h
    simp only [if_true] at h
    have := congrArg (fun b : B32 => b.getLsbD 31) h
    simp only [BitVec.getLsbD_xor, BitVec.getLsbD_ushiftRight] at this
    have e : polyB.getLsbD 31 = true := by decide
    rw [e, BitVec.getLsbD_of_ge _ _ (by omega)] at this
    cases this
theorem shN_ne : ∀ (n : Nat) {x : B32}, shN n x = 0#32 → x = 0#32
  | 0, _, h => h
  | n + 1, _, h => shN_ne n (shB_ne h)
/-- what agrees on the bits, and keeps sums, agrees -/
theorem lin_ext (f g : B32 → B32) (hf : ∀ x y, f (x ^^^ y) = f x ^^^ f y) (hg : ∀ x y, g (x ^^^ y) = g x ^^^ g y)
    (h : ∀ j, j < 32 → f (1#32 <<< j) = g (1#32 <<< j)) (x : B32) : f x = g x := by
  have f0 : f 0#32 = 0#32 := by have := hf 0#32 0#32; simpa using this
  have g0 : g 0#32 = 0#32 := by have := hg 0#32 0#32; simpa using this
  have : ∀ k, k ≤ 32 → ∀ x : B32, (∀ i, k ≤ i → x.getLsbD i = false) → f x = g x := by
    intro k
    induction k with
    | zero =>
      intro _ x hx
      have : x = 0#32 := BitVec.eq_of_getLsbD_eq fun i _ => by rw [hx i (Nat.zero_le _)]; simp
      rw [this, f0, g0]
    | succ k ih =>
      intro hk x hx
      cases hb : x.getLsbD k
      · refine ih (by omega) x fun i hi => ?_
        rcases Nat.eq_or_lt_of_le hi with rfl | h2
        · exact hb
        · exact hx i h2
      · have e : x = (x ^^^ (1#32 <<< k)) ^^^ (1#32 <<< k) := by rw [BitVec.xor_assoc]; simp
        rw [e, hf, hg, h k (by omega)]
        congr 1
        refine ih (by omega) _ fun i hi => ?_
        rw [BitVec.getLsbD_xor, BitVec.getLsbD_shiftLeft]
        rcases Nat.eq_or_lt_of_le hi with rfl | h2
        · rw [hb]; simp; omega
        · rw [hx i h2]
          simp
          omega
  exact this 32 (Nat.le_refl _) x fun i hi => BitVec.getLsbD_of_ge x i hi
theorem xor4 (a b c d : B32) : a ^^^ b ^^^ (c ^^^ d) = a ^^^ c ^^^ (b ^^^ d) := by
  simp only [BitVec.xor_assoc]
  congr 1
  rw [← BitVec.xor_assoc, BitVec.xor_comm b, BitVec.xor_assoc]
theorem and_xor15 (x y : B32) : (x ^^^ y) &&& 15#32 = (x &&& 15#32) ^^^ (y &&& 15#32) := by
  apply BitVec.eq_of_getLsbD_eq
  intro i _
  simp only [BitVec.getLsbD_and, BitVec.getLsbD_xor]
  cases x.getLsbD i <;> cases y.getLsbD i <;> simp
/-- half a byte at once -/
theorem sh4_split (x : B32) : shN 4 x = (x >>> 4) ^^^ shN 4 (x &&& 15#32) := by
  refine lin_ext (fun x => shN 4 x) (fun x => (x >>> 4) ^^^ shN 4 (x &&& 15#32)) (fun x y => shN_xor 4 x y) (fun x y => ?_) ?_ x
  · simp only [BitVec.ushiftRight_xor_distrib, and_xor15, shN_xor]
    exact xor4 _ _ _ _
  · decide +kernel
/-- b's bits, from the highest on, as a sum of moves of a -/
def tmN : Nat → B32 → B32 → B32
  | 0, _, _ => 0#32
  | i + 1, a, b => tmN i a b ^^^ (if b.getLsbD (31 - i) then shN i a else 0#32)
def tmB (a b : B32) : B32 := tmN 32 a b
theorem tmN_xor_r (i : Nat) (a b c : B32) : tmN i a (b ^^^ c) = tmN i a b ^^^ tmN i a c := by
  induction i with
  | zero => simp [tmN]
  | succ i ih =>
    rw [tmN, tmN, tmN, ih, BitVec.getLsbD_xor, xor4]
    congr 1
    cases b.getLsbD (31 - i) <;> cases c.getLsbD (31 - i) <;> simp
theorem tmN_xor_l (i : Nat) (a b c : B32) : tmN i (a ^^^ b) c = tmN i a c ^^^ tmN i b c := by
  induction i with
  | zero => simp [tmN]
  | succ i ih =>
    rw [tmN, tmN, tmN, ih, xor4]
    congr 1
    cases c.getLsbD (31 - i)
    · simp
    · simp [shN_xor]
theorem tmN_sh_l (i : Nat) (a b : B32) : tmN i (shB a) b = shB (tmN i a b) := by
  induction i with
  | zero => rw [tmN, tmN, shB_zero]
  | succ i ih =>
    rw [tmN, tmN, ih, shB_xor]
    congr 1
    cases b.getLsbD (31 - i)
    · simp [shB_zero]
    · simp only [if_true]; rw [← shN_in]; rfl
def oneB : B32 := 0x80000000#32
theorem tm_one_l (b : B32) : tmB oneB b = b := by
  refine lin_ext (fun b => tmB oneB b) (fun b => b) (fun x y => tmN_xor_r 32 _ x y) (fun _ _ => rfl) ?_ b
  decide +kernel
theorem shN_one : ∀ j, j < 32 → shN (31 - j) oneB = 1#32 <<< j := by decide +kernel
theorem tm_basis (a : B32) (j : Nat) (h : j < 32) : tmB a (1#32 <<< j) = shN (31 - j) a := by
  refine lin_ext (fun a => tmB a (1#32 <<< j)) (fun a => shN (31 - j) a) (fun x y => tmN_xor_l 32 x y _) (fun x y => shN_xor _ x y) ?_ a
  have : ∀ j, j < 32 → ∀ k, k < 32 → tmB (1#32 <<< k) (1#32 <<< j) = shN (31 - j) (1#32 <<< k) := by decide +kernel
  exact this j h
theorem tm_sh_l : ∀ (n : Nat) (a b : B32), tmB (shN n a) b = shN n (tmB a b)
  | 0, _, _ => rfl
  | n + 1, a, b => by rw [shN, tmB, tmN_sh_l]; have := tm_sh_l n a b; unfold tmB at this; rw [this]; rfl
theorem tm_poly (a : B32) : tmB a polyB = shN 32 a := by
  refine lin_ext (fun a => tmB a polyB) (fun a => shN 32 a) (fun x y => tmN_xor_l 32 x y _) (fun x y => shN_xor _ x y) ?_ a
  decide +kernel
theorem tm_sh_r (a b : B32) : tmB a (shB b) = shB (tmB a b) := by
  refine lin_ext (fun b => tmB a (shB b)) (fun b => shB (tmB a b)) (fun x y => ?_) (fun x y => ?_) ?_ b
  · show tmB a (shB (x ^^^ y)) = _
    rw [shB_xor]; exact tmN_xor_r 32 a _ _
  · show shB (tmB a (x ^^^ y)) = _
    rw [show tmB a (x ^^^ y) = tmB a x ^^^ tmB a y from tmN_xor_r 32 a _ _, shB_xor]
  · intro j hj
    show tmB a (shB (1#32 <<< j)) = shB (tmB a (1#32 <<< j))
    rw [tm_basis a j hj]
    rcases Nat.eq_zero_or_pos j with rfl | hp
    · rw [show shB (1#32 <<< 0) = polyB by decide, tm_poly]
      rfl
    · have e : ∀ j, j < 32 → 0 < j → shB (1#32 <<< j) = 1#32 <<< (j - 1) := by decide +kernel
      rw [e j hj hp, tm_basis a (j - 1) (by omega), show 31 - (j - 1) = (31 - j) + 1 by omega]
      rfl
theorem tm_one_r (a : B32) : tmB a oneB = a := by
  have := tm_basis a 31 (by omega)
  rw [show (1#32 <<< 31) = oneB by decide] at this
  exact this
/-- what is multiplied by a power is moved so often -/
theorem tm_pow : ∀ (m : Nat) (a : B32), tmB a (shN m oneB) = shN m a
  | 0, a => tm_one_r a
  | m + 1, a => by rw [shN, tm_sh_r, tm_pow m a]; rfl
theorem zero_byte : (0x800000#32 : B32) = shN 8 oneB := by decide
/-- the register behind bytes -/
def regF : B32 → List UInt8 → B32
  | r, [] => r
  | r, c :: l => regF (shN 8 (r ^^^ (BitVec.ofNat 32 c.toNat))) l
theorem regF_app : ∀ (l : List UInt8) (r : B32) (m : List UInt8), regF r (l ++ m) = regF (regF r l) m
  | [], _, _ => rfl
  | c :: l, r, m => by rw [List.cons_append, regF, regF, regF_app l]
theorem regF_lin : ∀ (l : List UInt8) (r : B32), regF r l = shN (8 * l.length) r ^^^ regF 0#32 l
  | [], r => by simp [regF, shN]
  | c :: l, r => by
    rw [regF, regF, regF_lin l, regF_lin l (shN 8 (0#32 ^^^ _)), shN_xor, shN_xor, ← BitVec.xor_assoc]
    congr 1
    rw [List.length_cons, show 8 * (l.length + 1) = 8 * l.length + 8 by omega, shN_add, shN_xor, shN_xor, shN_zero, shN_zero, BitVec.zero_xor]
def moreB (sum : B32) (l : List UInt8) : B32 := ~~~ (regF (~~~ sum) l)
def joinB (a b : B32) (n : Nat) : B32 := shN (8 * n) a ^^^ b
theorem moreB_app (sum : B32) (l m : List UInt8) : moreB (moreB sum l) m = moreB sum (l ++ m) := by
  unfold moreB
  rw [BitVec.not_not, regF_app]
theorem not_eq (x : B32) : ~~~ x = x ^^^ BitVec.allOnes 32 := (BitVec.xor_allOnes).symm
theorem joinB_app (l m : List UInt8) : joinB (moreB 0#32 l) (moreB 0#32 m) m.length = moreB 0#32 (l ++ m) := by
  unfold joinB moreB
  rw [regF_app, regF_lin m (regF _ l), regF_lin m (~~~ 0#32)]
  generalize regF (~~~ 0#32) l = R
  generalize regF 0#32 m = M
  generalize 8 * m.length = n
  rw [not_eq R, not_eq (shN n (~~~ 0#32) ^^^ M), not_eq (shN n R ^^^ M), show (~~~ (0#32)) = BitVec.allOnes 32 by decide, shN_xor]
  generalize BitVec.allOnes 32 = o
  generalize shN n o = p
  rw [show shN n R ^^^ p ^^^ (p ^^^ M ^^^ o) = shN n R ^^^ (p ^^^ p) ^^^ (M ^^^ o) by simp only [BitVec.xor_assoc]]
  simp [BitVec.xor_assoc]
/-- a number of 32 bits as the walk has it -/
def vI (x : B32) : Int := (x.toNat : Int)
theorem vI_rng (x : B32) : 0 ≤ vI x ∧ vI x < 4294967296 := by unfold vI; have := x.isLt; omega
theorem vI_xor (x y : B32) : bits .xor .u32 (vI x) (vI y) = vI (x ^^^ y) := by
  unfold vI
  rw [u32_xor_nat _ _ x.isLt y.isLt, BitVec.toNat_xor]
theorem vI_and (x y : B32) : bits .and .u32 (vI x) (vI y) = vI (x &&& y) := by
  unfold vI
  rw [u32_and_nat _ _ x.isLt y.isLt, BitVec.toNat_and]
theorem vI_inj {x y : B32} (h : vI x = vI y) : x = y := by
  unfold vI at h
  exact BitVec.eq_of_toNat_eq (by omega)
theorem vI_shr (x : B32) (n : Nat) : vI (x >>> n) = vI x / (2 ^ n : Nat) := by
  unfold vI
  rw [BitVec.toNat_ushiftRight, Nat.shiftRight_eq_div_pow, Int.natCast_ediv]
theorem vI_mod16 (x : B32) : vI x % 16 = vI (x &&& 15#32) := by
  unfold vI
  rw [BitVec.toNat_and, show (15#32 : B32).toNat = 15 by decide, nat_mask4]
  omega
/-- a bit, as a number -/
def bitB (x : B32) (i : Nat) : B32 := if x.getLsbD i then 1#32 else 0#32
theorem and_one (x : B32) : x &&& 1#32 = bitB x 0 := by
  unfold bitB
  apply BitVec.eq_of_getLsbD_eq
  intro i hi
  rw [BitVec.getLsbD_and]
  rcases Nat.eq_zero_or_pos i with rfl | hp
  · cases x.getLsbD 0 <;> simp
  · have : (1#32 : B32).getLsbD i = false := by simp; omega
    rw [this, Bool.and_false]
    split <;> simp [this]
theorem bitB_shr (x : B32) (i : Nat) : (x >>> i) &&& 1#32 = bitB x i := by
  rw [and_one]
  unfold bitB
  rw [BitVec.getLsbD_ushiftRight, Nat.add_zero]
theorem shB_mul (x : B32) : shB x = (x >>> 1) ^^^ polyB * bitB x 0 := by
  unfold shB bitB
  cases x.getLsbD 0 <;> simp
theorem vI_mul (x y : B32) : vI (x * y) = vI x * vI y % 4294967296 := by
  unfold vI
  rw [BitVec.toNat_mul]
  omega
theorem vI_one : vI 1#32 = 1 := by decide
theorem vI_zero : vI 0#32 = 0 := by decide
theorem vI_not (x : B32) : bits .xor .u32 (vI (BitVec.allOnes 32)) (vI x) = vI (~~~ x) := by
  rw [vI_xor, not_eq, BitVec.xor_comm]
end Go.Proofs.Ythimjdknafgfbaa
