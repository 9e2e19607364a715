/-
  PLAIN LEAN, no program: numbers of three words of 64 bits; roots; primes. No conditions.
-/
import Derived.Laws.BytesArg
import Derived.Laws.BitsLemmas
import Derived.KernelRfl
import Derived.Test.YtadeiljhniffjaaShaMath
namespace Go.Proofs.Ytadeiljhniffjaa
open Go

/-- a number's three words, the lowest first -/
def w3 (N : Nat) : List Int := [((N % 18446744073709551616 : Nat) : Int), ((N / 18446744073709551616 % 18446744073709551616 : Nat) : Int), ((N / 340282366920938463463374607431768211456 : Nat) : Int)]
theorem w3_len (N : Nat) : (w3 N).length = 3 := rfl
def wd (N i : Nat) : Nat := if i = 0 then N % 18446744073709551616 else if i = 1 then N / 18446744073709551616 % 18446744073709551616 else N / 340282366920938463463374607431768211456
theorem w3_get (N i : Nat) (h : i < 3) : (w3 N).getD i 0 = ((wd N i : Nat) : Int) := by
  match i, h with
  | 0, _ => rfl
  | 1, _ => rfl
  | 2, _ => rfl
theorem wd_lt {N i : Nat} (hN : N < 6277101735386680763835789423207666416102355444464034512896) : wd N i < 18446744073709551616 := by
  unfold wd
  split
  · omega
  · split <;> omega
/-- the carry into word i of N times b -/
def cT (N b i : Nat) : Nat := if i = 0 then 0 else if i = 1 then N % 18446744073709551616 * b / 18446744073709551616 else N % 340282366920938463463374607431768211456 * b / 340282366920938463463374607431768211456
theorem le_mul_max {m b : Nat} (hm : m ≤ 4294967295) (hb : b ≤ 4294967295) : m * b ≤ 18446744065119617025 := Nat.mul_le_mul hm hb
theorem cT_lt {N b i : Nat} (hb : b < 4294967296) : cT N b i < 4294967296 := by
  have h1 : N % 18446744073709551616 * b ≤ 18446744073709551615 * 4294967295 := Nat.mul_le_mul (by omega) (by omega)
  have h2 : N % 340282366920938463463374607431768211456 * b ≤ 340282366920938463463374607431768211455 * 4294967295 := Nat.mul_le_mul (by omega) (by omega)
  unfold cT
  split
  · omega
  · split <;> omega
/-- one word of a product -/
theorem times_word {N b i : Nat} (hi : i < 3) (hb : b < 4294967296) (hNb : N * b < 6277101735386680763835789423207666416102355444464034512896) :
    wd (N * b) i = (wd N i * b + cT N b i) % 18446744073709551616 ∧ (i < 2 → cT N b (i + 1) = (wd N i * b + cT N b i) / 18446744073709551616) := by
  obtain ⟨a0, a1, a2, h0, h1, hN'⟩ : ∃ a0 a1 a2, a0 < 18446744073709551616 ∧ a1 < 18446744073709551616 ∧ N = a0 + 18446744073709551616 * a1 + 340282366920938463463374607431768211456 * a2 :=
    ⟨N % 18446744073709551616, N / 18446744073709551616 % 18446744073709551616, N / 340282366920938463463374607431768211456, by omega, by omega, by omega⟩
  have e0 : N % 18446744073709551616 = a0 := by omega
  have e1 : N / 18446744073709551616 % 18446744073709551616 = a1 := by omega
  have e2 : N / 340282366920938463463374607431768211456 = a2 := by omega
  have e3 : N % 340282366920938463463374607431768211456 = a0 + 18446744073709551616 * a1 := by omega
  have hp : N * b = a0 * b + 18446744073709551616 * (a1 * b) + 340282366920938463463374607431768211456 * (a2 * b) := by
    rw [hN', Nat.add_mul, Nat.add_mul, Nat.mul_assoc, Nat.mul_assoc]
  have hp2 : (a0 + 18446744073709551616 * a1) * b = a0 * b + 18446744073709551616 * (a1 * b) := by
    rw [Nat.add_mul, Nat.mul_assoc]
  have l0 : a0 * b ≤ 18446744073709551615 * 4294967295 := Nat.mul_le_mul (by omega) (by omega)
  have l1 : a1 * b ≤ 18446744073709551615 * 4294967295 := Nat.mul_le_mul (by omega) (by omega)
  rw [hp] at hNb
  match i, hi with
  | 0, _ =>
    simp only [wd, cT, if_true, e0, hp, Nat.zero_add, if_neg (show ¬ (1 = 0) by decide)]
    omega
  | 1, _ =>
    simp only [wd, cT, if_neg (show ¬ (1 = 0) by decide), if_neg (show ¬ (1 + 1 = 0) by decide), if_neg (show ¬ (1 + 1 = 1) by decide), if_true, e0, e1, e3, hp, hp2]
    omega
  | 2, _ =>
    simp only [wd, cT, if_neg (show ¬ (2 = 0) by decide), if_neg (show ¬ (2 = 1) by decide), e2, e3, hp, hp2]
    omega
/-- the carry into word i of a sum -/
def cA (N M i : Nat) : Nat := if i = 0 then 0 else if i = 1 then (N % 18446744073709551616 + M % 18446744073709551616) / 18446744073709551616 else (N % 340282366920938463463374607431768211456 + M % 340282366920938463463374607431768211456) / 340282366920938463463374607431768211456
theorem cA_le (N M i : Nat) : cA N M i ≤ 1 := by
  unfold cA
  split
  · omega
  · split <;> omega
theorem add_word {N M i : Nat} (hi : i < 3) (hNM : N + M < 6277101735386680763835789423207666416102355444464034512896) :
    wd (N + M) i = (wd N i + wd M i + cA N M i) % 18446744073709551616 ∧ (i < 2 → cA N M (i + 1) = (wd N i + wd M i + cA N M i) / 18446744073709551616) := by
  match i, hi with
  | 0, _ =>
    simp only [wd, cA, if_true, if_neg (show ¬ (1 = 0) by decide), Nat.zero_add]
    omega
  | 1, _ =>
    simp only [wd, cA, if_neg (show ¬ (1 = 0) by decide), if_neg (show ¬ (1 + 1 = 0) by decide), if_neg (show ¬ (1 + 1 = 1) by decide), if_true]
    omega
  | 2, _ =>
    simp only [wd, cA, if_neg (show ¬ (2 = 0) by decide), if_neg (show ¬ (2 = 1) by decide)]
    omega
theorem add_carry {x y c : Nat} (hx : x < 18446744073709551616) (hy : y < 18446744073709551616) (hc : c ≤ 1) :
    (if (x + y) % 18446744073709551616 < x ∨ ((x + y) % 18446744073709551616 + c) % 18446744073709551616 < (x + y) % 18446744073709551616 then 1 else 0) = (x + y + c) / 18446744073709551616 := by
  split <;> omega
theorem above_word {N M : Nat} {i : Nat} (hi : i < 3) (hN : N < 6277101735386680763835789423207666416102355444464034512896) (hM : M < 6277101735386680763835789423207666416102355444464034512896)
    (he : ∀ j, i < j → j < 3 → wd N j = wd M j) (hne : wd N i ≠ wd M i) : (decide (wd M i < wd N i)) = decide (M < N) := by
  have e1 := he 1
  have e2 := he 2
  match i, hi with
  | 0, _ =>
    have e1 := e1 (by decide) (by decide)
    have e2 := e2 (by decide) (by decide)
    simp only [wd, if_true, if_neg (show ¬ (1 = 0) by decide), if_neg (show ¬ (2 = 0) by decide), if_neg (show ¬ (2 = 1) by decide)] at *
    rw [decide_eq_decide]
    omega
  | 1, _ =>
    have e2 := e2 (by decide) (by decide)
    simp only [wd, if_true, if_neg (show ¬ (1 = 0) by decide), if_neg (show ¬ (2 = 0) by decide), if_neg (show ¬ (2 = 1) by decide)] at *
    rw [decide_eq_decide]
    omega
  | 2, _ =>
    simp only [wd, if_true, if_neg (show ¬ (1 = 0) by decide), if_neg (show ¬ (2 = 0) by decide), if_neg (show ¬ (2 = 1) by decide)] at *
    rw [decide_eq_decide]
    omega
theorem same_words {N M : Nat} (he : ∀ j, j < 3 → wd N j = wd M j) : decide (M < N) = false := by
  have e0 := he 0 (by decide)
  have e1 := he 1 (by decide)
  have e2 := he 2 (by decide)
  simp only [wd, if_true, if_neg (show ¬ (1 = 0) by decide), if_neg (show ¬ (2 = 0) by decide), if_neg (show ¬ (2 = 1) by decide)] at *
  rw [decide_eq_false_iff_not]
  omega
theorem or_comm' (k : IntKind) (x y : Int) : bits .or k x y = bits .or k y x := by
  unfold bits
  simp only
  rw [BitVec.or_comm]
theorem wraps_u64 (n : Int) (h₀ : 0 ≤ n) (h₁ : n < 2 ^ 64) : IntKind.u64.wrap n = n := by
  have : IntKind.u64.wrap n = n % 18446744073709551616 := by simp [IntKind.wrap, IntKind.bits, IntKind.signed]
  rw [this]
  omega
theorem or_words {a b : Int} (h0 : 0 ≤ a) (h1 : a < 4294967296) (h2 : 0 ≤ b) (h3 : b < 18446744073709551616) (h4 : b % 4294967296 = 0) : bits .or .u64 a b = a + b := by
  rw [or_comm', bits_join .u64 64 (by decide) wraps_u64 32 b a h2 (by omega) (by omega) h0 (by omega) (by omega)]
  omega
theorem or_nat {x y : Nat} (hx : x < 18446744073709551616) (hy : y < 18446744073709551616) : bits .or .u64 (x : Int) (y : Int) = ((x ||| y : Nat) : Int) := by
  have h := Nat.or_lt_two_pow (n := 64) (by omega : x < 2 ^ 64) (by omega : y < 2 ^ 64)
  unfold bits
  simp only
  have e : (BitVec.ofInt IntKind.u64.bits (x : Int) ||| BitVec.ofInt IntKind.u64.bits (y : Int)).toNat = x ||| y := by
    show (BitVec.ofInt 64 (x : Int) ||| BitVec.ofInt 64 (y : Int)).toNat = x ||| y
    rw [BitVec.toNat_or, BitVec.ofInt_natCast, BitVec.ofInt_natCast, BitVec.toNat_ofNat, BitVec.toNat_ofNat, Nat.mod_eq_of_lt (by omega), Nat.mod_eq_of_lt (by omega)]
  rw [e]
  exact wraps_u64 _ (by omega) (by omega)

theorem and_low {x : Int} (h0 : 0 ≤ x) (h1 : x < 18446744073709551616) : bits .and .u64 x 4294967295 = x % 4294967296 :=
  bits_mask .u64 64 (by decide) wraps_u64 32 (by decide) x h0 (by omega)
theorem wrap64u (n : Int) : IntKind.u64.wrap n = n % 18446744073709551616 := by simp [IntKind.wrap, IntKind.bits, IntKind.signed]
/-- one round of times -/
theorem times_val {x b c : Nat} (hx : x < 18446744073709551616) (hb : b < 4294967296) (hc : c < 4294967296) :
    bits .or .u64 (bits .and .u64 (IntKind.u64.wrap (IntKind.u64.wrap (bits .and .u64 (x : Int) 4294967295 * (b : Int)) + (c : Int))) 4294967295)
      (IntKind.u64.wrap (IntKind.u64.wrap (IntKind.u64.wrap ((x : Int) / 4294967296 * (b : Int)) + IntKind.u64.wrap (IntKind.u64.wrap (bits .and .u64 (x : Int) 4294967295 * (b : Int)) + (c : Int)) / 4294967296) * 4294967296)) = (((x * b + c) % 18446744073709551616 : Nat) : Int) ∧
    IntKind.u64.wrap (IntKind.u64.wrap ((x : Int) / 4294967296 * (b : Int)) + IntKind.u64.wrap (IntKind.u64.wrap (bits .and .u64 (x : Int) 4294967295 * (b : Int)) + (c : Int)) / 4294967296) / 4294967296 = (((x * b + c) / 18446744073709551616 : Nat) : Int) := by
  obtain ⟨m, q, hm, hq, hxq⟩ : ∃ m q, m < 4294967296 ∧ q < 4294967296 ∧ x = q * 4294967296 + m := ⟨x % 4294967296, x / 4294967296, by omega, by omega, by omega⟩
  have e1 : (x : Int) % 4294967296 = (m : Int) := by omega
  have e2 : (x : Int) / 4294967296 = (q : Int) := by omega
  have lm := le_mul_max (m := m) (b := b) (by omega) (by omega)
  have lq := le_mul_max (m := q) (b := b) (by omega) (by omega)
  have hxb : x * b = (q * b) * 4294967296 + m * b := by
    rw [hxq, Nat.add_mul, Nat.mul_assoc, Nat.mul_comm 4294967296 b, ← Nat.mul_assoc]
  have em : (m : Int) * (b : Int) = ((m * b : Nat) : Int) := by simp
  have eq : (q : Int) * (b : Int) = ((q * b : Nat) : Int) := by simp
  rw [and_low (x := (x : Int)) (by omega) (by omega), e1, e2, em, eq, hxb]
  generalize m * b = P at lm
  generalize q * b = R at lq
  simp only [wrap64u]
  have p1 : (P : Int) % 18446744073709551616 = (P : Int) := by omega
  have p2 : (R : Int) % 18446744073709551616 = (R : Int) := by omega
  rw [p1, p2]
  have p3 : ((P : Int) + (c : Int)) % 18446744073709551616 = (P : Int) + (c : Int) := by omega
  rw [p3]
  have p4 : ((R : Int) + ((P : Int) + (c : Int)) / 4294967296) % 18446744073709551616 = (R : Int) + ((P : Int) + (c : Int)) / 4294967296 := by omega
  rw [p4, and_low (x := (P : Int) + (c : Int)) (by omega) (by omega)]
  constructor
  · rw [or_words (by omega) (by omega) (by omega) (by omega) (by omega)]
    omega
  · omega
theorem wd0 (N : Nat) : wd N 0 = N % 18446744073709551616 := rfl
theorem wd1 (N : Nat) : wd N 1 = N / 18446744073709551616 % 18446744073709551616 := rfl
theorem wd2 (N : Nat) : wd N 2 = N / 340282366920938463463374607431768211456 := rfl
/-- moved up by half a word -/
theorem shl_words {B : Nat} (hB : B < 1461501637330902918203684832716283019655932542976) :
    IntKind.u64.wrap (((wd B 0 : Nat) : Int) * 4294967296) = ((wd (B * 4294967296) 0 : Nat) : Int) ∧
    bits .or .u64 (IntKind.u64.wrap (((wd B 1 : Nat) : Int) * 4294967296)) (((wd B 0 : Nat) : Int) / 4294967296) = ((wd (B * 4294967296) 1 : Nat) : Int) ∧
    bits .or .u64 (IntKind.u64.wrap (((wd B 2 : Nat) : Int) * 4294967296)) (((wd B 1 : Nat) : Int) / 4294967296) = ((wd (B * 4294967296) 2 : Nat) : Int) := by
  have h0 := wd0 B
  have h1 := wd1 B
  have h2 := wd2 B
  have g0 := wd0 (B * 4294967296)
  have g1 := wd1 (B * 4294967296)
  have g2 := wd2 (B * 4294967296)
  rw [h0, h1, h2, g0, g1, g2, wrap64u, wrap64u, wrap64u]
  refine ⟨by omega, ?_, ?_⟩
  · rw [or_comm', or_words (by omega) (by omega) (by omega) (by omega) (by omega)]
    omega
  · rw [or_comm', or_words (by omega) (by omega) (by omega) (by omega) (by omega)]
    omega
theorem w3_eq (N : Nat) : w3 N = [((wd N 0 : Nat) : Int), ((wd N 1 : Nat) : Int), ((wd N 2 : Nat) : Int)] := rfl
theorem pow_lt36 {x i : Nat} (hx : x < 68719476736) (hi : i ≤ 3) : x ^ i < 324518553658426726783156020576257 := by
  have h1 : x * x ≤ 68719476735 * 68719476735 := Nat.mul_le_mul (by omega) (by omega)
  have h2 : x * x * x ≤ 68719476735 * 68719476735 * 68719476735 := Nat.mul_le_mul h1 (by omega)
  match i, hi with
  | 0, _ => rw [Nat.pow_zero]; omega
  | 1, _ => rw [Nat.pow_one]; omega
  | 2, _ => rw [Nat.pow_two]; omega
  | 3, _ => rw [Nat.pow_succ, Nat.pow_two]; omega
theorem pow_split (x i : Nat) : x ^ i * (x % 4294967296) + x ^ i * (x / 4294967296) * 4294967296 = x ^ (i + 1) := by
  rw [Nat.mul_assoc, ← Nat.mul_add, Nat.pow_succ]
  congr 1
  omega
/-! ### Roots -/
/-- the bits of a root, from the highest of 36 -/
def rootF (goal n : Nat) : Nat → Nat
  | 0 => 0
  | k + 1 => if (rootF goal n k ||| 2 ^ (35 - k)) ^ n ≤ goal then rootF goal n k ||| 2 ^ (35 - k) else rootF goal n k
theorem rootF_lt (goal n : Nat) : ∀ k, rootF goal n k < 68719476736
  | 0 => by simp [rootF]
  | k + 1 => by
    have h := rootF_lt goal n k
    have h2 : rootF goal n k ||| 2 ^ (35 - k) < 2 ^ 36 := Nat.or_lt_two_pow (by omega) (Nat.pow_lt_pow_right (by decide) (by omega))
    rw [rootF]
    split
    · omega
    · exact h
def goalF (p n : Nat) : Nat := if n = 3 then p * 79228162514264337593543950336 else p * 18446744073709551616
def rootU (n p : Nat) : Int := ((rootF (goalF p n) n 36 : Nat) : Int) % 4294967296
def primeB (n : Nat) : Bool := decide (1 < n) && (List.range 22).all fun k => decide (k < 2) || decide (n < k * k) || decide (n % k ≠ 0)
def primesTo (n : Nat) : List Nat := (List.range n).filter primeB
def firstP (k : Nat) : List Nat := (primesTo 400).take k
theorem primesTo_pre {n : Nat} (h : n ≤ 400) : primesTo n = firstP (primesTo n).length := by
  have e : List.range 400 = List.range n ++ (List.range (400 - n)).map (n + ·) := by
    have := List.range_add (n := n) (m := 400 - n)
    rwa [show n + (400 - n) = 400 by omega] at this
  unfold firstP
  have e2 : primesTo 400 = primesTo n ++ ((List.range (400 - n)).map (n + ·)).filter primeB := by
    unfold primesTo
    rw [e, List.filter_append]
  rw [e2, List.take_left]
theorem primesTo_on (n : Nat) : primesTo (n + 1) = if primeB n = true then primesTo n ++ [n] else primesTo n := by
  unfold primesTo
  rw [List.range_succ, List.filter_append]
  split
  · rename_i h; simp [h]
  · rename_i h; simp [h]
def numsF (k n : Nat) : List Int := (firstP k).map (rootU n)
set_option maxRecDepth 100000 in
theorem len312 : (primesTo 312).length = 64 := by kernel_rfl
set_option maxRecDepth 100000 in
theorem nums8 : numsF 8 2 = hL := by kernel_rfl
set_option maxRecDepth 100000 in
theorem nums64 : numsF 64 3 = kL := by kernel_rfl
end Go.Proofs.Ytadeiljhniffjaa
