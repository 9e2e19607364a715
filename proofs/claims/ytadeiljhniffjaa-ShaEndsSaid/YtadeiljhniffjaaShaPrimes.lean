/-
  CONTRACTS of the document's prime and Primes.
-/
import Derived.Test.YtadeiljhniffjaaShaApp
import Derived.Test.YtadeiljhniffjaaShaWideM
namespace Go.Proofs.Ytadeiljhniffjaa
open Go.RowKit
set_option linter.unusedVariables false
theorem OW.form {E : TypeId} {k : IntKind} {w : World} {B : Nat} {v : Value} {xs : List Int} (h : OW E k w B v xs) : ∃ ao cp, v = .slice ao xs.length cp := by
  rcases h.2 with ⟨rfl, hz⟩ | ⟨g, cap, cur, rfl, _⟩
  · exact ⟨none, 0, by rw [hz]⟩
  · exact ⟨_, _, rfl⟩
theorem ret_bool {a b : Bool} (h : a = b) : Ending.returned (.bool a) = .returned (.bool b) := by rw [h]

theorem prime_no {n d : Nat} (hn : n < 400) (hd : 2 ≤ d) (hdd : d * d ≤ n) (hm : n % d = 0) : false = primeB n := by
  have hd20 : d < 22 := by
    rcases Nat.lt_or_ge d 22 with h | h
    · exact h
    · have := Nat.mul_le_mul h h
      omega
  symm
  unfold primeB
  rw [Bool.and_eq_false_iff]
  right
  rw [List.all_eq_false]
  refine ⟨d, List.mem_range.2 hd20, ?_⟩
  simp
  omega
theorem prime_yes {n d : Nat} (hd : 2 ≤ d) (hdd : n < d * d) (hk : ∀ k, 2 ≤ k → k < d → n % k ≠ 0) : decide (1 < n) = primeB n := by
  unfold primeB
  have : ((List.range 22).all fun k => decide (k < 2) || decide (n < k * k) || decide (n % k ≠ 0)) = true := by
    rw [List.all_eq_true]
    intro k _
    simp only [Bool.or_eq_true, decide_eq_true_eq]
    rcases Nat.lt_or_ge k 2 with h | h
    · exact .inl (.inl h)
    · rcases Nat.lt_or_ge k d with h2 | h2
      · exact .inr (hk k h h2)
      · have := Nat.mul_le_mul h2 h2
        exact .inl (.inr (by omega))
  rw [this, Bool.and_true]

set_option maxHeartbeats 1000000 in
theorem prime_any (n : Nat) (w : World) (hn : n < 400) :
    Calls Try.prog 28 #[.int .u64 n] w fun r w' => r = .returned (.bool (primeB n)) ∧ w = w' := by
  go_enter Try.func28, Try.ntmps28
  go_wp2
  go_loop [3] (fun v => ∃ d : Nat, v = .int .u64 d ∧ 2 ≤ d ∧ d ≤ 21 ∧ (∀ k, 2 ≤ k → k < d → n % k ≠ 0)) (fun v => 22 - (intOf v).toNat)
  case atStart => exact ⟨2, rfl, by omega, by omega, fun k h1 h2 => by omega⟩
  case round =>
    obtain ⟨d, rfl, h2, h21, hk⟩ := hrel
    have hK := Lib.hid hk
    clear hk
    have hle : (d : Int) * (d : Int) ≤ 441 := by
      have := Nat.mul_le_mul h21 h21
      have e : (d : Int) * (d : Int) = ((d * d : Nat) : Int) := by simp
      omega
    have hge : 0 ≤ (d : Int) * (d : Int) := Int.mul_nonneg (by omega) (by omega)
    have hd1 : (1 : Int) ≤ (d : Int) := by omega
    by_cases hdd : d * d ≤ n
    · have hdi : (d : Int) * (d : Int) ≤ (n : Int) := by
        have e : (d : Int) * (d : Int) = ((d * d : Nat) : Int) := by simp
        omega
      have hd20 : d < 20 := by
        rcases Nat.lt_or_ge d 20 with h | h
        · exact h
        · have := Nat.mul_le_mul h h
          omega
      by_cases hm : n % d = 0
      · have E := Lib.hid (prime_no hn h2 hdd hm)
        have hmz : (n : Int) % (d : Int) = 0 := by omega
        clear hm hdd
        go_wp2
        go_ret
        exact ⟨ret_bool E.out, rfl⟩
      · have hmz : ¬ (n : Int) % (d : Int) = 0 := by omega
        have hM := Lib.hid hm
        clear hm hdd
        go_wp2
        go_round
        case rel => exact ⟨d + 1, by go_num, by omega, by omega, fun k h1 h3 => by
          rcases Nat.lt_or_ge k d with h | h
          · exact hK.out k h1 h
          · rw [show k = d by omega]; exact hM.out⟩
        case measure => simp [intOf]; omega
    · have hdi : (n : Int) < (d : Int) * (d : Int) := by
        have e : (d : Int) * (d : Int) = ((d * d : Nat) : Int) := by simp
        omega
      have E := Lib.hid (prime_yes (n := n) h2 (by omega) hK.out)
      clear hdd
      go_wp2
      all_goals go_ret
      all_goals exact ⟨ret_bool (by rw [← E.out]; simp; try omega), rfl⟩

theorem primes_lt {n : Nat} (h : (primesTo n).length < 64) (hn : n ≤ 312) : n < 312 := by
  rcases Nat.lt_or_ge n 312 with h1 | h1
  · exact h1
  · have : n = 312 := by omega
    subst this
    rw [len312] at h
    omega
def nat2 (l : List Nat) : List Int := l.map fun n : Nat => (n : Int)

set_option maxHeartbeats 1000000 in
set_option maxRecDepth 10000000 in
theorem primes_any (k : Nat) (w : World) (hk : k ≤ 64) :
    Calls Try.prog 23 #[.int .i64 k] w fun r w' => ∃ v, r = .returned v ∧ OW 41 .u64 w' w.heap.size v (nat2 (firstP k)) ∧ Below w.heap.size w w' := by
  go_enter Try.func23, Try.ntmps23
  go_wp2
  go_loopw [3, 4] (fun v vn wr => ∃ n : Nat, vn = .int .u64 n ∧ n ≤ 312 ∧ (primesTo n).length ≤ k ∧ OW 41 .u64 wr w.heap.size v (nat2 (primesTo n)) ∧ Below w.heap.size w wr) (fun _ vn _ => 400 - (intOf vn).toNat)
  case atStart => exact ⟨2, rfl, by omega, by rw [show (primesTo 2).length = 0 by kernel_rfl]; omega, by rw [show nat2 (primesTo 2) = [] by kernel_rfl]; exact OW.nil _ _ _ _, Below.refl _ _⟩
  case round =>
    obtain ⟨n, rfl, hn, hl, hO, hB⟩ := hrel
    obtain ⟨ao, cp, rfl⟩ := hO.form
    have hln : (nat2 (primesTo n)).length = (primesTo n).length := by simp [nat2]
    by_cases hlt : (primesTo n).length < k
    · have hn2 := primes_lt (by omega) hn
      have hlt' : ((nat2 (primesTo n)).length : Int) < (k : Int) := by omega
      have hon := primesTo_on n
      cases hp : primeB n with
      | true =>
        rw [hp, if_pos rfl] at hon
        have ON := Lib.hid hon
        have hc := fun w => prime_any n w (by omega)
        rw [hp] at hc
        have LN := Lib.hid hln
        clear hp hon hln
        go_wp2_with (first | (go_at_call 28; refine (hc _).mono ?_; rintro r w' ⟨rfl, rfl⟩) | (at_builtin; refine wp_app el64 rfl (.tmp 13) (.tmp 15) rfl rfl hO [(n : Int)] 1 rfl rfl (by omega) (by decide) hB.size ?_; intro v' w1 hO1 hb1))
        go_roundw
        case rel => exact ⟨n + 1, by go_num, by omega, by rw [ON.out, List.length_append]; simp only [List.length_cons, List.length_nil]; omega, by rw [ON.out]; unfold nat2 at hO1 ⊢; rw [List.map_append]; exact hO1, hB.trans hb1⟩
        case measure => simp [intOf]; omega
      | false =>
        rw [hp, if_neg (by decide)] at hon
        have ON := Lib.hid hon
        have hc := fun w => prime_any n w (by omega)
        rw [hp] at hc
        clear hp hon hln
        go_wp2_with (first | (go_at_call 28; refine (hc _).mono ?_; rintro r w' ⟨rfl, rfl⟩))
        go_roundw
        case rel => exact ⟨n + 1, by go_num, by omega, by rw [ON.out]; exact hl, by rw [ON.out]; exact hO, hB⟩
        case measure => simp [intOf]; omega
    · have hge : (k : Int) ≤ ((nat2 (primesTo n)).length : Int) := by omega
      have hpre := primesTo_pre (n := n) (by omega)
      rw [show (primesTo n).length = k by omega] at hpre
      have PR := Lib.hid hpre
      clear hpre hln
      go_wp2
      go_ret
      exact ⟨_, rfl, by rw [← PR.out]; exact hO, hB⟩
end Go.Proofs.Ytadeiljhniffjaa
