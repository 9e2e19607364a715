/-
  THE MATHEMATICS of codicilref02.Int: what a number's digits come to, and what the library's ParseInt says of them.
-/
import Derived.Test.YtjffiignedbndaaGreatDoorN8
import Derived.Test.YtjffiignedbndaaGreatDoorN7
set_option linter.unusedSimpArgs false
set_option linter.unusedVariables false
set_option linter.unusedVariables false
namespace Go.Proofs.YtjffiignedbndaaGreatDoor
open Go.RowKit

/-- the digits' sum, from a -/
def sumD : Nat → List UInt8 → Nat
  | a, [] => a
  | a, c :: r => sumD (a * 10 + (c.toNat - 48)) r
theorem sumD_snoc : ∀ (a : Nat) (l : List UInt8) (c : UInt8), sumD a (l ++ [c]) = sumD a l * 10 + (c.toNat - 48)
  | a, [], c => rfl
  | a, d :: r, c => by
    show sumD (a * 10 + (d.toNat - 48)) (r ++ [c]) = sumD (a * 10 + (d.toNat - 48)) r * 10 + (c.toNat - 48)
    exact sumD_snoc _ r c
theorem digit_iff (c : UInt8) : pDigit (c.toNat : Nat) = true ↔ 48 ≤ c.toNat ∧ c.toNat ≤ 57 := by
  unfold pDigit
  simp
  omega
theorem span_whole : ∀ {l : List UInt8}, spanL pDigit l = l.length → ∀ c ∈ l, 48 ≤ c.toNat ∧ c.toNat ≤ 57
  | [], _, c, hc => by cases hc
  | d :: r, h, c, hc => by
    simp only [spanL, List.length_cons] at h
    split at h
    · rename_i hd
      rcases List.mem_cons.1 hc with rfl | hc
      · exact (digit_iff _).1 hd
      · exact span_whole (by omega) c hc
    · omega
theorem span_of : ∀ {l : List UInt8}, (∀ c ∈ l, 48 ≤ c.toNat ∧ c.toNat ≤ 57) → spanL pDigit l = l.length
  | [], _ => rfl
  | d :: r, h => by
    simp only [spanL, List.length_cons]
    rw [if_pos ((digit_iff d).2 (h d (List.mem_cons_self ..))), span_of fun c hc => h c (List.mem_cons_of_mem _ hc)]
/-- few digits -/
theorem uint_short (M : Nat) (hM : 10000000000000000000 ≤ M) : ∀ (l : List UInt8) (a k : Nat), (∀ c ∈ l, 48 ≤ c.toNat ∧ c.toNat ≤ 57) → a < 10 ^ k → k + l.length ≤ 19 → Lib.parseUintM M a l = .ok (sumD a l)
  | [], a, k, _, ha, _ => rfl
  | c :: r, a, k, hd, ha, hk => by
    have hc := hd c (List.mem_cons_self ..)
    simp only [List.length_cons] at hk
    have h18 : (10 : Nat) ^ k ≤ 10 ^ 18 := Nat.pow_le_pow_right (by omega) (by omega)
    have h18' : (10 : Nat) ^ k ≤ 1000000000000000000 := h18
    have hnext : a * 10 + (c.toNat - 48) < 10 ^ (k + 1) := by rw [Nat.pow_succ]; omega
    clear h18
    generalize (10 : Nat) ^ k = p at *
    have ih := uint_short M hM r (a * 10 + (c.toNat - 48)) (k + 1) (fun d h => hd d (List.mem_cons_of_mem _ h)) hnext (by omega)
    rw [Lib.parseUintM, if_pos hc, if_neg (by omega), if_neg (by omega), ih]
    rfl
/-- what is told is all digits, and no less than the first ones say -/
theorem uint_ok (M : Nat) : ∀ (l : List UInt8) (a u : Nat), Lib.parseUintM M a l = .ok u → (∀ c ∈ l, 48 ≤ c.toNat ∧ c.toNat ≤ 57) ∧ a * 10 ^ l.length ≤ u
  | [], a, u, h => by
    simp only [Lib.parseUintM, Lib.NumEnd.ok.injEq] at h
    exact ⟨fun c hc => (by cases hc), by simp [h]⟩
  | c :: r, a, u, h => by
    rw [Lib.parseUintM] at h
    split at h
    · rename_i hc
      split at h
      · cases h
      · split at h
        · cases h
        · have ih := uint_ok M r _ u h
          refine ⟨fun d hd => ?_, ?_⟩
          · rcases List.mem_cons.1 hd with rfl | hd
            · exact hc
            · exact ih.1 d hd
          · rw [List.length_cons, Nat.pow_succ]
            refine Nat.le_trans ?_ ih.2
            rw [Nat.mul_comm (10 ^ r.length) 10, ← Nat.mul_assoc]
            exact Nat.mul_le_mul_right _ (by omega)
    · cases h
/-- the digits of a number: some, none too many zeros -/
theorem num_digits {l : List UInt8} (h : numL l = true) : signL l ≠ [] ∧ (1 < spanL pDigit (signL l) → (signL l).head? ≠ some 48) ∧ spanL pDigit (signL l) ≠ 0 := by
  unfold numL at h
  split at h
  · cases h
  · rename_i hn
    refine ⟨fun e => hn (.inl (by rw [e]; rfl)), fun h1 h2 => hn (.inr ⟨h1, h2⟩), fun e => hn (.inl e)⟩
/-- the sign's way -/
theorem num_sign {l : List UInt8} (h : numL l = true) : (∃ t, l = 45 :: t ∧ signL l = t) ∨ (∃ c t, l = c :: t ∧ signL l = l ∧ c.toNat ≠ 45 ∧ c.toNat ≠ 43) := by
  obtain ⟨h1, _, h3⟩ := num_digits h
  cases l with
  | nil => exact absurd rfl h1
  | cons c t =>
    by_cases hc : c = 45
    · subst hc
      exact .inl ⟨t, rfl, rfl⟩
    · have hs : signL (c :: t) = c :: t := by
        unfold signL
        split
        · rename_i e; injection e with e1 e2; exact absurd e1 hc
        · rfl
      refine .inr ⟨c, t, rfl, hs, ?_, ?_⟩
      · intro e
        exact hc (UInt8.toNat_inj.1 e)
      · intro e
        rw [hs] at h3
        refine h3 ?_
        simp only [spanL]
        rw [if_neg]
        rw [digit_iff]
        omega
def refI (neg : Bool) (u : Nat) : Option Int := if neg then (if u ≤ 9223372036854775808 then some (-(u : Int)) else none) else (if u < 9223372036854775808 then some (u : Int) else none)
theorem uint_dig {D : List UInt8} (h0 : D ≠ []) : Lib.parseUintB 64 D = Lib.parseUintM (2 ^ 64 - 1) 0 D := by
  unfold Lib.parseUintB
  rw [if_neg h0]
/-- what ParseInt tells of a number's text -/
theorem int_ref {l : List UInt8} (h : numL l = true) :
    (match Lib.parseIntB 64 l with | .ok v => some v | _ => none) = if spanL pDigit (signL l) = (signL l).length ∧ (signL l).length ≤ 19 then refI (l.head? == some 45) (sumD 0 (signL l)) else none := by
  obtain ⟨n1, n2, n3⟩ := num_digits h
  have hB : ∀ u, Lib.parseUintB 64 (signL l) = .ok u → spanL pDigit (signL l) = (signL l).length ∧ (19 < (signL l).length → 9223372036854775808 < u) := by
    intro u hu
    rw [uint_dig n1] at hu
    have h1 := uint_ok _ _ _ _ hu
    have h2 := span_of h1.1
    refine ⟨h2, fun h19 => ?_⟩
    cases hD : signL l with
    | nil => exact absurd hD n1
    | cons c r =>
      rw [hD] at hu h19 h2 n2 h1
      have hc := h1.1 c (List.mem_cons_self ..)
      have hc48 : c.toNat ≠ 48 := by
        intro e
        refine n2 (by rw [h2]; omega) ?_
        have : c = 48 := UInt8.toNat_inj.1 e
        rw [this]; rfl
      rw [Lib.parseUintM, if_pos hc, if_neg (by omega), if_neg (by omega)] at hu
      have h3 := (uint_ok _ _ _ _ hu).2
      simp only [List.length_cons] at h19
      have h4 : (10 : Nat) ^ 19 ≤ 10 ^ r.length := Nat.pow_le_pow_right (by omega) (by omega)
      have h5 : 1 * 10 ^ r.length ≤ (0 * 10 + (c.toNat - 48)) * 10 ^ r.length := Nat.mul_le_mul_right _ (by omega)
      omega
  have hS : spanL pDigit (signL l) = (signL l).length ∧ (signL l).length ≤ 19 → Lib.parseUintB 64 (signL l) = .ok (sumD 0 (signL l)) := by
    rintro ⟨h1, h2⟩
    rw [uint_dig n1]
    exact uint_short _ (by omega) (signL l) 0 0 (span_whole h1) (by simp) (by omega)
  rcases num_sign h with ⟨t, rfl, ht⟩ | ⟨c, t, rfl, ht, c1, c2⟩
  · have hne : ((45 :: t).head? == some (45 : UInt8)) = true := by simp
    rw [Lib.parseIntB_minus]
    rw [ht] at hB hS ⊢
    rw [hne]
    by_cases hg : spanL pDigit t = t.length ∧ t.length ≤ 19
    · rw [hS hg, if_pos hg]
      generalize sumD 0 t = u
      show (match (if (2 : Nat) ^ (64 - 1) < u then Lib.NumEnd.range else .ok (-(u : Int))) with | .ok v => some v | _ => none) = refI true u
      by_cases hu : u ≤ 9223372036854775808
      · rw [if_neg (by omega)]
        simp [refI, hu]
      · rw [if_pos (by omega)]
        simp [refI, hu]
    · rw [if_neg hg]
      cases hp : Lib.parseUintB 64 t with
      | ok u =>
        have := hB u hp
        show (match (if (2 : Nat) ^ (64 - 1) < u then Lib.NumEnd.range else .ok (-(u : Int))) with | .ok v => some v | _ => none) = none
        rw [if_pos (by have := this.2 (by omega); omega)]
      | _ => rfl
  · have hne : ((c :: t).head? == some 45) = false := by
      simp
      intro e
      exact c1 (by rw [e]; rfl)
    rw [Lib.parseIntB_plain 64 c t (by omega) (by omega)]
    rw [ht] at hB hS ⊢
    rw [hne]
    generalize c :: t = D at *
    by_cases hg : spanL pDigit D = D.length ∧ D.length ≤ 19
    · rw [hS hg, if_pos hg]
      generalize sumD 0 D = u
      show (match (if (2 : Nat) ^ (64 - 1) ≤ u then Lib.NumEnd.range else .ok (u : Int)) with | .ok v => some v | _ => none) = refI false u
      by_cases hu : u < 9223372036854775808
      · rw [if_neg (by omega)]
        simp [refI, hu]
      · rw [if_pos (by omega)]
        simp [refI, hu]
    · rw [if_neg hg]
      cases hp : Lib.parseUintB 64 D with
      | ok u =>
        have := hB u hp
        show (match (if (2 : Nat) ^ (64 - 1) ≤ u then Lib.NumEnd.range else .ok (u : Int)) with | .ok v => some v | _ => none) = none
        rw [if_pos (by have := this.2 (by omega); omega)]
      | _ => rfl
end Go.Proofs.YtjffiignedbndaaGreatDoor
