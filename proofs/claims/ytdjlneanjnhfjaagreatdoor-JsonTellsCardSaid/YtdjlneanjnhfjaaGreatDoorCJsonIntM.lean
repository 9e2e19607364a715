/-
  MATHEMATICS for codicillaw02.JsonInts: a number's digits, as a text, are that number; a text in quotes is read as itself.
-/
import Derived.Test.YtdjlneanjnhfjaaGreatDoorCJsonRtM
set_option linter.unusedSimpArgs false
set_option linter.unusedVariables false
set_option linter.unusedVariables false
namespace Go.Proofs.YtdjlneanjnhfjaaGreatDoor
open Go.RowKit
theorem skip_none {s : List UInt8} {i : Nat} {b : UInt8} {t : List UInt8} (h : s.drop i = b :: t) (hb : pWhite (b.toNat : Nat) = false) : skipL s i = i := by
  unfold skipL
  rw [h, spanL_stop _ _ _ hb, Nat.add_zero]
theorem skip_end (s : List UInt8) : skipL s s.length = s.length := by
  unfold skipL
  rw [List.drop_length]
  rfl
theorem read_quo {l : List UInt8} (hv : lenF l = l.length) (hs : (quoL l).length ≤ 65536) : readP (quoL l) = .ok (.mk 5 ⟨l.toArray⟩ [] []) := by
  have hval := quoL_valid hv
  have hlen : (quoL l).length = (quoM l).length + 2 := by simp [quoL]
  unfold readP
  rw [if_neg (by omega), if_neg (by omega)]
  have hd : (quoL l).drop 0 = 34 :: (quoM l ++ [34]) := rfl
  have hd1 : (quoL l).drop 1 = quoM l ++ 34 :: [] := rfl
  have hsk := skip_none hd (by decide)
  obtain ⟨n, hn⟩ : ∃ n, 2 * (quoL l).length + 2 = n + 1 := ⟨2 * (quoL l).length + 1, rfl⟩
  rw [hn, valP, hsk]
  have hb : byL (quoL l) 0 = some 34 := rfl
  rw [hb]
  have hle := quoB_pos l
  have hq := quot_read (l.length + 1) l (by omega) ((quoL l).length + 1) (quoL l) (0 + 1) [] [] (by omega) hd1
  simp only [show ¬ ((34 : UInt8) = 45 ∨ pDigit ((34 : UInt8).toNat : Nat) = true) by decide, show ¬ (pLetter ((34 : UInt8).toNat : Nat) = true) by decide, show ¬ ((34 : UInt8) = 91) by decide, show ¬ ((34 : UInt8) = 123) by decide, if_false, if_true, show ¬ ((0 : Nat) = 4096) by decide]
  rw [hq]
  simp only [List.nil_append]
  have hend : 0 + 1 + (quoM l).length + 1 = (quoL l).length := by omega
  rw [hend]
  simp only [Bool.false_eq_true, if_false, skip_end]
  simp
theorem read_num {t : List UInt8} {b : UInt8} {u : List UInt8} (ht : t = b :: u) (hb : b = 45 ∨ pDigit (b.toNat : Nat) = true) (hall : ∀ x ∈ t, pNum (x.toNat : Nat) = true ∧ x.toNat < 128) (hn : numL t = true) (hs : t.length ≤ 65536) : readP t = .ok (.mk 4 ⟨t.toArray⟩ [] []) := by
  have hval := ascii_valid t (fun x hx => (hall x hx).2)
  have hbw : pWhite (b.toNat : Nat) = false := by
    rcases hb with rfl | hb
    · decide
    · have : ∀ n : Nat, n < 256 → pDigit (n : Nat) = true → pWhite (n : Nat) = false := by decide +kernel
      exact this _ b.toNat_lt hb
  unfold readP
  rw [if_neg (by omega), if_neg (by omega)]
  have hd : t.drop 0 = b :: u := by rw [ht]; rfl
  have hsk := skip_none hd hbw
  obtain ⟨n, hn2⟩ : ∃ n, 2 * t.length + 2 = n + 1 := ⟨2 * t.length + 1, rfl⟩
  rw [hn2, valP, hsk]
  have hby : byL t 0 = some b := by unfold byL; rw [hd]; rfl
  rw [hby]
  have hsp : spanL pNum (t.drop 0) = t.length := by
    have := spanL_app pNum t [] (fun x hx => (hall x hx).1)
    rw [List.append_nil] at this
    simpa [spanL] using this
  have htk : (t.drop 0).take t.length = t := by rw [List.drop_zero, List.take_length]
  simp only [hsp, htk, hn, if_pos hb, if_true, show ¬ ((0 : Nat) = 4096) by decide, if_false]
  rw [Nat.zero_add, skip_end]
  simp
/-! ### Digits -/
def dgF : Nat → Nat → List UInt8
  | 0, _ => []
  | f + 1, u => (if u < 10 then [] else dgF f (u / 10)) ++ [UInt8.ofNat (48 + u % 10)]
theorem dgF_more : ∀ (f u : Nat), u < f → ∀ g, u < g → dgF f u = dgF g u
  | 0, u, h, _, _ => absurd h (Nat.not_lt_zero _)
  | f + 1, u, h, g, hg => by
    obtain ⟨g, rfl⟩ : ∃ m, g = m + 1 := ⟨g - 1, by omega⟩
    rw [dgF, dgF]
    split
    · rfl
    · rw [dgF_more f (u / 10) (by omega) g (by omega)]
def dg (u : Nat) : List UInt8 := dgF (u + 1) u
theorem dg_low {u : Nat} (h : u < 10) : dg u = [UInt8.ofNat (48 + u % 10)] := by
  unfold dg
  rw [dgF, if_pos h]
  rfl
theorem dg_high {u : Nat} (h : ¬ u < 10) : dg u = dg (u / 10) ++ [UInt8.ofNat (48 + u % 10)] := by
  unfold dg
  rw [dgF, if_neg h, dgF_more u (u / 10) (by omega) (u / 10 + 1) (by omega)]
theorem digit_val : ∀ d : Nat, d < 10 → (UInt8.ofNat (48 + d)).toNat = 48 + d := by decide
theorem dg_all (u : Nat) : ∀ x ∈ dg u, 48 ≤ x.toNat ∧ x.toNat ≤ 57 := by
  induction u using Nat.strongRecOn with
  | ind u ih =>
    by_cases h : u < 10
    · rw [dg_low h]
      intro x hx
      rw [List.mem_singleton] at hx
      rw [hx, digit_val _ (by omega)]
      omega
    · rw [dg_high h]
      intro x hx
      rcases List.mem_append.1 hx with hx | hx
      · exact ih (u / 10) (by omega) x hx
      · rw [List.mem_singleton] at hx
        rw [hx, digit_val _ (by omega)]
        omega
theorem dg_head (u : Nat) : ∃ b t, dg u = b :: t ∧ (0 < u → b ≠ 48) := by
  induction u using Nat.strongRecOn with
  | ind u ih =>
    by_cases h : u < 10
    · refine ⟨_, _, dg_low h, ?_⟩
      intro h0 e
      have := congrArg UInt8.toNat e
      rw [digit_val _ (by omega)] at this
      simp at this
      omega
    · obtain ⟨b, t, e, hb⟩ := ih (u / 10) (by omega)
      exact ⟨b, t ++ [UInt8.ofNat (48 + u % 10)], by rw [dg_high h, e]; rfl, fun _ => hb (by omega)⟩
theorem dg_len (k : Nat) : ∀ u : Nat, u < 10 ^ (k + 1) → (dg u).length ≤ k + 1 := by
  induction k with
  | zero => intro u h; rw [dg_low (by simpa using h)]; simp
  | succ k ih =>
    intro u h
    by_cases h2 : u < 10
    · rw [dg_low h2]; simp
    · rw [dg_high h2, List.length_append]
      have := ih (u / 10) (by rw [Nat.div_lt_iff_lt_mul (by omega)]; rw [Nat.pow_succ] at h; exact h)
      simp only [List.length_singleton]
      omega
/-- a number's text -/
def numT (n : Int) : List UInt8 := if n < 0 then 45 :: dg n.natAbs else dg n.natAbs
theorem numT_chars (n : Int) : ∀ x ∈ numT n, pNum (x.toNat : Nat) = true ∧ x.toNat < 128 := by
  have hdig : ∀ m : Nat, m < 256 → 48 ≤ m → m ≤ 57 → pNum (m : Nat) = true := by decide +kernel
  have hd : ∀ x ∈ dg n.natAbs, pNum (x.toNat : Nat) = true ∧ x.toNat < 128 := fun x hx => by
    have := dg_all _ x hx
    exact ⟨hdig _ x.toNat_lt this.1 this.2, by omega⟩
  unfold numT
  split
  · intro x hx
    rcases List.mem_cons.1 hx with rfl | hx
    · decide
    · exact hd x hx
  · exact hd
theorem dg_span (u : Nat) : spanL pDigit (dg u) = (dg u).length := by
  have hdig : ∀ m : Nat, m < 256 → 48 ≤ m → m ≤ 57 → pDigit (m : Nat) = true := by decide +kernel
  have := spanL_app pDigit (dg u) [] (fun x hx => hdig _ x.toNat_lt (dg_all u x hx).1 (dg_all u x hx).2)
  rw [List.append_nil] at this
  simpa [spanL] using this
theorem numT_sign (n : Int) : signL (numT n) = dg n.natAbs := by
  unfold numT
  split
  · rfl
  · obtain ⟨b, t, e, _⟩ := dg_head n.natAbs
    have hb := dg_all n.natAbs b (by rw [e]; exact List.mem_cons_self ..)
    rw [e]
    unfold signL
    split
    · rename_i h
      simp only [List.cons.injEq] at h
      rw [h.1] at hb
      exact absurd hb.1 (by decide)
    · rfl
theorem numT_is (n : Int) : numL (numT n) = true := by
  unfold numL
  rw [numT_sign, dg_span, List.drop_length]
  obtain ⟨b, t, e, hb⟩ := dg_head n.natAbs
  rw [if_neg ?_]
  · rfl
  · rintro (h | ⟨h1, h2⟩)
    · rw [e] at h; simp at h
    · rcases Nat.eq_zero_or_pos n.natAbs with h0 | h0
      · rw [h0] at h1
        exact absurd h1 (by decide)
      · rw [e] at h2
        simp only [List.head?_cons, Option.some.injEq] at h2
        exact hb h0 h2
theorem numT_head (n : Int) : ∃ b u, numT n = b :: u ∧ (b = 45 ∨ pDigit (b.toNat : Nat) = true) := by
  have hdig : ∀ m : Nat, m < 256 → 48 ≤ m → m ≤ 57 → pDigit (m : Nat) = true := by decide +kernel
  unfold numT
  split
  · exact ⟨_, _, rfl, .inl rfl⟩
  · obtain ⟨b, t, e, _⟩ := dg_head n.natAbs
    have hb := dg_all n.natAbs b (by rw [e]; exact List.mem_cons_self ..)
    exact ⟨b, t, e, .inr (hdig _ b.toNat_lt hb.1 hb.2)⟩
theorem mag_on (M : Nat) (hM : M < 18446744073709551616) (u : Nat) : u ≤ M → ∀ r, Lib.parseUintM M 0 (dg u ++ r) = Lib.parseUintM M u r := by
  induction u using Nat.strongRecOn with
  | ind u ih =>
    intro hu r
    have hstep : ∀ a d : Nat, d < 10 → a * 10 + d = u → Lib.parseUintM M a (UInt8.ofNat (48 + d) :: r) = Lib.parseUintM M u r := by
      intro a d hd he
      rw [Lib.parseUintM, digit_val d hd, if_pos (by omega), if_neg (by omega), if_neg (by omega)]
      congr 1
      omega
    by_cases h : u < 10
    · rw [dg_low h]
      exact hstep 0 (u % 10) (by omega) (by omega)
    · rw [dg_high h, List.append_assoc, ih (u / 10) (by omega) (by omega)]
      exact hstep (u / 10) (u % 10) (by omega) (by omega)
theorem parse_num (n : Int) (h0 : -9223372036854775808 ≤ n) (h1 : n ≤ 9223372036854775807) : Lib.parseIntB 64 (numT n) = .ok n := by
  have hp : Lib.parseUintB 64 (dg n.natAbs) = .ok n.natAbs := by
    obtain ⟨b, t, e, _⟩ := dg_head n.natAbs
    unfold Lib.parseUintB
    rw [if_neg (by rw [e]; simp)]
    have := mag_on (2 ^ 64 - 1) (by omega) n.natAbs (by omega) []
    rw [List.append_nil] at this
    rw [this]
    rfl
  unfold numT
  split
  · rename_i hn
    rw [Lib.parseIntB_minus, hp]
    show (if (2 : Nat) ^ (64 - 1) < n.natAbs then Lib.NumEnd.range else .ok (-(n.natAbs : Int))) = _
    rw [if_neg (by omega)]
    congr 1
    omega
  · rename_i hn
    obtain ⟨b, t, e, _⟩ := dg_head n.natAbs
    have hb := dg_all n.natAbs b (by rw [e]; exact List.mem_cons_self ..)
    rw [e] at hp ⊢
    rw [Lib.parseIntB_plain 64 b t (by omega) (by omega), hp]
    show (if (2 : Nat) ^ (64 - 1) ≤ n.natAbs then Lib.NumEnd.range else .ok (n.natAbs : Int)) = _
    rw [if_neg (by omega)]
    congr 1
    omega
theorem parse_more (n : Int) (c : UInt8) (r : List UInt8) (hc : ¬ (48 ≤ c.toNat ∧ c.toNat ≤ 57)) (h0 : -9223372036854775808 ≤ n) (h1 : n ≤ 9223372036854775807) : Lib.parseIntB 64 (numT n ++ c :: r) = .syntax := by
  have hp : Lib.parseUintB 64 (dg n.natAbs ++ c :: r) = .syntax := by
    unfold Lib.parseUintB
    rw [if_neg (by simp)]
    rw [mag_on (2 ^ 64 - 1) (by omega) n.natAbs (by omega) (c :: r), Lib.parseUintM, if_neg hc]
  unfold numT
  split
  · rw [List.cons_append, Lib.parseIntB_minus, hp]
    rfl
  · obtain ⟨b, t, e, _⟩ := dg_head n.natAbs
    have hb := dg_all n.natAbs b (by rw [e]; exact List.mem_cons_self ..)
    rw [e, List.cons_append] at hp ⊢
    rw [Lib.parseIntB_plain 64 b _ (by omega) (by omega), hp]
    rfl
end Go.Proofs.YtdjlneanjnhfjaaGreatDoor
