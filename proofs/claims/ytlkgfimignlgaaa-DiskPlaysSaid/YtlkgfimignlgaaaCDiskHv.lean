/-
  CONTRACT of Heavy (codicillaw06). No conditions.
-/
import Derived.Test.YtlkgfimignlgaaaCDiskStep
set_option linter.unusedSimpArgs false
set_option linter.unusedVariables false
set_option linter.unusedVariables false
set_option linter.unusedSimpArgs false
namespace Go.Proofs.Ytlkgfimignlgaaa
open Go.RowKit
def heavyS (S : List Stp) : Bool := decide (100 < S.length ∨ 4096 < sumS (S.take 200))
theorem drewN_below {B : Nat} {a w : World} (h : Below B a w) (n : Nat) : Below B a (w.drewN n) := ⟨h.os, h.tape, h.output, h.size, h.block⟩
theorem light_S {S : List Stp} (h : heavyS S = false) : S.length ≤ 100 ∧ sumS S ≤ 4096 := by
  unfold heavyS at h
  have h := of_decide_eq_false h
  have h1 : S.length ≤ 100 := by omega
  rw [List.take_of_length_le (by omega)] at h
  omega
set_option maxRecDepth 10000000 in
set_option maxHeartbeats 4000000 in
theorem heavy_any (S : List Stp) (v : Value) (w : World) (hS : IsSteps w S v) (hn : S.length ≤ maxLen) :
    Calls Try.prog 8 #[v] w fun e w' => e = .returned (.bool (heavyS S)) ∧ Below w.heap.size w w' := by
  obtain ⟨a, c, rfl, hc, hA⟩ := hS
  have HA := Lib.hid hA
  have HO : Hid (∀ x ∈ S, okStp x) := Lib.hid fun x hx => by
    obtain ⟨i, hi, e⟩ := List.getElem_of_mem hx
    exact (hA i x (by rw [← e]; exact List.getElem?_eq_getElem hi)).1
  have hm : reachBytes = 140737488351232 := rfl
  unfold maxLen at hn
  have acc : Below w.heap.size w w := Below.refl _ _
  clear hA
  go_enter Try.func8, Try.ntmps8
  go_wp2
  go_loopw [3, 4] (fun vn v wr => ∃ k : Nat, v = .int .i64 k ∧ k ≤ S.length ∧ k ≤ 200 ∧ vn = .int .i64 (sumS (S.take k) : Nat) ∧ Below w.heap.size w wr) (fun _ v _ => S.length - (intOf v).toNat)
  case atStart => exact ⟨0, rfl, by omega, by omega, rfl, acc⟩
  case round =>
    clear acc
    obtain ⟨k, rfl, hk, hk2, rfl, acc⟩ := hrel
    by_cases hlt : k < S.length ∧ k < 200
    · obtain ⟨h1, h2⟩ := hlt
      obtain ⟨x, hx⟩ : ∃ x, S[k]? = some x := ⟨_, List.getElem?_eq_getElem h1⟩
      obtain ⟨⟨⟨z1, z2⟩, _⟩, b1, o1, rfl, hb1, _, c1, c2, _, _⟩ := HA.out k x hx
      have d1 := (acc.cell (p := ⟨b1, o1 + k * 5 + 1, none⟩) hb1).trans c1
      have d2 := (acc.cell (p := ⟨b1, o1 + k * 5 + 2, none⟩) hb1).trans c2
      have hd1 : (k : Int) < (S.length : Int) := by omega
      have hd2 : (k : Int) < 200 := by omega
      have hk0 : (0 : Int) ≤ (k : Int) := by omega
      have HS := Lib.hid (sumS_take S k x hx)
      have hsl := sumS_le S HO.out k
      rw [hm] at hsl z1 z2
      have hle : k * (2 * 140737488351232) ≤ 200 * (2 * 140737488351232) := Nat.mul_le_mul_right _ hk2
      have hsm : sumS (S.take k) ≤ 56294995340492800 := by omega
      clear hsl hle h1 h2 c1 c2 hx
      generalize sumS (S.take k) = n at *
      go_wp2
      go_quiet (fail)
      go_wp2
      go_roundw
      case rel => exact ⟨k + 1, by go_num, by omega, by omega, by rw [HS.out]; congr 1; omega, drewN_below acc _⟩
      case measure => simp [intOf]; omega
    · have hor : (¬ (k : Int) < (S.length : Int)) ∨ ((k : Int) < (S.length : Int) ∧ ¬ (k : Int) < 200) := by omega
      by_cases h100 : 100 < S.length
      · have h100i : (100 : Int) < (S.length : Int) := by omega
        have HE : Hid (heavyS S = true) := Lib.hid (decide_eq_true (.inl h100))
        clear h100 hlt
        rcases hor with h | ⟨h, h'⟩
        all_goals go_wp2
        all_goals go_ret
        all_goals exact ⟨by rw [HE.out]; rfl, acc⟩
      · have h100i : ¬ (100 : Int) < (S.length : Int) := by omega
        have hkl : ¬ (k : Int) < (S.length : Int) := by omega
        have hall : S.take 200 = S.take k := by rw [List.take_of_length_le (by omega), List.take_of_length_le (by omega)]
        have HE : Hid (heavyS S = decide ((4096 : Int) < (sumS (S.take k) : Nat))) := Lib.hid (by unfold heavyS; rw [hall]; exact decide_eq_decide.2 (by omega))
        clear h100 hlt hor hall
        generalize sumS (S.take k) = n at *
        go_wp2
        go_ret
        exact ⟨by rw [HE.out]; rfl, acc⟩
end Go.Proofs.Ytlkgfimignlgaaa
