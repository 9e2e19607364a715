/-
  CONTRACT of codicillaw03.alive: it answers true.
-/
import Derived.Test.YtadeiljhniffjaaShaSum
import Derived.Test.YtadeiljhniffjaaShaByteR
namespace Go.Proofs.Ytadeiljhniffjaa
open Go.RowKit
set_option maxRecDepth 100000 in
theorem evAbc : strOfNums (hexN (nI (sumP ⟨#[97, 98, 99]⟩).data.toList)) = ⟨#[98, 97, 55, 56, 49, 54, 98, 102, 56, 102, 48, 49, 99, 102, 101, 97, 52, 49, 52, 49, 52, 48, 100, 101, 53, 100, 97, 101, 50, 50, 50, 51, 98, 48, 48, 51, 54, 49, 97, 51, 57, 54, 49, 55, 55, 97, 57, 99, 98, 52, 49, 48, 102, 102, 54, 49, 102, 50, 48, 48, 49, 53, 97, 100]⟩ := by kernel_rfl
set_option maxRecDepth 100000 in
theorem evNone : strOfNums (hexN (nI (sumP ⟨#[]⟩).data.toList)) = ⟨#[101, 51, 98, 48, 99, 52, 52, 50, 57, 56, 102, 99, 49, 99, 49, 52, 57, 97, 102, 98, 102, 52, 99, 56, 57, 57, 54, 102, 98, 57, 50, 52, 50, 55, 97, 101, 52, 49, 101, 52, 54, 52, 57, 98, 57, 51, 52, 99, 97, 52, 57, 53, 57, 57, 49, 98, 55, 56, 53, 50, 98, 56, 53, 53]⟩ := by kernel_rfl
set_option maxRecDepth 100000 in
theorem szAbc : (sumP ⟨#[97, 98, 99]⟩).size = 32 := by kernel_rfl
set_option maxRecDepth 100000 in
theorem szNone : (sumP ⟨#[]⟩).size = 32 := by kernel_rfl

set_option maxHeartbeats 1000000 in
set_option maxRecDepth 10000000 in
theorem alive_any (w : World) :
    Calls Try.prog 6 #[] w fun r w' => r = .returned (.bool true) ∧ Below w.heap.size w w' := by
  have u1 := fun w => unhex_any ⟨#[48, 48, 102, 102]⟩ w (by decide)
  have u2 := fun w => unhex_any ⟨#[48, 70]⟩ w (by decide)
  rw [show unR ⟨#[48, 48, 102, 102]⟩ = ⟨#[0, 255]⟩ by kernel_rfl, show unB ⟨#[48, 48, 102, 102]⟩ = true by kernel_rfl] at u1
  rw [show unR ⟨#[48, 70]⟩ = ⟨#[]⟩ by kernel_rfl, show unB ⟨#[48, 70]⟩ = false by kernel_rfl] at u2
  have s1 := fun w => sum_any ⟨#[97, 98, 99]⟩ w (by decide)
  have s2 := fun w => sum_any ⟨#[]⟩ w (by decide)
  have h1 := fun w => hex_any (sumP ⟨#[97, 98, 99]⟩) w (by rw [szAbc]; decide)
  have h2 := fun w => hex_any (sumP ⟨#[]⟩) w (by rw [szNone]; decide)
  rw [evAbc] at h1
  rw [evNone] at h2
  generalize sumP ⟨#[97, 98, 99]⟩ = d1 at s1 h1
  generalize sumP ⟨#[]⟩ = d2 at s2 h2
  have acc : Below w.heap.size w w := Below.refl _ _
  go_enter Try.func6, Try.ntmps6
  go_wp2_with (first | (go_at_call_of 9 (Value.string ⟨#[48, 48, 102, 102]⟩); refine (u1 _).mono ?_; rintro e w' ⟨rfl, hb⟩; have acc := acc.trans (hb.mono acc.size); clear hb) | (go_at_call_of 9 (Value.string ⟨#[48, 70]⟩); refine (u2 _).mono ?_; rintro e w' ⟨rfl, hb⟩; have acc := acc.trans (hb.mono acc.size); clear hb) | (go_at_call_of 7 (Value.string ⟨#[97, 98, 99]⟩); refine (s1 _).mono ?_; rintro e w' ⟨rfl, hb⟩; have acc := acc.trans (hb.mono acc.size); clear hb) | (go_at_call_of 7 (Value.string ⟨#[]⟩); refine (s2 _).mono ?_; rintro e w' ⟨rfl, hb⟩; have acc := acc.trans (hb.mono acc.size); clear hb) | (go_at_call_of 11 (Value.string d1); refine (h1 _).mono ?_; rintro e w' ⟨rfl, hb⟩; have acc := acc.trans (hb.mono acc.size); clear hb) | (go_at_call_of 11 (Value.string d2); refine (h2 _).mono ?_; rintro e w' ⟨rfl, hb⟩; have acc := acc.trans (hb.mono acc.size); clear hb))
  go_ret
  exact ⟨rfl, acc⟩
end Go.Proofs.Ytadeiljhniffjaa
