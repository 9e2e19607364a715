/-
  CONTRACT of codicillaw04.works: it answers true.
-/
import Derived.Test.YtgpoighenlfbjaaCrcMore
namespace Go.Proofs.Ytgpoighenlfbjaa
open Go.RowKit
theorem ev9 : vI (moreB 0#32 [49, 50, 51, 52, 53, 54, 55, 56, 57]) = 3421780262 := by decide +kernel
theorem ev0 : vI (moreB 0#32 []) = 0 := by decide +kernel
theorem works_any (w : World) :
    Calls Try.prog 6 #[] w fun r w' => r = .returned (.bool true) ∧ Below w.heap.size w w' := by
  have c9 := fun w => of_any ⟨#[49, 50, 51, 52, 53, 54, 55, 56, 57]⟩ w (by decide)
  have c4 := fun w => of_any ⟨#[49, 50, 51, 52]⟩ w (by decide)
  have c0 := fun w => of_any ⟨#[]⟩ w (by decide)
  have cm := fun w => more_any (moreB 0#32 [49, 50, 51, 52]) ⟨#[53, 54, 55, 56, 57]⟩ w (by decide)
  simp only [moreB_app, List.cons_append, List.nil_append, ev9, ev0] at c9 c4 c0 cm
  generalize vI (moreB 0#32 [49, 50, 51, 52]) = x at c4 cm
  have acc : Below w.heap.size w w := Below.refl _ _
  go_enter Try.func6, Try.ntmps6
  go_wp2_with (first | (go_at_call_of 7 (Value.string ⟨#[49, 50, 51, 52, 53, 54, 55, 56, 57]⟩); refine (c9 _).mono ?_; rintro e w' ⟨rfl, hb⟩; have acc := acc.trans (hb.mono acc.size); clear hb) | (go_at_call_of 7 (Value.string ⟨#[49, 50, 51, 52]⟩); refine (c4 _).mono ?_; rintro e w' ⟨rfl, hb⟩; have acc := acc.trans (hb.mono acc.size); clear hb) | (go_at_call_of 7 (Value.string ⟨#[]⟩); refine (c0 _).mono ?_; rintro e w' ⟨rfl, hb⟩; have acc := acc.trans (hb.mono acc.size); clear hb) | (go_at_call 9; refine (cm _).mono ?_; rintro e w' ⟨rfl, hb⟩; have acc := acc.trans (hb.mono acc.size); clear hb))
  go_ret
  exact ⟨rfl, acc⟩
end Go.Proofs.Ytgpoighenlfbjaa
