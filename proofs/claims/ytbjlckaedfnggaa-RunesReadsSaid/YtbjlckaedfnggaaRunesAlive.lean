/-
  The known small case: package runes answers as the document's examples say; the law's helper returns true. No conditions.
-/
import Derived.Test.YtbjlckaedfnggaaRunesBase
namespace Go.Proofs.Ytbjlckaedfnggaa
open Go.RowKit

theorem maxLen_small {n : Nat} (h : n ≤ 4096) : n ≤ maxLen := by unfold maxLen; omega

theorem below2 {w w1 w2 : World} (h : Below w.heap.size w w1) (k : Below w1.heap.size w1 w2) : Below w.heap.size w w2 := h.trans (k.mono h.size)
set_option maxHeartbeats 1000000 in
theorem alive_any (w : World) :
    Calls Try.prog 7 #[] w fun e w' => e = .returned (.bool true) ∧ Below w.heap.size w w' := by
  have c1 : firstR ⟨#[226, 130, 172, 97]⟩ = 8364 := by kernel_rfl
  have c2 : firstN ⟨#[226, 130, 172, 97]⟩ = 3 := by kernel_rfl
  have c3 : firstB ⟨#[226, 130, 172, 97]⟩ = true := by kernel_rfl
  have c4 : pairR 55357 56832 = 128512 := by kernel_rfl
  have c5 : pairB 55357 56832 = true := by kernel_rfl
  have c6 : hexR ⟨#[48, 48, 101, 57, 120]⟩ = 233 := by kernel_rfl
  have c7 : hexB ⟨#[48, 48, 101, 57, 120]⟩ = true := by kernel_rfl
  have c8 : bytesS 233 = ⟨#[195, 169]⟩ := by kernel_rfl
  have c9 : bytesS 55296 = ⟨#[]⟩ := by kernel_rfl
  have c10 : badI ⟨#[97, 192, 128]⟩ = 1 := by kernel_rfl
  have c11 : validB ⟨#[97]⟩ = true := by kernel_rfl
  have c12 : validB ⟨#[255]⟩ = false := by kernel_rfl
  have c13 : countI ⟨#[195, 169, 97]⟩ = 2 := by kernel_rfl
  go_enter Try.func7, Try.ntmps7
  go_wp2_with fail
  refine (first_any _ _ (maxLen_small (by decide))).mono ?_
  rintro e w1 ⟨rfl, hb1⟩
  go_wp2_with fail
  refine (pair_any _ _ _).mono ?_
  rintro e w' ⟨rfl, rfl⟩
  go_wp2_with fail
  refine (hex_any _ _ (maxLen_small (by decide))).mono ?_
  rintro e w2 ⟨rfl, hb2⟩
  go_wp2_with fail
  refine (bytes_any _ _).mono ?_
  rintro e w' ⟨rfl, rfl⟩
  go_wp2_with fail
  refine (bytes_any _ _).mono ?_
  rintro e w' ⟨rfl, rfl⟩
  go_wp2_with fail
  refine (bad_any _ _ (maxLen_small (by decide))).mono ?_
  rintro e w3 ⟨rfl, hb3⟩
  go_wp2_with fail
  refine (valid_any _ _ (maxLen_small (by decide))).mono ?_
  rintro e w4 ⟨rfl, hb4⟩
  go_wp2_with fail
  refine (valid_any _ _ (maxLen_small (by decide))).mono ?_
  rintro e w5 ⟨rfl, hb5⟩
  go_wp2_with fail
  refine (count_any _ _ (maxLen_small (by decide))).mono ?_
  rintro e w6 ⟨rfl, hb6⟩
  go_wp2_with fail
  go_ret
  exact ⟨rfl, below2 (below2 (below2 (below2 (below2 hb1 hb2) hb3) hb4) hb5) hb6⟩
end Go.Proofs.Ytbjlckaedfnggaa
