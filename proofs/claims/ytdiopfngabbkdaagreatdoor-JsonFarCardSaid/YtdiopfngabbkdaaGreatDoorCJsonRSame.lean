/-
  TEXT JsonRSame (seat's own).
-/
import Derived.Test.YtdiopfngabbkdaaGreatDoorCJsonMany
import Derived.Deep.RegionWith
import Derived.BigQuiet
set_option linter.unusedSimpArgs false
set_option linter.unusedVariables false
set_option linter.unusedVariables false
namespace Go.Proofs.YtdiopfngabbkdaaGreatDoor
open Go.RowKit
theorem keys_cell {w wA : World} {ks : List ByteArray} {a : Option Addr} {n p : Nat} (h : IsKeys w 0 ks (.slice a n p)) (hb : Below w.heap.size w wA) {j : Nat} (hj : j < ks.length) : ∃ b off, a = some ⟨b, off, none⟩ ∧ wA.cell? ⟨b, off + j, none⟩ = some (.string (ks.getD j ByteArray.empty)) := by
  obtain ⟨_, _, e, h⟩ := h
  simp only [Value.slice.injEq] at e
  obtain ⟨rfl, _, _⟩ := e
  rcases h with rfl | ⟨b, off, rfl, _, h⟩
  · simp at hj
  · exact ⟨b, off, rfl, (hb.cell (cell_lt (h j hj))).trans (h j hj)⟩
theorem list_cell {w : World} {l : List JV} {a : Option Addr} {n p : Nat} (h : IsL w l (.slice a n p)) {j : Nat} {x : JV} (hx : l[j]? = some x) : ∃ lb lo, a = some ⟨lb, lo, none⟩ ∧ ∃ q0 q1 q2 q3, w.cell? ⟨lb, lo + j * 4, none⟩ = some q0 ∧ w.cell? ⟨lb, lo + j * 4 + 1, none⟩ = some q1 ∧ w.cell? ⟨lb, lo + j * 4 + 2, none⟩ = some q2 ∧ w.cell? ⟨lb, lo + j * 4 + 3, none⟩ = some q3 ∧ IsV w 0 x q0 q1 q2 q3 := by
  obtain ⟨_, _, e, h⟩ := h
  simp only [Value.slice.injEq] at e
  obtain ⟨rfl, _, _⟩ := e
  rcases h with rfl | ⟨b, off, rfl, hr⟩
  · simp at hx
  · exact ⟨b, off, rfl, hr.at' l b off j x hx⟩
end Go.Proofs.YtdiopfngabbkdaaGreatDoor
