/-
  A SLICE OF NUMBERS told by its cells (a text's bytes, as []byte lays them, too). No conditions but the sizes. (Generic.)
-/
import Derived.Test.YtlkgfimignlgaaaCArr
import Derived.Laws.IdiomStrings
import Derived.Laws.BytesArg
set_option linter.unusedSimpArgs false
set_option linter.unusedVariables false
namespace Go.Proofs.Ytlkgfimignlgaaa
open Go.RowKit
set_option linter.unusedVariables false

structure OC (k : IntKind) (w : World) (B g cap : Nat) (xs : List Int) : Prop where
  base : B ≤ g
  lt : g < w.heap.size
  le : xs.length ≤ cap
  max : cap ≤ maxLen
  cells : ∀ j, j < xs.length → w.cell? ⟨g, j, none⟩ = some (.int k (xs.getD j 0))
  there : ∀ j, j < cap → (w.cell? ⟨g, j, none⟩).isSome = true ∧ w.frozen? ⟨g, j, none⟩ = false
section
variable {T E : TypeId} {k : IntKind} {b B g cap : Nat} {w : World} {v : Value} {xs : List Int}
theorem OC.below (h : OC k w B g cap xs) {B' : Nat} {w' : World} (hb : Below B' w w') (hg : g < B') : OC k w' B g cap xs :=
  ⟨h.base, Nat.lt_of_lt_of_le h.lt hb.size, h.le, h.max, fun j hj => (hb.cell hg).trans (h.cells j hj), fun j hj => ⟨by rw [hb.cell hg]; exact (h.there j hj).1, by rw [hb.frozen hg]; exact (h.there j hj).2⟩⟩
theorem OC.alloc (h : OC k w B g cap xs) (o : Obj) : OC k (w.alloc o) B g cap xs := h.below ((Below.refl w.heap.size w).alloc (Nat.le_refl _) _) h.lt
theorem OC.keep (h : OC k w B g cap xs) {w' : World} (hb : Below w.heap.size w w') : OC k w' B g cap xs := h.below hb h.lt
theorem OC.drew (h : OC k w B g cap xs) : OC k w.drew B g cap xs := ⟨h.base, h.lt, h.le, h.max, h.cells, h.there⟩
theorem OC.free (h : OC k w B g cap xs) {j : Nat} (hj : j < xs.length) : w.frozen? ⟨g, j, none⟩ = false := (h.there j (Nat.lt_of_lt_of_le hj h.le)).2
theorem OC.set (h : OC k w B g cap xs) {j : Nat} (hj : j < xs.length) (n : Int) : OC k (w.setCell ⟨g, j, none⟩ (.int k n)) B g cap (xs.set j n) := by
  have hne : ∀ i, i ≠ j → (w.setCell ⟨g, j, none⟩ (.int k n)).cell? ⟨g, i, none⟩ = w.cell? ⟨g, i, none⟩ := fun i hi => World.cell?_setCell_other _ _ _ _ (by intro e; injection e with _ e2; exact hi e2.symm)
  have heq : (w.setCell ⟨g, j, none⟩ (.int k n)).cell? ⟨g, j, none⟩ = some (.int k n) := World.cell?_setCell_same' _ _ _ (h.there j (Nat.lt_of_lt_of_le hj h.le)).1
  refine ⟨h.base, by simpa using h.lt, by rw [List.length_set]; exact h.le, h.max, fun i hi => ?_, fun i hi => ?_⟩
  · rw [List.length_set] at hi
    by_cases e : i = j
    · subst e
      rw [heq]
      simp [List.getD, hi]
    · rw [hne i e, h.cells i hi]
      simp [List.getD, List.getElem?_set_ne (Ne.symm e)]
  · have h2 := h.there i hi
    refine ⟨?_, by rw [World.frozen?_setCell]; exact h2.2⟩
    by_cases e : i = j
    · subst e; rw [heq]; rfl
    · rw [hne i e]; exact h2.1
end
theorem bytesRow_size (s : ByteArray) (cap : Nat) (h : s.size ≤ cap) : (bytesRow s cap).size = cap := by
  have : s.data.size = s.size := rfl
  simp [bytesRow]
  omega
/-- a text's bytes -/
theorem run_bytes (s : ByteArray) (w : World) (hs : s.size ≤ maxLen) :
    ∃ cap fz, (convert 9 65 (.string s)).run Try.prog w = .ok (.slice (some ⟨w.heap.size, 0, none⟩) s.size cap) (w.drew.alloc (.cells (bytesRow s cap) 5 fz)) ∧
      OC .u8 (w.drew.alloc (.cells (bytesRow s cap) 5 fz)) w.heap.size w.heap.size cap (s.data.toList.map fun b => (b.toNat : Int)) := by
  refine ⟨grownCap w s.size 0 5, ((bytesRow s (grownCap w s.size 0 5)).size, (bytesRow s (grownCap w s.size 0 5)).size + 1), run_bytes_of_string w 9 65 5 s Try.underlying9 Try.underlying65 Try.underlying5, ?_⟩
  have hge := grownCap_ge w s.size 0 5
  have hmx := grownCap_le_maxLen w s.size 0 5 hs
  generalize grownCap w s.size 0 5 = cap at hge hmx ⊢
  have hsz := bytesRow_size s cap hge
  have hdl : s.data.toList.length = s.size := (Lib.size_eq s).symm
  refine ⟨Nat.le_refl _, ?_, by rw [List.length_map, hdl]; exact hge, hmx, ?_, ?_⟩
  · show w.heap.size < (w.heap.push _).size
    simp
  · intro j hj
    rw [List.length_map, hdl] at hj
    have hj' : j < s.data.size := hj
    rw [cell_of_row (w.drew.alloc _) w.heap.size j _ 5 _ (heap_alloc_new w.drew _), bytesRow_at s cap j hj']
    congr 2
    rw [List.getD_eq_getElem?_getD, List.getElem?_map, Array.getElem?_toList, Array.getElem?_eq_getElem hj']
    rfl
  · intro j hj
    rw [cell_of_row (w.drew.alloc _) w.heap.size j _ 5 _ (heap_alloc_new w.drew _)]
    refine ⟨by simp [hsz, hj], ?_⟩
    have hh := heap_alloc_new w.drew (.cells (bytesRow s cap) 5 ((bytesRow s cap).size, (bytesRow s cap).size + 1))
    have hw : w.drew.heap.size = w.heap.size := rfl
    rw [hw] at hh
    unfold World.frozen?
    rw [show (⟨w.heap.size, j, none⟩ : Addr).block = w.heap.size from rfl, hh, hsz]
    simp
    omega
end Go.Proofs.Ytlkgfimignlgaaa
