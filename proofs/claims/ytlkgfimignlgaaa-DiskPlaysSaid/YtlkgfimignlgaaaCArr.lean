/-
  ARRAYS OF NUMBERS IN A BLOCK OF THEIR OWN: what is read, what a store makes, what stays. No conditions. (Generic: serves every seat.)
-/
import Derived.Test.YtlkgfimignlgaaaProg
import Derived.Test.YtlkgfimignlgaaaRows
import Derived.WalkKit
import Derived.WalkSpells
import Derived.WalkLawsBesides
import Derived.Lib.Walk
import Derived.Lib.Strings
import Derived.Lib.Hide
import Derived.LoopTactic
import Derived.Outline
import Derived.Laws.OwnMore
import Derived.OwnWalk
import Derived.BigRegion
import Derived.BigQuiet
import Derived.Deep.QuietTactic
import Derived.Deep.WholeRow
import Derived.Deep.RegionWith
set_option linter.unusedSimpArgs false
set_option linter.unusedVariables false
namespace Go.Proofs.Ytlkgfimignlgaaa
open Go.RowKit

section
variable {P : Program} {ops : Array Oper} {Q : Exit → Act → World → Prop} {md : Region.Mode}
theorem any_two {i j : Nat} {oi oj : Oper} {fuel : Nat} {listed : Array Bool} {a : Act} {w : World} (hr : Region.ready md ops listed = [i, j]) (hi : ops[i]? = some oi) (hj : ops[j]? = some oj)
    (h1 : ∀ K : Act → World → Prop, (∀ a w, wpAny P md ops Q fuel (listed.setIfInBounds i true) a w → K a w) → if Region.wanted oi (yielded ops a.tmps) = true then Oper.wp P oi a w K Q else K (a.put oi.dst undef) w)
    (h2 : ∀ K : Act → World → Prop, (∀ a w, wpAny P md ops Q fuel (listed.setIfInBounds j true) a w → K a w) → if Region.wanted oj (yielded ops a.tmps) = true then Oper.wp P oj a w K Q else K (a.put oj.dst undef) w) :
    wpAny P md ops Q (fuel + 1) listed a w := wpAny_ready hr (by simp) (AllReady.cons hi h1 (AllReady.cons hj h2 AllReady.nil))
theorem any_one {i : Nat} {oi : Oper} {fuel : Nat} {listed : Array Bool} {a : Act} {w : World} (hr : Region.ready md ops listed = [i]) (hi : ops[i]? = some oi)
    (h1 : ∀ K : Act → World → Prop, (∀ a w, wpAny P md ops Q fuel (listed.setIfInBounds i true) a w → K a w) → if Region.wanted oi (yielded ops a.tmps) = true then Oper.wp P oi a w K Q else K (a.put oi.dst undef) w) :
    wpAny P md ops Q (fuel + 1) listed a w := wpAny_ready hr (by simp) (AllReady.cons hi h1 AllReady.nil)
theorem put_some (a : Act) (d : Tmp) (v : Value) : a.put (some d) v = { a with tmps := a.tmps.setIfInBounds d v } := rfl
/-- take number i first, its slot d known -/
theorem take_at {i : Nat} {d : Tmp} {oi : Oper} {v : Value} {fuel : Nat} {listed : Array Bool} {a : Act} {w : World} (hi : ops[i]? = some oi) (hd : oi.dst = some d)
    (hs : Region.noSelect ops = true) (hf : Region.free md ops listed i = true) (hr : (Region.ready md ops listed).contains i = true)
    (hQ : ∀ c a w, Q (.panic c) (a.put oi.dst v) w → Q (.panic c) a w) (hy : Yields P ops oi v a)
    (h : wpAny P md ops Q fuel (listed.setIfInBounds i true) (a.put (some d) v) w) : wpAny P md ops Q (fuel + 1) listed a w :=
  wpAny_take hi hs hf hr hQ hy (by rw [hd]; exact h)
end
/-- block g holds the numbers L -/
def AR (k : IntKind) (ty : TypeId) (w : World) (g : Nat) (L : List Int) : Prop := w.heap[g]? = some (.cells (L.map (Value.int k)).toArray ty (0, 0))
section
variable {k : IntKind} {ty : TypeId} {w : World} {g : Nat} {L : List Int}
theorem AR.cell (h : AR k ty w g L) {j : Nat} (hj : j < L.length) : w.cell? ⟨g, j, none⟩ = some (.int k (L.getD j 0)) := by
  rw [cell_of_row w g j _ ty (0, 0) h]
  simp [List.getD, List.getElem?_eq_getElem hj]
theorem AR.free (h : AR k ty w g L) (j : Nat) : w.frozen? ⟨g, j, none⟩ = false := frozen_of_row w g j _ ty h
theorem AR.lt (h : AR k ty w g L) : g < w.heap.size := (Array.getElem?_eq_some_iff.1 h).1
theorem AR.set (h : AR k ty w g L) (j : Nat) (v : Int) : AR k ty (w.setCell ⟨g, j, none⟩ (.int k v)) g (L.set j v) := by
  unfold AR
  rw [heap_setCell_same w g j _ ty _ h]
  congr 2
  apply Array.toList_inj.1
  simp [List.map_set]
theorem AR.other (h : AR k ty w g L) {a : Addr} (ha : g ≠ a.block) (v : Value) : AR k ty (w.setCell a v) g L := by
  unfold AR
  rw [heap_setCell_other w a g v ha]
  exact h
theorem AR.drew (h : AR k ty w g L) : AR k ty w.drew g L := h
theorem AR.below (h : AR k ty w g L) {B : Nat} {w' : World} (hb : Below B w w') (hg : g < B) : AR k ty w' g L := (hb.block g hg).trans h
theorem AR.alloc (h : AR k ty w g L) (o : Obj) : AR k ty (w.alloc o) g L := h.below ((Below.refl _ _).alloc (Nat.le_refl _) o) h.lt
theorem AR.row (h : AR k ty w g L) (M : List Int) : AR k ty (w.setRow g (M.map (Value.int k)).toArray) g M := setRow_heap w g _ _ ty _ h
theorem AR.rowOther (h : AR k ty w g L) {g' : Nat} (hg : g ≠ g') (cs : Array Value) : AR k ty (w.setRow g' cs) g L := by
  unfold AR
  rw [setRow_other w g' g cs hg]
  exact h
theorem AR.all (k : IntKind) (L : List Int) : (L.map (Value.int k)).toArray.all (·.oneCell') = true := by
  rw [Array.all_eq_true']
  intro x hx
  simp only [List.mem_toArray, List.mem_map] at hx
  obtain ⟨z, _, rfl⟩ := hx
  rfl
theorem AR.size (k : IntKind) (L : List Int) {n : Nat} (h : L.length = n) : (L.map (Value.int k)).toArray.size = n := by simpa using h
end
theorem below_row {B : Nat} {a w : World} (h : Below B a w) {g : Nat} (hg : B ≤ g) (cs : Array Value) : Below B a (w.setRow g cs) :=
  ⟨h.os, h.tape, h.output, by simpa using h.size, fun k hk => (setRow_other w g k cs (by omega)).trans (h.block k hk)⟩
theorem cell_of_below {w w' : World} (hb : Below w.heap.size w w') {a : Addr} {v : Value} (h : w.cell? a = some v) : w'.cell? a = some v :=
  (hb.cell (World.block_lt_of_cell? w a h)).trans h
theorem isAgg_int {e : TypeId} {k : IntKind} (w : World) (hu : Try.prog.underlying e = some (.int k)) : (isAgg e).run Try.prog w = .ok false w := by
  unfold isAgg
  rw [Sem.run_bind, run_underlying hu w]
  simp
theorem run_index_row (t e : TypeId) (n : Nat) (k : IntKind) (L : List Int) (i : Nat) (w : World) (hu : Try.prog.underlying t = some (.array n e)) (he : Try.prog.underlying e = some (.int k)) (hz : (Try.prog.info? e).map (·.size) = some 1) (hL : L.length = n) (hi : i < n) :
    (Instr.index t (.agg (L.map (Value.int k)).toArray) (.int .i64 i)).run Try.prog w = .ok (.int k (L.getD i 0)) w := by
  have hs : (sizeOf e).run Try.prog w = .ok 1 w := by
    cases hq : Try.prog.info? e with
    | none => simp [hq] at hz
    | some x =>
      simp [hq] at hz
      simp [sizeOf, typeInfo, hq, hz]
  have hc : L[i]? = some (L.getD i 0) := by
    simp [List.getD, List.getElem?_eq_getElem (show i < L.length by omega)]
  generalize L.getD i 0 = v at hc ⊢
  simp [Instr.index, part, run_underlying hu, asIntOf, hi, isAgg_int w he, hs, go_sem, hc]
end Go.Proofs.Ytlkgfimignlgaaa
