/-
  FILES IN A MAP: a block that is a map of names to slices, each of which owns its bytes, no two in one row. What each operation on the map leaves. No conditions.
-/
import Derived.Test.YtojmbbmjmbppdaaDiskEn
import Derived.Maps.RangeWalk
import Derived.Maps.AppendAt
set_option linter.unusedVariables false
namespace Go.Proofs.Ytojmbbmjmbppdaa
open Go.RowKit
def nB (l : List UInt8) : List Int := l.map fun b => ((b.toNat : Nat) : Int)
theorem nB_len (l : List UInt8) : (nB l).length = l.length := by simp [nB]
theorem nB_app (l m : List UInt8) : nB (l ++ m) = nB l ++ nB m := by simp [nB]
/-- v owns the bytes l -/
def OB (w : World) (v : Value) (l : List UInt8) : Prop := w.ownsRow 0 5 1 v l.length ((nB l).map (Value.int .u8))
theorem OB.nil (w : World) : OB w (.slice none 0 0) [] := World.ownsRow_nil _ _ _ _
theorem OB.lt {w : World} {v : Value} {l : List UInt8} (h : OB w v l) {g : Nat} (hg : v.ownBlock = some g) : g < w.heap.size := (World.ownsRow.lt h g hg).2
theorem OB.keep {w w' : World} {v : Value} {l : List UInt8} (h : OB w v l) (hb : ∀ g, v.ownBlock = some g → w'.heap[g]? = w.heap[g]?) : OB w' v l := by
  refine ⟨h.1, ?_⟩
  rcases h.2 with hn | ⟨g, cap, cur, rfl, h1, h2, h3⟩
  · exact .inl hn
  · exact .inr ⟨g, cap, cur, rfl, h1, (hb g rfl).trans h2, h3⟩
theorem OB.shape {w : World} {v : Value} {l : List UInt8} (h : OB w v l) : ∃ a cap, v = .slice a l.length cap := by
  rcases h.2 with ⟨rfl, hn⟩ | ⟨g, cap, cur, rfl, _⟩
  · rw [hn]; exact ⟨none, 0, rfl⟩
  · exact ⟨_, _, rfl⟩
/-- two values own nothing together -/
def Apart (u v : Value) : Prop := ∀ g, u.ownBlock = some g → v.ownBlock ≠ some g
theorem Apart.symm {u v : Value} (h : Apart u v) : Apart v u := fun g hv hu => h g hu hv
structure FM (w : World) (mb : Nat) (E : List En) : Prop where
  map : w.ownsMap Try.prog 9 slotE mb E.length (datE E)
  rows : ∀ x ∈ E, OB w x.val x.data
  apart : E.Pairwise fun x y => Apart x.val y.val
section
variable {w w' : World} {mb n : Nat} {E : List En}
theorem tight {m : Nat} (h : w.ownsMap Try.prog 9 slotE mb m (datE E)) : w.ownsMap Try.prog 9 slotE mb E.length (datE E) := by
  obtain ⟨es, clock, hb, F, hs, hD⟩ := h
  refine ⟨es, clock, hb, F, ?_, hD⟩
  have h1 := congrArg Maps.size hD
  rw [dat_size] at h1
  simp only [Maps.size, length_sorted, List.length_map, Array.length_toList] at h1
  omega
theorem FM.lt (h : FM w mb E) : mb < w.heap.size := h.map.lt
theorem FM.ne (h : FM w mb E) {x : En} (hx : x ∈ E) : x.val.ownBlock ≠ some mb := by
  intro e
  obtain ⟨es, clock, hb, _⟩ := h.map
  rcases (h.rows x hx).2 with ⟨hn, _⟩ | ⟨g, cap, cur, hv, _, hg, _⟩
  · rw [hn] at e; cases e
  · rw [hv] at e
    cases e
    rw [hb] at hg
    cases hg
/-- nothing of the map's, nor of its rows', has turned -/
theorem FM.keep (h : FM w mb E) (hm : w'.heap[mb]? = w.heap[mb]?) (hr : ∀ x ∈ E, ∀ g, x.val.ownBlock = some g → w'.heap[g]? = w.heap[g]?) : FM w' mb E := by
  refine ⟨?_, fun x hx => (h.rows x hx).keep (hr x hx), h.apart⟩
  obtain ⟨es, clock, hb, F, hs, hD⟩ := h.map
  exact ⟨es, clock, hm.trans hb, F, hs, hD⟩
theorem FM.below (h : FM w mb E) (hb : Below w.heap.size w w') : FM w' mb E :=
  h.keep (hb.block mb h.lt) fun x hx g hg => hb.block g ((h.rows x hx).lt hg)
theorem get_rows (h : FM w mb E) (s : ByteArray) : OB w (valE E s) (bytE E s) := by
  unfold valE bytE
  cases hg : getE E s with
  | none => exact OB.nil w
  | some x => exact h.rows x (get_mem hg).1
/-- behind a store of a slice that owns its bytes, apart from all others -/
theorem FM.put (h : FM w mb E) {x : En} {m : Nat} (hm : w'.ownsMap Try.prog 9 slotE mb m (datE (putE E x))) (hx : OB w' x.val x.data)
    (hr : ∀ y ∈ E, eqE x.name y = false → (∀ g, y.val.ownBlock = some g → w'.heap[g]? = w.heap[g]?) ∧ Apart x.val y.val) : FM w' mb (putE E x) := by
  refine ⟨tight hm, fun y hy => ?_, pair_put (fun a b h => h.symm) h.apart fun y hy he => (hr y hy he).2⟩
  rcases mem_put.1 hy with rfl | ⟨hy, he⟩
  · exact hx
  · exact (h.rows y hy).keep (hr y hy he).1
theorem FM.del (h : FM w mb E) {s : ByteArray} {m : Nat} (hm : w'.ownsMap Try.prog 9 slotE mb m (datE (delE E s)))
    (hr : ∀ y ∈ E, ∀ g, y.val.ownBlock = some g → w'.heap[g]? = w.heap[g]?) : FM w' mb (delE E s) :=
  ⟨tight hm, fun y hy => (h.rows y (mem_del.1 hy).1).keep (hr y (mem_del.1 hy).1), pair_del h.apart s⟩
/-- a map that is made -/
theorem FM.made (w : World) : FM (w.alloc (.map #[] 0)) w.heap.size [] :=
  ⟨World.ownsMap_made w Try.prog 9 slotE, (fun x hx => by cases hx), List.Pairwise.nil⟩
end
end Go.Proofs.Ytojmbbmjmbppdaa
