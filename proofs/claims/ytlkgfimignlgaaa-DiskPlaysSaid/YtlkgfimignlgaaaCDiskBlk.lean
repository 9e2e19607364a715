/-
  A DISK's BLOCK. CONTRACTS of made, spend, Fuse, Loose; at nil, of all calls.
-/
import Derived.Test.YtlkgfimignlgaaaCDiskName
set_option linter.unusedSimpArgs false
set_option linter.unusedVariables false
set_option linter.unusedVariables false
set_option linter.unusedSimpArgs false
namespace Go.Proofs.Ytlkgfimignlgaaa
open Go.RowKit
def DB (w : World) (db : Nat) (room fuse : Int) (m1 m2 : Nat) (lv : Value) : Prop := w.heap[db]? = some (.cells #[.int .i64 room, .int .i64 fuse, .map (some m1), .map (some m2), lv] 60 (0, 0))
section
variable {w w' : World} {db m1 m2 : Nat} {room fuse : Int} {lv : Value}
theorem DB.cells (h : DB w db room fuse m1 m2 lv) : w.cell? ⟨db, 0, none⟩ = some (.int .i64 room) ∧ w.cell? ⟨db, 1, none⟩ = some (.int .i64 fuse) ∧ w.cell? ⟨db, 2, none⟩ = some (.map (some m1)) ∧ w.cell? ⟨db, 3, none⟩ = some (.map (some m2)) ∧ w.cell? ⟨db, 4, none⟩ = some lv := by
  unfold DB at h
  exact ⟨by rw [Lib.cell_of_heap h]; rfl, by rw [Lib.cell_of_heap h]; rfl, by rw [Lib.cell_of_heap h]; rfl, by rw [Lib.cell_of_heap h]; rfl, by rw [Lib.cell_of_heap h]; rfl⟩
theorem DB.frozen (h : DB w db room fuse m1 m2 lv) (j : Nat) : w.frozen? ⟨db, j, none⟩ = false := Lib.frozen_of_heap h j
theorem DB.lt (h : DB w db room fuse m1 m2 lv) : db < w.heap.size := (Array.getElem?_eq_some_iff.1 h).1
theorem DB.on (h : DB w db room fuse m1 m2 lv) (e : w'.heap[db]? = w.heap[db]?) : DB w' db room fuse m1 m2 lv := e.trans h
theorem heap_setB {cs : Array Value} {t : TypeId} {b : Nat} (h : w.heap[b]? = some (.cells cs t (0, 0))) (i : Nat) (x : Value) : (w.setCell ⟨b, i, none⟩ x).heap[b]? = some (.cells (cs.setIfInBounds i x) t (0, 0)) := by
  unfold World.setCell
  simp [Array.getElem?_modify, h]
theorem DB.s1 (h : DB w db room fuse m1 m2 lv) (x : Int) : DB (w.setCell ⟨db, 1, none⟩ (.int .i64 x)) db room x m1 m2 lv := heap_setB h 1 _
theorem DB.s2 (h : DB w db room fuse m1 m2 lv) (x : Nat) : DB (w.setCell ⟨db, 2, none⟩ (.map (some x))) db room fuse x m2 lv := heap_setB h 2 _
theorem DB.s4 (h : DB w db room fuse m1 m2 lv) (x : Value) : DB (w.setCell ⟨db, 4, none⟩ x) db room fuse m1 m2 x := heap_setB h 4 _
end
theorem ret_i {k : IntKind} {a b : Int} (h : a = b) : Ending.returned (.int k a) = .returned (.int k b) := by rw [h]
theorem map_nn (m : Nat) (w : World) : (binOp .neq 57 (.map (some m)) (.map none)).run Try.prog w = .ok (.bool true) w := by kernel_rfl
set_option maxRecDepth 10000000 in
set_option maxHeartbeats 1000000 in
theorem made_any (db m1 m2 : Nat) (room fuse : Int) (lv : Value) (w : World) (h : DB w db room fuse m1 m2 lv) :
    Calls Try.prog 38 #[ptr db] w fun e w' => e = .returned (.bool true) ∧ w' = w := by
  obtain ⟨c0, c1, c2, c3, c4⟩ := h.cells
  have hn := map_nn m1
  unfold ptr
  go_enter Try.func38, Try.ntmps38
  go_wp2
  go_ret
  exact ⟨rfl, rfl⟩
set_option maxRecDepth 10000000 in
set_option maxHeartbeats 1000000 in
theorem made_nil (w : World) : Calls Try.prog 38 #[.pointer none] w fun e w' => e = .returned (.bool false) ∧ w' = w := by
  go_enter Try.func38, Try.ntmps38
  go_wp2
  go_ret
  exact ⟨rfl, rfl⟩
/-- what is answered by a call that takes one off the fuse; what the fuse is then -/
def spendE (fuse : Int) : Int := if fuse = 0 then 60 else 0
def spendF (fuse : Int) : Int := if 0 < fuse then fuse - 1 else fuse
set_option maxRecDepth 10000000 in
set_option maxHeartbeats 1000000 in
theorem spend_any (db m1 m2 : Nat) (room fuse : Int) (lv : Value) (w : World) (h : DB w db room fuse m1 m2 lv) (hf : -1 ≤ fuse) (hf2 : fuse ≤ 9223372036854775807) :
    Calls Try.prog 41 #[ptr db] w fun e w' => e = .returned (.int .i64 (spendE fuse)) ∧ DB w' db room (spendF fuse) m1 m2 lv ∧ Turn w w' (fun j => j = db) := by
  obtain ⟨c0, c1, c2, c3, c4⟩ := h.cells
  have f1 := h.frozen 1
  have cM := made_any db m1 m2 room fuse lv w h
  unfold ptr at cM ⊢
  rcases (show fuse = 0 ∨ 0 < fuse ∨ fuse = -1 by omega) with h0 | h0 | h0
  · subst h0
    go_enter Try.func41, Try.ntmps41
    go_wp2_with (go_at_call 38; refine cM.mono ?_; rintro e w1 ⟨rfl, rfl⟩)
    go_ret
    exact ⟨rfl, h, Turn.refl _ _⟩
  · have e1 : spendE fuse = 0 := if_neg (by omega)
    have e2 : spendF fuse = fuse - 1 := if_pos h0
    have hne : (fuse == 0) = false := beq_false_of_ne (by omega)
    have hw : IntKind.i64.wrap (fuse - 1) = fuse - 1 := IntWalk.i64_in _ (by omega)
    have h0' : ¬ fuse = 0 := by omega
    rw [e1, e2]
    have hT : Turn w (w.setCell ⟨db, 1, none⟩ (.int .i64 (fuse - 1))) (fun j => j = db) := ⟨rfl, rfl, rfl, by simp [World.setCell], fun j hj hn => Below.heap_setCell _ _ _ _ hn⟩
    have hD := h.s1 (fuse - 1)
    go_enter Try.func41, Try.ntmps41
    go_wp2_with (go_at_call 38; refine cM.mono ?_; rintro e w1 ⟨rfl, rfl⟩)
    go_ret
    exact ⟨rfl, hD, hT⟩
  · subst h0
    go_enter Try.func41, Try.ntmps41
    go_wp2_with (go_at_call 38; refine cM.mono ?_; rintro e w1 ⟨rfl, rfl⟩)
    go_ret
    exact ⟨rfl, h, Turn.refl _ _⟩
set_option maxRecDepth 10000000 in
set_option maxHeartbeats 1000000 in
theorem spend_nil (w : World) : Calls Try.prog 41 #[.pointer none] w fun e w' => e = .returned (.int .i64 1) ∧ w' = w := by
  go_enter Try.func41, Try.ntmps41
  go_wp2_with (go_at_call 38; refine (made_nil _).mono ?_; rintro e w1 ⟨rfl, rfl⟩)
  go_ret
  exact ⟨rfl, rfl⟩
end Go.Proofs.Ytlkgfimignlgaaa
