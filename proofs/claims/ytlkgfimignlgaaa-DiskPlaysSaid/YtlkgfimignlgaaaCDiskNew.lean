/-
  CONTRACTS of disk.New, Loose, Fuse, Left.
-/
import Derived.Test.YtlkgfimignlgaaaCDiskBlk
import Derived.Carry
import Derived.RegionTactic
import Derived.Deep.RegionWith
import Derived.Deep.DeepCutAuto
set_option linter.unusedSimpArgs false
set_option linter.unusedVariables false
set_option linter.unusedVariables false
set_option linter.unusedSimpArgs false
namespace Go.Proofs.Ytlkgfimignlgaaa
open Go.RowKit
def roomB (room : Int) : Bool := decide (0 ≤ room) && decide (room ≤ 16777216)
set_option maxRecDepth 10000000 in
set_option maxHeartbeats 1000000 in
theorem new_no (room : Int) (w : World) (h : roomB room = false) :
    Calls Try.prog 10 #[.int .i64 room] w fun e w' => e = .returned (.tuple #[.pointer none, .int .i64 2]) ∧ w' = w := by
  have hh : room < 0 ∨ (¬ room < 0 ∧ 16777216 < room) := by
    unfold roomB at h
    rw [Bool.and_eq_false_iff, decide_eq_false_iff_not, decide_eq_false_iff_not] at h
    omega
  rcases hh with h0 | ⟨h0, h1⟩
  · go_enter Try.func10, Try.ntmps10
    go_wp2
    go_ret2
    exact ⟨rfl, rfl⟩
  · go_enter Try.func10, Try.ntmps10
    go_wp2
    go_ret2
    exact ⟨rfl, rfl⟩
set_option maxRecDepth 10000000 in
set_option maxHeartbeats 1000000 in
theorem new_ok (room : Int) (w : World) (h : roomB room = true) :
    Calls Try.prog 10 #[.int .i64 room] w fun e w' => e = .returned (.tuple #[ptr (w.heap.size + 2), .int .i64 0]) ∧ DB w' (w.heap.size + 2) room (-1) w.heap.size (w.heap.size + 1) (.slice none 0 0) ∧ FM w' w.heap.size [] ∧ FM w' (w.heap.size + 1) [] ∧ Below w.heap.size w w' ∧ w'.heap.size = w.heap.size + 3 := by
  unfold roomB at h
  rw [Bool.and_eq_true, decide_eq_true_eq, decide_eq_true_eq] at h
  have h0 : ¬ room < 0 := by omega
  have h1 : ¬ 16777216 < room := by omega
  have hmm := @run_makeMap Try.prog
  have e1 : (w.alloc (.map #[] 0)).heap.size = w.heap.size + 1 := by simp
  have e2 : ((w.alloc (.map #[] 0)).alloc (.map #[] 0)).heap.size = w.heap.size + 2 := by simp
  have hF1 : FM ((w.alloc (.map #[] 0)).alloc (.map #[] 0)) w.heap.size [] := (FM.made w).below ((Below.refl _ _).alloc (Nat.le_refl _) _)
  have hF2 : FM ((w.alloc (.map #[] 0)).alloc (.map #[] 0)) (w.heap.size + 1) [] := by
    have := FM.made (w.alloc (.map #[] 0))
    rw [e1] at this
    exact this
  have hD : DB (((w.alloc (.map #[] 0)).alloc (.map #[] 0)).alloc (.cells #[.int .i64 room, .int .i64 (-1), .map (some w.heap.size), .map (some (w.heap.size + 1)), .slice none 0 0] 60)) (w.heap.size + 2) room (-1) w.heap.size (w.heap.size + 1) (.slice none 0 0) := by
    have := heap_alloc_new ((w.alloc (.map #[] 0)).alloc (.map #[] 0)) (.cells #[.int .i64 room, .int .i64 (-1), .map (some w.heap.size), .map (some (w.heap.size + 1)), .slice none 0 0] 60)
    rw [e2] at this
    exact this
  have hB : Below w.heap.size w ((w.alloc (.map #[] 0)).alloc (.map #[] 0)) := ((Below.refl _ w).alloc (Nat.le_refl _) _).alloc (by omega) _
  have hb2 := fun o : Obj => (Below.refl ((w.alloc (.map #[] 0)).alloc (.map #[] 0)).heap.size ((w.alloc (.map #[] 0)).alloc (.map #[] 0))).alloc (Nat.le_refl _) o
  go_enter Try.func10, Try.ntmps10
  go_wp2_with fail
  go_ret2
  exact ⟨rfl, hD, hF1.below (hb2 _), hF2.below (hb2 _), hB.alloc (by omega) _, by simp⟩
set_option maxRecDepth 10000000 in
set_option maxHeartbeats 1000000 in
theorem loose_any (db m1 m2 : Nat) (room fuse : Int) (a : Option Addr) (n cap : Nat) (w : World) (h : DB w db room fuse m1 m2 (.slice a n cap)) :
    Calls Try.prog 16 #[ptr db] w fun e w' => e = .returned (.int .i64 (n : Nat)) ∧ w' = w := by
  obtain ⟨c0, c1, c2, c3, c4⟩ := h.cells
  have cM := made_any db m1 m2 room fuse _ w h
  unfold ptr at cM ⊢
  go_enter Try.func16, Try.ntmps16
  go_wp2_with (go_at_call 38; refine cM.mono ?_; rintro e w1 ⟨rfl, rfl⟩)
  go_ret
  exact ⟨rfl, rfl⟩
set_option maxRecDepth 10000000 in
set_option maxHeartbeats 1000000 in
theorem loose_nil (w : World) : Calls Try.prog 16 #[.pointer none] w fun e w' => e = .returned (.int .i64 0) ∧ w' = w := by
  go_enter Try.func16, Try.ntmps16
  go_wp2_with (go_at_call 38; refine (made_nil _).mono ?_; rintro e w1 ⟨rfl, rfl⟩)
  go_ret
  exact ⟨rfl, rfl⟩
set_option maxRecDepth 10000000 in
set_option maxHeartbeats 1000000 in
theorem fuse_any (db m1 m2 : Nat) (room fuse n : Int) (lv : Value) (w : World) (h : DB w db room fuse m1 m2 lv) :
    Calls Try.prog 27 #[ptr db, .int .i64 n] w fun e w' => e = .returned (.int .i64 0) ∧ DB w' db room (max n (-1)) m1 m2 lv ∧ Turn w w' (fun j => j = db) := by
  obtain ⟨c0, c1, c2, c3, c4⟩ := h.cells
  have f1 := h.frozen 1
  have cM := made_any db m1 m2 room fuse _ w h
  have hT : Turn w (w.setCell ⟨db, 1, none⟩ (.int .i64 (max n (-1)))) (fun j => j = db) := ⟨rfl, rfl, rfl, by simp [World.setCell], fun j hj hn => Below.heap_setCell _ _ _ _ hn⟩
  have hD := h.s1 (max n (-1))
  unfold ptr at cM ⊢
  go_enter Try.func27, Try.ntmps27
  go_wp2_with (go_at_call 38; refine cM.mono ?_; rintro e w1 ⟨rfl, rfl⟩)
  go_ret
  exact ⟨rfl, hD, hT⟩
set_option maxRecDepth 10000000 in
set_option maxHeartbeats 1000000 in
theorem fuse_nil (n : Int) (w : World) : Calls Try.prog 27 #[.pointer none, .int .i64 n] w fun e w' => e = .returned (.int .i64 1) ∧ w' = w := by
  go_enter Try.func27, Try.ntmps27
  go_wp2_with (go_at_call 38; refine (made_nil _).mono ?_; rintro e w1 ⟨rfl, rfl⟩)
  go_ret
  exact ⟨rfl, rfl⟩
set_option maxRecDepth 10000000 in
set_option maxHeartbeats 1000000 in
theorem left_nil (w : World) : Calls Try.prog 14 #[.pointer none] w fun e w' => e = .returned (.int .i64 0) ∧ w' = w := by
  go_enter Try.func14, Try.ntmps14
  go_wp2_with (go_at_call 38; refine (made_nil _).mono ?_; rintro e w1 ⟨rfl, rfl⟩)
  go_ret
  exact ⟨rfl, rfl⟩
set_option maxRecDepth 10000000 in
set_option maxHeartbeats 1000000 in
theorem left_any (db m1 m2 : Nat) (room fuse : Int) (lv : Value) (E : List En) (w : World) (h : DB w db room fuse m1 m2 lv) (hF : FM w m1 E) (hr : 0 ≤ room) (hr2 : room ≤ 16777216) (hs : sumE E ≤ 1000000000) :
    Calls Try.prog 14 #[ptr db] w fun e w' => e = .returned (.int .i64 (room - (sumE E : Nat))) ∧ Below w.heap.size w w' := by
  obtain ⟨c0, c1, c2, c3, c4⟩ := h.cells
  have cM := made_any db m1 m2 room fuse _ w h
  have cS := fun (w2 : World) (hb : Below w.heap.size w w2) => size_any m1 E w2 (hF.below hb) hs
  have hw : IntKind.i64.wrap (room - (sumE E : Nat)) = room - (sumE E : Nat) := IntWalk.i64_in _ (by omega)
  unfold ptr at cM ⊢
  go_enter Try.func14, Try.ntmps14
  go_upto_region 3 with (go_at_call 38; refine cM.mono ?_; rintro e w1 ⟨rfl, rfl⟩)
  go_region_with (go_at_call 39; refine (cS _ (Below.refl _ _).drew).mono ?_; rintro e w2 ⟨rfl, hb2⟩; have hb3 : Below w1.heap.size w1 w2 := (Below.refl _ w1).drew.trans hb2; obtain ⟨c0, c1, c2, c3, c4⟩ := DB.cells (show DB w2 db room fuse m1 m2 lv from h.on (hb3.block _ h.lt)))
  all_goals go_wp2_with fail
  all_goals go_ret
  all_goals exact ⟨rfl, hb3.os, hb3.tape, hb3.output, hb3.size, hb3.block⟩
end Go.Proofs.Ytlkgfimignlgaaa
