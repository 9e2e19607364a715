/-
  CONTRACTS of codicilref02's Reader: ok, fail, blanks, here, goes; run.
-/
import Derived.Test.YtakdhfjlhkejdaaGreatDoorN8
import Derived.Test.YtakdhfjlhkejdaaGreatDoorN6
import Derived.Test.YtakdhfjlhkejdaaGreatDoorCJsonRHex
import Derived.Deep.QuietTactic
import Derived.BigQuiet
import Derived.RegionTactic
import Derived.Deep.RegionWith
import Derived.Deep.LoopGhost
set_option linter.unusedSimpArgs false
set_option linter.unusedVariables false
set_option linter.unusedVariables false
set_option linter.unusedSimpArgs false
namespace Go.Proofs.YtakdhfjlhkejdaaGreatDoor
open Go.RowKit
/-- the reader's block: the text, the place, how many values have begun, the fault -/
def RS (w : World) (rb : Nat) (s : ByteArray) (a v fa fe : Nat) : Prop := w.heap[rb]? = some (.cells #[.string s, .int .i64 (a : Nat), .int .i64 (v : Nat), .int .i64 (fa : Nat), .int .i64 (fe : Nat)] 64 (0, 0))
section
variable {w w' : World} {rb : Nat} {s : ByteArray} {a v fa fe : Nat}
theorem RS.cells (h : RS w rb s a v fa fe) : w.cell? ⟨rb, 0, none⟩ = some (.string s) ∧ w.cell? ⟨rb, 1, none⟩ = some (.int .i64 (a : Nat)) ∧ w.cell? ⟨rb, 2, none⟩ = some (.int .i64 (v : Nat)) ∧ w.cell? ⟨rb, 3, none⟩ = some (.int .i64 (fa : Nat)) ∧ w.cell? ⟨rb, 4, none⟩ = some (.int .i64 (fe : Nat)) := by
  unfold RS at h
  exact ⟨by rw [Lib.cell_of_heap h]; rfl, by rw [Lib.cell_of_heap h]; rfl, by rw [Lib.cell_of_heap h]; rfl, by rw [Lib.cell_of_heap h]; rfl, by rw [Lib.cell_of_heap h]; rfl⟩
theorem RS.frozen (h : RS w rb s a v fa fe) (j : Nat) : w.frozen? ⟨rb, j, none⟩ = false := Lib.frozen_of_heap h j
theorem RS.lt (h : RS w rb s a v fa fe) : rb < w.heap.size := (Array.getElem?_eq_some_iff.1 h).1
theorem RS.below (h : RS w rb s a v fa fe) (hb : Below w.heap.size w w') : RS w' rb s a v fa fe := (hb.block rb h.lt).trans h
theorem RS.alloc (h : RS w rb s a v fa fe) (o : Obj) : RS (w.alloc o) rb s a v fa fe := (Lib.alloc_old w o rb h.lt).trans h
theorem RS.drewN (h : RS w rb s a v fa fe) (n : Nat) : RS (w.drewN n) rb s a v fa fe := h
theorem RS.s1 (h : RS w rb s a v fa fe) (x : Nat) : RS (w.setCell ⟨rb, 1, none⟩ (.int .i64 (x : Nat))) rb s x v fa fe := heap_set h 1 _
theorem RS.s2 (h : RS w rb s a v fa fe) (x : Nat) : RS (w.setCell ⟨rb, 2, none⟩ (.int .i64 (x : Nat))) rb s a x fa fe := heap_set h 2 _
theorem RS.s3 (h : RS w rb s a v fa fe) (x : Nat) : RS (w.setCell ⟨rb, 3, none⟩ (.int .i64 (x : Nat))) rb s a v x fe := heap_set h 3 _
theorem RS.s4 (h : RS w rb s a v fa fe) (x : Nat) : RS (w.setCell ⟨rb, 4, none⟩ (.int .i64 (x : Nat))) rb s a v fa x := heap_set h 4 _
end
theorem GB.drewN {pb : Nat} {a w : World} (h : GB pb a w) (n : Nat) : GB pb a (w.drewN n) := ⟨h.os, h.tape, h.output, h.size, h.block⟩
theorem rOk_any (rb : Nat) (s : ByteArray) (a v fa fe : Nat) (w : World) (h : RS w rb s a v fa fe) :
    Calls Tryz.prog 36 #[.pointer (some ⟨rb, 0, none⟩)] w fun e w' => e = .returned (.bool (decide (fe = 0))) ∧ w' = w := by
  obtain ⟨c0, c1, c2, c3, c4⟩ := h.cells
  go_enter Tryz.func36, Tryz.ntmps36
  go_wp2
  go_ret
  refine ⟨ret_bool ?_, rfl⟩
  by_cases h0 : fe = 0
  · subst h0; rfl
  · rw [decide_eq_false h0]; exact beq_false_of_ne (by omega)
theorem rFail_any (rb : Nat) (s : ByteArray) (a v fa : Nat) (i k : Nat) (w : World) (h : RS w rb s a v fa 0) :
    Calls Tryz.prog 37 #[.pointer (some ⟨rb, 0, none⟩), .int .i64 (i : Nat), .int .i64 (k : Nat)] w fun e w' => e = .returned (.tuple #[]) ∧ RS w' rb s a v i k ∧ GB rb w w' := by
  obtain ⟨c0, c1, c2, c3, c4⟩ := h.cells
  have f3 := h.frozen 3
  have f4 := h.frozen 4
  go_enter Tryz.func37, Tryz.ntmps37
  go_wp2
  exact bodyPost_end (results_none rfl _ _ _) rfl ⟨rfl, (h.s3 i).s4 k, ((GB.refl rb w).set 3 _).set 4 _⟩
theorem rFail_idle (rb : Nat) (s : ByteArray) (a v fa fe : Nat) (i k : Nat) (w : World) (h : RS w rb s a v fa fe) (h0 : fe ≠ 0) :
    Calls Tryz.prog 37 #[.pointer (some ⟨rb, 0, none⟩), .int .i64 (i : Nat), .int .i64 (k : Nat)] w fun e w' => e = .returned (.tuple #[]) ∧ w' = w := by
  obtain ⟨c0, c1, c2, c3, c4⟩ := h.cells
  have hb : (((fe : Nat) : Int) == 0) = false := beq_false_of_ne (by omega)
  go_enter Tryz.func37, Tryz.ntmps37
  go_wp2
  exact bodyPost_end (results_none rfl _ _ _) rfl ⟨rfl, rfl⟩
theorem byL_ba {s : ByteArray} {i : Nat} (h : i < s.size) : byL s.data.toList i = some (s[i]'h) := byL_at s i h
theorem spanR_at {p : Int → Bool} {s : ByteArray} {i : Nat} (h : i < s.size) : spanL p (s.data.toList.drop i) = if p ((s[i]'h).toNat : Nat) then spanL p (s.data.toList.drop (i + 1)) + 1 else 0 := by
  rw [byL_split (byL_ba h), spanL]
theorem skip_on {s : ByteArray} {i : Nat} (h : i < s.size) (hw : pWhite ((s[i]'h).toNat : Nat) = true) : skipL s.data.toList (i + 1) = skipL s.data.toList i := by
  unfold skipL
  rw [spanR_at h, if_pos hw]
  omega
theorem skip_here {s : ByteArray} {i : Nat} (h : i < s.size) (hw : pWhite ((s[i]'h).toNat : Nat) = false) : skipL s.data.toList i = i := by
  unfold skipL
  rw [spanR_at h, hw]
  rfl
theorem skip_out {s : ByteArray} {i : Nat} (h : s.size ≤ i) : skipL s.data.toList i = i := by
  unfold skipL
  rw [List.drop_eq_nil_of_le (by rw [← Lib.size_eq]; exact h)]
  rfl
theorem skip_bd (s : ByteArray) (i : Nat) (h : i ≤ s.size) : i ≤ skipL s.data.toList i ∧ skipL s.data.toList i ≤ s.size := by
  unfold skipL
  have := spanL_le pWhite (s.data.toList.drop i)
  rw [List.length_drop, ← Lib.size_eq] at this
  omega
theorem run_index_at (s : ByteArray) (i : Nat) (hi : i < s.size) (x : Int) (hx : x = ((s[i]'hi).toNat : Nat)) (w : World) :
    (Instr.index 9 (.string s) (.int .i64 (i : Nat))).run Tryz.prog w = .ok (.int .u8 x) w := by
  have h0 : (0 : Int) ≤ (i : Int) := by omega
  rw [hx]
  simp [Instr.index, run_underlying Tryz.underlying9, asIntOf, hi, go_sem]
set_option maxRecDepth 10000000 in
set_option maxHeartbeats 8000000 in
theorem rBlanks_any (rb : Nat) (s : ByteArray) (a v fa fe : Nat) (w : World) (h : RS w rb s a v fa fe) (hs : s.size ≤ maxLen) (ha : a ≤ s.size) :
    Calls Tryz.prog 35 #[.pointer (some ⟨rb, 0, none⟩)] w fun e w' => e = .returned (.tuple #[]) ∧ RS w' rb s (skipL s.data.toList a) v fa fe ∧ GB rb w w' := by
  have hs' := hs
  unfold maxLen at hs'
  obtain ⟨K, hK⟩ : ∃ K, K = skipL s.data.toList a := ⟨_, rfl⟩
  rw [← hK]
  go_enter Tryz.func35, Tryz.ntmps35
  go_wp2_with fail
  go_loopg [] (s.size + 1) (fun k wr => ∃ i : Nat, i ≤ s.size ∧ s.size + 1 ≤ i + k ∧ skipL s.data.toList i = K ∧ RS wr rb s i v fa fe ∧ GB rb w wr)
  case atStart => exact ⟨a, ha, by omega, hK.symm, h, GB.refl _ _⟩
  case round =>
    obtain ⟨i, hi, hk, hsk, hR, hG⟩ := hrel
    obtain ⟨n, rfl⟩ : ∃ n, gk = n + 1 := ⟨gk - 1, by omega⟩
    obtain ⟨c0, c1, c2, c3, c4⟩ := hR.cells
    have f1 := hR.frozen 1
    by_cases hlt : i < s.size
    · have hlt2 : (i : Int) < (s.size : Int) := by omega
      obtain ⟨x, hx⟩ : ∃ x : Int, x = ((s[i].toNat : Nat) : Int) := ⟨_, rfl⟩
      have hx0 := run_index_at s i hlt x hx
      have hxr := s[i].toNat_lt
      have hw1 : pWhite x = true → skipL s.data.toList (i + 1) = K := fun h => by rw [hx] at h; rw [skip_on hlt h, hsk]
      have hw2 : pWhite x = false → i = K := fun h => by rw [hx] at h; rw [← hsk, skip_here hlt h]
      have HW := Lib.hid hw1
      have HN := Lib.hid hw2
      have HX := Lib.hid hx
      clear hw1 hw2 hx hsk
      by_cases c9 : x = 9
      · subst c9
        have hw : Hid (skipL s.data.toList (i + 1) = K) := Lib.hid (HW.out (by decide))
        go_wp2_with fail
        go_quiet (fail)
        go_wp2_with fail
        go_roundg n
        case measure => omega
        case rel => exact ⟨i + 1, hlt, by omega, hw.out, (hR.drewN _).s1 (i + 1), (hG.drewN _).set 1 _⟩
      by_cases c10 : x = 10
      · subst c10
        have hw : Hid (skipL s.data.toList (i + 1) = K) := Lib.hid (HW.out (by decide))
        go_wp2_with fail
        go_quiet (fail)
        go_wp2_with fail
        go_roundg n
        case measure => omega
        case rel => exact ⟨i + 1, hlt, by omega, hw.out, (hR.drewN _).s1 (i + 1), (hG.drewN _).set 1 _⟩
      by_cases c13 : x = 13
      · subst c13
        have hw : Hid (skipL s.data.toList (i + 1) = K) := Lib.hid (HW.out (by decide))
        go_wp2_with fail
        go_quiet (fail)
        go_wp2_with fail
        go_roundg n
        case measure => omega
        case rel => exact ⟨i + 1, hlt, by omega, hw.out, (hR.drewN _).s1 (i + 1), (hG.drewN _).set 1 _⟩
      by_cases c32 : x = 32
      · subst c32
        have hw : Hid (skipL s.data.toList (i + 1) = K) := Lib.hid (HW.out (by decide))
        go_wp2_with fail
        go_quiet (fail)
        go_wp2_with fail
        go_roundg n
        case measure => omega
        case rel => exact ⟨i + 1, hlt, by omega, hw.out, (hR.drewN _).s1 (i + 1), (hG.drewN _).set 1 _⟩
      have b9 : (x == 9) = false := beq_false_of_ne c9
      have b10 : (x == 10) = false := beq_false_of_ne c10
      have b13 : (x == 13) = false := beq_false_of_ne c13
      have b32 : (x == 32) = false := beq_false_of_ne c32
      have hw := Lib.hid (HN.out (by unfold pWhite; rw [b9, b10, b13, b32]; rfl))
      clear c9 c10 c13 c32
      go_wp2_with fail
      go_quiet (fail)
      go_wp2_with fail
      exact bodyPost_end (results_none rfl _ _ _) rfl ⟨rfl, by rw [← hw.out]; exact hR.drewN _, hG.drewN _⟩
    · have hge : ¬ ((i : Int) < (s.size : Int)) := by omega
      have hw : Hid (i = K) := Lib.hid (by rw [← hsk, skip_out (by omega)])
      clear hsk
      go_wp2_with fail
      go_quiet (fail)
      go_wp2_with fail
      exact bodyPost_end (results_none rfl _ _ _) rfl ⟨rfl, by rw [← hw.out]; exact hR.drewN _, hG.drewN _⟩
end Go.Proofs.YtakdhfjlhkejdaaGreatDoor
