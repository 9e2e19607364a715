/-
  CONTRACTS of disk.nameByte, disk.Name: which texts name a file.
-/
import Derived.Test.YtlkgfimignlgaaaCDiskUnd
import Derived.Lib.ConvBytes
set_option linter.unusedSimpArgs false
set_option linter.unusedVariables false
set_option linter.unusedVariables false
set_option linter.unusedSimpArgs false
namespace Go.Proofs.Ytlkgfimignlgaaa
open Go.RowKit
theorem ret_b {a b : Bool} (h : a = b) : Ending.returned (.bool a) = .returned (.bool b) := by rw [h]
def nameC (x : Int) : Bool := (decide (97 ≤ x) && decide (x ≤ 122)) || (decide (48 ≤ x) && decide (x ≤ 57)) || x == 46 || x == 45 || x == 95
set_option maxRecDepth 100000 in
theorem nameByte_any (x : Int) (w : World) :
    Calls Try.prog 40 #[.int .u8 x] w fun e w' => e = .returned (.bool (nameC x)) ∧ w' = w := by
  have E : Hid (nameC x = ((decide (97 ≤ x) && decide (x ≤ 122)) || (decide (48 ≤ x) && decide (x ≤ 57)) || x == 46 || x == 45 || x == 95)) := Lib.hid rfl
  generalize nameC x = b at *
  go_enter Try.func40, Try.ntmps40
  go_wp2_with fail
  all_goals go_ret
  all_goals refine ⟨ret_b ?_, rfl⟩
  all_goals rw [E.out]
  all_goals
    rw [Bool.eq_iff_iff]
    simp only [Bool.or_eq_true, Bool.and_eq_true, decide_eq_true_eq, beq_iff_eq, eq_self, true_iff]
    omega
def nameB (s : ByteArray) : Bool := decide (1 ≤ s.size) && decide (s.size ≤ 32) && s.data.toList.all fun b => nameC ((b.toNat : Nat) : Int)
/-- the bytes ahead of a place are a name's -/
def nameTo (s : ByteArray) (i : Nat) : Bool := (s.data.toList.take i).all fun b => nameC ((b.toNat : Nat) : Int)
theorem nameTo_on {s : ByteArray} {i : Nat} (h : i < s.size) : nameTo s (i + 1) = (nameTo s i && nameC (((s[i]'h).toNat : Nat) : Int)) := by
  have hi2 : i < s.data.toList.length := by rw [← Lib.size_eq]; exact h
  have e : s.data.toList[i]'hi2 = s[i]'h := rfl
  unfold nameTo
  rw [List.take_succ_eq_append_getElem hi2, List.all_append, e]
  simp
theorem nameTo_all {s : ByteArray} : nameTo s s.size = s.data.toList.all fun b => nameC ((b.toNat : Nat) : Int) := by
  unfold nameTo
  rw [Lib.size_eq, List.take_length]
theorem nameTo_no {s : ByteArray} {i : Nat} (h : i < s.size) (hn : nameC (((s[i]'h).toNat : Nat) : Int) = false) : nameB s = false := by
  unfold nameB
  have hall : (s.data.toList.all fun b => nameC ((b.toNat : Nat) : Int)) = false := by
    rw [List.all_eq_false]
    have hi2 : i < s.data.toList.length := by rw [← Lib.size_eq]; exact h
    refine ⟨s.data.toList[i]'hi2, List.getElem_mem hi2, ?_⟩
    have e : s.data.toList[i]'hi2 = s[i]'h := rfl
    rw [e, hn]
    decide
  rw [hall, Bool.and_false]
set_option maxRecDepth 100000 in
set_option maxHeartbeats 1000000 in
theorem name_any (s : ByteArray) (w : World) (hs : s.size ≤ 1000000000) :
    Calls Try.prog 17 #[.string s] w fun e w' => e = .returned (.bool (nameB s)) ∧ Below w.heap.size w w' := by
  have hcv := Lib.run_convert_string_bytes (P := Try.prog) w 9 65 5 s (u := .string) Try.underlying9 Try.underlying65 Try.underlying5
  have hb0 : Below w.heap.size w (Lib.bytesWorld w 5 s) := by
    refine ⟨rfl, rfl, rfl, by rw [Lib.bytesWorld_size]; omega, fun j hj => Lib.bytesWorld_at_old w _ s j hj⟩
  have hcell : ∀ j (hj : j < s.size), (Lib.bytesWorld w 5 s).cell? ⟨w.heap.size, j, none⟩ = some (.int .u8 (((s[j]'hj).toNat : Nat) : Int)) := fun j hj => by
    rw [Lib.bytesWorld_cell w _ s j hj]
    have hi2 : j < s.data.toList.length := by rw [← Lib.size_eq]; exact hj
    rw [List.getD, List.getElem?_eq_getElem hi2]
    rfl
  have hsI : (s.size : Int) ≤ 1000000000 := by omega
  generalize Lib.bytesWorld w 5 s = W at *
  generalize grownCap w s.size 0 5 = cap at *
  have HC := Lib.hid hcell
  have HB0 := Lib.hid hb0
  clear hcell hb0
  go_enter Try.func17, Try.ntmps17
  go_wp2_with fail
  clear hcv
  go_loopw [8] (fun v wr => ∃ i : Nat, v = .int .i64 (i : Nat) ∧ i ≤ s.size ∧ nameTo s i = true ∧ wr = W) (fun v _ => s.size - (intOf v).toNat)
  case atStart => exact ⟨0, rfl, Nat.zero_le _, rfl, rfl⟩
  case round =>
    obtain ⟨i, rfl, hi, hn, rfl⟩ := hrel
    by_cases hlt : i < s.size
    · have hltI : (i : Int) < (s.size : Int) := by omega
      have hc := HC.out i hlt
      have hon := nameTo_on hlt
      have hno := nameTo_no hlt
      rw [hn, Bool.true_and] at hon
      obtain ⟨x, hx⟩ : ∃ x : Int, x = (((s[i]'hlt).toNat : Nat) : Int) := ⟨_, rfl⟩
      rw [← hx] at hc hon hno
      have cN := nameByte_any x wr
      have HON := Lib.hid hon
      have HNO := Lib.hid hno
      clear hx hon hno hn
      generalize nameC x = b at *
      cases b with
      | true =>
        go_wp2_with (go_at_call 40; refine cN.mono ?_; rintro e w1 ⟨rfl, rfl⟩)
        go_roundw
        case rel => exact ⟨i + 1, by go_num, hlt, HON.out, (by first | rfl | trivial)⟩
        case measure => simp [intOf]; omega
      | false =>
        go_wp2_with (go_at_call 40; refine cN.mono ?_; rintro e w1 ⟨rfl, rfl⟩)
        go_ret
        exact ⟨ret_b (HNO.out (by first | rfl | trivial)).symm, HB0.out⟩
    · have hge : ¬ (i : Int) < (s.size : Int) := by omega
      have hie : i = s.size := by omega
      subst hie
      rw [nameTo_all] at hn
      have HB : Hid (nameB s = (decide (1 ≤ s.size) && decide (s.size ≤ 32))) := Lib.hid (by unfold nameB; rw [hn, Bool.and_true])
      clear hn
      by_cases h1 : 1 ≤ s.size
      · have h1I : (1 : Int) ≤ (s.size : Int) := by omega
        go_wp2_with fail
        go_ret
        refine ⟨ret_b ?_, HB0.out⟩
        rw [HB.out, decide_eq_true h1, Bool.true_and]
        exact decide_eq_decide.2 (by omega)
      · have h1I : ¬ (1 : Int) ≤ (s.size : Int) := by omega
        go_wp2_with fail
        go_ret
        refine ⟨ret_b ?_, HB0.out⟩
        rw [HB.out, decide_eq_false h1, Bool.false_and]
end Go.Proofs.Ytlkgfimignlgaaa
