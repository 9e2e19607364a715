/-
  CONTRACTS of the laws' size and frames (codicillaw07). Conditions: the texts' sizes.
-/
import Derived.Test.YthimjdknafgfbaaSegSame
set_option linter.unusedVariables false
namespace Go.Proofs.Ythimjdknafgfbaa
open Go.RowKit

def sumT (L : List (List UInt8)) : Nat := (L.map List.length).sum
def sizeT (L : List (List UInt8)) : Nat := if 100 < L.length then 1048576 else sumT L
theorem sumT_take (L : List (List UInt8)) (k : Nat) (h : k < L.length) : sumT (L.take (k + 1)) = sumT (L.take k) + (L.getD k []).length := by
  unfold sumT
  rw [List.take_succ_eq_append_getElem h, List.map_append, List.sum_append]
  simp only [List.map_cons, List.map_nil, List.sum_cons, List.sum_nil, Nat.add_zero]
  rw [List.getD_eq_getElem?_getD, List.getElem?_eq_getElem h]
  rfl
theorem sumT_le (L : List (List UInt8)) (b : Nat) (hb : ∀ t ∈ L, t.length ≤ b) (k : Nat) : sumT (L.take k) ≤ k * b := by
  induction k with
  | zero => simp [sumT]
  | succ k ih =>
    by_cases h : k < L.length
    · rw [sumT_take L k h, Nat.succ_mul]
      have : (L.getD k []).length ≤ b := hb _ (by simp [List.getD, h])
      omega
    · rw [List.take_of_length_le (by omega), ← List.take_of_length_le (l := L) (i := k) (by omega)]
      have : k * b ≤ (k + 1) * b := Nat.mul_le_mul_right _ (by omega)
      omega
theorem sumT_mem {L : List (List UInt8)} {t : List UInt8} (h : t ∈ L) : t.length ≤ sumT L := by
  induction L with
  | nil => cases h
  | cons x L ih =>
    unfold sumT at ih ⊢
    rw [List.map_cons, List.sum_cons]
    rcases List.mem_cons.1 h with rfl | h'
    · omega
    · have := ih h'
      omega
set_option maxRecDepth 10000000 in
theorem size_any (L : List (List UInt8)) (va : Value) (w : World) (ha : IsT w L va) (hn : L.length ≤ 1000000000000000) (hb : ∀ t ∈ L, t.length ≤ 140737488355328) :
    Calls Try.prog 15 #[va] w fun e w' => e = .returned (.int .i64 (sizeT L : Nat)) ∧ w = w' := by
  obtain ⟨a, ca, rfl, hca, hA⟩ := ha
  have HA := Lib.hid hA
  have HB := Lib.hid hb
  clear hA hb
  go_enter Try.func15, Try.ntmps15
  go_wp2
  go_loop [3, 4] (fun vn v => ∃ k : Nat, v = .int .i64 k ∧ k ≤ L.length ∧ k ≤ 200 ∧ vn = .int .i64 (sumT (L.take k) : Nat)) (fun _ v => L.length - (intOf v).toNat)
  case atStart => exact ⟨0, rfl, by omega, by omega, rfl⟩
  case round =>
    obtain ⟨k, rfl, hk, hk2, rfl⟩ := hrel
    by_cases hlt : k < L.length ∧ k < 200
    · obtain ⟨h1, h2⟩ := hlt
      obtain ⟨b1, o1, rfl, hb1, c1⟩ := HA.out k h1
      have hd1 : (k : Int) < (L.length : Int) := by omega
      have hd2 : (k : Int) < 200 := by omega
      have hk0 : (0 : Int) ≤ (k : Int) := by omega
      have HS := Lib.hid (sumT_take L k h1)
      have hsl := sumT_le L 140737488355328 HB.out k
      have hxl : (L.getD k []).length ≤ 140737488355328 := HB.out _ (by simp [List.getD, h1])
      have hle : k * 140737488355328 ≤ 200 * 140737488355328 := Nat.mul_le_mul_right _ hk2
      have hsm : sumT (L.take k) ≤ 28147497671065600 := by omega
      have hbs := bOf_size (L.getD k [])
      clear hsl hle h1 h2
      generalize sumT (L.take k) = n at *
      generalize L.getD k [] = x at *
      go_wp2
      go_round
      case rel => exact ⟨k + 1, by go_num, by omega, by omega, by rw [HS.out, Int.natCast_add]⟩
      case measure => simp [intOf]; omega
    · have hor : (¬ (k : Int) < (L.length : Int)) ∨ ((k : Int) < (L.length : Int) ∧ ¬ (k : Int) < 200) := by omega
      by_cases h100 : 100 < L.length
      · have h100i : (100 : Int) < (L.length : Int) := by omega
        have HE : Hid (sizeT L = 1048576) := Lib.hid (by unfold sizeT; rw [if_pos h100])
        clear h100 hlt
        rcases hor with h | ⟨h, h'⟩
        all_goals go_wp2
        all_goals go_ret
        all_goals exact ⟨by rw [HE.out]; rfl, rfl⟩
      · have h100i : ¬ (100 : Int) < (L.length : Int) := by omega
        have HE : Hid (sizeT L = sumT (L.take k)) := Lib.hid (by unfold sizeT; rw [if_neg h100, List.take_of_length_le (by omega)])
        have hkl : ¬ (k : Int) < (L.length : Int) := by omega
        clear h100 hlt hor
        go_wp2
        go_ret
        exact ⟨by rw [HE.out]; rfl, rfl⟩
theorem framesL_take (L : List (List UInt8)) (k : Nat) (h : k < L.length) : framesL (L.take (k + 1)) = framesL (L.take k) ++ frameL (L.getD k []) := by
  rw [List.take_succ_eq_append_getElem h, framesL_snoc]
  simp [List.getD, h]
theorem framesL_len (L : List (List UInt8)) : (framesL L).length = sumT L + 12 * L.length := by
  induction L with
  | nil => rfl
  | cons t L ih =>
    rw [framesL_cons, List.length_append, frameL_len, ih]
    simp only [sumT, List.map_cons, List.sum_cons, List.length_cons]
    omega
theorem sumT_take_le (L : List (List UInt8)) (k : Nat) : sumT (L.take k) ≤ sumT L := by
  have : L = L.take k ++ L.drop k := (List.take_append_drop _ _).symm
  have e : sumT L = sumT (L.take k) + sumT (L.drop k) := by
    conv => lhs; rw [this]
    unfold sumT
    rw [List.map_append, List.sum_append]
  omega
set_option maxRecDepth 10000000 in
theorem frames_any (L : List (List UInt8)) (va : Value) (w : World) (ha : IsT w L va) (hn : L.length ≤ 100) (hs : sumT L ≤ 8192) :
    Calls Try.prog 16 #[va] w fun e w' => e = .returned (.tuple #[.string (bOf (framesL L)), .bool true]) ∧ Below w.heap.size w w' := by
  obtain ⟨a, ca, rfl, hca, hA⟩ := ha
  have HA := Lib.hid hA
  clear hA
  have acc : Below w.heap.size w w := Below.refl _ _
  go_enter Try.func16, Try.ntmps16
  go_wp2
  go_loopw [4, 5] (fun vs v wr => ∃ k : Nat, v = .int .i64 k ∧ k ≤ L.length ∧ vs = .string (bOf (framesL (L.take k))) ∧ Below w.heap.size w wr) (fun _ v _ => L.length - (intOf v).toNat)
  case atStart => exact ⟨0, rfl, by omega, rfl, acc⟩
  case round =>
    clear acc
    obtain ⟨k, rfl, hk, rfl, acc⟩ := hrel
    by_cases h1 : k < L.length
    · obtain ⟨b1, o1, rfl, hb1, c1⟩ := HA.out k h1
      have d1 := (acc.cell (p := ⟨b1, o1 + k, none⟩) hb1).trans c1
      have hd1 : (k : Int) < (L.length : Int) := by omega
      have hk0 : (0 : Int) ≤ (k : Int) := by omega
      have HS := Lib.hid (framesL_take L k h1)
      have hx : (L.getD k []).length ≤ 8192 := Nat.le_trans (sumT_mem (by simp [List.getD, h1])) hs
      have hfl := framesL_len (L.take k)
      have hft := sumT_take_le L k
      have hlk : (L.take k).length ≤ 100 := by rw [List.length_take]; omega
      have hF : (framesL (L.take k)).length ≤ 10000 := by omega
      generalize L.getD k [] = x at *
      have cF := fun w => frame_any (bOf x) w (by rw [bOf_size]; omega)
      rw [bOf_list] at cF
      have h63 : ¬ 9223372036854775807 < (bOf (framesL (L.take k))).size + (bOf (frameL x)).size := by rw [bOf_size, bOf_size, frameL_len]; omega
      have HB := Lib.hid (bOf_app (framesL (L.take k)) (frameL x))
      clear c1 hfl hft hlk hF h1
      generalize bOf (framesL (L.take k)) = f1 at *
      generalize bOf (frameL x) = f2 at *
      go_wp2_with (go_at_call 8; refine (cF _).mono ?_; rintro e w1 ⟨rfl, hb⟩; have acc := acc.trans (hb.mono acc.size); clear hb)
      go_roundw
      case rel => exact ⟨k + 1, by go_num, by omega, by rw [HS.out, ← HB.out], acc⟩
      case measure => simp [intOf]; omega
    · have hkl : ¬ (k : Int) < (L.length : Int) := by omega
      have HE : Hid (L.take k = L) := Lib.hid (List.take_of_length_le (by omega))
      clear h1
      go_wp2
      go_ret2
      exact ⟨by rw [HE.out]; rfl, acc⟩
end Go.Proofs.Ythimjdknafgfbaa
