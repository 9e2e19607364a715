/-
  CONTRACT of codicillaw02.digits: a number's text.
-/
import Derived.Test.YtjffiignedbndaaGreatDoorN8
import Derived.Lib.SlBytesConst
set_option linter.unusedSimpArgs false
set_option linter.unusedVariables false
set_option linter.unusedVariables false
namespace Go.Proofs.YtjffiignedbndaaGreatDoor
open Go.RowKit
theorem conv_one (w : World) (x : Int) :
    (convert 52 9 (.slice (some ⟨w.heap.size, 0, none⟩) 1 1)).run Tryz.prog (w.alloc (.cells #[.int .u8 x] 5)) = .ok (.string (strOfNums [x])) (w.alloc (.cells #[.int .u8 x] 5)) := by
  refine run_convert_bytes_arg _ 52 5 Tryz.underlying52 Tryz.underlying5 _ 0 1 1 [x] rfl ?_ 9 Tryz.underlying9
  intro i hi
  obtain rfl : i = 0 := by omega
  have := World.cell?_alloc_mark w #[.int .u8 x] 5 (0, 0) 0
  rw [Nat.zero_add, this]
  rfl
theorem str_cons (x : Nat) (l : List UInt8) (hx : x < 256) : strOfNums [(x : Int)] ++ ⟨l.toArray⟩ = ⟨(UInt8.ofNat x :: l).toArray⟩ := by
  apply ByteArray.ext
  apply Array.toList_inj.1
  rw [ByteArray.data_append, Array.toList_append, strOfNums_data]
  simp
/-- between two rounds: u is left, l stands -/
def DigAt (D : List UInt8) (more : Bool) (u : Nat) (l : List UInt8) : Prop := (more = true ∧ D = dg u ++ l) ∨ (more = false ∧ D = l ∧ u = 0)
theorem dig_step {D l : List UInt8} {u : Nat} (h : D = dg u ++ l) : DigAt D (decide (0 < u / 10)) (u / 10) (UInt8.ofNat (48 + u % 10) :: l) := by
  by_cases hu : u < 10
  · refine .inr ⟨by simp; omega, ?_, by omega⟩
    rw [h, dg_low hu]
    rfl
  · refine .inl ⟨by simp; omega, ?_⟩
    rw [h, dg_high hu, List.append_assoc]
    rfl
theorem u64w (n : Int) : IntKind.u64.wrap n = n % 18446744073709551616 := by simp [IntKind.wrap, IntKind.bits, IntKind.signed]
theorem dig_len {D l : List UInt8} {u : Nat} (h : D = dg u ++ l) (hD : D.length ≤ 20) : l.length + 1 ≤ 20 := by
  obtain ⟨b, t, e, _⟩ := dg_head u
  have := congrArg List.length h
  rw [List.length_append, e, List.length_cons] at this
  omega
theorem str_pre (l : List UInt8) : (⟨#[45]⟩ : ByteArray) ++ ⟨l.toArray⟩ = ⟨(45 :: l).toArray⟩ := by
  apply ByteArray.ext
  apply Array.toList_inj.1
  rw [ByteArray.data_append, Array.toList_append]
  simp
set_option maxRecDepth 10000000 in
set_option maxHeartbeats 4000000 in
theorem digits_any (n : Int) (w : World) (h0 : -9223372036854775808 ≤ n) (h1 : n ≤ 9223372036854775807) :
    Calls Tryz.prog 29 #[.int .i64 n] w fun e w' => e = .returned (.string ⟨(numT n).toArray⟩) ∧ Below w.heap.size w w' := by
  obtain ⟨m, hm⟩ : ∃ m, m = n.natAbs := ⟨_, rfl⟩
  have hcv := conv_one
  have hmb : m ≤ 9223372036854775808 := by omega
  have hDl : (dg m).length ≤ 20 := by have := dg_len 19 m (by omega); omega
  by_cases hn : n < 0
  · have hT : numT n = 45 :: dg m := by unfold numT; rw [if_pos hn, hm]
    have hneg : decide (n < 0) = true := by simp [hn]
    have hcw : IntKind.u64.wrap n = n + 18446744073709551616 := by rw [u64w]; omega
    have hcn : IntKind.u64.wrap (-(n + 18446744073709551616)) = (m : Int) := by rw [u64w]; omega
    have HT := Lib.hid hT
    clear hm hT
    go_enter Tryz.func29, Tryz.ntmps29
    go_wp2
    clear hcw hcn
    have HD : DigAt (dg m) true m [] := .inl ⟨rfl, by rw [List.append_nil]⟩
    generalize dg m = D at *
    go_loopw [4, 5, 6] (fun v4 v5 v6 wr => ∃ (u : Nat) (l : List UInt8) (b : Bool), v4 = .int .u64 (u : Nat) ∧ v5 = .string ⟨l.toArray⟩ ∧ v6 = .bool b ∧ u ≤ 9223372036854775808 ∧ DigAt D b u l ∧ Below w.heap.size w wr) (fun v4 _ v6 _ => match v6 with | .bool true => (intOf v4).toNat + 1 | _ => 0)
    case atStart => exact ⟨m, [], true, rfl, rfl, rfl, hmb, HD, Below.refl _ _⟩
    obtain ⟨u, l, b, rfl, rfl, rfl, hu, hD, hB⟩ := hrel
    clear HD
    rcases hD with ⟨rfl, hD⟩ | ⟨rfl, hD, rfl⟩
    · have hl := dig_len hD hDl
      have HS := Lib.hid (dig_step hD)
      have HC := Lib.hid (str_cons (48 + u % 10) l (by omega))
      have hsz : (ByteArray.mk l.toArray).size ≤ 20 := by show l.toArray.size ≤ 20; simp; omega
      obtain ⟨x, hx⟩ : ∃ x, x = 48 + u % 10 := ⟨_, rfl⟩
      have he : IntKind.u64.wrap (48 + (u : Int) % 10) = (x : Int) := by rw [u64w]; omega
      have hxb : x ≤ 57 := by omega
      have hstr : (strOfNums [(x : Int)]).size = 1 := by rw [strOfNums_size]; rfl
      rw [← hx] at HS HC
      clear hD hl hx
      go_wp2
      go_roundw
      case rel => exact ⟨u / 10, UInt8.ofNat x :: l, decide (0 < u / 10), by go_num, by rw [← HC.out], by congr 1; simp; omega, by omega, HS.out, hB.alloc hB.size _⟩
      case measure =>
        simp only [intOf]
        split
        · rename_i hb
          have hb2 : 0 < (u : Int) / 10 := by simpa using hb
          omega
        · omega
    · have hsz : (ByteArray.mk l.toArray).size ≤ 20 := by show l.toArray.size ≤ 20; rw [hD] at hDl; simpa using hDl
      have h45 : (ByteArray.mk #[45]).size = 1 := rfl
      have HD2 := Lib.hid hD
      clear hD
      go_wp2
      go_ret
      refine ⟨?_, hB⟩
      rw [HT.out, HD2.out]
      exact congrArg (fun b => Ending.returned (Value.string b)) (str_pre l)
  · have hT : numT n = dg m := by unfold numT; rw [if_neg hn, hm]
    have hneg : decide (n < 0) = false := by simp; omega
    have hcw : IntKind.u64.wrap n = (m : Int) := by rw [u64w]; omega
    have HT := Lib.hid hT
    clear hm hT
    go_enter Tryz.func29, Tryz.ntmps29
    go_wp2
    clear hcw
    have HD : DigAt (dg m) true m [] := .inl ⟨rfl, by rw [List.append_nil]⟩
    generalize dg m = D at *
    go_loopw [4, 5, 6] (fun v4 v5 v6 wr => ∃ (u : Nat) (l : List UInt8) (b : Bool), v4 = .int .u64 (u : Nat) ∧ v5 = .string ⟨l.toArray⟩ ∧ v6 = .bool b ∧ u ≤ 9223372036854775808 ∧ DigAt D b u l ∧ Below w.heap.size w wr) (fun v4 _ v6 _ => match v6 with | .bool true => (intOf v4).toNat + 1 | _ => 0)
    case atStart => exact ⟨m, [], true, rfl, rfl, rfl, hmb, HD, Below.refl _ _⟩
    obtain ⟨u, l, b, rfl, rfl, rfl, hu, hD, hB⟩ := hrel
    clear HD
    rcases hD with ⟨rfl, hD⟩ | ⟨rfl, hD, rfl⟩
    · have hl := dig_len hD hDl
      have HS := Lib.hid (dig_step hD)
      have HC := Lib.hid (str_cons (48 + u % 10) l (by omega))
      have hsz : (ByteArray.mk l.toArray).size ≤ 20 := by show l.toArray.size ≤ 20; simp; omega
      obtain ⟨x, hx⟩ : ∃ x, x = 48 + u % 10 := ⟨_, rfl⟩
      have he : IntKind.u64.wrap (48 + (u : Int) % 10) = (x : Int) := by rw [u64w]; omega
      have hxb : x ≤ 57 := by omega
      have hstr : (strOfNums [(x : Int)]).size = 1 := by rw [strOfNums_size]; rfl
      rw [← hx] at HS HC
      clear hD hl hx
      go_wp2
      go_roundw
      case rel => exact ⟨u / 10, UInt8.ofNat x :: l, decide (0 < u / 10), by go_num, by rw [← HC.out], by congr 1; simp; omega, by omega, HS.out, hB.alloc hB.size _⟩
      case measure =>
        simp only [intOf]
        split
        · rename_i hb
          have hb2 : 0 < (u : Int) / 10 := by simpa using hb
          omega
        · omega
    · have HD2 := Lib.hid hD
      clear hD
      go_wp2
      go_ret
      refine ⟨?_, hB⟩
      rw [HT.out, HD2.out]
      rfl
end Go.Proofs.YtjffiignedbndaaGreatDoor
