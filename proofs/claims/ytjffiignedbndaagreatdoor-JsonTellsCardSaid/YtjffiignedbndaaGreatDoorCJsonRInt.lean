/-
  CONTRACT of codicilref02.Int.
-/
import Derived.Test.YtjffiignedbndaaGreatDoorCJsonRIntM
import Derived.Test.YtjffiignedbndaaGreatDoorCJsonRNum
import Derived.Test.YtjffiignedbndaaGreatDoorN3
set_option linter.unusedSimpArgs false
set_option linter.unusedVariables false
set_option linter.unusedVariables false
namespace Go.Proofs.YtjffiignedbndaaGreatDoor
open Go.RowKit
theorem sum_lt_from (l : List UInt8) : ∀ (a p : Nat), (∀ c ∈ l, 48 ≤ c.toNat ∧ c.toNat ≤ 57) → a < p → sumD a l < p * 10 ^ l.length := by
  induction l with
  | nil => intro a p _ ha; rw [List.length_nil, Nat.pow_zero, Nat.mul_one]; exact ha
  | cons c r ih =>
    intro a p hd ha
    have hc := hd c (List.mem_cons_self ..)
    have h := ih (a * 10 + (c.toNat - 48)) (p * 10) (fun d h => hd d (List.mem_cons_of_mem _ h)) (by omega)
    rw [List.length_cons, Nat.pow_succ, Nat.mul_comm (10 ^ r.length) 10, ← Nat.mul_assoc]
    exact h
theorem sum_lt {l : List UInt8} (h : ∀ c ∈ l, 48 ≤ c.toNat ∧ c.toNat ≤ 57) (hl : l.length ≤ 18) : sumD 0 l < 1000000000000000000 := by
  have h1 := sum_lt_from l 0 1 h (by omega)
  rw [Nat.one_mul] at h1
  exact Nat.lt_of_lt_of_le h1 (Nat.pow_le_pow_right (by omega) hl : 10 ^ l.length ≤ 10 ^ 18)
theorem sum_lt' {l : List UInt8} (h : ∀ c ∈ l, 48 ≤ c.toNat ∧ c.toNat ≤ 57) (hl : l.length ≤ 19) : sumD 0 l < 10000000000000000000 := by
  have h1 := sum_lt_from l 0 1 h (by omega)
  rw [Nat.one_mul] at h1
  exact Nat.lt_of_lt_of_le h1 (Nat.pow_le_pow_right (by omega) hl : 10 ^ l.length ≤ 10 ^ 19)
theorem sum_next {d : ByteArray} {i : Nat} (h : i < d.size) : sumD 0 (d.data.toList.take (i + 1)) = sumD 0 (d.data.toList.take i) * 10 + (d[i].toNat - 48) := by
  have h2 : i < d.data.toList.length := by rw [← Lib.size_eq]; exact h
  rw [List.take_add_one, List.getElem?_eq_getElem h2]
  exact sumD_snoc _ _ _
theorem int_parts (k : Int) (t d : ByteArray) (neg : Bool) (hd : d.data.toList = signL t.data.toList) (hn : (t.data.toList.head? == some 45) = neg) :
    (k ≠ 4 ∧ intO k t = none) ∨ (k = 4 ∧ numS t = false ∧ intO 4 t = none) ∨ (k = 4 ∧ numS t = true ∧ spanS pDigit d ≠ d.size ∧ intO 4 t = none) ∨ (k = 4 ∧ numS t = true ∧ spanS pDigit d = d.size ∧ 19 < d.size ∧ intO 4 t = none) ∨
      (k = 4 ∧ numS t = true ∧ spanS pDigit d = d.size ∧ d.size ≤ 19 ∧ intO 4 t = refI neg (sumD 0 d.data.toList) ∧ ∀ c ∈ d.data.toList, 48 ≤ c.toNat ∧ c.toNat ≤ 57) := by
  by_cases hk : k = 4
  rotate_left
  · exact .inl ⟨hk, by unfold intO; rw [beq_eq_false_iff_ne.2 hk]; rfl⟩
  subst hk
  cases hb : numS t with
  | false => exact .inr (.inl ⟨rfl, rfl, by unfold intO; rw [hb]; rfl⟩)
  | true =>
    have hr := int_ref (l := t.data.toList) hb
    rw [← hd, hn] at hr
    have hr : intO 4 t = if spanL pDigit d.data.toList = d.data.toList.length ∧ d.data.toList.length ≤ 19 then refI neg (sumD 0 d.data.toList) else none := by unfold intO; rw [hb]; exact hr
    unfold spanS
    rw [Lib.size_eq]
    by_cases h1 : spanL pDigit d.data.toList = d.data.toList.length
    · by_cases h2 : d.data.toList.length ≤ 19
      · rw [if_pos ⟨h1, h2⟩] at hr
        exact .inr (.inr (.inr (.inr ⟨rfl, rfl, h1, h2, hr, span_whole h1⟩)))
      · rw [if_neg (fun e => h2 e.2)] at hr
        exact .inr (.inr (.inr (.inl ⟨rfl, rfl, h1, by omega, hr⟩)))
    · rw [if_neg (fun e => h1 e.1)] at hr
      exact .inr (.inr (.inl ⟨rfl, rfl, h1, hr⟩))
set_option maxRecDepth 10000000 in
set_option maxHeartbeats 8000000 in
theorem refInt_any (k : Int) (t : ByteArray) (kv lv : Value) (w : World) (ht : t.size ≤ maxLen) :
    Calls Tryz.prog 24 #[.agg #[.int .u8 k, .string t, kv, lv]] w fun e w' => e = .returned (.tuple #[.int .i64 (intN k t), .bool (intB k t)]) ∧ Below w.heap.size w w' := by
  have ht' := ht
  unfold maxLen at ht'
  have hbel : Below w.heap.size w (w.alloc (.cells #[.int .u8 k, .string t, kv, lv] 26)) := (Below.refl _ _).alloc (Nat.le_refl _) _
  have hNum := fun w2 => refNumber_any t w2 ht
  by_cases h0 : 0 < t.size
  · obtain ⟨m1, m2, m3⟩ := toL_ne h0
    have i0 : (0 : Int) < (t.size : Int) := by omega
    clear m3
    by_cases h45 : t[0] = 45
    · have HZ := Lib.hid (int_parts k t (t.extract 1 t.size) true (by rw [cons_at t h0, h45]; rfl) (by rw [cons_at t h0, h45]; rfl))
      have hds : (t.extract 1 t.size).size ≤ maxLen := from_size ht
      have hds' := hds
      unfold maxLen at hds'
      have hDig := fun w2 => refDigits_any (t.extract 1 t.size) w2 hds
      obtain ⟨b1, b2⟩ := byte_is (k := 45) h45 rfl
      clear h45
      go_enter Tryz.func24, Tryz.ntmps24
      go_upto_region 5 with fail
      obtain ⟨x0, x1, _, _⟩ := RB.cells (heap_alloc_new w (.cells #[.int .u8 k, .string t, kv, lv] 26))
      generalize w.alloc (.cells #[.int .u8 k, .string t, kv, lv] 26) = wA at *
      generalize t.extract 1 t.size = d at *
      rcases HZ.out with ⟨z1, Hf⟩ | ⟨z1, z2, Hf⟩ | ⟨z1, z2, z3, Hf⟩ | ⟨z1, z2, z3, z4, Hf⟩ | ⟨z1, z2, z3, z4, Hf, hdig⟩
      · have hk1 : (k == 4) = false := beq_eq_false_iff_ne.2 z1
        have hk2 : (k != 4) = true := by simp [bne, hk1]
        have Hf := Lib.hid Hf
        clear z1
        go_wp2_with fail
        go_ret2
        exact ⟨ret_int_no Hf.out, hbel⟩
      · subst z1
        rw [z2] at hNum
        have Hf := Lib.hid Hf
        clear z2
        go_wp2_with (go_at_call 55; refine (hNum _).mono ?_; rintro e w' ⟨rfl, rfl⟩)
        go_ret2
        exact ⟨ret_int_no Hf.out, hbel⟩
      · subst z1
        rw [z2] at hNum
        have Hf := Lib.hid Hf
        have b1 : (((spanS pDigit d : Nat) : Int) == (d.size : Nat)) = false := beq_eq_false_iff_ne.2 (by omega)
        have b2 : (((spanS pDigit d : Nat) : Int) != (d.size : Nat)) = true := by simp [bne, b1]
        clear z2 z3
        go_wp2_with (first
          | (go_at_call 55; refine (hNum _).mono ?_; rintro e w' ⟨rfl, rfl⟩)
          | (go_at_call 56; refine (hDig _).mono ?_; rintro e w' ⟨rfl, rfl⟩))
        go_ret2
        exact ⟨ret_int_no Hf.out, hbel⟩
      · subst z1
        rw [z2] at hNum
        rw [z3] at hDig
        have Hf := Lib.hid Hf
        have b3 : (19 : Int) < (d.size : Nat) := by omega
        have b2 : (((d.size : Nat) : Int) != (d.size : Nat)) = false := by simp
        clear z2 z3
        go_wp2_with (first
          | (go_at_call 55; refine (hNum _).mono ?_; rintro e w' ⟨rfl, rfl⟩)
          | (go_at_call 56; refine (hDig _).mono ?_; rintro e w' ⟨rfl, rfl⟩))
        go_ret2
        exact ⟨ret_int_no Hf.out, hbel⟩
      · subst z1
        rw [z2] at hNum
        rw [z3] at hDig
        have Hf := Lib.hid Hf
        have Hd := Lib.hid hdig
        have b3 : ¬ ((19 : Int) < (d.size : Nat)) := by omega
        have b2 : (((d.size : Nat) : Int) != (d.size : Nat)) = false := by simp
        clear z2 z3 hdig
        go_wp2_with (first
          | (go_at_call 55; refine (hNum _).mono ?_; rintro e w' ⟨rfl, rfl⟩)
          | (go_at_call 56; refine (hDig _).mono ?_; rintro e w' ⟨rfl, rfl⟩))
        clear hNum hDig
        go_loop [6, 7] (fun vu vi => ∃ i : Nat, vi = .int .i64 i ∧ vu = .int .u64 (sumD 0 (d.data.toList.take i) : Nat) ∧ i ≤ d.size) (fun _ vi => d.size - (intOf vi).toNat)
        case atStart => exact ⟨0, rfl, by rw [List.take_zero]; rfl, Nat.zero_le _⟩
        case round =>
          obtain ⟨i, rfl, rfl, hi⟩ := hrel
          by_cases hlt : i < d.size
          · have hlt2 : (i : Int) < (d.size : Int) := by omega
            obtain ⟨h48, h57⟩ := Hd.out d[i] (List.getElem_mem (l := d.data.toList) (n := i) (by rw [← Lib.size_eq]; exact hlt))
            have hsb := sum_lt (l := d.data.toList.take i) (fun c hc => Hd.out c (List.mem_of_mem_take hc)) (by rw [List.length_take, ← Lib.size_eq]; omega : (d.data.toList.take i).length ≤ 18)
            have HS := Lib.hid (sum_next hlt)
            generalize sumD 0 (d.data.toList.take i) = u at *
            have c48 : (48 : Int) ≤ ((d[i].toNat : Nat) : Int) := by omega
            have c57 : ((d[i].toNat : Nat) : Int) ≤ 57 := by omega
            have hu1 : (u : Int) ≤ 1000000000000000000 := by omega
            go_wp2
            go_round
            case rel => exact ⟨i + 1, by go_num, by rw [HS.out]; congr 1; omega, hlt⟩
            case measure => simp [intOf]; omega
          · have hge : ¬ ((i : Int) < (d.size : Int)) := by omega
            have hall : d.data.toList.take i = d.data.toList := List.take_of_length_le (by rw [← Lib.size_eq]; omega)
            rw [hall]
            have hu19 := sum_lt' (l := d.data.toList) Hd.out (by rw [← Lib.size_eq]; exact z4)
            generalize sumD 0 d.data.toList = u at *
            have hu0 : (u : Int) < 10000000000000000000 := by omega
            by_cases hu : u ≤ 9223372036854775808
            · have hu2 : (u : Int) ≤ 9223372036854775808 := by omega
              have HY : Hid (intO 4 t = some (-(u : Int))) := by rw [Hf.out]; unfold refI; rw [if_pos rfl, if_pos hu]; exact rfl
              have hw : IntKind.i64.wrap (IntKind.u64.wrap (-(u : Int))) = -(u : Int) := by simp [IntKind.wrap, IntKind.bits, IntKind.signed]; omega
              go_wp2
              go_ret2
              exact ⟨by first | exact ret_int_yes HY.out | (rw [hw]; exact ret_int_yes HY.out), hbel⟩
            · have hu2 : ¬ ((u : Int) ≤ 9223372036854775808) := by omega
              have HY : Hid (intO 4 t = none) := by rw [Hf.out]; unfold refI; rw [if_pos rfl, if_neg hu]; exact rfl
              go_wp2
              go_ret2
              exact ⟨ret_int_no HY.out, hbel⟩
    · have hsg : t.data.toList = signL t.data.toList := by
        rw [cons_at t h0]
        unfold signL
        split
        · rename_i e; injection e with e1 e2; exact absurd e1 h45
        · rfl
      have HZ := Lib.hid (int_parts k t t false hsg (by rw [cons_at t h0]; simp [h45]))
      clear hsg
      have hDig := fun w2 => refDigits_any t w2 ht
      obtain ⟨b1, b2⟩ := byte_not (k := 45) h45 rfl
      clear h45
      go_enter Tryz.func24, Tryz.ntmps24
      go_upto_region 5 with fail
      obtain ⟨x0, x1, _, _⟩ := RB.cells (heap_alloc_new w (.cells #[.int .u8 k, .string t, kv, lv] 26))
      generalize w.alloc (.cells #[.int .u8 k, .string t, kv, lv] 26) = wA at *
      obtain ⟨d, e⟩ : ∃ d, d = t := ⟨_, rfl⟩
      subst e
      rcases HZ.out with ⟨z1, Hf⟩ | ⟨z1, z2, Hf⟩ | ⟨z1, z2, z3, Hf⟩ | ⟨z1, z2, z3, z4, Hf⟩ | ⟨z1, z2, z3, z4, Hf, hdig⟩
      · have hk1 : (k == 4) = false := beq_eq_false_iff_ne.2 z1
        have hk2 : (k != 4) = true := by simp [bne, hk1]
        have Hf := Lib.hid Hf
        clear z1
        go_wp2_with fail
        go_ret2
        exact ⟨ret_int_no Hf.out, hbel⟩
      · subst z1
        rw [z2] at hNum
        have Hf := Lib.hid Hf
        clear z2
        go_wp2_with (go_at_call 55; refine (hNum _).mono ?_; rintro e w' ⟨rfl, rfl⟩)
        go_ret2
        exact ⟨ret_int_no Hf.out, hbel⟩
      · subst z1
        rw [z2] at hNum
        have Hf := Lib.hid Hf
        have b1 : (((spanS pDigit d : Nat) : Int) == (d.size : Nat)) = false := beq_eq_false_iff_ne.2 (by omega)
        have b2 : (((spanS pDigit d : Nat) : Int) != (d.size : Nat)) = true := by simp [bne, b1]
        clear z2 z3
        go_wp2_with (first
          | (go_at_call 55; refine (hNum _).mono ?_; rintro e w' ⟨rfl, rfl⟩)
          | (go_at_call 56; refine (hDig _).mono ?_; rintro e w' ⟨rfl, rfl⟩))
        go_ret2
        exact ⟨ret_int_no Hf.out, hbel⟩
      · subst z1
        rw [z2] at hNum
        rw [z3] at hDig
        have Hf := Lib.hid Hf
        have b3 : (19 : Int) < (d.size : Nat) := by omega
        have b2 : (((d.size : Nat) : Int) != (d.size : Nat)) = false := by simp
        clear z2 z3
        go_wp2_with (first
          | (go_at_call 55; refine (hNum _).mono ?_; rintro e w' ⟨rfl, rfl⟩)
          | (go_at_call 56; refine (hDig _).mono ?_; rintro e w' ⟨rfl, rfl⟩))
        go_ret2
        exact ⟨ret_int_no Hf.out, hbel⟩
      · subst z1
        rw [z2] at hNum
        rw [z3] at hDig
        have Hf := Lib.hid Hf
        have Hd := Lib.hid hdig
        have b3 : ¬ ((19 : Int) < (d.size : Nat)) := by omega
        have b2 : (((d.size : Nat) : Int) != (d.size : Nat)) = false := by simp
        clear z2 z3 hdig
        go_wp2_with (first
          | (go_at_call 55; refine (hNum _).mono ?_; rintro e w' ⟨rfl, rfl⟩)
          | (go_at_call 56; refine (hDig _).mono ?_; rintro e w' ⟨rfl, rfl⟩))
        clear hNum hDig
        go_loop [6, 7] (fun vu vi => ∃ i : Nat, vi = .int .i64 i ∧ vu = .int .u64 (sumD 0 (d.data.toList.take i) : Nat) ∧ i ≤ d.size) (fun _ vi => d.size - (intOf vi).toNat)
        case atStart => exact ⟨0, rfl, by rw [List.take_zero]; rfl, Nat.zero_le _⟩
        case round =>
          obtain ⟨i, rfl, rfl, hi⟩ := hrel
          by_cases hlt : i < d.size
          · have hlt2 : (i : Int) < (d.size : Int) := by omega
            obtain ⟨h48, h57⟩ := Hd.out d[i] (List.getElem_mem (l := d.data.toList) (n := i) (by rw [← Lib.size_eq]; exact hlt))
            have hsb := sum_lt (l := d.data.toList.take i) (fun c hc => Hd.out c (List.mem_of_mem_take hc)) (by rw [List.length_take, ← Lib.size_eq]; omega : (d.data.toList.take i).length ≤ 18)
            have HS := Lib.hid (sum_next hlt)
            generalize sumD 0 (d.data.toList.take i) = u at *
            have c48 : (48 : Int) ≤ ((d[i].toNat : Nat) : Int) := by omega
            have c57 : ((d[i].toNat : Nat) : Int) ≤ 57 := by omega
            have hu1 : (u : Int) ≤ 1000000000000000000 := by omega
            go_wp2
            go_round
            case rel => exact ⟨i + 1, by go_num, by rw [HS.out]; congr 1; omega, hlt⟩
            case measure => simp [intOf]; omega
          · have hge : ¬ ((i : Int) < (d.size : Int)) := by omega
            have hall : d.data.toList.take i = d.data.toList := List.take_of_length_le (by rw [← Lib.size_eq]; omega)
            rw [hall]
            have hu19 := sum_lt' (l := d.data.toList) Hd.out (by rw [← Lib.size_eq]; exact z4)
            generalize sumD 0 d.data.toList = u at *
            have hu0 : (u : Int) < 10000000000000000000 := by omega
            by_cases hu : u < 9223372036854775808
            · have hu2 : ¬ ((9223372036854775808 : Int) ≤ (u : Int)) := by omega
              have HY : Hid (intO 4 d = some (u : Int)) := by rw [Hf.out]; unfold refI; rw [if_neg (by simp), if_pos hu]; exact rfl
              go_wp2
              go_ret2
              exact ⟨ret_int_yes HY.out, hbel⟩
            · have hu2 : (9223372036854775808 : Int) ≤ (u : Int) := by omega
              have HY : Hid (intO 4 d = none) := by rw [Hf.out]; unfold refI; rw [if_neg (by simp), if_neg hu]; exact rfl
              go_wp2
              go_ret2
              exact ⟨ret_int_no HY.out, hbel⟩
  · obtain ⟨m1, m2⟩ := toL_nil h0
    have HZ := Lib.hid (int_parts k t t false (by rw [m2]; rfl) (by rw [m2]; rfl))
    have hDig := fun w2 => refDigits_any t w2 ht
    clear m2
    go_enter Tryz.func24, Tryz.ntmps24
    go_upto_region 5 with fail
    obtain ⟨x0, x1, _, _⟩ := RB.cells (heap_alloc_new w (.cells #[.int .u8 k, .string t, kv, lv] 26))
    generalize w.alloc (.cells #[.int .u8 k, .string t, kv, lv] 26) = wA at *
    obtain ⟨d, e⟩ : ∃ d, d = t := ⟨_, rfl⟩
    subst e
    clear h0 m1
    rcases HZ.out with ⟨z1, Hf⟩ | ⟨z1, z2, Hf⟩ | ⟨z1, z2, z3, Hf⟩ | ⟨z1, z2, z3, z4, Hf⟩ | ⟨z1, z2, z3, z4, Hf, hdig⟩
    · have hk1 : (k == 4) = false := beq_eq_false_iff_ne.2 z1
      have hk2 : (k != 4) = true := by simp [bne, hk1]
      have Hf := Lib.hid Hf
      clear z1
      go_wp2_with fail
      go_ret2
      exact ⟨ret_int_no Hf.out, hbel⟩
    · subst z1
      rw [z2] at hNum
      have Hf := Lib.hid Hf
      clear z2
      go_wp2_with (go_at_call 55; refine (hNum _).mono ?_; rintro e w' ⟨rfl, rfl⟩)
      go_ret2
      exact ⟨ret_int_no Hf.out, hbel⟩
    · subst z1
      rw [z2] at hNum
      have Hf := Lib.hid Hf
      have b1 : (((spanS pDigit d : Nat) : Int) == (d.size : Nat)) = false := beq_eq_false_iff_ne.2 (by omega)
      have b2 : (((spanS pDigit d : Nat) : Int) != (d.size : Nat)) = true := by simp [bne, b1]
      clear z2 z3
      go_wp2_with (first
        | (go_at_call 55; refine (hNum _).mono ?_; rintro e w' ⟨rfl, rfl⟩)
        | (go_at_call 56; refine (hDig _).mono ?_; rintro e w' ⟨rfl, rfl⟩))
      go_ret2
      exact ⟨ret_int_no Hf.out, hbel⟩
    · subst z1
      rw [z2] at hNum
      rw [z3] at hDig
      have Hf := Lib.hid Hf
      have b3 : (19 : Int) < (d.size : Nat) := by omega
      have b2 : (((d.size : Nat) : Int) != (d.size : Nat)) = false := by simp
      clear z2 z3
      go_wp2_with (first
        | (go_at_call 55; refine (hNum _).mono ?_; rintro e w' ⟨rfl, rfl⟩)
        | (go_at_call 56; refine (hDig _).mono ?_; rintro e w' ⟨rfl, rfl⟩))
      go_ret2
      exact ⟨ret_int_no Hf.out, hbel⟩
    · subst z1
      rw [z2] at hNum
      rw [z3] at hDig
      have Hf := Lib.hid Hf
      have Hd := Lib.hid hdig
      have b3 : ¬ ((19 : Int) < (d.size : Nat)) := by omega
      have b2 : (((d.size : Nat) : Int) != (d.size : Nat)) = false := by simp
      clear z2 z3 hdig
      go_wp2_with (first
        | (go_at_call 55; refine (hNum _).mono ?_; rintro e w' ⟨rfl, rfl⟩)
        | (go_at_call 56; refine (hDig _).mono ?_; rintro e w' ⟨rfl, rfl⟩))
      clear hNum hDig
      go_loop [6, 7] (fun vu vi => ∃ i : Nat, vi = .int .i64 i ∧ vu = .int .u64 (sumD 0 (d.data.toList.take i) : Nat) ∧ i ≤ d.size) (fun _ vi => d.size - (intOf vi).toNat)
      case atStart => exact ⟨0, rfl, by rw [List.take_zero]; rfl, Nat.zero_le _⟩
      case round =>
        obtain ⟨i, rfl, rfl, hi⟩ := hrel
        by_cases hlt : i < d.size
        · have hlt2 : (i : Int) < (d.size : Int) := by omega
          obtain ⟨h48, h57⟩ := Hd.out d[i] (List.getElem_mem (l := d.data.toList) (n := i) (by rw [← Lib.size_eq]; exact hlt))
          have hsb := sum_lt (l := d.data.toList.take i) (fun c hc => Hd.out c (List.mem_of_mem_take hc)) (by rw [List.length_take, ← Lib.size_eq]; omega : (d.data.toList.take i).length ≤ 18)
          have HS := Lib.hid (sum_next hlt)
          generalize sumD 0 (d.data.toList.take i) = u at *
          have c48 : (48 : Int) ≤ ((d[i].toNat : Nat) : Int) := by omega
          have c57 : ((d[i].toNat : Nat) : Int) ≤ 57 := by omega
          have hu1 : (u : Int) ≤ 1000000000000000000 := by omega
          go_wp2
          go_round
          case rel => exact ⟨i + 1, by go_num, by rw [HS.out]; congr 1; omega, hlt⟩
          case measure => simp [intOf]; omega
        · have hge : ¬ ((i : Int) < (d.size : Int)) := by omega
          have hall : d.data.toList.take i = d.data.toList := List.take_of_length_le (by rw [← Lib.size_eq]; omega)
          rw [hall]
          have hu19 := sum_lt' (l := d.data.toList) Hd.out (by rw [← Lib.size_eq]; exact z4)
          generalize sumD 0 d.data.toList = u at *
          have hu0 : (u : Int) < 10000000000000000000 := by omega
          by_cases hu : u < 9223372036854775808
          · have hu2 : ¬ ((9223372036854775808 : Int) ≤ (u : Int)) := by omega
            have HY : Hid (intO 4 d = some (u : Int)) := by rw [Hf.out]; unfold refI; rw [if_neg (by simp), if_pos hu]; exact rfl
            go_wp2
            go_ret2
            exact ⟨ret_int_yes HY.out, hbel⟩
          · have hu2 : (9223372036854775808 : Int) ≤ (u : Int) := by omega
            have HY : Hid (intO 4 d = none) := by rw [Hf.out]; unfold refI; rw [if_neg (by simp), if_neg hu]; exact rfl
            go_wp2
            go_ret2
            exact ⟨ret_int_no HY.out, hbel⟩
end Go.Proofs.YtjffiignedbndaaGreatDoor
