/-
  CONTRACTS of codicilref02's Reader: here, goes; run. (gen_rd2.py writes it.)
-/
import Derived.Test.YtakdhfjlhkejdaaGreatDoorCJsonRd1
set_option linter.unusedSimpArgs false
set_option linter.unusedVariables false
set_option linter.unusedVariables false
set_option linter.unusedSimpArgs false
namespace Go.Proofs.YtakdhfjlhkejdaaGreatDoor
open Go.RowKit
set_option maxRecDepth 10000000 in
set_option maxHeartbeats 8000000 in
theorem rHere_some (rb : Nat) (s : ByteArray) (a v K : Nat) (x : Int) (w : World) (h : RS w rb s a v 0 0) (hs : s.size ≤ maxLen) (ha : a ≤ s.size) (hK : skipL s.data.toList a = K) (hlt : K < s.size) (hx : x = ((s[K].toNat : Nat) : Int)) :
    Calls Tryz.prog 66 #[.pointer (some ⟨rb, 0, none⟩)] w fun e w' => e = .returned (.int .u8 x) ∧ RS w' rb s K v 0 0 ∧ GB rb w w' := by
  have hb := rBlanks_any rb s a v 0 0 w h hs ha
  rw [hK] at hb
  have hx0 := run_index_at s K hlt x hx
  have hxr := s[K].toNat_lt
  have HX := Lib.hid hx
  have hlt2 : ¬ ((s.size : Int) ≤ (K : Int)) := by omega
  have hlt3 : (K : Int) < (s.size : Int) := by omega
  clear hx hK
  go_enter Tryz.func66, Tryz.ntmps66
  go_wp2_with (go_at_call 35; refine hb.mono ?_; rintro e w1 ⟨rfl, h1, g1⟩; obtain ⟨c0, c1, c2, c3, c4⟩ := h1.cells)
  go_quiet (fail)
  go_wp2_with fail
  go_quiet (fail)
  go_wp2_with fail
  go_ret
  exact ⟨rfl, h1, (g1.drewN _).drewN _⟩
set_option maxRecDepth 10000000 in
set_option maxHeartbeats 8000000 in
theorem rHere_end (rb : Nat) (s : ByteArray) (a v : Nat) (w : World) (h : RS w rb s a v 0 0) (hs : s.size ≤ maxLen) (ha : a ≤ s.size) (hK : skipL s.data.toList a = s.size) :
    Calls Tryz.prog 66 #[.pointer (some ⟨rb, 0, none⟩)] w fun e w' => e = .returned (.int .u8 0) ∧ RS w' rb s s.size v s.size 21 ∧ GB rb w w' := by
  have hb := rBlanks_any rb s a v 0 0 w h hs ha
  rw [hK] at hb
  have cF := fun (w2 : World) (h2 : RS w2 rb s s.size v 0 0) => rFail_any rb s s.size v 0 s.size 21 w2 h2
  clear hK
  go_enter Tryz.func66, Tryz.ntmps66
  go_wp2_with (go_at_call 35; refine hb.mono ?_; rintro e w1 ⟨rfl, h1, g1⟩; obtain ⟨c0, c1, c2, c3, c4⟩ := h1.cells)
  go_quiet (fail)
  go_wp2_with (go_at_call 37; refine (cF _ (h1.drewN _)).mono ?_; rintro e w2 ⟨rfl, h2, g2⟩)
  go_ret
  exact ⟨rfl, h2, (g1.drewN _).trans g2⟩
/-- what goes comes to -/
def GoesEnd (rb : Nat) (s : ByteArray) (v : Nat) (en : Nat) (K : Nat) (e : Ending) (w' : World) : Prop :=
  match byL s.data.toList K with
  | none => e = .returned (.bool false) ∧ RS w' rb s K v K 21
  | some c => if c.toNat = 44 then e = .returned (.bool true) ∧ RS w' rb s (K + 1) v 0 0 else if c.toNat = en then e = .returned (.bool false) ∧ RS w' rb s (K + 1) v 0 0 else e = .returned (.bool false) ∧ RS w' rb s K v K 20
theorem goes_none {rb : Nat} {s : ByteArray} {v en : Nat} {e : Ending} {w' : World} (h1 : e = .returned (.bool false)) (h2 : RS w' rb s s.size v s.size 21) : GoesEnd rb s v en s.size e w' := by
  unfold GoesEnd
  rw [byL_end (by rw [Lib.size_eq]; exact Nat.le_refl _)]
  exact ⟨h1, h2⟩
set_option maxRecDepth 10000000 in
set_option maxHeartbeats 8000000 in
theorem rGoes_any (rb : Nat) (s : ByteArray) (a v en : Nat) (w : World) (h : RS w rb s a v 0 0) (hs : s.size ≤ maxLen) (ha : a ≤ s.size) (hen : en = 93 ∨ en = 125) :
    Calls Tryz.prog 101 #[.pointer (some ⟨rb, 0, none⟩), .int .u8 (en : Nat)] w fun e w' => GoesEnd rb s v en (skipL s.data.toList a) e w' ∧ GB rb w w' := by
  obtain ⟨K, hK⟩ : ∃ K, skipL s.data.toList a = K := ⟨_, rfl⟩
  have hKb := skip_bd s a ha
  rw [hK] at hKb ⊢
  have hs2 := hs
  unfold maxLen at hs2
  by_cases hlt : K < s.size
  · obtain ⟨x, hx⟩ : ∃ x : Int, x = ((s[K].toNat : Nat) : Int) := ⟨_, rfl⟩
    have cH := rHere_some rb s a v K x w h hs ha hK hlt hx
    have cO := fun (w2 : World) (h2 : RS w2 rb s K v 0 0) => rOk_any rb s K v 0 0 w2 h2
    have cF := fun (w2 : World) (h2 : RS w2 rb s K v 0 0) => rFail_any rb s K v 0 K 20 w2 h2
    have hby : byL s.data.toList K = some s[K] := byL_at s K hlt
    have hxr := s[K].toNat_lt
    have HE := Lib.hid (fun (e : Ending) (w' : World) (hh : if x = 44 then e = .returned (.bool true) ∧ RS w' rb s (K + 1) v 0 0 else if x = (en : Int) then e = .returned (.bool false) ∧ RS w' rb s (K + 1) v 0 0 else e = .returned (.bool false) ∧ RS w' rb s K v K 20) => show GoesEnd rb s v en K e w' by
      unfold GoesEnd
      rw [hby]
      simp only
      by_cases h1 : x = 44
      · rw [if_pos h1] at hh; rw [if_pos (by omega)]; exact hh
      · rw [if_neg h1] at hh; rw [if_neg (by omega)]
        by_cases h2 : x = (en : Int)
        · rw [if_pos h2] at hh; rw [if_pos (by omega)]; exact hh
        · rw [if_neg h2] at hh; rw [if_neg (by omega)]; exact hh)
    have hxr2 : 0 ≤ x ∧ x < 256 := by omega
    clear hx hby hK
    by_cases h1 : x = 44
    · subst h1
      simp only [if_pos] at HE
      go_enter Tryz.func101, Tryz.ntmps101
      go_wp2_with (first
        | (go_at_call 66; refine cH.mono ?_; rintro e w1 ⟨rfl, h1, g1⟩; obtain ⟨c0, c1, c2, c3, c4⟩ := h1.cells; have f1 := h1.frozen 1)
        | (go_at_call 36; refine (cO _ h1).mono ?_; rintro e w2 ⟨rfl, rfl⟩))
      go_ret
      exact ⟨HE.out _ _ ⟨rfl, h1.s1 (K + 1)⟩, g1.set 1 _⟩
    · have b1 : (x == 44) = false := beq_false_of_ne h1
      have b2 : (x != 44) = true := by simp [bne, b1]
      simp only [if_neg h1] at HE
      by_cases h2 : x = (en : Int)
      · subst h2
        simp only [if_pos] at HE
        have b3 : (((en : Nat) : Int) != ((en : Nat) : Int)) = false := by simp
        clear h1
        go_enter Tryz.func101, Tryz.ntmps101
        go_wp2_with (first
          | (go_at_call 66; refine cH.mono ?_; rintro e w1 ⟨rfl, h1, g1⟩; obtain ⟨c0, c1, c2, c3, c4⟩ := h1.cells; have f1 := h1.frozen 1)
          | (go_at_call 36; refine (cO _ h1).mono ?_; rintro e w2 ⟨rfl, rfl⟩))
        go_ret
        exact ⟨HE.out _ _ ⟨rfl, h1.s1 (K + 1)⟩, g1.set 1 _⟩
      · have b3 : (x == (en : Int)) = false := beq_false_of_ne h2
        have b4 : (x != (en : Int)) = true := by simp [bne, b3]
        simp only [if_neg h2] at HE
        clear h1 h2
        go_enter Tryz.func101, Tryz.ntmps101
        go_wp2_with (first
          | (go_at_call 66; refine cH.mono ?_; rintro e w1 ⟨rfl, h1, g1⟩; obtain ⟨c0, c1, c2, c3, c4⟩ := h1.cells; have f1 := h1.frozen 1)
          | (go_at_call 36; refine (cO _ h1).mono ?_; rintro e w2 ⟨rfl, rfl⟩)
          | (go_at_call 37; refine (cF _ h1).mono ?_; rintro e w3 ⟨rfl, h3, g3⟩))
        go_ret
        exact ⟨HE.out _ _ ⟨rfl, h3⟩, g1.trans g3⟩
  · have hKe : K = s.size := by omega
    subst hKe
    have cH := rHere_end rb s a v w h hs ha hK
    have cO := fun (w2 : World) (h2 : RS w2 rb s s.size v s.size 21) => rOk_any rb s s.size v s.size 21 w2 h2
    clear hK
    go_enter Tryz.func101, Tryz.ntmps101
    go_wp2_with (first
      | (go_at_call 66; refine cH.mono ?_; rintro e w1 ⟨rfl, h1, g1⟩)
      | (go_at_call 36; refine (cO _ h1).mono ?_; rintro e w2 ⟨rfl, rfl⟩))
    go_ret
    exact ⟨goes_none rfl h1, g1⟩
set_option maxRecDepth 10000000 in
set_option maxHeartbeats 8000000 in
theorem run_num (s : ByteArray) (w : World) (hs : s.size ≤ maxLen) :
    Calls Tryz.prog 68 #[.string s, .bool true] w fun e w' => e = .returned (.int .i64 (spanL pNum s.data.toList : Nat)) ∧ w' = w := by
  have hs2 := hs
  unfold maxLen at hs2
  obtain ⟨N, hN⟩ : ∃ N, N = spanL pNum s.data.toList := ⟨_, rfl⟩
  rw [← hN]
  go_enter Tryz.func68, Tryz.ntmps68
  go_wp2_with fail
  go_loop [5] (fun vn => ∃ j : Nat, vn = .int .i64 (j : Nat) ∧ j ≤ s.size ∧ j + spanL pNum (s.data.toList.drop j) = N) (fun vn => s.size - (intOf vn).toNat)
  case atStart => exact ⟨0, rfl, Nat.zero_le _, by rw [List.drop_zero, hN]; omega⟩
  case round =>
    obtain ⟨j, rfl, hj, hsp⟩ := hrel
    clear hN
    by_cases hlt : j < s.size
    · have hlt2 : (j : Int) < (s.size : Int) := by omega
      obtain ⟨x, hx⟩ : ∃ x : Int, x = ((s[j].toNat : Nat) : Int) := ⟨_, rfl⟩
      have hx0 := run_index_at s j hlt x hx
      have hxr := s[j].toNat_lt
      have hyes : pNum x = true → j + 1 + spanL pNum (s.data.toList.drop (j + 1)) = N := fun h => by rw [hx] at h; rw [spanR_at hlt, if_pos h] at hsp; omega
      have hno : pNum x = false → j = N := fun h => by rw [hx] at h; rw [spanR_at hlt, h] at hsp; simpa using hsp
      have HY := Lib.hid hyes
      have HN := Lib.hid hno
      have hr0 : 0 ≤ x := by omega
      have hr1 : x < 256 := by omega
      clear hyes hno hx hsp hxr
      by_cases q0 : x ≤ 42
      · have l97 : ¬ ((97 : Int) ≤ x) := by omega
        have l48 : ¬ ((48 : Int) ≤ x) := by omega
        have u122 : x ≤ (122 : Int) := by omega
        have u57 : x ≤ (57 : Int) := by omega
        have e43 : (x == 43) = false := beq_false_of_ne (by omega)
        have e45 : (x == 45) = false := beq_false_of_ne (by omega)
        have e46 : (x == 46) = false := beq_false_of_ne (by omega)
        have e69 : (x == 69) = false := beq_false_of_ne (by omega)
        have e101 : (x == 101) = false := beq_false_of_ne (by omega)
        have hv : Hid (j = N) := Lib.hid (HN.out (by unfold pNum pDigit; rw [e43, e45, e46, e101, e69]; simp; omega))
        clear q0
        go_wp2_with fail
        go_ret
        exact ⟨ret_int (by rw [← hv.out]), rfl⟩
      by_cases q1 : x ≤ 43
      · have hxe : x = 43 := by omega
        subst hxe
        clear q0 q1
        have hv : Hid (j + 1 + spanL pNum (s.data.toList.drop (j + 1)) = N) := Lib.hid (HY.out (by decide))
        go_wp2_with fail
        go_round
        case rel => exact ⟨j + 1, by go_num, hlt, hv.out⟩
        case measure => simp [intOf]; omega
      by_cases q2 : x ≤ 44
      · have hxe : x = 44 := by omega
        subst hxe
        clear q0 q1 q2
        have hv : Hid (j = N) := Lib.hid (HN.out (by decide))
        go_wp2_with fail
        go_ret
        exact ⟨ret_int (by rw [← hv.out]), rfl⟩
      by_cases q3 : x ≤ 45
      · have hxe : x = 45 := by omega
        subst hxe
        clear q0 q1 q2 q3
        have hv : Hid (j + 1 + spanL pNum (s.data.toList.drop (j + 1)) = N) := Lib.hid (HY.out (by decide))
        go_wp2_with fail
        go_round
        case rel => exact ⟨j + 1, by go_num, hlt, hv.out⟩
        case measure => simp [intOf]; omega
      by_cases q4 : x ≤ 46
      · have hxe : x = 46 := by omega
        subst hxe
        clear q0 q1 q2 q3 q4
        have hv : Hid (j + 1 + spanL pNum (s.data.toList.drop (j + 1)) = N) := Lib.hid (HY.out (by decide))
        go_wp2_with fail
        go_round
        case rel => exact ⟨j + 1, by go_num, hlt, hv.out⟩
        case measure => simp [intOf]; omega
      by_cases q5 : x ≤ 47
      · have hxe : x = 47 := by omega
        subst hxe
        clear q0 q1 q2 q3 q4 q5
        have hv : Hid (j = N) := Lib.hid (HN.out (by decide))
        go_wp2_with fail
        go_ret
        exact ⟨ret_int (by rw [← hv.out]), rfl⟩
      by_cases q6 : x ≤ 57
      · have l97 : ¬ ((97 : Int) ≤ x) := by omega
        have l48 : (48 : Int) ≤ x := by omega
        have u122 : x ≤ (122 : Int) := by omega
        have u57 : x ≤ (57 : Int) := by omega
        have e43 : (x == 43) = false := beq_false_of_ne (by omega)
        have e45 : (x == 45) = false := beq_false_of_ne (by omega)
        have e46 : (x == 46) = false := beq_false_of_ne (by omega)
        have e69 : (x == 69) = false := beq_false_of_ne (by omega)
        have e101 : (x == 101) = false := beq_false_of_ne (by omega)
        have hv : Hid (j + 1 + spanL pNum (s.data.toList.drop (j + 1)) = N) := Lib.hid (HY.out (by unfold pNum pDigit; rw [e43, e45, e46, e101, e69]; simp; omega))
        clear q0 q1 q2 q3 q4 q5 q6
        go_wp2_with fail
        go_round
        case rel => exact ⟨j + 1, by go_num, hlt, hv.out⟩
        case measure => simp [intOf]; omega
      by_cases q7 : x ≤ 68
      · have l97 : ¬ ((97 : Int) ≤ x) := by omega
        have l48 : (48 : Int) ≤ x := by omega
        have u122 : x ≤ (122 : Int) := by omega
        have u57 : ¬ (x ≤ (57 : Int)) := by omega
        have e43 : (x == 43) = false := beq_false_of_ne (by omega)
        have e45 : (x == 45) = false := beq_false_of_ne (by omega)
        have e46 : (x == 46) = false := beq_false_of_ne (by omega)
        have e69 : (x == 69) = false := beq_false_of_ne (by omega)
        have e101 : (x == 101) = false := beq_false_of_ne (by omega)
        have hv : Hid (j = N) := Lib.hid (HN.out (by unfold pNum pDigit; rw [e43, e45, e46, e101, e69]; simp; omega))
        clear q0 q1 q2 q3 q4 q5 q6 q7
        go_wp2_with fail
        go_ret
        exact ⟨ret_int (by rw [← hv.out]), rfl⟩
      by_cases q8 : x ≤ 69
      · have hxe : x = 69 := by omega
        subst hxe
        clear q0 q1 q2 q3 q4 q5 q6 q7 q8
        have hv : Hid (j + 1 + spanL pNum (s.data.toList.drop (j + 1)) = N) := Lib.hid (HY.out (by decide))
        go_wp2_with fail
        go_round
        case rel => exact ⟨j + 1, by go_num, hlt, hv.out⟩
        case measure => simp [intOf]; omega
      by_cases q9 : x ≤ 96
      · have l97 : ¬ ((97 : Int) ≤ x) := by omega
        have l48 : (48 : Int) ≤ x := by omega
        have u122 : x ≤ (122 : Int) := by omega
        have u57 : ¬ (x ≤ (57 : Int)) := by omega
        have e43 : (x == 43) = false := beq_false_of_ne (by omega)
        have e45 : (x == 45) = false := beq_false_of_ne (by omega)
        have e46 : (x == 46) = false := beq_false_of_ne (by omega)
        have e69 : (x == 69) = false := beq_false_of_ne (by omega)
        have e101 : (x == 101) = false := beq_false_of_ne (by omega)
        have hv : Hid (j = N) := Lib.hid (HN.out (by unfold pNum pDigit; rw [e43, e45, e46, e101, e69]; simp; omega))
        clear q0 q1 q2 q3 q4 q5 q6 q7 q8 q9
        go_wp2_with fail
        go_ret
        exact ⟨ret_int (by rw [← hv.out]), rfl⟩
      by_cases q10 : x ≤ 100
      · have l97 : (97 : Int) ≤ x := by omega
        have l48 : (48 : Int) ≤ x := by omega
        have u122 : x ≤ (122 : Int) := by omega
        have u57 : ¬ (x ≤ (57 : Int)) := by omega
        have e43 : (x == 43) = false := beq_false_of_ne (by omega)
        have e45 : (x == 45) = false := beq_false_of_ne (by omega)
        have e46 : (x == 46) = false := beq_false_of_ne (by omega)
        have e69 : (x == 69) = false := beq_false_of_ne (by omega)
        have e101 : (x == 101) = false := beq_false_of_ne (by omega)
        have hv : Hid (j = N) := Lib.hid (HN.out (by unfold pNum pDigit; rw [e43, e45, e46, e101, e69]; simp; omega))
        clear q0 q1 q2 q3 q4 q5 q6 q7 q8 q9 q10
        go_wp2_with fail
        go_ret
        exact ⟨ret_int (by rw [← hv.out]), rfl⟩
      by_cases q11 : x ≤ 101
      · have hxe : x = 101 := by omega
        subst hxe
        clear q0 q1 q2 q3 q4 q5 q6 q7 q8 q9 q10 q11
        have hv : Hid (j + 1 + spanL pNum (s.data.toList.drop (j + 1)) = N) := Lib.hid (HY.out (by decide))
        go_wp2_with fail
        go_round
        case rel => exact ⟨j + 1, by go_num, hlt, hv.out⟩
        case measure => simp [intOf]; omega
      by_cases q12 : x ≤ 122
      · have l97 : (97 : Int) ≤ x := by omega
        have l48 : (48 : Int) ≤ x := by omega
        have u122 : x ≤ (122 : Int) := by omega
        have u57 : ¬ (x ≤ (57 : Int)) := by omega
        have e43 : (x == 43) = false := beq_false_of_ne (by omega)
        have e45 : (x == 45) = false := beq_false_of_ne (by omega)
        have e46 : (x == 46) = false := beq_false_of_ne (by omega)
        have e69 : (x == 69) = false := beq_false_of_ne (by omega)
        have e101 : (x == 101) = false := beq_false_of_ne (by omega)
        have hv : Hid (j = N) := Lib.hid (HN.out (by unfold pNum pDigit; rw [e43, e45, e46, e101, e69]; simp; omega))
        clear q0 q1 q2 q3 q4 q5 q6 q7 q8 q9 q10 q11 q12
        go_wp2_with fail
        go_ret
        exact ⟨ret_int (by rw [← hv.out]), rfl⟩
      have l97 : (97 : Int) ≤ x := by omega
      have l48 : (48 : Int) ≤ x := by omega
      have u122 : ¬ (x ≤ (122 : Int)) := by omega
      have u57 : ¬ (x ≤ (57 : Int)) := by omega
      have e43 : (x == 43) = false := beq_false_of_ne (by omega)
      have e45 : (x == 45) = false := beq_false_of_ne (by omega)
      have e46 : (x == 46) = false := beq_false_of_ne (by omega)
      have e69 : (x == 69) = false := beq_false_of_ne (by omega)
      have e101 : (x == 101) = false := beq_false_of_ne (by omega)
      have hv : Hid (j = N) := Lib.hid (HN.out (by unfold pNum pDigit; rw [e43, e45, e46, e101, e69]; simp; omega))
      clear q0 q1 q2 q3 q4 q5 q6 q7 q8 q9 q10 q11 q12
      go_wp2_with fail
      go_ret
      exact ⟨ret_int (by rw [← hv.out]), rfl⟩
    · have hge : ¬ ((j : Int) < (s.size : Int)) := by omega
      have hv : Hid (j = N) := Lib.hid (by rw [List.drop_eq_nil_of_le (by rw [← Lib.size_eq]; omega)] at hsp; simpa [spanL] using hsp)
      clear hsp
      go_wp2_with fail
      go_ret
      exact ⟨ret_int (by rw [← hv.out]), rfl⟩
set_option maxRecDepth 10000000 in
set_option maxHeartbeats 8000000 in
theorem run_let (s : ByteArray) (w : World) (hs : s.size ≤ maxLen) :
    Calls Tryz.prog 68 #[.string s, .bool false] w fun e w' => e = .returned (.int .i64 (spanL pLetter s.data.toList : Nat)) ∧ w' = w := by
  have hs2 := hs
  unfold maxLen at hs2
  obtain ⟨N, hN⟩ : ∃ N, N = spanL pLetter s.data.toList := ⟨_, rfl⟩
  rw [← hN]
  go_enter Tryz.func68, Tryz.ntmps68
  go_wp2_with fail
  go_loop [5] (fun vn => ∃ j : Nat, vn = .int .i64 (j : Nat) ∧ j ≤ s.size ∧ j + spanL pLetter (s.data.toList.drop j) = N) (fun vn => s.size - (intOf vn).toNat)
  case atStart => exact ⟨0, rfl, Nat.zero_le _, by rw [List.drop_zero, hN]; omega⟩
  case round =>
    obtain ⟨j, rfl, hj, hsp⟩ := hrel
    clear hN
    by_cases hlt : j < s.size
    · have hlt2 : (j : Int) < (s.size : Int) := by omega
      obtain ⟨x, hx⟩ : ∃ x : Int, x = ((s[j].toNat : Nat) : Int) := ⟨_, rfl⟩
      have hx0 := run_index_at s j hlt x hx
      have hxr := s[j].toNat_lt
      have hyes : pLetter x = true → j + 1 + spanL pLetter (s.data.toList.drop (j + 1)) = N := fun h => by rw [hx] at h; rw [spanR_at hlt, if_pos h] at hsp; omega
      have hno : pLetter x = false → j = N := fun h => by rw [hx] at h; rw [spanR_at hlt, h] at hsp; simpa using hsp
      have HY := Lib.hid hyes
      have HN := Lib.hid hno
      have hr0 : 0 ≤ x := by omega
      have hr1 : x < 256 := by omega
      clear hyes hno hx hsp hxr
      by_cases q0 : x ≤ 96
      · have l97 : ¬ ((97 : Int) ≤ x) := by omega
        have u122 : x ≤ (122 : Int) := by omega
        have hv : Hid (j = N) := Lib.hid (HN.out (by unfold pLetter; simp; omega))
        clear q0
        go_wp2_with fail
        go_ret
        exact ⟨ret_int (by rw [← hv.out]), rfl⟩
      by_cases q1 : x ≤ 122
      · have l97 : (97 : Int) ≤ x := by omega
        have u122 : x ≤ (122 : Int) := by omega
        have hv : Hid (j + 1 + spanL pLetter (s.data.toList.drop (j + 1)) = N) := Lib.hid (HY.out (by unfold pLetter; simp; omega))
        clear q0 q1
        go_wp2_with fail
        go_round
        case rel => exact ⟨j + 1, by go_num, hlt, hv.out⟩
        case measure => simp [intOf]; omega
      have l97 : (97 : Int) ≤ x := by omega
      have u122 : ¬ (x ≤ (122 : Int)) := by omega
      have hv : Hid (j = N) := Lib.hid (HN.out (by unfold pLetter; simp; omega))
      clear q0 q1
      go_wp2_with fail
      go_ret
      exact ⟨ret_int (by rw [← hv.out]), rfl⟩
    · have hge : ¬ ((j : Int) < (s.size : Int)) := by omega
      have hv : Hid (j = N) := Lib.hid (by rw [List.drop_eq_nil_of_le (by rw [← Lib.size_eq]; omega)] at hsp; simpa [spanL] using hsp)
      clear hsp
      go_wp2_with fail
      go_ret
      exact ⟨ret_int (by rw [← hv.out]), rfl⟩
end Go.Proofs.YtakdhfjlhkejdaaGreatDoor
