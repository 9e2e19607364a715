/-
  CONTRACTS of codicilref01's digit, Hex, Pair. (Out of XRunesWrites.)
-/
import Derived.Test.YtakdhfjlhkejdaaGreatDoorCJsonRRunes
set_option linter.unusedSimpArgs false
set_option linter.unusedVariables false
set_option linter.unusedVariables false
namespace Go.Proofs.YtakdhfjlhkejdaaGreatDoor
open Go.RowKit
theorem refPair_any (a b : Int) (w : World) :
    Calls Tryz.prog 129 #[.int .i32 a, .int .i32 b] w fun e w' => e = .returned (.tuple #[.int .i32 (pairR a b), .bool (pairB a b)]) ∧ w = w' := by
  have no : pairB a b = false → Ending.returned (.tuple #[.int .i32 0, .bool false]) = .returned (.tuple #[.int .i32 (pairR a b), .bool (pairB a b)]) := ret_pair_no
  have hp : pairB a b = decide ((55296 ≤ a ∧ a < 56320) ∧ 56320 ≤ b ∧ b ≤ 57343) := by
    unfold pairB highB lowB
    rw [Bool.eq_iff_iff, Bool.and_eq_true, decide_eq_true_iff, decide_eq_true_iff, decide_eq_true_iff]
  have Hp := Lib.hid hp
  have No := Lib.hid no
  clear hp no
  by_cases h1 : 55296 ≤ a
  · by_cases h2 : a ≤ 56319
    · by_cases h3 : 56320 ≤ b
      · by_cases h4 : b ≤ 57343
        · go_enter Tryz.func129, Tryz.ntmps129
          go_wp2
          go_ret2
          have hy : pairB a b = true := by rw [Hp.out]; exact decide_eq_true (by omega)
          have hr : pairR a b = 65536 + 1024 * (a - 55296) + b - 56320 := by unfold pairR; rw [if_pos hy]; omega
          refine ⟨?_, rfl⟩
          rw [hy, hr]
          rfl
        · go_enter Tryz.func129, Tryz.ntmps129
          go_wp2
          go_ret2
          exact ⟨No.out (by rw [Hp.out]; exact decide_eq_false (by omega)), rfl⟩
      · go_enter Tryz.func129, Tryz.ntmps129
        go_wp2
        go_ret2
        exact ⟨No.out (by rw [Hp.out]; exact decide_eq_false (by omega)), rfl⟩
    · go_enter Tryz.func129, Tryz.ntmps129
      go_wp2
      go_ret2
      exact ⟨No.out (by rw [Hp.out]; exact decide_eq_false (by omega)), rfl⟩
  · go_enter Tryz.func129, Tryz.ntmps129
    go_wp2
    go_ret2
    exact ⟨No.out (by rw [Hp.out]; exact decide_eq_false (by omega)), rfl⟩

def digI (c : Int) : Int := (digV c).getD (-1)
theorem ret_digI {c d : Int} (h : digV c = some d) : Ending.returned (.int .i32 d) = .returned (.int .i32 (digI c)) := by
  unfold digI
  rw [h]
  rfl
theorem ret_digI_no {c : Int} (h : digV c = none) : Ending.returned (.int .i32 (-1)) = .returned (.int .i32 (digI c)) := by
  unfold digI
  rw [h]
  rfl
theorem refDigit_any (c : Int) (w : World) (b0 : 0 ≤ c) (b1 : c < 256) :
    Calls Tryz.prog 140 #[.int .u8 c] w fun e w' => e = .returned (.int .i32 (digI c)) ∧ w = w' := by
  by_cases h1 : 48 ≤ c
  · by_cases h2 : c ≤ 57
    · go_enter Tryz.func140, Tryz.ntmps140
      go_wp2
      go_ret
      exact ⟨ret_digI (by unfold digV; rw [if_pos ⟨h1, h2⟩]), rfl⟩
    · by_cases h3 : 97 ≤ c
      · by_cases h4 : c ≤ 102
        · go_enter Tryz.func140, Tryz.ntmps140
          go_wp2
          go_ret
          exact ⟨ret_digI (by unfold digV; rw [if_neg (by omega), if_pos ⟨h3, h4⟩]), rfl⟩
        · have h6 : ¬ c ≤ 70 := by omega
          have h5 : 65 ≤ c := by omega
          go_enter Tryz.func140, Tryz.ntmps140
          go_wp2
          go_ret
          exact ⟨ret_digI_no (by unfold digV; rw [if_neg (by omega), if_neg (by omega), if_neg (by omega)]), rfl⟩
      · by_cases h5 : 65 ≤ c
        · by_cases h6 : c ≤ 70
          · go_enter Tryz.func140, Tryz.ntmps140
            go_wp2
            go_ret
            exact ⟨ret_digI (by unfold digV; rw [if_neg (by omega), if_neg (by omega), if_pos ⟨h5, h6⟩]), rfl⟩
          · go_enter Tryz.func140, Tryz.ntmps140
            go_wp2
            go_ret
            exact ⟨ret_digI_no (by unfold digV; rw [if_neg (by omega), if_neg (by omega), if_neg (by omega)]), rfl⟩
        · go_enter Tryz.func140, Tryz.ntmps140
          go_wp2
          go_ret
          exact ⟨ret_digI_no (by unfold digV; rw [if_neg (by omega), if_neg (by omega), if_neg (by omega)]), rfl⟩
  · have h3 : ¬ 97 ≤ c := by omega
    have h5 : ¬ 65 ≤ c := by omega
    go_enter Tryz.func140, Tryz.ntmps140
    go_wp2
    go_ret
    exact ⟨ret_digI_no (by unfold digV; rw [if_neg (by omega), if_neg (by omega), if_neg (by omega)]), rfl⟩

theorem hexO_eq {s : ByteArray} (h : 4 ≤ s.size) : hexO s = hexF 0 (s.data.toList.take 4) := by
  unfold hexO
  rw [if_neg (by omega)]
theorem hex_at {s : ByteArray} {i : Nat} (h4 : 4 ≤ s.size) (hi : i < 4) (acc : Int) : ∃ hs : i < s.size, (∀ d, digV ((s[i]'hs).toNat : Nat) = some d → hexF acc ((s.data.toList.take 4).drop i) = hexF (acc * 16 + d) ((s.data.toList.take 4).drop (i + 1))) ∧
    (digV ((s[i]'hs).toNat : Nat) = none → hexF acc ((s.data.toList.take 4).drop i) = none) := by
  have hs : i < s.size := by omega
  have hc : (s.data.toList.take 4).drop i = s[i] :: (s.data.toList.take 4).drop (i + 1) := by
    rw [List.drop_eq_getElem_cons (by rw [List.length_take, ← Lib.size_eq]; omega)]
    rw [List.getElem_take]
    rfl
  refine ⟨hs, ?_, ?_⟩
  · intro d hd
    rw [hc]
    simp only [hexF, hd]
  · intro hd
    rw [hc]
    simp only [hexF, hd]

set_option maxHeartbeats 1000000 in
theorem refHex_any (s : ByteArray) (w : World) (hs : s.size ≤ maxLen) :
    Calls Tryz.prog 128 #[.string s] w fun e w' => e = .returned (.tuple #[.int .i32 (hexR s), .bool (hexB s)]) ∧ w = w' := by
  unfold maxLen at hs
  by_cases h4 : (s.size : Int) < 4
  · go_enter Tryz.func128, Tryz.ntmps128
    go_wp2
    go_ret2
    exact ⟨ret_hex_no (hex_short (by omega)), rfl⟩
  · have h4' : 4 ≤ s.size := by omega
    have Hx := Lib.hid (hexO_eq h4')
    go_enter Tryz.func128, Tryz.ntmps128
    go_wp2
    go_loop [4, 5] (fun r i => ∃ (k : Nat) (acc : Int), i = .int .i64 k ∧ r = .int .i32 acc ∧ k ≤ 4 ∧ 0 ≤ acc ∧ acc < hexTop k ∧ hexF acc ((s.data.toList.take 4).drop k) = hexO s) (fun _ i => 4 - (intOf i).toNat)
    case atStart => exact ⟨0, 0, rfl, rfl, by omega, by omega, by simp [hexTop], by rw [Hx.out]; rfl⟩
    case round =>
      obtain ⟨k, acc, rfl, rfl, k4, ha0, ha, hf⟩ := hrel
      by_cases hk : k < 4
      · obtain ⟨hks, hst1, hst2⟩ := hex_at h4' hk acc
        have bk := by_get hks
        rw [bk] at hst1 hst2
        have Bk := byI_bd s k
        cases hd : digV (byI s k) with
        | none =>
          have hI : digI (byI s k) = -1 := by unfold digI; rw [hd]; rfl
          rw [hst2 hd] at hf
          have Hf := Lib.hid hf
          clear hf hd hst1 hst2
          go_wp2_with (go_at_call 140; refine (refDigit_any _ _ Bk.1 Bk.2).mono ?_; rintro e w' ⟨rfl, rfl⟩)
          go_ret2
          exact ⟨ret_hex_no Hf.out.symm, rfl⟩
        | some d =>
          have hI : digI (byI s k) = d := by unfold digI; rw [hd]; rfl
          have hd0 := (digV_range hd).1
          have hd1 := (digV_range hd).2.1
          obtain ⟨ht1, ht2⟩ := hexTop_on hk ha0 ha hd0 hd1
          rw [hst1 d hd] at hf
          have Hf := Lib.hid hf
          clear hf hd hst1 hst2 ha
          go_wp2_with (go_at_call 140; refine (refDigit_any _ _ Bk.1 Bk.2).mono ?_; rintro e w' ⟨rfl, rfl⟩)
          go_round
          case rel => exact ⟨k + 1, acc * 16 + d, by go_num, by rw [Int.mul_comm], by omega, by omega, ht2, Hf.out⟩
          case measure => simp [intOf]; omega
      · obtain rfl : k = 4 := by omega
        have Hf := Lib.hid hf
        clear hf
        go_wp2
        go_ret2
        refine ⟨ret_hex ?_, rfl⟩
        rw [← Hf.out, List.drop_eq_nil_of_le (by rw [List.length_take]; omega)]
        rfl

end Go.Proofs.YtakdhfjlhkejdaaGreatDoor
