/-
  CONTRACTS of the document's own Frame and Read (codicilref07). No conditions but the texts' sizes.
-/
import Derived.Test.YthimjdknafgfbaaSegFrame
set_option linter.unusedVariables false
namespace Go.Proofs.Ythimjdknafgfbaa
open Go.RowKit

theorem refFrame_parts (t : ByteArray) : bOf (headL t.size) ++ bOf (low4 (moreB 0#32 (bOf (headL t.size)).data.toList)) ++ t ++ bOf (low4 (moreB 0#32 t.data.toList)) = bOf (frameL t.data.toList) := by
  rw [frame_parts]
  rw [ByteArray.append_assoc]
theorem refFrame_any (t : ByteArray) (w : World) (ht : t.size ≤ 16384) :
    Calls Try.prog 9 #[.string t] w fun e w' => e = .returned (.string (bOf (frameL t.data.toList))) ∧ Below w.heap.size w w' := by
  have HF := Lib.hid (refFrame_parts t)
  have ht2 : (t.size : Int) ≤ 16384 := by omega
  have e1 := ofNat_vI (n := t.size) (by omega)
  have cH := fun w => four_any (BitVec.ofNat 32 t.size) w
  rw [e1] at cH
  have ehead : (low4 (BitVec.ofNat 32 t.size)).reverse = headL t.size := rfl
  rw [ehead] at cH
  have hs8 : (bOf (headL t.size)).size = 4 := by rw [bOf_size, headL_len]
  have c1 := fun w => refSum_any (bOf (headL t.size)) w (by unfold maxLen; omega)
  have c2 := fun w => refSum_any t w (by unfold maxLen; omega)
  have hz1 : (bOf (low4 (moreB 0#32 (bOf (headL t.size)).data.toList))).size = 4 := by rw [bOf_size, low4_len]
  have hz2 : (bOf (low4 (moreB 0#32 t.data.toList))).size = 4 := by rw [bOf_size, low4_len]
  generalize bOf (headL t.size) = l at *
  generalize bOf (low4 (moreB 0#32 l.data.toList)) = x1 at *
  generalize bOf (low4 (moreB 0#32 t.data.toList)) = x2 at *
  have h1 : ¬ 9223372036854775807 < l.size + x1.size := by omega
  have h2 : ¬ 9223372036854775807 < (l ++ x1).size + t.size := by rw [ByteArray.size_append]; omega
  have h3 : ¬ 9223372036854775807 < (l ++ x1 ++ t).size + x2.size := by rw [ByteArray.size_append, ByteArray.size_append]; omega
  have acc : Below w.heap.size w w := Below.refl _ _
  clear e1 ehead hs8 hz1 hz2
  go_enter Try.func9, Try.ntmps9
  go_wp2_with (first
    | (go_at_call 19; refine (cH _).mono ?_; rintro e w1 ⟨rfl, hb⟩; have acc := acc.trans (hb.mono acc.size); clear hb)
    | (go_at_call_of 20 (Value.string l); refine (c1 _).mono ?_; rintro e w1 ⟨rfl, hb⟩; have acc := acc.trans (hb.mono acc.size); clear hb)
    | (go_at_call_of 20 (Value.string t); refine (c2 _).mono ?_; rintro e w1 ⟨rfl, hb⟩; have acc := acc.trans (hb.mono acc.size); clear hb))
  go_ret
  exact ⟨ret_str HF.out, acc⟩
theorem ref_sum_eq (t m : ByteArray) (hm : m.size = 4) : decide (bOf (low4 (moreB 0#32 t.data.toList)) = m) = holdsL (t.data.toList ++ m.data.toList) := by
  rw [holds_iff (by rw [← Lib.size_eq]; exact hm)]
  apply decide_eq_decide.2
  constructor
  · intro h
    rw [← h, bOf_list]
  · intro h
    rw [← bOf_of m, h]
theorem take_parts (l : List UInt8) (a b : Nat) : l.take a ++ (l.drop a).take b = l.take (a + b) := by rw [← List.take_add]
theorem head_raw (s : ByteArray) (h8 : 8 ≤ s.size) : ((bOf (low4 (moreB 0#32 (s.extract 0 4).data.toList))).toList == (s.extract 4 8).toList) = holdsL (s.data.toList.take 8) := by
  rw [raw_eq, ref_sum_eq _ _ (ext_size s 4 8 h8), ext_list, ext_list, List.drop_zero]
  rw [take_parts s.data.toList 4 4]
theorem body_raw (s : ByteArray) (n k m : Nat) (hk : k = n + 8) (hm : m = n + 12) (h : m ≤ s.size) : ((bOf (low4 (moreB 0#32 (s.extract 8 k).data.toList))).toList == (s.extract k m).toList) = holdsL ((s.data.toList.drop 8).take (n + 4)) := by
  rw [raw_eq, ref_sum_eq _ _ (by rw [ext_size s k m h]; omega), ext_list, ext_list]
  rw [show m - k = 4 by omega, show k - 8 = n by omega, show k = 8 + n by omega, ← List.drop_drop, take_parts]
set_option maxHeartbeats 4000000 in
set_option maxRecDepth 10000000 in
theorem refRead_any (s : ByteArray) (w : World) (hs : s.size ≤ 100000000) :
    Calls Try.prog 11 #[.string s] w fun e w' => e = readV s.data.toList ∧ Below w.heap.size w w' := by
  have hl : s.data.toList.length = s.size := (Lib.size_eq s).symm
  have acc : Below w.heap.size w w := Below.refl _ _
  by_cases h8 : s.size < 8
  · have hr : readL s.data.toList = ([], 0, 70) := by unfold readL; rw [hl, if_pos h8]
    rw [readV_of hr, bOf_nil]
    have h8i : (s.size : Int) < 8 := by omega
    clear hr hl
    go_enter Try.func11, Try.ntmps11
    go_wp2
    go_ret3
    exact ⟨rfl, acc⟩
  have h8i : (8 : Int) ≤ (s.size : Int) := by omega
  have h8n : 8 ≤ s.size := by omega
  have s4 : (s.extract 0 4).size = 4 := ext_size s 0 4 (by omega)
  have cH := fun w => refSum_any (s.extract 0 4) w (by unfold maxLen; omega)
  have hq := head_raw s h8n
  generalize bOf (low4 (moreB 0#32 (s.extract 0 4).data.toList)) = x1 at cH hq
  cases hh : holdsL (s.data.toList.take 8)
  · have hr : readL s.data.toList = ([], 0, 71) := by unfold readL; rw [hl, if_neg h8, if_pos hh]
    rw [readV_of hr, bOf_nil]
    rw [hh] at hq
    clear hr hl hh s4
    go_enter Try.func11, Try.ntmps11
    go_upto_region 3 with (fail)
    go_region_with (go_at_call 20; refine (cH _).mono ?_; rintro e w1 ⟨rfl, hb⟩; have acc := acc.drew.trans (hb.mono acc.drew.size); clear hb)
    all_goals go_wp2
    all_goals go_ret3
    all_goals exact ⟨rfl, acc⟩
  rw [hh] at hq
  obtain ⟨n, hn⟩ : ∃ n, n = numN (s.data.toList.take 4) := ⟨_, rfl⟩
  have hn32 : n < 4294967296 := by
    have := numN_lt (s.data.toList.take 4) 0
    rw [show (s.data.toList.take 4).length = 4 by rw [List.length_take]; omega] at this
    rw [hn]
    unfold numN
    omega
  have HL := Lib.hid hl
  have HN4 := Lib.hid hn
  have HH := Lib.hid hh
  clear hl hn hh
  go_enter Try.func11, Try.ntmps11
  go_upto_region 3 with (fail)
  go_region_with (go_at_call 20; refine (cH _).mono ?_; rintro e w1 ⟨rfl, hb⟩; have acc := acc.drew.trans (hb.mono acc.drew.size); clear hb)
  clear hq cH s4
  go_wp2
  go_loop [5, 6] (fun vn v => ∃ i : Nat, v = .int .i64 i ∧ i ≤ 4 ∧ vn = .int .i64 (numN (s.data.toList.take i) : Nat)) (fun _ v => 4 - (intOf v).toNat)
  case atStart => exact ⟨0, rfl, by omega, rfl⟩
  case round =>
    obtain ⟨i, rfl, hi, rfl⟩ := hrel
    by_cases hlt : i < 4
    · have hd : decide ((i : Int) < 4) = true := by simp; omega
      have hk2 : i < s.size := by omega
      have hsm := numN_small s.data.toList i (by omega)
      have hb := (s[i]).toNat_lt
      have HN := Lib.hid (numN_take s.data.toList i (by rw [← Lib.size_eq]; exact hk2))
      have E2 := Lib.hid (show (s[i]).toNat = (s.data.toList[i]'(by rw [← Lib.size_eq]; exact hk2)).toNat from rfl)
      generalize numN (s.data.toList.take i) = q at *
      go_wp2
      go_round
      case rel => exact ⟨i + 1, by go_num, by omega, by rw [HN.out, ← E2.out, Int.natCast_add, Int.natCast_mul]; rfl⟩
      case measure => simp [intOf]; omega
    · have hi4 : (i : Int) = 4 := by omega
      obtain rfl : i = 4 := by omega
      have hn := HN4.out
      have hl := HL.out
      have hh := HH.out
      rw [← hn]
      clear hlt hi
      have acc := acc
      by_cases hbig : 16384 < n
      · have HR : Hid (readV s.data.toList = .returned (.tuple #[.string ByteArray.empty, .int .i64 ((0 : Nat) : Int), .int .i64 4])) := Lib.hid (readV_of (by unfold readL; rw [hl, if_neg h8, hh, if_neg (by simp), ← hn, if_pos hbig]))
        have hbi : (16384 : Int) < (n : Int) := by omega
        clear hl hh hn hbig
        go_wp2
        go_ret3
        exact ⟨by rw [HR.out]; rfl, acc⟩
      have hbi : (n : Int) ≤ 16384 := by omega
      by_cases htorn : s.size < n + 12
      · have HR : Hid (readV s.data.toList = .returned (.tuple #[.string ByteArray.empty, .int .i64 ((0 : Nat) : Int), .int .i64 70])) := Lib.hid (readV_of (by unfold readL; rw [hl, if_neg h8, hh, if_neg (by simp), ← hn, if_neg hbig, if_pos htorn]))
        have hti : (s.size : Int) < 12 + (n : Int) := by omega
        clear hl hh hn hbig htorn
        go_wp2
        go_ret3
        exact ⟨by rw [HR.out]; rfl, acc⟩
      obtain ⟨m, hm⟩ : ∃ m, m = n + 12 := ⟨_, rfl⟩
      obtain ⟨k, hk⟩ : ∃ k, k = n + 8 := ⟨_, rfl⟩
      have em : 12 + (n : Int) = (m : Int) := by omega
      have ek : 8 + (n : Int) = (k : Int) := by omega
      have ml : (m : Int) ≤ (s.size : Int) := by omega
      have km : (k : Int) ≤ (m : Int) := by omega
      have k8 : (8 : Int) ≤ (k : Int) := by omega
      have wk : IntKind.i64.wrap (k : Int) = (k : Int) := IntWalk.i64_in _ (by omega)
      have wm : IntKind.i64.wrap (m : Int) = (m : Int) := IntWalk.i64_in _ (by omega)
      have k0 : (0 : Int) ≤ (k : Int) := by omega
      have kmn : k ≤ m := by omega
      have mln : m ≤ s.size := by omega
      have kl : (k : Int) ≤ (s.size : Int) := by omega
      have sk : (s.extract 8 k).size = n := by rw [ext_size s 8 k (by omega)]; omega
      have cB := fun w => refSum_any (s.extract 8 k) w (by unfold maxLen; omega)
      have hqb := body_raw s n k m hk hm (by omega)
      have lk : s.extract 8 k = bOf ((s.data.toList.drop 8).take n) := by rw [ext_bOf, hk]; congr 1
      generalize bOf (low4 (moreB 0#32 (s.extract 8 k).data.toList)) = x2 at cB hqb
      cases hhb : holdsL ((s.data.toList.drop 8).take (n + 4))
      · have HR : Hid (readV s.data.toList = .returned (.tuple #[.string ByteArray.empty, .int .i64 ((0 : Nat) : Int), .int .i64 71])) := Lib.hid (readV_of (by unfold readL; rw [hl, if_neg h8, hh, if_neg (by simp), ← hn, if_neg hbig, if_neg htorn, if_pos hhb]))
        rw [hhb] at hqb
        clear hl hh hn hbig hm hk sk lk hhb htorn
        go_upto_region 15 with (fail)
        go_region_with (go_at_call 20; refine (cB _).mono ?_; rintro e w1 ⟨rfl, hb⟩; have acc := acc.drew.trans (hb.mono acc.drew.size); clear hb)
        all_goals go_wp2
        all_goals go_ret3
        all_goals exact ⟨by rw [HR.out]; rfl, acc⟩
      · have HR : Hid (readV s.data.toList = .returned (.tuple #[.string (s.extract 8 k), .int .i64 (m : Int), .int .i64 0])) := Lib.hid (by rw [lk]; exact readV_of (by unfold readL; rw [hl, if_neg h8, hh, if_neg (by simp), ← hn, if_neg hbig, if_neg htorn, if_neg (by rw [hhb]; simp), hm]))
        rw [hhb] at hqb
        clear hl hh hn hbig hm hk sk lk hhb htorn
        go_upto_region 15 with (fail)
        go_region_with (go_at_call 20; refine (cB _).mono ?_; rintro e w1 ⟨rfl, hb⟩; have acc := acc.drew.trans (hb.mono acc.drew.size); clear hb)
        all_goals go_wp2
        all_goals go_ret3
        all_goals exact ⟨by rw [HR.out]; rfl, acc⟩

end Go.Proofs.Ythimjdknafgfbaa
