/-
  CONTRACTS of package seg's Frame and Read, and of the document's own. No conditions but the texts' sizes.
-/
import Derived.Test.YthimjdknafgfbaaSegSmall
import Derived.Test.YthimjdknafgfbaaShelf
set_option linter.unusedVariables false
namespace Go.Proofs.Ythimjdknafgfbaa
open Go.RowKit

theorem cat_list (a b : ByteArray) : a ++ b = bOf (a.data.toList ++ b.data.toList) := by
  rw [← bOf_app, bOf_of, bOf_of]
theorem ofNat_vI {n : Nat} (h : n < 4294967296) : vI (BitVec.ofNat 32 n) = (n : Int) := by
  unfold vI
  rw [BitVec.toNat_ofNat]
  omega
theorem frame_parts (t : ByteArray) : bOf (frameL t.data.toList) = (bOf (headL t.size) ++ bOf (low4 (moreB 0#32 (bOf (headL t.size)).data.toList))) ++ (t ++ bOf (low4 (moreB 0#32 t.data.toList))) := by
  unfold frameL withSum
  rw [bOf_list, ← Lib.size_eq, ← bOf_app, ← bOf_app, ← bOf_app, bOf_of]
theorem frame_size (t : List UInt8) : (bOf (frameL t)).size = t.length + 12 := by rw [bOf_size, frameL_len]
theorem frame_any (t : ByteArray) (w : World) (ht : t.size ≤ 16384) :
    Calls Try.prog 8 #[.string t] w fun e w' => e = .returned (.tuple #[.string (bOf (frameL t.data.toList)), .int .i64 0]) ∧ Below w.heap.size w w' := by
  have HF := Lib.hid (frame_parts t)
  have ht2 : (t.size : Int) ≤ 16384 := by omega
  have e1 := ofNat_vI (n := t.size) (by omega)
  have cH := fun w => high_any (BitVec.ofNat 32 t.size) w
  rw [e1] at cH
  have ehead : (low4 (BitVec.ofNat 32 t.size)).reverse = headL t.size := rfl
  rw [ehead] at cH
  have hs8 : (bOf (headL t.size)).size = 4 := by rw [bOf_size, headL_len]
  have c1 := fun w => summed_any (bOf (headL t.size)) w (by omega)
  have c2 := fun w => summed_any t w (by omega)
  have hz1 : (bOf (headL t.size) ++ bOf (low4 (moreB 0#32 (bOf (headL t.size)).data.toList))).size = 8 := by rw [ByteArray.size_append, hs8, bOf_size, low4_len]
  have hz2 : (t ++ bOf (low4 (moreB 0#32 t.data.toList))).size = t.size + 4 := by rw [ByteArray.size_append, bOf_size, low4_len]
  have hl4 : (headL t.size).length = 4 := headL_len _
  generalize headL t.size = l at *
  have hsz := Try.size4.trans (congrArg some (AR.size .u8 (nI8 l) (by rw [nI8_len, hl4])).symm)
  have hc4 : ((nI8 l).map (Value.int .u8)).toArray.size = 4 := by simp [nI8, hl4]
  generalize bOf l ++ bOf (low4 (moreB 0#32 (bOf l).data.toList)) = x1 at *
  generalize t ++ bOf (low4 (moreB 0#32 t.data.toList)) = x2 at *
  have h63 : ¬ 9223372036854775807 < x1.size + x2.size := by omega
  have acc : Below w.heap.size w w := Below.refl _ _
  clear e1 ehead
  have HL := Lib.hid hl4
  have HC := Lib.hid hc4
  clear hl4 hc4 hs8 hz1 hz2
  go_enter Try.func8, Try.ntmps8
  go_upto_region 4 with (first
    | (go_at_call 17; refine (cH _).mono ?_; rintro e w1 ⟨rfl, hb⟩; have acc := acc.trans (hb.mono acc.size); clear hb; have K0 : AR .u8 44 (w1.alloc (.cells ((List.replicate 4 0).map (Value.int .u8)).toArray 44)) w1.heap.size (List.replicate 4 0) := heap_alloc_new w1 _)
    | (refine wpList_store_row rfl 44 _ _ rfl w1.heap.size _ rfl rfl 44 _ K0 hsz HC.out.symm (AR.all _ _) ?_))
  generalize hW0 : (w1.alloc _).setRow w1.heap.size ((nI8 l).map (Value.int .u8)).toArray = W3
  have K1 : AR .u8 44 W3 w1.heap.size (nI8 l) := by rw [← hW0]; exact AR.row K0 _
  have acc : Below w.heap.size w W3 := by rw [← hW0]; exact below_row (acc.alloc acc.size _) acc.size _
  have hconv := conv_row K1 HL.out
  clear K1 hW0 K0
  go_wp2_with (first
    | (go_at_call_of 18 (Value.string (bOf l)); refine (c1 _).mono ?_; rintro e w1 ⟨rfl, hb⟩; have acc := acc.trans (hb.mono acc.size); clear hb)
    | (go_at_call_of 18 (Value.string t); refine (c2 _).mono ?_; rintro e w1 ⟨rfl, hb⟩; have acc := acc.trans (hb.mono acc.size); clear hb))
  go_ret2
  exact ⟨by rw [HF.out]; rfl, acc⟩
theorem frame_long (t : ByteArray) (w : World) (ht : 16384 < t.size) (hs : t.size ≤ 1000000000) :
    Calls Try.prog 8 #[.string t] w fun e w' => e = .returned (.tuple #[.string ByteArray.empty, .int .i64 4]) ∧ w = w' := by
  have ht2 : (16384 : Int) < (t.size : Int) := by omega
  go_enter Try.func8, Try.ntmps8
  go_wp2
  go_ret2
  exact ⟨rfl, rfl⟩
theorem clone_any (s : ByteArray) (w : World) (hs : s.size ≤ 1000000000) :
    Calls Try.prog 23 #[.string s] w fun e w' => e = .returned (.string s) ∧ Below w.heap.size w w' := by
  have cC := fun w => Try.stringslite_Clone s w (by omega)
  go_enter Try.func23, Try.ntmps23
  go_wp2_with (go_at_call 28; refine (cC _).mono ?_; rintro e w1 ⟨rfl, hb⟩)
  go_ret
  exact ⟨rfl, hb⟩
def readV (l : List UInt8) : Ending := .returned (.tuple #[.string (bOf (readL l).1), .int .i64 ((readL l).2.1 : Nat), .int .i64 (readL l).2.2])
theorem readV_of {l t : List UInt8} {n : Nat} {e : Int} (h : readL l = (t, n, e)) : readV l = .returned (.tuple #[.string (bOf t), .int .i64 (n : Nat), .int .i64 e]) := by unfold readV; rw [h]
theorem bOf_nil : bOf [] = ByteArray.empty := rfl
theorem ext_bOf (s : ByteArray) (a b : Nat) : s.extract a b = bOf ((s.data.toList.drop a).take (b - a)) := by rw [← ext_list, bOf_of]
set_option maxHeartbeats 2000000 in
theorem read_any (s : ByteArray) (w : World) (hs : s.size ≤ 100000000) :
    Calls Try.prog 10 #[.string s] w fun e w' => e = readV s.data.toList ∧ Below w.heap.size w w' := by
  have hl : s.data.toList.length = s.size := (Lib.size_eq s).symm
  have acc : Below w.heap.size w w := Below.refl _ _
  by_cases h8 : s.size < 8
  · have hr : readL s.data.toList = ([], 0, 70) := by unfold readL; rw [hl, if_pos h8]
    rw [readV_of hr, bOf_nil]
    have h8i : (s.size : Int) < 8 := by omega
    clear hr hl
    go_enter Try.func10, Try.ntmps10
    go_wp2
    go_ret3
    exact ⟨rfl, acc⟩
  have h8i : (8 : Int) ≤ (s.size : Int) := by omega
  have h8n : 8 ≤ s.size := by omega
  have s8 : (s.extract 0 8).size = 8 := ext_size s 0 8 (by omega)
  have s4 : (s.extract 0 4).size = 4 := ext_size s 0 4 (by omega)
  have l8 : (s.extract 0 8).data.toList = s.data.toList.take 8 := by rw [ext_list]; rfl
  have l4 : (s.extract 0 4).data.toList = s.data.toList.take 4 := by rw [ext_list]; rfl
  have cH := fun w => sumHolds_any (s.extract 0 8) w (by omega) (by omega)
  rw [l8] at cH
  cases hh : holdsL (s.data.toList.take 8)
  · have hr : readL s.data.toList = ([], 0, 71) := by unfold readL; rw [hl, if_neg h8, if_pos hh]
    rw [readV_of hr, bOf_nil]
    rw [hh] at cH
    clear hr hl s8 s4 l8 l4 hh
    go_enter Try.func10, Try.ntmps10
    go_wp2_with (go_at_call 21; refine (cH _).mono ?_; rintro e w1 ⟨rfl, hb⟩; have acc := acc.trans (hb.mono acc.size); clear hb)
    go_ret3
    exact ⟨rfl, acc⟩
  rw [hh] at cH
  have cN := fun w => number_any (s.extract 0 4) w s4
  rw [l4] at cN
  obtain ⟨n, hn⟩ : ∃ n, n = numN (s.data.toList.take 4) := ⟨_, rfl⟩
  rw [← hn] at cN
  have hn32 : n < 4294967296 := by
    have := numN_lt (s.data.toList.take 4) 0
    rw [show (s.data.toList.take 4).length = 4 by rw [List.length_take]; omega] at this
    rw [hn]
    unfold numN
    omega
  by_cases hbig : 16384 < n
  · have hr : readL s.data.toList = ([], 0, 4) := by unfold readL; rw [hl, if_neg h8, hh, if_neg (by simp), ← hn, if_pos hbig]
    rw [readV_of hr, bOf_nil]
    have hbi : (16384 : Int) < (n : Int) := by omega
    clear hr hl s8 s4 l8 l4 hh hn
    go_enter Try.func10, Try.ntmps10
    go_wp2_with (first
      | (go_at_call 21; refine (cH _).mono ?_; rintro e w1 ⟨rfl, hb⟩; have acc := acc.trans (hb.mono acc.size); clear hb)
      | (go_at_call 22; refine (cN _).mono ?_; rintro e w1 ⟨rfl, rfl⟩))
    go_ret3
    exact ⟨rfl, acc⟩
  have hbi : (n : Int) ≤ 16384 := by omega
  by_cases htorn : s.size < n + 12
  · have hr : readL s.data.toList = ([], 0, 70) := by unfold readL; rw [hl, if_neg h8, hh, if_neg (by simp), ← hn, if_neg hbig, if_pos htorn]
    rw [readV_of hr, bOf_nil]
    have hti : (s.size : Int) < (n : Int) + 12 := by omega
    clear hr hl s8 s4 l8 l4 hh hn hbig
    go_enter Try.func10, Try.ntmps10
    go_wp2_with (first
      | (go_at_call 21; refine (cH _).mono ?_; rintro e w1 ⟨rfl, hb⟩; have acc := acc.trans (hb.mono acc.size); clear hb)
      | (go_at_call 22; refine (cN _).mono ?_; rintro e w1 ⟨rfl, rfl⟩))
    go_ret3
    exact ⟨rfl, acc⟩
  obtain ⟨m, hm⟩ : ∃ m, m = n + 12 := ⟨_, rfl⟩
  obtain ⟨k, hk⟩ : ∃ k, k = n + 8 := ⟨_, rfl⟩
  have em : (n : Int) + 12 = (m : Int) := by omega
  have ek : (m : Int) - 4 = (k : Int) := by omega
  have ml : (m : Int) ≤ (s.size : Int) := by omega
  have m8 : (8 : Int) ≤ (m : Int) := by omega
  have k8 : (8 : Int) ≤ (k : Int) := by omega
  have kl : (k : Int) ≤ (s.size : Int) := by omega
  have lb : (s.extract 8 m).data.toList = (s.data.toList.drop 8).take (n + 4) := by rw [ext_list, hm]; congr 1
  have sb : (s.extract 8 m).size = n + 4 := by rw [ext_size s 8 m (by omega)]; omega
  have sk : (s.extract 8 k).size = n := by rw [ext_size s 8 k (by omega)]; omega
  have cB := fun w => sumHolds_any (s.extract 8 m) w (by omega) (by omega)
  have cC := fun w => clone_any (s.extract 8 k) w (by omega)
  rw [lb] at cB
  have lk : s.extract 8 k = bOf ((s.data.toList.drop 8).take n) := by rw [ext_bOf, hk]; congr 1
  cases hhb : holdsL ((s.data.toList.drop 8).take (n + 4))
  · have hr : readL s.data.toList = ([], 0, 71) := by unfold readL; rw [hl, if_neg h8, hh, if_neg (by simp), ← hn, if_neg hbig, if_neg htorn, if_pos hhb]
    rw [readV_of hr, bOf_nil]
    rw [hhb] at cB
    clear hr hl s8 s4 l8 l4 hh hn hbig hm hk lb sb sk lk hhb htorn
    go_enter Try.func10, Try.ntmps10
    go_wp2_with (first
      | (go_at_call_of 21 (Value.string (s.extract 0 8)); refine (cH _).mono ?_; rintro e w1 ⟨rfl, hb⟩; have acc := acc.trans (hb.mono acc.size); clear hb)
      | (go_at_call_of 21 (Value.string (s.extract 8 m)); refine (cB _).mono ?_; rintro e w1 ⟨rfl, hb⟩; have acc := acc.trans (hb.mono acc.size); clear hb)
      | (go_at_call 22; refine (cN _).mono ?_; rintro e w1 ⟨rfl, rfl⟩))
    go_ret3
    exact ⟨rfl, acc⟩
  · have hr : readL s.data.toList = ((s.data.toList.drop 8).take n, m, 0) := by unfold readL; rw [hl, if_neg h8, hh, if_neg (by simp), ← hn, if_neg hbig, if_neg htorn, if_neg (by rw [hhb]; simp), hm]
    rw [readV_of hr, ← lk]
    rw [hhb] at cB
    clear hr hl s8 s4 l8 l4 hh hn hbig hm hk lb sb sk lk hhb htorn
    go_enter Try.func10, Try.ntmps10
    go_wp2_with (first
      | (go_at_call_of 21 (Value.string (s.extract 0 8)); refine (cH _).mono ?_; rintro e w1 ⟨rfl, hb⟩; have acc := acc.trans (hb.mono acc.size); clear hb)
      | (go_at_call_of 21 (Value.string (s.extract 8 m)); refine (cB _).mono ?_; rintro e w1 ⟨rfl, hb⟩; have acc := acc.trans (hb.mono acc.size); clear hb)
      | (go_at_call 23; refine (cC _).mono ?_; rintro e w1 ⟨rfl, hb⟩; have acc := acc.trans (hb.mono acc.size); clear hb)
      | (go_at_call 22; refine (cN _).mono ?_; rintro e w1 ⟨rfl, rfl⟩))
    go_ret3
    exact ⟨rfl, acc⟩
end Go.Proofs.Ythimjdknafgfbaa
