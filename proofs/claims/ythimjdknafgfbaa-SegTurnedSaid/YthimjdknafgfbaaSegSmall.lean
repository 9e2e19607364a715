/-
  CONTRACTS of package seg's small functions. No conditions but the texts' sizes.
-/
import Derived.Test.YthimjdknafgfbaaCrcRefO
import Derived.Test.YthimjdknafgfbaaOwnC
import Derived.Test.YthimjdknafgfbaaSegMath
import Derived.Deep.DeepCutAuto
set_option linter.unusedVariables false
namespace Go.Proofs.Ythimjdknafgfbaa
open Go.RowKit

theorem ret_bool {a b : Bool} (h : a = b) : Ending.returned (.bool a) = .returned (.bool b) := by rw [h]
theorem ret_str {a b : ByteArray} (h : a = b) : Ending.returned (.string a) = .returned (.string b) := by rw [h]
theorem below_drewN {B : Nat} {a w : World} (h : Below B a w) (n : Nat) : Below B a (w.drewN n) := ⟨h.os, h.tape, h.output, h.size, h.block⟩
theorem raw_eq (a b : ByteArray) : (a.toList == b.toList) = decide (a = b) := by
  rw [Lib.toList_data, Lib.toList_data]
  by_cases h : a = b
  · subst h; simp
  · rw [decide_eq_false h, beq_eq_false_iff_ne]
    intro e
    exact h (ByteArray.ext (Array.toList_inj.1 e))
def lowI (x : B32) (n : Nat) : List Int := (List.range n).map (fun i => ((lowAt x i).toNat : Int)) ++ List.replicate (4 - n) 0
theorem lowI_len {x : B32} {n : Nat} (h : n ≤ 4) : (lowI x n).length = 4 := by unfold lowI; simp; omega
theorem lowI_on {x : B32} {n : Nat} (h : n < 4) : (lowI x n).set n ((lowAt x n).toNat : Int) = lowI x (n + 1) := by
  unfold lowI
  rw [List.set_append_right _ _ (by simp), List.range_succ, List.map_append, List.append_assoc]
  congr 1
  rw [List.length_map, List.length_range, Nat.sub_self, show 4 - n = (4 - (n + 1)) + 1 by omega, List.replicate_succ, List.set_cons_zero]
  rfl
theorem lowI_all (x : B32) : lowI x 4 = nI8 (low4 x) := rfl
theorem low_val (x : B32) (n : Nat) : vI x / (2 : Int) ^ (n * 8) % 256 = ((lowAt x n).toNat : Int) := by
  rw [lowAt_nat, Nat.mul_comm n 8]
  unfold vI
  rw [Int.natCast_emod, Int.natCast_ediv, Int.natCast_pow]
  rfl
theorem Try.size4 : (Try.prog.info? 44).map (·.size) = some 4 := by kernel_rfl
theorem low_any (x : B32) (w : World) :
    Calls Try.prog 25 #[.int .u32 (vI x)] w fun e w' => e = .returned (.agg ((nI8 (low4 x)).map (Value.int .u8)).toArray) ∧ Below w.heap.size w w' := by
  obtain ⟨b0, b9⟩ := vI_rng x
  go_enter Try.func25, Try.ntmps25
  go_wp2
  go_loopw [5] (fun v wr => ∃ (n : Nat), v = .int .i64 n ∧ n ≤ 4 ∧ AR .u8 44 wr (w.heap.size + 1) (lowI x n) ∧ Below (w.heap.size + 1) (w.alloc (.cells ((List.replicate 4 0).map (Value.int .u8)).toArray 44)) wr) (fun v _ => 4 - (intOf v).toNat)
  case atStart => exact ⟨0, rfl, by omega, heap_alloc2_new _ _ _, (Below.refl _ _).alloc (by simp) _⟩
  case round =>
    obtain ⟨n, rfl, hn, hA, hB⟩ := hrel
    by_cases h : n < 4
    · have hf := hA.free n
      have hlen := lowI_len (x := x) hn
      have hd : decide ((n : Int) < 4) = true := by simp; omega
      have hc := hA.cell (j := n) (by omega)
      have HV := Lib.hid (low_val x n)
      clear hlen
      go_wp2
      go_roundw
      case rel =>
        refine ⟨n + 1, by go_num, by omega, ?_, ?_⟩
        · rw [← lowI_on h, HV.out]
          exact hA.set n _
        · exact (hB.setCell (p := ⟨w.heap.size + 1, n, none⟩) (Nat.le_refl _) _)
      case measure => simp [intOf]; omega
    · obtain rfl : n = 4 := by omega
      have hlen := Lib.hid (lowI_len (x := x) (Nat.le_refl 4))
      have hres : AR .u8 44 wr w.heap.size (List.replicate 4 0) := (hB.block _ (by omega)).trans (heap_alloc_new w _)
      have A9 := hres.row (lowI x 4)
      have B9 : Below w.heap.size w (wr.setRow w.heap.size ((lowI x 4).map (Value.int .u8)).toArray) := below_row (((Below.refl _ _).alloc (Nat.le_refl _) _).trans (hB.mono (Nat.le_succ _))) (Nat.le_refl _) _
      go_wp2_with (first | (refine wpList_load_row rfl 44 _ rfl (w.heap.size + 1) rfl 44 _ (0, 0) _ hA Try.underlying44 rfl (Try.size4.trans (congrArg some (AR.size _ _ hlen.out).symm)) ?_) | (refine wpList_store_row rfl 44 _ _ rfl w.heap.size _ rfl rfl 44 _ hres (Try.size4.trans (congrArg some (AR.size _ _ hlen.out).symm)) (by simp [hlen.out]) (AR.all _ _) ?_))
      refine bodyPost_ret (v := .agg ((lowI x 4).map (Value.int .u8)).toArray) ?_ rfl ⟨rfl, B9⟩
      exact results_cell_row rfl _ _ w.heap.size 44 _ (0, 0) _ rfl A9 Try.underlying44 rfl (Try.size4.trans (congrArg some (AR.size _ _ hlen.out).symm))

theorem highI_all (x : B32) : nI8 (low4 x).reverse = (nI8 (low4 x)).reverse := by unfold nI8; rw [List.map_reverse]
/-- laid from behind -/
def highI (x : B32) (n : Nat) : List Int := List.replicate (4 - n) 0 ++ ((List.range n).map (fun i => ((lowAt x i).toNat : Int))).reverse
theorem highI_len {x : B32} {n : Nat} (h : n ≤ 4) : (highI x n).length = 4 := by unfold highI; simp; omega
theorem highI_on {x : B32} {n : Nat} (h : n < 4) : (highI x n).set (3 - n) ((lowAt x n).toNat : Int) = highI x (n + 1) := by
  unfold highI
  rw [List.range_succ, List.map_append, List.reverse_append, show 4 - n = (3 - n) + 1 by omega, List.replicate_succ', List.append_assoc, List.set_append_right _ _ (by simp), List.length_replicate, Nat.sub_self, show 4 - (n + 1) = 3 - n by omega]
  rfl
theorem highI_4 (x : B32) : highI x 4 = nI8 (low4 x).reverse := rfl
theorem nI8_low_get (x : B32) {n : Nat} (h : n < 4) : (nI8 (low4 x)).getD n 0 = ((lowAt x n).toNat : Int) := by
  rcases (show n = 0 ∨ n = 1 ∨ n = 2 ∨ n = 3 by omega) with rfl | rfl | rfl | rfl <;> rfl
theorem Try.size_u8 : (Try.prog.info? 5).map (·.size) = some 1 := by kernel_rfl
theorem high_any (x : B32) (w : World) :
    Calls Try.prog 17 #[.int .u32 (vI x)] w fun e w' => e = .returned (.agg ((nI8 (low4 x).reverse).map (Value.int .u8)).toArray) ∧ Below w.heap.size w w' := by
  have hix : ∀ (i : Nat) (w : World), i < 4 → (Instr.index 44 (.agg ((nI8 (low4 x)).map (Value.int .u8)).toArray) (.int .i64 i)).run Try.prog w = .ok (.int .u8 ((lowAt x i).toNat : Int)) w := by
    intro i w hi
    rw [run_index_row 44 5 4 .u8 (nI8 (low4 x)) i w Try.underlying44 Try.underlying5 Try.size_u8 rfl hi, nI8_low_get x hi]
  have cL := low_any x
  generalize ((nI8 (low4 x)).map (Value.int .u8)).toArray = A at hix cL
  go_enter Try.func17, Try.ntmps17
  go_wp2_with (go_at_call 25; refine (cL _).mono ?_; rintro e w1 ⟨rfl, hb⟩)
  have hN : w1.heap[w.heap.size + 1]? = some (.cells ((List.replicate 4 0).map (Value.int .u8)).toArray 44 (0, 0)) := (hb.block _ (by simp)).trans (heap_alloc2_new _ _ _)
  have hR : w1.heap[w.heap.size]? = some (.cells ((List.replicate 4 0).map (Value.int .u8)).toArray 44 (0, 0)) := (hb.block _ (by simp only [World.size_alloc]; omega)).trans (((Below.refl (w.alloc (.cells ((List.replicate 4 0).map (Value.int .u8)).toArray 44)).heap.size (w.alloc (.cells ((List.replicate 4 0).map (Value.int .u8)).toArray 44))).alloc (Nat.le_refl _) _).block _ (by simp) |>.trans (heap_alloc_new w _))
  have hB0 : Below w.heap.size w w1 := (((Below.refl _ _).alloc (Nat.le_refl _) _).alloc (by simp) _).trans (hb.mono (by simp; omega))
  have hs1 := hb.size
  simp only [World.size_alloc] at hs1
  clear hb
  go_loopw [8] (fun v wr => ∃ (n : Nat), v = .int .i64 n ∧ n ≤ 4 ∧ AR .u8 44 wr (w.heap.size + 1) (highI x n) ∧ AR .u8 44 wr w.heap.size (List.replicate 4 0) ∧ Below w.heap.size w wr) (fun v _ => 4 - (intOf v).toNat)
  case atStart => exact ⟨0, rfl, by omega, hN, hR, hB0⟩
  case round =>
    clear hN hR hB0
    obtain ⟨n, rfl, hn, hA, hR, hB⟩ := hrel
    by_cases h : n < 4
    · have hf := hA.free (3 - n)
      have hlen := highI_len (x := x) hn
      have hd : decide ((n : Int) < 4) = true := by simp; omega
      have hc := hA.cell (j := 3 - n) (by omega)
      have hi := fun w => hix n w h
      have e3 : (3 : Int) - (n : Int) = ((3 - n : Nat) : Int) := by omega
      have hj4 : ((3 - n : Nat) : Int) < 4 := by omega
      have hj0 : (0 : Int) ≤ ((3 - n : Nat) : Int) := by omega
      have HO := Lib.hid (highI_on (x := x) h)
      have hA2 := hA.set (3 - n) ((lowAt x n).toNat : Int)
      rw [HO.out] at hA2
      have hR2 := hR.other (a := ⟨w.heap.size + 1, 3 - n, none⟩) (by simp) (.int .u8 ((lowAt x n).toNat : Int))
      have hB2 := hB.setCell (p := ⟨w.heap.size + 1, 3 - n, none⟩) (by simp) (.int .u8 ((lowAt x n).toNat : Int))
      clear hlen
      generalize 3 - n = m at *
      go_wp2
      go_roundw
      case rel => exact ⟨n + 1, by go_num, by omega, hA2, hR2, hB2⟩
      case measure => simp [intOf]; omega
    · obtain rfl : n = 4 := by omega
      have hlen := Lib.hid (highI_len (x := x) (Nat.le_refl 4))
      have A9 := hR.row (highI x 4)
      have B9 : Below w.heap.size w (wr.setRow w.heap.size ((highI x 4).map (Value.int .u8)).toArray) := below_row hB (Nat.le_refl _) _
      go_wp2_with (first | (refine wpList_load_row rfl 44 _ rfl (w.heap.size + 1) rfl 44 _ (0, 0) _ hA Try.underlying44 rfl (Try.size4.trans (congrArg some (AR.size _ _ hlen.out).symm)) ?_) | (refine wpList_store_row rfl 44 _ _ rfl w.heap.size _ rfl rfl 44 _ hR (Try.size4.trans (congrArg some (AR.size _ _ hlen.out).symm)) (by simp [hlen.out]) (AR.all _ _) ?_))
      refine bodyPost_ret (v := .agg ((highI x 4).map (Value.int .u8)).toArray) ?_ rfl ⟨rfl, B9⟩
      exact results_cell_row rfl _ _ w.heap.size 44 _ (0, 0) _ rfl A9 Try.underlying44 rfl (Try.size4.trans (congrArg some (AR.size _ _ hlen.out).symm))

theorem str_nI8 (l : List UInt8) : strOfNums (nI8 l) = bOf l := by
  apply ByteArray.ext
  apply Array.toList_inj.1
  rw [show (bOf l).data.toList = l from bOf_list l]
  unfold nI8
  rw [strOfNums_data, List.map_map]
  have : ∀ b ∈ l, ((fun n : Int => UInt8.ofNat n.toNat) ∘ fun b : UInt8 => (b.toNat : Int)) b = b := by
    intro b _
    simp
  rw [List.map_congr_left this, List.map_id'']
  intro x; rfl
/-- a row of bytes, as a text -/
theorem conv_row {w : World} {g : Nat} {l : List UInt8} (h : AR .u8 44 w g (nI8 l)) (hl : l.length = 4) :
    (convert 40 9 (.slice (some ⟨g, 0, none⟩) 4 4)).run Try.prog w = .ok (.string (bOf l)) w := by
  rw [run_convert_bytes_arg (P := Try.prog) w 40 5 Try.underlying40 Try.underlying5 g 0 4 4 (nI8 l) (by rw [nI8_len, hl]) (by intro i hi; rw [Nat.zero_add]; exact h.cell (by rw [nI8_len, hl]; exact hi)) 9 Try.underlying9, str_nI8]
theorem summed_any (s : ByteArray) (w : World) (hs : s.size ≤ 1000000000) :
    Calls Try.prog 18 #[.string s] w fun e w' => e = .returned (.string (s ++ bOf (low4 (moreB 0#32 s.data.toList)))) ∧ Below w.heap.size w w' := by
  have cO := fun w => of_any s w (by unfold maxLen; omega)
  generalize moreB 0#32 s.data.toList = x at cO ⊢
  have cL := fun w => low_any x w
  generalize vI x = v at cO cL
  have hsz := Try.size4.trans (congrArg some (AR.size .u8 (nI8 (low4 x)) rfl).symm)
  have acc : Below w.heap.size w w := Below.refl _ _
  go_enter Try.func18, Try.ntmps18
  go_upto_region 2 with (first
    | (go_at_call 26; refine (cO _).mono ?_; rintro e w1 ⟨rfl, hb⟩; have acc := acc.trans (hb.mono acc.size); clear hb)
    | (go_at_call 25; refine (cL _).mono ?_; rintro e w2 ⟨rfl, hb⟩; have acc := acc.trans (hb.mono acc.size); clear hb; have K0 : AR .u8 44 (w2.alloc (.cells ((List.replicate 4 0).map (Value.int .u8)).toArray 44)) w2.heap.size (List.replicate 4 0) := heap_alloc_new w2 _)
    | (refine wpList_store_row rfl 44 _ _ rfl w2.heap.size _ rfl rfl 44 _ K0 hsz rfl (AR.all _ _) ?_))
  generalize hW0 : (w2.alloc _).setRow w2.heap.size ((nI8 (low4 x)).map (Value.int .u8)).toArray = W3
  have K1 : AR .u8 44 W3 w2.heap.size (nI8 (low4 x)) := by rw [← hW0]; exact AR.row K0 _
  have B1 : Below w.heap.size w W3 := by rw [← hW0]; exact below_row (acc.alloc acc.size _) acc.size _
  have hconv := conv_row K1 (low4_len x)
  have h63 : ¬ 9223372036854775807 < s.size + (bOf (low4 x)).size := by rw [bOf_size, low4_len]; omega
  clear K1 hW0
  go_wp2
  go_ret
  exact ⟨rfl, B1⟩
theorem or_step (n b : Nat) (hn : n < 16777216) (hb : b < 256) : bits .or .u32 ((n : Int) * 256 % 4294967296) ((b : Int) % 4294967296) = ((n * 256 + b : Nat) : Int) := by
  rw [show (b : Int) % 4294967296 = (b : Int) by omega, show (n : Int) * 256 % 4294967296 = ((n * 256 : Nat) : Int) by omega, u32_or_nat _ _ (by omega) (by omega)]
  congr 1
  rw [show n * 256 = 2 ^ 8 * n by omega, ← Nat.two_pow_add_eq_or_of_lt (by omega)]
theorem numN_take (l : List UInt8) (k : Nat) (h : k < l.length) : numN (l.take (k + 1)) = numN (l.take k) * 256 + (l[k]).toNat := by
  unfold numN
  rw [List.take_succ_eq_append_getElem h, List.foldl_append]
  rfl
theorem numN_lt : ∀ (l : List UInt8) (a : Nat), l.foldl (fun n b => n * 256 + b.toNat) a < (a + 1) * 256 ^ l.length
  | [], a => by simp
  | b :: l, a => by
    rw [List.foldl_cons]
    have := numN_lt l (a * 256 + b.toNat)
    have hb := b.toNat_lt
    refine Nat.lt_of_lt_of_le this ?_
    rw [List.length_cons, Nat.pow_succ, Nat.mul_comm (256 ^ l.length) 256, ← Nat.mul_assoc]
    exact Nat.mul_le_mul_right _ (by omega)
theorem numN_small (l : List UInt8) (k : Nat) (h : k ≤ 3) : numN (l.take k) < 16777216 := by
  have := numN_lt (l.take k) 0
  refine Nat.lt_of_lt_of_le this ?_
  rw [Nat.zero_add, Nat.one_mul]
  refine Nat.le_trans (Nat.pow_le_pow_right (by omega) (show (l.take k).length ≤ 3 by rw [List.length_take]; omega)) (by decide)
theorem number_any (s : ByteArray) (w : World) (hs : s.size = 4) :
    Calls Try.prog 22 #[.string s] w fun e w' => e = .returned (.int .u32 (numN s.data.toList : Nat)) ∧ w = w' := by
  have hl : s.data.toList.length = 4 := by rw [← Lib.size_eq]; exact hs
  have hs4 : (s.size : Int) = 4 := by omega
  go_enter Try.func22, Try.ntmps22
  go_wp2
  go_loop [3, 7] (fun vx v => ∃ k : Nat, v = .int .i64 k ∧ k ≤ 4 ∧ vx = .int .u32 (numN (s.data.toList.take k) : Nat)) (fun _ v => 4 - (intOf v).toNat)
  case atStart => exact ⟨0, rfl, by omega, rfl⟩
  case round =>
    obtain ⟨k, rfl, hk, rfl⟩ := hrel
    by_cases hlt : k < 4
    · have hd : decide ((k : Int) < 4) = true := by simp; omega
      have hk2 : k < s.size := by omega
      have hst := or_step (numN (s.data.toList.take k)) (s[k]).toNat (numN_small _ _ (by omega)) (s[k]).toNat_lt
      have HN := Lib.hid (numN_take s.data.toList k (by omega))
      have e2 : (s[k]).toNat = (s.data.toList[k]'(by omega)).toNat := rfl
      have E2 := Lib.hid e2
      clear e2
      generalize numN (s.data.toList.take k) = n at *
      go_wp2
      go_round
      case rel => exact ⟨k + 1, by go_num, by omega, by rw [HN.out, ← E2.out, Int.natCast_add, Int.natCast_mul]; rfl⟩
      case measure => simp [intOf]; omega
    · have e : s.data.toList.take k = s.data.toList := List.take_of_length_le (by omega)
      have E := Lib.hid e
      have hk4 : (k : Int) = 4 := by omega
      clear e hlt hk
      go_wp2
      go_ret
      exact ⟨by rw [E.out]; rfl, rfl⟩
/-! ### sumHolds; the document's own four, sum -/
theorem ext_list (s : ByteArray) (a b : Nat) : (s.extract a b).data.toList = (s.data.toList.drop a).take (b - a) := by
  rw [ByteArray.data_extract, Array.toList_extract, List.extract_eq_take_drop]
theorem ext_size (s : ByteArray) (a b : Nat) (h : b ≤ s.size) : (s.extract a b).size = b - a := by
  rw [ByteArray.size_extract]; omega
theorem eq_holds {s : ByteArray} (hs : 4 ≤ s.size) : decide (s.extract (s.size - 4) s.size = bOf (low4 (moreB 0#32 (s.extract 0 (s.size - 4)).data.toList))) = holdsL s.data.toList := by
  have hl : s.data.toList.length = s.size := (Lib.size_eq s).symm
  have e : s.data.toList = s.data.toList.take (s.size - 4) ++ s.data.toList.drop (s.size - 4) := (List.take_append_drop _ _).symm
  have h1 : (s.extract 0 (s.size - 4)).data.toList = s.data.toList.take (s.size - 4) := by simp
  have h2 : (s.extract (s.size - 4) s.size).data.toList = s.data.toList.drop (s.size - 4) := by
    rw [ext_list, List.take_of_length_le]
    rw [List.length_drop]; omega
  rw [h1]
  generalize s.data.toList.take (s.size - 4) = A at *
  generalize hB : s.data.toList.drop (s.size - 4) = B at *
  have hB4 : B.length = 4 := by rw [← hB, List.length_drop]; omega
  rw [e, holds_iff hB4]
  apply decide_eq_decide.2
  constructor
  · intro h
    rw [← h2, h, bOf_list]
  · intro h
    rw [← bOf_of (s.extract (s.size - 4) s.size), h2, h]
theorem AR.drewN {k : IntKind} {ty : TypeId} {w : World} {g : Nat} {L : List Int} (h : AR k ty w g L) (n : Nat) : AR k ty (w.drewN n) g L := by unfold AR at *; simpa using h
theorem sumHolds_any (s : ByteArray) (w : World) (h4 : 4 ≤ s.size) (hs : s.size ≤ 1000000000) :
    Calls Try.prog 21 #[.string s] w fun e w' => e = .returned (.bool (holdsL s.data.toList)) ∧ Below w.heap.size w w' := by
  have HE := Lib.hid (eq_holds h4)
  have hz : (s.extract 0 (s.size - 4)).size ≤ maxLen := by rw [ext_size _ _ _ (by omega)]; unfold maxLen; omega
  have cO := fun w => of_any (s.extract 0 (s.size - 4)) w hz
  have e4 : (s.size : Int) - 4 = ((s.size - 4 : Nat) : Int) := by omega
  have l4 : ((s.size - 4 : Nat) : Int) ≤ (s.size : Int) := by omega
  have m4 : s.size - 4 ≤ s.size := by omega
  have k4 : s.size - 4 ≤ 1000000000 := by omega
  clear hz
  generalize s.size - 4 = m at *
  generalize moreB 0#32 (s.extract 0 m).data.toList = x at cO HE
  have cL := fun w => low_any x w
  generalize vI x = v at cO cL
  have hsz := Try.size4.trans (congrArg some (AR.size .u8 (nI8 (low4 x)) rfl).symm)
  have acc : Below w.heap.size w w := Below.refl _ _
  go_enter Try.func21, Try.ntmps21
  go_upto_region 3 with (first
    | (go_at_call 26; go_loud (refine (cO _).mono ?_; rintro e w1 ⟨rfl, hb⟩; have acc := acc.trans (hb.mono acc.size); clear hb))
    | (go_at_call 25; refine (cL _).mono ?_; rintro e w2 ⟨rfl, hb⟩; have acc := acc.trans (hb.mono acc.size); clear hb; have K0 : AR .u8 44 (w2.alloc (.cells ((List.replicate 4 0).map (Value.int .u8)).toArray 44)) w2.heap.size (List.replicate 4 0) := heap_alloc_new w2 _)
    | (refine wpList_store_row rfl 44 _ _ rfl w2.heap.size _ rfl rfl 44 _ K0 hsz rfl (AR.all _ _) ?_))
  generalize hW0 : (w2.alloc _).setRow w2.heap.size ((nI8 (low4 x)).map (Value.int .u8)).toArray = W3
  have K1 : AR .u8 44 W3 w2.heap.size (nI8 (low4 x)) := by rw [← hW0]; exact AR.row K0 _
  have B1 : Below w.heap.size w W3 := by rw [← hW0]; exact below_row (acc.alloc acc.size _) acc.size _
  have hconv : ∀ n, (convert 40 9 (.slice (some ⟨w2.heap.size, 0, none⟩) 4 4)).run Try.prog (W3.drewN n) = .ok (.string (bOf (low4 x))) (W3.drewN n) := fun n => conv_row (AR.drewN K1 n) (low4_len x)
  clear K1 hW0 K0
  go_quiet (fail)
  go_wp2
  go_ret
  exact ⟨ret_bool ((raw_eq _ _).trans HE.out), below_drewN B1 _⟩
theorem conv_lit (w : World) (xs : List Int) (n : Nat) (hn : xs.length = n) :
    (convert 40 9 (.slice (some ⟨w.heap.size, 0, none⟩) n n)).run Try.prog (w.alloc (.cells (xs.map (Value.int .u8)).toArray 5)) = .ok (.string (strOfNums xs)) (w.alloc (.cells (xs.map (Value.int .u8)).toArray 5)) := by
  refine run_convert_bytes_arg _ 40 5 Try.underlying40 Try.underlying5 _ 0 n n xs hn ?_ 9 Try.underlying9
  intro i hi
  rw [Nat.zero_add]
  have := World.cell?_alloc_mark w (xs.map (Value.int .u8)).toArray 5 (0, 0) i
  rw [this]
  simp [List.getD, List.getElem?_eq_getElem (show i < xs.length by omega)]
theorem conv_litD (w : World) (xs : List Int) (n : Nat) (hn : xs.length = n) :
    (convert 40 9 (.slice (some ⟨w.heap.size, 0, none⟩) n n)).run Try.prog (w.alloc (.cells (xs.map (Value.int .u8)).toArray 5)).drew = .ok (.string (strOfNums xs)) (w.alloc (.cells (xs.map (Value.int .u8)).toArray 5)).drew := by
  refine run_convert_bytes_arg _ 40 5 Try.underlying40 Try.underlying5 _ 0 n n xs hn ?_ 9 Try.underlying9
  intro i hi
  rw [Nat.zero_add]
  have := World.cell?_alloc_mark w (xs.map (Value.int .u8)).toArray 5 (0, 0) i
  refine Eq.trans this ?_
  simp [List.getD, List.getElem?_eq_getElem (show i < xs.length by omega)]
theorem four_any (x : B32) (w : World) :
    Calls Try.prog 19 #[.int .u32 (vI x)] w fun e w' => e = .returned (.string (bOf (low4 x).reverse)) ∧ Below w.heap.size w w' := by
  obtain ⟨b0, b9⟩ := vI_rng x
  have HV : Hid (strOfNums [vI x / 16777216, vI x / 65536 % 256, vI x / 256 % 256, vI x % 256] = bOf (low4 x).reverse) := Lib.hid (by
    rw [show vI x / 16777216 = vI x / 16777216 % 256 by omega, ← str_nI8]
    congr 1
    simp only [low4, nI8, List.reverse_cons, List.reverse_nil, List.nil_append, List.cons_append, List.map_cons, List.map_nil, ← low_val]
    simp)
  have cv4 := fun (w : World) (a b c d : Int) => conv_lit w [a, b, c, d] 4 rfl
  simp only [List.map_cons, List.map_nil] at cv4
  go_enter Try.func19, Try.ntmps19
  go_wp2
  go_ret
  exact ⟨ret_str HV.out, (Below.refl _ _).alloc (Nat.le_refl _) _⟩
theorem rev_bytes (x : B32) : ∃ f : ByteArray, f = bOf (low4 x).reverse ∧ ∃ (h : f.size = 4), strOfNums [((f[3]'(by omega)).toNat : Int), ((f[2]'(by omega)).toNat : Int), ((f[1]'(by omega)).toNat : Int), ((f[0]'(by omega)).toNat : Int)] = bOf (low4 x) := by
  exact ⟨_, rfl, bOf_size _, str_nI8 (low4 x)⟩
theorem refSum_any (s : ByteArray) (w : World) (hs : s.size ≤ maxLen) :
    Calls Try.prog 20 #[.string s] w fun e w' => e = .returned (.string (bOf (low4 (moreB 0#32 s.data.toList)))) ∧ Below w.heap.size w w' := by
  have cO := fun w => refOf_any s w hs
  generalize moreB 0#32 s.data.toList = x at cO ⊢
  have cF := fun w => four_any x w
  obtain ⟨f, hf, h4, hv⟩ := rev_bytes x
  rw [← hf] at cF
  have HV := Lib.hid hv
  have hv0 : (f.size : Int) = 4 := by omega
  have hv1 : 3 < f.size := by omega
  have hv2 : 2 < f.size := by omega
  have hv3 : 1 < f.size := by omega
  have hv4 : 0 < f.size := by omega
  clear hv hf
  generalize vI x = v at cO cF
  have acc : Below w.heap.size w w := Below.refl _ _
  have cv4 := fun (w : World) (a b c d : Int) => conv_litD w [a, b, c, d] 4 rfl
  simp only [List.map_cons, List.map_nil] at cv4
  go_enter Try.func20, Try.ntmps20
  go_wp2_with (first
    | (go_at_call 27; refine (cO _).mono ?_; rintro e w1 ⟨rfl, rfl⟩)
    | (go_at_call 19; refine (cF _).mono ?_; rintro e w2 ⟨rfl, hb⟩; have acc := acc.trans (hb.mono acc.size); clear hb))
  go_region
  go_wp2
  go_ret
  exact ⟨ret_str HV.out, (acc.alloc acc.size _).drew⟩
end Go.Proofs.Ythimjdknafgfbaa
