/-
  For all texts, every place and all bits codicillaw07.SegTurned returns true: bits that were turned within 32 in a row, anywhere in whole frames, are told, and never as torn, and what stands ahead of them is read. No conditions.
-/
import Derived.Test.YthimjdknafgfbaaSegOpen
import Derived.Lib.SlBytesConst
namespace Go.Proofs.Ythimjdknafgfbaa.segTurned
open Go.ChangeShapes Go.WideShapes Go.ChangeAt Go.RowKit
open Go.ChangeMaps (open_string shut_string)
set_option linter.unusedVariables false

theorem turnF_far (l : List UInt8) (F : Nat) (x : B32) (j : Nat) (h : 8 * l.length ≤ F + j) : ∀ k, turnF l F x (j + k) = turnF l F x j
  | 0 => rfl
  | k + 1 => by
    rw [← Nat.add_assoc, turnF]
    split
    · rw [mod_far _ _ _ (by rw [turnF_len]; omega)]
      exact turnF_far l F x j h k
    · exact turnF_far l F x j h k
theorem turn_step (l : List UInt8) (F : Nat) (x : B32) (j q r : Nat) (hx : x.getLsbD j = true) (hq : q < (turnF l F x j).length) (hqr : 8 * q + r = F + j) (hr : r < 8) :
    (turnF l F x j).set q ((turnF l F x j)[q] ^^^ UInt8.ofNat (2 ^ r)) = turnF l F x (j + 1) := by
  rw [turnF, if_pos hx, show (F + j) / 8 = q by omega, show (F + j) % 8 = r by omega, mod_set _ _ _ hq]
theorem turn_skip (l : List UInt8) (F : Nat) (x : B32) (j : Nat) (hx : ¬ x.getLsbD j = true) : turnF l F x (j + 1) = turnF l F x j := by
  rw [turnF, if_neg hx]
theorem odd_bit (x : B32) : bits .and .u32 (vI x) 1 = if x.getLsbD 0 then 1 else 0 := by
  rw [← vI_one, vI_and, and_one]
  unfold bitB
  cases x.getLsbD 0 <;> simp [vI_zero]
theorem par_bit (x : B32) : x.getLsbD 0 = decide (vI x % 2 = 1) := by
  unfold vI
  rw [BitVec.getLsbD, Nat.testBit_zero]
  apply decide_eq_decide.2
  omega
set_option linter.unusedSimpArgs false in
set_option maxHeartbeats 8000000 in
set_option maxRecDepth 10000000 in
theorem walk (L : List (List UInt8)) (a1 a2 : Int) {v : Value} (w1 : (Lit.int .u16 a1).wf = true) (w2 : (Lit.int .u32 a2).wf = true) {w : World} (hT : IsT w L v) (hn : L.length ≤ 1000000000000000) (hm : ∀ t ∈ L, t.length ≤ 140737488355328) (w' : World) (hw : w = w') :
    Calls Try.prog 5 #[v, .int .u16 a1, .int .u32 a2] w fun e w' => e = .returned (.bool true) ∧ Below w.heap.size w w' := by
  clear hw w'
  have hwks := works_any
  have acc : Below w.heap.size w w := Below.refl _ _
  have cZ := size_any L v w hT hn hm
  by_cases hbig : 8192 < sizeT L
  · have hb2 : (8192 : Int) < (sizeT L : Int) := by omega
    generalize sizeT L = z at *
    clear w1 w2 hm
    go_enter Try.func5, Try.ntmps5
    go_wp2_with (first
      | (go_at_call 15; refine cZ.mono ?_; rintro e w' ⟨rfl, rfl⟩)
      | (go_at_call 7; refine (hwks _).mono ?_; rintro e w' ⟨rfl, hb⟩; have acc := acc.trans (hb.mono acc.size); clear hb))
    go_ret
    exact ⟨rfl, acc⟩
  have hb3 : (sizeT L : Int) ≤ 8192 := by omega
  have hsml := sizeT_small (L := L) (by omega)
  generalize sizeT L = z at *
  by_cases hb0 : a2 = 0
  · subst hb0
    clear w1 w2 hm hsml
    go_enter Try.func5, Try.ntmps5
    go_wp2_with (first
      | (go_at_call 15; refine cZ.mono ?_; rintro e w' ⟨rfl, rfl⟩)
      | (go_at_call 7; refine (hwks _).mono ?_; rintro e w' ⟨rfl, hb⟩; have acc := acc.trans (hb.mono acc.size); clear hb))
    go_ret
    exact ⟨rfl, acc⟩
  have hnb : (a2 == 0) = false := beq_false_of_ne hb0
  have cF := frames_any L v w hT hsml.1 hsml.2
  have hfl := small_frames hsml
  have hL100 := hsml.1
  obtain ⟨fr, hfr⟩ : ∃ fr, fr = bOf (framesL L) := ⟨_, rfl⟩
  have hfs : fr.size = (framesL L).length := by rw [hfr, bOf_size]
  have hfd : fr.data.toList = framesL L := by rw [hfr, bOf_list]
  rw [← hfr] at cF
  clear hfr
  by_cases hempty : fr.size = 0
  · have hnil : fr.data.toList = [] := List.eq_nil_of_length_eq_zero (by rw [← Lib.size_eq]; exact hempty)
    have hfe : fr.toList.isEmpty = true := by
      rw [Lib.toList_data, hnil]
      rfl
    have hfn : fr.toList = [] := by
      rw [Lib.toList_data]
      exact hnil
    clear hnil w1 w2 hm hsml hfl hfs hfd hempty hbig
    go_enter Try.func5, Try.ntmps5
    go_wp2_with (first
      | (go_at_call 15; refine cZ.mono ?_; rintro e w' ⟨rfl, rfl⟩)
      | (go_at_call 16; refine cF.mono ?_; rintro e w' ⟨rfl, hb⟩; have acc := acc.trans (hb.mono acc.size); clear hb)
      | (go_at_call 7; refine (hwks _).mono ?_; rintro e w' ⟨rfl, hb⟩; have acc := acc.trans (hb.mono acc.size); clear hb))
    go_ret
    exact ⟨rfl, acc⟩
  have hfn : fr.toList ≠ [] := by
    rw [Lib.toList_data]
    intro e
    apply hempty
    rw [Lib.size_eq, e]
    rfl
  have hfe : fr.toList.isEmpty = false := by
    cases h : fr.toList with
    | nil => exact absurd h hfn
    | cons _ _ => rfl
  have hfq : (fr.toList == ([] : List UInt8)) = false := beq_false_of_ne hfn
  obtain ⟨b0, b9⟩ := bounds_u32 w2
  obtain ⟨x0, hx0⟩ : ∃ s : B32, vI s = a2 := ⟨BitVec.ofNat 32 a2.toNat, by unfold vI; rw [BitVec.toNat_ofNat]; omega⟩
  have hob := odd_bit x0
  have hpb := par_bit x0
  rw [hx0] at hob hpb
  obtain ⟨c0, c9⟩ := bounds_u16 w1
  obtain ⟨y, rfl⟩ := Int.eq_ofNat_of_zero_le c0
  have hnp : 0 < 8 * fr.size := by omega
  obtain ⟨F, hF⟩ : ∃ F, F = y % (8 * fr.size) := ⟨_, rfl⟩
  have e1 : (y : Int) % (8 * (fr.size : Int)) = (F : Int) := by rw [hF, Int.natCast_emod, Int.natCast_mul]; rfl
  have e2 : (8 * (fr.size : Int) == 0) = false := beq_false_of_ne (by omega)
  have hFl : F < 8 * fr.size := by rw [hF]; exact Nat.mod_lt _ hnp
  have hF10 : fr.size ≤ 10000 := by omega
  have hSC := fun (x : B32) (hx : x.getLsbD 0 = true) => scan_turned hx L (small_each hsml.2) F (by rw [← hfs]; exact hFl)
  have HSC := Lib.hid hSC
  have HFD := Lib.hid hfd
  have HFS := Lib.hid hfs
  clear hF w1 w2 hm hsml hfl hfs hfd hempty hbig hb0 hSC
  by_cases hodd : x0.getLsbD 0 = true
  · rw [if_pos hodd] at hob
    obtain ⟨x, hx3, hxo⟩ : ∃ x : B32, vI x = a2 ∧ x.getLsbD 0 = true := ⟨x0, hx0, hodd⟩
    clear hodd hx0 hpb
    have HX := Lib.hid hx3
    have HXO := Lib.hid hxo
    clear hx3 hxo
    go_enter Try.func5, Try.ntmps5
    go_upto_region 6 with (first
      | (go_at_call 15; refine cZ.mono ?_; rintro e w' ⟨rfl, rfl⟩)
      | (go_at_call 16; refine cF.mono ?_; rintro e wf ⟨rfl, hb⟩; have acc := acc.trans (hb.mono acc.size); clear hb))
    obtain ⟨cap, fz, hcv, hO⟩ := run_bytes fr wf (by unfold maxLen; omega)
    have hb3 : Below w.heap.size w (wf.drew.alloc (.cells (bytesRow fr cap) 5 fz)) := acc.drew.alloc acc.size _
    have hgb := acc.size
    generalize wf.drew.alloc (.cells (bytesRow fr cap) 5 fz) = w3 at hcv hO hb3
    have hO : OC .u8 w3 wf.heap.size wf.heap.size cap (nI8 fr.data.toList) := hO
    rw [HFD.out] at hO
    go_wp2
    rw [e1]
    clear hcv e1 e2 hnb hfq hfe hfn hob cF cZ acc
    obtain ⟨gb, hgbe⟩ : ∃ gb, gb = wf.heap.size := ⟨_, rfl⟩
    rw [← hgbe] at hO hgb ⊢
    clear hgbe
    have hl0 : ∀ j, (turnF (framesL L) F x j).length = fr.size := fun j => by rw [turnF_len]; exact HFS.out.symm
    have HL0 := Lib.hid hl0
    clear hl0
    go_loopw [11] (fun v wr => ∃ (j : Nat) (l : List UInt8), v = .int .i64 j ∧ j ≤ 32 ∧ Hid (l = turnF (framesL L) F x j) ∧ OC .u8 wr gb gb cap (nI8 l) ∧ Below w.heap.size w wr) (fun v _ => 32 - (intOf v).toNat)
    case atStart => exact ⟨0, _, rfl, by omega, Lib.hid rfl, hO, hb3⟩
    case round =>
      clear hO hb3
      obtain ⟨j, l, rfl, hj, hlt, hO, hB⟩ := hrel
      have HL : Hid (l.length = fr.size) := Lib.hid (by rw [hlt.out]; exact HL0.out j)
      by_cases hin : j < 32 ∧ F + j < 8 * fr.size
      · obtain ⟨h32, hFj⟩ := hin
        have hlt1 : decide ((j : Int) < 32) = true := by simp; omega
        have hlt2 : decide ((F : Int) + (j : Int) < 8 * (fr.size : Int)) = true := by simp; omega
        have hbv := bit_val x j
        rw [HX.out] at hbv
        obtain ⟨q, hq⟩ : ∃ q, q = (F + j) / 8 := ⟨_, rfl⟩
        obtain ⟨r, hr⟩ : ∃ q, q = (F + j) % 8 := ⟨_, rfl⟩
        have hr8 : r < 8 := by omega
        have hqr : 8 * q + r = F + j := by omega
        have hqn : q < fr.size := by omega
        have eq1 : ((F : Int) + (j : Int)) / 8 = (q : Int) := by omega
        have er1 : ((F : Int) + (j : Int)) % 8 = (r : Int) := by omega
        have HQR := Lib.hid hqr
        clear hq hr hqr
        by_cases hbit : x.getLsbD j = true
        · rw [if_pos hbit] at hbv
          have hql : q < l.length := by rw [HL.out]; exact hqn
          have hfv := flip_val (l[q]'hql) r hr8
          have hcell := hO.cells q (by rw [nI8_len]; exact hql)
          rw [nI8_get hql] at hcell
          have hfree := hO.free (j := q) (by rw [nI8_len]; exact hql)
          have hO2 := hO.set (j := q) (by rw [nI8_len]; exact hql) (((l[q]'hql) ^^^ UInt8.ofNat (2 ^ r)).toNat : Int)
          rw [nI8_set] at hO2
          have hB2 := hB.setCell (p := ⟨gb, q, none⟩) hgb (.int .u8 (((l[q]'hql) ^^^ UInt8.ofNat (2 ^ r)).toNat : Int))
          have HST : Hid (l.set q (l[q]'hql ^^^ UInt8.ofNat (2 ^ r)) = turnF (framesL L) F x (j + 1)) := Lib.hid (by
            have e := hlt.out
            subst e
            exact turn_step _ F x j q r hbit hql HQR.out hr8)
          generalize l.set q (l[q]'hql ^^^ UInt8.ofNat (2 ^ r)) = l2 at *
          generalize ((l[q]'hql) ^^^ UInt8.ofNat (2 ^ r)).toNat = c2 at *
          generalize (l[q]'hql).toNat = c1 at *
          clear hbit hql
          go_wp2
          go_roundw
          case rel => exact ⟨j + 1, l2, by go_num, by omega, HST, hO2, hB2⟩
          case measure => simp [intOf]; omega
        · rw [if_neg hbit] at hbv
          have HST : Hid (l = turnF (framesL L) F x (j + 1)) := Lib.hid (by rw [turn_skip _ F x j hbit]; exact hlt.out)
          clear hbit
          go_wp2
          go_roundw
          case rel => exact ⟨j + 1, l, by go_num, by omega, HST, hO, hB⟩
          case measure => simp [intOf]; omega
      · have hout : j = 32 ∨ (j < 32 ∧ 8 * fr.size ≤ F + j) := by omega
        have h32l : l = turnF (framesL L) F x 32 := by
          rcases hout with h | ⟨h, h'⟩
          · rw [hlt.out, h]
          · have := turnF_far (framesL L) F x j (by rw [← HFS.out]; exact h') (32 - j)
            rw [show j + (32 - j) = 32 by omega] at this
            rw [this]
            exact hlt.out
        have hsc := HSC.out x HXO.out
        rw [← h32l] at hsc
        have hconv := run_convert_bytes_arg (P := Try.prog) wr 40 5 Try.underlying40 Try.underlying5 gb 0 fr.size cap (nI8 l) (by rw [nI8_len]; exact HL.out) (by intro i hi; rw [Nat.zero_add]; exact hO.cells i (by rw [nI8_len, HL.out]; exact hi)) 9 Try.underlying9
        rw [str_nI8] at hconv
        have cS := fun w => scan_any (bOf l) w (by rw [bOf_size, HL.out]; omega)
        rw [bOf_list] at cS
        unfold scanV at cS
        generalize scanL l = qq at *
        obtain ⟨X, g, e⟩ := qq
        simp only at cS hsc
        obtain ⟨rfl, s2, s3, s4⟩ := hsc
        have i1 : (X.length : Int) < (L.length : Int) := by omega
        have i2 : (g : Int) ≤ (F : Int) / 8 := by omega
        have hTw := hT.keep hB
        obtain ⟨av, cv, rfl, hcv, hTc⟩ := id hT
        have HSM : ∀ (w1 : World) v1, IsT w1 X v1 → IsT w1 L (.slice av L.length cv) → Calls Try.prog 14 #[v1, .slice av X.length cv] w1 fun e w' => e = .returned (.bool true) ∧ Below w1.heap.size w1 w' := by
          intro w1 v1 i1 i2
          have i3 := i2.take (k := X.length) (by omega)
          rw [← s4] at i3
          refine (same_any X X v1 _ w1 i1 i3 (by omega)).mono ?_
          rintro e' w' ⟨rfl, hb⟩
          exact ⟨by simp, hb⟩
        have HSMS := Lib.hid HSM
        have hsl := fun w => run_slHi (a := av) (n := L.length) (c := cv) X.length (by omega) w
        generalize bOf l = bl at *
        clear hTc s4 HSM h32l hin hlt s2 s3
        rcases hout with rfl | ⟨h32, hFj⟩
        all_goals
          go_wp2_with (first
            | (go_at_call 12; refine (cS _).mono ?_; rintro e w' ⟨v1, rfl, hO, hb⟩; have hT2 := hTw.keep hb; have acc := hB.trans (hb.mono hB.size); have hX1 := hO.isT; clear hb hO; obtain ⟨ax, cx, rfl, hcx, hXc⟩ := id hX1; clear hXc)
            | (go_at_call 14; refine (HSMS.out _ _ hX1 hT2).mono ?_; rintro e w' ⟨rfl, hb⟩; have acc := acc.trans (hb.mono acc.size); clear hb)
            | (go_at_call 7; refine (hwks _).mono ?_; rintro e w' ⟨rfl, hb⟩; have acc := acc.trans (hb.mono acc.size); clear hb))
          go_ret
          exact ⟨rfl, acc⟩
  · rw [if_neg hodd] at hob
    have hev : a2 % 2 = 0 := by
      have h1 : ¬ (a2 % 2 = 1) := fun h => hodd (by rw [hpb]; exact decide_eq_true h)
      omega
    have hw3 : (a2 + 1) % 4294967296 = a2 + 1 := by omega
    obtain ⟨x, hx3⟩ : ∃ s : B32, vI s = a2 + 1 := ⟨BitVec.ofNat 32 (a2 + 1).toNat, by unfold vI; rw [BitVec.toNat_ofNat]; omega⟩
    have hxo : x.getLsbD 0 = true := by rw [par_bit, hx3]; exact decide_eq_true (by omega)
    clear hodd hx0 hpb
    have HX := Lib.hid hx3
    have HXO := Lib.hid hxo
    clear hx3 hxo
    go_enter Try.func5, Try.ntmps5
    go_upto_region 6 with (first
      | (go_at_call 15; refine cZ.mono ?_; rintro e w' ⟨rfl, rfl⟩)
      | (go_at_call 16; refine cF.mono ?_; rintro e wf ⟨rfl, hb⟩; have acc := acc.trans (hb.mono acc.size); clear hb))
    obtain ⟨cap, fz, hcv, hO⟩ := run_bytes fr wf (by unfold maxLen; omega)
    have hb3 : Below w.heap.size w (wf.drew.alloc (.cells (bytesRow fr cap) 5 fz)) := acc.drew.alloc acc.size _
    have hgb := acc.size
    generalize wf.drew.alloc (.cells (bytesRow fr cap) 5 fz) = w3 at hcv hO hb3
    have hO : OC .u8 w3 wf.heap.size wf.heap.size cap (nI8 fr.data.toList) := hO
    rw [HFD.out] at hO
    go_wp2
    rw [e1]
    clear hcv e1 e2 hnb hfq hfe hfn hob cF cZ acc
    obtain ⟨gb, hgbe⟩ : ∃ gb, gb = wf.heap.size := ⟨_, rfl⟩
    rw [← hgbe] at hO hgb ⊢
    clear hgbe
    have hl0 : ∀ j, (turnF (framesL L) F x j).length = fr.size := fun j => by rw [turnF_len]; exact HFS.out.symm
    have HL0 := Lib.hid hl0
    clear hl0
    go_loopw [11] (fun v wr => ∃ (j : Nat) (l : List UInt8), v = .int .i64 j ∧ j ≤ 32 ∧ Hid (l = turnF (framesL L) F x j) ∧ OC .u8 wr gb gb cap (nI8 l) ∧ Below w.heap.size w wr) (fun v _ => 32 - (intOf v).toNat)
    case atStart => exact ⟨0, _, rfl, by omega, Lib.hid rfl, hO, hb3⟩
    case round =>
      clear hO hb3
      obtain ⟨j, l, rfl, hj, hlt, hO, hB⟩ := hrel
      have HL : Hid (l.length = fr.size) := Lib.hid (by rw [hlt.out]; exact HL0.out j)
      by_cases hin : j < 32 ∧ F + j < 8 * fr.size
      · obtain ⟨h32, hFj⟩ := hin
        have hlt1 : decide ((j : Int) < 32) = true := by simp; omega
        have hlt2 : decide ((F : Int) + (j : Int) < 8 * (fr.size : Int)) = true := by simp; omega
        have hbv := bit_val x j
        rw [HX.out] at hbv
        obtain ⟨q, hq⟩ : ∃ q, q = (F + j) / 8 := ⟨_, rfl⟩
        obtain ⟨r, hr⟩ : ∃ q, q = (F + j) % 8 := ⟨_, rfl⟩
        have hr8 : r < 8 := by omega
        have hqr : 8 * q + r = F + j := by omega
        have hqn : q < fr.size := by omega
        have eq1 : ((F : Int) + (j : Int)) / 8 = (q : Int) := by omega
        have er1 : ((F : Int) + (j : Int)) % 8 = (r : Int) := by omega
        have HQR := Lib.hid hqr
        clear hq hr hqr
        by_cases hbit : x.getLsbD j = true
        · rw [if_pos hbit] at hbv
          have hql : q < l.length := by rw [HL.out]; exact hqn
          have hfv := flip_val (l[q]'hql) r hr8
          have hcell := hO.cells q (by rw [nI8_len]; exact hql)
          rw [nI8_get hql] at hcell
          have hfree := hO.free (j := q) (by rw [nI8_len]; exact hql)
          have hO2 := hO.set (j := q) (by rw [nI8_len]; exact hql) (((l[q]'hql) ^^^ UInt8.ofNat (2 ^ r)).toNat : Int)
          rw [nI8_set] at hO2
          have hB2 := hB.setCell (p := ⟨gb, q, none⟩) hgb (.int .u8 (((l[q]'hql) ^^^ UInt8.ofNat (2 ^ r)).toNat : Int))
          have HST : Hid (l.set q (l[q]'hql ^^^ UInt8.ofNat (2 ^ r)) = turnF (framesL L) F x (j + 1)) := Lib.hid (by
            have e := hlt.out
            subst e
            exact turn_step _ F x j q r hbit hql HQR.out hr8)
          generalize l.set q (l[q]'hql ^^^ UInt8.ofNat (2 ^ r)) = l2 at *
          generalize ((l[q]'hql) ^^^ UInt8.ofNat (2 ^ r)).toNat = c2 at *
          generalize (l[q]'hql).toNat = c1 at *
          clear hbit hql
          go_wp2
          go_roundw
          case rel => exact ⟨j + 1, l2, by go_num, by omega, HST, hO2, hB2⟩
          case measure => simp [intOf]; omega
        · rw [if_neg hbit] at hbv
          have HST : Hid (l = turnF (framesL L) F x (j + 1)) := Lib.hid (by rw [turn_skip _ F x j hbit]; exact hlt.out)
          clear hbit
          go_wp2
          go_roundw
          case rel => exact ⟨j + 1, l, by go_num, by omega, HST, hO, hB⟩
          case measure => simp [intOf]; omega
      · have hout : j = 32 ∨ (j < 32 ∧ 8 * fr.size ≤ F + j) := by omega
        have h32l : l = turnF (framesL L) F x 32 := by
          rcases hout with h | ⟨h, h'⟩
          · rw [hlt.out, h]
          · have := turnF_far (framesL L) F x j (by rw [← HFS.out]; exact h') (32 - j)
            rw [show j + (32 - j) = 32 by omega] at this
            rw [this]
            exact hlt.out
        have hsc := HSC.out x HXO.out
        rw [← h32l] at hsc
        have hconv := run_convert_bytes_arg (P := Try.prog) wr 40 5 Try.underlying40 Try.underlying5 gb 0 fr.size cap (nI8 l) (by rw [nI8_len]; exact HL.out) (by intro i hi; rw [Nat.zero_add]; exact hO.cells i (by rw [nI8_len, HL.out]; exact hi)) 9 Try.underlying9
        rw [str_nI8] at hconv
        have cS := fun w => scan_any (bOf l) w (by rw [bOf_size, HL.out]; omega)
        rw [bOf_list] at cS
        unfold scanV at cS
        generalize scanL l = qq at *
        obtain ⟨X, g, e⟩ := qq
        simp only at cS hsc
        obtain ⟨rfl, s2, s3, s4⟩ := hsc
        have i1 : (X.length : Int) < (L.length : Int) := by omega
        have i2 : (g : Int) ≤ (F : Int) / 8 := by omega
        have hTw := hT.keep hB
        obtain ⟨av, cv, rfl, hcv, hTc⟩ := id hT
        have HSM : ∀ (w1 : World) v1, IsT w1 X v1 → IsT w1 L (.slice av L.length cv) → Calls Try.prog 14 #[v1, .slice av X.length cv] w1 fun e w' => e = .returned (.bool true) ∧ Below w1.heap.size w1 w' := by
          intro w1 v1 i1 i2
          have i3 := i2.take (k := X.length) (by omega)
          rw [← s4] at i3
          refine (same_any X X v1 _ w1 i1 i3 (by omega)).mono ?_
          rintro e' w' ⟨rfl, hb⟩
          exact ⟨by simp, hb⟩
        have HSMS := Lib.hid HSM
        have hsl := fun w => run_slHi (a := av) (n := L.length) (c := cv) X.length (by omega) w
        generalize bOf l = bl at *
        clear hTc s4 HSM h32l hin hlt s2 s3
        rcases hout with rfl | ⟨h32, hFj⟩
        all_goals
          go_wp2_with (first
            | (go_at_call 12; refine (cS _).mono ?_; rintro e w' ⟨v1, rfl, hO, hb⟩; have hT2 := hTw.keep hb; have acc := hB.trans (hb.mono hB.size); have hX1 := hO.isT; clear hb hO; obtain ⟨ax, cx, rfl, hcx, hXc⟩ := id hX1; clear hXc)
            | (go_at_call 14; refine (HSMS.out _ _ hX1 hT2).mono ?_; rintro e w' ⟨rfl, hb⟩; have acc := acc.trans (hb.mono acc.size); clear hb)
            | (go_at_call 7; refine (hwks _).mono ?_; rintro e w' ⟨rfl, hb⟩; have acc := acc.trans (hb.mono acc.size); clear hb))
          go_ret
          exact ⟨rfl, acc⟩

/-! ### From the walk to the statement -/
theorem own : ownKnob Try.prog.godebug = none := by kernel_rfl
set_option maxRecDepth 100000 in
theorem lifted (os : Os) (started : os.Started) (H : Type) (enc : TypeId × Value → H) :
    ReturnsInHanded {} Try.checked os 5 .any (Rows.segTurnedSpec.pre6 enc Try.prog Try.f5 Rows.segTurnedRow.domain false) (Rows.segTurnedSpec.post enc Try.prog Try.f5 false true false false) := by
  refine returnsInHanded_of_change_sized (C := Try.checked) own started (by kernel_rfl) Try.func5
    (ChangeSpec.witness6 (enc := enc) (C := Try.checked) false ⟨#[], #[.slice none 0 0, .int .u16 0, .int .u32 0], []⟩ 8 (by kernel_rfl) (by kernel_rfl) (by kernel_rfl) (by kernel_rfl)) ?_
  intro W base args ds gs before hval0 hW hcnd hsz0 _
  have hval : ∀ (j : Nat) t v, Try.f5.params[j]? = some t → args[j]? = some v → Value.okWide Try.prog W .any base t v := hval0
  have hsz : (DataW.weightsEach Try.prog (Try.f5.params.toList ++ Rows.segTurnedSpec.plain.varTypes Try.prog) (ds ++ gs)).all (· ≤ reachBytes) = true := hsz0
  have hW' := hW
  obtain ⟨p, q, hA0, hV, rfl, hfz, hnd⟩ := hW
  have hA : DataW.TrodAll enc Try.prog W 0 (fun _ => true) true Try.f5.params.toList args.toList ds p := hA0
  rw [Try.params5] at hA hval hsz
  obtain ⟨v0, vs0, d0, ds0, p0, q0, hargs, rfl, rfl, h0, r0⟩ := trodAll_cons hA
  obtain ⟨v1, vs1, d1, ds1, p1, q1, rfl, rfl, rfl, h1, r1⟩ := trodAll_cons r0
  obtain ⟨v2, vs2, d2, ds2, p2, q2, rfl, rfl, rfl, h2, r2⟩ := trodAll_cons r1
  obtain ⟨rfl, rfl, rfl⟩ := trodAll_nil r2
  obtain rfl : args = #[v0, v1, v2] := by cases args; simp_all
  obtain ⟨rfl, rfl⟩ := trodVars_none hV
  have h0k := h0
  have hlt0 : ∀ x ∈ p0, x.block < W.heap.size := fun x hx => hW'.lt x (by simp [hx])
  obtain ⟨ba0, bn0, bc0, rfl⟩ := okWide_slice Try.underlying29 (hval 0 29 v0 rfl rfl)
  obtain ⟨fuel0, hf0⟩ := h0
  obtain ⟨a0, hT0, n0, m0⟩ := open_texts (c := bc0) hf0 (fun n hn => by have := List.all_eq_true.1 hsz n (DataW.weights_mem_each (j := 0) (t := 29) rfl rfl n hn); simpa using this)
  obtain ⟨a1, rfl, rfl, rfl, w1⟩ := open_int Try.underlying34 (hval 1 34 v1 rfl rfl) h1
  obtain ⟨a2, rfl, rfl, rfl, w2⟩ := open_int Try.underlying39 (hval 2 39 v2 rfl rfl) h2
  clear hA0 hval0 hsz0
  refine (walk a0 a1 a2 w1 w2 hT0 n0 m0 W rfl).mono fun e W' ⟨he, bel⟩ => ?_
  subst he
  exact ⟨_, rfl, _, _, _, [], _, [], hW', trodAll_mk1 (shut_bool Try.underlying4 _), (trodAll_cons_mk (Below.trod (show laidOutB Try.prog = true by kernel_rfl) (by kernel_rfl) (of_decide_eq_true (by kernel_rfl)) h0k bel hlt0) (trodAll_cons_mk (shut_int Try.underlying34 w1) (trodAll_cons_mk (shut_int Try.underlying39 w2) trodAll_mk0))), rfl, bel.frame _, fun h => by cases h⟩

theorem over : Rows.segTurnedRow.holds Try.pinned (OpenSpec.ofChange Rows.segTurnedSpec) :=
  OpenClaim.holds_of_wide 5 Try.f5 rfl rfl rfl rfl rfl rfl rfl ⟨rfl, rfl, rfl, rfl, rfl⟩ rfl rfl rfl rfl rfl (by kernel_rfl) Try.func5 (by kernel_rfl)
    (of_decide_eq_true (by kernel_rfl)) (by unfold Func.isWrapper; first | (rw [if_pos (by decide +kernel)]; kernel_rfl) | (rw [if_neg (by decide +kernel)]; exact ⟨rfl, rfl⟩))
    (fun os started H enc _ => lifted os started H enc)

/-- THE STATEMENT -/
theorem proved : Rows.SegTurnedSaid := over

end Go.Proofs.Ythimjdknafgfbaa.segTurned
