/-
  For every text, every place and all bits codicillaw04.CrcTurned returns true: bits which are turned within 32 in a row always change the sum. No conditions.
-/
import Derived.Test.YtgpoighenlfbjaaCrcWorks
import Derived.Test.YtgpoighenlfbjaaCrcTurnM
import Derived.Test.YtgpoighenlfbjaaOwnC
import Derived.Lib.SlBytesConst
import Derived.ProofKit
import Derived.OpenShut
import Derived.ShutString
import Derived.SizedLaws
namespace Go.Proofs.Ytgpoighenlfbjaa.crcTurned
open Go.ChangeShapes Go.WideShapes Go.ChangeAt Go.RowKit
open Go.ChangeMaps (open_string shut_string)
set_option linter.unusedVariables false

theorem back8 (l : List UInt8) : (strOfNums (nI8 l)).data.toList = l := by
  unfold nI8
  rw [strOfNums_data, List.map_map]
  have : ∀ b ∈ l, ((fun n : Int => UInt8.ofNat n.toNat) ∘ fun b : UInt8 => (b.toNat : Int)) b = b := by
    intro b _
    simp
  rw [List.map_congr_left this, List.map_id'']
  intro x; rfl
set_option linter.unusedSimpArgs false in
set_option maxHeartbeats 4000000 in
set_option maxRecDepth 10000000 in
theorem walk (a0 : ByteArray) (a1 a2 : Int) (w0 : a0.size ≤ maxLen) (w1 : (Lit.int .u16 a1).wf = true) (w2 : (Lit.int .u32 a2).wf = true) (z0 : a0.size ≤ reachBytes) (w : World) :
    Calls Try.prog 5 #[.string a0, .int .u16 a1, .int .u32 a2] w fun e w' => e = .returned (.bool true) ∧ Below w.heap.size w w' := by
  have hwks := works_any
  unfold reachBytes at z0
  have acc : Below w.heap.size w w := Below.refl _ _
  by_cases hbig : 16384 < a0.size
  · have hb2 : (16384 : Int) < (a0.size : Int) := by omega
    clear w0 w1 w2
    go_enter Try.func5, Try.ntmps5
    go_wp2_with (go_at_call 6; refine (hwks _).mono ?_; rintro e w' ⟨rfl, hb⟩; have acc := acc.trans (hb.mono acc.size); clear hb)
    go_ret
    exact ⟨rfl, acc⟩
  have hsmall : (a0.size : Int) ≤ 16384 := by omega
  by_cases hempty : a0.size = 0
  · have he : (a0.size : Int) = 0 := by omega
    clear w0 w1 w2 hbig z0 hempty
    go_enter Try.func5, Try.ntmps5
    go_wp2_with (go_at_call 6; refine (hwks _).mono ?_; rintro e w' ⟨rfl, hb⟩; have acc := acc.trans (hb.mono acc.size); clear hb)
    go_ret
    exact ⟨rfl, acc⟩
  have hne0 : ((a0.size : Int) == 0) = false := beq_false_of_ne (by omega)
  by_cases hb0 : a2 = 0
  · subst hb0
    clear w0 w1 w2 hbig z0
    go_enter Try.func5, Try.ntmps5
    go_wp2_with (go_at_call 6; refine (hwks _).mono ?_; rintro e w' ⟨rfl, hb⟩; have acc := acc.trans (hb.mono acc.size); clear hb)
    go_ret
    exact ⟨rfl, acc⟩
  have hnb : (a2 == 0) = false := beq_false_of_ne hb0
  obtain ⟨b0, b9⟩ := bounds_u32 w2
  obtain ⟨x, hx⟩ : ∃ s : B32, vI s = a2 := ⟨BitVec.ofNat 32 a2.toNat, by unfold vI; rw [BitVec.toNat_ofNat]; omega⟩
  obtain ⟨c0, c9⟩ := bounds_u16 w1
  obtain ⟨y, rfl⟩ := Int.eq_ofNat_of_zero_le c0
  have hnp : 0 < 8 * a0.size := by omega
  obtain ⟨F, hF⟩ : ∃ F, F = y % (8 * a0.size) := ⟨_, rfl⟩
  have e1 : (y : Int) % (8 * (a0.size : Int)) = (F : Int) := by rw [hF, Int.natCast_emod, Int.natCast_mul]; rfl
  have e2 : (8 * (a0.size : Int) == 0) = false := beq_false_of_ne (by omega)
  have hFl : F < 8 * a0.size := by rw [hF]; exact Nat.mod_lt _ hnp
  obtain ⟨cap, fz, hcv, hO⟩ := run_bytes a0 w w0
  have hb3 : Below w.heap.size w (w.drew.alloc (.cells (bytesRow a0 cap) 5 fz)) := (Below.refl _ _).drew.alloc (Nat.le_refl _) _
  generalize w.drew.alloc (.cells (bytesRow a0 cap) 5 fz) = w3 at hcv hO hb3
  have hO : OC .u8 w3 w.heap.size w.heap.size cap (nI8 a0.data.toList) := hO
  have X := Lib.hid hx
  clear hF w1 w2 hbig hx
  go_enter Try.func5, Try.ntmps5
  go_wp2
  rw [e1]
  clear e1 e2 hne0 hnb
  have hl0 : a0.data.toList.length = a0.size := (Lib.size_eq a0).symm
  have HL0 := Lib.hid hl0
  clear hl0 hempty hb0 hnp
  go_loopw [9, 10] (fun vt v wr => ∃ (j : Nat) (t : Bool) (l : List UInt8), v = .int .i64 j ∧ j ≤ 32 ∧ vt = .bool t ∧ l.length = a0.size ∧ (t = true → lowB x j ≠ 0#32) ∧ regF (~~~ 0#32) l = regF (~~~ 0#32) a0.data.toList ^^^ shN (8 * l.length - F) (lowB x j) ∧ OC .u8 wr w.heap.size w.heap.size cap (nI8 l) ∧ Below w.heap.size w wr) (fun _ v _ => 32 - (intOf v).toNat)
  case atStart => exact ⟨0, false, a0.data.toList, rfl, by omega, rfl, HL0.out, (fun h => by cases h), by rw [lowB, shN_zero, BitVec.xor_zero], hO, hb3⟩
  case round =>
    clear hO hb3
    obtain ⟨j, t, l, rfl, hj, rfl, hl, ht, hreg, hO, hB⟩ := hrel
    have HT := Lib.hid ht
    have HR := Lib.hid hreg
    have HL := Lib.hid hl
    clear ht hreg hl
    by_cases hin : j < 32 ∧ F + j < 8 * a0.size
    · obtain ⟨h32, hFj⟩ := hin
      have hlt1 : decide ((j : Int) < 32) = true := by simp; omega
      have hlt2 : decide ((F : Int) + (j : Int) < 8 * (a0.size : Int)) = true := by simp; omega
      have hbv := bit_val x j
      rw [X.out] at hbv
      obtain ⟨q, hq⟩ : ∃ q, q = (F + j) / 8 := ⟨_, rfl⟩
      obtain ⟨r, hr⟩ : ∃ q, q = (F + j) % 8 := ⟨_, rfl⟩
      have hr8 : r < 8 := by omega
      have hqr : 8 * q + r = F + j := by omega
      have hqn : q < a0.size := by omega
      have eq1 : ((F : Int) + (j : Int)) / 8 = (q : Int) := by omega
      have er1 : ((F : Int) + (j : Int)) % 8 = (r : Int) := by omega
      have HQR := Lib.hid hqr
      clear hq hr hqr
      by_cases hbit : x.getLsbD j = true
      · rw [if_pos hbit] at hbv
        have hql : q < l.length := by rw [HL.out]; exact hqn
        have hfv := flip_val (l[q]'hql) r hr8
        have hcell := hO.cells q (by rw [nI8_len]; exact hql)
        rw [nI8_get hql] at hcell
        have hfree := hO.free (j := q) (by rw [nI8_len]; exact hql)
        have hO2 := hO.set (j := q) (by rw [nI8_len]; exact hql) (((l[q]'hql) ^^^ UInt8.ofNat (2 ^ r)).toNat : Int)
        rw [nI8_set] at hO2
        have HON := Lib.hid (turn_on HR.out h32 hbit hql hr8 HQR.out)
        have HNE := Lib.hid (lowB_ne h32 hbit)
        have hB2 := hB.setCell (p := ⟨w.heap.size, q, none⟩) (Nat.le_refl _) (.int .u8 (((l[q]'hql) ^^^ UInt8.ofNat (2 ^ r)).toNat : Int))
        have HLL : Hid ((l.set q (l[q]'hql ^^^ UInt8.ofNat (2 ^ r))).length = a0.size) := Lib.hid (by rw [List.length_set]; exact HL.out)
        have HLS : Hid ((l.set q (l[q]'hql ^^^ UInt8.ofNat (2 ^ r))).length = l.length) := Lib.hid (by rw [List.length_set])
        generalize l.set q (l[q]'hql ^^^ UInt8.ofNat (2 ^ r)) = l2 at *
        generalize ((l[q]'hql) ^^^ UInt8.ofNat (2 ^ r)).toNat = c2 at *
        generalize (l[q]'hql).toNat = c1 at *
        clear hbit hql
        go_wp2
        go_roundw
        case rel => exact ⟨j + 1, true, l2, by go_num, by omega, rfl, HLL.out, fun _ => HNE.out, by rw [HLS.out]; exact HON.out, hO2, hB2⟩
        case measure => simp [intOf]; omega
      · rw [if_neg hbit] at hbv
        have HON : Hid (lowB x (j + 1) = lowB x j) := Lib.hid (by rw [lowB, if_neg hbit])
        clear hbit
        go_wp2
        go_roundw
        case rel => exact ⟨j + 1, t, l, by go_num, by omega, rfl, HL.out, by rw [HON.out]; exact HT.out, by rw [HON.out]; exact HR.out, hO, hB⟩
        case measure => simp [intOf]; omega
    · have hout : j = 32 ∨ (j < 32 ∧ 8 * a0.size ≤ F + j) := by omega
      have hconv := run_convert_bytes_arg (P := Try.prog) wr 30 5 Try.underlying30 Try.underlying5 w.heap.size 0 a0.size cap (nI8 l) (by rw [nI8_len]; exact HL.out) (by intro i hi; rw [Nat.zero_add]; exact hO.cells i (by rw [nI8_len, HL.out]; exact hi)) 9 Try.underlying9
      have hstr : (strOfNums (nI8 l)).data.toList = l := back8 l
      have hssz : (strOfNums (nI8 l)).size = a0.size := by rw [Lib.size_eq, hstr]; exact HL.out
      have cB := fun w => of_any (strOfNums (nI8 l)) w (by rw [hssz]; exact w0)
      have cA := fun w => of_any a0 w w0
      rw [hstr] at cB
      have hne : t = true → vI (moreB 0#32 l) ≠ vI (moreB 0#32 a0.data.toList) := fun h => turned_ne HR.out (HT.out h)
      generalize strOfNums (nI8 l) = b at hconv cB
      generalize vI (moreB 0#32 l) = v1 at *
      generalize vI (moreB 0#32 a0.data.toList) = v2 at *
      clear hstr hssz hin HR HT hO
      cases t
      · clear hne
        rcases hout with rfl | ⟨h32, hFj⟩
        all_goals
          go_wp2_with (go_at_call 6; refine (hwks _).mono ?_; rintro e w' ⟨rfl, hb⟩; have hB := hB.trans (hb.mono hB.size); clear hb)
          go_ret
          exact ⟨rfl, hB⟩
      · have hne2 : (v1 == v2) = false := beq_false_of_ne (hne rfl)
        have hne3 : (v1 != v2) = true := by simp [bne, hne2]
        clear hne
        rcases hout with rfl | ⟨h32, hFj⟩
        all_goals
          go_wp2_with (first | (go_at_call_of 7 (Value.string b); refine (cB _).mono ?_; rintro e w' ⟨rfl, hb⟩; have hB := hB.trans (hb.mono hB.size); clear hb) | (go_at_call_of 7 (Value.string a0); refine (cA _).mono ?_; rintro e w' ⟨rfl, hb⟩; have hB := hB.trans (hb.mono hB.size); clear hb) | (go_at_call 6; refine (hwks _).mono ?_; rintro e w' ⟨rfl, hb⟩; have hB := hB.trans (hb.mono hB.size); clear hb))
          go_ret
          exact ⟨rfl, hB⟩

/-! ### From the walk to the statement -/
theorem own : ownKnob Try.prog.godebug = none := by kernel_rfl
set_option maxRecDepth 100000 in
theorem lifted (os : Os) (started : os.Started) (H : Type) (enc : TypeId × Value → H) :
    ReturnsInHanded {} Try.checked os 5 .any (Rows.crcTurnedSpec.pre6 enc Try.prog Try.f5 Rows.crcTurnedRow.domain false) (Rows.crcTurnedSpec.post enc Try.prog Try.f5 false true false false) := by
  refine returnsInHanded_of_change_sized (C := Try.checked) own started (by kernel_rfl) Try.func5
    (ChangeSpec.witness6 (enc := enc) (C := Try.checked) false ⟨#[], #[.string ByteArray.empty, .int .u16 0, .int .u32 0], []⟩ 8 (by kernel_rfl) (by kernel_rfl) (by kernel_rfl) (by kernel_rfl)) ?_
  intro W base args ds gs before hval0 hW hcnd hsz0 _
  have hval : ∀ (j : Nat) t v, Try.f5.params[j]? = some t → args[j]? = some v → Value.okWide Try.prog W .any base t v := hval0
  have hsz : (DataW.weightsEach Try.prog (Try.f5.params.toList ++ Rows.crcTurnedSpec.plain.varTypes Try.prog) (ds ++ gs)).all (· ≤ reachBytes) = true := hsz0
  have hW' := hW
  obtain ⟨p, q, hA0, hV, rfl, hfz, hnd⟩ := hW
  have hA : DataW.TrodAll enc Try.prog W 0 (fun _ => true) true Try.f5.params.toList args.toList ds p := hA0
  rw [Try.params5] at hA hval hsz
  obtain ⟨v0, vs0, d0, ds0, p0, q0, hargs, rfl, rfl, h0, r0⟩ := trodAll_cons hA
  obtain ⟨v1, vs1, d1, ds1, p1, q1, rfl, rfl, rfl, h1, r1⟩ := trodAll_cons r0
  obtain ⟨v2, vs2, d2, ds2, p2, q2, rfl, rfl, rfl, h2, r2⟩ := trodAll_cons r1
  obtain ⟨rfl, rfl, rfl⟩ := trodAll_nil r2
  obtain rfl : args = #[v0, v1, v2] := by cases args; simp_all
  obtain ⟨rfl, rfl⟩ := trodVars_none hV
  obtain ⟨a0, rfl, rfl, rfl, w0⟩ := open_string Try.underlying9 (hval 0 9 v0 rfl rfl) h0
  obtain ⟨a1, rfl, rfl, rfl, w1⟩ := open_int Try.underlying28 (hval 1 28 v1 rfl rfl) h1
  obtain ⟨a2, rfl, rfl, rfl, w2⟩ := open_int Try.underlying22 (hval 2 22 v2 rfl rfl) h2
  have z0 : a0.size ≤ reachBytes := by
    rw [Lib.size_eq]
    exact sized_string hsz (j := 0) (t := 9) rfl rfl
  clear hA0 hval0 hsz0
  refine (walk a0 a1 a2 w0 w1 w2 z0 W).mono fun e W' ⟨he, bel⟩ => ?_
  subst he
  exact ⟨_, rfl, _, _, _, [], _, [], hW', trodAll_mk1 (shut_bool Try.underlying4 _), (trodAll_cons_mk (shut_string Try.underlying9 w0) (trodAll_cons_mk (shut_int Try.underlying28 w1) (trodAll_cons_mk (shut_int Try.underlying22 w2) trodAll_mk0))), rfl, bel.frame _, fun h => by cases h⟩

theorem over : Rows.crcTurnedRow.holds Try.pinned (OpenSpec.ofChange Rows.crcTurnedSpec) :=
  OpenClaim.holds_of_wide 5 Try.f5 rfl rfl rfl rfl rfl rfl rfl ⟨rfl, rfl, rfl, rfl, rfl⟩ rfl rfl rfl rfl rfl (by kernel_rfl) Try.func5 (by kernel_rfl)
    (of_decide_eq_true (by kernel_rfl)) (by unfold Func.isWrapper; first | (rw [if_pos (by decide +kernel)]; kernel_rfl) | (rw [if_neg (by decide +kernel)]; exact ⟨rfl, rfl⟩))
    (fun os started H enc _ => lifted os started H enc)

/-- THE STATEMENT -/
theorem proved : Rows.CrcTurnedSaid := over

end Go.Proofs.Ytgpoighenlfbjaa.crcTurned
