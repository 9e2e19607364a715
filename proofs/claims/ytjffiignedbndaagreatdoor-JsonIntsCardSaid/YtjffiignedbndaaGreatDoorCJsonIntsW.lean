/-
  THE WALK of codicillaw02.JsonInts: a number's digits are that number, in a text, too; with a point, or an e, behind they are none that Int tells; a text in quotes is read as itself. No conditions. (The tied card: the library's variables as the program's text lays them.)
-/
import Derived.Test.YtjffiignedbndaaGreatDoorN7
import Derived.Test.YtjffiignedbndaaGreatDoorCJsonDig
import Derived.Deep.DeepCutAuto
import Derived.ProofKit
import Derived.OpenShut
import Derived.ShutString
import Derived.SizedLaws
set_option linter.unusedSimpArgs false
set_option linter.unusedVariables false
namespace Go.Proofs.YtjffiignedbndaaGreatDoor.jsonInts
open Go.ChangeShapes Go.WideShapes Go.ChangeAt Go.RowKit
open Go.ChangeMaps (open_string shut_string)
set_option linter.unusedVariables false
theorem text_shape {w W : World} {e : Ending} {k : Nat} {t : ByteArray} (h : ParseEnd w (.ok (.mk k t [] [])) e W) : Below w.heap.size w W ∧ ∃ a2 p2 a3 p3, e = .returned (.tuple #[.agg #[.int .u8 (k : Nat), .string t, .slice a2 0 p2, .slice a3 0 p3], .agg #[.int .i64 0, .int .i64 0]]) := by
  obtain ⟨hb, c0, c1, c2, c3, rfl, hv⟩ := h
  have hv0 := IsV.stays (lo' := 0) (Stays.refl _ W) (Nat.zero_le _) _ _ _ _ _ hv
  obtain ⟨a2, p2, a3, p3, rfl, rfl, rfl, rfl, _, _⟩ := IsV.opened hv0
  exact ⟨hb, a2, p2, a3, p3, rfl⟩
theorem int_yes (n : Int) (h0 : -9223372036854775808 ≤ n) (h1 : n ≤ 9223372036854775807) : intN 4 ⟨(numT n).toArray⟩ = n ∧ intB 4 ⟨(numT n).toArray⟩ = true := by
  have e : intO 4 ⟨(numT n).toArray⟩ = some n := by
    unfold intO
    have h : numS ⟨(numT n).toArray⟩ = true := numT_is n
    rw [h]
    simp only [BEq.rfl, Bool.and_true, if_true]
    rw [parse_num n h0 h1]
  unfold intN intB
  rw [e]
  exact ⟨rfl, rfl⟩
theorem int_none {k : Int} {t : ByteArray} (h : intO k t = none) : intN k t = 0 ∧ intB k t = false := by
  unfold intN intB
  rw [h]
  exact ⟨rfl, rfl⟩
theorem int_more (n : Int) (c d : UInt8) (hc : ¬ (48 ≤ c.toNat ∧ c.toNat ≤ 57)) (h0 : -9223372036854775808 ≤ n) (h1 : n ≤ 9223372036854775807) : intN 4 (⟨(numT n).toArray⟩ ++ ⟨#[c, d]⟩) = 0 ∧ intB 4 (⟨(numT n).toArray⟩ ++ ⟨#[c, d]⟩) = false := by
  refine int_none ?_
  unfold intO
  have e : (ByteArray.mk (numT n).toArray ++ ⟨#[c, d]⟩).data.toList = numT n ++ c :: [d] := by
    rw [ByteArray.data_append, Array.toList_append]
  rw [e, parse_more n c [d] hc h0 h1]
  split <;> rfl
set_option linter.unusedSimpArgs false in
set_option maxRecDepth 10000000 in
set_option maxHeartbeats 8000000 in
theorem walk (a0 : Int) (a1 : ByteArray) (w0 : (Lit.int .i64 a0).wf = true) (w1 : a1.size ≤ maxLen) (z1 : a1.size ≤ reachBytes) (w : World) (hvars : Vars w) :
    Calls Tryz.prog 9 #[.int .i64 a0, .string a1] w fun e w' => e = .returned (.bool true) ∧ Below w.heap.size w w' := by
  have hal := alive_any
  unfold reachBytes at z1
  have acc0 : Below w.heap.size w w := Below.refl _ _
  by_cases hbig : 4096 < a1.size
  · have hb2 : (4096 : Int) < (a1.size : Int) := by omega
    clear w0 w1
    go_enter Tryz.func9, Tryz.ntmps9
    go_wp2_with (go_at_call 10; refine (hal _ hvars).mono ?_; rintro e w' ⟨rfl, hb⟩)
    go_ret
    exact ⟨rfl, hb⟩
  have hsmall : (a1.size : Int) ≤ 4096 := by omega
  obtain ⟨b0, b9⟩ := bounds_i64 w0
  have h0 : -9223372036854775808 ≤ a0 := b0
  have h1 : a0 ≤ 9223372036854775807 := b9
  have hnl : (numT a0).length ≤ 21 := by
    have := dg_len 19 a0.natAbs (by omega)
    unfold numT
    split
    · simp; omega
    · omega
  have hrd : readP (numT a0) = .ok (.mk 4 ⟨(numT a0).toArray⟩ [] []) := by
    obtain ⟨b, u, e, hb⟩ := numT_head a0
    exact read_num e hb (numT_chars a0) (numT_is a0) (by omega)
  have htz : (ByteArray.mk (numT a0).toArray).size ≤ 21 := by show (numT a0).toArray.size ≤ 21; simpa using hnl
  have cD := fun w => digits_any a0 w h0 h1
  have cP := fun w => parse_any ⟨(numT a0).toArray⟩ w (by unfold maxLen; omega)
  rw [show (ByteArray.mk (numT a0).toArray).data.toList = numT a0 by simp, hrd] at cP
  have cI1 := fun (kv lv : Value) (w : World) (hv : Vars w) => int_any 4 ⟨(numT a0).toArray⟩ kv lv w hv (by omega)
  have hsz2 : ∀ c d : UInt8, (ByteArray.mk (numT a0).toArray ++ ⟨#[c, d]⟩).size ≤ 140737488355328 := fun c d => by
    rw [ByteArray.size_append]
    show _ + 2 ≤ _
    omega
  have cI2 := fun (kv lv : Value) (w : World) (hv : Vars w) => int_any 4 (⟨(numT a0).toArray⟩ ++ ⟨#[46, 48]⟩) kv lv w hv (hsz2 _ _)
  have cI3 := fun (kv lv : Value) (w : World) (hv : Vars w) => int_any 4 (⟨(numT a0).toArray⟩ ++ ⟨#[101, 48]⟩) kv lv w hv (hsz2 _ _)
  have cI4 := fun (kv lv : Value) (w : World) (hv : Vars w) => int_any 5 ⟨(numT a0).toArray⟩ kv lv w hv (by omega)
  rw [(int_yes a0 h0 h1).1, (int_yes a0 h0 h1).2] at cI1
  rw [(int_more a0 46 48 (by decide) h0 h1).1, (int_more a0 46 48 (by decide) h0 h1).2] at cI2
  rw [(int_more a0 101 48 (by decide) h0 h1).1, (int_more a0 101 48 (by decide) h0 h1).2] at cI3
  rw [(int_none (k := 5) (t := ⟨(numT a0).toArray⟩) rfl).1, (int_none (k := 5) (t := ⟨(numT a0).toArray⟩) rfl).2] at cI4
  have cQ := fun w => quoteTop_any a1 w w1
  have hQ : quotE a1 = 0 → quotS a1 = ⟨(quoL a1.data.toList).toArray⟩ ∧ readP (quoL a1.data.toList) = .ok (.mk 5 a1 [] []) ∧ (ByteArray.mk (quoL a1.data.toList).toArray).size ≤ 65536 := by
    intro he
    cases hv : validB a1
    · rw [(quot_bad hv).2] at he
      cases he
    · obtain ⟨q1, q2⟩ := quot_good hv
      rw [q2] at he
      have hfit : (ByteArray.mk (quoL a1.data.toList).toArray).size ≤ 65536 := by
        by_cases hf : (ByteArray.mk (quoL a1.data.toList).toArray).size ≤ 65536
        · exact hf
        · rw [(fit_no hf).2] at he
          cases he
      refine ⟨by rw [q1, (fit_yes hfit).1], ?_, hfit⟩
      have hl : lenF a1.data.toList = a1.data.toList.length := valid_all hv
      have := read_quo hl (by have h2 : (quoL a1.data.toList).toArray.size ≤ 65536 := hfit; simpa using h2)
      rw [this]
  clear w0 b0 b9 hrd hnl
  generalize ByteArray.mk (numT a0).toArray = t at *
  have htz2 : (t.size : Int) ≤ 21 := by omega
  go_enter Tryz.func9, Tryz.ntmps9
  go_upto_region 5 with (first | (go_at_call 29; refine (cD _).mono ?_; rintro e w1 ⟨rfl, hb1⟩) | (go_at_call 11; refine (cP _).mono ?_; rintro e w2 hP; obtain ⟨hb2, a2, p2, a3, p3, rfl⟩ := text_shape hP))
  have hVal := heap_alloc2_old w2 (.cells #[.int .u8 4, .string t, .slice a2 0 p2, .slice a3 0 p3] 26) (.cells #[.int .i64 0, .int .i64 0] 29)
  have hFlt := heap_alloc2_new w2 (.cells #[.int .u8 4, .string t, .slice a2 0 p2, .slice a3 0 p3] 26) (.cells #[.int .i64 0, .int .i64 0] 29)
  have acc2 := acc0.trans (hb1.trans ((hb2.trans ((((Below.refl _ w2).alloc (Nat.le_refl _) (.cells #[.int .u8 4, .string t, .slice a2 0 p2, .slice a3 0 p3] 26)).alloc (by simp) (.cells #[.int .i64 0, .int .i64 0] 29)).mono hb2.size)).mono hb1.size))
  generalize (w2.alloc (.cells #[.int .u8 4, .string t, .slice a2 0 p2, .slice a3 0 p3] 26)).alloc (.cells #[.int .i64 0, .int .i64 0] 29) = W2 at *
  generalize w2.heap.size = n6 at *
  clear hb1 hb2 hP acc0
  have x0 := Lib.cell_of_heap hVal 0
  have x1 := Lib.cell_of_heap hVal 1
  have x2 := Lib.cell_of_heap hVal 2
  have x3 := Lib.cell_of_heap hVal 3
  have v2 := hvars.below acc2
  go_upto_region 6 with (go_at_call 23; refine (cI1 _ _ _ v2).mono ?_; rintro e W3 ⟨rfl, b3⟩)
  have hF3 := (b3.block _ (Array.getElem?_eq_some_iff.1 hFlt).1).trans hFlt
  have acc3 := acc2.trans (b3.mono acc2.size)
  have v3 := hvars.below acc3
  have z46 : (t ++ ⟨#[46, 48]⟩).size ≤ 30 := by rw [ByteArray.size_append]; show _ + 2 ≤ _; omega
  have z101 : (t ++ ⟨#[101, 48]⟩).size ≤ 30 := by rw [ByteArray.size_append]; show _ + 2 ≤ _; omega
  clear x0 x1 x2 x3 v2 b3 acc2 cI1 hVal hFlt
  go_upto_region 7 with (go_at_call 23; refine (cI2 _ _ _ v3).mono ?_; rintro e W4 ⟨rfl, b4⟩)
  have hF4 := (b4.block _ (Array.getElem?_eq_some_iff.1 hF3).1).trans hF3
  have acc4 := acc3.trans (b4.mono acc3.size)
  have v4 := hvars.below acc4
  clear v3 b4 acc3 hF3 cI2
  go_upto_region 8 with (go_at_call 23; refine (cI3 _ _ _ v4).mono ?_; rintro e W5 ⟨rfl, b5⟩)
  have hF5 := (b5.block _ (Array.getElem?_eq_some_iff.1 hF4).1).trans hF4
  have acc5 := acc4.trans (b5.mono acc4.size)
  have v5 := hvars.below acc5
  clear v4 b5 acc4 hF4 cI3
  go_upto_region 9 with (go_at_call 23; refine (cI4 _ _ _ v5).mono ?_; rintro e W6 ⟨rfl, b6⟩)
  have hF6 := (b6.block _ (Array.getElem?_eq_some_iff.1 hF5).1).trans hF5
  have acc6 := acc5.trans (b6.mono acc5.size)
  clear v5 b6 acc5 hF5 cI4
  have f0 := Lib.cell_of_heap hF6 0
  have f1 := Lib.cell_of_heap hF6 1
  go_upto_region 11 with (fail)
  go_upto_region 12 with (go_at_call 17; refine (cQ _).mono ?_; rintro e W7 ⟨rfl, b7⟩)
  have acc7 := acc6.trans (b7.mono acc6.size)
  clear b7 acc6 hF6 f0 f1 cQ
  have v7 := hvars.below acc7
  by_cases hq0 : quotE a1 = 0
  · obtain ⟨q1, q2, q3⟩ := hQ hq0
    rw [hq0, q1]
    have cP2 := fun w => parse_any ⟨(quoL a1.data.toList).toArray⟩ w (by unfold maxLen; omega)
    rw [show (ByteArray.mk (quoL a1.data.toList).toArray).data.toList = quoL a1.data.toList by simp, q2] at cP2
    generalize ByteArray.mk (quoL a1.data.toList).toArray = q at *
    clear hQ hq0 q1 q2
    go_upto_region 14 with (go_at_call 11; refine (cP2 _).mono ?_; rintro e w8 hP; obtain ⟨b8, a4, p4, a5, p5, rfl⟩ := text_shape hP)
    have hVal := heap_alloc2_old w8 (.cells #[.int .u8 5, .string a1, .slice a4 0 p4, .slice a5 0 p5] 26) (.cells #[.int .i64 0, .int .i64 0] 29)
    have hFlt := heap_alloc2_new w8 (.cells #[.int .u8 5, .string a1, .slice a4 0 p4, .slice a5 0 p5] 26) (.cells #[.int .i64 0, .int .i64 0] 29)
    have acc8 := acc7.trans ((b8.trans ((((Below.refl _ w8).alloc (Nat.le_refl _) (.cells #[.int .u8 5, .string a1, .slice a4 0 p4, .slice a5 0 p5] 26)).alloc (by simp) (.cells #[.int .i64 0, .int .i64 0] 29)).mono b8.size)).mono acc7.size)
    generalize (w8.alloc (.cells #[.int .u8 5, .string a1, .slice a4 0 p4, .slice a5 0 p5] 26)).alloc (.cells #[.int .i64 0, .int .i64 0] 29) = W8 at *
    generalize w8.heap.size = n8 at *
    have x0 := Lib.cell_of_heap hVal 0
    have x1 := Lib.cell_of_heap hVal 1
    have f0 := Lib.cell_of_heap hFlt 0
    have f1 := Lib.cell_of_heap hFlt 1
    have v8 := hvars.below acc8
    have hself : (a1.toList != a1.toList) = false := by simp
    clear hP b8 acc7 v7 cP2
    go_wp2_with (go_at_call 10; refine (hal _ v8).mono ?_; rintro e W9 ⟨rfl, b9⟩)
    go_ret
    exact ⟨rfl, acc8.trans (b9.mono acc8.size)⟩
  · have hq1 : (quotE a1 == 0) = false := beq_false_of_ne hq0
    clear hQ
    generalize quotE a1 = qe at *
    go_wp2_with (go_at_call 10; refine (hal _ v7).mono ?_; rintro e W9 ⟨rfl, b9⟩)
    go_ret
    exact ⟨rfl, acc7.trans (b9.mono acc7.size)⟩
end Go.Proofs.YtjffiignedbndaaGreatDoor.jsonInts
