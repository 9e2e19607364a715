/-
  TEXTS OF THE SEAT, put together: JsonTake, JsonNext, JsonTak2, JsonEsc, JsonPar1, JsonPar2, JsonPar3, JsonHeld, JsonArr, JsonArr2, JsonSameM.
-/
import Derived.Test.YtakdhfjlhkejdaaGreatDoorN2
import Derived.Deep.QuietTactic
import Derived.BigQuiet
import Derived.RegionTactic
import Derived.Deep.RegionWith
import Derived.Lib.BufferOwn
import Derived.IntWalk
import Derived.Test.YtakdhfjlhkejdaaGreatDoorShelf
import Derived.OrdersHeld
import Derived.Deep.RegionLaw
import Derived.Deep.AppendLies
import Derived.OwnWalk
import Derived.WalkSmall
set_option linter.unusedSimpArgs false
set_option linter.unusedVariables false

/-
  CONTRACTS of package json's parser: take, next, pass, fault: what each answers at a place of a text, which fault it panics with, and that every block but the parser's stands as it stood.
-/
set_option linter.unusedVariables false
namespace Go.Proofs.YtakdhfjlhkejdaaGreatDoor
open Go.RowKit

/-- the parser's block: the text, the place, how many values have begun, how many arrays and objects are open -/
def PS (w : World) (pb : Nat) (s : ByteArray) (a v o : Nat) : Prop := w.heap[pb]? = some (.cells #[.string s, .int .i64 a, .int .i64 v, .int .i64 o] 59 (0, 0))
theorem PS.cells {w : World} {pb : Nat} {s : ByteArray} {a v o : Nat} (h : PS w pb s a v o) :
    w.cell? ⟨pb, 0, none⟩ = some (.string s) ∧ w.cell? ⟨pb, 1, none⟩ = some (.int .i64 a) ∧ w.cell? ⟨pb, 2, none⟩ = some (.int .i64 v) ∧ w.cell? ⟨pb, 3, none⟩ = some (.int .i64 o) := by
  unfold PS at h
  exact ⟨by rw [Lib.cell_of_heap h]; rfl, by rw [Lib.cell_of_heap h]; rfl, by rw [Lib.cell_of_heap h]; rfl, by rw [Lib.cell_of_heap h]; rfl⟩
theorem PS.frozen {w : World} {pb : Nat} {s : ByteArray} {a v o : Nat} (h : PS w pb s a v o) (j : Nat) : w.frozen? ⟨pb, j, none⟩ = false := Lib.frozen_of_heap h j
theorem PS.lt {w : World} {pb : Nat} {s : ByteArray} {a v o : Nat} (h : PS w pb s a v o) : pb < w.heap.size := (Array.getElem?_eq_some_iff.1 h).1
theorem PS.below {w w' : World} {pb : Nat} {s : ByteArray} {a v o : Nat} (h : PS w pb s a v o) (hb : Below w.heap.size w w') : PS w' pb s a v o := (hb.block pb h.lt).trans h
theorem PS.set {w : World} {pb : Nat} {s : ByteArray} {a v o : Nat} (h : PS w pb s a v o) (j : Nat) (x : Value) : (w.setCell ⟨pb, j, none⟩ x).heap[pb]? = some (.cells (#[.string s, .int .i64 a, .int .i64 v, .int .i64 o].setIfInBounds j x) 59 (0, 0)) := by
  unfold PS at h
  simp [World.setCell, Array.getElem?_modify, h]
/-- all blocks but one stand as they stood -/
abbrev GB (pb : Nat) (w w' : World) : Prop := w.grownBy w' (some pb)
theorem GB.refl (pb : Nat) (w : World) : GB pb w w := World.grownBy.refl w _
theorem GB.trans {pb : Nat} {a b c : World} (h : GB pb a b) (k : GB pb b c) : GB pb a c := Lib.grownBy_trans h k
theorem Below.gb {w w' : World} (h : Below w.heap.size w w') (pb : Nat) : GB pb w w' := ⟨h.os, h.tape, h.output, h.size, fun k hk _ => h.block k hk⟩
theorem GB.set {pb : Nat} {a w : World} (h : GB pb a w) (j : Nat) (x : Value) : GB pb a (w.setCell ⟨pb, j, none⟩ x) := Lib.grownBy_setB h j x
theorem GB.drew {pb : Nat} {a w : World} (h : GB pb a w) : GB pb a w.drew := ⟨h.os, h.tape, h.output, h.size, h.block⟩

theorem span_from (p : Int → Bool) (s : ByteArray) (a : Nat) : spanS p (s.extract a s.size) = spanL p (s.data.toList.drop a) := by
  unfold spanS
  rw [from_data]
def skipS (s : ByteArray) (a : Nat) : Nat := skipL s.data.toList a
theorem skip_le (s : ByteArray) (a : Nat) (h : a ≤ s.size) : a ≤ skipS s a ∧ skipS s a ≤ s.size := by
  unfold skipS skipL
  have := spanL_le pWhite (s.data.toList.drop a)
  rw [List.length_drop, ← Lib.size_eq] at this
  omega
set_option maxRecDepth 10000000 in
set_option maxHeartbeats 8000000 in
theorem take_white (pb : Nat) (s : ByteArray) (a v o : Nat) (w : World) (hs : s.size ≤ maxLen) (hp : PS w pb s a v o) (ha : a ≤ s.size) :
    Calls Tryz.prog 63 #[.pointer (some ⟨pb, 0, none⟩), .func (.func 64) #[] #[]] w fun e w' => e = .returned (.string (s.extract a (a + spanL pWhite (s.data.toList.drop a)))) ∧ PS w' pb s (a + spanL pWhite (s.data.toList.drop a)) v o ∧ GB pb w w' := by
  have hs' := hs
  unfold maxLen at hs'
  obtain ⟨c0, c1, c2, c3⟩ := hp.cells
  have f1 := hp.frozen 1
  have hm : (s.extract a s.size).size ≤ maxLen := from_size hs
  have hsp := spanL_le pWhite (s.data.toList.drop a)
  rw [List.length_drop, ← Lib.size_eq] at hsp
  have hsf := span_from pWhite s a
  generalize spanL pWhite (s.data.toList.drop a) = n at *
  have Hsf := Lib.hid hsf
  clear hsf
  go_enter Tryz.func63, Tryz.ntmps63
  go_wp2_with fail
  go_region_with (go_at_call 84; refine (span_white _ _ hm).mono ?_; rintro e w1 ⟨rfl, hb1⟩; rw [Hsf.out]; have d0 := (hb1.cell (p := ⟨pb, 0, none⟩) hp.lt).trans c0; have d1 := (hb1.cell (p := ⟨pb, 1, none⟩) hp.lt).trans c1; have g1 := (hb1.frozen (p := ⟨pb, 1, none⟩) hp.lt).trans f1)
  all_goals have hb1' : Below w.heap.size w w1 := (Below.drew (Below.refl _ w)).trans hb1
  all_goals have hp1 := hp.below hb1'
  all_goals have hq1 := hp1.set 1 (.int .i64 (a + n : Nat))
  all_goals have hwr : IntKind.i64.wrap ((a : Int) + (n : Int)) = ((a + n : Nat) : Int) := by rw [IntWalk.i64_in _ (by omega)]; omega
  all_goals rw [hwr]
  all_goals clear hwr
  all_goals have hq2 : PS (w1.setCell ⟨pb, 1, none⟩ (.int .i64 (a + n : Nat))) pb s (a + n) v o := hq1
  all_goals have Hq2 := Lib.hid hq2
  all_goals have hgb : GB pb w (w1.setCell ⟨pb, 1, none⟩ (.int .i64 (a + n : Nat))) := (Below.gb hb1' pb).set 1 _
  all_goals obtain ⟨x0, x1, x2, x3⟩ := hq2.cells
  all_goals clear hq1 hq2 hp1 c0 c1 c2 c3 d0 d1
  all_goals generalize w1.setCell ⟨pb, 1, none⟩ (.int .i64 (a + n : Nat)) = w2 at *
  all_goals go_wp2_with fail
  all_goals go_region
  all_goals go_wp2_with fail
  all_goals go_ret
  all_goals exact ⟨rfl, Hq2.out, hgb.drew⟩
end Go.Proofs.YtakdhfjlhkejdaaGreatDoor

/-
  CONTRACTS of package json's parser: fault, next, pass.
-/
set_option linter.unusedVariables false
namespace Go.Proofs.YtakdhfjlhkejdaaGreatDoor
open Go.RowKit

/-- the panic with a fault -/
def Pan (a : Nat) (e : Nat) : Ending := .panicked [{ v := .iface 29 (.agg #[.int .i64 a, .int .i64 e]), recovered := false }]
set_option maxRecDepth 10000000 in
theorem fault_any (pb : Nat) (s : ByteArray) (a v o : Nat) (k : Int) (w : World) (hp : PS w pb s a v o) :
    Calls Tryz.prog 60 #[.pointer (some ⟨pb, 0, none⟩), .int .i64 k] w fun e w' => e = .returned (.agg #[.int .i64 a, .int .i64 k]) ∧ Below w.heap.size w w' := by
  obtain ⟨c0, c1, c2, c3⟩ := hp.cells
  have hlt := hp.lt
  go_enter Tryz.func60, Tryz.ntmps60
  go_wp2_with fail
  exact bodyPost_ret (v := .agg #[.int .i64 a, .int .i64 k]) (by simp [results, Tryz.results60, go_sem]) rfl ⟨rfl, (Below.refl _ _).alloc (Nat.le_refl _) _⟩
theorem skip_at (s : ByteArray) (a : Nat) : skipS s a = a + spanL pWhite (s.data.toList.drop a) := rfl
set_option maxRecDepth 10000000 in
set_option maxHeartbeats 4000000 in
theorem next_end (pb : Nat) (s : ByteArray) (a v o : Nat) (w : World) (hs : s.size ≤ maxLen) (hp : PS w pb s a v o) (ha : a ≤ s.size) (he : skipS s a = s.size) :
    Calls Tryz.prog 92 #[.pointer (some ⟨pb, 0, none⟩)] w fun e w' => e = Pan (skipS s a) 21 ∧ PS w' pb s (skipS s a) v o ∧ GB pb w w' := by
  have hs' := hs
  unfold maxLen at hs'
  have Hk := Lib.hid (skip_at s a)
  generalize skipS s a = q at *
  subst he
  go_enter Tryz.func92, Tryz.ntmps92
  go_wp2_with fail
  refine (take_white pb s a v o _ hs hp ha).mono ?_
  rintro e w1 ⟨rfl, hp1, hg1⟩
  rw [← Hk.out] at hp1
  obtain ⟨c0, c1, c2, c3⟩ := hp1.cells
  go_wp2_with fail
  go_region
  go_wp2_with fail
  refine (fault_any pb s s.size v o 21 w1.drew hp1).mono ?_
  rintro e w2 ⟨rfl, hb2⟩
  go_wp2_with fail
  exact ⟨rfl, rfl, PS.below hp1 ((Below.refl _ _).drew.trans hb2), hg1.trans (Below.gb ((Below.refl _ _).drew.trans hb2) pb)⟩

def byS (s : ByteArray) (i : Nat) : Nat := (s.data.toList.getD i 0).toNat
theorem get_by (s : ByteArray) (i : Nat) (h : i < s.size) : (s[i]'h).toNat = byS s i := by
  unfold byS
  rw [List.getD_eq_getElem?_getD, List.getElem?_eq_getElem (by rw [← Lib.size_eq]; exact h)]
  rfl
set_option maxRecDepth 10000000 in
set_option maxHeartbeats 4000000 in
theorem next_byte (pb : Nat) (s : ByteArray) (a v o : Nat) (w : World) (hs : s.size ≤ maxLen) (hp : PS w pb s a v o) (ha : a ≤ s.size) (he : skipS s a < s.size) :
    Calls Tryz.prog 92 #[.pointer (some ⟨pb, 0, none⟩)] w fun e w' => e = .returned (.int .u8 (byS s (skipS s a))) ∧ PS w' pb s (skipS s a) v o ∧ GB pb w w' := by
  have hs' := hs
  unfold maxLen at hs'
  have Hk := Lib.hid (skip_at s a)
  generalize skipS s a = q at *
  have Hg := Lib.hid (get_by s q he)
  go_enter Tryz.func92, Tryz.ntmps92
  go_wp2_with fail
  refine (take_white pb s a v o _ hs hp ha).mono ?_
  rintro e w1 ⟨rfl, hp1, hg1⟩
  rw [← Hk.out] at hp1
  obtain ⟨c0, c1, c2, c3⟩ := hp1.cells
  have hne : ((q : Int) == (s.size : Nat)) = false := by rw [beq_eq_false_iff_ne]; omega
  go_wp2_with fail
  go_region
  go_wp2_with fail
  go_region
  go_wp2_with fail
  go_ret
  rw [Hg.out]
  exact ⟨rfl, hp1, (hg1.drew).drew⟩
end Go.Proofs.YtakdhfjlhkejdaaGreatDoor

/-
  CONTRACTS of package json's parser: take, at letters, at a number's bytes, at plain bytes.
-/
set_option linter.unusedVariables false
namespace Go.Proofs.YtakdhfjlhkejdaaGreatDoor
open Go.RowKit

set_option maxRecDepth 10000000 in
set_option maxHeartbeats 8000000 in
theorem take_letter (pb : Nat) (s : ByteArray) (a v o : Nat) (w : World) (hs : s.size ≤ maxLen) (hp : PS w pb s a v o) (ha : a ≤ s.size) :
    Calls Tryz.prog 63 #[.pointer (some ⟨pb, 0, none⟩), .func (.func 94) #[] #[]] w fun e w' => e = .returned (.string (s.extract a (a + spanL pLetter (s.data.toList.drop a)))) ∧ PS w' pb s (a + spanL pLetter (s.data.toList.drop a)) v o ∧ GB pb w w' := by
  have hs' := hs
  unfold maxLen at hs'
  obtain ⟨c0, c1, c2, c3⟩ := hp.cells
  have f1 := hp.frozen 1
  have hm : (s.extract a s.size).size ≤ maxLen := from_size hs
  have hsp := spanL_le pLetter (s.data.toList.drop a)
  rw [List.length_drop, ← Lib.size_eq] at hsp
  have hsf := span_from pLetter s a
  generalize spanL pLetter (s.data.toList.drop a) = n at *
  have Hsf := Lib.hid hsf
  clear hsf
  go_enter Tryz.func63, Tryz.ntmps63
  go_wp2_with fail
  go_region_with (go_at_call 84; refine (span_letter _ _ hm).mono ?_; rintro e w1 ⟨rfl, hb1⟩; rw [Hsf.out]; have d0 := (hb1.cell (p := ⟨pb, 0, none⟩) hp.lt).trans c0; have d1 := (hb1.cell (p := ⟨pb, 1, none⟩) hp.lt).trans c1; have g1 := (hb1.frozen (p := ⟨pb, 1, none⟩) hp.lt).trans f1)
  all_goals have hb1' : Below w.heap.size w w1 := (Below.drew (Below.refl _ w)).trans hb1
  all_goals have hp1 := hp.below hb1'
  all_goals have hq1 := hp1.set 1 (.int .i64 (a + n : Nat))
  all_goals have hwr : IntKind.i64.wrap ((a : Int) + (n : Int)) = ((a + n : Nat) : Int) := by rw [IntWalk.i64_in _ (by omega)]; omega
  all_goals rw [hwr]
  all_goals clear hwr
  all_goals have hq2 : PS (w1.setCell ⟨pb, 1, none⟩ (.int .i64 (a + n : Nat))) pb s (a + n) v o := hq1
  all_goals have Hq2 := Lib.hid hq2
  all_goals have hgb : GB pb w (w1.setCell ⟨pb, 1, none⟩ (.int .i64 (a + n : Nat))) := (Below.gb hb1' pb).set 1 _
  all_goals obtain ⟨x0, x1, x2, x3⟩ := hq2.cells
  all_goals clear hq1 hq2 hp1 c0 c1 c2 c3 d0 d1
  all_goals generalize w1.setCell ⟨pb, 1, none⟩ (.int .i64 (a + n : Nat)) = w2 at *
  all_goals go_wp2_with fail
  all_goals go_region
  all_goals go_wp2_with fail
  all_goals go_ret
  all_goals exact ⟨rfl, Hq2.out, hgb.drew⟩
set_option maxRecDepth 10000000 in
set_option maxHeartbeats 8000000 in
theorem take_num (pb : Nat) (s : ByteArray) (a v o : Nat) (w : World) (hs : s.size ≤ maxLen) (hp : PS w pb s a v o) (ha : a ≤ s.size) :
    Calls Tryz.prog 63 #[.pointer (some ⟨pb, 0, none⟩), .func (.func 118) #[] #[]] w fun e w' => e = .returned (.string (s.extract a (a + spanL pNum (s.data.toList.drop a)))) ∧ PS w' pb s (a + spanL pNum (s.data.toList.drop a)) v o ∧ GB pb w w' := by
  have hs' := hs
  unfold maxLen at hs'
  obtain ⟨c0, c1, c2, c3⟩ := hp.cells
  have f1 := hp.frozen 1
  have hm : (s.extract a s.size).size ≤ maxLen := from_size hs
  have hsp := spanL_le pNum (s.data.toList.drop a)
  rw [List.length_drop, ← Lib.size_eq] at hsp
  have hsf := span_from pNum s a
  generalize spanL pNum (s.data.toList.drop a) = n at *
  have Hsf := Lib.hid hsf
  clear hsf
  go_enter Tryz.func63, Tryz.ntmps63
  go_wp2_with fail
  go_region_with (go_at_call 84; refine (span_num _ _ hm).mono ?_; rintro e w1 ⟨rfl, hb1⟩; rw [Hsf.out]; have d0 := (hb1.cell (p := ⟨pb, 0, none⟩) hp.lt).trans c0; have d1 := (hb1.cell (p := ⟨pb, 1, none⟩) hp.lt).trans c1; have g1 := (hb1.frozen (p := ⟨pb, 1, none⟩) hp.lt).trans f1)
  all_goals have hb1' : Below w.heap.size w w1 := (Below.drew (Below.refl _ w)).trans hb1
  all_goals have hp1 := hp.below hb1'
  all_goals have hq1 := hp1.set 1 (.int .i64 (a + n : Nat))
  all_goals have hwr : IntKind.i64.wrap ((a : Int) + (n : Int)) = ((a + n : Nat) : Int) := by rw [IntWalk.i64_in _ (by omega)]; omega
  all_goals rw [hwr]
  all_goals clear hwr
  all_goals have hq2 : PS (w1.setCell ⟨pb, 1, none⟩ (.int .i64 (a + n : Nat))) pb s (a + n) v o := hq1
  all_goals have Hq2 := Lib.hid hq2
  all_goals have hgb : GB pb w (w1.setCell ⟨pb, 1, none⟩ (.int .i64 (a + n : Nat))) := (Below.gb hb1' pb).set 1 _
  all_goals obtain ⟨x0, x1, x2, x3⟩ := hq2.cells
  all_goals clear hq1 hq2 hp1 c0 c1 c2 c3 d0 d1
  all_goals generalize w1.setCell ⟨pb, 1, none⟩ (.int .i64 (a + n : Nat)) = w2 at *
  all_goals go_wp2_with fail
  all_goals go_region
  all_goals go_wp2_with fail
  all_goals go_ret
  all_goals exact ⟨rfl, Hq2.out, hgb.drew⟩
set_option maxRecDepth 10000000 in
set_option maxHeartbeats 8000000 in
theorem take_plain (pb : Nat) (s : ByteArray) (a v o : Nat) (w : World) (hs : s.size ≤ maxLen) (hp : PS w pb s a v o) (ha : a ≤ s.size) :
    Calls Tryz.prog 63 #[.pointer (some ⟨pb, 0, none⟩), .func (.func 125) #[] #[]] w fun e w' => e = .returned (.string (s.extract a (a + spanL pPlain (s.data.toList.drop a)))) ∧ PS w' pb s (a + spanL pPlain (s.data.toList.drop a)) v o ∧ GB pb w w' := by
  have hs' := hs
  unfold maxLen at hs'
  obtain ⟨c0, c1, c2, c3⟩ := hp.cells
  have f1 := hp.frozen 1
  have hm : (s.extract a s.size).size ≤ maxLen := from_size hs
  have hsp := spanL_le pPlain (s.data.toList.drop a)
  rw [List.length_drop, ← Lib.size_eq] at hsp
  have hsf := span_from pPlain s a
  generalize spanL pPlain (s.data.toList.drop a) = n at *
  have Hsf := Lib.hid hsf
  clear hsf
  go_enter Tryz.func63, Tryz.ntmps63
  go_wp2_with fail
  go_region_with (go_at_call 84; refine (span_plain _ _ hm).mono ?_; rintro e w1 ⟨rfl, hb1⟩; rw [Hsf.out]; have d0 := (hb1.cell (p := ⟨pb, 0, none⟩) hp.lt).trans c0; have d1 := (hb1.cell (p := ⟨pb, 1, none⟩) hp.lt).trans c1; have g1 := (hb1.frozen (p := ⟨pb, 1, none⟩) hp.lt).trans f1)
  all_goals have hb1' : Below w.heap.size w w1 := (Below.drew (Below.refl _ w)).trans hb1
  all_goals have hp1 := hp.below hb1'
  all_goals have hq1 := hp1.set 1 (.int .i64 (a + n : Nat))
  all_goals have hwr : IntKind.i64.wrap ((a : Int) + (n : Int)) = ((a + n : Nat) : Int) := by rw [IntWalk.i64_in _ (by omega)]; omega
  all_goals rw [hwr]
  all_goals clear hwr
  all_goals have hq2 : PS (w1.setCell ⟨pb, 1, none⟩ (.int .i64 (a + n : Nat))) pb s (a + n) v o := hq1
  all_goals have Hq2 := Lib.hid hq2
  all_goals have hgb : GB pb w (w1.setCell ⟨pb, 1, none⟩ (.int .i64 (a + n : Nat))) := (Below.gb hb1' pb).set 1 _
  all_goals obtain ⟨x0, x1, x2, x3⟩ := hq2.cells
  all_goals clear hq1 hq2 hp1 c0 c1 c2 c3 d0 d1
  all_goals generalize w1.setCell ⟨pb, 1, none⟩ (.int .i64 (a + n : Nat)) = w2 at *
  all_goals go_wp2_with fail
  all_goals go_region
  all_goals go_wp2_with fail
  all_goals go_ret
  all_goals exact ⟨rfl, Hq2.out, hgb.drew⟩
end Go.Proofs.YtakdhfjlhkejdaaGreatDoor

/-
  CONTRACTS of package json's unit and unescape: what each answers of any text, and that the world is as it was but for new blocks. No conditions but the texts' sizes.
-/
namespace Go.Proofs.YtakdhfjlhkejdaaGreatDoor
open Go.RowKit
set_option linter.unusedVariables false

def unitO (s : ByteArray) : Option Int := unitL s.data.toList
theorem preB_unit (s : ByteArray) : (preB s ⟨#[92, 117]⟩ = true → unitO s = hexO (s.extract 2 s.size) ∧ 2 ≤ s.size) ∧ (preB s ⟨#[92, 117]⟩ = false → unitO s = none) := by
  constructor
  · intro h
    have hle := preB_le h
    have hle : 2 ≤ s.size := hle
    refine ⟨?_, hle⟩
    unfold preB Lib.hasPrefix at h
    unfold unitO
    have e : s.extract 2 s.size = ⟨(s.data.toList.drop 2).toArray⟩ := by
      have := from_data s 2
      rw [← this]
    rw [e]
    cases hl : s.data.toList with
    | nil => rw [hl] at h; cases h
    | cons a t =>
      cases t with
      | nil => rw [hl] at h; simp [List.isPrefixOf] at h
      | cons b u =>
        rw [hl] at h
        simp [List.isPrefixOf] at h
        obtain ⟨h1, h2⟩ := h
        subst h1 h2
        rfl
  · intro h
    unfold preB Lib.hasPrefix at h
    unfold unitO
    cases hl : s.data.toList with
    | nil => rfl
    | cons a t =>
      cases t with
      | nil => unfold unitL; split <;> simp_all
      | cons b u =>
        unfold unitL
        split
        · rename_i h3
          rw [hl] at h
          simp only [List.cons.injEq] at h3
          obtain ⟨h1, h2, h3⟩ := h3
          subst h1 h2
          simp [List.isPrefixOf] at h
        · rfl
theorem unit_size {s : ByteArray} {r : Int} (h : unitO s = some r) : 6 ≤ s.size := by
  cases hp : preB s ⟨#[92, 117]⟩
  · rw [(preB_unit s).2 hp] at h
    cases h
  · obtain ⟨h1, h2⟩ := (preB_unit s).1 hp
    rw [h1] at h
    unfold hexO at h
    split at h
    · cases h
    · rename_i h3
      rw [Lib.size_eq, from_data, List.length_drop, ← Lib.size_eq] at h3
      omega
def unitR (s : ByteArray) : Int := (unitO s).getD 0
def unitB (s : ByteArray) : Bool := (unitO s).isSome
theorem unit_any (s : ByteArray) (w : World) (hs : s.size ≤ maxLen) :
    Calls Tryz.prog 143 #[.string s] w fun e w' => e = .returned (.tuple #[.int .i32 (unitR s), .bool (unitB s)]) ∧ Below w.heap.size w w' := by
  have q1 : (ByteArray.mk #[92, 117]).size ≤ maxLen := by unfold maxLen; decide
  cases hp : preB s ⟨#[92, 117]⟩
  · have Hf : Hid (unitO s = none) := (preB_unit s).2 hp
    go_enter Tryz.func143, Tryz.ntmps143
    go_wp2_with (go_at_call 86; refine (cutPrefix_any _ _ _ hs q1).mono ?_; rintro e w' ⟨rfl, rfl⟩)
    go_ret2
    exact ⟨by unfold unitR unitB; rw [Hf.out]; rfl, Below.refl _ _⟩
  · obtain ⟨h1, h2⟩ := (preB_unit s).1 hp
    have hbe : behS s ⟨#[92, 117]⟩ = s.extract 2 s.size := by unfold behS; rw [hp]; rfl
    have Hf := Lib.hid h1
    have Hb := Lib.hid hbe
    have hs2 : (s.extract 2 s.size).size ≤ maxLen := from_size hs
    clear h1 hbe
    go_enter Tryz.func143, Tryz.ntmps143
    go_wp2_with (go_at_call 86; refine (cutPrefix_any _ _ _ hs q1).mono ?_; rintro e w' ⟨rfl, rfl⟩)
    rw [Hb.out]
    refine (hex_any _ _ hs2).mono ?_
    rintro e w' ⟨rfl, hb⟩
    go_wp2_with fail
    go_ret2
    exact ⟨by unfold unitR unitB hexR hexB; rw [Hf.out]; rfl, hb⟩

/-! ### unescape -/
def escO (s : ByteArray) : Option (List UInt8 × Nat) := escL s.data.toList
def escS (s : ByteArray) : ByteArray := match escO s with | some (b, _) => ⟨b.toArray⟩ | none => noText
def escN (s : ByteArray) : Nat := match escO s with | some (_, n) => n | none => 0
theorem ret_esc {s : ByteArray} {b : List UInt8} {n : Nat} {t : ByteArray} {k : Int} (h : escO s = some (b, n)) (ht : t = ⟨b.toArray⟩) (hk : k = n) :
    Ending.returned (.tuple #[.string t, .int .i64 k]) = .returned (.tuple #[.string (escS s), .int .i64 (escN s)]) := by
  unfold escS escN
  rw [h, ht, hk]
theorem ret_esc_no {s : ByteArray} (h : escO s = none) :
    Ending.returned (.tuple #[.string ⟨#[]⟩, .int .i64 0]) = .returned (.tuple #[.string (escS s), .int .i64 (escN s)]) := by
  unfold escS escN
  rw [h]
  rfl
theorem two_at (s : ByteArray) (h : 2 ≤ s.size) : s.data.toList = s[0] :: s[1] :: s.data.toList.drop 2 := by
  have h1 := List.drop_eq_getElem_cons (l := s.data.toList) (i := 0) (by rw [← Lib.size_eq]; omega)
  have h2 := List.drop_eq_getElem_cons (l := s.data.toList) (i := 1) (by rw [← Lib.size_eq]; omega)
  rw [List.drop_zero] at h1
  rw [h2] at h1
  exact h1
theorem esc_of (s : ByteArray) (h : 2 ≤ s.size) : escO s =
    if s[1] = 34 then some ([34], 2) else if s[1] = 92 then some ([92], 2) else if s[1] = 98 then some ([8], 2) else if s[1] = 102 then some ([12], 2)
    else if s[1] = 110 then some ([10], 2) else if s[1] = 114 then some ([13], 2) else if s[1] = 116 then some ([9], 2) else if s[1] = 47 then some ([47], 2)
    else match unitO s with
      | none => none
      | some r =>
        if pointB r then some ((bytesS r).data.toList, 6)
        else if pairB r (unitR (s.extract 6 s.size)) then some ((bytesS (pairR r (unitR (s.extract 6 s.size)))).data.toList, 12) else none := by
  unfold unitR unitO escO
  rw [from_data]
  generalize hl : s.data.toList = l
  have e := two_at s h
  rw [hl] at e
  generalize s[1] = c at e ⊢
  generalize s[0] = d at e
  generalize l.drop 2 = u at e
  subst e
  rfl
theorem esc_short {s : ByteArray} (h : s.size < 2) : escO s = none := by
  unfold escO
  have hl := Lib.size_eq s
  cases e : s.data.toList with
  | nil => rfl
  | cons a t =>
    cases t with
    | nil => rfl
    | cons b u => rw [e] at hl; simp only [List.length_cons] at hl; omega

theorem bytes_ne {r : Int} (h : pointB r = true) : 0 < (bytesS r).size := by
  rw [bytesS, if_pos h]
  have hv : validRune r = true := h
  have h0 : 0 ≤ r := by
    unfold validRune at hv
    simp at hv
    omega
  obtain ⟨n, rfl⟩ := Int.eq_ofNat_of_zero_le h0
  have := (enc_pos n hv).1
  rw [encL] at this
  rw [Lib.size_eq]
  exact this
theorem bytes_no {r : Int} (h : pointB r = false) : bytesS r = ⟨#[]⟩ := by
  unfold bytesS
  rw [h]
  rfl
theorem short_index (c : UInt8) (i : Nat) (h : c = ([34, 92, 98, 102, 110, 114, 116] : List UInt8).getD i 0) (hi : i < 7) : Lib.indexByte [34, 92, 98, 102, 110, 114, 116] c = i := by
  subst h
  have : ∀ i, i < 7 → Lib.indexByte [34, 92, 98, 102, 110, 114, 116] (([34, 92, 98, 102, 110, 114, 116] : List UInt8).getD i 0) = i := by decide
  exact this i hi
theorem short_none (c : UInt8) (h1 : c ≠ 34) (h2 : c ≠ 92) (h3 : c ≠ 98) (h4 : c ≠ 102) (h5 : c ≠ 110) (h6 : c ≠ 114) (h7 : c ≠ 116) : Lib.indexByte [34, 92, 98, 102, 110, 114, 116] c = -1 := by
  simp [Lib.indexByte, h1.symm, h2.symm, h3.symm, h4.symm, h5.symm, h6.symm, h7.symm]
theorem byte_back (c : UInt8) : ((c.toNat : Int)).toNat.toUInt8 = c := by
  simp
set_option maxHeartbeats 2000000 in
theorem unescape_any (s : ByteArray) (w : World) (hs : s.size ≤ maxLen) :
    Calls Tryz.prog 139 #[.string s] w fun e w' => e = .returned (.tuple #[.string (escS s), .int .i64 (escN s)]) ∧ Below w.heap.size w w' := by
  have hs' := hs
  unfold maxLen at hs'
  by_cases h2 : s.size < 2
  · have Hf := Lib.hid (esc_short h2)
    go_enter Tryz.func139, Tryz.ntmps139
    go_wp2_with fail
    go_ret2
    exact ⟨ret_esc_no Hf.out, Below.refl _ _⟩
  · have h2' : 2 ≤ s.size := by omega
    have h1 : 1 < s.size := by omega
    have Hx := Lib.hid (esc_of s h2')
    have Hb := Lib.hid (byte_back s[1])
    by_cases c34 : s[1] = 34
    · have Hf := Lib.hid (show escO s = some ([34], 2) by rw [Hx.out]; simp [c34])
      have Hi := Lib.hid (short_index s[1] 0 c34 (by decide))
      clear Hx c34
      go_enter Tryz.func139, Tryz.ntmps139
      go_wp2_with fail
      refine (Tryz.strings_IndexByte _ _ _).mono ?_
      rintro e w' ⟨rfl, rfl⟩
      rw [Hb.out, show (ByteArray.mk #[34, 92, 98, 102, 110, 114, 116]).data.toList = [34, 92, 98, 102, 110, 114, 116] from rfl, Hi.out]
      go_wp2_with fail
      go_ret2
      exact ⟨ret_esc Hf.out rfl rfl, Below.refl _ _⟩
    by_cases c92 : s[1] = 92
    · have Hf := Lib.hid (show escO s = some ([92], 2) by rw [Hx.out]; simp [c92])
      have Hi := Lib.hid (short_index s[1] 1 c92 (by decide))
      clear Hx c34 c92
      go_enter Tryz.func139, Tryz.ntmps139
      go_wp2_with fail
      refine (Tryz.strings_IndexByte _ _ _).mono ?_
      rintro e w' ⟨rfl, rfl⟩
      rw [Hb.out, show (ByteArray.mk #[34, 92, 98, 102, 110, 114, 116]).data.toList = [34, 92, 98, 102, 110, 114, 116] from rfl, Hi.out]
      go_wp2_with fail
      go_ret2
      exact ⟨ret_esc Hf.out rfl rfl, Below.refl _ _⟩
    by_cases c98 : s[1] = 98
    · have Hf := Lib.hid (show escO s = some ([8], 2) by rw [Hx.out]; simp [c98])
      have Hi := Lib.hid (short_index s[1] 2 c98 (by decide))
      clear Hx c34 c92 c98
      go_enter Tryz.func139, Tryz.ntmps139
      go_wp2_with fail
      refine (Tryz.strings_IndexByte _ _ _).mono ?_
      rintro e w' ⟨rfl, rfl⟩
      rw [Hb.out, show (ByteArray.mk #[34, 92, 98, 102, 110, 114, 116]).data.toList = [34, 92, 98, 102, 110, 114, 116] from rfl, Hi.out]
      go_wp2_with fail
      go_ret2
      exact ⟨ret_esc Hf.out rfl rfl, Below.refl _ _⟩
    by_cases c102 : s[1] = 102
    · have Hf := Lib.hid (show escO s = some ([12], 2) by rw [Hx.out]; simp [c102])
      have Hi := Lib.hid (short_index s[1] 3 c102 (by decide))
      clear Hx c34 c92 c98 c102
      go_enter Tryz.func139, Tryz.ntmps139
      go_wp2_with fail
      refine (Tryz.strings_IndexByte _ _ _).mono ?_
      rintro e w' ⟨rfl, rfl⟩
      rw [Hb.out, show (ByteArray.mk #[34, 92, 98, 102, 110, 114, 116]).data.toList = [34, 92, 98, 102, 110, 114, 116] from rfl, Hi.out]
      go_wp2_with fail
      go_ret2
      exact ⟨ret_esc Hf.out rfl rfl, Below.refl _ _⟩
    by_cases c110 : s[1] = 110
    · have Hf := Lib.hid (show escO s = some ([10], 2) by rw [Hx.out]; simp [c110])
      have Hi := Lib.hid (short_index s[1] 4 c110 (by decide))
      clear Hx c34 c92 c98 c102 c110
      go_enter Tryz.func139, Tryz.ntmps139
      go_wp2_with fail
      refine (Tryz.strings_IndexByte _ _ _).mono ?_
      rintro e w' ⟨rfl, rfl⟩
      rw [Hb.out, show (ByteArray.mk #[34, 92, 98, 102, 110, 114, 116]).data.toList = [34, 92, 98, 102, 110, 114, 116] from rfl, Hi.out]
      go_wp2_with fail
      go_ret2
      exact ⟨ret_esc Hf.out rfl rfl, Below.refl _ _⟩
    by_cases c114 : s[1] = 114
    · have Hf := Lib.hid (show escO s = some ([13], 2) by rw [Hx.out]; simp [c114])
      have Hi := Lib.hid (short_index s[1] 5 c114 (by decide))
      clear Hx c34 c92 c98 c102 c110 c114
      go_enter Tryz.func139, Tryz.ntmps139
      go_wp2_with fail
      refine (Tryz.strings_IndexByte _ _ _).mono ?_
      rintro e w' ⟨rfl, rfl⟩
      rw [Hb.out, show (ByteArray.mk #[34, 92, 98, 102, 110, 114, 116]).data.toList = [34, 92, 98, 102, 110, 114, 116] from rfl, Hi.out]
      go_wp2_with fail
      go_ret2
      exact ⟨ret_esc Hf.out rfl rfl, Below.refl _ _⟩
    by_cases c116 : s[1] = 116
    · have Hf := Lib.hid (show escO s = some ([9], 2) by rw [Hx.out]; simp [c116])
      have Hi := Lib.hid (short_index s[1] 6 c116 (by decide))
      clear Hx c34 c92 c98 c102 c110 c114 c116
      go_enter Tryz.func139, Tryz.ntmps139
      go_wp2_with fail
      refine (Tryz.strings_IndexByte _ _ _).mono ?_
      rintro e w' ⟨rfl, rfl⟩
      rw [Hb.out, show (ByteArray.mk #[34, 92, 98, 102, 110, 114, 116]).data.toList = [34, 92, 98, 102, 110, 114, 116] from rfl, Hi.out]
      go_wp2_with fail
      go_ret2
      exact ⟨ret_esc Hf.out rfl rfl, Below.refl _ _⟩
    have Hi := Lib.hid (short_none s[1] c34 c92 c98 c102 c110 c114 c116)
    by_cases c47 : s[1] = 47
    · have Hf := Lib.hid (show escO s = some ([47], 2) by rw [Hx.out]; simp [c47])
      obtain ⟨b1, b2⟩ := byte_is (k := 47) c47 rfl
      clear Hx c34 c92 c98 c102 c110 c114 c116 c47
      go_enter Tryz.func139, Tryz.ntmps139
      go_wp2_with fail
      refine (Tryz.strings_IndexByte _ _ _).mono ?_
      rintro e w' ⟨rfl, rfl⟩
      rw [Hb.out, show (ByteArray.mk #[34, 92, 98, 102, 110, 114, 116]).data.toList = [34, 92, 98, 102, 110, 114, 116] from rfl, Hi.out]
      go_wp2_with fail
      go_ret2
      exact ⟨ret_esc Hf.out rfl rfl, Below.refl _ _⟩
    obtain ⟨b1, b2⟩ := byte_not (k := 47) c47 rfl
    have Hx := Lib.hid (show escO s = match unitO s with
      | none => none
      | some r =>
        if pointB r then some ((bytesS r).data.toList, 6)
        else if pairB r (unitR (s.extract 6 s.size)) then some ((bytesS (pairR r (unitR (s.extract 6 s.size)))).data.toList, 12) else none by
      rw [Hx.out, if_neg c34, if_neg c92, if_neg c98, if_neg c102, if_neg c110, if_neg c114, if_neg c116, if_neg c47])
    clear c34 c92 c98 c102 c110 c114 c116 c47
    cases hu : unitO s with
    | none =>
      have Hf := Lib.hid (show escO s = none by rw [Hx.out, hu])
      have hB : unitB s = false := by unfold unitB; rw [hu]; rfl
      clear Hx hu
      go_enter Tryz.func139, Tryz.ntmps139
      go_wp2_with fail
      refine (Tryz.strings_IndexByte _ _ _).mono ?_
      rintro e w' ⟨rfl, rfl⟩
      rw [Hb.out, show (ByteArray.mk #[34, 92, 98, 102, 110, 114, 116]).data.toList = [34, 92, 98, 102, 110, 114, 116] from rfl, Hi.out]
      go_wp2_with (go_at_call 143; refine (unit_any _ _ hs).mono ?_; rintro e w' ⟨rfl, hb⟩)
      go_ret2
      exact ⟨ret_esc_no Hf.out, hb⟩
    | some r =>
      have hB : unitB s = true := by unfold unitB; rw [hu]; rfl
      have hR : unitR s = r := by unfold unitR; rw [hu]; rfl
      have h6 := unit_size hu
      have HR := Lib.hid hR
      cases hp : pointB r
      · have hz := bytes_no hp
        have Hz := Lib.hid hz
        have hs6 : (s.extract 6 s.size).size ≤ maxLen := from_size hs
        cases hpr : pairB r (unitR (s.extract 6 s.size))
        · have Hf := Lib.hid (show escO s = none by rw [Hx.out, hu]; simp [hp, hpr])
          clear Hx hu hR hz
          go_enter Tryz.func139, Tryz.ntmps139
          go_wp2_with fail
          refine (Tryz.strings_IndexByte _ _ _).mono ?_
          rintro e w' ⟨rfl, rfl⟩
          rw [Hb.out, show (ByteArray.mk #[34, 92, 98, 102, 110, 114, 116]).data.toList = [34, 92, 98, 102, 110, 114, 116] from rfl, Hi.out]
          go_wp2_with fail
          refine (unit_any _ _ hs).mono ?_
          rintro e w1 ⟨rfl, hb1⟩
          rw [HR.out]
          go_wp2_with fail
          refine (bytes_any _ _).mono ?_
          rintro e w' ⟨rfl, rfl⟩
          rw [Hz.out]
          go_wp2_with fail
          refine (unit_any _ _ hs6).mono ?_
          rintro e w2 ⟨rfl, hb2⟩
          go_wp2_with (go_at_call 145; refine (pair_any _ _ _).mono ?_; rintro e w' ⟨rfl, rfl⟩)
          go_ret2
          exact ⟨ret_esc_no Hf.out, hb1.trans (hb2.mono hb1.size)⟩
        · have Hf := Lib.hid (show escO s = some ((bytesS (pairR r (unitR (s.extract 6 s.size)))).data.toList, 12) by rw [Hx.out, hu]; simp [hp, hpr])
          clear Hx hu hR hz
          go_enter Tryz.func139, Tryz.ntmps139
          go_wp2_with fail
          refine (Tryz.strings_IndexByte _ _ _).mono ?_
          rintro e w' ⟨rfl, rfl⟩
          rw [Hb.out, show (ByteArray.mk #[34, 92, 98, 102, 110, 114, 116]).data.toList = [34, 92, 98, 102, 110, 114, 116] from rfl, Hi.out]
          go_wp2_with fail
          refine (unit_any _ _ hs).mono ?_
          rintro e w1 ⟨rfl, hb1⟩
          rw [HR.out]
          go_wp2_with fail
          refine (bytes_any _ _).mono ?_
          rintro e w' ⟨rfl, rfl⟩
          rw [Hz.out]
          go_wp2_with fail
          refine (unit_any _ _ hs6).mono ?_
          rintro e w2 ⟨rfl, hb2⟩
          go_wp2_with (go_at_call 145; refine (pair_any _ _ _).mono ?_; rintro e w' ⟨rfl, rfl⟩)
          refine (bytes_any _ _).mono ?_
          rintro e w' ⟨rfl, rfl⟩
          go_wp2_with fail
          go_ret2
          exact ⟨ret_esc Hf.out rfl rfl, hb1.trans (hb2.mono hb1.size)⟩
      · have hne := toL_ne (bytes_ne hp)
        obtain ⟨n1, n2, n3⟩ := hne
        have Hf := Lib.hid (show escO s = some ((bytesS r).data.toList, 6) by rw [Hx.out, hu]; simp [hp])
        clear Hx hu hR n3
        go_enter Tryz.func139, Tryz.ntmps139
        go_wp2_with fail
        refine (Tryz.strings_IndexByte _ _ _).mono ?_
        rintro e w' ⟨rfl, rfl⟩
        rw [Hb.out, show (ByteArray.mk #[34, 92, 98, 102, 110, 114, 116]).data.toList = [34, 92, 98, 102, 110, 114, 116] from rfl, Hi.out]
        go_wp2_with fail
        refine (unit_any _ _ hs).mono ?_
        rintro e w1 ⟨rfl, hb1⟩
        rw [HR.out]
        go_wp2_with fail
        refine (bytes_any _ _).mono ?_
        rintro e w' ⟨rfl, rfl⟩
        go_wp2_with fail
        go_ret2
        exact ⟨ret_esc Hf.out rfl rfl, hb1⟩
end Go.Proofs.YtakdhfjlhkejdaaGreatDoor

/-
  CONTRACTS of package json's parser: pass, escape, number, word.
-/
set_option linter.unusedVariables false
namespace Go.Proofs.YtakdhfjlhkejdaaGreatDoor
open Go.RowKit

theorem u8_ne {a : Nat} {c : Int} (h : (a : Int) ≠ c) : ((a : Int) != c) = true := by rw [bne_iff_ne]; exact h
theorem u8_eq {a : Nat} {c : Int} (h : (a : Int) = c) : ((a : Int) != c) = false := by rw [bne_eq_false_iff_eq]; exact h
set_option maxRecDepth 10000000 in
set_option maxHeartbeats 4000000 in
theorem pass_end (c : Int) (pb : Nat) (s : ByteArray) (a v o : Nat) (w : World) (hs : s.size ≤ maxLen) (hp : PS w pb s a v o) (ha : a ≤ s.size) (he : skipS s a = s.size) :
    Calls Tryz.prog 124 #[.pointer (some ⟨pb, 0, none⟩), .int .u8 c] w fun e w' => e = Pan (skipS s a) 21 ∧ PS w' pb s (skipS s a) v o ∧ GB pb w w' := by
  have He := Lib.hid he
  clear he
  go_enter Tryz.func124, Tryz.ntmps124
  go_wp2_with fail
  refine (next_end pb s a v o _ hs hp ha He.out).mono ?_
  rintro e w1 ⟨rfl, hp1, hg1⟩
  unfold Pan
  go_wp2_with fail
  exact ⟨rfl, rfl, hp1, hg1⟩
set_option maxRecDepth 10000000 in
set_option maxHeartbeats 4000000 in
theorem pass_bad (c : Int) (pb : Nat) (s : ByteArray) (a v o : Nat) (w : World) (hs : s.size ≤ maxLen) (hp : PS w pb s a v o) (ha : a ≤ s.size) (he : skipS s a < s.size) (hc : ((byS s (skipS s a) : Nat) : Int) ≠ c) :
    Calls Tryz.prog 124 #[.pointer (some ⟨pb, 0, none⟩), .int .u8 c] w fun e w' => e = Pan (skipS s a) 20 ∧ PS w' pb s (skipS s a) v o ∧ GB pb w w' := by
  have hne := u8_ne hc
  go_enter Tryz.func124, Tryz.ntmps124
  go_wp2_with fail
  refine (next_byte pb s a v o _ hs hp ha he).mono ?_
  rintro e w1 ⟨rfl, hp1, hg1⟩
  go_wp2_with fail
  refine (fault_any pb s _ v o 20 _ hp1).mono ?_
  rintro e w2 ⟨rfl, hb2⟩
  go_wp2_with fail
  exact ⟨rfl, rfl, hp1.below hb2, hg1.trans (Below.gb hb2 pb)⟩
set_option maxRecDepth 10000000 in
set_option maxHeartbeats 4000000 in
theorem pass_ok (c : Int) (pb : Nat) (s : ByteArray) (a v o : Nat) (w : World) (hs : s.size ≤ maxLen) (hp : PS w pb s a v o) (ha : a ≤ s.size) (he : skipS s a < s.size) (hc : ((byS s (skipS s a) : Nat) : Int) = c) :
    Calls Tryz.prog 124 #[.pointer (some ⟨pb, 0, none⟩), .int .u8 c] w fun e w' => e = .returned (.tuple #[]) ∧ PS w' pb s (skipS s a + 1) v o ∧ GB pb w w' := by
  have hs' := hs
  unfold maxLen at hs'
  have hne := u8_eq hc
  go_enter Tryz.func124, Tryz.ntmps124
  go_wp2_with fail
  refine (next_byte pb s a v o _ hs hp ha he).mono ?_
  rintro e w1 ⟨rfl, hp1, hg1⟩
  obtain ⟨c0, c1, c2, c3⟩ := hp1.cells
  have f1 := hp1.frozen 1
  go_wp2_with fail
  go_end0
  have hq : PS (w1.setCell ⟨pb, 1, none⟩ (.int .i64 (skipS s a + 1 : Nat))) pb s (skipS s a + 1) v o := hp1.set 1 (.int .i64 (skipS s a + 1 : Nat))
  exact ⟨rfl, hq, hg1.set 1 _⟩

/-! ### escape -/
set_option maxRecDepth 10000000 in
set_option maxHeartbeats 4000000 in
theorem escape_bad (pb : Nat) (s : ByteArray) (a v o : Nat) (w : World) (hs : s.size ≤ maxLen) (hp : PS w pb s a v o) (ha : a ≤ s.size) (hn : escN (s.extract a s.size) = 0) :
    Calls Tryz.prog 126 #[.pointer (some ⟨pb, 0, none⟩)] w fun e w' => e = Pan a 23 ∧ PS w' pb s a v o ∧ GB pb w w' := by
  have hs' := hs
  unfold maxLen at hs'
  obtain ⟨c0, c1, c2, c3⟩ := hp.cells
  have hm : (s.extract a s.size).size ≤ maxLen := from_size hs
  have ht : (((escN (s.extract a s.size) : Nat) : Int) == 0) = true := by rw [hn]; rfl
  clear hn
  go_enter Tryz.func126, Tryz.ntmps126
  go_wp2_with fail
  go_region_with (go_at_call 139; refine (unescape_any _ _ hm).mono ?_; rintro e w1 ⟨rfl, hb1⟩)
  all_goals have hb1' : Below w.heap.size w w1 := (Below.drew (Below.refl _ w)).trans hb1
  all_goals have hp1 := hp.below hb1'
  all_goals go_wp2_with fail
  all_goals refine (fault_any pb s a v o 23 _ hp1).mono ?_
  all_goals rintro e w2 ⟨rfl, hb2⟩
  all_goals go_wp2_with fail
  all_goals exact ⟨rfl, rfl, hp1.below hb2, (Below.gb hb1' pb).trans (Below.gb hb2 pb)⟩
set_option maxRecDepth 10000000 in
set_option maxHeartbeats 4000000 in
theorem escape_ok (pb : Nat) (s : ByteArray) (a v o : Nat) (w : World) (hs : s.size ≤ maxLen) (hp : PS w pb s a v o) (ha : a ≤ s.size) (hn : 0 < escN (s.extract a s.size)) (hn2 : a + escN (s.extract a s.size) ≤ s.size) :
    Calls Tryz.prog 126 #[.pointer (some ⟨pb, 0, none⟩)] w fun e w' => e = .returned (.string (escS (s.extract a s.size))) ∧ PS w' pb s (a + escN (s.extract a s.size)) v o ∧ GB pb w w' := by
  have hs' := hs
  unfold maxLen at hs'
  obtain ⟨c0, c1, c2, c3⟩ := hp.cells
  have hm : (s.extract a s.size).size ≤ maxLen := from_size hs
  have ht : (((escN (s.extract a s.size) : Nat) : Int) == 0) = false := by rw [beq_eq_false_iff_ne]; omega
  go_enter Tryz.func126, Tryz.ntmps126
  go_wp2_with fail
  go_region_with (go_at_call 139; refine (unescape_any _ _ hm).mono ?_; rintro e w1 ⟨rfl, hb1⟩)
  all_goals have hb1' : Below w.heap.size w w1 := (Below.drew (Below.refl _ w)).trans hb1
  all_goals have hp1 := hp.below hb1'
  all_goals have hq : PS (w1.setCell ⟨pb, 1, none⟩ (.int .i64 (a + escN (s.extract a s.size) : Nat))) pb s (a + escN (s.extract a s.size)) v o := hp1.set 1 _
  all_goals have hg : GB pb w (w1.setCell ⟨pb, 1, none⟩ (.int .i64 (a + escN (s.extract a s.size) : Nat))) := (Below.gb hb1' pb).set 1 _
  all_goals obtain ⟨x0, x1, x2, x3⟩ := hp1.cells
  all_goals have g1 := hp1.frozen 1
  all_goals have Hq := Lib.hid hq
  all_goals clear c0 c1 c2 c3 hq
  all_goals go_wp2_with fail
  all_goals go_ret
  all_goals exact ⟨rfl, Hq.out, hg⟩
end Go.Proofs.YtakdhfjlhkejdaaGreatDoor

/-
  CONTRACTS of package json's parser: number, word.
-/
set_option linter.unusedVariables false
namespace Go.Proofs.YtakdhfjlhkejdaaGreatDoor
open Go.RowKit

/-- a piece of a text -/
def pieceS (s : ByteArray) (a n : Nat) : ByteArray := s.extract a (a + n)
theorem piece_data (s : ByteArray) (a n : Nat) : (pieceS s a n).data.toList = (s.data.toList.drop a).take n := by
  unfold pieceS
  rw [Lib.extract_data]
  congr 1
  omega
theorem piece_eq (s : ByteArray) (a n : Nat) : pieceS s a n = ⟨((s.data.toList.drop a).take n).toArray⟩ := by
  have := piece_data s a n
  rw [← this]
theorem piece_size (s : ByteArray) (a n : Nat) (hs : s.size ≤ maxLen) : (pieceS s a n).size ≤ maxLen := by
  rw [Lib.size_eq, piece_data, List.length_take, List.length_drop, ← Lib.size_eq]
  omega
theorem PS.alloc {w : World} {pb : Nat} {s : ByteArray} {a v o : Nat} (h : PS w pb s a v o) (x : Obj) : PS (w.alloc x) pb s a v o := (Lib.alloc_old w x pb h.lt).trans h
theorem GB.alloc {pb : Nat} {a w : World} (h : GB pb a w) (x : Obj) : GB pb a (w.alloc x) := Lib.grownBy_allocR h x
theorem GB.cell {pb : Nat} {w w' : World} (h : GB pb w w') {x : Addr} {c : Value} (hc : w.cell? x = some c) (hne : x.block ≠ pb) : w'.cell? x = some c := World.grownBy.cell h hc (fun e => hne (Option.some.inj e))
/-- a value's block of the call's own -/
def RB (w : World) (rb : Nat) (c0 c1 c2 c3 : Value) : Prop := w.heap[rb]? = some (.cells #[c0, c1, c2, c3] 26 (0, 0))
theorem RB.new (w : World) (c0 c1 c2 c3 : Value) : RB (w.alloc (.cells #[c0, c1, c2, c3] 26)) w.heap.size c0 c1 c2 c3 := heap_alloc_new w _
theorem RB.lt {w : World} {rb : Nat} {c0 c1 c2 c3 : Value} (h : RB w rb c0 c1 c2 c3) : rb < w.heap.size := (Array.getElem?_eq_some_iff.1 h).1
theorem RB.below {w w' : World} {rb : Nat} {c0 c1 c2 c3 : Value} (h : RB w rb c0 c1 c2 c3) (hb : Below w.heap.size w w') : RB w' rb c0 c1 c2 c3 := (hb.block rb h.lt).trans h
theorem RB.gb {w w' : World} {rb pb : Nat} {c0 c1 c2 c3 : Value} (h : RB w rb c0 c1 c2 c3) (hg : GB pb w w') (hne : rb ≠ pb) : RB w' rb c0 c1 c2 c3 := (hg.block rb h.lt (fun e => hne (Option.some.inj e))).trans h
theorem RB.alloc {w : World} {rb : Nat} {c0 c1 c2 c3 : Value} (h : RB w rb c0 c1 c2 c3) (x : Obj) : RB (w.alloc x) rb c0 c1 c2 c3 := (Lib.alloc_old w x rb h.lt).trans h
theorem RB.cells {w : World} {rb : Nat} {c0 c1 c2 c3 : Value} (h : RB w rb c0 c1 c2 c3) :
    w.cell? ⟨rb, 0, none⟩ = some c0 ∧ w.cell? ⟨rb, 1, none⟩ = some c1 ∧ w.cell? ⟨rb, 2, none⟩ = some c2 ∧ w.cell? ⟨rb, 3, none⟩ = some c3 := by
  unfold RB at h
  exact ⟨by rw [Lib.cell_of_heap h]; rfl, by rw [Lib.cell_of_heap h]; rfl, by rw [Lib.cell_of_heap h]; rfl, by rw [Lib.cell_of_heap h]; rfl⟩
theorem RB.frozen {w : World} {rb : Nat} {c0 c1 c2 c3 : Value} (h : RB w rb c0 c1 c2 c3) :
    w.frozen? ⟨rb, 0, none⟩ = false ∧ w.frozen? ⟨rb, 1, none⟩ = false ∧ w.frozen? ⟨rb, 2, none⟩ = false ∧ w.frozen? ⟨rb, 3, none⟩ = false :=
  ⟨Lib.frozen_of_heap h 0, Lib.frozen_of_heap h 1, Lib.frozen_of_heap h 2, Lib.frozen_of_heap h 3⟩
theorem GB.setNew {pb : Nat} {a w : World} (h : GB pb a w) (p : Addr) (hp : a.heap.size ≤ p.block) (x : Value) : GB pb a (w.setCell p x) :=
  ⟨h.os, h.tape, h.output, Nat.le_trans h.size (by simp [World.setCell]), fun k hk hne => (Below.heap_setCell _ _ _ _ (by omega)).trans (h.block k hk hne)⟩
theorem PS.setNew {w : World} {pb : Nat} {s : ByteArray} {a v o : Nat} (h : PS w pb s a v o) (p : Addr) (hp : pb ≠ p.block) (x : Value) : PS (w.setCell p x) pb s a v o := (Below.heap_setCell _ _ _ _ hp).trans h
theorem GB.set4 {pb rb : Nat} {a w : World} (h : GB pb a w) (hp : a.heap.size ≤ rb) (x0 x1 x2 x3 : Value) : GB pb a ((((w.setCell ⟨rb, 0, none⟩ x0).setCell ⟨rb, 1, none⟩ x1).setCell ⟨rb, 2, none⟩ x2).setCell ⟨rb, 3, none⟩ x3) :=
  (((h.setNew ⟨rb, 0, none⟩ hp x0).setNew ⟨rb, 1, none⟩ hp x1).setNew ⟨rb, 2, none⟩ hp x2).setNew ⟨rb, 3, none⟩ hp x3
theorem PS.set4 {w : World} {pb rb : Nat} {s : ByteArray} {a v o : Nat} (h : PS w pb s a v o) (hp : pb ≠ rb) (x0 x1 x2 x3 : Value) : PS ((((w.setCell ⟨rb, 0, none⟩ x0).setCell ⟨rb, 1, none⟩ x1).setCell ⟨rb, 2, none⟩ x2).setCell ⟨rb, 3, none⟩ x3) pb s a v o :=
  (((h.setNew ⟨rb, 0, none⟩ hp x0).setNew ⟨rb, 1, none⟩ hp x1).setNew ⟨rb, 2, none⟩ hp x2).setNew ⟨rb, 3, none⟩ hp x3
theorem cell_lt' {w : World} {a : Addr} {c : Value} (h : w.cell? a = some c) : a.block < w.heap.size := by
  rcases Nat.lt_or_ge a.block w.heap.size with h' | h'
  · exact h'
  · unfold World.cell? at h
    rw [Array.getElem?_eq_none h'] at h
    simp at h
abbrev cellV (k : Nat) (t : ByteArray) : Value := .agg #[.int .u8 (k : Nat), .string t, .slice none 0 0, .slice none 0 0]
theorem stringsClone_any (s : ByteArray) (w : World) (hlim : s.size ≤ 281474976710656) :
    Calls Tryz.prog 119 #[.string s] w fun e w' => e = .returned (.string s) ∧ Below w.heap.size w w' := by
  go_enter Tryz.func119, Tryz.ntmps119
  go_wp2_with (go_at_call 136; refine (Tryz.stringslite_Clone _ _ hlim).mono ?_; rintro e w1 ⟨rfl, hb1⟩)
  go_ret
  exact ⟨rfl, hb1⟩
set_option maxRecDepth 10000000 in
set_option maxHeartbeats 4000000 in
theorem number_ok (pb : Nat) (s : ByteArray) (a v o : Nat) (w : World) (hs : s.size ≤ 1000000000) (hp : PS w pb s a v o) (ha : a ≤ s.size) (hn : numS (pieceS s a (spanL pNum (s.data.toList.drop a))) = true) :
    Calls Tryz.prog 93 #[.pointer (some ⟨pb, 0, none⟩)] w fun e w' => e = .returned (.agg #[.int .u8 4, .string (pieceS s a (spanL pNum (s.data.toList.drop a))), .slice none 0 0, .slice none 0 0]) ∧ PS w' pb s (a + spanL pNum (s.data.toList.drop a)) v o ∧ GB pb w w' := by
  have hs' : s.size ≤ maxLen := by unfold maxLen; omega
  have htk := fun w hp => take_num pb s a v o w hs' hp ha
  generalize spanL pNum (s.data.toList.drop a) = n at *
  have hps := piece_size s a n hs'
  have hps2 : (pieceS s a n).size ≤ 281474976710656 := by
    have : (pieceS s a n).size ≤ s.size := by
      rw [Lib.size_eq, piece_data, List.length_take, List.length_drop, ← Lib.size_eq]
      omega
    omega
  have Htk := Lib.hid htk
  clear htk
  have hlt := hp.lt
  have hp0 := hp.alloc (.cells #[.int .u8 0, .string ⟨#[]⟩, .slice none 0 0, .slice none 0 0] 26)
  have hg0 := (GB.refl pb w).alloc (.cells #[.int .u8 0, .string ⟨#[]⟩, .slice none 0 0, .slice none 0 0] 26)
  have hr0 := RB.new w (.int .u8 0) (.string ⟨#[]⟩) (.slice none 0 0) (.slice none 0 0)
  have hne : w.heap.size ≠ pb := by omega
  go_enter Tryz.func93, Tryz.ntmps93
  go_wp2_with fail
  refine (fault_any pb s a v o 22 _ hp0).mono ?_
  rintro e w1 ⟨rfl, hb1⟩
  have hp1 := (hp0.below hb1).alloc (.cells #[.int .i64 a, .int .i64 22] 29)
  have hg1 := (hg0.trans (Below.gb hb1 pb)).alloc (.cells #[.int .i64 a, .int .i64 22] 29)
  have hr1 := (hr0.below hb1).alloc (.cells #[.int .i64 a, .int .i64 22] 29)
  go_wp2_with fail
  refine (Htk.out _ hp1).mono ?_
  rintro e w2 ⟨rfl, hp2, hg2⟩
  go_wp2_with (go_at_call 53; refine (isNumber_any _ _ hps).mono ?_; rintro e w3 ⟨rfl, hb3⟩)
  refine (stringsClone_any _ _ hps2).mono ?_
  rintro e w4 ⟨rfl, hb4⟩
  have hr4 := (((hr1.gb hg2 hne).below hb3).below hb4)
  have hp4 := (hp2.below hb3).below hb4
  have hg4 := ((hg1.trans hg2).trans (Below.gb hb3 pb)).trans (Below.gb hb4 pb)
  obtain ⟨r0, r1, r2, r3⟩ := hr4.cells
  obtain ⟨z0, z1, z2, z3⟩ := hr4.frozen
  go_wp2_with fail
  refine bodyPost_ret (v := .agg #[.int .u8 4, .string (pieceS s a n), .slice none 0 0, .slice none 0 0]) ?_ rfl ⟨rfl, hp4.set4 (Ne.symm hne) _ _ _ _, hg4.set4 (Nat.le_refl _) _ _ _ _⟩
  simp [results, Tryz.results93, go_sem, r0, r1, r2, r3]
set_option maxRecDepth 10000000 in
set_option maxHeartbeats 4000000 in
theorem number_bad (pb : Nat) (s : ByteArray) (a v o : Nat) (w : World) (hs : s.size ≤ 1000000000) (hp : PS w pb s a v o) (ha : a ≤ s.size) (hn : numS (pieceS s a (spanL pNum (s.data.toList.drop a))) = false) :
    Calls Tryz.prog 93 #[.pointer (some ⟨pb, 0, none⟩)] w fun e w' => e = Pan a 22 ∧ PS w' pb s (a + spanL pNum (s.data.toList.drop a)) v o ∧ GB pb w w' := by
  have hs' : s.size ≤ maxLen := by unfold maxLen; omega
  have htk := fun w hp => take_num pb s a v o w hs' hp ha
  generalize spanL pNum (s.data.toList.drop a) = n at *
  have hps := piece_size s a n hs'
  have Htk := Lib.hid htk
  clear htk
  have hlt := hp.lt
  have hp0 := hp.alloc (.cells #[.int .u8 0, .string ⟨#[]⟩, .slice none 0 0, .slice none 0 0] 26)
  have hg0 := (GB.refl pb w).alloc (.cells #[.int .u8 0, .string ⟨#[]⟩, .slice none 0 0, .slice none 0 0] 26)
  go_enter Tryz.func93, Tryz.ntmps93
  go_wp2_with fail
  refine (fault_any pb s a v o 22 _ hp0).mono ?_
  rintro e w1 ⟨rfl, hb1⟩
  have hb1s := hb1.size
  have hp1 := (hp0.below hb1).alloc (.cells #[.int .i64 a, .int .i64 22] 29)
  have hg1 := (hg0.trans (Below.gb hb1 pb)).alloc (.cells #[.int .i64 a, .int .i64 22] 29)
  have hne : w1.heap.size ≠ pb := by simp at hb1s; omega
  have q0 : (w1.alloc (.cells #[.int .i64 a, .int .i64 22] 29)).cell? ⟨w1.heap.size, 0, none⟩ = some (.int .i64 a) := by simp
  have q1 : (w1.alloc (.cells #[.int .i64 a, .int .i64 22] 29)).cell? ⟨w1.heap.size, 1, none⟩ = some (.int .i64 22) := by simp
  go_wp2_with fail
  refine (Htk.out _ hp1).mono ?_
  rintro e w2 ⟨rfl, hp2, hg2⟩
  have y0 := hg2.cell q0 hne
  have y1 := hg2.cell q1 hne
  go_wp2_with fail
  refine (isNumber_any _ _ hps).mono ?_
  rintro e w3 ⟨rfl, hb3⟩
  have x0 := (hb3.cell (p := ⟨w1.heap.size, 0, none⟩) (cell_lt' y0)).trans y0
  have x1 := (hb3.cell (p := ⟨w1.heap.size, 1, none⟩) (cell_lt' y1)).trans y1
  go_wp2_with fail
  exact ⟨rfl, rfl, hp2.below hb3, (hg1.trans hg2).trans (Below.gb hb3 pb)⟩
end Go.Proofs.YtakdhfjlhkejdaaGreatDoor

/-
  CONTRACTS of package json's parser: word.
-/
set_option linter.unusedVariables false
namespace Go.Proofs.YtakdhfjlhkejdaaGreatDoor
open Go.RowKit

def wordS (s : ByteArray) : Option Nat := wordK s.data.toList
theorem word_one {l : List UInt8} (h : l = [110, 117, 108, 108]) : wordK l = some 1 := by subst h; rfl
set_option maxRecDepth 10000000 in
set_option maxHeartbeats 4000000 in
theorem word_ok (k : Nat) (pb : Nat) (s : ByteArray) (a v o : Nat) (w : World) (hs : s.size ≤ maxLen) (hp : PS w pb s a v o) (ha : a ≤ s.size) (hn : wordS (pieceS s a (spanL pLetter (s.data.toList.drop a))) = some k) :
    Calls Tryz.prog 95 #[.pointer (some ⟨pb, 0, none⟩)] w fun e w' => e = .returned (.agg #[.int .u8 (k : Nat), .string ⟨#[]⟩, .slice none 0 0, .slice none 0 0]) ∧ PS w' pb s (a + spanL pLetter (s.data.toList.drop a)) v o ∧ GB pb w w' := by
  have htk := fun w hp => take_letter pb s a v o w hs hp ha
  generalize spanL pLetter (s.data.toList.drop a) = n at *
  have hcs : ((pieceS s a n).toList = [110, 117, 108, 108] ∧ k = 1) ∨ ((pieceS s a n).toList = [102, 97, 108, 115, 101] ∧ k = 2) ∨ ((pieceS s a n).toList = [116, 114, 117, 101] ∧ k = 3) := by
    rw [Lib.toList_data]
    unfold wordS wordK at hn
    split at hn
    · rename_i h; injection hn with hn; exact .inl ⟨h, hn.symm⟩
    · split at hn
      · rename_i h; injection hn with hn; exact .inr (.inl ⟨h, hn.symm⟩)
      · split at hn
        · rename_i h; injection hn with hn; exact .inr (.inr ⟨h, hn.symm⟩)
        · cases hn
  have Htk := Lib.hid htk
  clear htk hn
  have hlt := hp.lt
  have hp0 := hp.alloc (.cells #[.int .u8 0, .string ⟨#[]⟩, .slice none 0 0, .slice none 0 0] 26)
  have hg0 := (GB.refl pb w).alloc (.cells #[.int .u8 0, .string ⟨#[]⟩, .slice none 0 0, .slice none 0 0] 26)
  have hr0 := RB.new w (.int .u8 0) (.string ⟨#[]⟩) (.slice none 0 0) (.slice none 0 0)
  have hne : w.heap.size ≠ pb := by omega
  rcases hcs with ⟨h1, rfl⟩ | ⟨h1, rfl⟩ | ⟨h1, rfl⟩
  · have b1 : ((pieceS s a n).toList == [110, 117, 108, 108]) = true := by rw [h1]; rfl
    have b2 : ((pieceS s a n).toList == [102, 97, 108, 115, 101]) = false := by rw [h1]; rfl
    have b3 : ((pieceS s a n).toList == [116, 114, 117, 101]) = false := by rw [h1]; rfl
    have H1 := Lib.hid h1
    clear h1
    go_enter Tryz.func95, Tryz.ntmps95
    go_wp2_with fail
    refine (fault_any pb s a v o 20 _ hp0).mono ?_
    rintro e w1 ⟨rfl, hb1⟩
    have hp1 := (hp0.below hb1).alloc (.cells #[.int .i64 a, .int .i64 20] 29)
    have hg1 := (hg0.trans (Below.gb hb1 pb)).alloc (.cells #[.int .i64 a, .int .i64 20] 29)
    have hr1 := (hr0.below hb1).alloc (.cells #[.int .i64 a, .int .i64 20] 29)
    go_wp2_with fail
    refine (Htk.out _ hp1).mono ?_
    rintro e w2 ⟨rfl, hp2, hg2⟩
    have hr2 := hr1.gb hg2 hne
    obtain ⟨r0, r1, r2, r3⟩ := hr2.cells
    obtain ⟨z0, z1, z2, z3⟩ := hr2.frozen
    rw [show s.extract a (a + n) = pieceS s a n from rfl]
    go_wp2_with fail
    refine bodyPost_ret (v := .agg #[.int .u8 1, .string ⟨#[]⟩, .slice none 0 0, .slice none 0 0]) ?_ rfl ⟨rfl, hp2.set4 (Ne.symm hne) _ _ _ _, (hg1.trans hg2).set4 (Nat.le_refl _) _ _ _ _⟩
    simp [results, Tryz.results95, go_sem, r0, r1, r2, r3]
  · have b1 : ((pieceS s a n).toList == [110, 117, 108, 108]) = false := by rw [h1]; rfl
    have b2 : ((pieceS s a n).toList == [102, 97, 108, 115, 101]) = true := by rw [h1]; rfl
    have b3 : ((pieceS s a n).toList == [116, 114, 117, 101]) = false := by rw [h1]; rfl
    have H1 := Lib.hid h1
    clear h1
    go_enter Tryz.func95, Tryz.ntmps95
    go_wp2_with fail
    refine (fault_any pb s a v o 20 _ hp0).mono ?_
    rintro e w1 ⟨rfl, hb1⟩
    have hp1 := (hp0.below hb1).alloc (.cells #[.int .i64 a, .int .i64 20] 29)
    have hg1 := (hg0.trans (Below.gb hb1 pb)).alloc (.cells #[.int .i64 a, .int .i64 20] 29)
    have hr1 := (hr0.below hb1).alloc (.cells #[.int .i64 a, .int .i64 20] 29)
    go_wp2_with fail
    refine (Htk.out _ hp1).mono ?_
    rintro e w2 ⟨rfl, hp2, hg2⟩
    have hr2 := hr1.gb hg2 hne
    obtain ⟨r0, r1, r2, r3⟩ := hr2.cells
    obtain ⟨z0, z1, z2, z3⟩ := hr2.frozen
    rw [show s.extract a (a + n) = pieceS s a n from rfl]
    go_wp2_with fail
    refine bodyPost_ret (v := .agg #[.int .u8 2, .string ⟨#[]⟩, .slice none 0 0, .slice none 0 0]) ?_ rfl ⟨rfl, hp2.set4 (Ne.symm hne) _ _ _ _, (hg1.trans hg2).set4 (Nat.le_refl _) _ _ _ _⟩
    simp [results, Tryz.results95, go_sem, r0, r1, r2, r3]
  · have b1 : ((pieceS s a n).toList == [110, 117, 108, 108]) = false := by rw [h1]; rfl
    have b2 : ((pieceS s a n).toList == [102, 97, 108, 115, 101]) = false := by rw [h1]; rfl
    have b3 : ((pieceS s a n).toList == [116, 114, 117, 101]) = true := by rw [h1]; rfl
    have H1 := Lib.hid h1
    clear h1
    go_enter Tryz.func95, Tryz.ntmps95
    go_wp2_with fail
    refine (fault_any pb s a v o 20 _ hp0).mono ?_
    rintro e w1 ⟨rfl, hb1⟩
    have hp1 := (hp0.below hb1).alloc (.cells #[.int .i64 a, .int .i64 20] 29)
    have hg1 := (hg0.trans (Below.gb hb1 pb)).alloc (.cells #[.int .i64 a, .int .i64 20] 29)
    have hr1 := (hr0.below hb1).alloc (.cells #[.int .i64 a, .int .i64 20] 29)
    go_wp2_with fail
    refine (Htk.out _ hp1).mono ?_
    rintro e w2 ⟨rfl, hp2, hg2⟩
    have hr2 := hr1.gb hg2 hne
    obtain ⟨r0, r1, r2, r3⟩ := hr2.cells
    obtain ⟨z0, z1, z2, z3⟩ := hr2.frozen
    rw [show s.extract a (a + n) = pieceS s a n from rfl]
    go_wp2_with fail
    refine bodyPost_ret (v := .agg #[.int .u8 3, .string ⟨#[]⟩, .slice none 0 0, .slice none 0 0]) ?_ rfl ⟨rfl, hp2.set4 (Ne.symm hne) _ _ _ _, (hg1.trans hg2).set4 (Nat.le_refl _) _ _ _ _⟩
    simp [results, Tryz.results95, go_sem, r0, r1, r2, r3]
set_option maxRecDepth 10000000 in
set_option maxHeartbeats 4000000 in
theorem word_bad (pb : Nat) (s : ByteArray) (a v o : Nat) (w : World) (hs : s.size ≤ maxLen) (hp : PS w pb s a v o) (ha : a ≤ s.size) (hn : wordS (pieceS s a (spanL pLetter (s.data.toList.drop a))) = none) :
    Calls Tryz.prog 95 #[.pointer (some ⟨pb, 0, none⟩)] w fun e w' => e = Pan a 20 ∧ PS w' pb s (a + spanL pLetter (s.data.toList.drop a)) v o ∧ GB pb w w' := by
  have htk := fun w hp => take_letter pb s a v o w hs hp ha
  generalize spanL pLetter (s.data.toList.drop a) = n at *
  have hcs : (pieceS s a n).toList ≠ [110, 117, 108, 108] ∧ (pieceS s a n).toList ≠ [102, 97, 108, 115, 101] ∧ (pieceS s a n).toList ≠ [116, 114, 117, 101] := by
    rw [Lib.toList_data]
    unfold wordS wordK at hn
    split at hn
    · cases hn
    · rename_i h1
      split at hn
      · cases hn
      · rename_i h2
        split at hn
        · cases hn
        · rename_i h3
          exact ⟨h1, h2, h3⟩
  have Htk := Lib.hid htk
  clear htk hn
  have b1 : ((pieceS s a n).toList == [110, 117, 108, 108]) = false := beq_eq_false_iff_ne.2 hcs.1
  have b2 : ((pieceS s a n).toList == [102, 97, 108, 115, 101]) = false := beq_eq_false_iff_ne.2 hcs.2.1
  have b3 : ((pieceS s a n).toList == [116, 114, 117, 101]) = false := beq_eq_false_iff_ne.2 hcs.2.2
  clear hcs
  have hlt := hp.lt
  have hp0 := hp.alloc (.cells #[.int .u8 0, .string ⟨#[]⟩, .slice none 0 0, .slice none 0 0] 26)
  have hg0 := (GB.refl pb w).alloc (.cells #[.int .u8 0, .string ⟨#[]⟩, .slice none 0 0, .slice none 0 0] 26)
  go_enter Tryz.func95, Tryz.ntmps95
  go_wp2_with fail
  refine (fault_any pb s a v o 20 _ hp0).mono ?_
  rintro e w1 ⟨rfl, hb1⟩
  have hb1s := hb1.size
  have hp1 := (hp0.below hb1).alloc (.cells #[.int .i64 a, .int .i64 20] 29)
  have hg1 := (hg0.trans (Below.gb hb1 pb)).alloc (.cells #[.int .i64 a, .int .i64 20] 29)
  have hne : w1.heap.size ≠ pb := by simp at hb1s; omega
  have q0 : (w1.alloc (.cells #[.int .i64 a, .int .i64 20] 29)).cell? ⟨w1.heap.size, 0, none⟩ = some (.int .i64 a) := by simp
  have q1 : (w1.alloc (.cells #[.int .i64 a, .int .i64 20] 29)).cell? ⟨w1.heap.size, 1, none⟩ = some (.int .i64 20) := by simp
  go_wp2_with fail
  refine (Htk.out _ hp1).mono ?_
  rintro e w2 ⟨rfl, hp2, hg2⟩
  have y0 := hg2.cell q0 hne
  have y1 := hg2.cell q1 hne
  rw [show s.extract a (a + n) = pieceS s a n from rfl]
  go_wp2_with fail
  exact ⟨rfl, rfl, hp2, hg1.trans hg2⟩
end Go.Proofs.YtakdhfjlhkejdaaGreatDoor

/-
  A REGION THAT DRAWS ITS ORDER, IN TWO PARTS: up to one operation k, for which the loads wait, a condition on the world holds; behind it nothing is asked. So a load may be taken first although a later store of the region changes its cell.
-/
set_option linter.unusedVariables false
namespace Go.Proofs.YtakdhfjlhkejdaaGreatDoor
open Go.RowKit

section
variable {P : Program} {ops : Array Oper} {Q : Exit → Act → World → Prop} {md : Region.Mode} {S : World → Prop}

/-- whatever order is picked, and S holds behind each operation before k -/
def wpAnyG (P : Program) (md : Region.Mode) (ops : Array Oper) (Q : Exit → Act → World → Prop) (k : Nat) (S : World → Prop) : Nat → Array Bool → Act → World → Prop
  | 0, listed, a, w => Region.ready md ops listed = [] ∧ Q .normal a w
  | fuel + 1, listed, a, w =>
    (Region.ready md ops listed = [] → Q .normal a w) ∧
    ∀ i ∈ Region.ready md ops listed, wpOp P ops Q i (fun a' w' => ((listed.setIfInBounds i true).getD k true = false → S w') ∧ wpAnyG P md ops Q k S fuel (listed.setIfInBounds i true) a' w') a w

theorem wpAny_of_G {k : Nat} : ∀ (fuel : Nat) (listed : Array Bool) (a : Act) (w : World), wpAnyG P md ops Q k S fuel listed a w → wpAny P md ops Q fuel listed a w
  | 0, _, _, _, h => h
  | fuel + 1, _, _, _, h => ⟨h.1, fun i hi => wpOp_mono (fun a' w' h' => wpAny_of_G fuel _ a' w' h'.2) (h.2 i hi)⟩

theorem getD_true_set {listed : Array Bool} {i k : Nat} (h : listed.getD k true = true) : (listed.setIfInBounds i true).getD k true = true := by
  by_cases hik : i = k
  · subst hik
    rcases Nat.lt_or_ge i listed.size with h' | h'
    · simp [h']
    · simp
  · rw [getD_set_ne true hik]; exact h

/-- behind k nothing is asked -/
theorem wpAnyG_of_any {k : Nat} : ∀ (fuel : Nat) (listed : Array Bool) (a : Act) (w : World), listed.getD k true = true → wpAny P md ops Q fuel listed a w → wpAnyG P md ops Q k S fuel listed a w
  | 0, _, _, _, _, h => h
  | fuel + 1, listed, _, _, hk, h => ⟨h.1, fun i hi => wpOp_mono (fun a' w' h' => ⟨fun hf => by rw [getD_true_set hk] at hf; (cases hf), wpAnyG_of_any fuel _ a' w' (getD_true_set hk) h'⟩) (h.2 i hi)⟩

/-- k waits for i -/
def waits (md : Region.Mode) (ops : Array Oper) (k i : Nat) : Bool :=
  match ops[k]? with
  | some o => o.after.any fun e => Region.binds md e && e.on == i
  | none => false

theorem wpAnyG_first {k i : Nat} {oi : Oper} {v : Value} (hi : ops[i]? = some oi) (hsel : ∀ (j : Nat) (o : Oper) cs b, ops[j]? = some o → o.op ≠ .select cs b)
    (hQ : ∀ c a w, Q (.panic c) (a.put oi.dst v) w → Q (.panic c) a w) (hki : waits md ops k i = true) :
    ∀ (fuel : Nat) (listed : Array Bool) (a : Act) (w : World),
      (∀ j oj, ops[j]? = some oj → j ≠ i → listed.getD j true = false → (∀ e ∈ oj.after, Region.binds md e = true → e.on ≠ i) → oi.apart ops oj = true) →
      i ∈ Region.ready md ops listed → YieldsIf P ops S oi v a → listed.getD k true = false → i ≠ k → S w →
      wpAnyG P md ops Q k S fuel (listed.setIfInBounds i true) (a.put oi.dst v) w → wpAnyG P md ops Q k S (fuel + 1) listed a w := by
  intro fuel
  induction fuel with
  | zero =>
    intro listed a w _ hr hy hk hik hS H
    refine ⟨fun h => (by rw [h] at hr; cases hr), fun j hj => ?_⟩
    by_cases hji : j = i
    · subst hji; exact hy.wpOp hi hS ⟨fun _ => hS, H⟩
    · have := ready_mono hj hji
      rw [H.1] at this
      cases this
  | succ fuel ih =>
    intro listed a w hfree hr hy hk hik hS H
    refine ⟨fun h => (by rw [h] at hr; cases hr), fun j hj => ?_⟩
    by_cases hji : j = i
    · subst hji; exact hy.wpOp hi hS ⟨fun _ => hS, H⟩
    · have h1 := H.2 j (ready_mono hj hji)
      obtain ⟨hjun, oj, hoj, hall⟩ := mem_ready.1 hj
      have hnot : ∀ e ∈ oj.after, Region.binds md e = true → e.on ≠ i := fun e he hb heq => by
        have h1 := hall e he hb
        have h0 := (mem_ready.1 hr).1
        rw [heq] at h1
        rcases Nat.lt_or_ge i listed.size with h' | h'
        · simp [h'] at h0 h1; rw [h0] at h1; cases h1
        · simp [Array.getElem?_eq_none h'] at h1
      have hjk : j ≠ k := by
        intro e
        subst e
        unfold waits at hki
        rw [hoj] at hki
        obtain ⟨e, he, hb⟩ := Array.any_eq_true'.1 hki
        simp only [Bool.and_eq_true, beq_iff_eq] at hb
        exact hnot e he hb.1 hb.2
      have h2 := wpOp_putIf hoj (hfree j oj hoj hji hjun hnot) (fun cs b => hsel i oi cs b hi) (fun cs b => hsel j oj cs b hoj) hQ hy h1
      have hfree' : ∀ k ok, ops[k]? = some ok → k ≠ i → (listed.setIfInBounds j true).getD k true = false →
          (∀ e ∈ ok.after, Region.binds md e = true → e.on ≠ i) → oi.apart ops ok = true := fun k ok hk hki hun hno => by
        refine hfree k ok hk hki ?_ hno
        by_cases hjk : j = k
        · subst hjk; exact hjun
        · rw [getD_set_ne true hjk] at hun; exact hun
      have hk1 : (listed.setIfInBounds j true).getD k true = false := by rw [getD_set_ne true hjk]; exact hk
      have hk2 : ((listed.setIfInBounds i true).setIfInBounds j true).getD k true = false := by rw [getD_set_ne true hjk, getD_set_ne true hik]; exact hk
      refine wpOp_mono (fun a' w' h3 => ⟨fun _ => h3.2.1 hk2, ih (listed.setIfInBounds j true) a' w' hfree' (ready_mono hr (Ne.symm hji)) h3.1 hk1 hik (h3.2.1 hk2) ?_⟩) h2
      rw [Array.setIfInBounds_comm _ _ hji]
      exact h3.2.2

/-- take number i first -/
theorem wpAnyG_take {k i : Nat} {oi : Oper} {v : Value} {fuel : Nat} {listed : Array Bool} {a : Act} {w : World} (hi : ops[i]? = some oi)
    (hs : Region.noSelect ops = true) (hf : Region.free md ops listed i = true) (hr : (Region.ready md ops listed).contains i = true) (hw : waits md ops k i = true) (hk : (!listed.getD k true && !(i == k)) = true)
    (hQ : ∀ c a w, Q (.panic c) (a.put oi.dst v) w → Q (.panic c) a w) (hS : S w) (hy : YieldsIf P ops S oi v a)
    (h : wpAnyG P md ops Q k S fuel (listed.setIfInBounds i true) (a.put oi.dst v) w) : wpAnyG P md ops Q k S (fuel + 1) listed a w :=
  wpAnyG_first hi (Region.noSelect_spec hs) hQ hw fuel listed a w (Region.free_spec hi hf) (by simpa using hr) hy (by simp at hk; simpa using hk.1) (by simp at hk; exact hk.2) hS h

/-- two may come up -/
theorem wpAnyG_two {k i j : Nat} {oi oj : Oper} {fuel : Nat} {listed : Array Bool} {a : Act} {w : World} (hr : Region.ready md ops listed = [i, j]) (hi : ops[i]? = some oi) (hj : ops[j]? = some oj)
    (h1 : ∀ K : Act → World → Prop, (∀ a w, S w → wpAnyG P md ops Q k S fuel (listed.setIfInBounds i true) a w → K a w) → if Region.wanted oi (yielded ops a.tmps) = true then Oper.wp P oi a w K Q else K (a.put oi.dst undef) w)
    (h2 : ∀ K : Act → World → Prop, (∀ a w, S w → wpAnyG P md ops Q k S fuel (listed.setIfInBounds j true) a w → K a w) → if Region.wanted oj (yielded ops a.tmps) = true then Oper.wp P oj a w K Q else K (a.put oj.dst undef) w) :
    wpAnyG P md ops Q k S (fuel + 1) listed a w := by
  refine ⟨fun h => (by rw [hr] at h; cases h), fun x hx => ?_⟩
  rw [hr] at hx
  simp only [List.mem_cons, List.not_mem_nil, or_false] at hx
  rcases hx with rfl | rfl
  · exact wpOp_step hi (fun K hK => h1 K (fun a w hS hG => hK a w ⟨fun _ => hS, hG⟩))
  · exact wpOp_step hj (fun K hK => h2 K (fun a w hS hG => hK a w ⟨fun _ => hS, hG⟩))
/-- one alone may come up -/
theorem wpAnyG_one {k i : Nat} {oi : Oper} {fuel : Nat} {listed : Array Bool} {a : Act} {w : World} (hr : Region.ready md ops listed = [i]) (hi : ops[i]? = some oi)
    (h1 : ∀ K : Act → World → Prop, (∀ a w, S w → wpAnyG P md ops Q k S fuel (listed.setIfInBounds i true) a w → K a w) → if Region.wanted oi (yielded ops a.tmps) = true then Oper.wp P oi a w K Q else K (a.put oi.dst undef) w) :
    wpAnyG P md ops Q k S (fuel + 1) listed a w := by
  refine ⟨fun h => (by rw [hr] at h; cases h), fun x hx => ?_⟩
  rw [hr] at hx
  simp only [List.mem_cons, List.not_mem_nil, or_false] at hx
  subst hx
  exact wpOp_step hi (fun K hK => h1 K (fun a w hS hG => hK a w ⟨fun _ => hS, hG⟩))
/-- k itself comes up, alone: behind it nothing is asked -/
theorem wpAnyG_turn {k : Nat} {oi : Oper} {fuel : Nat} {listed : Array Bool} {a : Act} {w : World} (hr : Region.ready md ops listed = [k]) (hi : ops[k]? = some oi)
    (h1 : ∀ K : Act → World → Prop, (∀ a w, wpAny P md ops Q fuel (listed.setIfInBounds k true) a w → K a w) → if Region.wanted oi (yielded ops a.tmps) = true then Oper.wp P oi a w K Q else K (a.put oi.dst undef) w) :
    wpAnyG P md ops Q k S (fuel + 1) listed a w := by
  refine ⟨fun h => (by rw [hr] at h; cases h), fun x hx => ?_⟩
  rw [hr] at hx
  simp only [List.mem_cons, List.not_mem_nil, or_false] at hx
  subst hx
  have hk : (listed.setIfInBounds x true).getD x true = true := by
    rcases Nat.lt_or_ge x listed.size with h' | h'
    · simp [h']
    · simp
  exact wpOp_step hi (fun K hK => h1 K (fun a w hA => hK a w ⟨fun hf => (by rw [hk] at hf; cases hf), wpAnyG_of_any fuel _ a w hk hA⟩))
/-- two may come up, behind k -/
theorem wpAny_two {i j : Nat} {oi oj : Oper} {fuel : Nat} {listed : Array Bool} {a : Act} {w : World} (hr : Region.ready md ops listed = [i, j]) (hi : ops[i]? = some oi) (hj : ops[j]? = some oj)
    (h1 : ∀ K : Act → World → Prop, (∀ a w, wpAny P md ops Q fuel (listed.setIfInBounds i true) a w → K a w) → if Region.wanted oi (yielded ops a.tmps) = true then Oper.wp P oi a w K Q else K (a.put oi.dst undef) w)
    (h2 : ∀ K : Act → World → Prop, (∀ a w, wpAny P md ops Q fuel (listed.setIfInBounds j true) a w → K a w) → if Region.wanted oj (yielded ops a.tmps) = true then Oper.wp P oj a w K Q else K (a.put oj.dst undef) w) :
    wpAny P md ops Q (fuel + 1) listed a w := wpAny_ready hr (by simp) (AllReady.cons hi h1 (AllReady.cons hj h2 AllReady.nil))
theorem wpAny_one {i : Nat} {oi : Oper} {fuel : Nat} {listed : Array Bool} {a : Act} {w : World} (hr : Region.ready md ops listed = [i]) (hi : ops[i]? = some oi)
    (h1 : ∀ K : Act → World → Prop, (∀ a w, wpAny P md ops Q fuel (listed.setIfInBounds i true) a w → K a w) → if Region.wanted oi (yielded ops a.tmps) = true then Oper.wp P oi a w K Q else K (a.put oi.dst undef) w) :
    wpAny P md ops Q (fuel + 1) listed a w := wpAny_ready hr (by simp) (AllReady.cons hi h1 AllReady.nil)
end
end Go.Proofs.YtakdhfjlhkejdaaGreatDoor

/-
  CONTRACTS of package json's parser: the closure by which an array takes a value.
-/
set_option linter.unusedVariables false
namespace Go.Proofs.YtakdhfjlhkejdaaGreatDoor
open Go.RowKit

/-- 'append' onto a row of the call's own, as one step of a region that draws its order -/
theorem step_append_mine {P : Program} {ops : Array Oper} {o : Oper} {a : Act} {w : World} {K : Act → World → Prop} {Q : Exit → Act → World → Prop} {E : Prop}
    (hg : o.guard = none) (s x : Operand) (t : TypeId) (hop : o.op = Op.call { callee := Callee.builtin Builtin.append, args := #[s, x], argTypes := #[t, t] })
    (base : Nat) (e : TypeId) (i : TypeInfo) (z : Value) (size bytes : Nat) (h1 : P.underlying t = some (.slice e)) (h2 : P.info? e = some i) (h3 : i.zero = some z) (h4 : i.size = size) (h5 : i.bytes = bytes) (h6 : z.cells.size = size) (h7 : 0 < size)
    (v : Value) (n : Nat) (xs : List Value) (hs : a.eval s = v) (hown : w.ownsRow base e size v n xs)
    (ad : Addr) (m c : Nat) (news : List Value) (hx : a.eval x = .slice (some ad) m c) (hn : news.length = m * size) (hc : ∀ j u, news[j]? = some u → w.cell? (ad.add j) = some u) (h1c : ∀ u ∈ news, u.oneCell' = true)
    (b1 : n + m ≤ maxLen) (b2 : (n + m) * bytes ≤ 140737488355328) (hb : base ≤ w.heap.size)
    (hK : ∀ v' w', w'.ownsRow base e size v' (n + m) (xs ++ news) → w.grownBy w' v.ownBlock → K (a.put o.dst v') w') :
    if Region.wanted o (yielded ops a.tmps) = true then Oper.wp P o a w K Q else E := by
  have hw : Region.wanted o (yielded ops a.tmps) = true := by simp [Region.wanted, hg]
  rw [if_pos hw]
  obtain ⟨v', w', hrun, r1, r2, _⟩ := run_append_own (P := P) w base t o.type e i z size bytes h1 h2 h3 h4 h5 h6 h7 v n xs hown ad m c news hn hc h1c b1 b2 hb
  unfold Oper.wp
  simp [execOp, hop, resolve, invoke, builtin, hs, hx, hrun, Result.andThen]
  exact hK v' w' r1 r2

/-- a world without some blocks -/
def hideW (w : World) (G : Nat → Bool) : World := { w with heap := w.heap.mapIdx fun i x => if G i then .cells #[] 0 (0, 0) else x }
theorem hide_cell (w : World) (G : Nat → Bool) (x : Addr) : (hideW w G).cell? x = if G x.block then none else w.cell? x := by
  unfold hideW World.cell?
  simp only [Array.getElem?_mapIdx]
  cases h : w.heap[x.block]? with
  | none => cases G x.block <;> simp
  | some y => cases hG : G x.block <;> simp [hG]
theorem hide_stays {w : World} {G : Nat → Bool} (lo : Nat) : Stays lo (hideW w G) w := by
  intro x c _ h
  rw [hide_cell] at h
  split at h
  · cases h
  · exact h
/-- what has come so far, in a row's cells -/
def ItemsOK (w : World) (n0 : Nat) (l : List JV) (xs : List Value) : Prop :=
  xs.length = 4 * l.length ∧ ∀ (i : Nat) (v : JV), l[i]? = some v → ∃ c0 c1 c2 c3, xs[4 * i]? = some c0 ∧ xs[4 * i + 1]? = some c1 ∧ xs[4 * i + 2]? = some c2 ∧ xs[4 * i + 3]? = some c3 ∧ IsV w n0 v c0 c1 c2 c3
theorem ItemsOK.nil (w : World) (n0 : Nat) : ItemsOK w n0 [] [] := ⟨rfl, fun i v h => by simp at h⟩
theorem ItemsOK.stays {w w' : World} {n0 : Nat} {l : List JV} {xs : List Value} (h : ItemsOK w n0 l xs) (hs : Stays n0 w w') : ItemsOK w' n0 l xs :=
  ⟨h.1, fun i v hi => let ⟨c0, c1, c2, c3, e0, e1, e2, e3, hv⟩ := h.2 i v hi; ⟨c0, c1, c2, c3, e0, e1, e2, e3, hv.stays hs (Nat.le_refl _)⟩⟩
theorem ItemsOK.snoc {w : World} {n0 : Nat} {l : List JV} {xs : List Value} (h : ItemsOK w n0 l xs) {v : JV} {c0 c1 c2 c3 : Value} (hv : IsV w n0 v c0 c1 c2 c3) : ItemsOK w n0 (l ++ [v]) (xs ++ [c0, c1, c2, c3]) := by
  refine ⟨by simp [h.1]; omega, fun i x hi => ?_⟩
  by_cases hlt : i < l.length
  · rw [List.getElem?_append_left hlt] at hi
    obtain ⟨d0, d1, d2, d3, e0, e1, e2, e3, hx⟩ := h.2 i x hi
    have := h.1
    exact ⟨d0, d1, d2, d3, by rw [List.getElem?_append_left (by omega)]; exact e0, by rw [List.getElem?_append_left (by omega)]; exact e1, by rw [List.getElem?_append_left (by omega)]; exact e2, by rw [List.getElem?_append_left (by omega)]; exact e3, hx⟩
  · have hil : i < (l ++ [v]).length := (List.getElem?_eq_some_iff.1 hi).1
    simp only [List.length_append, List.length_cons, List.length_nil] at hil
    have : i = l.length := by omega
    subst this
    rw [List.getElem?_append_right (Nat.le_refl _)] at hi
    simp at hi
    subst hi
    have hx := h.1
    refine ⟨c0, c1, c2, c3, ?_, ?_, ?_, ?_, hv⟩
    · rw [List.getElem?_append_right (by omega), hx, show 4 * l.length - 4 * l.length = 0 by omega]; rfl
    · rw [List.getElem?_append_right (by omega), hx, show 4 * l.length + 1 - 4 * l.length = 1 by omega]; rfl
    · rw [List.getElem?_append_right (by omega), hx, show 4 * l.length + 2 - 4 * l.length = 2 by omega]; rfl
    · rw [List.getElem?_append_right (by omega), hx, show 4 * l.length + 3 - 4 * l.length = 3 by omega]; rfl
theorem ItemsOK.row {w : World} {n0 g : Nat} : ∀ (l : List JV) (xs : List Value) (off : Nat), ItemsOK w n0 l xs → (∀ j u, xs[j]? = some u → w.cell? ⟨g, off + j, none⟩ = some u) → IsRow w n0 l g off
  | [], _, _, _, _ => by simp only [IsRow]
  | v :: t, xs, off, h, hc => by
    simp only [IsRow]
    obtain ⟨c0, c1, c2, c3, e0, e1, e2, e3, hv⟩ := h.2 0 v rfl
    refine ⟨⟨c0, c1, c2, c3, hc 0 c0 e0, hc 1 c1 e1, hc 2 c2 e2, hc 3 c3 e3, hv⟩, ?_⟩
    have hl := h.1
    simp only [List.length_cons] at hl
    refine ItemsOK.row t (xs.drop 4) (off + 4) ⟨by rw [List.length_drop]; omega, fun i x hi => ?_⟩ (fun j u hj => ?_)
    · obtain ⟨d0, d1, d2, d3, f0, f1, f2, f3, hx⟩ := h.2 (i + 1) x (by simpa using hi)
      refine ⟨d0, d1, d2, d3, ?_, ?_, ?_, ?_, hx⟩
      · rw [List.getElem?_drop]; rw [show 4 + 4 * i = 4 * (i + 1) by omega]; exact f0
      · rw [List.getElem?_drop]; rw [show 4 + (4 * i + 1) = 4 * (i + 1) + 1 by omega]; exact f1
      · rw [List.getElem?_drop]; rw [show 4 + (4 * i + 2) = 4 * (i + 1) + 2 by omega]; exact f2
      · rw [List.getElem?_drop]; rw [show 4 + (4 * i + 3) = 4 * (i + 1) + 3 by omega]; exact f3
    · rw [List.getElem?_drop] at hj
      have := hc (4 + j) u hj
      rw [show off + 4 + j = off + (4 + j) by omega]
      exact this

/-- what value comes to -/
def ValEnd (pb : Nat) (s : ByteArray) (o : Nat) (w : World) (r : Except Fail (JV × Nat × Nat)) (e : Ending) (w' : World) : Prop :=
  GB pb w w' ∧ match r with
  | .ok (x, j, v) => ∃ c0 c1 c2 c3, e = .returned (.agg #[c0, c1, c2, c3]) ∧ IsV w' w.heap.size x c0 c1 c2 c3 ∧ PS w' pb s j v o
  | .error (i, k) => e = Pan i k
end Go.Proofs.YtakdhfjlhkejdaaGreatDoor

/-
  CONTRACTS of package json's parser: the closure by which an array takes a value.
-/
set_option linter.unusedVariables false
namespace Go.Proofs.YtakdhfjlhkejdaaGreatDoor
open Go.RowKit

theorem infoValue : (Tryz.prog.info? 26).map (fun i => (i.zero, i.size, i.bytes)) = some (some (.agg #[.int .u8 0, .string ⟨#[]⟩, .slice none 0 0, .slice none 0 0]), 4, 72) := by kernel_rfl
/-- hidden: a value's own block, the result's, and the row of its list -/
def hidA (vb rv : Nat) (lv : Value) : Nat → Bool := fun k => k == vb || k == rv || some k == lv.ownBlock
/-- what holds between two values of an array: w0: the world when the array began -/
structure ArrI (w0 : World) (pb pbx vb rv : Nat) (s : ByteArray) (w : World) (l : List JV) (lv : Value) (xs : List Value) (a v o : Nat) : Prop where
  ps : PS w pb s a v o
  box : w.heap[pbx]? = some (.cells #[.pointer (some ⟨pb, 0, none⟩)] 89 (0, 0))
  rb : RB w vb (.int .u8 6) (.string ⟨#[]⟩) (.slice none 0 0) lv
  res : RB w rv (.int .u8 0) (.string ⟨#[]⟩) (.slice none 0 0) (.slice none 0 0)
  own : w.ownsRow w0.heap.size 26 4 lv l.length xs
  far : lv.ownBlock ≠ some vb ∧ lv.ownBlock ≠ some pbx ∧ lv.ownBlock ≠ some rv
  items : ItemsOK (hideW w (hidA vb rv lv)) w0.heap.size l xs
  gb : GB pb w0 w
  lo : pb < w0.heap.size ∧ w0.heap.size ≤ vb ∧ w0.heap.size ≤ pbx ∧ pbx ≠ vb ∧ w0.heap.size ≤ rv ∧ rv ≠ vb
theorem ArrI.below {w0 : World} {pb pbx vb rv : Nat} {s : ByteArray} {w w' : World} {l : List JV} {lv : Value} {xs : List Value} {a v o a' v' o' : Nat} (h : ArrI w0 pb pbx vb rv s w l lv xs a v o) (hg : GB pb w w') (hp : PS w' pb s a' v' o') :
    ArrI w0 pb pbx vb rv s w' l lv xs a' v' o' where
  ps := hp
  box := (hg.block pbx (Array.getElem?_eq_some_iff.1 h.box).1 (fun e => by injection e with e; have := h.lo; omega)).trans h.box
  rb := h.rb.gb hg (by have := h.lo; omega)
  res := h.res.gb hg (by have := h.lo; omega)
  own := h.own.kept hg (by
    cases hv : lv.ownBlock with
    | none => exact .inl rfl
    | some g =>
      right
      have := (h.own.lt g hv).1
      have := h.lo
      intro e
      injection e with e
      omega)
  far := h.far
  items := h.items.stays (by
    intro x c hl hx
    rw [hide_cell] at hx ⊢
    split at hx
    · cases hx
    · rename_i hn
      rw [if_neg hn]
      exact hg.cell hx (by have := h.lo; omega))
  gb := h.gb.trans hg
  lo := h.lo
theorem own_eq {w w' : World} {base : Nat} {e : TypeId} {size g n cap m : Nat} {xs : List Value} (h : w.ownsRow base e size (.slice (some ⟨g, 0, none⟩) n cap) m xs) (he : w'.heap[g]? = w.heap[g]?) : w'.ownsRow base e size (.slice (some ⟨g, 0, none⟩) n cap) m xs := by
  refine ⟨h.1, ?_⟩
  rcases h.2 with ⟨hv, _⟩ | ⟨g', c', cur, hv, hb, hg, rest⟩
  · cases hv
  · refine .inr ⟨g', c', cur, hv, hb, ?_, rest⟩
    simp only [Value.slice.injEq, Option.some.injEq, Addr.mk.injEq] at hv
    obtain ⟨⟨rfl, _⟩, _⟩ := hv
    exact he.trans hg
theorem set4_list (xs : List Value) (n : Nat) (h : xs.length = n * 4) (z0 z1 z2 z3 c0 c1 c2 c3 : Value) :
    ((((xs ++ [z0, z1, z2, z3]).set (n * 4) c0).set (n * 4 + 1) c1).set (n * 4 + 2) c2).set (n * 4 + 3) c3 = xs ++ [c0, c1, c2, c3] := by
  rw [← h]
  rw [List.set_append_right _ _ (by omega), List.set_append_right _ _ (by omega), List.set_append_right _ _ (by omega), List.set_append_right _ _ (by omega)]
  simp
theorem own_set4 {w : World} {base : Nat} {e : TypeId} {g n cap : Nat} {xs : List Value} {z0 z1 z2 z3 : Value} (hx : xs.length = n * 4) (h : w.ownsRow base e 4 (.slice (some ⟨g, 0, none⟩) (n + 1) cap) (n + 1) (xs ++ [z0, z1, z2, z3])) (c0 c1 c2 c3 : Value) :
    ((((w.setCell ⟨g, n * 4, none⟩ c0).setCell ⟨g, n * 4 + 1, none⟩ c1).setCell ⟨g, n * 4 + 2, none⟩ c2).setCell ⟨g, n * 4 + 3, none⟩ c3).ownsRow base e 4 (.slice (some ⟨g, 0, none⟩) (n + 1) cap) (n + 1) (xs ++ [c0, c1, c2, c3]) := by
  have := ((((h.stored (n * 4) c0).1.stored (n * 4 + 1) c1).1.stored (n * 4 + 2) c2).1.stored (n * 4 + 3) c3).1
  rw [set4_list xs n hx] at this
  exact this
theorem own_cells4 {w : World} {base : Nat} {e : TypeId} {g n cap : Nat} {xs : List Value} {z0 z1 z2 z3 : Value} (hx : xs.length = n * 4) (h : w.ownsRow base e 4 (.slice (some ⟨g, 0, none⟩) (n + 1) cap) (n + 1) (xs ++ [z0, z1, z2, z3])) :
    w.cell? ⟨g, n * 4, none⟩ = some z0 ∧ w.cell? ⟨g, n * 4 + 1, none⟩ = some z1 ∧ w.cell? ⟨g, n * 4 + 2, none⟩ = some z2 ∧ w.cell? ⟨g, n * 4 + 3, none⟩ = some z3 := by
  refine ⟨?_, ?_, ?_, ?_⟩
  · rw [h.cellAt _ (by omega), ← hx, List.getElem?_append_right (by omega)]; simp
  · rw [h.cellAt _ (by omega), ← hx, List.getElem?_append_right (by omega)]; simp
  · rw [h.cellAt _ (by omega), ← hx, List.getElem?_append_right (by omega)]; simp
  · rw [h.cellAt _ (by omega), ← hx, List.getElem?_append_right (by omega)]; simp
theorem set4_heap (w : World) (g i0 i1 i2 i3 : Nat) (c0 c1 c2 c3 : Value) (k : Nat) (hk : k ≠ g) : ((((w.setCell ⟨g, i0, none⟩ c0).setCell ⟨g, i1, none⟩ c1).setCell ⟨g, i2, none⟩ c2).setCell ⟨g, i3, none⟩ c3).heap[k]? = w.heap[k]? := by
  rw [Below.heap_setCell _ _ _ _ hk, Below.heap_setCell _ _ _ _ hk, Below.heap_setCell _ _ _ _ hk, Below.heap_setCell _ _ _ _ hk]
theorem set_size (w : World) (p : Addr) (c : Value) : (w.setCell p c).heap.size = w.heap.size := by simp [World.setCell]
theorem RB.set3 {w : World} {rb : Nat} {c0 c1 c2 c3 : Value} (h : RB w rb c0 c1 c2 c3) (x : Value) : RB (w.setCell ⟨rb, 3, none⟩ x) rb c0 c1 c2 x := by
  have hlt := h.lt
  unfold RB at *
  unfold World.setCell
  rw [Array.getElem?_modify]
  simp [h]
/-- the end of a round: what was appended and stored makes the next round's state -/
theorem arr_end {w0 : World} {pb pbx vb rv : Nat} {s : ByteArray} {w : World} {l : List JV} {lp : Option Addr} {lc : Nat} {xs : List Value} {a v o : Nat} (h : ArrI w0 pb pbx vb rv s w l (.slice lp l.length lc) xs a v o)
    {wc w1 w2 w3 w4 : World} {x : JV} {c0 c1 c2 c3 : Value} {j v' g cap : Nat} (hc : Below w.heap.size w wc) (hg1 : GB pb wc w1) (hV : IsV w1 wc.heap.size x c0 c1 c2 c3) (hp1 : PS w1 pb s j v' o) (h2 : Below w1.heap.size w1 w2)
    (hgrow : w2.grownBy w3 (Value.slice lp l.length lc).ownBlock) (hat : (Value.slice lp l.length lc).ownBlock = some g ∨ g = w2.heap.size)
    (hown : w4.ownsRow w0.heap.size 26 4 (.slice (some ⟨g, 0, none⟩) (l.length + 1) cap) (l.length + 1) (xs ++ [c0, c1, c2, c3])) (hvb : RB w4 vb (.int .u8 6) (.string ⟨#[]⟩) (.slice none 0 0) (.slice (some ⟨g, 0, none⟩) (l.length + 1) cap))
    (hfr : ∀ k, k ≠ g → k ≠ vb → w4.heap[k]? = w3.heap[k]?) (hsz : w4.heap.size = w3.heap.size) (hos : w4.os = w3.os ∧ w4.tape = w3.tape ∧ w4.output = w3.output) :
    GB pb w0 w4 ∧ ∃ lp' lc' xs', ArrI w0 pb pbx vb rv s w4 (l ++ [x]) (.slice lp' (l ++ [x]).length lc') xs' j v' o := by
  have hlo := h.lo
  have hvlt := h.rb.lt
  have hpxlt : pbx < w.heap.size := (Array.getElem?_eq_some_iff.1 h.box).1
  have hgl := hown.lt g rfl
  have hs1 := hc.size
  have hs2 := hg1.size
  have hs3 := h2.size
  have hs4 := hgrow.size
  have hown0 : ∀ k, (Value.slice lp l.length lc).ownBlock = some k → w0.heap.size ≤ k ∧ k < w.heap.size := h.own.lt
  have hg0 : g < w.heap.size ∨ g = w2.heap.size := by
    rcases hat with e | e
    · exact .inl (hown0 g e).2
    · exact .inr e
  have hgv : g ≠ vb := by
    rcases hat with e | e
    · intro e2; subst e2; exact h.far.1 e
    · omega
  have hgx : g ≠ pbx := by
    rcases hat with e | e
    · intro e2; subst e2; exact h.far.2.1 e
    · omega
  have hrlt := h.res.lt
  have hgr : g ≠ rv := by
    rcases hat with e | e
    · intro e2; subst e2; exact h.far.2.2 e
    · omega
  have hkey : ∀ k, k < w.heap.size → k ≠ pb → k ≠ vb → some k ≠ (Value.slice lp l.length lc).ownBlock → w4.heap[k]? = w.heap[k]? := by
    intro k hk h1 h3 h4
    have hkg : k ≠ g := by
      rcases hat with e | e
      · intro e2; subst e2; exact h4 e.symm
      · omega
    rw [hfr k hkg h3, hgrow.block k (by omega) h4, h2.block k (by omega), hg1.block k (by omega) (fun e => h1 (Option.some.inj e)), hc.block k hk]
  have hpb4 : w4.heap[pb]? = w1.heap[pb]? := by
    rw [hfr pb (by omega) (by omega), hgrow.block pb (by omega) (fun e => by have := (hown0 pb e.symm).1; omega), h2.block pb (by omega)]
  have hgb : GB pb w0 w4 := by
    have k0 := ((h.gb.trans (Below.gb hc pb)).trans hg1).trans (Below.gb h2 pb)
    refine ⟨?_, ?_, ?_, ?_, ?_⟩
    · rw [hos.1, hgrow.os]; exact k0.os
    · rw [hos.2.1, hgrow.tape]; exact k0.tape
    · rw [hos.2.2, hgrow.output]; exact k0.output
    · have := k0.size; omega
    · intro k hk hne
      have := k0.size
      rw [hfr k (by omega) (by omega), hgrow.block k (by omega) (fun e => by have := (hown0 k e.symm).1; omega)]
      exact k0.block k hk hne
  refine ⟨hgb, some ⟨g, 0, none⟩, cap, xs ++ [c0, c1, c2, c3], ?_⟩
  have hlen : (l ++ [x]).length = l.length + 1 := by simp
  refine ⟨?_, ?_, ?_, ?_, ?_, ?_, ?_, hgb, hlo⟩
  · exact hpb4.trans hp1
  · refine (hkey pbx hpxlt (by omega) hlo.2.2.2.1 (fun e => h.far.2.1 e.symm)).trans h.box
  · rw [hlen]; exact hvb
  · exact (hkey rv hrlt (by omega) hlo.2.2.2.2.2 (fun e => h.far.2.2 e.symm)).trans h.res
  · rw [hlen]; exact hown
  · exact ⟨fun e => hgv (Option.some.inj e), fun e => hgx (Option.some.inj e), fun e => hgr (Option.some.inj e)⟩
  · refine ItemsOK.snoc (h.items.stays ?_) (hV.stays ?_ (by omega))
    · intro y c hl hy
      rw [hide_cell] at hy
      split at hy
      · cases hy
      · rename_i hn
        have hyl := cell_lt hy
        simp only [hidA, Bool.or_eq_true, beq_iff_eq, not_or] at hn
        have hyg : y.block ≠ g := by
          rcases hat with e | e
          · intro e2; rw [← e2] at e; exact hn.2 e.symm
          · omega
        rw [hide_cell, if_neg (by simp only [hidA, Bool.or_eq_true, beq_iff_eq, not_or]; exact ⟨hn.1, fun e => hyg (Option.some.inj e)⟩), World.cell?_of_block (hkey y.block hyl (by omega) hn.1.1 hn.2)]
        exact hy
    · intro y c hl hy
      have hyl := cell_lt hy
      have hyg : y.block ≠ g := by omega
      rw [hide_cell, if_neg (by simp only [hidA, Bool.or_eq_true, beq_iff_eq, not_or]; exact ⟨⟨by omega, by omega⟩, fun e => hyg (Option.some.inj e)⟩)]
      rw [World.cell?_of_block (w := w1)]
      · exact hy
      · rw [hfr _ hyg (by omega), hgrow.block _ (by omega) (fun e => by have := (hown0 _ e.symm).2; omega), h2.block _ hyl]
theorem ArrI.ne {w0 : World} {pb pbx vb rv : Nat} {s : ByteArray} {w : World} {l : List JV} {lv : Value} {xs : List Value} {a v o : Nat} (h : ArrI w0 pb pbx vb rv s w l lv xs a v o) : lv.ownBlock = none ∨ lv.ownBlock ≠ some pb := by
  right
  intro e
  have := (h.own.lt pb e).1
  have := h.lo
  omega
/-- what a round of an array comes to -/
def ItemEnd (w0 : World) (pb pbx vb rv : Nat) (s : ByteArray) (w : World) (l : List JV) (v o : Nat) (r : Except Fail (JV × Nat × Nat)) (e : Ending) (w' : World) : Prop :=
  GB pb w0 w' ∧ match r with
  | .ok (x, j, v') => e = .returned (.tuple #[]) ∧ ∃ lp lc xs, ArrI w0 pb pbx vb rv s w' (l ++ [x]) (.slice lp (l ++ [x]).length lc) xs j v' o
  | .error (i, k) => e = Pan i k
end Go.Proofs.YtakdhfjlhkejdaaGreatDoor

/-
  MATHEMATICS for package json's Same: lists that are still to be held against each other.
-/
set_option linter.unusedVariables false
namespace Go.Proofs.YtakdhfjlhkejdaaGreatDoor
open Go.RowKit
mutual
/-- two values are the same -/
def sameV : JV → JV → Bool
  | .mk k t ks l, .mk k' t' ks' l' => alikeB k k' t t' ks ks' l.length l'.length && sameL l l'
def sameL : List JV → List JV → Bool
  | [], [] => true
  | a :: x, b :: y => sameV a b && sameL x y
  | [], _ :: _ => false
  | _ :: _, [] => false
end
mutual
/-- how many keys there are in all -/
def keysV : JV → Nat
  | .mk _ _ ks l => ks.length + keysL l
def keysL : List JV → Nat
  | [] => 0
  | v :: t => keysV v + keysL t
end
theorem len_sizeL : ∀ l : List JV, l.length ≤ sizeL l
  | [] => by simp [sizeL]
  | v :: t => by
    have := len_sizeL t
    obtain ⟨k, s, ks, l⟩ := v
    simp only [sizeL, sizeV, List.length_cons]
    omega
theorem drop_split {l : List JV} {i : Nat} {x : JV} (h : l[i]? = some x) : l.drop i = x :: l.drop (i + 1) := by
  obtain ⟨hi, rfl⟩ := List.getElem?_eq_some_iff.1 h
  exact List.drop_eq_getElem_cons hi
theorem sizeL_split {l : List JV} {i : Nat} {x : JV} (h : l[i]? = some x) : sizeL (l.drop i) = sizeV x + sizeL (l.drop (i + 1)) := by rw [drop_split h]; simp [sizeL]
theorem sizeL_drop : ∀ (i : Nat) (l : List JV), sizeL (l.drop i) ≤ sizeL l
  | 0, l => by simp
  | i + 1, [] => by simp
  | i + 1, v :: t => by
    have := sizeL_drop i t
    simp only [List.drop_succ_cons, sizeL]
    omega
theorem sizeV_in {l : List JV} {i : Nat} {x : JV} (h : l[i]? = some x) : sizeV x ≤ sizeL l := by
  have h1 := sizeL_split h
  have h2 := sizeL_drop i l
  omega
theorem keysV_in : ∀ {l : List JV} {i : Nat} {x : JV}, l[i]? = some x → keysV x ≤ keysL l
  | [], i, x, h => by simp at h
  | v :: t, 0, x, h => by
    simp only [List.getElem?_cons_zero, Option.some.injEq] at h
    subst h
    simp only [keysL]
    omega
  | v :: t, i + 1, x, h => by
    have := keysV_in (l := t) (i := i) (x := x) (by simpa using h)
    simp only [keysL]
    omega
theorem sameL_split {l m : List JV} {i : Nat} {x y : JV} (h : l[i]? = some x) (k : m[i]? = some y) : sameL (l.drop i) (m.drop i) = (sameV x y && sameL (l.drop (i + 1)) (m.drop (i + 1))) := by
  rw [drop_split h, drop_split k]
  simp [sameL]
theorem sameL_end {l m : List JV} (h : l.length = m.length) : sameL (l.drop l.length) (m.drop l.length) = true := by
  rw [List.drop_length, h, List.drop_length]
  rfl
/-- a slice of values -/
def IsL (w : World) (l : List JV) (v : Value) : Prop := ∃ a cap, v = .slice a l.length cap ∧ (l = [] ∨ ∃ b off, a = some ⟨b, off, none⟩ ∧ IsRow w 0 l b off)
abbrev Ent := List JV × List JV × Value × Value
/-- two lists that are to be held against each other -/
structure EntOK (w : World) (e : Ent) : Prop where
  l : IsL w e.1 e.2.2.1
  m : IsL w e.2.1 e.2.2.2
  len : e.1.length = e.2.1.length
  ne : e.1 ≠ []
  sl : sizeL e.1 ≤ 1000000000000
  sm : sizeL e.2.1 ≤ 1000000000000
  kl : keysL e.1 ≤ 1000000000000
  km : keysL e.2.1 ≤ 1000000000000
def flatE : List Ent → List Value
  | [] => []
  | e :: t => e.2.2.1 :: e.2.2.2 :: flatE t
theorem flatE_append : ∀ S T : List Ent, flatE (S ++ T) = flatE S ++ flatE T
  | [], T => rfl
  | e :: S, T => by simp [flatE, flatE_append S T]
theorem flatE_len : ∀ S : List Ent, (flatE S).length = S.length * 2
  | [] => rfl
  | e :: S => by simp [flatE, flatE_len S]; omega
def totE : List Ent → Nat
  | [] => 0
  | e :: t => sizeL e.1 + totE t
theorem totE_append : ∀ S T : List Ent, totE (S ++ T) = totE S + totE T
  | [], T => by simp [totE]
  | e :: S, T => by simp [totE, totE_append S T]; omega
theorem totE_len {w : World} : ∀ S : List Ent, (∀ e ∈ S, EntOK w e) → S.length ≤ totE S
  | [], _ => by simp [totE]
  | e :: S, h => by
    have h1 := totE_len S (fun x hx => h x (List.mem_cons_of_mem _ hx))
    have h2 := (h e (List.mem_cons_self ..)).ne
    have h3 := len_sizeL e.1
    have h4 : 0 < e.1.length := List.length_pos_iff.2 h2
    simp only [totE, List.length_cons]
    omega
def sameS (S : List Ent) : Bool := S.all fun e => sameL e.1 e.2.1
theorem sameS_append (S : List Ent) (e : Ent) : sameS (S ++ [e]) = (sameS S && sameL e.1 e.2.1) := by simp [sameS]
theorem least_exists {P : Nat → Prop} : ∀ n, P n → ∃ k, P k ∧ ∀ m, P m → k ≤ m := by
  intro n
  induction n using Nat.strongRecOn with
  | ind n ih =>
    intro h
    rcases Classical.em (∃ m, m < n ∧ P m) with ⟨m, hm, hp⟩ | hn
    · exact ih m hm hp
    · exact ⟨n, h, fun m hp => Nat.le_of_not_lt fun hlt => hn ⟨m, hlt, hp⟩⟩
/-- the least number at which something holds -/
noncomputable def leastN (P : Nat → Prop) : Nat := Classical.epsilon fun k => P k ∧ ∀ m, P m → k ≤ m
theorem leastN_spec {P : Nat → Prop} (h : ∃ n, P n) : P (leastN P) :=
  let ⟨n, hn⟩ := h
  (Classical.epsilon_spec (p := fun k => P k ∧ ∀ m, P m → k ≤ m) (least_exists n hn)).1
theorem leastN_le {P : Nat → Prop} {n : Nat} (h : P n) : leastN P ≤ n :=
  (Classical.epsilon_spec (p := fun k => P k ∧ ∀ m, P m → k ≤ m) (least_exists n h)).2 n h
/-- what stands between two rounds -/
def SameI (wA : World) (g : Bool) (N m : Nat) (v : Value) (wr : World) : Prop :=
  ∃ S : List Ent, wr.ownsRow wA.heap.size 83 2 v S.length (flatE S) ∧ (∀ e ∈ S, EntOK wA e) ∧ g = sameS S ∧ totE S = m ∧ m ≤ N ∧ Below wA.heap.size wA wr
/-- what stands while two lists are gone through -/
structure SameJ (wA : World) (G : Bool) (m0 : Nat) (l m : List JV) (pb : Nat) (vl vm : Value) (i : Nat) (S : List Ent) (g cap : Nat) (wr : World) : Prop where
  own : wr.ownsRow wA.heap.size 83 2 (.slice (some ⟨g, 0, none⟩) S.length cap) S.length (flatE S)
  ok : ∀ e ∈ S, EntOK wA e
  same : G = (sameS S && sameL (l.drop i) (m.drop i))
  tot : totE S + sizeL (l.drop i) + i ≤ m0
  bel : Below wA.heap.size wA wr
  box : wr.heap[pb]? = some (.cells #[vl, vm] 83 (0, 0))
  far : g ≠ pb
  new : wA.heap.size ≤ pb
theorem infoPair : (Tryz.prog.info? 83).map (fun i => (i.zero, i.size, i.bytes)) = some (some (.agg #[.slice none 0 0, .slice none 0 0]), 2, 48) := by kernel_rfl
theorem EntOK.opened {w : World} {l m : List JV} {vl vm : Value} (h : EntOK w (l, m, vl, vm)) : ∃ n lb lo cl mb mo cm, vl = .slice (some ⟨lb, lo, none⟩) n cl ∧ vm = .slice (some ⟨mb, mo, none⟩) n cm ∧ IsRow w 0 l lb lo ∧ IsRow w 0 m mb mo ∧ Hid (l.length = n) ∧ Hid (m.length = n) ∧ 0 < n ∧ n ≤ 1000000000000 := by
  obtain ⟨⟨al, cl, h1, hl⟩, ⟨am, cm, h2, hm⟩, hlen, hne, hs, _, _, _⟩ := h
  simp only at h1 hl h2 hm hlen hne hs
  have hpos : 0 < l.length := List.length_pos_iff.2 hne
  obtain ⟨lb, lo, rfl, hrl⟩ := hl.resolve_left hne
  obtain ⟨mb, mo, rfl, hrm⟩ := hm.resolve_left (fun h => by rw [h] at hlen; exact hne (List.length_eq_zero_iff.1 hlen))
  exact ⟨l.length, lb, lo, cl, mb, mo, cm, h1, by rw [h2, hlen], hrl, hrm, Lib.hid rfl, Lib.hid hlen.symm, hpos, Nat.le_trans (len_sizeL l) hs⟩
theorem own_cellAt {w : World} {base : Nat} {e : TypeId} {size n g k cap : Nat} {xs : List Value} (h : w.ownsRow base e size (.slice (some ⟨g, 0, none⟩) k cap) n xs) (j : Nat) (u : Value) (hu : xs[j]? = some u) : w.cell? ⟨g, j, none⟩ = some u := by
  have hc := h.cells (g := g) rfl j u hu
  have hadd : (⟨g, 0, none⟩ : Addr).add j = ⟨g, j, none⟩ := by unfold Addr.add; split <;> simp_all
  rw [hadd] at hc
  exact hc
theorem own_form2 {w : World} {base : Nat} {e : TypeId} {size n : Nat} {v : Value} {xs : List Value} (h : w.ownsRow base e size v n xs) (hn : 0 < n) :
    ∃ g cap, v = .slice (some ⟨g, 0, none⟩) n cap ∧ base ≤ g ∧ g < w.heap.size ∧ n ≤ cap ∧ cap ≤ 9223372036854775807 := by
  rcases h.2 with ⟨_, h0⟩ | ⟨g, cap, cur, hv, hb, hg, h1, h2, _⟩
  · omega
  · exact ⟨g, cap, hv, hb, (Array.getElem?_eq_some_iff.1 hg).1, h1, by unfold maxLen at h2; omega⟩
theorem IsRow.one {w : World} {v : JV} {b : Nat} {c0 c1 c2 c3 : Value} (h : IsV w 0 v c0 c1 c2 c3) (hb : w.heap[b]? = some (.cells #[c0, c1, c2, c3] 26 (0, 0))) : IsRow w 0 [v] b 0 := by
  simp only [IsRow]
  exact ⟨⟨c0, c1, c2, c3, by rw [Lib.cell_of_heap hb]; rfl, by rw [Lib.cell_of_heap hb]; rfl, by rw [Lib.cell_of_heap hb]; rfl, by rw [Lib.cell_of_heap hb]; rfl, h⟩, trivial⟩
theorem same_start (w : World) (A B : Obj) (a b : JV) (c0 c1 c2 c3 d0 d1 d2 d3 : Value) (ha : IsV w 0 a c0 c1 c2 c3) (hb : IsV w 0 b d0 d1 d2 d3) (hsa : sizeV a ≤ 1000000000000) (hsb : sizeV b ≤ 1000000000000) (hka : keysV a ≤ 1000000000000) (hkb : keysV b ≤ 1000000000000) :
    SameI ((((w.alloc A).alloc B).alloc (.cells #[c0, c1, c2, c3] 26)).alloc (.cells #[d0, d1, d2, d3] 26)) (sameV a b) (sizeV a) (sizeV a) (.slice (some ⟨w.heap.size + 1 + 1 + 1 + 1, 0, none⟩) 1 1)
      (((((w.alloc A).alloc B).alloc (.cells #[c0, c1, c2, c3] 26)).alloc (.cells #[d0, d1, d2, d3] 26)).alloc (.cells #[.slice (some ⟨w.heap.size + 1 + 1, 0, none⟩) 1 1, .slice (some ⟨w.heap.size + 1 + 1 + 1, 0, none⟩) 1 1] 83)) := by
  have s1 : ((w.alloc A).alloc B).heap.size = w.heap.size + 1 + 1 := by rw [World.size_alloc, World.size_alloc]
  have hst := Below.stays (((Below.refl w.heap.size w).alloc (Nat.le_refl _) A).alloc (by simp) B) 0
  generalize (w.alloc A).alloc B = w2 at s1 hst ⊢
  rw [← s1]
  have ha2 := IsV.stays hst (Nat.le_refl 0) _ _ _ _ _ ha
  have hb2 := IsV.stays hst (Nat.le_refl 0) _ _ _ _ _ hb
  have hb3 : Below w2.heap.size w2 ((w2.alloc (.cells #[c0, c1, c2, c3] 26)).alloc (.cells #[d0, d1, d2, d3] 26)) := ((Below.refl _ w2).alloc (Nat.le_refl _) _).alloc (by simp) _
  have ha3 := IsV.stays (Below.stays hb3 0) (Nat.le_refl 0) _ _ _ _ _ ha2
  have hb4 := IsV.stays (Below.stays hb3 0) (Nat.le_refl 0) _ _ _ _ _ hb2
  have q1 : ((w2.alloc (.cells #[c0, c1, c2, c3] 26)).alloc (.cells #[d0, d1, d2, d3] 26)).heap[w2.heap.size]? = some (.cells #[c0, c1, c2, c3] 26 (0, 0)) :=
    (Lib.alloc_old _ _ _ (by simp)).trans (heap_alloc_new _ _)
  have q2 : ((w2.alloc (.cells #[c0, c1, c2, c3] 26)).alloc (.cells #[d0, d1, d2, d3] 26)).heap[w2.heap.size + 1]? = some (.cells #[d0, d1, d2, d3] 26 (0, 0)) := heap_alloc2_new _ _ _
  have s2 : ((w2.alloc (.cells #[c0, c1, c2, c3] 26)).alloc (.cells #[d0, d1, d2, d3] 26)).heap.size = w2.heap.size + 1 + 1 := by rw [World.size_alloc, World.size_alloc]
  generalize (w2.alloc (.cells #[c0, c1, c2, c3] 26)).alloc (.cells #[d0, d1, d2, d3] 26) = wA at *
  refine ⟨[([a], [b], .slice (some ⟨w2.heap.size, 0, none⟩) 1 1, .slice (some ⟨w2.heap.size + 1, 0, none⟩) 1 1)], ⟨rfl, .inr ⟨_, 1, _, rfl, by omega, by rw [← s2]; exact heap_alloc_new wA _, Nat.le_refl _, by decide, rfl, rfl⟩⟩, ?_, ?_, ?_, Nat.le_refl _, ?_⟩
  · intro e he
    rw [List.mem_singleton] at he
    subst he
    exact ⟨⟨_, _, rfl, .inr ⟨_, _, rfl, IsRow.one ha3 q1⟩⟩, ⟨_, _, rfl, .inr ⟨_, _, rfl, IsRow.one hb4 q2⟩⟩, rfl, by simp, by simpa [sizeL] using hsa, by simpa [sizeL] using hsb, by simpa [keysL] using hka, by simpa [keysL] using hkb⟩
  · simp [sameS, sameL]
  · simp [totE, sizeL]
  · exact (Below.refl _ _).alloc (Nat.le_refl _) _
theorem SameJ.first {wA wr : World} {G : Bool} {m0 g cap : Nat} {l m : List JV} {vl vm : Value} {S0 : List Ent} (hown : wr.ownsRow wA.heap.size 83 2 (.slice (some ⟨g, 0, none⟩) S0.length cap) S0.length (flatE S0))
    (hok : ∀ e ∈ S0, EntOK wA e) (hG : G = (sameS S0 && sameL l m)) (htot : totE S0 + (sizeL l + 0) = m0) (hbel : Below wA.heap.size wA wr) (hglt : g < wr.heap.size) :
    SameJ wA G m0 l m wr.heap.size vl vm 0 S0 g cap (wr.alloc (.cells #[vl, vm] 83)) :=
  ⟨hown.alloc _, hok, by simpa using hG, by simp only [List.drop_zero]; omega, hbel.alloc hbel.size _, heap_alloc_new _ _, by omega, hbel.size⟩
theorem SameJ.last {wA wr : World} {G : Bool} {N m0 g cap n pb : Nat} {l m : List JV} {vl vm : Value} {S : List Ent} (h : SameJ wA G m0 l m pb vl vm n S g cap wr) (hl : l.length = n) (hm : m.length = n) (hn : 0 < n) (hN : m0 ≤ N) :
    ∃ k, k < m0 ∧ SameI wA G N k (.slice (some ⟨g, 0, none⟩) S.length cap) wr := by
  have ht := h.tot
  have hs := h.same
  subst hl
  rw [sameL_end hm.symm, Bool.and_true] at hs
  exact ⟨totE S, by omega, S, h.own, h.ok, hs, rfl, by omega, h.bel⟩
theorem sameV_mk (k k' : Nat) (t t' : ByteArray) (ks ks' : List ByteArray) (lx ly : List JV) : sameV (.mk k t ks lx) (.mk k' t' ks' ly) = (alikeB k k' t t' ks ks' lx.length ly.length && sameL lx ly) := by simp [sameV]
theorem SameJ.no {wA wr : World} {G : Bool} {m0 g cap i pb k k' : Nat} {t t' : ByteArray} {ks ks' : List ByteArray} {lx ly l m : List JV} {vl vm : Value} {S : List Ent} (h : SameJ wA G m0 l m pb vl vm i S g cap wr)
    (hx : l[i]? = some (.mk k t ks lx)) (hy : m[i]? = some (.mk k' t' ks' ly)) (hal : alikeB k k' t t' ks ks' lx.length ly.length = false) : G = false := by
  have := h.same
  rw [sameL_split hx hy, sameV_mk, hal] at this
  simpa using this
theorem alike_len {k k' : Nat} {t t' : ByteArray} {ks ks' : List ByteArray} {n n' : Nat} (h : alikeB k k' t t' ks ks' n n' = true) : n = n' := by
  unfold alikeB at h
  simp only [Bool.and_eq_true, decide_eq_true_eq] at h
  exact h.2
theorem SameJ.skip {wA wr wr' : World} {G : Bool} {m0 g cap i pb k k' : Nat} {t t' : ByteArray} {ks ks' : List ByteArray} {lx ly l m : List JV} {vl vm : Value} {S : List Ent} (h : SameJ wA G m0 l m pb vl vm i S g cap wr)
    (hx : l[i]? = some (.mk k t ks lx)) (hy : m[i]? = some (.mk k' t' ks' ly)) (hal : alikeB k k' t t' ks ks' lx.length ly.length = true) (h0 : lx.length = 0) (hw : Below wr.heap.size wr wr') :
    SameJ wA G m0 l m pb vl vm (i + 1) S g cap wr' := by
  have h1 := h.same
  have h2 := h.tot
  have hg := h.own.lt g rfl
  have e1 : lx = [] := List.length_eq_zero_iff.1 h0
  have e2 : ly = [] := List.length_eq_zero_iff.1 (by rw [← alike_len hal]; exact h0)
  rw [sameL_split hx hy, sameV_mk, hal, e1, e2] at h1
  rw [sizeL_split hx] at h2
  simp only [sizeV] at h2
  refine ⟨own_eq h.own (hw.block g hg.2), h.ok, by simpa [sameL] using h1, by omega, h.bel.trans (hw.mono h.bel.size), (hw.block pb (Array.getElem?_eq_some_iff.1 h.box).1).trans h.box, h.far, h.new⟩
theorem SameJ.push {wA wr w1 w2 : World} {G : Bool} {m0 g cap g' cap' i pb k k' : Nat} {t t' : ByteArray} {ks ks' : List ByteArray} {lx ly l m : List JV} {vl vm va vb : Value} {S : List Ent} (h : SameJ wA G m0 l m pb vl vm i S g cap wr) (he : EntOK wA (l, m, vl, vm))
    (hx : l[i]? = some (.mk k t ks lx)) (hy : m[i]? = some (.mk k' t' ks' ly)) (hal : alikeB k k' t t' ks ks' lx.length ly.length = true) (h0 : 0 < lx.length) (hw : Below wr.heap.size wr w1)
    (hown : w2.ownsRow wA.heap.size 83 2 (.slice (some ⟨g', 0, none⟩) (S.length + 1) cap') (S.length + 1) (flatE S ++ [va, vb])) (hgrow : w1.grownBy w2 (some g)) (hat : some g = some g' ∨ g' = w1.heap.size) (hva : IsL wA lx va) (hvb : IsL wA ly vb) :
    SameJ wA G m0 l m pb vl vm (i + 1) (S ++ [(lx, ly, va, vb)]) g' cap' w2 := by
  have h1 := h.same
  have h2 := h.tot
  have hg := h.own.lt g rfl
  have hpb := (Array.getElem?_eq_some_iff.1 h.box).1
  have hfar := h.far
  have hws := hw.size
  have s1 : sizeV (.mk k t ks lx) ≤ sizeL l := sizeV_in hx
  have s2 : sizeV (.mk k' t' ks' ly) ≤ sizeL m := sizeV_in hy
  have k1 : keysV (.mk k t ks lx) ≤ keysL l := keysV_in hx
  have k2 : keysV (.mk k' t' ks' ly) ≤ keysL m := keysV_in hy
  have q1 := he.sl
  have q2 := he.sm
  have q3 := he.kl
  have q4 := he.km
  simp only [sizeV, keysV] at s1 s2 k1 k2 q1 q2 q3 q4
  rw [sameL_split hx hy, sameV_mk, hal, Bool.true_and] at h1
  rw [sizeL_split hx] at h2
  simp only [sizeV] at h2
  refine ⟨?_, ?_, ?_, ?_, ?_, ?_, ?_, h.new⟩
  · rw [List.length_append, flatE_append]
    exact hown
  · intro e hm
    rcases List.mem_append.1 hm with hm | hm
    · exact h.ok e hm
    · rw [List.mem_singleton] at hm
      subst hm
      exact ⟨hva, hvb, alike_len hal, List.length_pos_iff.1 h0, by simp only; omega, by simp only; omega, by simp only; omega, by simp only; omega⟩
  · rw [sameS_append, h1, Bool.and_assoc]
  · rw [totE_append]
    simp only [totE]
    omega
  · have hb1 : Below wA.heap.size wA w1 := h.bel.trans (hw.mono h.bel.size)
    exact hb1.grown hgrow hb1.size (fun j e => by cases e; exact hg.1)
  · refine (hgrow.block pb (by omega) (by intro e; cases e; exact hfar rfl)).trans ((hw.block pb hpb).trans h.box)
  · rcases hat with e | e
    · cases e; exact hfar
    · omega
theorem cell_on {wA wr : World} {a : Addr} {c : Value} (hb : Below wA.heap.size wA wr) (h : wA.cell? a = some c) : wr.cell? a = some c := (hb.cell (cell_lt h)).trans h
theorem keys_on {wA wr : World} {ks : List ByteArray} {c : Value} (hb : Below wA.heap.size wA wr) (h : IsKeys wA 0 ks c) : IsKeys wr 0 ks c := h.stays (Below.stays hb 0) (Nat.le_refl _)
theorem IsV.opened {w : World} {k : Nat} {t : ByteArray} {ks : List ByteArray} {l : List JV} {c0 c1 c2 c3 : Value} (h : IsV w 0 (.mk k t ks l) c0 c1 c2 c3) :
    ∃ a2 p2 a3 p3, c0 = .int .u8 (k : Nat) ∧ c1 = .string t ∧ c2 = .slice a2 ks.length p2 ∧ c3 = .slice a3 l.length p3 ∧ IsKeys w 0 ks (.slice a2 ks.length p2) ∧ IsL w l (.slice a3 l.length p3) := by
  simp only [IsV] at h
  obtain ⟨e0, e1, hk, a, cap, e3, h⟩ := h
  obtain ⟨ka, kc, e2, hk2⟩ := hk
  refine ⟨ka, kc, a, cap, e0, e1, e2, e3, ⟨ka, kc, rfl, hk2⟩, a, cap, rfl, ?_⟩
  rcases h with h | ⟨b, off, e, _, h⟩
  · exact .inl h
  · exact .inr ⟨b, off, e, h⟩
theorem SameJ.short {wA wr : World} {G : Bool} {m0 g cap i pb : Nat} {l m : List JV} {vl vm : Value} {S : List Ent} (h : SameJ wA G m0 l m pb vl vm i S g cap wr) : S.length ≤ m0 := by
  have h1 := totE_len S h.ok
  have h2 := h.tot
  omega
end Go.Proofs.YtakdhfjlhkejdaaGreatDoor
