/-
  CONTRACT of the iterator that package seg's reads hands back. No conditions but the text's size.
-/
import Derived.Test.YthimjdknafgfbaaSegScan
import Derived.Test.YthimjdknafgfbaaRangeStep
import Derived.Shelf.Abstract
import Derived.Shelf.RegionOpen
import Derived.OwnWalkIn
import Derived.TacticsInMore
import Derived.LoopNIn
import Derived.LoopIn
import Derived.Deep.DeepCutAuto
set_option linter.unusedVariables false
namespace Go.Proofs.Ythimjdknafgfbaa
open Go.RowKit Go.Shelf
attribute [local go_sem] Oper.semAt_some

abbrev Rd := List UInt8 × Int
def posP (pre : List Rd) : Nat := (pre.map fun x => x.1.length + 12).sum
theorem posP_nil : posP [] = 0 := rfl
theorem posP_snoc (pre : List Rd) (x : Rd) : posP (pre ++ [x]) = posP pre + (x.1.length + 12) := by simp [posP]
theorem posP_len (pre : List Rd) : 12 * pre.length ≤ posP pre := by
  induction pre with
  | nil => simp [posP]
  | cons x l ih =>
    simp only [posP, List.map_cons, List.sum_cons, List.length_cons] at ih ⊢
    omega
/-- so far all was whole -/
structure Good (S : List UInt8) (pre : List Rd) : Prop where
  le : posP pre ≤ S.length
  eq : scanL S = (pre.map (·.1) ++ (scanL (S.drop (posP pre))).1, posP pre + (scanL (S.drop (posP pre))).2.1, (scanL (S.drop (posP pre))).2.2)
theorem Good.nil (S : List UInt8) : Good S [] := ⟨by simp [posP], by simp [posP]⟩
def nextP (S : List UInt8) (pre : List Rd) : Rd := ((readL (S.drop (posP pre))).1, (readL (S.drop (posP pre))).2.2)
theorem Good.pos {S : List UInt8} {pre : List Rd} (he : (nextP S pre).2 = 0) : posP (pre ++ [nextP S pre]) = posP pre + (readL (S.drop (posP pre))).2.1 := by
  have h3 := (read_ok he).2.2
  rw [posP_snoc, h3]
  rfl
theorem Good.step {S : List UInt8} {pre : List Rd} (h : Good S pre) (he : (nextP S pre).2 = 0) : Good S (pre ++ [nextP S pre]) := by
  have hr := read_ok he
  rw [List.length_drop] at hr
  have hle := h.le
  refine ⟨by rw [Good.pos he]; omega, ?_⟩
  rw [h.eq, Good.pos he, scan_ok he, List.drop_drop]
  simp only [List.append_assoc, List.singleton_append, Nat.add_assoc, List.map_append, List.map_cons, List.map_nil]
  rfl
theorem Good.bad {S : List UInt8} {pre : List Rd} (h : Good S pre) (h0 : posP pre < S.length) (he : (nextP S pre).2 ≠ 0) : scanL S = (pre.map (·.1), posP pre, (nextP S pre).2) := by
  have hne : S.drop (posP pre) ≠ [] := by
    intro e
    have := congrArg List.length e
    rw [List.length_drop] at this
    simp at this
    omega
  rw [h.eq, scan_bad hne he]
  simp [nextP]
theorem Good.done {S : List UInt8} {pre : List Rd} (h : Good S pre) (h0 : posP pre = S.length) : scanL S = (pre.map (·.1), posP pre, 0) := by
  have hne : S.drop (posP pre) = [] := List.drop_eq_nil_of_le (by omega)
  rw [h.eq, hne, scan_nil]
  simp
def EncR (S : List UInt8) (pre : List Rd) (x : Rd) (args : Array Value) : Prop := args = #[.string (bOf x.1), .int .i64 x.2] ∧ Good S pre ∧ posP pre < S.length ∧ x = nextP S pre
def EndR (S : List UInt8) (xs : List Rd) : Prop := (Good S xs ∧ posP xs = S.length) ∨ ∃ pre x, xs = pre ++ [x] ∧ x.2 ≠ 0
def strSz : Value → Nat
  | .string s => s.size
  | _ => 0
set_option maxRecDepth 10000000 in
set_option maxHeartbeats 4000000 in
theorem reads1_stops (s : ByteArray) (w : World) (b : Nat) (hs : s.size ≤ 100000000) (hb : w.heap[b]? = some (.cells #[.string s] 9 (0, 0))) :
    StepStops Try.prog 2 29 #[.pointer (some ⟨b, 0, none⟩)] (EncR s.data.toList) (EndR s.data.toList) w := by
  intro l J Jx W hW hJ hY h0
  refine callsIn_wide.2 ?_
  have hbox := (hW.block b (Array.getElem?_eq_some_iff.1 hb).1).trans hb
  have x0 := Lib.cell_of_heap hbox 0
  have hl : s.data.toList.length = s.size := (Lib.size_eq s).symm
  have HLn := Lib.hid hl
  clear hl hbox
  go_enter Try.func29, Try.ntmps29
  go_wp2_with fail
  clear x0
  go_loopw [3] (fun v3 wr => ∃ pre x, v3 = .string x ∧ x.data.toList = s.data.toList.drop (posP pre) ∧ Good s.data.toList pre ∧ J pre wr) (fun v3 _ => strSz v3)
  case atStart => exact ⟨[], s, rfl, by rw [posP_nil, List.drop_zero], Good.nil _, h0⟩
  case round =>
    obtain ⟨pre, x, rfl, hx, hG, hj⟩ := hrel
    have hxs : x.size = s.size - posP pre := by rw [Lib.size_eq, hx, List.length_drop, HLn.out]
    by_cases h00 : x.size = 0
    · have hxe : x = ByteArray.empty := by
        apply ByteArray.ext
        apply Array.toList_inj.1
        exact List.eq_nil_of_length_eq_zero (by rw [← Lib.size_eq]; exact h00)
      subst hxe
      have hend : EndR s.data.toList pre := .inl ⟨hG, by have := hG.le; rw [HLn.out] at *; omega⟩
      clear hx hxs
      go_wp2_with fail
      refine bodyPost_end (results_none rfl _ _ _) rfl ?_
      exact ⟨⟨_, rfl⟩, .inl ⟨pre, hend, hj⟩⟩
    · have hxne : (!x.toList.isEmpty) = true := by
        rw [Lib.toList_data]
        cases hxl : x.data.toList with
        | nil => exfalso; apply h00; rw [Lib.size_eq, hxl]; rfl
        | cons a l => rfl
      have hpos : posP pre < s.data.toList.length := by rw [HLn.out]; omega
      have cR := fun w => read_any x w (by omega)
      rw [hx] at cR
      have henc : EncR s.data.toList pre (nextP s.data.toList pre) #[.string (bOf (nextP s.data.toList pre).1), .int .i64 (nextP s.data.toList pre).2] := ⟨rfl, hG, hpos, rfl⟩
      have hy := fun W1 h => hY pre _ _ W1 h henc
      have hst := fun he => Good.step hG he
      have hsp := fun (he : (nextP s.data.toList pre).2 = 0) => Good.pos (S := s.data.toList) (pre := pre) he
      have hro := fun (he : (nextP s.data.toList pre).2 = 0) => read_ok (l := s.data.toList.drop (posP pre)) he
      unfold readV at cR
      have e1 : (readL (s.data.toList.drop (posP pre))).1 = (nextP s.data.toList pre).1 := rfl
      have e2 : (readL (s.data.toList.drop (posP pre))).2.2 = (nextP s.data.toList pre).2 := rfl
      rw [e1, e2] at cR
      rw [List.length_drop, HLn.out] at hro
      generalize hn : (readL (s.data.toList.drop (posP pre))).2.1 = n at cR hsp hro
      clear hn e1 e2 henc
      generalize nextP s.data.toList pre = y at *
      obtain ⟨t, e⟩ := y
      simp only at cR hy hst hsp hro
      have HY := Lib.hid hy
      have HST := Lib.hid hst
      have HSP := Lib.hid hsp
      have HRO := Lib.hid hro
      have HX := Lib.hid hx
      clear hy hst hsp hro hx
      by_cases he : e = 0
      · subst he
        obtain ⟨r1, r2, r3⟩ := HRO.out rfl
        have n1 : n ≤ x.size := by omega
        have n1i : (n : Int) ≤ (x.size : Int) := by omega
        have n0 : (0 : Int) ≤ (n : Int) := by omega
        have hse : (x.extract n x.size).size = x.size - n := ext_size x n _ (Nat.le_refl _)
        have HD : Hid ((x.extract n x.size).data.toList = s.data.toList.drop (posP (pre ++ [(t, 0)]))) := Lib.hid (by
          rw [HSP.out rfl, ← List.drop_drop, ← HX.out, ext_list, List.take_of_length_le]
          rw [List.length_drop, ← Lib.size_eq]
          omega)
        have HG2 := Lib.hid (HST.out rfl)
        have HSZ := Lib.hid hse
        have HX0 : Hid (0 < x.size) := Lib.hid (by omega)
        have HR1 := Lib.hid r1
        clear r3 hxs r2 HST HSP HRO hse r1
        go_upto_region 3 with (go_at_call 10; refine (cR _).mono ?_; rintro e w1 ⟨rfl, hb1⟩)
        have hj1 := hJ _ _ _ hj hb1
        obtain ⟨fn, tmps, assign, body, hyy, hR⟩ := HY.out _ hj1
        refine (wpIn_wide (n := 2)).1 ?_
        gi_wp2
        refine hR.mono ?_
        rintro e W3 (⟨rfl, hJ3⟩ | ⟨rfl, hJx3⟩)
        · clear hyy hR
          gi_wp2
          go_wp2_with fail
          go_roundw
          case rel => exact ⟨pre ++ [(t, 0)], _, rfl, HD.out, HG2.out, hJ3⟩
          case measure => show (x.extract n x.size).size < x.size; rw [HSZ.out]; have := HR1.out; have := HX0.out; omega
        · gi_wp2
          go_wp2_with fail
          refine bodyPost_ret (results_none rfl _ _ _) rfl ?_
          exact ⟨⟨_, rfl⟩, .inr ⟨_, hJx3⟩⟩
      · have he0 : (e == 0) = false := beq_false_of_ne he
        have he1 : (e != 0) = true := by simp [bne, he0]
        go_upto_region 3 with (go_at_call 10; refine (cR _).mono ?_; rintro e w1 ⟨rfl, hb1⟩)
        have hj1 := hJ _ _ _ hj hb1
        obtain ⟨fn, tmps, assign, body, hyy, hR⟩ := HY.out _ hj1
        refine (wpIn_wide (n := 2)).1 ?_
        gi_wp2
        refine hR.mono ?_
        rintro e2 W3 (⟨rfl, hJ3⟩ | ⟨rfl, hJx3⟩)
        · gi_wp2
          go_wp2_with fail
          refine bodyPost_ret (results_none rfl _ _ _) rfl ?_
          exact ⟨⟨_, rfl⟩, .inl ⟨_, .inr ⟨_, _, rfl, he⟩, hJ3⟩⟩
        · gi_wp2
          go_wp2_with fail
          refine bodyPost_ret (results_none rfl _ _ _) rfl ?_
          exact ⟨⟨_, rfl⟩, .inr ⟨_, hJx3⟩⟩
end Go.Proofs.Ythimjdknafgfbaa
