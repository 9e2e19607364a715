/-
  CONTRACT of disk.Read.
-/
import Derived.Test.YtlkgfimignlgaaaCDiskNew
import Derived.ArgAppend
set_option linter.unusedSimpArgs false
set_option linter.unusedVariables false
set_option linter.unusedVariables false
set_option linter.unusedSimpArgs false
namespace Go.Proofs.Ytlkgfimignlgaaa
open Go.RowKit
theorem nB_str (l : List UInt8) : strOfNums (nB l) = ⟨l.toArray⟩ := by
  unfold strOfNums nB
  rw [List.map_map]
  congr 2
  conv => rhs; rw [← List.map_id l]
  refine List.map_congr_left fun b _ => ?_
  simp
theorem conv_OB {w : World} {v : Value} {l : List UInt8} (h : OB w v l) : (convert 65 9 v).run Try.prog w = .ok (.string ⟨l.toArray⟩) w := by
  rw [← nB_str]
  rcases h.2 with ⟨rfl, hz⟩ | ⟨g, cap, cur, rfl, h1, h2, h3⟩
  · rw [run_convert_bytes_nil _ 65 5 Try.underlying65 Try.underlying5 0 0 9 Try.underlying9, List.eq_nil_of_length_eq_zero hz]
    rfl
  · refine run_convert_bytes_arg _ 65 5 Try.underlying65 Try.underlying5 _ 0 _ _ (nB l) (nB_len l) ?_ 9 Try.underlying9
    intro j hj
    have hj2 : j < (nB l).length := by rw [nB_len]; exact hj
    rw [Nat.zero_add, World.ownsRow.cellAt h j (by omega)]
    simp [List.getD, List.getElem?_eq_getElem hj2]
def readS (fuse : Int) (F : Fs) (s : ByteArray) : ByteArray := if fuse = 0 then ⟨#[]⟩ else if hasF F s then ⟨(getF F s).toArray⟩ else ⟨#[]⟩
def readE (fuse : Int) (F : Fs) (s : ByteArray) : Int := if fuse = 0 then 60 else if hasF F s then 0 else 5
set_option maxRecDepth 10000000 in
set_option maxHeartbeats 1000000 in
theorem read_any (db m1 m2 : Nat) (room fuse : Int) (lv : Value) (E : List En) (s : ByteArray) (w : World) (h : DB w db room fuse m1 m2 lv) (hF : FM w m1 E) (hs : s.size ≤ maxLen) :
    Calls Try.prog 25 #[ptr db, .string s] w fun e w' => e = .returned (.tuple #[.string (readS fuse (datF E) s), .int .i64 (readE fuse (datF E) s)]) ∧ w' = w := by
  obtain ⟨c0, c1, c2, c3, c4⟩ := h.cells
  have cM := made_any db m1 m2 room fuse _ w h
  have cH := has_any m1 E s w hF hs
  have hlk := lookB w m1 E s hF hs
  have hcv := conv_OB (get_rows hF s)
  have hS : Hid (readS fuse (datF E) s = if fuse = 0 then ⟨#[]⟩ else if hasE E s then ⟨(bytE E s).toArray⟩ else ⟨#[]⟩) := Lib.hid (by unfold readS; rw [dat_hasF, dat_getF])
  have hE : Hid (readE fuse (datF E) s = if fuse = 0 then 60 else if hasE E s then 0 else 5) := Lib.hid (by unfold readE; rw [dat_hasF])
  generalize readS fuse (datF E) s = X at *
  generalize readE fuse (datF E) s = Y at *
  generalize hasE E s = b at *
  generalize valE E s = v at *
  generalize ByteArray.mk (bytE E s).toArray = T at *
  unfold ptr at cM ⊢
  by_cases h0 : fuse = 0
  · subst h0
    go_enter Try.func25, Try.ntmps25
    go_wp2_with (go_at_call 38; refine cM.mono ?_; rintro e w1 ⟨rfl, rfl⟩)
    go_ret2
    exact ⟨by rw [hS.out, hE.out]; rfl, rfl⟩
  · have hne : (fuse == 0) = false := beq_false_of_ne h0
    cases b with
    | true =>
      go_enter Try.func25, Try.ntmps25
      go_wp2_with (first
        | (go_at_call 38; refine cM.mono ?_; rintro e w1 ⟨rfl, rfl⟩)
        | (go_at_call 42; refine cH.mono ?_; rintro e w1 ⟨rfl, rfl⟩))
      go_ret2
      exact ⟨by rw [hS.out, hE.out, if_neg h0, if_neg h0]; rfl, rfl⟩
    | false =>
      go_enter Try.func25, Try.ntmps25
      go_wp2_with (first
        | (go_at_call 38; refine cM.mono ?_; rintro e w1 ⟨rfl, rfl⟩)
        | (go_at_call 42; refine cH.mono ?_; rintro e w1 ⟨rfl, rfl⟩))
      go_ret2
      exact ⟨by rw [hS.out, hE.out, if_neg h0, if_neg h0]; rfl, rfl⟩
set_option maxRecDepth 10000000 in
set_option maxHeartbeats 1000000 in
theorem read_nil (s : ByteArray) (w : World) : Calls Try.prog 25 #[.pointer none, .string s] w fun e w' => e = .returned (.tuple #[.string ⟨#[]⟩, .int .i64 1]) ∧ w' = w := by
  go_enter Try.func25, Try.ntmps25
  go_wp2_with (go_at_call 38; refine (made_nil _).mono ?_; rintro e w1 ⟨rfl, rfl⟩)
  go_ret2
  exact ⟨rfl, rfl⟩
end Go.Proofs.Ytlkgfimignlgaaa
