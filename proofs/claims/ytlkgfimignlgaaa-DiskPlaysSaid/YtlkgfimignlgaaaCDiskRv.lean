/-
  BOTH DISKS, STEP BY STEP (codicillaw06): a step of whatever kind; what else is asked of both; a region taken step by step. (gen_rv.py writes it.)
-/
import Derived.Test.YtlkgfimignlgaaaCDiskRu
import Derived.Test.YtlkgfimignlgaaaCHeldT
set_option linter.unusedSimpArgs false
set_option linter.unusedVariables false
set_option linter.unusedVariables false
set_option linter.unusedSimpArgs false
namespace Go.Proofs.Ytlkgfimignlgaaa
open Go.RowKit
theorem play_any (w0 w : World) (db rb : Nat) (st : Ds) (op : Int) (sA sB : ByteArray) (n m : Int) (hX : BX w0 w db rb st st []) (hS : SortF st.S) (hl : st.L.length ≤ 1000) (hz : sA.size + sB.size ≤ 4096) (hn : n ≤ 9223372036854775807) :
    Calls Try.prog 12 #[.pointer (some ⟨db, 0, none⟩), .pointer (some ⟨rb, 0, none⟩), .agg #[.int .i64 op, .string sA, .string sB, .int .i64 n, .int .i64 m]] w (PlEnd w0 db rb st) := by
  by_cases h0 : op = 0
  · subst h0; exact play_app w0 w db rb st sA sB n m hX hS hl hz hn
  by_cases h1 : op = 1
  · subst h1; exact play_cut w0 w db rb st sA sB n m hX hS hl hz hn
  by_cases h2 : op = 2
  · subst h2; exact play_ren w0 w db rb st sA sB n m hX hS hl hz hn
  by_cases h3 : op = 3
  · subst h3; exact play_rem w0 w db rb st sA sB n m hX hS hl hz hn
  by_cases h4 : op = 4
  · subst h4; exact play_sync w0 w db rb st sA sB n m hX hS hl hz hn
  by_cases h5 : op = 5
  · subst h5; exact play_fuse w0 w db rb st sA sB n m hX hS hl hz hn
  by_cases h6 : op = 6
  · subst h6; exact play_crash w0 w db rb st sA sB n m hX hS hl hz hn
  by_cases h7 : op = 7
  · subst h7; exact play_alt w0 w db rb st sA sB n m hX hS hl hz hn
  · have e : ∀ k : Int, ¬ op = k → (op == k) = false := fun k h => beq_eq_false_iff_ne.2 h
    exact play_none w0 w db rb st op sA sB n m hX hS hl hz hn ⟨e _ h0, e _ h1, e _ h2, e _ h3, e _ h4, e _ h5, e _ h6, e _ h7⟩
section
variable {w0 w w' : World} {db rb : Nat} {st : Ds} {V : List Value}
theorem BX.dleft (h : BX w0 w db rb st st V) : Calls Try.prog 14 #[.pointer (some ⟨db, 0, none⟩)] w fun e w' => e = .returned (.int .i64 (st.room - (sumF st.now : Nat))) ∧ Below w.heap.size w w' := by
  obtain ⟨D, R, h1, _⟩ := h
  exact leftD_any db st D w h1
theorem BX.rleft (h : BX w0 w db rb st st V) (hl : st.L.length ≤ 1000000) : Calls Try.prog 15 #[.pointer (some ⟨rb, 0, none⟩)] w fun e w' => e = .returned (.int .i64 (st.room - (sumF st.now : Nat))) ∧ Below w.heap.size w w' := by
  have hI := h.fi hl
  obtain ⟨D, R, h1, ⟨a, c, lv, h2⟩, _⟩ := h
  exact rleft_any rb st R a c lv w h2 hI
theorem BX.dloose (h : BX w0 w db rb st st V) : Calls Try.prog 16 #[.pointer (some ⟨db, 0, none⟩)] w fun e w' => e = .returned (.int .i64 (st.L.length : Nat)) ∧ w' = w := by
  obtain ⟨D, R, h1, _⟩ := h
  exact looseD_any db st D w h1
theorem BX.rloose (h : BX w0 w db rb st st V) : ∃ la lc, w.cell? ⟨rb, 2, none⟩ = some (.slice la st.L.length lc) := by
  obtain ⟨D, R, h1, ⟨a, c, lv, h2⟩, _⟩ := h
  obtain ⟨la, lc, rfl, _⟩ := h2.loose.form
  exact ⟨la, lc, h2.blk.cells.2.2.1⟩
theorem BX.new (h : DS w0 w db st) (hd : st = New0 st.room) (hr : roomB st.room = true) :
    Calls Try.prog 11 #[.int .i64 st.room] w fun e w' => ∃ rb, e = .returned (.pointer (some ⟨rb, 0, none⟩)) ∧ BX w0 w' db rb st st [] := by
  obtain ⟨D, h1, h2, h3⟩ := h
  refine (rnew_ok st.room w hr).mono ?_
  rintro e w' ⟨rfl, hK, hb⟩
  rw [← hd] at hK
  exact ⟨_, rfl, D, NewB w w', h1.below hb, hK, fun j hj hr => by have := h1.lt hj; have := hr.1; omega, h2, fun j hj => Nat.le_trans h3.size hj.1, fun v hv => by simp at hv, h3.trans (hb.mono h3.size)⟩
end

end Go.Proofs.Ytlkgfimignlgaaa
