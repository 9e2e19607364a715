/-
  A DISK AND THE DOCUMENT'S OWN BESIDE ROWS: what each call on one of them comes to, the other and the rows staying.
-/
import Derived.Test.YtlkgfimignlgaaaCDiskRm
set_option linter.unusedSimpArgs false
set_option linter.unusedVariables false
set_option linter.unusedVariables false
set_option linter.unusedSimpArgs false
namespace Go.Proofs.Ytlkgfimignlgaaa
open Go.RowKit
def BX (w0 w : World) (db rb : Nat) (sd sr : Ds) (V : List Value) : Prop :=
  ∃ D R, DK w db sd D ∧ RK w rb sr R ∧ (∀ j, D j → ¬ R j) ∧ (∀ j, D j → w0.heap.size ≤ j) ∧ (∀ j, R j → w0.heap.size ≤ j) ∧
    (∀ v ∈ V, ∀ j, v.ownBlock = some j → ¬ D j ∧ ¬ R j ∧ w0.heap.size ≤ j ∧ j < w.heap.size) ∧ Below w0.heap.size w0 w
section
variable {w0 w w' : World} {db rb : Nat} {sd sr : Ds} {V : List Value}
theorem BX.bel (h : BX w0 w db rb sd sr V) : Below w0.heap.size w0 w := by
  obtain ⟨D, R, h1, h2, h3, h4, h5, h6, h7⟩ := h
  exact h7
theorem BX.sub {V' : List Value} (h : BX w0 w db rb sd sr V) (hs : ∀ v ∈ V', v ∈ V) : BX w0 w db rb sd sr V' := by
  obtain ⟨D, R, h1, h2, h3, h4, h5, h6, h7⟩ := h
  exact ⟨D, R, h1, h2, h3, h4, h5, fun v hv => h6 v (hs v hv), h7⟩
theorem BX.push {v : Value} (h : BX w0 w db rb sd sr V) (hb : Below w.heap.size w w') (hv : ∀ j, v.ownBlock = some j → w.heap.size ≤ j ∧ j < w'.heap.size) : BX w0 w' db rb sd sr (v :: V) ∧ KeepV V w w' := by
  obtain ⟨D, R, h1, h2, h3, h4, h5, h6, h7⟩ := h
  refine ⟨⟨D, R, h1.below hb, h2.below hb, h3, h4, h5, fun v' hv' j hj => ?_, h7.trans (hb.mono h7.size)⟩, fun v hv j hj => hb.block j (h6 v hv j hj).2.2.2⟩
  rcases List.mem_cons.1 hv' with rfl | hv'
  · have := hv j hj
    exact ⟨fun hd => by have := h1.lt hd; omega, fun hd => by have := h2.lt hd; omega, Nat.le_trans h7.size this.1, this.2⟩
  · have := h6 v' hv' j hj
    exact ⟨this.1, this.2.1, this.2.2.1, Nat.lt_of_lt_of_le this.2.2.2 hb.size⟩
theorem BX.below (h : BX w0 w db rb sd sr V) (hb : Below w.heap.size w w') : BX w0 w' db rb sd sr V ∧ KeepV V w w' := by
  obtain ⟨p, q⟩ := h.push (v := .slice none 0 0) hb (fun j hj => by cases hj)
  exact ⟨p.sub fun v hv => List.mem_cons_of_mem _ hv, q⟩
theorem BX.fi (h : BX w0 w db rb sd sr V) (hl : sd.L.length ≤ 1000000) : FI sd := by
  obtain ⟨D, R, h1, _⟩ := h
  exact h1.fi hl
/-- a call on the disk -/
theorem BX.disk {f : Nat} {args : Array Value} {r : Int × Ds} (h : BX w0 w db rb sd sr V) (c : ∀ D, DK w db sd D → Calls Try.prog f args w (DoneD w db D r)) :
    Calls Try.prog f args w fun e w' => e = .returned (.int .i64 r.1) ∧ BX w0 w' db rb r.2 sr V ∧ KeepV V w w' := by
  obtain ⟨D, R, h1, h2, h3, h4, h5, h6, h7⟩ := h
  refine (c D h1).mono ?_
  rintro e w' ⟨he, hK, hT⟩
  refine ⟨he, ⟨Ext D w w', R, hK, h2.frame (fun j hj => hT.block j (h2.lt hj) (fun hd => h3 j hd hj)) hT.size, fun j hj hr => ?_, fun j hj => ?_, h5, fun v hv j hj => ?_, h7.trans ⟨hT.os, hT.tape, hT.output, hT.size, fun j hj => hT.block j (by have := h7.size; omega) (fun hd => by have := h4 j hd; omega)⟩⟩, fun v hv j hj => hT.block j (h6 v hv j hj).2.2.2 (h6 v hv j hj).1⟩
  · rcases hj with hj | hj
    · exact h3 j hj hr
    · have := h2.lt hr; omega
  · rcases hj with hj | hj
    · exact h4 j hj
    · have := h7.size; omega
  · have := h6 v hv j hj
    refine ⟨fun hd => ?_, this.2.1, this.2.2.1, Nat.lt_of_lt_of_le this.2.2.2 hT.size⟩
    rcases hd with hd | hd
    · exact this.1 hd
    · omega
/-- a call on the document's own -/
theorem BX.refT {f : Nat} {args : Array Value} {st : Ds} {v : Ending} (h : BX w0 w db rb sd sr V) (c : ∀ R, RK w rb sr R → Calls Try.prog f args w fun e w' => e = v ∧ RK w' rb st (Ext R w w') ∧ Turn w w' R) :
    Calls Try.prog f args w fun e w' => e = v ∧ BX w0 w' db rb sd st V ∧ KeepV V w w' := by
  obtain ⟨D, R, h1, h2, h3, h4, h5, h6, h7⟩ := h
  refine (c R h2).mono ?_
  rintro e w' ⟨he, hK, hT⟩
  refine ⟨he, ⟨D, Ext R w w', h1.frame (fun j hj => hT.block j (h1.lt hj) (h3 j hj)) hT.size, hK, fun j hj hr => ?_, h4, fun j hj => ?_, fun v hv j hj => ?_, h7.trans ⟨hT.os, hT.tape, hT.output, hT.size, fun j hj => hT.block j (by have := h7.size; omega) (fun hd => by have := h5 j hd; omega)⟩⟩, fun v hv j hj => hT.block j (h6 v hv j hj).2.2.2 (h6 v hv j hj).2.1⟩
  · rcases hr with hr | hr
    · exact h3 j hj hr
    · have := h1.lt hj; omega
  · rcases hj with hj | hj
    · exact h5 j hj
    · have := h7.size; omega
  · have := h6 v hv j hj
    refine ⟨this.1, fun hd => ?_, this.2.2.1, Nat.lt_of_lt_of_le this.2.2.2 hT.size⟩
    rcases hd with hd | hd
    · exact this.2.1 hd
    · omega
theorem BX.ref {f : Nat} {args : Array Value} {r : Int × Ds} (h : BX w0 w db rb sd sr V) (c : ∀ R, RK w rb sr R → Calls Try.prog f args w (DoneR w rb R r)) :
    Calls Try.prog f args w fun e w' => e = .returned (.int .i64 r.1) ∧ BX w0 w' db rb sd r.2 V ∧ KeepV V w w' := h.refT c
/-- the document's own disk's fuse is set -/
theorem BX.rfuse (h : BX w0 w db rb sd sr V) (f : Int) : BX w0 (w.setCell ⟨rb, 3, none⟩ (.int .i64 f)) db rb sd { sr with fuse := f } V ∧ KeepV V w (w.setCell ⟨rb, 3, none⟩ (.int .i64 f)) ∧ w.cell? ⟨rb, 3, none⟩ = some (.int .i64 sr.fuse) ∧ w.frozen? ⟨rb, 3, none⟩ = false := by
  obtain ⟨D, R, h1, ⟨a, c, lv, h2⟩, h3, h4, h5, h6, h7⟩ := h
  have hne : ∀ j, j ≠ rb → (w.setCell ⟨rb, 3, none⟩ (.int .i64 f)).heap[j]? = w.heap[j]? := fun j hj => Below.heap_setCell _ _ _ _ hj
  have hk : KeepV V w (w.setCell ⟨rb, 3, none⟩ (.int .i64 f)) := fun v hv j hj => hne j fun e => (h6 v hv j hj).2.1 (e ▸ h2.in0)
  refine ⟨⟨D, R, h1.frame (fun j hj => hne j fun e => h3 j hj (e ▸ h2.in0)) (Nat.le_of_eq (size_set _ _ _).symm), ⟨a, c, lv, h2.fused f⟩, h3, h4, h5, fun v hv j hj => ?_, h7.setCell (p := ⟨rb, 3, none⟩) (h5 rb h2.in0) _⟩, hk, h2.blk.cells.2.2.2, h2.blk.free 3⟩
  rw [size_set]
  exact h6 v hv j hj
end
end Go.Proofs.Ytlkgfimignlgaaa
