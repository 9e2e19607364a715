/-
  A DISK BESIDE ROWS OF TEXTS: what each call on it comes to, the rows staying as they are; rows that are made and filled.
-/
import Derived.Test.YtlkgfimignlgaaaCDiskWk
set_option linter.unusedSimpArgs false
set_option linter.unusedVariables false
set_option linter.unusedVariables false
set_option linter.unusedSimpArgs false
namespace Go.Proofs.Ytlkgfimignlgaaa
open Go.RowKit
/-- a disk whose blocks have all been laid since w0, apart from the blocks of the rows V -/
def OX (w0 w : World) (db : Nat) (st : Ds) (V : List Value) : Prop :=
  ∃ D, DK w db st D ∧ (∀ j, D j → w0.heap.size ≤ j) ∧ (∀ v ∈ V, ∀ j, v.ownBlock = some j → ¬ D j ∧ w0.heap.size ≤ j ∧ j < w.heap.size) ∧ Below w0.heap.size w0 w
def KeepV (V : List Value) (w w' : World) : Prop := ∀ v ∈ V, ∀ j, v.ownBlock = some j → w'.heap[j]? = w.heap[j]?
section
variable {w0 w w' : World} {db : Nat} {st : Ds} {V : List Value}
theorem DS.ox (h : DS w0 w db st) : OX w0 w db st [] := by
  obtain ⟨D, h1, h2, h3⟩ := h
  exact ⟨D, h1, h2, fun v hv => by simp at hv, h3⟩
theorem OX.bel (h : OX w0 w db st V) : Below w0.heap.size w0 w := by
  obtain ⟨D, _, _, _, hb⟩ := h
  exact hb
theorem OX.below (h : OX w0 w db st V) (hb : Below w.heap.size w w') : OX w0 w' db st V ∧ KeepV V w w' := by
  obtain ⟨D, h1, h2, h3, h4⟩ := h
  exact ⟨⟨D, h1.below hb, h2, fun v hv j hj => by have := h3 v hv j hj; exact ⟨this.1, this.2.1, Nat.lt_of_lt_of_le this.2.2 hb.size⟩, h4.trans (hb.mono h4.size)⟩, fun v hv j hj => hb.block j (h3 v hv j hj).2.2⟩
theorem OX.push {v : Value} (h : OX w0 w db st V) (hb : Below w.heap.size w w') (hv : ∀ j, v.ownBlock = some j → w.heap.size ≤ j ∧ j < w'.heap.size) : OX w0 w' db st (v :: V) ∧ KeepV V w w' := by
  obtain ⟨D, h1, h2, h3, h4⟩ := h
  refine ⟨⟨D, h1.below hb, h2, fun v' hv' j hj => ?_, h4.trans (hb.mono h4.size)⟩, fun v hv j hj => hb.block j (h3 v hv j hj).2.2⟩
  rcases List.mem_cons.1 hv' with rfl | hv'
  · have := hv j hj
    exact ⟨fun hd => by have := h1.lt hd; omega, Nat.le_trans h4.size this.1, this.2⟩
  · have := h3 v' hv' j hj
    exact ⟨this.1, this.2.1, Nat.lt_of_lt_of_le this.2.2 hb.size⟩
theorem OX.store {v : Value} {g : Nat} (h : OX w0 w db st V) (hv : v ∈ V) (hg : v.ownBlock = some g) (i : Nat) (u : Value) : OX w0 (w.setCell ⟨g, i, none⟩ u) db st V := by
  obtain ⟨D, h1, h2, h3, h4⟩ := h
  have hgd := h3 v hv g hg
  refine ⟨D, h1.frame (fun j hj => Below.heap_setCell _ _ _ _ (fun e => hgd.1 (by have e' : j = g := e; rw [← e']; exact hj))) (Nat.le_of_eq (size_set _ _ _).symm), h2, fun v' hv' j hj => ?_, h4.setCell (p := ⟨g, i, none⟩) hgd.2.1 u⟩
  have := h3 v' hv' j hj
  exact ⟨this.1, this.2.1, Nat.lt_of_lt_of_le this.2.2 (Nat.le_of_eq (size_set _ _ _).symm)⟩
theorem OX.done {r : Int × Ds} {D : Nat → Prop} {e : Ending} (hlt : ∀ j, D j → j < w.heap.size) (h1 : ∀ j, D j → w0.heap.size ≤ j) (h3 : ∀ v ∈ V, ∀ j, v.ownBlock = some j → ¬ D j ∧ w0.heap.size ≤ j ∧ j < w.heap.size) (h2 : Below w0.heap.size w0 w) (h : DoneD w db D r e w') :
    e = .returned (.int .i64 r.1) ∧ OX w0 w' db r.2 V ∧ KeepV V w w' := by
  obtain ⟨he, hK, hT⟩ := h
  refine ⟨he, ⟨Ext D w w', hK, fun j hj => ?_, fun v hv j hj => ?_, h2.trans ⟨hT.os, hT.tape, hT.output, hT.size, fun j hj => hT.block j (by have := h2.size; omega) (fun hd => by have := h1 j hd; omega)⟩⟩, fun v hv j hj => hT.block j (h3 v hv j hj).2.2 (h3 v hv j hj).1⟩
  · rcases hj with h3 | h3
    · exact h1 j h3
    · have := h2.size; omega
  · have := h3 v hv j hj
    refine ⟨fun hd => ?_, this.2.1, Nat.lt_of_lt_of_le this.2.2 hT.size⟩
    rcases hd with hd | hd
    · exact this.1 hd
    · omega
theorem OX.append (h : OX w0 w db st V) (s d : ByteArray) (hs : s.size ≤ 1000000000) (hd : d.size ≤ 1000000000) (hl : st.L.length ≤ 1000000) :
    Calls Try.prog 19 #[.pointer (some ⟨db, 0, none⟩), .string s, .string d] w fun e w' => e = .returned (.int .i64 (appS st s d).1) ∧ OX w0 w' db (appS st s d).2 V ∧ KeepV V w w' := by
  obtain ⟨D, h1, h2, h3, h4⟩ := h
  exact (append_any db st D s d w h1 hs hd hl).mono fun e w' h => OX.done (fun j hj => h1.lt hj) h2 h3 h4 h
theorem OX.cut (h : OX w0 w db st V) (s : ByteArray) (n : Int) (hs : s.size ≤ 1000000000) (hl : st.L.length ≤ 1000000) :
    Calls Try.prog 20 #[.pointer (some ⟨db, 0, none⟩), .string s, .int .i64 n] w fun e w' => e = .returned (.int .i64 (cutS st s n).1) ∧ OX w0 w' db (cutS st s n).2 V ∧ KeepV V w w' := by
  obtain ⟨D, h1, h2, h3, h4⟩ := h
  exact (cutD_any db st D s n w h1 hs hl).mono fun e w' h => OX.done (fun j hj => h1.lt hj) h2 h3 h4 h
theorem OX.ren (h : OX w0 w db st V) (s t : ByteArray) (hs : s.size ≤ 1000000000) (ht : t.size ≤ 1000000000) (hl : st.L.length ≤ 1000000) :
    Calls Try.prog 21 #[.pointer (some ⟨db, 0, none⟩), .string s, .string t] w fun e w' => e = .returned (.int .i64 (renS st s t).1) ∧ OX w0 w' db (renS st s t).2 V ∧ KeepV V w w' := by
  obtain ⟨D, h1, h2, h3, h4⟩ := h
  exact (renD_any db st D s t w h1 hs ht hl).mono fun e w' h => OX.done (fun j hj => h1.lt hj) h2 h3 h4 h
theorem OX.rem (h : OX w0 w db st V) (s : ByteArray) (hs : s.size ≤ 1000000000) (hl : st.L.length ≤ 1000000) :
    Calls Try.prog 22 #[.pointer (some ⟨db, 0, none⟩), .string s] w fun e w' => e = .returned (.int .i64 (remS st s).1) ∧ OX w0 w' db (remS st s).2 V ∧ KeepV V w w' := by
  obtain ⟨D, h1, h2, h3, h4⟩ := h
  exact (remD_any db st D s w h1 hs hl).mono fun e w' h => OX.done (fun j hj => h1.lt hj) h2 h3 h4 h
theorem OX.sync (h : OX w0 w db st V) (hl : st.L.length ≤ 1000000) :
    Calls Try.prog 23 #[.pointer (some ⟨db, 0, none⟩)] w fun e w' => e = .returned (.int .i64 (syncS st).1) ∧ OX w0 w' db (syncS st).2 V ∧ KeepV V w w' := by
  obtain ⟨D, h1, h2, h3, h4⟩ := h
  exact (sync_any db st D w h1 hl).mono fun e w' h => OX.done (fun j hj => h1.lt hj) h2 h3 h4 h
theorem OX.crash (h : OX w0 w db st V) (c b : Int) (hl : st.L.length ≤ 1000000) :
    Calls Try.prog 26 #[.pointer (some ⟨db, 0, none⟩), .int .i64 c, .int .i64 b] w fun e w' => e = .returned (.int .i64 0) ∧ OX w0 w' db (crashS st c b).2 V ∧ KeepV V w w' := by
  obtain ⟨D, h1, h2, h3, h4⟩ := h
  exact (crash_any db st D c b w h1 hl).mono fun e w' h => OX.done (fun j hj => h1.lt hj) h2 h3 h4 h
theorem OX.read (h : OX w0 w db st V) (s : ByteArray) (hs : s.size ≤ maxLen) :
    Calls Try.prog 25 #[.pointer (some ⟨db, 0, none⟩), .string s] w fun e w' => e = .returned (.tuple #[.string (readS st.fuse st.now s), .int .i64 (readE st.fuse st.now s)]) ∧ w' = w := by
  obtain ⟨D, h1, h2, h3, h4⟩ := h
  exact readD_any db st D s w h1 hs
theorem OX.loose (h : OX w0 w db st V) : Calls Try.prog 16 #[.pointer (some ⟨db, 0, none⟩)] w fun e w' => e = .returned (.int .i64 (st.L.length : Nat)) ∧ w' = w := by
  obtain ⟨D, h1, h2, h3, h4⟩ := h
  exact looseD_any db st D w h1
theorem OX.fine (h : OX w0 w db st V) : FineF st.room st.now ∧ 0 ≤ st.room ∧ st.room ≤ 16777216 := by
  obtain ⟨D, ⟨m1, m2, lv, fs, E1, E2, h⟩, _⟩ := h
  exact ⟨h.chain.last, h.room⟩
end
/-- a row of texts that may be read: where it lies is left open -/
def RowR (w : World) (a : Option Addr) (N : List ByteArray) : Prop := ∀ j, j < N.length → ∃ b o, a = some ⟨b, o, none⟩ ∧ w.cell? ⟨b, o + j, none⟩ = some (.string (N.getD j ByteArray.empty))
theorem cell_heap {w w' : World} {b o : Nat} (h : w'.heap[b]? = w.heap[b]?) : w'.cell? ⟨b, o, none⟩ = w.cell? ⟨b, o, none⟩ := by
  unfold World.cell?
  rw [h]
theorem RowR.keep {w w' : World} {a : Option Addr} {N : List ByteArray} {n c : Nat} (h : RowR w a N) (hk : ∀ j, (Value.slice a n c).ownBlock = some j → w'.heap[j]? = w.heap[j]?) : RowR w' a N := by
  intro j hj
  obtain ⟨b, o, rfl, hc⟩ := h j hj
  exact ⟨b, o, rfl, (cell_heap (hk b rfl)).trans hc⟩
/-- a row that is being filled -/
def Buf (w : World) (g o n : Nat) (xs : List Value) : Prop := o = 0 ∧ w.ownsRow 0 9 1 (.slice (some ⟨g, 0, none⟩) n n) n xs
section
variable {w w' : World} {g o n : Nat} {xs : List Value}
theorem Buf.len (h : Buf w g o n xs) : xs.length = n := by
  have := h.2.1
  simpa using this
theorem Buf.cell (h : Buf w g o n xs) {j : Nat} (hj : j < n) : w.cell? ⟨g, o + j, none⟩ = xs[j]? := by
  obtain ⟨rfl, h⟩ := h
  rw [Nat.zero_add]
  exact h.cellAt j (by omega)
theorem Buf.free (h : Buf w g o n xs) (j : Nat) : w.frozen? ⟨g, o + j, none⟩ = false := h.2.frozenAt _
theorem Buf.store (h : Buf w g o n xs) (j : Nat) (u : Value) : Buf (w.setCell ⟨g, o + j, none⟩ u) g o n (xs.set j u) := by
  obtain ⟨rfl, h⟩ := h
  rw [Nat.zero_add]
  exact ⟨rfl, (h.stored j u).1⟩
theorem Buf.keep (h : Buf w g o n xs) (hk : w'.heap[g]? = w.heap[g]?) : Buf w' g o n xs := ⟨h.1, own_keep h.2 fun j hj => by cases hj; exact hk⟩
theorem infoS : (Try.prog.info? 9).map (fun i => (i.zero, i.size, i.bytes)) = some (some (.string ⟨#[]⟩), 1, 16) := by kernel_rfl
theorem make_buf (w : World) (n : Nat) (hn : n ≤ 1000000) :
    ∃ g o w', (Instr.makeSlice 46 (.int .i64 n) (.int .i64 n)).run Try.prog w = .ok (.slice (some ⟨g, o, none⟩) n n) w' ∧ (∃ xs, Buf w' g o n xs) ∧ Below w.heap.size w w' ∧ w.heap.size ≤ g ∧ g < w'.heap.size := by
  have hi0 := infoS
  cases hi : Try.prog.info? 9 with
  | none => rw [hi] at hi0; simp at hi0
  | some i =>
    rw [hi] at hi0
    simp only [Option.map_some, Option.some.injEq, Prod.mk.injEq] at hi0
    obtain ⟨hz, hs, hb⟩ := hi0
    obtain ⟨w', hr, ho, hg⟩ := run_make_full (P := Try.prog) w 0 46 9 i (.string ⟨#[]⟩) 1 Try.underlying46 hi hz hs .i64 .i64 n (by rw [hb]; omega) (by unfold maxLen; omega) (Nat.zero_le _)
    exact ⟨w.heap.size, 0, w', hr, ⟨_, rfl, ho⟩, ⟨hg.os, hg.tape, hg.output, hg.size, fun k hk => hg.block k hk (by simp)⟩, Nat.le_refl _, (ho.lt _ rfl).2⟩
end
end Go.Proofs.Ytlkgfimignlgaaa
