/-
  THE DOCUMENT'S OWN DISK IN MEMORY: its block, its files, its calls. No conditions.
-/
import Derived.Test.YtlkgfimignlgaaaCDiskRg
set_option linter.unusedSimpArgs false
set_option linter.unusedVariables false
set_option linter.unusedVariables false
set_option linter.unusedSimpArgs false
namespace Go.Proofs.Ytlkgfimignlgaaa
open Go.RowKit
def opC : Op → List Value
  | .app s d => [.int .i64 0, .string s, .string d, .int .i64 0]
  | .cut s n => [.int .i64 1, .string s, .string ⟨#[]⟩, .int .i64 (n : Nat)]
  | .ren s t => [.int .i64 2, .string s, .string t, .int .i64 0]
  | .rem s => [.int .i64 3, .string s, .string ⟨#[]⟩, .int .i64 0]
def opK : Op → Int
  | .app _ _ => 0
  | .cut _ _ => 1
  | .ren _ _ => 2
  | .rem _ => 3
def opA : Op → ByteArray
  | .app s _ => s
  | .cut s _ => s
  | .ren s _ => s
  | .rem s => s
def opB : Op → ByteArray
  | .app _ d => d
  | .cut _ _ => ⟨#[]⟩
  | .ren _ t => t
  | .rem _ => ⟨#[]⟩
def opN : Op → Int
  | .app _ _ => 0
  | .cut _ n => (n : Nat)
  | .ren _ _ => 0
  | .rem _ => 0
theorem opC_eq (op : Op) : opC op = [.int .i64 (opK op), .string (opA op), .string (opB op), .int .i64 (opN op)] := by cases op <;> rfl
def OwnL (w : World) (v : Value) (L : List Op) : Prop := w.ownsRow 0 82 4 v L.length (L.flatMap opC)
theorem infoCall : (Try.prog.info? 82).map (fun i => (i.zero, i.size, i.bytes)) = some (some (.agg #[.int .i64 0, .string ⟨#[]⟩, .string ⟨#[]⟩, .int .i64 0]), 4, 48) := by kernel_rfl
theorem OwnL.nil (w : World) : OwnL w (.slice none 0 0) [] := World.ownsRow_nil _ _ _ _
theorem OwnL.keep {w w' : World} {v : Value} {L : List Op} (h : OwnL w v L) (hh : ∀ g, v.ownBlock = some g → w'.heap[g]? = w.heap[g]?) : OwnL w' v L := own_keep h hh
theorem opC_at (L : List Op) (j : Nat) (op : Op) (h : L[j]? = some op) : (L.flatMap opC)[j * 4]? = some (.int .i64 (opK op)) ∧ (L.flatMap opC)[j * 4 + 1]? = some (.string (opA op)) ∧ (L.flatMap opC)[j * 4 + 2]? = some (.string (opB op)) ∧ (L.flatMap opC)[j * 4 + 3]? = some (.int .i64 (opN op)) := by
  induction L generalizing j with
  | nil => simp at h
  | cons q r ih =>
    cases j with
    | zero =>
      simp only [List.getElem?_cons_zero, Option.some.injEq] at h
      subst h
      rw [List.flatMap_cons, opC_eq]
      exact ⟨rfl, rfl, rfl, rfl⟩
    | succ j =>
      have := ih j (by simpa using h)
      rw [List.flatMap_cons, opC_eq, show (j + 1) * 4 = j * 4 + 4 by omega]
      exact this
/-- a row of calls that may be read -/
def RowC (w : World) (a : Option Addr) (L : List Op) : Prop := ∀ (j : Nat) (op : Op), L[j]? = some op → ∃ b o, a = some ⟨b, o, none⟩ ∧ b < w.heap.size ∧ w.cell? ⟨b, o + j * 4, none⟩ = some (.int .i64 (opK op)) ∧ w.cell? ⟨b, o + j * 4 + 1, none⟩ = some (.string (opA op)) ∧ w.cell? ⟨b, o + j * 4 + 2, none⟩ = some (.string (opB op)) ∧ w.cell? ⟨b, o + j * 4 + 3, none⟩ = some (.int .i64 (opN op))
theorem OwnL.form {w : World} {v : Value} {L : List Op} (h : OwnL w v L) : ∃ a c, v = .slice a L.length c ∧ L.length ≤ c ∧ RowC w a L := by
  rcases h.2 with ⟨e, h0⟩ | ⟨g, cap, cur, e, hb, hg, hcap, _⟩
  · exact ⟨none, 0, by rw [e, h0], by omega, fun j p hp => by have := (List.getElem?_eq_some_iff.1 hp).1; omega⟩
  · subst e
    refine ⟨_, _, rfl, hcap, fun j p hp => ⟨g, 0, rfl, (World.ownsRow.lt h g rfl).2, ?_⟩⟩
    have hj := (List.getElem?_eq_some_iff.1 hp).1
    have h0 := World.ownsRow.cellAt h (j * 4) (by omega)
    have h1 := World.ownsRow.cellAt h (j * 4 + 1) (by omega)
    have h2 := World.ownsRow.cellAt h (j * 4 + 2) (by omega)
    have h3 := World.ownsRow.cellAt h (j * 4 + 3) (by omega)
    obtain ⟨f0, f1, f2, f3⟩ := opC_at L j p hp
    rw [Nat.zero_add]
    exact ⟨h0.trans f0, h1.trans f1, h2.trans f2, h3.trans f3⟩
theorem OwnL.snoc {w : World} {v : Value} {L : List Op} {op : Op} (h : w.ownsRow 0 82 4 v (L.length + 1) (L.flatMap opC ++ opC op)) : OwnL w v (L ++ [op]) := by
  unfold OwnL
  rw [List.length_append, List.flatMap_append]
  simpa using h
/-- the block of the document's own disk -/
def RB (w : World) (rb : Nat) (room fuse : Int) (sv lv : Value) : Prop := w.heap[rb]? = some (.cells #[.int .i64 room, sv, lv, .int .i64 fuse] 39 (0, 0))
theorem RB.lt {w : World} {rb : Nat} {room fuse : Int} {sv lv : Value} (h : RB w rb room fuse sv lv) : rb < w.heap.size := (Array.getElem?_eq_some_iff.1 h).1
theorem RB.cells {w : World} {rb : Nat} {room fuse : Int} {sv lv : Value} (h : RB w rb room fuse sv lv) : w.cell? ⟨rb, 0, none⟩ = some (.int .i64 room) ∧ w.cell? ⟨rb, 1, none⟩ = some sv ∧ w.cell? ⟨rb, 2, none⟩ = some lv ∧ w.cell? ⟨rb, 3, none⟩ = some (.int .i64 fuse) :=
  ⟨(Lib.cell_of_heap h 0).trans rfl, (Lib.cell_of_heap h 1).trans rfl, (Lib.cell_of_heap h 2).trans rfl, (Lib.cell_of_heap h 3).trans rfl⟩
theorem RB.free {w : World} {rb : Nat} {room fuse : Int} {sv lv : Value} (h : RB w rb room fuse sv lv) (i : Nat) : w.frozen? ⟨rb, i, none⟩ = false := by
  exact Lib.frozen_of_heap h i
theorem RB.s1 {w : World} {rb : Nat} {room fuse : Int} {sv lv : Value} (h : RB w rb room fuse sv lv) (v : Value) : RB (w.setCell ⟨rb, 1, none⟩ v) rb room fuse v lv := by
  exact heap_setB h 1 v
theorem RB.s2 {w : World} {rb : Nat} {room fuse : Int} {sv lv : Value} (h : RB w rb room fuse sv lv) (v : Value) : RB (w.setCell ⟨rb, 2, none⟩ v) rb room fuse sv v := by
  exact heap_setB h 2 v
theorem RB.s3 {w : World} {rb : Nat} {room fuse : Int} {sv lv : Value} (h : RB w rb room fuse sv lv) (f : Int) : RB (w.setCell ⟨rb, 3, none⟩ (.int .i64 f)) rb room f sv lv := by
  exact heap_setB h 3 _
structure RP (w : World) (rb : Nat) (st : Ds) (R : Nat → Prop) (a : Option Addr) (c : Nat) (lv : Value) : Prop where
  blk : RB w rb st.room st.fuse (.slice a st.S.length c) lv
  sure : RowF w a st.S
  loose : OwnL w lv st.L
  ap1 : ∀ j, (Value.slice a st.S.length c).ownBlock = some j → j ≠ rb ∧ lv.ownBlock ≠ some j
  ap2 : lv.ownBlock ≠ some rb
  in0 : R rb
  in1 : ∀ j, (Value.slice a st.S.length c).ownBlock = some j → R j
  in2 : ∀ j, lv.ownBlock = some j → R j
  lt : ∀ j, R j → j < w.heap.size
def RK (w : World) (rb : Nat) (st : Ds) (R : Nat → Prop) : Prop := ∃ a c lv, RP w rb st R a c lv
structure FI (st : Ds) : Prop where
  chain : Chain st.room st.S st.L
  room : 0 ≤ st.room ∧ st.room ≤ 16777216
  fuse : -1 ≤ st.fuse ∧ st.fuse ≤ 9223372036854775807
  len : st.L.length ≤ 1000000
theorem DK.fi {w : World} {db : Nat} {st : Ds} {D : Nat → Prop} (h : DK w db st D) (hl : st.L.length ≤ 1000000) : FI st := by
  obtain ⟨m1, m2, lv, fs, E1, E2, h⟩ := h
  exact ⟨h.chain, h.room, h.fuse, hl⟩
section
variable {w w' : World} {rb c : Nat} {st : Ds} {R : Nat → Prop} {a : Option Addr} {lv : Value}
theorem RP.frame (h : RP w rb st R a c lv) (hh : ∀ j, R j → w'.heap[j]? = w.heap[j]?) (hs : w.heap.size ≤ w'.heap.size) : RP w' rb st R a c lv :=
  ⟨(hh _ h.in0).trans h.blk, h.sure.keep (n := st.S.length) (c := c) hs (fun j hj => hh _ (h.in1 j hj)), h.loose.keep fun g hg => hh _ (h.in2 g hg), h.ap1, h.ap2, h.in0, h.in1, h.in2, fun j hj => Nat.lt_of_lt_of_le (h.lt j hj) hs⟩
theorem RP.below (h : RP w rb st R a c lv) (hb : Below w.heap.size w w') : RP w' rb st R a c lv := h.frame (fun j hj => hb.block j (h.lt j hj)) hb.size
theorem RK.frame (h : RK w rb st R) (hh : ∀ j, R j → w'.heap[j]? = w.heap[j]?) (hs : w.heap.size ≤ w'.heap.size) : RK w' rb st R := by
  obtain ⟨a, c, lv, h⟩ := h
  exact ⟨a, c, lv, h.frame hh hs⟩
theorem RK.below (h : RK w rb st R) (hb : Below w.heap.size w w') : RK w' rb st R := by
  obtain ⟨a, c, lv, h⟩ := h
  exact ⟨a, c, lv, h.below hb⟩
theorem RK.lt (h : RK w rb st R) {j : Nat} (hj : R j) : j < w.heap.size := by
  obtain ⟨a, c, lv, h⟩ := h
  exact h.lt j hj
theorem RP.ext {R' : Nat → Prop} (h : RP w rb st R a c lv) (hR : ∀ j, R j → R' j) (hlt : ∀ j, R' j → j < w.heap.size) : RP w rb st R' a c lv :=
  ⟨h.blk, h.sure, h.loose, h.ap1, h.ap2, hR _ h.in0, fun j hj => hR _ (h.in1 j hj), fun j hj => hR _ (h.in2 j hj), hlt⟩
theorem RP.extSelf (h : RP w' rb st R a c lv) (hlt : ∀ j, R j → j < w.heap.size) (hs : w.heap.size ≤ w'.heap.size) : RP w' rb st (Ext R w w') a c lv :=
  h.ext (fun j hj => .inl hj) fun j hj => by
    rcases hj with h1 | h1
    · have := hlt j h1; omega
    · exact h1.2
/-- the fuse is another one -/
theorem RP.fused (h : RP w rb st R a c lv) (f : Int) : RP (w.setCell ⟨rb, 3, none⟩ (.int .i64 f)) rb { st with fuse := f } R a c lv := by
  have hne : ∀ j, j ≠ rb → (w.setCell ⟨rb, 3, none⟩ (.int .i64 f)).heap[j]? = w.heap[j]? := fun j hj => Below.heap_setCell _ _ _ _ hj
  refine ⟨h.blk.s3 f, h.sure.keep (n := st.S.length) (c := c) (Nat.le_of_eq (size_set _ _ _).symm) (fun j hj => hne j (h.ap1 j hj).1), h.loose.keep fun g hg => hne g (fun e => h.ap2 (e ▸ hg)), h.ap1, h.ap2, h.in0, h.in1, h.in2, fun j hj => by rw [size_set]; exact h.lt j hj⟩
/-- .. what is loose is another row -/
theorem RP.loosed {lv' : Value} {L' : List Op} (h : RP w rb st R a c lv) (hl : OwnL w lv' L') (h1 : ∀ j, lv'.ownBlock = some j → R j ∧ j ≠ rb ∧ (Value.slice a st.S.length c).ownBlock ≠ some j) : RP (w.setCell ⟨rb, 2, none⟩ lv') rb { st with L := L' } R a c lv' := by
  have hne : ∀ j, j ≠ rb → (w.setCell ⟨rb, 2, none⟩ lv').heap[j]? = w.heap[j]? := fun j hj => Below.heap_setCell _ _ _ _ hj
  refine ⟨h.blk.s2 lv', h.sure.keep (n := st.S.length) (c := c) (Nat.le_of_eq (size_set _ _ _).symm) (fun j hj => hne j (h.ap1 j hj).1), hl.keep fun g hg => hne g (h1 g hg).2.1, fun j hj => ⟨(h.ap1 j hj).1, fun e => (h1 j e).2.2 hj⟩, fun e => (h1 rb e).2.1 rfl, h.in0, h.in1, fun j hj => (h1 j hj).1, fun j hj => by rw [size_set]; exact h.lt j hj⟩
/-- .. what is sure is another row -/
theorem RP.sured {a' : Option Addr} {c' : Nat} {S' : Fs} (h : RP w rb st R a c lv) (hs : RowF w a' S') (h1 : ∀ j, (Value.slice a' S'.length c').ownBlock = some j → R j ∧ j ≠ rb ∧ lv.ownBlock ≠ some j) : RP (w.setCell ⟨rb, 1, none⟩ (.slice a' S'.length c')) rb { st with S := S' } R a' c' lv := by
  have hne : ∀ j, j ≠ rb → (w.setCell ⟨rb, 1, none⟩ (.slice a' S'.length c')).heap[j]? = w.heap[j]? := fun j hj => Below.heap_setCell _ _ _ _ hj
  refine ⟨h.blk.s1 _, hs.keep (n := S'.length) (c := c') (Nat.le_of_eq (size_set _ _ _).symm) (fun j hj => hne j (h1 j hj).2.1), h.loose.keep fun g hg => hne g (fun e => h.ap2 (e ▸ hg)), fun j hj => (h1 j hj).2, h.ap2, h.in0, fun j hj => (h1 j hj).1, h.in2, fun j hj => by rw [size_set]; exact h.lt j hj⟩
end
/-- what a call on the document's own disk comes to -/
def DoneR (w : World) (rb : Nat) (R : Nat → Prop) (r : Int × Ds) (e : Ending) (w' : World) : Prop := e = .returned (.int .i64 r.1) ∧ RK w' rb r.2 (Ext R w w') ∧ Turn w w' R
end Go.Proofs.Ytlkgfimignlgaaa
