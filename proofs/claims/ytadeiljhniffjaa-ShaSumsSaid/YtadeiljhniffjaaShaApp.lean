/-
  SLICES OF NUMBERS THAT GROW: one law for an append of new numbers; reading; the conversion of bytes to a text. No conditions but the sizes.
-/
import Derived.Test.YtadeiljhniffjaaShaRow
import Derived.Deep.AppendLies
namespace Go.Proofs.Ytadeiljhniffjaa
open Go.RowKit
set_option linter.unusedVariables false

/-- numbers of a kind, of b bytes each, in slices of type T -/
structure El (T E : TypeId) (k : IntKind) (b : Nat) : Prop where
  ht : Try.prog.underlying T = some (.slice E)
  hi : (Try.prog.info? E).map (fun i => (i.zero, i.size, i.bytes)) = some (some (.int k 0), 1, b)
theorem el8 : El 25 5 .u8 1 := ⟨Try.underlying25, by kernel_rfl⟩
theorem el32 : El 39 30 .u32 4 := ⟨Try.underlying39, by kernel_rfl⟩
theorem el64 : El 47 41 .u64 8 := ⟨Try.underlying47, by kernel_rfl⟩

/-- v owns the numbers xs, in a block from B on -/
def OW (E : TypeId) (k : IntKind) (w : World) (B : Nat) (v : Value) (xs : List Int) : Prop := w.ownsRow B E 1 v xs.length (xs.map (Value.int k))
section
variable {T E : TypeId} {k : IntKind} {b B : Nat} {w : World} {v : Value} {xs : List Int}
theorem OW.nil (E : TypeId) (k : IntKind) (w : World) (B : Nat) : OW E k w B (.slice none 0 0) [] := World.ownsRow_nil _ _ _ _
theorem OW.alloc (h : OW E k w B v xs) (o : Obj) : OW E k (w.alloc o) B v xs := World.ownsRow.alloc h o
theorem OW.drew (h : OW E k w B v xs) : OW E k w.drew B v xs := h
theorem OW.below (h : OW E k w B v xs) {B' : Nat} {w' : World} (hb : Below B' w w') (hv : ∀ g, v.ownBlock = some g → g < B') : OW E k w' B v xs := by
  refine ⟨h.1, ?_⟩
  rcases h.2 with hn | ⟨g, cap, cur, rfl, h1, h2, h3⟩
  · exact .inl hn
  · exact .inr ⟨g, cap, cur, rfl, h1, (hb.block g (hv g rfl)).trans h2, h3⟩
theorem OW.lt (h : OW E k w B v xs) : ∀ g, v.ownBlock = some g → g < w.heap.size := fun g hg => (World.ownsRow.lt h g hg).2
theorem OW.keep (h : OW E k w B v xs) {w' : World} (hb : Below w.heap.size w w') : OW E k w' B v xs := h.below hb h.lt
/-- the shape of a value that owns something -/
theorem OW.shape (h : OW E k w B v xs) (hn : xs ≠ []) : ∃ g cap, v = .slice (some ⟨g, 0, none⟩) xs.length cap ∧ B ≤ g ∧ g < w.heap.size ∧ xs.length ≤ cap := by
  rcases h.2 with ⟨_, hz⟩ | ⟨g, cap, cur, rfl, h1, h2, h3, _⟩
  · exact absurd (List.eq_nil_of_length_eq_zero hz) hn
  · exact ⟨g, cap, rfl, h1, (Array.getElem?_eq_some_iff.1 h2).1, h3⟩
theorem OW.cell {g cap : Nat} (h : OW E k w B (.slice (some ⟨g, 0, none⟩) xs.length cap) xs) {j : Nat} (hj : j < xs.length) : w.cell? ⟨g, j, none⟩ = some (.int k (xs.getD j 0)) := by
  rw [World.ownsRow.cellAt h j (by omega)]
  simp [List.getD, List.getElem?_eq_getElem hj]
theorem OW.free {g cap : Nat} (h : OW E k w B (.slice (some ⟨g, 0, none⟩) xs.length cap) xs) (j : Nat) : w.frozen? ⟨g, j, none⟩ = false := World.ownsRow.frozenAt h j
theorem OW.set {g cap : Nat} (h : OW E k w B (.slice (some ⟨g, 0, none⟩) xs.length cap) xs) (j : Nat) (u : Int) : OW E k (w.setCell ⟨g, j, none⟩ (.int k u)) B (.slice (some ⟨g, 0, none⟩) (xs.set j u).length cap) (xs.set j u) := by
  have := (World.ownsRow.stored h j (.int k u)).1
  unfold OW
  rw [List.length_set, List.map_set]
  exact this
/-- a literal's own row -/
theorem OW.lit (w : World) (E : TypeId) (k : IntKind) (ns : List Int) (hB : B ≤ w.heap.size) (hm : ns.length ≤ maxLen) : OW E k (w.alloc (.cells (ns.map (Value.int k)).toArray E)) B (.slice (some ⟨w.heap.size, 0, none⟩) ns.length ns.length) ns := by
  refine ⟨by simp, .inr ⟨w.heap.size, ns.length, _, rfl, hB, heap_alloc_new w _, Nat.le_refl _, hm, by simp, by simp [List.take_of_length_le]⟩⟩

theorem op_app {o : Oper} {a : Act} {K : Act → World → Prop} {Q : Exit → Act → World → Prop} (el : El T E k b) (s x : Operand)
    (ho : o.op = .call { callee := .builtin .append, args := #[s, x], argTypes := #[T, T] }) (hs : a.eval s = v) (hown : OW E k w B v xs)
    (ns : List Int) (m : Nat) (hx : a.eval x = .slice (some ⟨w.heap.size, 0, none⟩) m m) (hm : ns.length = m) (hbytes : (xs.length + m) * b ≤ 140737488355328) (hb : 0 < b) (hbase : B ≤ w.heap.size)
    (h : ∀ v' w', OW E k w' B v' (xs ++ ns) → Below B w w' → K (a.put o.dst v') w') : o.wp Try.prog a (w.alloc (.cells (ns.map (Value.int k)).toArray E)) K Q := by
  obtain ⟨i0, hi, hz0, hz1, hz2⟩ := info_parts el.hi
  have hl : xs.length + m ≤ maxLen := by
    have : xs.length + m ≤ (xs.length + m) * b := Nat.le_mul_of_pos_right _ hb
    unfold maxLen
    omega
  refine wp_append_own _ s x T ho B E i0 (.int k 0) 1 b el.ht hi hz0 hz1 hz2 rfl (by decide) v xs.length _ hs (World.ownsRow.alloc hown _) ⟨w.heap.size, 0, none⟩ m m (ns.map (Value.int k)) hx (by simp [hm]) ?_ ?_ hl hbytes (by simp; omega) ?_
  · intro j u hj
    have hn : (⟨w.heap.size, 0, none⟩ : Addr).add j = ⟨w.heap.size, j, none⟩ := by unfold Addr.add; split <;> simp_all
    rw [hn, cell_of_row _ _ j _ E (0, 0) (heap_alloc_new w _)]
    simpa using hj
  · intro u hu
    simp only [List.mem_map] at hu
    obtain ⟨z, _, rfl⟩ := hu
    rfl
  · intro v' w' h1 h2 _
    refine h v' w' ?_ ?_
    · have e : (xs ++ ns).length = xs.length + m := by simp [hm]
      unfold OW
      rw [e, List.map_append]
      exact h1
    · refine ((Below.refl B w).alloc hbase _).grown h2 (by simp; omega) ?_
      intro g hg
      exact (World.ownsRow.lt hown g hg).1
theorem wp_app {ops : Array Oper} {rest : List Oper} {o : Oper} {a : Act} {Q : Exit → Act → World → Prop} (el : El T E k b) (hgd : o.guard = none) (s x : Operand)
    (ho : o.op = .call { callee := .builtin .append, args := #[s, x], argTypes := #[T, T] }) (hs : a.eval s = v) (hown : OW E k w B v xs)
    (ns : List Int) (m : Nat) (hx : a.eval x = .slice (some ⟨w.heap.size, 0, none⟩) m m) (hm : ns.length = m) (hbytes : (xs.length + m) * b ≤ 140737488355328) (hb : 0 < b) (hbase : B ≤ w.heap.size)
    (h : ∀ v' w', OW E k w' B v' (xs ++ ns) → Below B w w' → wpList Try.prog ops Q rest (a.put o.dst v') w') : wpList Try.prog ops Q (o :: rest) a (w.alloc (.cells (ns.map (Value.int k)).toArray E)) :=
  wpList_plain hgd fun _ hK => op_app el s x ho hs hown ns m hx hm hbytes hb hbase fun v' w' h1 h2 => hK _ _ (h v' w' h1 h2)
end
theorem conv_own {w : World} {B : Nat} {v : Value} {xs : List Int} (h : OW 5 .u8 w B v xs) :
    (convert 25 9 v).run Try.prog w = .ok (.string (strOfNums xs)) w := by
  rcases h.2 with ⟨rfl, hz⟩ | ⟨g, cap, cur, rfl, h1, h2, h3⟩
  · rw [run_convert_bytes_nil _ 25 5 Try.underlying25 Try.underlying5 0 0 9 Try.underlying9, List.eq_nil_of_length_eq_zero hz]
    rfl
  · refine run_convert_bytes_arg _ 25 5 Try.underlying25 Try.underlying5 _ 0 _ _ xs rfl ?_ 9 Try.underlying9
    intro j hj
    rw [Nat.zero_add]
    exact OW.cell h hj
end Go.Proofs.Ytadeiljhniffjaa
