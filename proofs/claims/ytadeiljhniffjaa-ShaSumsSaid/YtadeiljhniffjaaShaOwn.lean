/-
  A SLICE OF NUMBERS THAT GROWS, told by its cells (so that a text's bytes, as []byte lays them, serve too). No conditions but the sizes.
-/
import Derived.Test.YtadeiljhniffjaaShaHeld
import Derived.Laws.IdiomStrings
import Derived.ArgAppend
namespace Go.Proofs.Ytadeiljhniffjaa
open Go.RowKit
set_option linter.unusedVariables false

structure OC (k : IntKind) (w : World) (B g cap : Nat) (xs : List Int) : Prop where
  base : B ≤ g
  lt : g < w.heap.size
  le : xs.length ≤ cap
  max : cap ≤ maxLen
  cells : ∀ j, j < xs.length → w.cell? ⟨g, j, none⟩ = some (.int k (xs.getD j 0))
  there : ∀ j, j < cap → (w.cell? ⟨g, j, none⟩).isSome = true ∧ w.frozen? ⟨g, j, none⟩ = false
section
variable {T E : TypeId} {k : IntKind} {b B g cap : Nat} {w : World} {v : Value} {xs : List Int}
theorem OC.below (h : OC k w B g cap xs) {B' : Nat} {w' : World} (hb : Below B' w w') (hg : g < B') : OC k w' B g cap xs :=
  ⟨h.base, Nat.lt_of_lt_of_le h.lt hb.size, h.le, h.max, fun j hj => (hb.cell hg).trans (h.cells j hj), fun j hj => ⟨by rw [hb.cell hg]; exact (h.there j hj).1, by rw [hb.frozen hg]; exact (h.there j hj).2⟩⟩
theorem OC.alloc (h : OC k w B g cap xs) (o : Obj) : OC k (w.alloc o) B g cap xs := h.below ((Below.refl w.heap.size w).alloc (Nat.le_refl _) _) h.lt
theorem OC.keep (h : OC k w B g cap xs) {w' : World} (hb : Below w.heap.size w w') : OC k w' B g cap xs := h.below hb h.lt
theorem OC.drew (h : OC k w B g cap xs) : OC k w.drew B g cap xs := ⟨h.base, h.lt, h.le, h.max, h.cells, h.there⟩
/-- what is owned is told by its cells -/
theorem OC.of (h : OW E k w B v xs) (hn : xs ≠ []) : ∃ g cap, v = .slice (some ⟨g, 0, none⟩) xs.length cap ∧ OC k w B g cap xs := by
  rcases h.2 with ⟨_, hz⟩ | ⟨g, cap, cur, rfl, h1, h2, h3, h4, h5, h6⟩
  · exact absurd (List.eq_nil_of_length_eq_zero hz) hn
  · refine ⟨g, cap, rfl, h1, (Array.getElem?_eq_some_iff.1 h2).1, h3, h4, fun j hj => OW.cell h hj, fun j hj => ?_⟩
    rw [cell_of_row w g j cur E (0, 0) h2]
    refine ⟨?_, frozen_of_row w g j cur E h2⟩
    have : j < cur.size := by omega
    simp [this]
theorem getD_map_int (k : IntKind) {l : List Int} {j : Nat} {u : Value} (h : (l.map (Value.int k))[j]? = some u) : j < l.length ∧ u = .int k (l.getD j 0) := by
  rw [List.getElem?_map] at h
  rcases Nat.lt_or_ge j l.length with hj | hj
  · rw [List.getElem?_eq_getElem hj] at h
    simp only [Option.map_some, Option.some.injEq] at h
    exact ⟨hj, by rw [← h]; simp [List.getD, List.getElem?_eq_getElem hj]⟩
  · rw [List.getElem?_eq_none hj] at h
    cases h

theorem below_cells {B : Nat} {a : World} (b : Nat) (hb : B ≤ b) : ∀ (vs : List Value) (o : Nat) (w : World), Below B a w → Below B a (w.setCells b o vs)
  | [], _, _, h => h
  | v :: r, o, w, h => below_cells b hb r (o + 1) _ (h.setCell (p := ⟨b, o, none⟩) hb v)
theorem wp_appC {ops : Array Oper} {rest : List Oper} {o : Oper} {a : Act} {Q : Exit → Act → World → Prop} (el : El T E k b) (hgd : o.guard = none) (s x : Operand)
    (ho : o.op = .call { callee := .builtin .append, args := #[s, x], argTypes := #[T, T] }) (hs : a.eval s = .slice (some ⟨g, 0, none⟩) xs.length cap) (h : OC k w B g cap xs) (hB : B ≤ w.heap.size)
    (ns : List Int) (m : Nat) (hx : a.eval x = .slice (some ⟨w.heap.size, 0, none⟩) m m) (hm : ns.length = m) (hm0 : 0 < m) (hbytes : (xs.length + m) * b ≤ 140737488355328) (hb : 0 < b)
    (K : ∀ g' cap' w', OC k w' B g' cap' (xs ++ ns) → Below B w w' → wpList Try.prog ops Q rest (a.put o.dst (.slice (some ⟨g', 0, none⟩) (xs ++ ns).length cap')) w') : wpList Try.prog ops Q (o :: rest) a (w.alloc (.cells (ns.map (Value.int k)).toArray E)) := by
  obtain ⟨i0, hi, hz0, hz1, hz2⟩ := info_parts el.hi
  have hl : xs.length + m ≤ maxLen := by
    have : xs.length + m ≤ (xs.length + m) * b := Nat.le_mul_of_pos_right _ hb
    unfold maxLen
    omega
  have hA := h.alloc (.cells (ns.map (Value.int k)).toArray E)
  have hlen : (xs ++ ns).length = xs.length + m := by rw [List.length_append, hm]
  refine wpList_append_arg _ hgd s x T ho E i0 (.int k 0) 1 b el.ht hi hz0 hz1 hz2 rfl (by decide) g 0 xs.length cap (xs.map (Value.int k)) hs (by simp) ?_ ⟨w.heap.size, 0, none⟩ m m (ns.map (Value.int k)) hx (by simp [hm]) ?_ ?_ ?_ hl hbytes ?_ ?_
  · intro j u hj
    obtain ⟨h1, rfl⟩ := getD_map_int k hj
    rw [Nat.zero_add]
    exact hA.cells j h1
  · intro j u hj
    have hn : (⟨w.heap.size, 0, none⟩ : Addr).add j = ⟨w.heap.size, j, none⟩ := by unfold Addr.add; split <;> simp_all
    rw [hn, cell_of_row _ _ j _ E (0, 0) (heap_alloc_new w _)]
    simpa using hj
  · intro u hu
    simp only [List.mem_map] at hu
    obtain ⟨z, _, rfl⟩ := hu
    rfl
  · intro hr j hj
    rw [List.length_map, hm] at hj
    have := hA.there (xs.length + j) (by omega)
    rw [show 0 + xs.length * 1 + j = xs.length + j by omega]
    exact this
  · intro hr
    rw [show 0 + xs.length * 1 = xs.length by omega]
    have hsz : ∀ (vs : List Value) (o : Nat) (w : World), (w.setCells g o vs).heap.size = w.heap.size := by
      intro vs
      induction vs with
      | nil => intro o w; rfl
      | cons v r ih => intro o w; rw [World.setCells, ih]; simp [World.setCell]
    have K' := K g cap ((w.alloc (.cells (ns.map (Value.int k)).toArray E)).setCells g xs.length (ns.map (Value.int k))) ?_ ?_
    · rw [hlen] at K'
      exact K'
    · refine ⟨h.base, by rw [hsz]; exact hA.lt, by omega, h.max, ?_, ?_⟩
      · intro j hj
        rcases Nat.lt_or_ge j xs.length with h1 | h1
        · rw [World.cell?_setCells_out g _ _ _ ⟨g, j, none⟩ (fun _ _ => .inl h1), hA.cells j h1]
          congr 2
          rw [List.getD_eq_getElem?_getD, List.getD_eq_getElem?_getD, List.getElem?_append_left h1]
        · have hj2 : j - xs.length < (ns.map (Value.int k)).length := by rw [List.length_map, hm]; omega
          have := World.cell?_setCells_in g (ns.map (Value.int k)) xs.length (w.alloc (.cells (ns.map (Value.int k)).toArray E)) (fun i hi => (hA.there (xs.length + i) (by rw [List.length_map, hm] at hi; omega)).1) (j - xs.length) hj2
          rw [show xs.length + (j - xs.length) = j by omega] at this
          rw [this, List.getElem_map]
          congr 2
          rw [List.getD_eq_getElem?_getD, List.getElem?_append_right h1, List.getElem?_eq_getElem (by rw [List.length_map] at hj2; exact hj2)]
          rfl
      · intro j hj
        have := hA.there j hj
        refine ⟨?_, by rw [World.frozen?_setCells]; exact this.2⟩
        rcases Nat.lt_or_ge j xs.length with h1 | h1
        · rw [World.cell?_setCells_out g _ _ _ ⟨g, j, none⟩ (fun _ _ => .inl h1)]; exact this.1
        · rcases Nat.lt_or_ge j (xs.length + m) with h2 | h2
          · have hj2 : j - xs.length < (ns.map (Value.int k)).length := by rw [List.length_map, hm]; omega
            have h3 := World.cell?_setCells_in g (ns.map (Value.int k)) xs.length (w.alloc (.cells (ns.map (Value.int k)).toArray E)) (fun i hi => (hA.there (xs.length + i) (by rw [List.length_map, hm] at hi; omega)).1) (j - xs.length) hj2
            rw [show xs.length + (j - xs.length) = j by omega] at h3
            rw [h3]; rfl
          · rw [World.cell?_setCells_out g _ _ _ ⟨g, j, none⟩ (fun _ _ => .inr (by rw [List.length_map, hm]; exact h2))]; exact this.1
    · exact below_cells g h.base _ _ _ ((Below.refl B w).alloc hB _)
  · intro hr v' w' h1 h2
    have hOW : OW E k w' (w.alloc (.cells (ns.map (Value.int k)).toArray E)).heap.size v' (xs ++ ns) := by
      unfold OW
      rw [hlen, List.map_append]
      exact h1
    obtain ⟨g', cap', rfl, hc⟩ := OC.of hOW (by intro e; have := congrArg List.length e; rw [hlen] at this; simp at this; omega)
    refine K g' cap' w' ⟨?_, hc.lt, hc.le, hc.max, hc.cells, hc.there⟩ (((Below.refl B w).alloc hB _).grown h2 (by simp; omega) (fun k hk => by cases hk))
    have := hc.base
    simp at this
    omega
theorem wp_appN {ops : Array Oper} {rest : List Oper} {o : Oper} {a : Act} {Q : Exit → Act → World → Prop} (el : El T E k b) (hgd : o.guard = none) (s x : Operand) {n : Nat}
    (ho : o.op = .call { callee := .builtin .append, args := #[s, x], argTypes := #[T, T] }) (hs : a.eval s = .slice (some ⟨g, 0, none⟩) n cap) (hn : xs.length = n) (h : OC k w B g cap xs) (hB : B ≤ w.heap.size)
    (ns : List Int) (m : Nat) (hx : a.eval x = .slice (some ⟨w.heap.size, 0, none⟩) m m) (hm : ns.length = m) (hm0 : 0 < m) (hbytes : (n + m) * b ≤ 140737488355328) (hb : 0 < b)
    (K : ∀ g' cap' w', OC k w' B g' cap' (xs ++ ns) → Below B w w' → wpList Try.prog ops Q rest (a.put o.dst (.slice (some ⟨g', 0, none⟩) (n + m) cap')) w') : wpList Try.prog ops Q (o :: rest) a (w.alloc (.cells (ns.map (Value.int k)).toArray E)) := by
  subst hn
  refine wp_appC el hgd s x ho hs h hB ns m hx hm hm0 hbytes hb fun g' cap' w' h1 h2 => ?_
  have := K g' cap' w' h1 h2
  rw [List.length_append, hm]
  exact this
end
def slLen : Value → Nat
  | .slice _ n _ => n
  | _ => 0
theorem bytesRow_size (s : ByteArray) (cap : Nat) (h : s.size ≤ cap) : (bytesRow s cap).size = cap := by
  have : s.data.size = s.size := rfl
  simp [bytesRow]
  omega
/-- a text's bytes -/
theorem run_bytes (s : ByteArray) (w : World) (hs : s.size ≤ maxLen) :
    ∃ cap fz, (convert 9 25 (.string s)).run Try.prog w = .ok (.slice (some ⟨w.heap.size, 0, none⟩) s.size cap) (w.drew.alloc (.cells (bytesRow s cap) 5 fz)) ∧
      OC .u8 (w.drew.alloc (.cells (bytesRow s cap) 5 fz)) w.heap.size w.heap.size cap (s.data.toList.map fun b => (b.toNat : Int)) := by
  refine ⟨grownCap w s.size 0 5, ((bytesRow s (grownCap w s.size 0 5)).size, (bytesRow s (grownCap w s.size 0 5)).size + 1), run_bytes_of_string w 9 25 5 s Try.underlying9 Try.underlying25 Try.underlying5, ?_⟩
  have hge := grownCap_ge w s.size 0 5
  have hmx := grownCap_le_maxLen w s.size 0 5 hs
  generalize grownCap w s.size 0 5 = cap at hge hmx ⊢
  have hsz := bytesRow_size s cap hge
  have hdl : s.data.toList.length = s.size := (Lib.size_eq s).symm
  refine ⟨Nat.le_refl _, ?_, by rw [List.length_map, hdl]; exact hge, hmx, ?_, ?_⟩
  · show w.heap.size < (w.heap.push _).size
    simp
  · intro j hj
    rw [List.length_map, hdl] at hj
    have hj' : j < s.data.size := hj
    rw [cell_of_row (w.drew.alloc _) w.heap.size j _ 5 _ (heap_alloc_new w.drew _), bytesRow_at s cap j hj']
    congr 2
    rw [List.getD_eq_getElem?_getD, List.getElem?_map, Array.getElem?_toList, Array.getElem?_eq_getElem hj']
    rfl
  · intro j hj
    rw [cell_of_row (w.drew.alloc _) w.heap.size j _ 5 _ (heap_alloc_new w.drew _)]
    refine ⟨by simp [hsz, hj], ?_⟩
    have hh := heap_alloc_new w.drew (.cells (bytesRow s cap) 5 ((bytesRow s cap).size, (bytesRow s cap).size + 1))
    have hw : w.drew.heap.size = w.heap.size := rfl
    rw [hw] at hh
    unfold World.frozen?
    rw [show (⟨w.heap.size, j, none⟩ : Addr).block = w.heap.size from rfl, hh, hsz]
    simp
    omega
end Go.Proofs.Ytadeiljhniffjaa
