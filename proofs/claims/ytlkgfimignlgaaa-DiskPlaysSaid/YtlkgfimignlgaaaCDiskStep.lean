/-
  A SCRIPT OF STEPS AMONG THE ARGUMENTS (codicillaw06): opened as a row of five cells a step. CONTRACT of Heavy. No conditions.
-/
import Derived.Test.YtlkgfimignlgaaaCDiskNil
import Derived.SliceStrings
import Derived.Carry
import Derived.ProofKit
import Derived.OpenShut
import Derived.ShutString
import Derived.SizedLaws
import Derived.BigQuiet
set_option linter.unusedSimpArgs false
set_option linter.unusedVariables false
set_option linter.unusedVariables false
set_option linter.unusedSimpArgs false
namespace Go.Proofs.Ytlkgfimignlgaaa
open Go.ChangeShapes Go.WideShapes Go.RowKit
structure Stp where
  op : Int
  a : ByteArray
  b : ByteArray
  n : Int
  m : Int
/-- what a step's fields may be -/
def okStp (s : Stp) : Prop := (s.a.size ≤ reachBytes ∧ s.b.size ≤ reachBytes) ∧ (Lit.int .i64 s.n).wf = true
def IsSteps (W : World) (S : List Stp) (v : Value) : Prop :=
  ∃ a c, v = .slice a S.length c ∧ S.length ≤ c ∧ ∀ j x, S[j]? = some x → okStp x ∧ ∃ b off, a = some ⟨b, off, none⟩ ∧ b < W.heap.size ∧
    W.cell? ⟨b, off + j * 5, none⟩ = some (.int .i64 x.op) ∧ W.cell? ⟨b, off + j * 5 + 1, none⟩ = some (.string x.a) ∧ W.cell? ⟨b, off + j * 5 + 2, none⟩ = some (.string x.b) ∧
    W.cell? ⟨b, off + j * 5 + 3, none⟩ = some (.int .i64 x.n) ∧ W.cell? ⟨b, off + j * 5 + 4, none⟩ = some (.int .i64 x.m)
theorem IsSteps.keep {W W' : World} {S : List Stp} {v : Value} (h : IsSteps W S v) (hb : Below W.heap.size W W') : IsSteps W' S v := by
  obtain ⟨a, c, e, hc, h⟩ := h
  refine ⟨a, c, e, hc, fun j x hx => ?_⟩
  obtain ⟨ho, b, off, e2, hlt, h0, h1, h2, h3, h4⟩ := h j x hx
  exact ⟨ho, b, off, e2, Nat.lt_of_lt_of_le hlt hb.size, (hb.cell hlt).trans h0, (hb.cell hlt).trans h1, (hb.cell hlt).trans h2, (hb.cell hlt).trans h3, (hb.cell hlt).trans h4⟩
theorem list_of {α : Type} {P : Nat → α → Prop} : ∀ n : Nat, (∀ i, i < n → ∃ x, P i x) → ∃ l : List α, l.length = n ∧ ∀ i x, l[i]? = some x → P i x
  | 0, _ => ⟨[], rfl, fun i x h => by simp at h⟩
  | n + 1, h => by
    obtain ⟨l, hl, hp⟩ := list_of n fun i hi => h i (Nat.lt_succ_of_lt hi)
    obtain ⟨x, hx⟩ := h n (Nat.lt_succ_self n)
    refine ⟨l ++ [x], by simp [hl], fun i y hy => ?_⟩
    have hlt := (List.getElem?_eq_some_iff.1 hy).1
    rw [List.length_append, hl] at hlt
    simp only [List.length_cons, List.length_nil] at hlt
    by_cases hi : i < n
    · rw [List.getElem?_append_left (by omega)] at hy
      exact hp i y hy
    · obtain rfl : i = n := by omega
      rw [List.getElem?_append_right (by omega), hl, Nat.sub_self] at hy
      simp only [List.getElem?_cons_zero, Option.some.injEq] at hy
      exact hy ▸ hx
section
variable {H : Type} {enc : TypeId × Value → H} {w : World} {base : Nat} {spare : Nat → Bool} {held : Bool}
theorem add_flat {a : Addr} {v : Value} {n : Nat} (h : w.cell? (a.add n) = some v) : a.add n = ⟨a.block, a.off + n, none⟩ := by
  have hs := World.cell?_spot h
  obtain ⟨b, o, s⟩ := a
  unfold Addr.add at hs ⊢
  by_cases h0 : n = 0
  · subst h0
    simp at hs
    subst hs
    simp
  · simp [h0]
set_option maxRecDepth 100000 in
theorem step_of_trod {fuel : Nat} {cs : List Value} {x : DataW H × List MemPlace} (h : DataW.trod enc Try.prog w base spare held fuel 33 cs = some x) :
    ∃ s : Stp, cs = [.int .i64 s.op, .string s.a, .string s.b, .int .i64 s.n, .int .i64 s.m] ∧ (Lit.int .i64 s.n).wf = true ∧ ∃ d0 d3 d4, x.1 = .agg [d0, .lit (.string s.a.data.toList), .lit (.string s.b.data.toList), d3, d4] := by
  obtain ⟨xs, n, rfl, hx, hlen, hxl, hf⟩ := DataW.trod_struct Try.underlying33 h
  have hlen5 : cs.length = 5 := hlen
  have hxl5 : xs.length = 5 := hxl
  match cs, hlen5, xs, hxl5 with
  | [c0, c1, c2, c3, c4], _, [y0, y1, y2, y3, y4], _ =>
    have f0 : DataW.trod enc Try.prog w base spare held n 3 [c0] = some y0 := hf 0 _ rfl
    have f1 : DataW.trod enc Try.prog w base spare held n 9 [c1] = some y1 := hf 1 _ rfl
    have f2 : DataW.trod enc Try.prog w base spare held n 9 [c2] = some y2 := hf 2 _ rfl
    have f3 : DataW.trod enc Try.prog w base spare held n 3 [c3] = some y3 := hf 3 _ rfl
    have f4 : DataW.trod enc Try.prog w base spare held n 3 [c4] = some y4 := hf 4 _ rfl
    obtain ⟨k0, e0, _, _⟩ := DataW.trod_int Try.underlying3 f0
    obtain ⟨s1, e1, i1, z1⟩ := DataW.trod_string Try.underlying9 f1
    obtain ⟨s2, e2, i2, z2⟩ := DataW.trod_string Try.underlying9 f2
    obtain ⟨k3, e3, w3, w3'⟩ := DataW.trod_int Try.underlying3 f3
    obtain ⟨k4, e4, _, _⟩ := DataW.trod_int Try.underlying3 f4
    simp only [List.cons.injEq, and_true] at e0 e1 e2 e3 e4
    subst e0 e1 e2 e3 e4
    subst i1 i2
    exact ⟨⟨k0, s1, s2, k3, k4⟩, rfl, by first | exact w3 | exact w3', _, _, _, by rw [hx]; rfl⟩
end
theorem wAll_mem {H : Type} {e : TypeId} : ∀ {ds : List (DataW H)} {d : DataW H}, d ∈ ds → ∀ n ∈ d.weights Try.prog e, n ∈ DataW.weightsAll Try.prog e ds
  | x :: ds, d, hd, n, hn => by
    simp only [DataW.weightsAll, List.mem_append]
    rcases List.mem_cons.1 hd with rfl | h
    · exact .inl hn
    · exact .inr (wAll_mem h n hn)
set_option maxRecDepth 100000 in
theorem wStep {H : Type} (d0 d3 d4 : DataW H) (a b : List UInt8) : a.length ∈ (DataW.agg [d0, .lit (.string a), .lit (.string b), d3, d4]).weights Try.prog 33 ∧ b.length ∈ (DataW.agg [d0, .lit (.string a), .lit (.string b), d3, d4]).weights Try.prog 33 := by
  simp only [DataW.weights, Try.underlying33]
  constructor <;> simp [DataW.weightsEach, DataW.weights]
set_option maxRecDepth 1000000 in
theorem open_steps {H : Type} {enc : TypeId × Value → H} {W : World} {fuel : Nat} {a : Option Addr} {n c : Nat} {d : DataW H} {p : List MemPlace}
    (hf : DataW.trod enc Try.prog W 0 (fun _ => true) true fuel 22 (Value.slice a n c).cells.toList = some (d, p)) (hw : ∀ k ∈ d.weights Try.prog 22, k ≤ reachBytes) :
    ∃ S, IsSteps W S (.slice a n c) ∧ S.length ≤ maxLen := by
  rcases DataW.trod_slice Try.underlying22 hf with ⟨e, _⟩ | ⟨a', len, cap, elems, rst, n', hn', e, hd, hb, hlc, hcm, hel, hat, _, _⟩
  · simp [Value.cells] at e
    obtain ⟨rfl, rfl, rfl⟩ := e
    exact ⟨[], ⟨none, 0, rfl, Nat.le_refl _, fun j x hx => by simp at hx⟩, Nat.zero_le _⟩
  · simp [Value.cells] at e
    obtain ⟨rfl, rfl, rfl⟩ := e
    simp only [Prod.mk.injEq] at hd
    obtain ⟨rfl, rfl⟩ := hd
    have hc5 : Try.prog.cellsOf 33 = 5 := by kernel_rfl
    obtain ⟨S, hS, hp⟩ := list_of (α := Stp) (P := fun i x => okStp x ∧ ∃ b off, some a' = some (⟨b, off, none⟩ : Addr) ∧ b < W.heap.size ∧ W.cell? ⟨b, off + i * 5, none⟩ = some (.int .i64 x.op) ∧ W.cell? ⟨b, off + i * 5 + 1, none⟩ = some (.string x.a) ∧ W.cell? ⟨b, off + i * 5 + 2, none⟩ = some (.string x.b) ∧
        W.cell? ⟨b, off + i * 5 + 3, none⟩ = some (.int .i64 x.n) ∧ W.cell? ⟨b, off + i * 5 + 4, none⟩ = some (.int .i64 x.m)) n fun i hi => by
      have read : ∀ k, k < n → ∃ s : Stp, okStp s ∧ W.cell? (a'.add (k * 5)) = some (.int .i64 s.op) ∧ W.cell? ((a'.add (k * 5)).add 1) = some (.string s.a) ∧ W.cell? ((a'.add (k * 5)).add 2) = some (.string s.b) ∧ W.cell? ((a'.add (k * 5)).add 3) = some (.int .i64 s.n) ∧ W.cell? ((a'.add (k * 5)).add 4) = some (.int .i64 s.m) := by
        intro k hk
        have h1 := hat k hk
        rw [hc5] at h1
        obtain ⟨y, hy⟩ : ∃ y, elems[k]? = some y := ⟨elems[k]'(by omega), List.getElem?_eq_getElem (by omega)⟩
        rw [hy] at h1
        obtain ⟨cs', hcs, h2⟩ := Option.bind_eq_some_iff.1 h1
        obtain ⟨s, rfl, hwn, d0, d3, d4, hag⟩ := step_of_trod h2
        have hmem : y.1 ∈ elems.map (·.1) := List.mem_map.2 ⟨y, List.mem_of_getElem? hy, rfl⟩
        have hwy : ∀ k ∈ y.1.weights Try.prog 33, k ≤ reachBytes := fun k hk => hw k (by
          simp only [DataW.weights, Try.underlying22]
          exact List.mem_cons_of_mem _ (List.mem_append_left _ (wAll_mem hmem _ hk)))
        rw [hag] at hwy
        have ho : okStp s := ⟨⟨hwy _ (wStep d0 d3 d4 _ _).1, hwy _ (wStep d0 d3 d4 _ _).2⟩, hwn⟩
        obtain ⟨_, _, hcat⟩ := World.cells?_some hcs
        have hz : (a'.add (k * 5)).add 0 = a'.add (k * 5) := by unfold Addr.add; simp
        have g0 := hcat (i := 0) (by omega)
        rw [hz] at g0
        exact ⟨s, ho, g0, hcat (i := 1) (by omega), hcat (i := 2) (by omega), hcat (i := 3) (by omega), hcat (i := 4) (by omega)⟩
      have hspot : a'.spot = none := by
        obtain ⟨s, _, g0, _⟩ := read 0 (by omega)
        have := add_flat g0
        unfold Addr.add at this
        simp at this
        rw [this]
      obtain ⟨s, ho, g0, g1, g2, g3, g4⟩ := read i hi
      rw [add_flat g1] at g1
      rw [add_flat g2] at g2
      rw [add_flat g3] at g3
      rw [add_flat g4] at g4
      have p0 := add_flat g0
      rw [p0] at g0 g1 g2 g3 g4
      obtain ⟨b, off, spot⟩ := a'
      simp only at hspot g0 g1 g2 g3 g4
      subst hspot
      exact ⟨s, ho, b, off, rfl, World.block_lt_of_cell? _ _ g0, g0, g1, g2, g3, g4⟩
    refine ⟨S, ⟨some a', c, by rw [hS], by omega, fun j x hx => hp j x hx⟩, by omega⟩
/-- the sizes of the texts -/
def sumS (S : List Stp) : Nat := (S.map fun s => s.a.size + s.b.size).sum
theorem sumS_take (S : List Stp) (k : Nat) (x : Stp) (h : S[k]? = some x) : sumS (S.take (k + 1)) = sumS (S.take k) + (x.a.size + x.b.size) := by
  obtain ⟨hk, e⟩ := List.getElem?_eq_some_iff.1 h
  unfold sumS
  rw [List.take_succ_eq_append_getElem hk, e, List.map_append, List.sum_append]
  simp
theorem sumS_le (S : List Stp) (hb : ∀ x ∈ S, okStp x) (k : Nat) : sumS (S.take k) ≤ k * (2 * reachBytes) := by
  induction k with
  | zero => simp [sumS]
  | succ k ih =>
    cases h : S[k]? with
    | some x =>
      rw [sumS_take S k x h, Nat.succ_mul]
      obtain ⟨⟨h1, h2⟩, _⟩ := hb x (List.mem_of_getElem? h)
      omega
    | none =>
      have hk := List.getElem?_eq_none_iff.1 h
      rw [List.take_of_length_le (by omega), ← List.take_of_length_le (l := S) (i := k) (by omega), Nat.succ_mul]
      omega
theorem sumS_mem {S : List Stp} {x : Stp} (h : x ∈ S) : x.a.size + x.b.size ≤ sumS S := by
  induction S with
  | nil => cases h
  | cons y S ih =>
    unfold sumS at ih ⊢
    rw [List.map_cons, List.sum_cons]
    rcases List.mem_cons.1 h with rfl | h'
    · omega
    · have := ih h'
      omega
end Go.Proofs.Ytlkgfimignlgaaa
