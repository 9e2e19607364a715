/-
  A RANGE OVER A FUNCTION WHOSE ITERATOR ONLY LAYS NEW BLOCKS (what stands, stands on): the statement's law. The caller's invariant may speak of whatever stands but of the loop's own two blocks; a round keeps these two. (Generic.)
-/
import Derived.RangeFuncNested
import Derived.RangeFuncBound
import Derived.RangeFuncCalls
import Derived.RangeFuncLeaves
import Derived.RangeFuncWrites
namespace Go.Proofs.Ythimjdknafgfbaa
open Go.RowKit

/-- what a round keeps: the loop's own two blocks -/
structure Kept2 (D : Nat) (W W' : World) : Prop where
  size : W.heap.size ≤ W'.heap.size
  b0 : W'.heap[D]? = W.heap[D]?
  b1 : W'.heap[D + 1]? = W.heap[D + 1]?
theorem Kept2.refl (D : Nat) (W : World) : Kept2 D W W := ⟨Nat.le_refl _, rfl, rfl⟩
theorem Kept2.trans {D : Nat} {X Y Z : World} (h : Kept2 D X Y) (k : Kept2 D Y Z) : Kept2 D X Z := ⟨Nat.le_trans h.size k.size, k.b0.trans h.b0, k.b1.trans h.b1⟩
theorem Kept2.of_below {D B : Nat} {W W' : World} (h : Below B W W') (hD : D + 2 ≤ B) : Kept2 D W W' := ⟨h.size, h.block D (by omega), h.block (D + 1) (by omega)⟩
theorem Kept2.set {D : Nat} {W : World} {a : Addr} (v : Value) (h0 : a.block ≠ D) (h1 : a.block ≠ D + 1) : Kept2 D W (W.setCell a v) := ⟨by simp, Below.heap_setCell W a v D (fun e => h0 e.symm), Below.heap_setCell W a v (D + 1) (fun e => h1 e.symm)⟩
theorem Below.put {n₀ l : Nat} {A W : World} {o' : Obj} (h : Below n₀ A W) (hn : n₀ ≤ l) : Below n₀ A (W.putObj l o') :=
  h.trans ⟨rfl, rfl, rfl, by simp, fun k hk => World.putObj_heap_other (by omega)⟩

/-- HOW THE BODY OF A ROUND MAY BE LEFT. -/
def stepPost {α : Type} (D : Nat) (I Ix : List α → World → Prop) (xs : List α) (W : World) : Exit → Act → World → Prop
  | .normal, _, W' => Kept2 D W W' ∧ I xs W'
  | .ret, _, W' => Kept2 D W W' ∧ Ix xs W'
  | _, _, _ => False

/-- what the iterator's function promises -/
def StepStops {α : Type} (P : Program) (n : Nat) (gf : Nat) (lb : Array Value) (Enc : List α → α → Array Value → Prop) (S : List α → Prop) (w : World) : Prop :=
  ∀ (l : Nat) (J Jx : List α → World → Prop) (W : World), Below w.heap.size w W →
    (∀ s A A', J s A → Below A.heap.size A A' → J s A') →
    (∀ pre x args W1, J pre W1 → Enc pre x args → YieldAt Fence.wide (n - 1) P l args W1 fun e W' =>
      (e = .returned (.bool true) ∧ J (pre ++ [x]) W') ∨ (e = .returned (.bool false) ∧ Jx (pre ++ [x]) W')) →
    J [] W →
    CallsIn Fence.wide n P gf (#[.func (.yield l) #[] #[]] ++ lb) W fun e W' => (∃ v, e = .returned v) ∧ ((∃ xs, S xs ∧ J xs W') ∨ (∃ pre, Jx pre W'))

/-- **THE STATEMENT'S LAW** -/
theorem wpIn_rangeFunc_step {α : Type} {P : Program} {n : Nat} {g : Operand} {ps : Array Tmp} {assign body : Code} {Q : Exit → Act → World → Prop} {a : Act} {w : World}
    {gf : Nat} {lb : Array Value} (hg : a.eval g = .func (.func gf) #[] lb) (eg : ∀ args w, (callFunc gf args).run P w = .ok (.enter gf args) w)
    {Enc : List α → α → Array Value → Prop} {S : List α → Prop} (hseq : StepStops P (n - 1) gf lb Enc S w)
    (hps : ∀ pre x args, Enc pre x args → args.size = ps.size)
    (I Ix : List α → World → Prop) (hI : ∀ s A A', I s A → Below A.heap.size A A' → I s A') (hIp : ∀ s A o, I s A → I s (A.putObj (w.heap.size + 1) o)) (hIxp : ∀ s A o, Ix s A → Ix s (A.putObj (w.heap.size + 1) o)) (h0 : I [] w)
    (Ax : List α → α → Act → World → Prop) (hAx : ∀ pre x a₁ W o, Ax pre x a₁ W → Ax pre x a₁ (W.putObj (w.heap.size + 1) o))
    (hassign : ∀ (l : Nat) (pre : List α) (x : α) (args : Array Value) (W : World) (K : Act → World → Prop), I pre W → Enc pre x args → w.heap.size + 2 ≤ W.heap.size →
      (∀ a₁ W₁, Ax pre x a₁ W₁ → Below W.heap.size W W₁ → K a₁ W₁) →
      assign.wpIn (Fence.wide.inRound l) (n - 1 - 1) P (Exit.then K (fun _ _ _ => False)) { tmps := (ps.zip args).foldl (fun t (p, v) => t.setIfInBounds p v) a.tmps, defers := [] } W)
    (hbody : ∀ (l : Nat) (pre : List α) (x : α) (a₁ : Act) (W : World), Ax pre x a₁ W → w.heap.size + 2 ≤ W.heap.size → body.wpIn (Fence.wide.inRound l) (n - 1 - 1) P (stepPost w.heap.size I Ix (pre ++ [x]) W) a₁ W)
    (hdone : ∀ (xs : List α) (W : World), S xs → I xs W → w.heap.size < W.heap.size → W.heap[w.heap.size]? = some (.deferred (some [])) → Q .normal { a with defers := { target := .collected w.heap.size, args := #[] } :: a.defers } W)
    (hstop : ∀ (pre : List α) (W : World), Ix pre W → w.heap.size < W.heap.size → W.heap[w.heap.size]? = some (.deferred (some [])) → Code.ret.wpIn Fence.wide n P Q { a with defers := { target := .collected w.heap.size, args := #[] } :: a.defers } W) :
    (Code.rangeFunc g ps assign body).wpIn Fence.wide n P Q a w := by
  refine wpIn_rangeFunc ?_
  intro fn hfn
  obtain ⟨rec, hrec⟩ : ∃ rec : LoopState → Option Code → Loop, rec = fun st pe => { state := st, pending := pe, fn, tmps := a.tmps, params := ps, assign, body, defers := w.heap.size } := ⟨_, rfl⟩
  obtain ⟨W1, hW1⟩ : ∃ W1, (w.alloc (.deferred (some []))).alloc (.loop (rec .ready none)) = W1 := ⟨_, rfl⟩
  have hL1 : W1.heap[w.heap.size + 1]? = some (.loop (rec .ready none)) := by
    rw [← hW1]; have := World.alloc_heap_new (w.alloc (.deferred (some []))) (.loop (rec .ready none)); rwa [World.size_alloc] at this
  have hK1 : W1.heap[w.heap.size]? = some (.deferred (some [])) := by
    rw [← hW1]; exact (Below.heap_alloc _ _ _ (by simp)).trans (World.alloc_heap_new w _)
  have hb1 : Below w.heap.size w W1 := by
    rw [← hW1]; exact ((Below.refl _ w).alloc (Nat.le_refl _) _).alloc (by simp) _
  have hsz : W1.heap.size = w.heap.size + 2 := by rw [← hW1]; simp
  have hI1 : I [] W1 := hI _ _ _ h0 hb1
  refine ⟨w.heap.size + 1, [{ target := .collected w.heap.size, args := #[] }], W1, { target := .fn (.func gf) lb, args := #[.func (.yield (w.heap.size + 1)) #[] #[]] }, W1, gf,
    #[.func (.yield (w.heap.size + 1)) #[] #[]] ++ lb, W1, ?_, ?_, ?_, ?_, (fun h => by cases h), ?_⟩
  · rw [← hW1, hrec]; exact run_enterLoop_outer _ _ _ _ _
  · simp only [resolve, hg]
    simp [go_sem]
  · intro f' _; trivial
  · simp [invoke, go_sem, eg]
  · refine (hseq (w.heap.size + 1)
      (fun pre W => I pre W ∧ W.heap[w.heap.size + 1]? = some (.loop (rec .ready none)) ∧ W.heap[w.heap.size]? = some (.deferred (some [])) ∧ w.heap.size + 2 ≤ W.heap.size)
      (fun pre W => Ix pre W ∧ W.heap[w.heap.size + 1]? = some (.loop (rec .done (some .ret))) ∧ W.heap[w.heap.size]? = some (.deferred (some [])) ∧ w.heap.size + 2 ≤ W.heap.size)
      W1 hb1 ?_ ?_ ⟨hI1, hL1, hK1, by omega⟩).mono ?_
    · rintro s A A' ⟨h1, h2, h3, h4⟩ hb
      exact ⟨hI s A A' h1 hb, (hb.block _ (by omega)).trans h2, (hb.block _ (by omega)).trans h3, Nat.le_trans h4 hb.size⟩
    · -- ONE ROUND
      rintro pre x args W ⟨hi, hl, hk, hsW⟩ henc
      have hy := run_yield (P := P) (args := args) hl (by rw [hrec]; exact hps pre x args henc)
      rw [hrec] at hy
      refine ⟨fn, _, assign, body, hy, roundIn_of_wpIn hfn (hassign _ pre x args W _ hi henc hsW ?_)⟩
      intro a₁ W₁ hax hb₁
      have hl₁ := (hb₁.block _ (by omega)).trans hl
      have hk₁ := (hb₁.block _ (by omega)).trans hk
      have hs₁ := Nat.le_trans hsW hb₁.size
      refine ⟨_, run_beginRound hl₁ (by rw [hrec]), ?_⟩
      have hl2 : (W₁.putObj (w.heap.size + 1) (.loop { rec .ready none with state := .busy })).heap[w.heap.size + 1]? = some (.loop { rec .ready none with state := .busy }) := World.putObj_heap_same (by omega)
      have hk2 : (W₁.putObj (w.heap.size + 1) (.loop { rec .ready none with state := .busy })).heap[w.heap.size]? = some (.deferred (some [])) := (World.putObj_heap_other (by omega)).trans hk₁
      refine wpIn_mono (hbody _ pre x a₁ _ (hAx _ _ _ _ _ hax) (by simpa using hs₁)) ?_
      have fin : ∀ (jump : Option Code) (W3 : World), Kept2 w.heap.size (W₁.putObj (w.heap.size + 1) (.loop { rec .ready none with state := .busy })) W3 →
          (Instr.endRound (w.heap.size + 1) jump).run P W3 = .ok (.bool jump.isNone) (W3.putObj (w.heap.size + 1) (.loop (rec (if jump.isNone then .ready else .done) jump))) ∧
          (W3.putObj (w.heap.size + 1) (.loop (rec (if jump.isNone then .ready else .done) jump))).heap[w.heap.size + 1]? = some (.loop (rec (if jump.isNone then .ready else .done) jump)) ∧
          (W3.putObj (w.heap.size + 1) (.loop (rec (if jump.isNone then .ready else .done) jump))).heap[w.heap.size]? = some (.deferred (some [])) ∧ w.heap.size + 2 ≤ W3.heap.size := fun jump W3 hk3 => by
        have hl3 := hk3.b1.trans hl2
        have hd3 := hk3.b0.trans hk2
        have hs3 := hk3.size
        simp only [World.putObj_size] at hs3
        have := run_endRound (P := P) jump hl3
        rw [hrec] at this ⊢
        exact ⟨this, World.putObj_heap_same (by omega), (World.putObj_heap_other (by omega)).trans hd3, by omega⟩
      rintro e a3 W3 hp
      cases e with
      | normal =>
        obtain ⟨hk3, hi3⟩ := hp
        obtain ⟨hr, hl4, hk4, hs4⟩ := fin none W3 hk3
        exact ⟨_, _, hr, .inl ⟨rfl, hIp _ _ _ hi3, hl4, hk4, by simpa using hs4⟩⟩
      | ret =>
        obtain ⟨hk3, hi3⟩ := hp
        obtain ⟨hr, hl4, hk4, hs4⟩ := fin (some .ret) W3 hk3
        exact ⟨_, _, hr, .inr ⟨rfl, hIxp _ _ _ hi3, hl4, hk4, by simpa using hs4⟩⟩
      | exit id => exact hp.elim
      | goto t => exact hp.elim
      | panic ch => exact hp.elim
      | outgrown => exact hp.elim
    · rintro e W2 ⟨⟨v, rfl⟩, (⟨xs, hS, hi, hl, hk, hs⟩ | ⟨pre, hi, hl, hk, hs⟩)⟩
      · exact ⟨none, _, by have := run_endLoop (P := P) hl (by rw [hrec]; simp); rw [hrec] at this; exact this, hdone xs _ hS (hIp _ _ _ hi) (by simp; omega) ((World.putObj_heap_other (by omega)).trans hk)⟩
      · exact ⟨some .ret, _, by have := run_endLoop (P := P) hl (by rw [hrec]; simp); rw [hrec] at this; exact this, hstop pre _ (hIxp _ _ _ hi) (by simp; omega) ((World.putObj_heap_other (by omega)).trans hk)⟩
end Go.Proofs.Ythimjdknafgfbaa
