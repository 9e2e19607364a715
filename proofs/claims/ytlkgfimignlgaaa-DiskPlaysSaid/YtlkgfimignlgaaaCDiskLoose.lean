/-
  WHAT IS LOOSE: a row of function values that are operations. CONTRACT of perform.
-/
import Derived.Test.YtlkgfimignlgaaaCDiskCopy
import Derived.Deep.AppendLies
set_option linter.unusedSimpArgs false
set_option linter.unusedVariables false
set_option linter.unusedVariables false
set_option linter.unusedSimpArgs false
namespace Go.Proofs.Ytlkgfimignlgaaa
open Go.RowKit
theorem infoO : (Try.prog.info? 69).map (fun i => (i.zero, i.size, i.bytes)) = some (some .nilFunc, 1, 8) := by kernel_rfl
/-- function values and the operations that they are -/
def OpVs (w : World) : List Value → List Op → Prop
  | [], [] => True
  | f :: r, op :: l => OpV w f op ∧ OpVs w r l
  | _, _ => False
theorem own_keep {w w' : World} {base : Nat} {e : TypeId} {size n : Nat} {v : Value} {xs : List Value} (h : w.ownsRow base e size v n xs) (hh : ∀ g, v.ownBlock = some g → w'.heap[g]? = w.heap[g]?) : w'.ownsRow base e size v n xs := by
  refine ⟨h.1, ?_⟩
  rcases h.2 with hn | ⟨g, cap, cur, rfl, h1, h2, h3⟩
  · exact .inl hn
  · exact .inr ⟨g, cap, cur, rfl, h1, (hh g rfl).trans h2, h3⟩
structure LV (w : World) (lv : Value) (fs : List Value) (L : List Op) : Prop where
  row : w.ownsRow 0 69 1 lv L.length fs
  ops : OpVs w fs L
theorem OpV.on {w w' : World} {f : Value} {op : Op} (h : OpV w f op) (hk : ∀ b t v, Cap w b t v → t ≠ 5 → t ≠ 69 → Cap w' b t v) : OpV w' f op := by
  have hI : ∀ iv, InV w iv op → InV w' iv op := fun iv hi => by
    cases op with
    | app s d => exact hi
    | cut s n => obtain ⟨b1, b2, e, h1, h2⟩ := hi; exact ⟨b1, b2, e, hk _ _ _ h1 (by decide) (by decide), hk _ _ _ h2 (by decide) (by decide)⟩
    | ren s t => obtain ⟨b1, b2, e, h1, h2⟩ := hi; exact ⟨b1, b2, e, hk _ _ _ h1 (by decide) (by decide), hk _ _ _ h2 (by decide) (by decide)⟩
    | rem s => obtain ⟨b1, e, h1⟩ := hi; exact ⟨b1, e, hk _ _ _ h1 (by decide) (by decide)⟩
  cases op with
  | app s d => obtain ⟨b1, b2, e, h1, h2⟩ := h; exact ⟨b1, b2, e, hk _ _ _ h1 (by decide) (by decide), hk _ _ _ h2 (by decide) (by decide)⟩
  | cut s n => obtain ⟨c, iv, e, h1, h2⟩ := h; exact ⟨c, iv, e, hk _ _ _ h1 (by decide) (by decide), hI iv h2⟩
  | ren s t => obtain ⟨c, iv, e, h1, h2⟩ := h; exact ⟨c, iv, e, hk _ _ _ h1 (by decide) (by decide), hI iv h2⟩
  | rem s => obtain ⟨c, iv, e, h1, h2⟩ := h; exact ⟨c, iv, e, hk _ _ _ h1 (by decide) (by decide), hI iv h2⟩
theorem OpVs.on {w w' : World} (hk : ∀ b t v, Cap w b t v → t ≠ 5 → t ≠ 69 → Cap w' b t v) : ∀ {fs : List Value} {L : List Op}, OpVs w fs L → OpVs w' fs L
  | [], [], _ => trivial
  | f :: r, op :: l, h => ⟨h.1.on hk, OpVs.on hk h.2⟩
  | [], _ :: _, h => h.elim
  | _ :: _, [], h => h.elim
theorem OpVs.snoc {w : World} : ∀ {fs : List Value} {L : List Op} {f : Value} {op : Op}, OpVs w fs L → OpV w f op → OpVs w (fs ++ [f]) (L ++ [op])
  | [], [], _, _, _, hf => ⟨hf, trivial⟩
  | _ :: _, _ :: _, _, _, h, hf => ⟨h.1, OpVs.snoc h.2 hf⟩
  | [], _ :: _, _, _, h, _ => h.elim
  | _ :: _, [], _, _, h, _ => h.elim
/-- what an operation's call on a map leaves of captured variables -/
theorem Turn.cap {w w' : World} {mb : Nat} {E : List En} (h : FM w mb E) (hT : Turn w w' (Foot mb E)) {b : Nat} {t : TypeId} {v : Value} (hc : Cap w b t v) (ht : t ≠ 5) : Cap w' b t v :=
  (hT.block b (Array.getElem?_eq_some_iff.1 hc).1 (cap_foot h hc ht)).trans hc
theorem cells_foot {w : World} {mb b : Nat} {E : List En} {t : TypeId} {cs : Array Value} {p : Nat × Nat} (h : FM w mb E) (hc : w.heap[b]? = some (.cells cs t p)) (ht : t ≠ 5) : ¬ Foot mb E b := by
  rintro (rfl | ⟨x, hx, hxb⟩)
  · obtain ⟨es, clock, hb, _⟩ := h.map
    rw [hb] at hc
    cases hc
  · rcases (h.rows x hx).2 with ⟨hn, _⟩ | ⟨g, cap, cur, hv, _, hg, _⟩
    · rw [hn] at hxb; cases hxb
    · rw [hv] at hxb
      cases hxb
      rw [hg] at hc
      cases hc
      exact ht rfl
theorem Turn.db {w w' : World} {mb db m1 m2 : Nat} {E : List En} {room fuse : Int} {lv : Value} (h : FM w mb E) (hT : Turn w w' (Foot mb E)) (hD : DB w db room fuse m1 m2 lv) : DB w' db room fuse m1 m2 lv :=
  hD.on (hT.block db hD.lt (cells_foot h hD (by decide)))
theorem Turn.lv {w w' : World} {mb : Nat} {E : List En} {lv : Value} {fs : List Value} {L : List Op} (h : FM w mb E) (hT : Turn w w' (Foot mb E)) (hL : LV w lv fs L) : LV w' lv fs L := by
  refine ⟨own_keep hL.row fun g hg => ?_, hL.ops.on fun b t v hc ht _ => hT.cap h hc ht⟩
  rcases hL.row.2 with ⟨hn, _⟩ | ⟨g', cap, cur, hv, _, hgc, _⟩
  · rw [hn] at hg; cases hg
  · rw [hv] at hg
    cases hg
    exact hT.block g' (Array.getElem?_eq_some_iff.1 hgc).1 (cells_foot h hgc (by decide))
end Go.Proofs.Ytlkgfimignlgaaa
