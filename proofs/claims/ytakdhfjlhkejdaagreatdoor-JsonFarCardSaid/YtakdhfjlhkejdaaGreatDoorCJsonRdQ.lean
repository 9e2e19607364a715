/-
  MATHEMATICS for codicilref02's array and object: what stands between two of their steps.
-/
import Derived.Test.YtakdhfjlhkejdaaGreatDoorCJsonRd5
import Derived.Test.YtakdhfjlhkejdaaGreatDoorCJsonRCopM
set_option linter.unusedSimpArgs false
set_option linter.unusedVariables false
set_option linter.unusedVariables false
set_option linter.unusedSimpArgs false
namespace Go.Proofs.YtakdhfjlhkejdaaGreatDoor
open Go.RowKit
theorem own_kept {w w' : World} {base : Nat} {e : TypeId} {size n : Nat} {v : Value} {xs : List Value} (h : w.ownsRow base e size v n xs) (hh : ∀ g, v.ownBlock = some g → w'.heap[g]? = w.heap[g]?) : w'.ownsRow base e size v n xs := by
  refine ⟨h.1, ?_⟩
  rcases h.2 with hn | ⟨g, cap, cur, rfl, h1, h2, h3⟩
  · exact .inl hn
  · exact .inr ⟨g, cap, cur, rfl, h1, (hh g rfl).trans h2, h3⟩
/-- hidden: the result's block, the new value's, and the rows of its list and of its keys -/
def hidQ (n : Nat) (lv kv : Value) : Nat → Bool := fun b => b == n || b == n + 1 || some b == lv.ownBlock || some b == kv.ownBlock
theorem hidQ_no {n b : Nat} {lv kv : Value} (h : ¬ hidQ n lv kv b = true) : b ≠ n ∧ b ≠ n + 1 ∧ some b ≠ lv.ownBlock ∧ some b ≠ kv.ownBlock := by
  simp only [hidQ, Bool.or_eq_true, beq_iff_eq, not_or] at h
  exact ⟨h.1.1.1, h.1.1.2, h.1.2, h.2⟩
theorem hidQ_mk {n b : Nat} {lv kv : Value} (h0 : b ≠ n) (h1 : b ≠ n + 1) (h2 : some b ≠ lv.ownBlock) (h3 : some b ≠ kv.ownBlock) : ¬ hidQ n lv kv b = true := by
  simp only [hidQ, Bool.or_eq_true, beq_iff_eq, not_or]
  exact ⟨⟨⟨h0, h1⟩, h2⟩, h3⟩
structure AQ (w0 : World) (rb : Nat) (k : Nat) (wr : World) (ks : List ByteArray) (kv : Value) (l : List JV) (lv : Value) (xs : List Value) : Prop where
  res : RB wr w0.heap.size (.int .u8 0) (.string ⟨#[]⟩) (.slice none 0 0) (.slice none 0 0)
  new : RB wr (w0.heap.size + 1) (.int .u8 (k : Nat)) (.string ⟨#[]⟩) kv lv
  own : wr.ownsRow (w0.heap.size + 2) 26 4 lv l.length xs
  kown : wr.ownsRow (w0.heap.size + 2) 9 1 kv ks.length (ks.map Value.string)
  apart : ∀ g, lv.ownBlock = some g → kv.ownBlock ≠ some g
  items : ItemsOK (hideW wr (hidQ w0.heap.size lv kv)) w0.heap.size l xs
  gb : GB rb w0 wr
  lt : rb < w0.heap.size
section
variable {w0 wr w2 : World} {rb k : Nat} {ks : List ByteArray} {kv lv : Value} {l : List JV} {xs : List Value}
theorem AQ.size (h : AQ w0 rb k wr ks kv l lv xs) : w0.heap.size + 1 < wr.heap.size := h.new.lt
/-- another call of the reader's, or a new block -/
theorem AQ.go (h : AQ w0 rb k wr ks kv l lv xs) (hg : GB rb wr w2) : AQ w0 rb k w2 ks kv l lv xs := by
  have hlt := h.lt
  have hsz := h.size
  have hne : ∀ j, j < wr.heap.size → j ≠ rb → w2.heap[j]? = wr.heap[j]? := fun j hj hn => hg.block j hj (fun e => hn (Option.some.inj e))
  refine ⟨(hne _ (by omega) (by omega)).trans h.res, (hne _ (by omega) (by omega)).trans h.new, own_kept h.own fun g hgb => ?_, own_kept h.kown fun g hgb => ?_, h.apart, h.items.stays ?_, h.gb.trans hg, hlt⟩
  · have := h.own.lt g hgb
    exact hne g this.2 (by omega)
  · have := h.kown.lt g hgb
    exact hne g this.2 (by omega)
  · intro y c hl hy
    rw [hide_cell] at hy ⊢
    split at hy
    · cases hy
    · rename_i hn
      rw [if_neg hn, World.cell?_of_block (hne y.block (cell_lt hy) (by omega))]
      exact hy
theorem AQ.keys (h : AQ w0 rb k wr ks kv l lv xs) : IsKeys wr 0 ks kv := by
  rcases h.kown.2 with ⟨rfl, hn⟩ | ⟨g, cap, cur, rfl, hg, hh, _⟩
  · have : ks = [] := List.length_eq_zero_iff.1 hn
    subst this
    exact ⟨none, 0, rfl, .inl rfl⟩
  · refine ⟨_, _, rfl, .inr ⟨g, 0, rfl, Nat.zero_le _, fun j hj => ?_⟩⟩
    have := World.ownsRow.cellAt h.kown j (by omega)
    rw [Nat.zero_add, this]
    simp [List.getD, List.getElem?_eq_getElem hj]
/-- the list takes a value -/
theorem AQ.item (h : AQ w0 rb k wr ks kv l lv xs) {w3 w4 : World} {x : JV} {c0 c1 c2 c3 : Value} {g cap : Nat}
    (hg : GB rb wr w2) (hV : IsV w2 wr.heap.size x c0 c1 c2 c3) (h23 : Below w2.heap.size w2 w3)
    (hgrow : w3.grownBy w4 lv.ownBlock) (hat : lv.ownBlock = some g ∨ g = w3.heap.size)
    (hown : w4.ownsRow (w0.heap.size + 2) 26 4 (.slice (some ⟨g, 0, none⟩) (l.length + 1) cap) (l.length + 1) (xs ++ [c0, c1, c2, c3])) :
    AQ w0 rb k (w4.setCell ⟨w0.heap.size + 1, 3, none⟩ (.slice (some ⟨g, 0, none⟩) (l.length + 1) cap)) ks kv (l ++ [x]) (.slice (some ⟨g, 0, none⟩) (l.length + 1) cap) (xs ++ [c0, c1, c2, c3]) := by
  have hlt := h.lt
  have hsz := h.size
  have hs1 := hg.size
  have hs2 := h23.size
  have hs3 := hgrow.size
  have hgl := hown.lt g rfl
  have hown0 : ∀ j, lv.ownBlock = some j → w0.heap.size + 2 ≤ j ∧ j < wr.heap.size := h.own.lt
  have hkown0 : ∀ j, kv.ownBlock = some j → w0.heap.size + 2 ≤ j ∧ j < wr.heap.size := h.kown.lt
  have hkg : kv.ownBlock ≠ some g := by
    rcases hat with e | e
    · exact h.apart g e
    · intro e2; have := (hkown0 g e2).2; omega
  have hkey : ∀ j, j < wr.heap.size → j ≠ rb → j ≠ w0.heap.size + 1 → some j ≠ lv.ownBlock → (w4.setCell ⟨w0.heap.size + 1, 3, none⟩ (.slice (some ⟨g, 0, none⟩) (l.length + 1) cap)).heap[j]? = wr.heap[j]? := by
    intro j hj hr h1 h2
    rw [Below.heap_setCell _ _ _ _ h1, hgrow.block j (by omega) h2, h23.block j (by omega), hg.block j hj (fun e => hr (Option.some.inj e))]
  have hlen : (l ++ [x]).length = l.length + 1 := by simp
  have hl1 : ∀ j, some j = lv.ownBlock → w0.heap.size + 2 ≤ j ∧ j < wr.heap.size := fun j e => hown0 j e.symm
  refine ⟨?_, ?_, ?_, ?_, ?_, ?_, ?_, hlt⟩
  · exact (hkey _ (by omega) (by omega) (by omega) (fun e => by have := (hl1 _ e).1; omega)).trans h.res
  · refine RB.set3 (c3 := lv) ?_ _
    exact ((hgrow.block _ (by omega) (fun e => by have := (hl1 _ e).1; omega)).trans ((h23.block _ (by omega)).trans (hg.block _ (by omega) (fun e => by have := Option.some.inj e; omega)))).trans h.new
  · rw [hlen]; exact own_kept hown fun j hj => Below.heap_setCell _ _ _ _ (by show j ≠ w0.heap.size + 1; have e1 : g = j := Option.some.inj hj; have := hgl.1; omega)
  · exact own_kept h.kown fun j hj => hkey j (hkown0 j hj).2 (by have := (hkown0 j hj).1; omega) (by have := (hkown0 j hj).1; omega) (fun e => h.apart j e.symm hj)
  · intro j hj e
    have := Option.some.inj hj
    subst this
    exact hkg e
  · refine ItemsOK.snoc (h.items.stays ?_) (hV.stays ?_ (by omega))
    · intro y c hl hy
      rw [hide_cell] at hy
      split at hy
      · cases hy
      · rename_i hn
        have hyl := cell_lt hy
        obtain ⟨n0, n1, n2, n3⟩ := hidQ_no hn
        have hyg : y.block ≠ g := by
          rcases hat with e | e
          · intro e2; rw [← e2] at e; exact n2 e.symm
          · omega
        have hh : ¬ hidQ w0.heap.size (.slice (some ⟨g, 0, none⟩) (l.length + 1) cap) kv y.block = true := hidQ_mk n0 n1 (fun e => hyg (Option.some.inj e)) n3
        rw [hide_cell, if_neg hh, World.cell?_of_block (hkey y.block hyl (by omega) n1 n2)]
        exact hy
    · intro y c hl hy
      have hyl := cell_lt hy
      have hyg : y.block ≠ g := by
        rcases hat with e | e
        · intro e2; have := (hown0 g e).2; omega
        · omega
      have hh : ¬ hidQ w0.heap.size (.slice (some ⟨g, 0, none⟩) (l.length + 1) cap) kv y.block = true := hidQ_mk (by omega) (by omega) (fun e => hyg (Option.some.inj e)) (fun e => by have := (hkown0 _ e.symm).2; omega)
      rw [hide_cell, if_neg hh]
      rw [World.cell?_of_block (w := w2)]
      · exact hy
      · rw [Below.heap_setCell _ _ _ _ (by simp only; omega), hgrow.block _ (by omega) (fun e => by have := (hl1 _ e).2; omega), h23.block _ hyl]
  · refine ⟨hgrow.os.trans (h23.os.trans (hg.os.trans h.gb.os)), hgrow.tape.trans (h23.tape.trans (hg.tape.trans h.gb.tape)), hgrow.output.trans (h23.output.trans (hg.output.trans h.gb.output)), by have := h.gb.size; rw [set_size]; omega, fun j hj hn => ?_⟩
    have := h.gb.size
    exact (hkey j (by omega) (fun e => hn (by rw [e])) (by omega) (fun e => by have := (hl1 _ e).1; omega)).trans (h.gb.block j hj hn)
/-- the keys take one -/
theorem AQ.key (h : AQ w0 rb k wr ks kv l lv xs) {w3 w4 : World} {t : ByteArray} {g cap : Nat}
    (hg : GB rb wr w2) (h23 : Below w2.heap.size w2 w3)
    (hgrow : w3.grownBy w4 kv.ownBlock) (hat : kv.ownBlock = some g ∨ g = w3.heap.size)
    (hown : w4.ownsRow (w0.heap.size + 2) 9 1 (.slice (some ⟨g, 0, none⟩) (ks.length + 1) cap) (ks.length + 1) (ks.map Value.string ++ [.string t])) :
    AQ w0 rb k (w4.setCell ⟨w0.heap.size + 1, 2, none⟩ (.slice (some ⟨g, 0, none⟩) (ks.length + 1) cap)) (ks ++ [t]) (.slice (some ⟨g, 0, none⟩) (ks.length + 1) cap) l lv xs := by
  have hlt := h.lt
  have hsz := h.size
  have hs1 := hg.size
  have hs2 := h23.size
  have hs3 := hgrow.size
  have hgl := hown.lt g rfl
  have hown0 : ∀ j, lv.ownBlock = some j → w0.heap.size + 2 ≤ j ∧ j < wr.heap.size := h.own.lt
  have hkown0 : ∀ j, kv.ownBlock = some j → w0.heap.size + 2 ≤ j ∧ j < wr.heap.size := h.kown.lt
  have hlg : lv.ownBlock ≠ some g := by
    rcases hat with e | e
    · intro e2; exact h.apart g e2 e
    · intro e2; have := (hown0 g e2).2; omega
  have hkey : ∀ j, j < wr.heap.size → j ≠ rb → j ≠ w0.heap.size + 1 → some j ≠ kv.ownBlock → (w4.setCell ⟨w0.heap.size + 1, 2, none⟩ (.slice (some ⟨g, 0, none⟩) (ks.length + 1) cap)).heap[j]? = wr.heap[j]? := by
    intro j hj hr h1 h2
    rw [Below.heap_setCell _ _ _ _ h1, hgrow.block j (by omega) h2, h23.block j (by omega), hg.block j hj (fun e => hr (Option.some.inj e))]
  have hlen : (ks ++ [t]).length = ks.length + 1 := by simp
  have hl1 : ∀ j, some j = kv.ownBlock → w0.heap.size + 2 ≤ j ∧ j < wr.heap.size := fun j e => hkown0 j e.symm
  refine ⟨?_, ?_, ?_, ?_, ?_, ?_, ?_, hlt⟩
  · exact (hkey _ (by omega) (by omega) (by omega) (fun e => by have := (hl1 _ e).1; omega)).trans h.res
  · have hb : RB w4 (w0.heap.size + 1) (.int .u8 (k : Nat)) (.string ⟨#[]⟩) kv lv := ((hgrow.block _ (by omega) (fun e => by have := (hl1 _ e).1; omega)).trans ((h23.block _ (by omega)).trans (hg.block _ (by omega) (fun e => by have := Option.some.inj e; omega)))).trans h.new
    exact hb.s2 _
  · exact own_kept h.own fun j hj => hkey j (hown0 j hj).2 (by have := (hown0 j hj).1; omega) (by have := (hown0 j hj).1; omega) (fun e => h.apart j hj e.symm)
  · rw [hlen, List.map_append]; exact own_kept hown fun j hj => Below.heap_setCell _ _ _ _ (by show j ≠ w0.heap.size + 1; have e1 : g = j := Option.some.inj hj; have := hgl.1; omega)
  · intro j hj e
    have := Option.some.inj e
    subst this
    exact hlg hj
  · refine h.items.stays ?_
    intro y c hl hy
    rw [hide_cell] at hy
    split at hy
    · cases hy
    · rename_i hn
      have hyl := cell_lt hy
      obtain ⟨n0, n1, n2, n3⟩ := hidQ_no hn
      have hyg : y.block ≠ g := by
        rcases hat with e | e
        · intro e2; rw [← e2] at e; exact n3 e.symm
        · omega
      have hh : ¬ hidQ w0.heap.size lv (.slice (some ⟨g, 0, none⟩) (ks.length + 1) cap) y.block = true := hidQ_mk n0 n1 n2 (fun e => hyg (Option.some.inj e))
      rw [hide_cell, if_neg hh, World.cell?_of_block (hkey y.block hyl (by omega) n1 n3)]
      exact hy
  · refine ⟨hgrow.os.trans (h23.os.trans (hg.os.trans h.gb.os)), hgrow.tape.trans (h23.tape.trans (hg.tape.trans h.gb.tape)), hgrow.output.trans (h23.output.trans (hg.output.trans h.gb.output)), by have := h.gb.size; rw [set_size]; omega, fun j hj hn => ?_⟩
    have := h.gb.size
    exact (hkey j (by omega) (fun e => hn (by rw [e])) (by omega) (fun e => by have := (hl1 _ e).1; omega)).trans (h.gb.block j hj hn)
theorem AQ.done (h : AQ w0 rb k wr ks kv l lv xs) {w' : World} (hw : ∀ j, j ≠ w0.heap.size → w'.heap[j]? = wr.heap[j]?) : IsV w' w0.heap.size (.mk k noText ks l) (.int .u8 (k : Nat)) (.string ⟨#[]⟩) kv lv := by
  have hst : Stays 0 (hideW wr (hidQ w0.heap.size lv kv)) w' := by
    intro y c _ hy
    rw [hide_cell] at hy
    split at hy
    · cases hy
    · rename_i hn
      rw [World.cell?_of_block (hw y.block (hidQ_no hn).1)]
      exact hy
  simp only [IsV]
  refine ⟨trivial, rfl, ?_, ?_⟩
  · rcases h.kown.2 with ⟨rfl, hn⟩ | ⟨g, cap, cur, rfl, hg, hh, _⟩
    · have : ks = [] := List.length_eq_zero_iff.1 hn
      subst this
      exact ⟨none, 0, rfl, .inl rfl⟩
    · refine ⟨_, _, rfl, .inr ⟨g, 0, rfl, by omega, fun j hj => ?_⟩⟩
      have := World.ownsRow.cellAt h.kown j (by omega)
      rw [Nat.zero_add, World.cell?_of_block (hw g (by omega)), this]
      simp [List.getD, List.getElem?_eq_getElem hj]
  · rcases h.own.2 with ⟨rfl, hn⟩ | ⟨g, cap, cur, rfl, hg, hh, _⟩
    · have : l = [] := List.length_eq_zero_iff.1 hn
      subst this
      exact ⟨none, 0, rfl, .inl rfl⟩
    · refine ⟨_, _, rfl, .inr ⟨g, 0, rfl, by omega, ?_⟩⟩
      refine ItemsOK.row l xs 0 (h.items.stays fun y c _ hy => hst y c (Nat.zero_le _) hy) fun j u hu => ?_
      rw [Nat.zero_add, World.cell?_of_block (hw g (by omega))]
      exact own_cellAt h.own j u hu
end
end Go.Proofs.YtakdhfjlhkejdaaGreatDoor
