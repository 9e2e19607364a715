/-
  THE MATHEMATICS OF codicilref02.Copy: what holds between two parts of a list that is copied.
-/
import Derived.Test.YtakdhfjlhkejdaaGreatDoorN3
import Derived.Test.YtakdhfjlhkejdaaGreatDoorN6
import Derived.Deep.Upon
import Derived.Deep.AppendSrc
import Derived.Deep.AppendLies
set_option linter.unusedSimpArgs false
set_option linter.unusedVariables false
set_option linter.unusedVariables false
namespace Go.Proofs.YtakdhfjlhkejdaaGreatDoor
open Go.RowKit

/-- hidden: the result's block, the new value's, and the row of its list -/
def hidR (rv h3 : Nat) (lv : Value) : Nat → Bool := fun b => b == rv || b == h3 || some b == lv.ownBlock
structure RC (w0 : World) (O1 : Obj) (h3 : Nat) (k : Nat) (t : ByteArray) (ks : List ByteArray) (c2 : Value) (wr : World) (l : List JV) (lv : Value) (xs : List Value) : Prop where
  bx : wr.heap[w0.heap.size]? = some O1
  res : RB wr (w0.heap.size + 1) (.int .u8 0) (.string ⟨#[]⟩) (.slice none 0 0) (.slice none 0 0)
  new : RB wr h3 (.int .u8 (k : Nat)) (.string t) c2 lv
  own : wr.ownsRow (w0.heap.size + 2) 26 4 lv l.length xs
  far : lv.ownBlock ≠ some h3
  lo : w0.heap.size + 2 ≤ h3
  keys : IsKeys (hideW wr (hidR (w0.heap.size + 1) h3 lv)) w0.heap.size ks c2
  items : ItemsOK (hideW wr (hidR (w0.heap.size + 1) h3 lv)) w0.heap.size l xs
  bel : Below w0.heap.size w0 wr

theorem RC.next {w0 : World} {O1 : Obj} {h3 k : Nat} {t : ByteArray} {ks : List ByteArray} {c2 : Value} {wr : World} {l : List JV} {lp : Option Addr} {lc : Nat} {xs : List Value}
    (h : RC w0 O1 h3 k t ks c2 wr l (.slice lp l.length lc) xs) {w2 w3 w4 : World} {x : JV} {c0 c1 c2' c3 : Value} {g cap : Nat}
    (hb : Below wr.heap.size wr w2) (hV : IsV w2 wr.heap.size x c0 c1 c2' c3) (h23 : Below w2.heap.size w2 w3)
    (hgrow : w3.grownBy w4 (Value.slice lp l.length lc).ownBlock) (hat : (Value.slice lp l.length lc).ownBlock = some g ∨ g = w3.heap.size)
    (hown : w4.ownsRow (w0.heap.size + 2) 26 4 (.slice (some ⟨g, 0, none⟩) (l.length + 1) cap) (l.length + 1) (xs ++ [c0, c1, c2', c3])) :
    RC w0 O1 h3 k t ks c2 (w4.setCell ⟨h3, 3, none⟩ (.slice (some ⟨g, 0, none⟩) (l.length + 1) cap)) (l ++ [x]) (.slice (some ⟨g, 0, none⟩) (l.length + 1) cap) (xs ++ [c0, c1, c2', c3]) := by
  have hlo := h.lo
  have hnl := h.new.lt
  have hrl := h.res.lt
  have hgl := hown.lt g rfl
  have hs1 := hb.size
  have hs2 := h23.size
  have hs3 := hgrow.size
  have hs0 := h.bel.size
  have hown0 : ∀ j, (Value.slice lp l.length lc).ownBlock = some j → w0.heap.size + 2 ≤ j ∧ j < wr.heap.size := h.own.lt
  have hgh : g ≠ h3 := by
    rcases hat with e | e
    · intro e2; subst e2; exact h.far e
    · omega
  have hkey : ∀ j, j < wr.heap.size → j ≠ h3 → some j ≠ (Value.slice lp l.length lc).ownBlock → (w4.setCell ⟨h3, 3, none⟩ (.slice (some ⟨g, 0, none⟩) (l.length + 1) cap)).heap[j]? = wr.heap[j]? := by
    intro j hj h1 h2
    rw [Below.heap_setCell _ _ _ _ h1, hgrow.block j (by omega) h2, h23.block j (by omega), hb.block j hj]
  have hst : Stays 0 (hideW wr (hidR (w0.heap.size + 1) h3 (.slice lp l.length lc))) (hideW (w4.setCell ⟨h3, 3, none⟩ (.slice (some ⟨g, 0, none⟩) (l.length + 1) cap)) (hidR (w0.heap.size + 1) h3 (.slice (some ⟨g, 0, none⟩) (l.length + 1) cap))) := by
    intro y c _ hy
    rw [hide_cell] at hy
    split at hy
    · cases hy
    · rename_i hn
      have hyl := cell_lt hy
      simp only [hidR, Bool.or_eq_true, beq_iff_eq, not_or] at hn
      have hyg : y.block ≠ g := by
        rcases hat with e | e
        · intro e2; rw [← e2] at e; exact hn.2 e.symm
        · omega
      rw [hide_cell, if_neg (by simp only [hidR, Bool.or_eq_true, beq_iff_eq, not_or]; exact ⟨hn.1, fun e => hyg (Option.some.inj e)⟩), World.cell?_of_block (hkey y.block hyl hn.1.2 hn.2)]
      exact hy
  have hlen : (l ++ [x]).length = l.length + 1 := by simp
  refine ⟨?_, ?_, ?_, ?_, ?_, hlo, ?_, ?_, ?_⟩
  · exact (hkey _ (by omega) (by omega) (fun e => by have := (hown0 _ e.symm).1; omega)).trans h.bx
  · exact (hkey _ hrl (by omega) (fun e => by have := (hown0 _ e.symm).1; omega)).trans h.res
  · refine RB.set3 (c3 := .slice lp l.length lc) ?_ _
    exact ((hgrow.block h3 (by omega) (fun e => h.far e.symm)).trans ((h23.block h3 (by omega)).trans (hb.block h3 hnl))).trans h.new
  · rw [hlen]; exact own_eq hown (Below.heap_setCell _ _ _ _ hgh)
  · exact fun e => hgh (Option.some.inj e)
  · exact h.keys.stays (fun y c _ hy => hst y c (Nat.zero_le _) hy) (Nat.le_refl _)
  · refine ItemsOK.snoc (h.items.stays fun y c _ hy => hst y c (Nat.zero_le _) hy) (hV.stays ?_ (by omega))
    intro y c hl hy
    have hyl := cell_lt hy
    have hyg : y.block ≠ g := by
      rcases hat with e | e
      · intro e2; have := (hown0 g e).2; omega
      · omega
    rw [hide_cell, if_neg (by simp only [hidR, Bool.or_eq_true, beq_iff_eq, not_or]; exact ⟨⟨by omega, by omega⟩, fun e => hyg (Option.some.inj e)⟩)]
    rw [World.cell?_of_block (w := w2)]
    · exact hy
    · rw [Below.heap_setCell _ _ _ _ (by simp only; omega), hgrow.block _ (by omega) (fun e => by have := (hown0 _ e.symm).2; omega), h23.block _ hyl]
  · have k0 := (h.bel.trans (hb.mono hs0)).trans (h23.mono (by omega))
    exact (k0.grown hgrow (by omega) (fun j e => by have := (hown0 j e).1; omega)).setCell (by simp only; omega) _
theorem RC.done {w0 : World} {O1 : Obj} {h3 k : Nat} {t : ByteArray} {ks : List ByteArray} {c2 : Value} {wr : World} {l : List JV} {lv : Value} {xs : List Value} (h : RC w0 O1 h3 k t ks c2 wr l lv xs)
    {w' : World} (hw : ∀ j, j ≠ w0.heap.size + 1 → w'.heap[j]? = wr.heap[j]?) : IsV w' w0.heap.size (.mk k t ks l) (.int .u8 (k : Nat)) (.string t) c2 lv := by
  have hst : Stays 0 (hideW wr (hidR (w0.heap.size + 1) h3 lv)) w' := by
    intro y c _ hy
    rw [hide_cell] at hy
    split at hy
    · cases hy
    · rename_i hn
      simp only [hidR, Bool.or_eq_true, beq_iff_eq, not_or] at hn
      rw [World.cell?_of_block (hw y.block hn.1.1)]
      exact hy
  simp only [IsV]
  refine ⟨trivial, trivial, h.keys.stays (fun y c _ hy => hst y c (Nat.zero_le _) hy) (Nat.le_refl _), ?_⟩
  rcases h.own.2 with ⟨rfl, hn⟩ | ⟨g, cap, cur, rfl, hg, hh, _⟩
  · have : l = [] := List.length_eq_zero_iff.1 hn
    subst this
    exact ⟨none, 0, rfl, .inl rfl⟩
  · refine ⟨_, _, rfl, .inr ⟨g, 0, rfl, by omega, ?_⟩⟩
    refine ItemsOK.row l xs 0 (h.items.stays fun y c _ hy => hst y c (Nat.zero_le _) hy) fun j u hu => ?_
    rw [Nat.zero_add, World.cell?_of_block (hw g (by have := hg; omega))]
    exact own_cellAt h.own j u hu
theorem RB.set4 {w : World} {rb : Nat} {c0 c1 c2 c3 : Value} (h : RB w rb c0 c1 c2 c3) (x0 x1 x2 x3 : Value) :
    RB ((((w.setCell ⟨rb, 0, none⟩ x0).setCell ⟨rb, 1, none⟩ x1).setCell ⟨rb, 2, none⟩ x2).setCell ⟨rb, 3, none⟩ x3) rb x0 x1 x2 x3 := by
  unfold RB at *
  unfold World.setCell
  simp [Array.getElem?_modify, h]
theorem RC.start {w0 : World} {O1 : Obj} {h3 k : Nat} {t : ByteArray} {ks : List ByteArray} {c2 : Value} {wr w1 : World} {Hd : Nat → Bool}
    (bx : wr.heap[w0.heap.size]? = some O1) (res : RB wr (w0.heap.size + 1) (.int .u8 0) (.string ⟨#[]⟩) (.slice none 0 0) (.slice none 0 0)) (new : RB wr h3 (.int .u8 (k : Nat)) (.string t) c2 (.slice none 0 0))
    (lo : w0.heap.size + 2 ≤ h3) (keys : IsKeys (hideW w1 Hd) (w0.heap.size + 2) ks c2) (hd : Hd (w0.heap.size + 1) = true) (hst : ∀ j, j < w1.heap.size → Hd j = false → j ≠ h3 ∧ wr.heap[j]? = w1.heap[j]?) (bel : Below w0.heap.size w0 wr) :
    RC w0 O1 h3 k t ks c2 wr [] (.slice none 0 0) [] := by
  refine ⟨bx, res, new, ⟨rfl, .inl ⟨rfl, rfl⟩⟩, by simp [Value.ownBlock], lo, keys.stays ?_ (by omega), ItemsOK.nil _ _, bel⟩
  intro y c hl hy
  rw [hide_cell] at hy
  split at hy
  · cases hy
  · rename_i hn
    have hn' : Hd y.block = false := by simpa using hn
    have hj := hst y.block (cell_lt hy) hn'
    rw [hide_cell, if_neg (by simp only [hidR, Bool.or_eq_true, beq_iff_eq, not_or]; exact ⟨⟨by omega, hj.1⟩, by simp [Value.ownBlock]⟩), World.cell?_of_block hj.2]
    exact hy
/-- append([]string{}, keys...), as one step of a region that draws its order -/
theorem step_keys {ops : Array Oper} {o : Oper} {a : Act} {w : World} {K : Act → World → Prop} {Q : Exit → Act → World → Prop} {E : Prop}
    (hg : o.guard = none) (s x : Operand) (hop : o.op = Op.call { callee := Callee.builtin Builtin.append, args := #[s, x], argTypes := #[23, 23] })
    (b4 lo : Nat) (hs : a.eval s = .slice (some ⟨b4, 0, none⟩) 0 0) (hB : w.heap[b4]? = some (.cells #[] 9 (0, 0))) (ka : Option Addr) (ks : List ByteArray) (kp : Nat) (hx : a.eval x = .slice ka ks.length kp)
    (hk : IsKeys w 0 ks (.slice ka ks.length kp)) (hlo : lo ≤ b4) (hn : ks.length ≤ 1000000000000) (Hd : Nat → Bool) (hd1 : Hd b4 = false) (hd2 : Hd w.heap.size = false)
    (hK : ∀ a2 cap w', IsKeys (hideW w' Hd) lo ks (.slice a2 ks.length cap) → w.grownBy w' (some b4) → K (a.put o.dst (.slice a2 ks.length cap)) w') :
    if Region.wanted o (yielded ops a.tmps) = true then Oper.wp Tryz.prog o a w K Q else E := by
  obtain ⟨i0, hi0, hz0, hz1, hz2⟩ := info_parts infoString
  have hb4 : b4 < w.heap.size := (Array.getElem?_eq_some_iff.1 hB).1
  rcases Nat.eq_zero_or_pos ks.length with h0 | h0
  · have hw : Region.wanted o (yielded ops a.tmps) = true := by simp [Region.wanted, hg]
    rw [if_pos hw]
    have hsrc : Src Tryz.prog i0.size 23 (.slice ka ks.length kp) 0 [] w := by
      rw [h0]
      cases ka with
      | none => exact Src.ofNil w Tryz.underlying23 kp
      | some ad => exact Src.ofSlice w Tryz.underlying23 ad 0 kp [] (by simp) (by simp) (by simp)
    have hrun := fun ty => run_append_nothing (P := Tryz.prog) w 23 23 ty 9 i0 Tryz.underlying23 hi0 (some ⟨b4, 0, none⟩) 0 0 (Nat.le_refl _) (.slice ka ks.length kp) hsrc
    have e : ks = [] := List.length_eq_zero_iff.1 h0
    have hK' := hK (some ⟨b4, 0, none⟩) 0 w ⟨_, _, rfl, .inl e⟩ (World.grownBy.refl w _)
    rw [h0] at hK'
    unfold Oper.wp
    simp [execOp, hop, resolve, invoke, builtin, hs, hx, hrun, Result.andThen]
    exact hK'
  · obtain ⟨kb, ko, rfl, hkc⟩ : ∃ b off, ka = some ⟨b, off, none⟩ ∧ ∀ j, j < ks.length → w.cell? ⟨b, off + j, none⟩ = some (.string (ks.getD j ByteArray.empty)) := by
      obtain ⟨_, _, e, h⟩ := hk
      simp only [Value.slice.injEq] at e
      obtain ⟨rfl, _, _⟩ := e
      rcases h with rfl | ⟨b, off, rfl, _, h⟩
      · simp at h0
      · exact ⟨b, off, rfl, h⟩
    refine step_append_lies w hg s x _ hop lo 9 i0 _ 1 16 Tryz.underlying23 hi0 hz0 hz1 hz2 rfl (by omega) (.slice (some ⟨b4, 0, none⟩) 0 0) 0 [] hs ⟨rfl, .inr ⟨b4, 0, #[], rfl, hlo, hB, Nat.le_refl _, Nat.zero_le _, rfl, rfl⟩⟩
      ⟨kb, ko, none⟩ ks.length kp (ks.map .string) hx (by simp) ?_ ?_ h0 (by unfold maxLen; omega) (by omega) (by omega) w.heap.size rfl ?_
    · intro j u hj
      have hadd : (⟨kb, ko, none⟩ : Addr).add j = ⟨kb, ko + j, none⟩ := by unfold Addr.add; split <;> simp_all
      rw [hadd]
      rw [List.getElem?_map] at hj
      have hjl : j < ks.length := by
        rcases Nat.lt_or_ge j ks.length with h | h
        · exact h
        · rw [List.getElem?_eq_none h] at hj; cases hj
      rw [hkc j hjl, ← hj, List.getElem?_eq_getElem hjl, List.getD_eq_getElem?_getD, List.getElem?_eq_getElem hjl]
      rfl
    · intro u hu
      obtain ⟨y, _, rfl⟩ := List.mem_map.1 hu
      rfl
    · intro g cap w' hown hgrow hat hlt
      rw [Nat.zero_add] at hown ⊢
      refine hK _ _ _ ⟨_, _, rfl, .inr ⟨g, 0, rfl, (hown.lt g rfl).1, fun j hj => ?_⟩⟩ hgrow
      have hgd : Hd g = false := by
        rcases hat with e | e
        · cases e; exact hd1
        · rw [e]; exact hd2
      rw [hide_cell, if_neg (by simp [hgd]), Nat.zero_add]
      exact own_cellAt hown j _ (by rw [List.nil_append, List.getElem?_map, List.getElem?_eq_getElem hj]; rw [List.getD_eq_getElem?_getD, List.getElem?_eq_getElem hj]; rfl)
end Go.Proofs.YtakdhfjlhkejdaaGreatDoor
