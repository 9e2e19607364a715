/-
  CONTRACTS of the document's own Same, of the laws' size and frames. Conditions: the texts' sizes.
-/
import Derived.Test.YthimjdknafgfbaaSegScanM
set_option linter.unusedVariables false
namespace Go.Proofs.Ythimjdknafgfbaa
open Go.RowKit

/-- a row of texts that may be read -/
def IsT (W : World) (L : List (List UInt8)) (v : Value) : Prop :=
  ∃ a c, v = .slice a L.length c ∧ L.length ≤ c ∧ ∀ j, j < L.length → ∃ b off, a = some ⟨b, off, none⟩ ∧ b < W.heap.size ∧ W.cell? ⟨b, off + j, none⟩ = some (.string (bOf (L.getD j [])))
theorem OwnT.isT {W : World} {B : Nat} {L : List (List UInt8)} {v : Value} (h : OwnT W B L v) : IsT W L v := by
  rcases h.2 with ⟨rfl, h0⟩ | ⟨g, cap, cur, rfl, hb, hg, hcap, _⟩
  · exact ⟨none, 0, by rw [h0], by omega, fun j hj => by omega⟩
  · refine ⟨_, _, rfl, hcap, fun j hj => ⟨g, 0, rfl, (Array.getElem?_eq_some_iff.1 hg).1, ?_⟩⟩
    have := World.ownsRow.cellAt h j (by omega)
    rw [Nat.zero_add, this]
    unfold valT
    simp [List.getElem?_map, List.getD, List.getElem?_eq_getElem hj]
theorem IsT.keep {W W' : World} {L : List (List UInt8)} {v : Value} (h : IsT W L v) (hb : Below W.heap.size W W') : IsT W' L v := by
  obtain ⟨a, c, rfl, hc, h⟩ := h
  refine ⟨a, c, rfl, hc, fun j hj => ?_⟩
  obtain ⟨b, off, rfl, hlt, hcell⟩ := h j hj
  exact ⟨b, off, rfl, Nat.lt_of_lt_of_le hlt hb.size, (hb.cell (p := ⟨b, off + j, none⟩) hlt).trans hcell⟩
theorem IsT.take {W : World} {L : List (List UInt8)} {a : Option Addr} {n c k : Nat} (h : IsT W L (.slice a n c)) (hk : k ≤ n) : IsT W (L.take k) (.slice a k c) := by
  obtain ⟨a', c', e, hc, h⟩ := h
  injection e with e1 e2 e3
  subst e1 e2 e3
  have hl : (L.take k).length = k := by rw [List.length_take]; omega
  refine ⟨a, c, by rw [hl], by omega, fun j hj => ?_⟩
  rw [hl] at hj
  obtain ⟨b, off, rfl, hlt, hcell⟩ := h j (by omega)
  refine ⟨b, off, rfl, hlt, hcell.trans ?_⟩
  simp [List.getD, List.getElem?_take, hj]
theorem IsT.drop {W : World} {L : List (List UInt8)} {a : Option Addr} {n c k : Nat} (h : IsT W L (.slice a n c)) (hk : k ≤ n) : IsT W (L.drop k) (.slice (if c = k then a else a.map (·.add (k * 1))) (n - k) (c - k)) := by
  obtain ⟨a', c', e, hc, h⟩ := h
  injection e with e1 e2 e3
  subst e1 e2 e3
  have hl : (L.drop k).length = L.length - k := List.length_drop
  refine ⟨_, c - k, by rw [hl], by omega, fun j hj => ?_⟩
  rw [hl] at hj
  obtain ⟨b, off, rfl, hlt, hcell⟩ := h (k + j) (by omega)
  refine ⟨b, off + k, ?_, hlt, ?_⟩
  · rw [if_neg (by omega)]
    unfold Addr.add
    by_cases hk0 : k = 0
    · subst hk0; simp
    · simp [hk0]
  · rw [Nat.add_assoc, hcell]
    simp [List.getD]
theorem same_sz : (Try.prog.info? 9).map (·.size) = some 1 := by kernel_rfl
theorem run_sl {a : Option Addr} {n c : Nat} (lo hi : Option Value) (l h : Nat) (hlo : lo = none ∧ l = 0 ∨ lo = some (.int .i64 (l : Int))) (hhi : hi = none ∧ h = n ∨ hi = some (.int .i64 (h : Int))) (h1 : l ≤ h) (h2 : h ≤ c) (w : World) :
    (Instr.slice 29 (.slice a n c) lo hi none).run Try.prog w = .ok (.slice (if c = l then a else a.map (·.add (l * 1))) (h - l) (c - l)) w := by
  have hs : (sizeOf 9).run Try.prog w = .ok 1 w := by
    have := same_sz
    cases hq : Try.prog.info? 9 with
    | none => simp [hq] at this
    | some x =>
      simp [hq] at this
      simp [sizeOf, typeInfo, hq, this]
  rcases hlo with ⟨rfl, rfl⟩ | rfl <;> rcases hhi with ⟨rfl, rfl⟩ | rfl <;>
    simp [Instr.slice, Instr.sliceBounds, Instr.sliceBound, asIntOf, run_underlying Try.underlying29, hs, go_sem, h1, h2]
theorem run_slHi {a : Option Addr} {n c : Nat} (h : Nat) (h2 : h ≤ c) (w : World) : (Instr.slice 29 (.slice a n c) none (some (.int .i64 (h : Int))) none).run Try.prog w = .ok (.slice a h c) w := by
  rw [run_sl none (some (.int .i64 (h : Int))) 0 h (.inl ⟨rfl, rfl⟩) (.inr rfl) (by omega) h2]
  congr 2
  by_cases e : c = 0
  · rw [if_pos e]
  · rw [if_neg e]
    cases a <;> simp [Addr.add]
theorem run_slLo {a : Option Addr} {n c : Nat} (l : Nat) (h1 : l ≤ n) (h2 : n ≤ c) (w : World) : (Instr.slice 29 (.slice a n c) (some (.int .i64 (l : Int))) none none).run Try.prog w = .ok (.slice (if c = l then a else a.map (·.add (l * 1))) (n - l) (c - l)) w :=
  run_sl (some (.int .i64 (l : Int))) none l n (.inr rfl) (.inl ⟨rfl, rfl⟩) h1 h2 w
set_option maxRecDepth 10000000 in
theorem same_any (L M : List (List UInt8)) (va vb : Value) (w : World) (ha : IsT w L va) (hb : IsT w M vb) (hn : L.length ≤ 1000000000) :
    Calls Try.prog 14 #[va, vb] w fun e w' => e = .returned (.bool (decide (L = M))) ∧ Below w.heap.size w w' := by
  obtain ⟨a, ca, rfl, hca, hA⟩ := ha
  obtain ⟨b, cb, rfl, hcb, hB⟩ := hb
  have acc : Below w.heap.size w w := Below.refl _ _
  by_cases hlen : L.length = M.length
  · have HA := Lib.hid hA
    have HB := Lib.hid hB
    have HM := Lib.hid hlen
    clear hA hB
    rw [← hlen]
    clear hlen
    go_enter Try.func14, Try.ntmps14
    go_wp2
    go_loopw [5] (fun v wr => ∃ k : Nat, v = .int .i64 k ∧ k ≤ L.length ∧ Hid (L.take k = M.take k) ∧ Below w.heap.size w wr) (fun v _ => L.length - (intOf v).toNat)
    case atStart => exact ⟨0, rfl, by omega, Lib.hid rfl, acc⟩
    case round =>
      obtain ⟨k, rfl, hk, hT, hBel⟩ := hrel
      by_cases hlt : k < L.length
      · obtain ⟨b1, o1, rfl, hb1, c1⟩ := HA.out k hlt
        obtain ⟨b2, o2, rfl, hb2, c2⟩ := HB.out k (by rw [← HM.out]; exact hlt)
        have d1 := (hBel.cell (p := ⟨b1, o1 + k, none⟩) hb1).trans c1
        have d2 := (hBel.cell (p := ⟨b2, o2 + k, none⟩) hb2).trans c2
        have hd : decide ((k : Int) < (L.length : Int)) = true := by simp; omega
        have hki : (k : Int) < (L.length : Int) := by omega
        have hk0 : (0 : Int) ≤ (k : Int) := by omega
        have e1 : L.getD k [] = L[k] := by simp [List.getD, hlt]
        have hltM : k < M.length := by rw [← HM.out]; exact hlt
        have e2 : M.getD k [] = M[k] := by simp [List.getD, hltM]
        have hq := raw_eq (bOf (L.getD k [])) (bOf (M.getD k []))
        have HST : L.getD k [] = M.getD k [] → Hid (L.take (k + 1) = M.take (k + 1)) := fun e => Lib.hid (by
          rw [List.take_succ_eq_append_getElem hlt, List.take_succ_eq_append_getElem hltM, hT.out, ← e1, ← e2, e])
        have HNE : L.getD k [] ≠ M.getD k [] → Hid (false = decide (L = M)) := fun e => Lib.hid (by
          symm
          apply decide_eq_false
          intro e3
          apply e
          rw [e3])
        clear e1 e2 c1 c2 hltM
        generalize L.getD k [] = x at *
        generalize M.getD k [] = y at *
        by_cases hxy : x = y
        · have HS := HST hxy
          have hq2 : ((bOf x).toList == (bOf y).toList) = true := by rw [hq, hxy]; simp
          clear hq HST HNE hT hxy hlt
          go_wp2
          go_region
          go_wp2
          go_roundw
          case rel => exact ⟨k + 1, by go_num, by omega, HS, hBel.drew⟩
          case measure => simp [intOf]; omega
        · have HS := HNE hxy
          have hq2 : ((bOf x).toList == (bOf y).toList) = false := by rw [hq]; exact decide_eq_false (fun e => hxy (bOf_inj e))
          clear hq HST HNE hT hxy hlt
          go_wp2
          go_region
          go_wp2
          go_ret
          exact ⟨ret_bool HS.out, hBel.drew⟩
      · have HE : Hid (true = decide (L = M)) := Lib.hid (by
          symm
          apply decide_eq_true
          have h1 : L.take k = L := List.take_of_length_le (by omega)
          have h2 : M.take k = M := List.take_of_length_le (by have := HM.out; omega)
          have := hT.out
          rw [h1, h2] at this
          exact this)
        have hki : ¬ (k : Int) < (L.length : Int) := by omega
        clear hlt hT
        go_wp2
        go_ret
        exact ⟨ret_bool HE.out, hBel⟩
  · have HE : Hid (false = decide (L = M)) := Lib.hid (by
      symm
      apply decide_eq_false
      intro e
      exact hlen (by rw [e]))
    have hli : ((L.length : Int) == (M.length : Int)) = false := beq_false_of_ne (by omega)
    have hlj : ¬ (L.length : Int) = (M.length : Int) := by omega
    clear hA hB hlen
    go_enter Try.func14, Try.ntmps14
    go_wp2
    go_ret
    exact ⟨ret_bool HE.out, acc⟩
end Go.Proofs.Ythimjdknafgfbaa
