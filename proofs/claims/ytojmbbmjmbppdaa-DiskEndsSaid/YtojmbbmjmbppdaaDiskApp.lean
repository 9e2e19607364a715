/-
  APPENDS of bytes: a text's bytes behind a slice that owns its bytes; a slice's behind nil. Where the new slice lies.
-/
import Derived.Test.YtojmbbmjmbppdaaDiskFM
import Derived.Lib.AppendStr
import Derived.Deep.AppendSrc
import Derived.Deep.Upon
set_option linter.unusedVariables false
namespace Go.Proofs.Ytojmbbmjmbppdaa
open Go.RowKit
theorem infoB : (Try.prog.info? 5).map (fun i => (i.zero, i.size, i.bytes)) = some (some (.int .u8 0), 1, 1) := by kernel_rfl
theorem strB (s : ByteArray) : Lib.strCells s = (nB s.data.toList).map (Value.int .u8) := by
  unfold Lib.strCells nB
  rw [List.map_map]
  rfl
/-- a text's bytes behind bytes that are owned -/
theorem app_str (ty : TypeId) (w : World) (v : Value) (l : List UInt8) (s : ByteArray) (h : OB w v l) (hs : l.length + s.size ≤ 140737488355328 - 4096) :
    ∃ v' w', (Builtin.append_ #[65, 9] ty #[v, .string s]).run Try.prog w = .ok v' w' ∧ OB w' v' (l ++ s.data.toList) ∧ w.grownBy w' v.ownBlock ∧ (v'.ownBlock = v.ownBlock ∨ v'.ownBlock = some w.heap.size) := by
  obtain ⟨i, hi, hz, hz1, hz2⟩ := info_parts infoB
  obtain ⟨v', w', hr, ho, hg, hn⟩ := Lib.run_append_own_string (P := Try.prog) w 0 65 9 ty 5 i Try.underlying65 Try.underlying9 hi hz hz1 hz2 v l.length _ h s (by unfold maxLen; omega) (by omega) (Nat.zero_le _)
  refine ⟨v', w', hr, ?_, hg, ?_⟩
  · unfold OB
    rw [List.length_append, nB_app, List.map_append, ← Lib.size_eq, ← strB]
    exact ho
  have hS : Src Try.prog i.size 9 (.string s) s.size (byteCells s) w := by rw [hz1]; exact Src.ofString w Try.underlying9 s
  rcases h.2 with ⟨rfl, h0⟩ | ⟨g, cap, cur, rfl, _, hb, hc1, hc2, hc3, hc4⟩
  · by_cases hm : s.size = 0
    · left
      rw [hn.2 ⟨rfl, hm⟩]
    · right
      have e := run_append_grow_src (P := Try.prog) w 65 9 ty 5 i (.int .u8 0) Try.underlying65 hi hz none 0 0 [] (run_firstCells_none w.drew i.size 0 0 0) (.string s) s.size (byteCells s) hS (by omega) (by omega) (growslice_fits (by omega) (by rw [hz2]; omega))
      rw [e] at hr
      cases hr
      rfl
  · by_cases hroom : l.length + s.size ≤ cap
    · left
      have hlb := byteCells_length s
      have e := run_append_room_src (P := Try.prog) w 65 9 ty 5 i Try.underlying65 hi g 0 l.length cap (.string s) s.size (byteCells s) hS hroom
        (fun j hj => by
          rw [Lib.cell_of_heap hb, hz1, Nat.mul_one, Nat.zero_add]
          have : l.length + j < cur.size := by omega
          simp [this]) (fun j hj => Lib.frozen_of_heap hb _)
      rw [e] at hr
      cases hr
      rfl
    · right
      have e := run_append_grow_src (P := Try.prog) w 65 9 ty 5 i (.int .u8 0) Try.underlying65 hi hz (some ⟨g, 0, none⟩) l.length cap ((nB l).map (Value.int .u8))
        (run_firstCells_some w.drew i.size l.length ⟨g, 0, none⟩ l.length cap _ (by rw [hz1, List.length_map, nB_len, Nat.mul_one]) (fun j u hu => World.ownsRow.cells (g := g) h rfl j u hu)) (.string s) s.size (byteCells s) hS (by omega) (by omega) (growslice_fits (by omega) (by rw [hz2]; omega))
      rw [e] at hr
      cases hr
      rfl
/-- bytes that are owned, behind nil: all new -/
theorem app_nil (ty : TypeId) (w : World) (v : Value) (l : List UInt8) (h : OB w v l) (hs : l.length ≤ 140737488355328 - 4096) :
    ∃ v' w', (Builtin.append_ #[65, 65] ty #[.slice none 0 0, v]).run Try.prog w = .ok v' w' ∧ OB w' v' l ∧ w.grownBy w' none ∧ (v'.ownBlock = none ∨ v'.ownBlock = some w.heap.size) := by
  obtain ⟨i, hi, hz, hz1, hz2⟩ := info_parts infoB
  rcases h.2 with ⟨rfl, h0⟩ | ⟨g, cap, cur, rfl, _, hb, hc1, hc2, hc3, hc4⟩
  · have hl : l = [] := List.eq_nil_of_length_eq_zero h0
    subst hl
    refine ⟨.slice none 0 0, w, ?_, OB.nil w, ⟨rfl, rfl, rfl, Nat.le_refl _, fun _ _ _ => rfl⟩, .inl rfl⟩
    exact run_append_nothing w 65 65 ty 5 i Try.underlying65 hi none 0 0 (Nat.le_refl _) _ (Src.ofNil w Try.underlying65 0)
  · obtain ⟨v', w', hr, ho, hg, hn, hat⟩ := run_append_own_at (P := Try.prog) w 0 65 ty 5 i (.int .u8 0) 1 1 Try.underlying65 hi hz hz1 hz2 rfl (by omega) (.slice none 0 0) 0 [] (World.ownsRow_nil _ _ _ _) ⟨g, 0, none⟩ l.length cap ((nB l).map (Value.int .u8)) (by rw [List.length_map, nB_len, Nat.mul_one]) (fun j u hu => World.ownsRow.cells (g := g) h rfl j u hu) (fun u hu => by
      obtain ⟨z, _, rfl⟩ := List.mem_map.1 hu
      rfl) (by unfold maxLen; omega) (by omega) (Nat.zero_le _)
    rw [Nat.zero_add, List.nil_append] at ho
    exact ⟨v', w', hr, ho, hg, hat⟩
theorem wpList_app {ops : Array Oper} {rest : List Oper} {o : Oper} {a : Act} {Q : Exit → Act → World → Prop} (w : World) (hgd : o.guard = none) (s x : Operand) (t u : TypeId)
    (ho : o.op = .call { callee := .builtin .append, args := #[s, x], argTypes := #[t, u] }) {sv xv v' : Value} {w' : World} (hs : a.eval s = sv) (hx : a.eval x = xv)
    (hr : (Builtin.append_ #[t, u] o.type #[sv, xv]).run Try.prog w = .ok v' w') (h : wpList Try.prog ops Q rest (a.put o.dst v') w') : wpList Try.prog ops Q (o :: rest) a w := by
  refine wpList_plain hgd fun K hK => ?_
  unfold Oper.wp execOp
  simp only [ho, resolve, invoke, builtin, Sem.run_bind, Sem.run_pure, Result.andThen_ok, List.map_toArray, List.map_cons, List.map_nil, hs, hx, hr]
  exact hK _ _ h
theorem copied_any (v : Value) (l : List UInt8) (w : World) (h : OB w v l) (hs : l.length ≤ 140737488355328 - 4096) :
    Calls Try.prog 67 #[v] w fun e w' => ∃ v', e = .returned v' ∧ OB w' v' l ∧ Below w.heap.size w w' ∧ (∀ g, v'.ownBlock = some g → w.heap.size ≤ g) := by
  obtain ⟨a, cap, hv⟩ := h.shape
  obtain ⟨v', w', hr, ho, hg, hat⟩ := app_nil 65 w v l h hs
  rw [hv] at hr ⊢
  go_enter Try.func67, Try.ntmps67
  go_wp2_with (at_builtin; refine wpList_app _ rfl _ _ _ _ rfl rfl rfl hr ?_)
  go_ret
  refine ⟨v', rfl, ho, (Below.refl _ w).grown hg (Nat.le_refl _) (fun j hj => by cases hj), fun g e => ?_⟩
  rcases hat with h1 | h1
  · rw [h1] at e; cases e
  · rw [h1] at e; cases e; exact Nat.le_refl _
end Go.Proofs.Ytojmbbmjmbppdaa
