/-
  CONTRACT of disk.beginning: the first n bytes of what is owned, in the same row or in a new one.
-/
import Derived.Test.YtojmbbmjmbppdaaDiskApp
import Derived.IntWalk
set_option linter.unusedVariables false
namespace Go.Proofs.Ytojmbbmjmbppdaa
open Go.RowKit
/-- a beginning, in the same row -/
theorem OB.take {w : World} {g cap : Nat} {l : List UInt8} (h : OB w (.slice (some ⟨g, 0, none⟩) l.length cap) l) {n : Nat} (hn : n ≤ l.length) : OB w (.slice (some ⟨g, 0, none⟩) n cap) (l.take n) := by
  have hl : (l.take n).length = n := by rw [List.length_take]; omega
  unfold OB
  rw [hl]
  refine ⟨by rw [List.length_map, nB_len, hl, Nat.mul_one], ?_⟩
  rcases h.2 with ⟨e, _⟩ | ⟨g', cap', cur, e, h1, h2, h3, h4, h5, h6⟩
  · cases e
  · cases e
    refine .inr ⟨g, cap, cur, rfl, h1, h2, by omega, h4, h5, ?_⟩
    have e2 : cur.toList.take (n * 1) = (cur.toList.take (l.length * 1)).take n := by
      rw [List.take_take]
      congr 1
      omega
    rw [e2, h6]
    unfold nB
    rw [List.map_take, List.map_take]
theorem beg_any (v : Value) (l : List UInt8) (n : Nat) (w : World) (h : OB w v l) (hs : l.length ≤ 1000000000) (hn : n ≤ l.length) :
    Calls Try.prog 61 #[v, .int .i64 (n : Nat)] w fun e w' => ∃ v', e = .returned v' ∧ OB w' v' (l.take n) ∧ Below w.heap.size w w' ∧ (∀ g, v'.ownBlock = some g → v.ownBlock = some g ∨ w.heap.size ≤ g) := by
  rcases h.2 with ⟨rfl, h0⟩ | ⟨g, cap, cur, rfl, _, _, hc1, hc2, _⟩
  · have hl : l = [] := List.eq_nil_of_length_eq_zero h0
    subst hl
    have hn0 : n = 0 := by simpa using hn
    subst hn0
    go_enter Try.func61, Try.ntmps61
    go_wp2_with fail
    go_ret
    exact ⟨_, rfl, OB.nil w, Below.refl _ _, fun g hg => .inl hg⟩
  · have ht := h.take hn
    have hnc : (n : Int) ≤ (cap : Int) := by omega
    unfold maxLen at hc2
    have hwq : wrap64 ((cap : Int) / 2) = (cap : Int) / 2 := by
      unfold wrap64
      omega
    have cC := copied_any _ _ w ht (by rw [List.length_take]; omega)
    by_cases hq : (n : Int) < (cap : Int) / 2
    · go_enter Try.func61, Try.ntmps61
      go_wp2_with (go_at_call 67; refine cC.mono ?_; rintro e w1 ⟨v', rfl, ho, hb, hg⟩)
      go_ret
      exact ⟨v', rfl, ho, hb, fun g hg' => .inr (hg g hg')⟩
    · go_enter Try.func61, Try.ntmps61
      go_wp2_with fail
      go_ret
      exact ⟨_, rfl, ht, Below.refl _ _, fun g hg' => .inl hg'⟩
end Go.Proofs.Ytojmbbmjmbppdaa
