/-
  CONTRACTS of rotations: sha.turned, its closure, and the document's turn. No conditions but the count's bounds.
-/
import Derived.Test.YtadeiljhniffjaaProg
import Derived.Test.YtadeiljhniffjaaShaMath
import Derived.WalkKit
import Derived.WalkSpells
import Derived.WalkLawsBesides
import Derived.Lib.Walk
import Derived.Lib.Strings
import Derived.Lib.Hide
import Derived.LoopTactic
import Derived.Outline
namespace Go.Proofs.Ytadeiljhniffjaa
open Go.RowKit

theorem turned_any (x : Int) (w : World) :
    Calls Try.prog 27 #[.int .u32 x] w fun e w' => e = .returned (.func (Fn.func 32) #[] #[.pointer (some ⟨w.heap.size, 0, none⟩)]) ∧ w' = w.alloc (.cells #[.int .u32 x] 30) := by
  have hmf : ∀ (fn : Fn) (first cap : Array Value) (w : World), (Instr.makeFunc fn first cap).run Try.prog w = .ok (.func fn first cap) w := fun _ _ _ _ => rfl
  go_enter Try.func27, Try.ntmps27
  go_wp2
  go_ret
  exact ⟨rfl, rfl⟩

theorem spin_any (x n : Int) (b : Nat) (w : World) (h0 : 0 ≤ n) (h1 : n < 32) (hc : w.cell? ⟨b, 0, none⟩ = some (.int .u32 x)) :
    Calls Try.prog 32 #[.int .i64 n, .pointer (some ⟨b, 0, none⟩)] w fun e w' => e = .returned (.int .u32 (rotI x n)) ∧ w' = w.drew := by
  go_enter Try.func32, Try.ntmps32
  go_wp2
  go_region
  all_goals go_wp2
  all_goals go_ret
  all_goals exact ⟨rfl, rfl⟩

theorem spin_at (x n : Int) (b : Nat) (w w2 : World) (hc : w.cell? ⟨b, 0, none⟩ = some (.int .u32 x)) (hw : w2.heap = w.heap) (h0 : 0 ≤ n) (h1 : n < 32) :
    Calls Try.prog 32 #[.int .i64 n, .pointer (some ⟨b, 0, none⟩)] w2 fun e w' => e = .returned (.int .u32 (rotI x n)) ∧ w' = w2.drew :=
  spin_any x n b w2 h0 h1 (by unfold World.cell? at hc ⊢; rw [hw]; exact hc)

theorem turn_any (x n : Int) (w : World) (h0 : 0 ≤ n) (h1 : n < 32) :
    Calls Try.prog 25 #[.int .u32 x, .int .u64 n] w fun e w' => e = .returned (.int .u32 (rotI x n)) ∧ w = w' := by
  go_enter Try.func25, Try.ntmps25
  go_wp2
  go_ret
  exact ⟨rfl, rfl⟩
end Go.Proofs.Ytadeiljhniffjaa
