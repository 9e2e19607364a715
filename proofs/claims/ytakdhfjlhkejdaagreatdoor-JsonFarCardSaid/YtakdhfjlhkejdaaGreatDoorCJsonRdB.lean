/-
  CONTRACT of codicilref02's Reader: blanks, wherever it stands.
-/
import Derived.Test.YtakdhfjlhkejdaaGreatDoorCJsonRd1
set_option linter.unusedSimpArgs false
set_option linter.unusedVariables false
set_option linter.unusedVariables false
set_option linter.unusedSimpArgs false
namespace Go.Proofs.YtakdhfjlhkejdaaGreatDoor
open Go.RowKit
set_option maxRecDepth 10000000 in
set_option maxHeartbeats 8000000 in
theorem rBlanks_far (rb : Nat) (s : ByteArray) (a v fa fe : Nat) (w : World) (h : RS w rb s a v fa fe) (hs : s.size ≤ maxLen) (ha : s.size < a) :
    Calls Tryz.prog 35 #[.pointer (some ⟨rb, 0, none⟩)] w fun e w' => e = .returned (.tuple #[]) ∧ RS w' rb s a v fa fe ∧ GB rb w w' := by
  have hlt : ¬ a < s.size := by omega
  have hge : ¬ ((a : Int) < (s.size : Int)) := by omega
  have hs' := hs
  unfold maxLen at hs'
  clear ha
  go_enter Tryz.func35, Tryz.ntmps35
  go_wp2_with fail
  go_loopg [] 1 (fun k wr => 1 ≤ k ∧ RS wr rb s a v fa fe ∧ GB rb w wr)
  case atStart => exact ⟨Nat.le_refl _, h, GB.refl _ _⟩
  case round =>
    obtain ⟨hk, hR, hG⟩ := hrel
    obtain ⟨c0, c1, c2, c3, c4⟩ := hR.cells
    go_wp2_with fail
    go_quiet (fail)
    go_wp2_with fail
    exact bodyPost_end (results_none rfl _ _ _) rfl ⟨rfl, hR.drewN _, hG.drewN _⟩
theorem rBlanks_all (rb : Nat) (s : ByteArray) (a v fa fe : Nat) (w : World) (h : RS w rb s a v fa fe) (hs : s.size ≤ maxLen) :
    Calls Tryz.prog 35 #[.pointer (some ⟨rb, 0, none⟩)] w fun e w' => e = .returned (.tuple #[]) ∧ (∃ a', RS w' rb s a' v fa fe) ∧ GB rb w w' := by
  by_cases ha : a ≤ s.size
  · exact (rBlanks_any rb s a v fa fe w h hs ha).mono fun e w' ⟨he, hr, hg⟩ => ⟨he, ⟨_, hr⟩, hg⟩
  · exact (rBlanks_far rb s a v fa fe w h hs (by omega)).mono fun e w' ⟨he, hr, hg⟩ => ⟨he, ⟨_, hr⟩, hg⟩
end Go.Proofs.YtakdhfjlhkejdaaGreatDoor
