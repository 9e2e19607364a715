/-
  TEXT JsonRdW (seat's own).
-/
import Derived.Test.YtdiopfngabbkdaaGreatDoorCJsonRd9
import Derived.Test.YtdiopfngabbkdaaGreatDoorN7
import Derived.Test.YtdiopfngabbkdaaGreatDoorCJsonRSame
set_option linter.unusedSimpArgs false
set_option linter.unusedVariables false
set_option linter.unusedVariables false
set_option linter.unusedSimpArgs false
namespace Go.Proofs.YtdiopfngabbkdaaGreatDoor
open Go.RowKit
mutual
theorem sameR_refl : ∀ v : JV, sameV v v = true
  | .mk k t ks l => by
    rw [sameV_mk, sameRL_refl l]
    simp [alikeB]
theorem sameRL_refl : ∀ l : List JV, sameL l l = true
  | [] => by simp [sameL]
  | v :: t => by simp [sameL, sameR_refl v, sameRL_refl t]
end
mutual
theorem bnd_of : ∀ v : JV, sizeV v ≤ maxLen → keysV v ≤ maxLen → lettV v ≤ maxLen → bndV v
  | .mk k t ks l => fun h1 h2 h3 => by
    simp only [sizeV, keysV, lettV] at h1 h2 h3
    simp only [bndV]
    have := len_sizeL l
    exact ⟨by omega, fun k hk => by have := sumK_mem hk; omega, by omega, by omega, bnd_ofL l (by omega) (by omega) (by omega)⟩
theorem bnd_ofL : ∀ l : List JV, sizeL l ≤ maxLen → keysL l ≤ maxLen → lettL l ≤ maxLen → bndL l
  | [] => fun _ _ _ => by simp [bndL]
  | v :: t => fun h1 h2 h3 => by
    simp only [sizeL, keysL, lettL] at h1 h2 h3
    simp only [bndL]
    exact ⟨bnd_of v (by omega) (by omega) (by omega), bnd_ofL t (by omega) (by omega) (by omega)⟩
end
def vR : Except Fail JV → JV
  | .ok v => v
  | .error _ => .mk 0 noText [] []
def faR : Except Fail JV → Int
  | .ok _ => 0
  | .error (i, _) => (i : Nat)
def feR : Except Fail JV → Int
  | .ok _ => 0
  | .error (_, k) => (k : Nat)
theorem parse_shape {w w' : World} {R : Except Fail JV} {e : Ending} (h : ParseEnd w R e w') : Below w.heap.size w w' ∧ ∃ k t ka kl kc la ll lc, e = .returned (.tuple #[.agg #[.int .u8 (k : Nat), .string t, .slice ka kl kc, .slice la ll lc], .agg #[.int .i64 (faR R), .int .i64 (feR R)]]) ∧ IsV w' w.heap.size (vR R) (.int .u8 (k : Nat)) (.string t) (.slice ka kl kc) (.slice la ll lc) := by
  unfold ParseEnd at h
  rcases R with ⟨i, k⟩ | x
  · obtain ⟨hb, rfl⟩ := h
    exact ⟨hb, 0, ⟨#[]⟩, none, 0, 0, none, 0, 0, rfl, leafV _ 0 ⟨#[]⟩⟩
  · obtain ⟨hb, c0, c1, c2, c3, rfl, hv⟩ := h
    obtain ⟨k0, t0, ka, kl, kc, la, ll, lc, rfl, rfl, rfl, rfl⟩ := hv.shape
    exact ⟨hb, _, _, _, _, _, _, _, _, rfl, hv⟩
end Go.Proofs.YtdiopfngabbkdaaGreatDoor
