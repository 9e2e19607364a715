/-
  TEXT JsonOpen (seat's own).
-/
import Derived.Test.YtdiopfngabbkdaaGreatDoorN3
import Derived.ChangeSame
import Derived.SliceStrings
import Derived.Deep.Slices
import Derived.OpenShut
set_option linter.unusedSimpArgs false
set_option linter.unusedVariables false
set_option linter.unusedVariables false
namespace Go.Proofs.YtdiopfngabbkdaaGreatDoor
open Go.ChangeShapes Go.WideShapes Go.RowKit
mutual
def bndV : JV → Prop
  | .mk _ t ks l => t.size ≤ maxLen ∧ (∀ k ∈ ks, k.size ≤ maxLen) ∧ ks.length ≤ maxLen ∧ l.length ≤ maxLen ∧ bndL l
def bndL : List JV → Prop
  | [] => True
  | v :: t => bndV v ∧ bndL t
end
theorem bndL_at : ∀ {l : List JV} {i : Nat} {v : JV}, bndL l → l[i]? = some v → bndV v
  | [], _, _, _, h => by simp at h
  | x :: t, 0, v, hb, h => by simp only [bndL] at hb; simp only [List.getElem?_cons_zero, Option.some.injEq] at h; subst h; exact hb.1
  | x :: t, i + 1, v, hb, h => by simp only [bndL] at hb; exact bndL_at hb.2 (by simpa using h)
section
variable {H : Type} {enc : TypeId × Value → H} {w : World} {base : Nat} {spare : Nat → Bool} {held : Bool}
end
end Go.Proofs.YtdiopfngabbkdaaGreatDoor
