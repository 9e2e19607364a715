/-
  TEXTS OF THE SEAT, put together: LaidJ.
-/
import Derived.Test.YtdjlneanjnhfjaaGreatDoorRows
import Derived.Test.YtdjlneanjnhfjaaGreatDoorN7
import Derived.ChangeSame
import Derived.ChangeVars
import Derived.JoinedOf
import Derived.RowKitTokens
import Derived.LaidLaws
import Derived.LaidHandle
import Derived.Stop.Joined
set_option linter.unusedSimpArgs false
set_option linter.unusedVariables false

/-
  THE LAID VARIABLES of the json rows: the library's two error variables and three tables, as the program's text lays them: what a walk needs of them; a world that meets the condition.
-/
namespace Go.Proofs.YtdjlneanjnhfjaaGreatDoor
open Go.ChangeShapes Go.WideShapes Go.RowKit
def laidL : List (String × DataW Unit) := [("math/bits.deBruijn32tab", Rows.laid_math_bits_deBruijn32tab), ("math/bits.deBruijn64tab", Rows.laid_math_bits_deBruijn64tab), ("internal/strconv.uint64pow10", Rows.laid_internal_strconv_uint64pow10), ("strconv.ErrRange", Rows.laid_strconv_ErrRange), ("strconv.ErrSyntax", Rows.laid_strconv_ErrSyntax)]
theorem glob_syn : Tryz.prog.globalNamed "strconv.ErrSyntax" = some 1 := by kernel_rfl
theorem glob_rng : Tryz.prog.globalNamed "strconv.ErrRange" = some 2 := by kernel_rfl
theorem gtyp_syn : (Tryz.prog.globals[1]?).map (·.type) = some 78 := by kernel_rfl
theorem gtyp_rng : (Tryz.prog.globals[2]?).map (·.type) = some 78 := by kernel_rfl
theorem vars_of_laid {W : World} (h : laidMet Tryz.prog laidL W) : Vars W := by
  obtain ⟨ps, ⟨ga, ta, csa, fa, pa, qa, hga, hta, hva, hda, ⟨gb, tb, csb, fb, pb, qb, hgb, htb, hvb, hdb, ⟨gc, tc, csc, fc, pc, qc, hgc, htc, hvc, hdc, ⟨gd, td, csd, fd, pd, qd, hgd, htd, hvd, hdd, ⟨ge, te, cse, fe, pe, qe, hge, hte, hve, hde, _⟩, _⟩, _⟩, _⟩, _⟩, hnd, hrows⟩ := h
  obtain rfl := Option.some.inj (glob_rng.symm.trans hgd)
  obtain rfl := Option.some.inj (glob_syn.symm.trans hge)
  obtain rfl := Option.some.inj (gtyp_rng.symm.trans htd)
  obtain rfl := Option.some.inj (gtyp_syn.symm.trans hte)
  obtain ⟨_, u1, v1, e1, _⟩ := iface_of_trod Tryz.underlying78 hdd
  obtain ⟨_, u2, v2, e2, _⟩ := iface_of_trod Tryz.underlying78 hde
  obtain ⟨l1⟩ := csd
  obtain ⟨l2⟩ := cse
  simp only at e1 e2
  subst e1
  subst e2
  have c1 : W.cell? ⟨2, 0, none⟩ = some (.iface u1 v1) := by simpa using World.var?_cell glob_rng hvd 0
  have c2 : W.cell? ⟨1, 0, none⟩ = some (.iface u2 v2) := by simpa using World.var?_cell glob_syn hve 0
  exact ⟨⟨u2, v2, c2⟩, ⟨u1, v1, c1⟩, World.block_lt_of_cell? W _ c2, World.block_lt_of_cell? W _ c1⟩
def intsOf : DataW Unit → List Value
  | .agg ds => ds.map fun | .lit (.int k n) => .int k n | _ => undef
  | _ => []
noncomputable def laidLow : Nat := (World.holding Tryz.prog default ⟨#[], #[], []⟩).heap.size
def putCells (h : Array Obj) (g : Nat) (cs : Array Value) : Array Obj := h.modify g fun
  | .cells _ t frozen => .cells cs t frozen
  | o => o
/-- A world that meets the condition: the settled one, the variables' cells laid. -/
noncomputable def laidWorld (os : Os) : World :=
  let w0 := World.holding Tryz.prog os ⟨#[.cells #[.string ⟨#[118, 97, 108, 117, 101, 32, 111, 117, 116, 32, 111, 102, 32, 114, 97, 110, 103, 101]⟩] 152, .cells #[.string ⟨#[105, 110, 118, 97, 108, 105, 100, 32, 115, 121, 110, 116, 97, 120]⟩] 152], #[], []⟩
  { w0 with heap := putCells (putCells (putCells (putCells (putCells w0.heap 2 #[.iface 150 (.pointer (some ⟨laidLow, 0, none⟩))]) 1 #[.iface 150 (.pointer (some ⟨laidLow + 1, 0, none⟩))])
      4 (intsOf Rows.laid_math_bits_deBruijn32tab).toArray) 5 (intsOf Rows.laid_math_bits_deBruijn64tab).toArray) 3 (intsOf Rows.laid_internal_strconv_uint64pow10).toArray }
theorem laidWorld_met (os : Os) (args : Array Value) : laidMet Tryz.prog laidL ((laidWorld os).forCall (fun _ _ => 0) ⟨#[], args, []⟩).memory :=
  laidMet_of_run' 8 (by kernel_rfl) (by kernel_rfl)
end Go.Proofs.YtdjlneanjnhfjaaGreatDoor
