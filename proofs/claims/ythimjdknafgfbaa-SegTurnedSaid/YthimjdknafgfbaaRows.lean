/-
  No cell of these rows narrows 'for every input' (looked for: loops, veiled, ifaces, maps, wideKeys, modest, calm, conditions, laid).
  DERIVED. THE GIVEN ROWS OF THIS SEAT. 4 by the template 'for every input the law returns true; each argument reads behind the call as it read before'; 0 by the template 'total and deterministic' (their statements: YthimjdknafgfbaaTotals.lean).
  GIVEN WITH THE SEED: the statements are not yours to turn. If you find one false, say at which input.
  Laid BY PROGRAM, IN A SANDBOX (cutbox-rows.mjs): the forced cells as the released guide's own fill.sh prints them over the translation 5d5b201941ad7936… (all of the seat's roots in one cut). By AI agents, Wed Nov 11 2026. No macro, syntax, notation, axiom, sorry.
-/
import Derived.Test.YthimjdknafgfbaaChecked
import GoSem.Claim
import GoSem.ClaimJoined
import GoSem.ClaimMapViews
import Derived.JoinedTies
import Derived.KernelRfl
namespace Go.Proofs.Ythimjdknafgfbaa
/- THE CELL 'sum', in the pinned program and in every row, IS THE sha256 OF THE DUMP (.gsa) THAT YthimjdknafgfbaaProg.lean LOADS. Nothing in Lean hashes anything: it is a label: what it is worth is what the hold of that sum in a sandbox is worth. -/
noncomputable def Try.pinned : Pinned := { name := "ythimjdknafgfbaa", sum := "5d5b201941ad7936848a961ca92ea522b194b8a49d3e8b298d63f2f829ed5359", checked := Try.checked }
namespace Rows
def none {H : Type} : Left H := { results := [], args := [] }

/-- 'codicillaw07.SegTells': WHATEVER THE INPUT: true; the input reads as it did. -/
def segTellsSpec : ChangeSpec := { name := "segTells", fn := fun _ => fun
  | [d1, d2] => { results := [.lit (.bool true)], args := [d1, d2] }
  | _ => none }
def segTellsRow : OpenClaim := { program := "ythimjdknafgfbaa", sum := "5d5b201941ad7936848a961ca92ea522b194b8a49d3e8b298d63f2f829ed5359", func := "codicil/codicillaw07.SegTells", spec := "segTells", unfollowed := true, recurses := true, apart := false }
def SegTellsSaid : Prop := segTellsRow.holds Try.pinned (OpenSpec.ofChange segTellsSpec)

/-- ITS FALSE NEIGHBOUR: 'it returns false'. Refute it at one input. -/
def segTellsWrong : ChangeSpec := { name := "segTells", fn := fun _ => fun
  | [d1, d2] => { results := [.lit (.bool false)], args := [d1, d2] }
  | _ => none }
def SegTellsWrongFalsely : Prop := segTellsRow.holds Try.pinned (OpenSpec.ofChange segTellsWrong)

/-- 'codicillaw07.SegCut': WHATEVER THE INPUT: true; the input reads as it did. -/
def segCutSpec : ChangeSpec := { name := "segCut", fn := fun _ => fun
  | [d1, d2] => { results := [.lit (.bool true)], args := [d1, d2] }
  | _ => none }
def segCutRow : OpenClaim := { program := "ythimjdknafgfbaa", sum := "5d5b201941ad7936848a961ca92ea522b194b8a49d3e8b298d63f2f829ed5359", func := "codicil/codicillaw07.SegCut", spec := "segCut", unfollowed := true, recurses := true, apart := false }
def SegCutSaid : Prop := segCutRow.holds Try.pinned (OpenSpec.ofChange segCutSpec)

/-- ITS FALSE NEIGHBOUR: 'it returns false'. Refute it at one input. -/
def segCutWrong : ChangeSpec := { name := "segCut", fn := fun _ => fun
  | [d1, d2] => { results := [.lit (.bool false)], args := [d1, d2] }
  | _ => none }
def SegCutWrongFalsely : Prop := segCutRow.holds Try.pinned (OpenSpec.ofChange segCutWrong)

/-- 'codicillaw07.SegTurned': WHATEVER THE INPUT: true; the input reads as it did. -/
def segTurnedSpec : ChangeSpec := { name := "segTurned", fn := fun _ => fun
  | [d1, d2, d3] => { results := [.lit (.bool true)], args := [d1, d2, d3] }
  | _ => none }
def segTurnedRow : OpenClaim := { program := "ythimjdknafgfbaa", sum := "5d5b201941ad7936848a961ca92ea522b194b8a49d3e8b298d63f2f829ed5359", func := "codicil/codicillaw07.SegTurned", spec := "segTurned", unfollowed := true, recurses := true, apart := false }
def SegTurnedSaid : Prop := segTurnedRow.holds Try.pinned (OpenSpec.ofChange segTurnedSpec)

/-- ITS FALSE NEIGHBOUR: 'it returns false'. Refute it at one input. -/
def segTurnedWrong : ChangeSpec := { name := "segTurned", fn := fun _ => fun
  | [d1, d2, d3] => { results := [.lit (.bool false)], args := [d1, d2, d3] }
  | _ => none }
def SegTurnedWrongFalsely : Prop := segTurnedRow.holds Try.pinned (OpenSpec.ofChange segTurnedWrong)

/-- 'codicillaw07.SegJoin': WHATEVER THE INPUT: true; the input reads as it did. -/
def segJoinSpec : ChangeSpec := { name := "segJoin", fn := fun _ => fun
  | [d1, d2] => { results := [.lit (.bool true)], args := [d1, d2] }
  | _ => none }
def segJoinRow : OpenClaim := { program := "ythimjdknafgfbaa", sum := "5d5b201941ad7936848a961ca92ea522b194b8a49d3e8b298d63f2f829ed5359", func := "codicil/codicillaw07.SegJoin", spec := "segJoin", unfollowed := true, recurses := true, apart := false }
def SegJoinSaid : Prop := segJoinRow.holds Try.pinned (OpenSpec.ofChange segJoinSpec)

/-- ITS FALSE NEIGHBOUR: 'it returns false'. Refute it at one input. -/
def segJoinWrong : ChangeSpec := { name := "segJoin", fn := fun _ => fun
  | [d1, d2] => { results := [.lit (.bool false)], args := [d1, d2] }
  | _ => none }
def SegJoinWrongFalsely : Prop := segJoinRow.holds Try.pinned (OpenSpec.ofChange segJoinWrong)

/- THE SECOND FORM. 'bulk': how many values and letters a reading holds, each counted each time it is reached (what is shared counts as often as it is met; a slice's spare places count too). A statement '..UptoSaid' is the law's where the arguments, and the package variables that the reading takes, are together of bulk at most 1048576: NARROWER than '..Said'. Prove '..Said' where nothing that the law and all that it calls make is longer than what came in: it says more and counts as full. Else prove '..UptoSaid'. A law counts once. -/
mutual
def uptoBulk {H : Type} : DataW H → Nat
  | .lit (.string bytes) => bytes.length + 1
  | .lit _ => 1
  | .nil => 1
  | .ptr d => uptoBulk d + 1
  | .slice elems spare => uptoBulkAll elems + uptoBulkAll spare + 1
  | .agg parts => uptoBulkAll parts + 1
  | .iface _ d => uptoBulk d + 1
  | .map entries => uptoBulkEntries entries + 1
  | .held _ => 1
def uptoBulkAll {H : Type} : List (DataW H) → Nat
  | [] => 0
  | d :: r => uptoBulk d + uptoBulkAll r
def uptoBulkEntries {H : Type} : List (Lit × DataW H) → Nat
  | [] => 0
  | x :: r => uptoBulkEntry x + uptoBulkEntries r
def uptoBulkEntry {H : Type} : Lit × DataW H → Nat
  | (.string bytes, d) => bytes.length + uptoBulk d + 1
  | (_, d) => uptoBulk d + 1
 end
def uptoSmall : (H : Type) → List (DataW H) → Bool := fun _ ds => decide (uptoBulkAll ds ≤ 1048576)
def OpenSpec.upto (s : _root_.Go.ChangeSpec) : _root_.Go.OpenSpec := { _root_.Go.OpenSpec.ofChange s with cond := some uptoSmall }

/-- 'codicillaw07.SegTells', WHERE WHAT IT READS IS OF BULK AT MOST 1048576: true; the input reads as it did. -/
def segTellsUptoRow : OpenClaim := { program := "ythimjdknafgfbaa", sum := "5d5b201941ad7936848a961ca92ea522b194b8a49d3e8b298d63f2f829ed5359", func := "codicil/codicillaw07.SegTells", spec := "segTells", unfollowed := true, recurses := true, apart := false, narrowed := true }
def SegTellsUptoSaid : Prop := segTellsUptoRow.holds Try.pinned (OpenSpec.upto segTellsSpec)

/-- 'codicillaw07.SegCut', WHERE WHAT IT READS IS OF BULK AT MOST 1048576: true; the input reads as it did. -/
def segCutUptoRow : OpenClaim := { program := "ythimjdknafgfbaa", sum := "5d5b201941ad7936848a961ca92ea522b194b8a49d3e8b298d63f2f829ed5359", func := "codicil/codicillaw07.SegCut", spec := "segCut", unfollowed := true, recurses := true, apart := false, narrowed := true }
def SegCutUptoSaid : Prop := segCutUptoRow.holds Try.pinned (OpenSpec.upto segCutSpec)

/-- 'codicillaw07.SegTurned', WHERE WHAT IT READS IS OF BULK AT MOST 1048576: true; the input reads as it did. -/
def segTurnedUptoRow : OpenClaim := { program := "ythimjdknafgfbaa", sum := "5d5b201941ad7936848a961ca92ea522b194b8a49d3e8b298d63f2f829ed5359", func := "codicil/codicillaw07.SegTurned", spec := "segTurned", unfollowed := true, recurses := true, apart := false, narrowed := true }
def SegTurnedUptoSaid : Prop := segTurnedUptoRow.holds Try.pinned (OpenSpec.upto segTurnedSpec)

/-- 'codicillaw07.SegJoin', WHERE WHAT IT READS IS OF BULK AT MOST 1048576: true; the input reads as it did. -/
def segJoinUptoRow : OpenClaim := { program := "ythimjdknafgfbaa", sum := "5d5b201941ad7936848a961ca92ea522b194b8a49d3e8b298d63f2f829ed5359", func := "codicil/codicillaw07.SegJoin", spec := "segJoin", unfollowed := true, recurses := true, apart := false, narrowed := true }
def SegJoinUptoSaid : Prop := segJoinUptoRow.holds Try.pinned (OpenSpec.upto segJoinSpec)

end Rows
end Go.Proofs.Ythimjdknafgfbaa
