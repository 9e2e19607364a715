/-
  MATHEMATICS of package disk's maps: entries of names, slices and bytes; what the map's datum is behind a look-up, a store, a delete. No conditions.
-/
import Derived.Test.YtojmbbmjmbppdaaProg
import Derived.Test.YtojmbbmjmbppdaaRows
import Derived.WalkKit
import Derived.WalkSpells
import Derived.WalkLawsBesides
import Derived.Lib.Walk
import Derived.Lib.Strings
import Derived.Lib.Hide
import Derived.LoopTactic
import Derived.Outline
import Derived.Laws.OwnMore
import Derived.OwnWalk
import Derived.BigRegion
import Derived.BigQuiet
import Derived.Maps.OwnSet
set_option linter.unusedVariables false
namespace Go.Proofs.Ytojmbbmjmbppdaa
open Go.RowKit
/-- an entry: a name, the slice that stands there, its bytes -/
structure En where
  name : ByteArray
  val : Value
  data : List UInt8
/-- how a slice reads in the map: as itself, in whatever world -/
def slotE (v : Value) : Option (DataW Value × List MemPlace) := some (.held v, [])
def litE (s : ByteArray) : Lit := .string s.data.toList
def pairE (x : En) : Lit × DataW Value := (litE x.name, .held x.val)
def datE (E : List En) : DataW Value := .map (E.map pairE)
def eqE (s : ByteArray) (x : En) : Bool := x.name.data.toList == s.data.toList
def getE (E : List En) (s : ByteArray) : Option En := E.find? (eqE s)
def hasE (E : List En) (s : ByteArray) : Bool := E.any (eqE s)
def delE (E : List En) (s : ByteArray) : List En := E.filter fun x => !eqE s x
def insE (x : En) : List En → List En
  | [] => [x]
  | y :: r => if (litE x.name).before (litE y.name) then x :: y :: r else y :: insE x r
def putE (E : List En) (x : En) : List En := insE x (delE E x.name)
/-- what stands at a name: nil where nothing does -/
def valE (E : List En) (s : ByteArray) : Value := match getE E s with
  | some x => x.val
  | none => .slice none 0 0
def bytE (E : List En) (s : ByteArray) : List UInt8 := match getE E s with
  | some x => x.data
  | none => []
theorem same_pair (s : ByteArray) (x : En) : (pairE x).1.sameKey (litE s) = eqE s x := rfl
theorem dat_at (E : List En) (s : ByteArray) : (datE E).atKey (litE s) (.held (.slice none 0 0)) = .held (valE E s) := by
  unfold datE DataW.atKey valE getE
  simp only
  induction E with
  | nil => rfl
  | cons x r ih =>
    rw [List.map_cons, List.find?_cons, List.find?_cons, same_pair]
    cases eqE s x with
    | true => rfl
    | false => exact ih
theorem dat_has (E : List En) (s : ByteArray) : Maps.has (datE E) (litE s) = hasE E s := by
  unfold datE Maps.has hasE
  simp only
  rw [List.any_map]
  rfl
theorem dat_size (E : List En) : Maps.size (datE E) = E.length := by
  unfold datE Maps.size
  simp
theorem filter_pair (E : List En) (s : ByteArray) : (E.map pairE).filter (fun p => !p.1.sameKey (litE s)) = (delE E s).map pairE := by
  unfold delE
  rw [List.filter_map]
  rfl
theorem dat_del (E : List En) (s : ByteArray) : (datE E).del (litE s) = datE (delE E s) := by
  unfold datE DataW.del
  simp only
  rw [filter_pair]
theorem ins_pair (x : En) : ∀ E : List En, DataW.insert (pairE x) (E.map pairE) = (insE x E).map pairE
  | [] => rfl
  | y :: r => by
    have ih := ins_pair x r
    simp only [List.map_cons, insE]
    unfold DataW.insert
    have e : (pairE x).1.before (pairE y).1 = (litE x.name).before (litE y.name) := rfl
    rw [e]
    split
    · rfl
    · rw [ih]; rfl
theorem dat_put (E : List En) (x : En) : (datE E).put (litE x.name) (.held x.val) = datE (putE E x) := by
  unfold datE DataW.put putE
  simp only
  rw [filter_pair]
  exact congrArg DataW.map (ins_pair x _)
theorem has_get (E : List En) (s : ByteArray) : hasE E s = (getE E s).isSome := by
  unfold hasE getE
  induction E with
  | nil => rfl
  | cons x r ih =>
    rw [List.any_cons, List.find?_cons]
    cases eqE s x with
    | true => rfl
    | false => simpa using ih
theorem mem_ins {x y : En} : ∀ {E : List En}, y ∈ insE x E ↔ y = x ∨ y ∈ E
  | [] => by simp [insE]
  | z :: r => by
    simp only [insE]
    split
    · simp
    · rw [List.mem_cons, mem_ins, List.mem_cons]
      exact ⟨fun h => by rcases h with h | h | h <;> simp [h], fun h => by rcases h with h | h | h <;> simp [h]⟩
theorem mem_del {y : En} {s : ByteArray} {E : List En} : y ∈ delE E s ↔ y ∈ E ∧ eqE s y = false := by
  unfold delE
  rw [List.mem_filter]
  simp
theorem mem_put {x y : En} {E : List En} : y ∈ putE E x ↔ y = x ∨ (y ∈ E ∧ eqE x.name y = false) := by
  unfold putE
  rw [mem_ins, mem_del]
theorem get_mem {E : List En} {s : ByteArray} {x : En} (h : getE E s = some x) : x ∈ E ∧ eqE s x = true := ⟨List.mem_of_find?_eq_some h, List.find?_some h⟩
theorem eq_name {s : ByteArray} {x : En} (h : eqE s x = true) : x.name = s := by
  unfold eqE at h
  have h2 : x.name.data.toList = s.data.toList := by simpa using h
  exact ByteArray.ext (Array.toList_inj.1 h2)
theorem pair_ins {R : En → En → Prop} (hs : ∀ a b, R a b → R b a) {x : En} : ∀ {E : List En}, E.Pairwise R → (∀ y ∈ E, R x y) → (insE x E).Pairwise R
  | [], _, _ => by simp [insE]
  | z :: r, h, hx => by
    simp only [insE]
    split
    · exact List.Pairwise.cons hx h
    · rw [List.pairwise_cons] at h ⊢
      refine ⟨fun y hy => ?_, pair_ins hs h.2 fun y hy => hx y (List.mem_cons_of_mem _ hy)⟩
      rcases mem_ins.1 hy with rfl | hy
      · exact hs _ _ (hx z (by simp))
      · exact h.1 y hy
theorem pair_put {R : En → En → Prop} (hs : ∀ a b, R a b → R b a) {x : En} {E : List En} (h : E.Pairwise R) (hx : ∀ y ∈ E, eqE x.name y = false → R x y) : (putE E x).Pairwise R :=
  pair_ins hs (h.sublist List.filter_sublist) fun y hy => hx y (mem_del.1 hy).1 (mem_del.1 hy).2
theorem pair_del {R : En → En → Prop} {E : List En} (h : E.Pairwise R) (s : ByteArray) : (delE E s).Pairwise R := h.sublist List.filter_sublist
end Go.Proofs.Ytojmbbmjmbppdaa
