/-
  THE OPERATIONS on files: what each does to names and bytes; the function values that are these operations.
-/
import Derived.Test.YtlkgfimignlgaaaN1
import Derived.Test.YtlkgfimignlgaaaCDiskHas
import Derived.Test.YtlkgfimignlgaaaShelf
set_option linter.unusedSimpArgs false
set_option linter.unusedVariables false
set_option linter.unusedVariables false
namespace Go.Proofs.Ytlkgfimignlgaaa
open Go.RowKit
abbrev Fs := List (ByteArray × List UInt8)
def datF (E : List En) : Fs := E.map fun x => (x.name, x.data)
def eqF (s : ByteArray) (p : ByteArray × List UInt8) : Bool := p.1.data.toList == s.data.toList
def getF (F : Fs) (s : ByteArray) : List UInt8 := match F.find? (eqF s) with
  | some p => p.2
  | none => []
def hasF (F : Fs) (s : ByteArray) : Bool := F.any (eqF s)
def delF (F : Fs) (s : ByteArray) : Fs := F.filter fun p => !eqF s p
def insF (p : ByteArray × List UInt8) : Fs → Fs
  | [] => [p]
  | q :: r => if (litE p.1).before (litE q.1) then p :: q :: r else q :: insF p r
def putF (F : Fs) (s : ByteArray) (l : List UInt8) : Fs := insF (s, l) (delF F s)
def sumF (F : Fs) : Nat := (F.map fun p => p.2.length).sum
theorem dat_getF (E : List En) (s : ByteArray) : getF (datF E) s = bytE E s := by
  unfold getF datF bytE getE
  induction E with
  | nil => rfl
  | cons x r ih =>
    rw [List.map_cons, List.find?_cons, List.find?_cons]
    have e : eqF s (x.name, x.data) = eqE s x := rfl
    rw [e]
    cases eqE s x with
    | true => rfl
    | false => exact ih
theorem dat_hasF (E : List En) (s : ByteArray) : hasF (datF E) s = hasE E s := by
  unfold hasF datF hasE
  rw [List.any_map]
  rfl
theorem dat_delF (E : List En) (s : ByteArray) : datF (delE E s) = delF (datF E) s := by
  unfold datF delE delF
  rw [List.filter_map]
  rfl
theorem dat_insF (x : En) : ∀ E : List En, datF (insE x E) = insF (x.name, x.data) (datF E)
  | [] => rfl
  | y :: r => by
    have ih := dat_insF x r
    unfold datF at ih ⊢
    simp only [insE, List.map_cons, insF]
    split
    · rfl
    · rw [List.map_cons, ih]
theorem dat_putF (E : List En) (x : En) : datF (putE E x) = putF (datF E) x.name x.data := by
  unfold putE putF
  rw [dat_insF, dat_delF]
theorem dat_sumF (E : List En) : sumF (datF E) = sumE E := by
  unfold sumF datF sumE
  rw [List.map_map]
  rfl
theorem dat_len (E : List En) : (datF E).length = E.length := by simp [datF]
inductive Op where
  | app (s d : ByteArray)
  | cut (s : ByteArray) (n : Nat)
  | ren (s t : ByteArray)
  | rem (s : ByteArray)
/-- what an operation does, of which so many bytes are done; 16777217: all -/
def doF (k : Nat) (F : Fs) : Op → Fs
  | .app s d => putF F s (getF F s ++ d.data.toList.take (min k d.size))
  | .cut s n => if k = 16777217 then putF F s ((getF F s).take n) else F
  | .ren s t => if k = 16777217 then putF (delF F s) t (getF F s) else F
  | .rem s => if k = 16777217 then delF F s else F
/-- the blocks of a map and of its rows -/
def Foot (mb : Nat) (E : List En) (j : Nat) : Prop := j = mb ∨ ∃ x ∈ E, x.val.ownBlock = some j
/-- the world but for some blocks -/
structure Turn (w w' : World) (A : Nat → Prop) : Prop where
  os : w'.os = w.os
  tape : w'.tape = w.tape
  output : w'.output = w.output
  size : w.heap.size ≤ w'.heap.size
  block : ∀ j, j < w.heap.size → ¬ A j → w'.heap[j]? = w.heap[j]?
theorem Turn.refl (w : World) (A : Nat → Prop) : Turn w w A := ⟨rfl, rfl, rfl, Nat.le_refl _, fun _ _ _ => rfl⟩
theorem Turn.trans {a b c : World} {A : Nat → Prop} (h : Turn a b A) (k : Turn b c A) : Turn a c A :=
  ⟨k.os.trans h.os, k.tape.trans h.tape, k.output.trans h.output, Nat.le_trans h.size k.size, fun j hj hA => (k.block j (Nat.lt_of_lt_of_le hj h.size) hA).trans (h.block j hj hA)⟩
theorem Turn.grown {a b : World} {A : Nat → Prop} {row : Option Nat} (h : a.grownBy b row) (hA : ∀ j, row = some j → A j) : Turn a b A :=
  ⟨h.os, h.tape, h.output, h.size, fun j hj hn => h.block j hj (fun e => hn (hA j e.symm))⟩
theorem Turn.below {a b : World} {A : Nat → Prop} (h : Below a.heap.size a b) : Turn a b A := ⟨h.os, h.tape, h.output, h.size, fun j hj _ => h.block j hj⟩
/-- what an operation on a map comes to -/
def DoEnd (w : World) (mb : Nat) (E : List En) (F : Fs) (w' : World) : Prop :=
  ∃ E', FM w' mb E' ∧ datF E' = F ∧ Turn w w' (Foot mb E) ∧ ∀ j, Foot mb E' j → Foot mb E j ∨ w.heap.size ≤ j
/-- a cell that holds a captured variable -/
def Cap (w : World) (b : Nat) (t : TypeId) (v : Value) : Prop := w.heap[b]? = some (.cells #[v] t (0, 0))
theorem Cap.cell {w : World} {b : Nat} {t : TypeId} {v : Value} (h : Cap w b t v) : w.cell? ⟨b, 0, none⟩ = some v := by rw [Lib.cell_of_heap h]; rfl
theorem lookB (w : World) (mb : Nat) (E : List En) (s : ByteArray) (h : FM w mb E) (hs : s.size ≤ maxLen) :
    (Instr.lookup 57 (.map (some mb)) (.string s) false).run Try.prog w = .ok (valE E s) w := by
  obtain ⟨v, ps, hr, hv⟩ := h.map.lookup keyLaw Try.underlying57 (zeroB w) (zd := .held (.slice none 0 0)) (zp := []) rfl (keyE hs)
  rw [slot_val hv] at hr
  exact hr
end Go.Proofs.Ytlkgfimignlgaaa
