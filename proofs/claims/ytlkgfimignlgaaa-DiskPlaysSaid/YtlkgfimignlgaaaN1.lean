/-
  TEXTS OF THE SEAT, put together: DiskEn, DiskFM, DiskApp, DiskBeg.
-/
import Derived.Test.YtlkgfimignlgaaaProg
import Derived.Test.YtlkgfimignlgaaaRows
import Derived.WalkKit
import Derived.WalkSpells
import Derived.WalkLawsBesides
import Derived.Lib.Walk
import Derived.Lib.Strings
import Derived.Lib.Hide
import Derived.LoopTactic
import Derived.Outline
import Derived.Laws.OwnMore
import Derived.OwnWalk
import Derived.BigRegion
import Derived.BigQuiet
import Derived.Maps.OwnSet
import Derived.Maps.RangeWalk
import Derived.Maps.AppendAt
import Derived.Lib.AppendStr
import Derived.Deep.AppendSrc
import Derived.Deep.Upon
import Derived.IntWalk
set_option linter.unusedSimpArgs false
set_option linter.unusedVariables false

/-
  MATHEMATICS of package disk's maps: entries of names, slices and bytes; what the map's datum is behind a look-up, a store, a delete. No conditions.
-/
set_option linter.unusedVariables false
namespace Go.Proofs.Ytlkgfimignlgaaa
open Go.RowKit
/-- an entry: a name, the slice that stands there, its bytes -/
structure En where
  name : ByteArray
  val : Value
  data : List UInt8
/-- how a slice reads in the map: as itself, in whatever world -/
def slotE (v : Value) : Option (DataW Value × List MemPlace) := some (.held v, [])
def litE (s : ByteArray) : Lit := .string s.data.toList
def pairE (x : En) : Lit × DataW Value := (litE x.name, .held x.val)
def datE (E : List En) : DataW Value := .map (E.map pairE)
def eqE (s : ByteArray) (x : En) : Bool := x.name.data.toList == s.data.toList
def getE (E : List En) (s : ByteArray) : Option En := E.find? (eqE s)
def hasE (E : List En) (s : ByteArray) : Bool := E.any (eqE s)
def delE (E : List En) (s : ByteArray) : List En := E.filter fun x => !eqE s x
def insE (x : En) : List En → List En
  | [] => [x]
  | y :: r => if (litE x.name).before (litE y.name) then x :: y :: r else y :: insE x r
def putE (E : List En) (x : En) : List En := insE x (delE E x.name)
/-- what stands at a name: nil where nothing does -/
def valE (E : List En) (s : ByteArray) : Value := match getE E s with
  | some x => x.val
  | none => .slice none 0 0
def bytE (E : List En) (s : ByteArray) : List UInt8 := match getE E s with
  | some x => x.data
  | none => []
theorem same_pair (s : ByteArray) (x : En) : (pairE x).1.sameKey (litE s) = eqE s x := rfl
theorem dat_at (E : List En) (s : ByteArray) : (datE E).atKey (litE s) (.held (.slice none 0 0)) = .held (valE E s) := by
  unfold datE DataW.atKey valE getE
  simp only
  induction E with
  | nil => rfl
  | cons x r ih =>
    rw [List.map_cons, List.find?_cons, List.find?_cons, same_pair]
    cases eqE s x with
    | true => rfl
    | false => exact ih
theorem dat_has (E : List En) (s : ByteArray) : Maps.has (datE E) (litE s) = hasE E s := by
  unfold datE Maps.has hasE
  simp only
  rw [List.any_map]
  rfl
theorem dat_size (E : List En) : Maps.size (datE E) = E.length := by
  unfold datE Maps.size
  simp
theorem filter_pair (E : List En) (s : ByteArray) : (E.map pairE).filter (fun p => !p.1.sameKey (litE s)) = (delE E s).map pairE := by
  unfold delE
  rw [List.filter_map]
  rfl
theorem dat_del (E : List En) (s : ByteArray) : (datE E).del (litE s) = datE (delE E s) := by
  unfold datE DataW.del
  simp only
  rw [filter_pair]
theorem ins_pair (x : En) : ∀ E : List En, DataW.insert (pairE x) (E.map pairE) = (insE x E).map pairE
  | [] => rfl
  | y :: r => by
    have ih := ins_pair x r
    simp only [List.map_cons, insE]
    unfold DataW.insert
    have e : (pairE x).1.before (pairE y).1 = (litE x.name).before (litE y.name) := rfl
    rw [e]
    split
    · rfl
    · rw [ih]; rfl
theorem dat_put (E : List En) (x : En) : (datE E).put (litE x.name) (.held x.val) = datE (putE E x) := by
  unfold datE DataW.put putE
  simp only
  rw [filter_pair]
  exact congrArg DataW.map (ins_pair x _)
theorem has_get (E : List En) (s : ByteArray) : hasE E s = (getE E s).isSome := by
  unfold hasE getE
  induction E with
  | nil => rfl
  | cons x r ih =>
    rw [List.any_cons, List.find?_cons]
    cases eqE s x with
    | true => rfl
    | false => simpa using ih
theorem mem_ins {x y : En} : ∀ {E : List En}, y ∈ insE x E ↔ y = x ∨ y ∈ E
  | [] => by simp [insE]
  | z :: r => by
    simp only [insE]
    split
    · simp
    · rw [List.mem_cons, mem_ins, List.mem_cons]
      exact ⟨fun h => by rcases h with h | h | h <;> simp [h], fun h => by rcases h with h | h | h <;> simp [h]⟩
theorem mem_del {y : En} {s : ByteArray} {E : List En} : y ∈ delE E s ↔ y ∈ E ∧ eqE s y = false := by
  unfold delE
  rw [List.mem_filter]
  simp
theorem mem_put {x y : En} {E : List En} : y ∈ putE E x ↔ y = x ∨ (y ∈ E ∧ eqE x.name y = false) := by
  unfold putE
  rw [mem_ins, mem_del]
theorem get_mem {E : List En} {s : ByteArray} {x : En} (h : getE E s = some x) : x ∈ E ∧ eqE s x = true := ⟨List.mem_of_find?_eq_some h, List.find?_some h⟩
theorem eq_name {s : ByteArray} {x : En} (h : eqE s x = true) : x.name = s := by
  unfold eqE at h
  have h2 : x.name.data.toList = s.data.toList := by simpa using h
  exact ByteArray.ext (Array.toList_inj.1 h2)
theorem pair_ins {R : En → En → Prop} (hs : ∀ a b, R a b → R b a) {x : En} : ∀ {E : List En}, E.Pairwise R → (∀ y ∈ E, R x y) → (insE x E).Pairwise R
  | [], _, _ => by simp [insE]
  | z :: r, h, hx => by
    simp only [insE]
    split
    · exact List.Pairwise.cons hx h
    · rw [List.pairwise_cons] at h ⊢
      refine ⟨fun y hy => ?_, pair_ins hs h.2 fun y hy => hx y (List.mem_cons_of_mem _ hy)⟩
      rcases mem_ins.1 hy with rfl | hy
      · exact hs _ _ (hx z (by simp))
      · exact h.1 y hy
theorem pair_put {R : En → En → Prop} (hs : ∀ a b, R a b → R b a) {x : En} {E : List En} (h : E.Pairwise R) (hx : ∀ y ∈ E, eqE x.name y = false → R x y) : (putE E x).Pairwise R :=
  pair_ins hs (h.sublist List.filter_sublist) fun y hy => hx y (mem_del.1 hy).1 (mem_del.1 hy).2
theorem pair_del {R : En → En → Prop} {E : List En} (h : E.Pairwise R) (s : ByteArray) : (delE E s).Pairwise R := h.sublist List.filter_sublist
end Go.Proofs.Ytlkgfimignlgaaa

/-
  FILES IN A MAP: a block that is a map of names to slices, each of which owns its bytes, no two in one row. What each operation on the map leaves. No conditions.
-/
set_option linter.unusedVariables false
namespace Go.Proofs.Ytlkgfimignlgaaa
open Go.RowKit
def nB (l : List UInt8) : List Int := l.map fun b => ((b.toNat : Nat) : Int)
theorem nB_len (l : List UInt8) : (nB l).length = l.length := by simp [nB]
theorem nB_app (l m : List UInt8) : nB (l ++ m) = nB l ++ nB m := by simp [nB]
/-- v owns the bytes l -/
def OB (w : World) (v : Value) (l : List UInt8) : Prop := w.ownsRow 0 5 1 v l.length ((nB l).map (Value.int .u8))
theorem OB.nil (w : World) : OB w (.slice none 0 0) [] := World.ownsRow_nil _ _ _ _
theorem OB.lt {w : World} {v : Value} {l : List UInt8} (h : OB w v l) {g : Nat} (hg : v.ownBlock = some g) : g < w.heap.size := (World.ownsRow.lt h g hg).2
theorem OB.keep {w w' : World} {v : Value} {l : List UInt8} (h : OB w v l) (hb : ∀ g, v.ownBlock = some g → w'.heap[g]? = w.heap[g]?) : OB w' v l := by
  refine ⟨h.1, ?_⟩
  rcases h.2 with hn | ⟨g, cap, cur, rfl, h1, h2, h3⟩
  · exact .inl hn
  · exact .inr ⟨g, cap, cur, rfl, h1, (hb g rfl).trans h2, h3⟩
theorem OB.shape {w : World} {v : Value} {l : List UInt8} (h : OB w v l) : ∃ a cap, v = .slice a l.length cap := by
  rcases h.2 with ⟨rfl, hn⟩ | ⟨g, cap, cur, rfl, _⟩
  · rw [hn]; exact ⟨none, 0, rfl⟩
  · exact ⟨_, _, rfl⟩
/-- two values own nothing together -/
def Apart (u v : Value) : Prop := ∀ g, u.ownBlock = some g → v.ownBlock ≠ some g
theorem Apart.symm {u v : Value} (h : Apart u v) : Apart v u := fun g hv hu => h g hu hv
structure FM (w : World) (mb : Nat) (E : List En) : Prop where
  map : w.ownsMap Try.prog 9 slotE mb E.length (datE E)
  rows : ∀ x ∈ E, OB w x.val x.data
  apart : E.Pairwise fun x y => Apart x.val y.val
section
variable {w w' : World} {mb n : Nat} {E : List En}
theorem tight {m : Nat} (h : w.ownsMap Try.prog 9 slotE mb m (datE E)) : w.ownsMap Try.prog 9 slotE mb E.length (datE E) := by
  obtain ⟨es, clock, hb, F, hs, hD⟩ := h
  refine ⟨es, clock, hb, F, ?_, hD⟩
  have h1 := congrArg Maps.size hD
  rw [dat_size] at h1
  simp only [Maps.size, length_sorted, List.length_map, Array.length_toList] at h1
  omega
theorem FM.lt (h : FM w mb E) : mb < w.heap.size := h.map.lt
theorem FM.ne (h : FM w mb E) {x : En} (hx : x ∈ E) : x.val.ownBlock ≠ some mb := by
  intro e
  obtain ⟨es, clock, hb, _⟩ := h.map
  rcases (h.rows x hx).2 with ⟨hn, _⟩ | ⟨g, cap, cur, hv, _, hg, _⟩
  · rw [hn] at e; cases e
  · rw [hv] at e
    cases e
    rw [hb] at hg
    cases hg
/-- nothing of the map's, nor of its rows', has turned -/
theorem FM.keep (h : FM w mb E) (hm : w'.heap[mb]? = w.heap[mb]?) (hr : ∀ x ∈ E, ∀ g, x.val.ownBlock = some g → w'.heap[g]? = w.heap[g]?) : FM w' mb E := by
  refine ⟨?_, fun x hx => (h.rows x hx).keep (hr x hx), h.apart⟩
  obtain ⟨es, clock, hb, F, hs, hD⟩ := h.map
  exact ⟨es, clock, hm.trans hb, F, hs, hD⟩
theorem FM.below (h : FM w mb E) (hb : Below w.heap.size w w') : FM w' mb E :=
  h.keep (hb.block mb h.lt) fun x hx g hg => hb.block g ((h.rows x hx).lt hg)
theorem get_rows (h : FM w mb E) (s : ByteArray) : OB w (valE E s) (bytE E s) := by
  unfold valE bytE
  cases hg : getE E s with
  | none => exact OB.nil w
  | some x => exact h.rows x (get_mem hg).1
/-- behind a store of a slice that owns its bytes, apart from all others -/
theorem FM.put (h : FM w mb E) {x : En} {m : Nat} (hm : w'.ownsMap Try.prog 9 slotE mb m (datE (putE E x))) (hx : OB w' x.val x.data)
    (hr : ∀ y ∈ E, eqE x.name y = false → (∀ g, y.val.ownBlock = some g → w'.heap[g]? = w.heap[g]?) ∧ Apart x.val y.val) : FM w' mb (putE E x) := by
  refine ⟨tight hm, fun y hy => ?_, pair_put (fun a b h => h.symm) h.apart fun y hy he => (hr y hy he).2⟩
  rcases mem_put.1 hy with rfl | ⟨hy, he⟩
  · exact hx
  · exact (h.rows y hy).keep (hr y hy he).1
theorem FM.del (h : FM w mb E) {s : ByteArray} {m : Nat} (hm : w'.ownsMap Try.prog 9 slotE mb m (datE (delE E s)))
    (hr : ∀ y ∈ E, ∀ g, y.val.ownBlock = some g → w'.heap[g]? = w.heap[g]?) : FM w' mb (delE E s) :=
  ⟨tight hm, fun y hy => (h.rows y (mem_del.1 hy).1).keep (hr y (mem_del.1 hy).1), pair_del h.apart s⟩
/-- a map that is made -/
theorem FM.made (w : World) : FM (w.alloc (.map #[] 0)) w.heap.size [] :=
  ⟨World.ownsMap_made w Try.prog 9 slotE, (fun x hx => by cases hx), List.Pairwise.nil⟩
end
end Go.Proofs.Ytlkgfimignlgaaa

/-
  APPENDS of bytes: a text's bytes behind a slice that owns its bytes; a slice's behind nil. Where the new slice lies.
-/
set_option linter.unusedVariables false
namespace Go.Proofs.Ytlkgfimignlgaaa
open Go.RowKit
theorem infoB : (Try.prog.info? 5).map (fun i => (i.zero, i.size, i.bytes)) = some (some (.int .u8 0), 1, 1) := by kernel_rfl
theorem strB (s : ByteArray) : Lib.strCells s = (nB s.data.toList).map (Value.int .u8) := by
  unfold Lib.strCells nB
  rw [List.map_map]
  rfl
/-- a text's bytes behind bytes that are owned -/
theorem app_str (ty : TypeId) (w : World) (v : Value) (l : List UInt8) (s : ByteArray) (h : OB w v l) (hs : l.length + s.size ≤ 140737488355328 - 4096) :
    ∃ v' w', (Builtin.append_ #[65, 9] ty #[v, .string s]).run Try.prog w = .ok v' w' ∧ OB w' v' (l ++ s.data.toList) ∧ w.grownBy w' v.ownBlock ∧ (v'.ownBlock = v.ownBlock ∨ v'.ownBlock = some w.heap.size) := by
  obtain ⟨i, hi, hz, hz1, hz2⟩ := info_parts infoB
  obtain ⟨v', w', hr, ho, hg, hn⟩ := Lib.run_append_own_string (P := Try.prog) w 0 65 9 ty 5 i Try.underlying65 Try.underlying9 hi hz hz1 hz2 v l.length _ h s (by unfold maxLen; omega) (by omega) (Nat.zero_le _)
  refine ⟨v', w', hr, ?_, hg, ?_⟩
  · unfold OB
    rw [List.length_append, nB_app, List.map_append, ← Lib.size_eq, ← strB]
    exact ho
  have hS : Src Try.prog i.size 9 (.string s) s.size (byteCells s) w := by rw [hz1]; exact Src.ofString w Try.underlying9 s
  rcases h.2 with ⟨rfl, h0⟩ | ⟨g, cap, cur, rfl, _, hb, hc1, hc2, hc3, hc4⟩
  · by_cases hm : s.size = 0
    · left
      rw [hn.2 ⟨rfl, hm⟩]
    · right
      have e := run_append_grow_src (P := Try.prog) w 65 9 ty 5 i (.int .u8 0) Try.underlying65 hi hz none 0 0 [] (run_firstCells_none w.drew i.size 0 0 0) (.string s) s.size (byteCells s) hS (by omega) (by omega) (growslice_fits (by omega) (by rw [hz2]; omega))
      rw [e] at hr
      cases hr
      rfl
  · by_cases hroom : l.length + s.size ≤ cap
    · left
      have hlb := byteCells_length s
      have e := run_append_room_src (P := Try.prog) w 65 9 ty 5 i Try.underlying65 hi g 0 l.length cap (.string s) s.size (byteCells s) hS hroom
        (fun j hj => by
          rw [Lib.cell_of_heap hb, hz1, Nat.mul_one, Nat.zero_add]
          have : l.length + j < cur.size := by omega
          simp [this]) (fun j hj => Lib.frozen_of_heap hb _)
      rw [e] at hr
      cases hr
      rfl
    · right
      have e := run_append_grow_src (P := Try.prog) w 65 9 ty 5 i (.int .u8 0) Try.underlying65 hi hz (some ⟨g, 0, none⟩) l.length cap ((nB l).map (Value.int .u8))
        (run_firstCells_some w.drew i.size l.length ⟨g, 0, none⟩ l.length cap _ (by rw [hz1, List.length_map, nB_len, Nat.mul_one]) (fun j u hu => World.ownsRow.cells (g := g) h rfl j u hu)) (.string s) s.size (byteCells s) hS (by omega) (by omega) (growslice_fits (by omega) (by rw [hz2]; omega))
      rw [e] at hr
      cases hr
      rfl
/-- bytes that are owned, behind nil: all new -/
theorem app_nil (ty : TypeId) (w : World) (v : Value) (l : List UInt8) (h : OB w v l) (hs : l.length ≤ 140737488355328 - 4096) :
    ∃ v' w', (Builtin.append_ #[65, 65] ty #[.slice none 0 0, v]).run Try.prog w = .ok v' w' ∧ OB w' v' l ∧ w.grownBy w' none ∧ (v'.ownBlock = none ∨ v'.ownBlock = some w.heap.size) := by
  obtain ⟨i, hi, hz, hz1, hz2⟩ := info_parts infoB
  rcases h.2 with ⟨rfl, h0⟩ | ⟨g, cap, cur, rfl, _, hb, hc1, hc2, hc3, hc4⟩
  · have hl : l = [] := List.eq_nil_of_length_eq_zero h0
    subst hl
    refine ⟨.slice none 0 0, w, ?_, OB.nil w, ⟨rfl, rfl, rfl, Nat.le_refl _, fun _ _ _ => rfl⟩, .inl rfl⟩
    exact run_append_nothing w 65 65 ty 5 i Try.underlying65 hi none 0 0 (Nat.le_refl _) _ (Src.ofNil w Try.underlying65 0)
  · obtain ⟨v', w', hr, ho, hg, hn, hat⟩ := run_append_own_at (P := Try.prog) w 0 65 ty 5 i (.int .u8 0) 1 1 Try.underlying65 hi hz hz1 hz2 rfl (by omega) (.slice none 0 0) 0 [] (World.ownsRow_nil _ _ _ _) ⟨g, 0, none⟩ l.length cap ((nB l).map (Value.int .u8)) (by rw [List.length_map, nB_len, Nat.mul_one]) (fun j u hu => World.ownsRow.cells (g := g) h rfl j u hu) (fun u hu => by
      obtain ⟨z, _, rfl⟩ := List.mem_map.1 hu
      rfl) (by unfold maxLen; omega) (by omega) (Nat.zero_le _)
    rw [Nat.zero_add, List.nil_append] at ho
    exact ⟨v', w', hr, ho, hg, hat⟩
theorem wpList_app {ops : Array Oper} {rest : List Oper} {o : Oper} {a : Act} {Q : Exit → Act → World → Prop} (w : World) (hgd : o.guard = none) (s x : Operand) (t u : TypeId)
    (ho : o.op = .call { callee := .builtin .append, args := #[s, x], argTypes := #[t, u] }) {sv xv v' : Value} {w' : World} (hs : a.eval s = sv) (hx : a.eval x = xv)
    (hr : (Builtin.append_ #[t, u] o.type #[sv, xv]).run Try.prog w = .ok v' w') (h : wpList Try.prog ops Q rest (a.put o.dst v') w') : wpList Try.prog ops Q (o :: rest) a w := by
  refine wpList_plain hgd fun K hK => ?_
  unfold Oper.wp execOp
  simp only [ho, resolve, invoke, builtin, Sem.run_bind, Sem.run_pure, Result.andThen_ok, List.map_toArray, List.map_cons, List.map_nil, hs, hx, hr]
  exact hK _ _ h
theorem copied_any (v : Value) (l : List UInt8) (w : World) (h : OB w v l) (hs : l.length ≤ 140737488355328 - 4096) :
    Calls Try.prog 67 #[v] w fun e w' => ∃ v', e = .returned v' ∧ OB w' v' l ∧ Below w.heap.size w w' ∧ (∀ g, v'.ownBlock = some g → w.heap.size ≤ g) := by
  obtain ⟨a, cap, hv⟩ := h.shape
  obtain ⟨v', w', hr, ho, hg, hat⟩ := app_nil 65 w v l h hs
  rw [hv] at hr ⊢
  go_enter Try.func67, Try.ntmps67
  go_wp2_with (at_builtin; refine wpList_app _ rfl _ _ _ _ rfl rfl rfl hr ?_)
  go_ret
  refine ⟨v', rfl, ho, (Below.refl _ w).grown hg (Nat.le_refl _) (fun j hj => by cases hj), fun g e => ?_⟩
  rcases hat with h1 | h1
  · rw [h1] at e; cases e
  · rw [h1] at e; cases e; exact Nat.le_refl _
end Go.Proofs.Ytlkgfimignlgaaa

/-
  CONTRACT of disk.beginning: the first n bytes of what is owned, in the same row or in a new one.
-/
set_option linter.unusedVariables false
namespace Go.Proofs.Ytlkgfimignlgaaa
open Go.RowKit
/-- a beginning, in the same row -/
theorem OB.take {w : World} {g cap : Nat} {l : List UInt8} (h : OB w (.slice (some ⟨g, 0, none⟩) l.length cap) l) {n : Nat} (hn : n ≤ l.length) : OB w (.slice (some ⟨g, 0, none⟩) n cap) (l.take n) := by
  have hl : (l.take n).length = n := by rw [List.length_take]; omega
  unfold OB
  rw [hl]
  refine ⟨by rw [List.length_map, nB_len, hl, Nat.mul_one], ?_⟩
  rcases h.2 with ⟨e, _⟩ | ⟨g', cap', cur, e, h1, h2, h3, h4, h5, h6⟩
  · cases e
  · cases e
    refine .inr ⟨g, cap, cur, rfl, h1, h2, by omega, h4, h5, ?_⟩
    have e2 : cur.toList.take (n * 1) = (cur.toList.take (l.length * 1)).take n := by
      rw [List.take_take]
      congr 1
      omega
    rw [e2, h6]
    unfold nB
    rw [List.map_take, List.map_take]
theorem beg_any (v : Value) (l : List UInt8) (n : Nat) (w : World) (h : OB w v l) (hs : l.length ≤ 1000000000) (hn : n ≤ l.length) :
    Calls Try.prog 61 #[v, .int .i64 (n : Nat)] w fun e w' => ∃ v', e = .returned v' ∧ OB w' v' (l.take n) ∧ Below w.heap.size w w' ∧ (∀ g, v'.ownBlock = some g → v.ownBlock = some g ∨ w.heap.size ≤ g) := by
  rcases h.2 with ⟨rfl, h0⟩ | ⟨g, cap, cur, rfl, _, _, hc1, hc2, _⟩
  · have hl : l = [] := List.eq_nil_of_length_eq_zero h0
    subst hl
    have hn0 : n = 0 := by simpa using hn
    subst hn0
    go_enter Try.func61, Try.ntmps61
    go_wp2_with fail
    go_ret
    exact ⟨_, rfl, OB.nil w, Below.refl _ _, fun g hg => .inl hg⟩
  · have ht := h.take hn
    have hnc : (n : Int) ≤ (cap : Int) := by omega
    unfold maxLen at hc2
    have hwq : wrap64 ((cap : Int) / 2) = (cap : Int) / 2 := by
      unfold wrap64
      omega
    have cC := copied_any _ _ w ht (by rw [List.length_take]; omega)
    by_cases hq : (n : Int) < (cap : Int) / 2
    · go_enter Try.func61, Try.ntmps61
      go_wp2_with (go_at_call 67; refine cC.mono ?_; rintro e w1 ⟨v', rfl, ho, hb, hg⟩)
      go_ret
      exact ⟨v', rfl, ho, hb, fun g hg' => .inr (hg g hg')⟩
    · go_enter Try.func61, Try.ntmps61
      go_wp2_with fail
      go_ret
      exact ⟨_, rfl, ht, Below.refl _ _, fun g hg' => .inl hg'⟩
end Go.Proofs.Ytlkgfimignlgaaa
