/-
  TEXTS OF THE SEAT, put together: JsonKeys, JsonCheckM, RangeRow, JsonAllM, JsonAll, JsonChkM, JsonChk, JsonClone, JsonCopyM.
-/
import Derived.Test.YtakdhfjlhkejdaaGreatDoorN2
import Derived.Maps.OwnSet
import Derived.Test.YtakdhfjlhkejdaaGreatDoorN3
import Derived.RangeFuncNested
import Derived.RangeFuncBound
import Derived.RangeFuncCalls
import Derived.RangeFuncLeaves
import Derived.RangeFuncWrites
import Derived.Shelf.Abstract
import Derived.Shelf.RegionOpen
import Derived.OwnWalkIn
import Derived.TacticsInMore
import Derived.LoopNIn
import Derived.LoopIn
import Derived.Deep.DeepCutAuto
import Derived.Sort.CutIn
import Derived.Test.YtakdhfjlhkejdaaGreatDoorLayJ
import Derived.Shelf.SlGeneric
import Derived.Shelf.SlicesE.Clone
import Derived.Ground.SlgnProg
import Derived.Lib.SliceRun
import Derived.Laws.Cover3
set_option linter.unusedSimpArgs false
set_option linter.unusedVariables false

/-
  CONTRACTS of package json's sets of keys: add tells whether a key is a new one; repeats, whether a list has one twice. Conditions: the texts' sizes.
-/
set_option linter.unusedVariables false
namespace Go.Proofs.YtakdhfjlhkejdaaGreatDoor
open Go.RowKit Go.Maps Go.WideMaps

def kLit (k : ByteArray) : Lit := .string k.data.toList
/-- a map of the call's own that has these keys -/
def OwnsK (w : World) (B : Nat) (ks : List ByteArray) : Prop := w.ownsMap Tryz.prog 9 (unitElem (H := Unit)) B ks.length (setOf (.agg []) (ks.map kLit))
theorem lawKeys : Keyed Tryz.prog 9 := string_keyed Tryz.underlying9
theorem kLit_same (a b : ByteArray) : (kLit a).sameKey (kLit b) = (a.data.toList == b.data.toList) := by
  by_cases h : a.data.toList = b.data.toList
  · unfold kLit
    rw [h]
    simp [Lit.sameKey]
  · rw [sameKey_ne (fun e => h (by unfold kLit at e; injection e))]
    exact (beq_eq_false_iff_ne.2 h).symm
theorem kLit_key (ks : List ByteArray) : ∀ x ∈ ks.map kLit, WideAt.IsKeyLit x := by
  intro x hx
  obtain ⟨a, _, rfl⟩ := List.mem_map.1 hx
  simp [kLit, WideAt.IsKeyLit]
theorem has_kLit (ks : List ByteArray) (k : ByteArray) : Maps.has (setOf (.agg [] : DataW Unit) (ks.map kLit)) (kLit k) = hasK ks k := by
  rw [has_setOf _ _ _ (kLit_key ks), List.any_map]
  unfold hasK
  congr 1
  try (funext x; exact kLit_same x k)
theorem add_size (ks : List ByteArray) (k : ByteArray) : decide (Maps.size (setOf (.agg [] : DataW Unit) (ks.map kLit)) < Maps.size ((setOf (.agg [] : DataW Unit) (ks.map kLit)).put (kLit k) (.agg []))) = !hasK ks k := by
  rw [size_put (tidy_setOf _ _ (kLit_key ks)), has_kLit]
  cases hasK ks k
  · simp
  · simp
set_option maxRecDepth 10000000 in
set_option maxHeartbeats 4000000 in
theorem add_any (B : Nat) (ks : List ByteArray) (k : ByteArray) (w : World) (h : OwnsK w B ks) (hk : k.size ≤ maxLen) (hn : ks.length < maxLen) :
    Calls Tryz.prog 103 #[.map (some B), .string k] w fun e w' => e = .returned (.bool (!hasK ks k)) ∧ OwnsK w' B (ks ++ [k]) ∧ w.grownBy w' (some B) := by
  have hkey : keyOf Tryz.prog 9 (.string k) = some (kLit k) := keyOf_string_mk Tryz.underlying9 hk
  have hown : w.ownsMap Tryz.prog 9 (unitElem (H := Unit)) B ks.length (setOf (.agg []) (ks.map kLit)) := h
  have Hs := Lib.hid (add_size ks k)
  have tok1 : True := trivial
  clear h
  go_enter Tryz.func103, Tryz.ntmps103
  go_wp2_with (first
    | (at_len; have _t := tok1; refine wpList_len_own _ rfl _ 122 rfl 9 140 Tryz.underlying122 _ B ks.length _ rfl hown ?_; clear tok1)
    | (at_mapUpdate; refine wpList_mapUpdate_own _ rfl _ _ _ 122 rfl 9 140 lawKeys Tryz.underlying122 _ B ks.length _ rfl hown hn _ _ _ rfl rfl hkey _ [] unitElem_mk ?_; intro w1 hown1 hgrow1)
    | (at_len; refine wpList_len_own _ rfl _ 122 rfl 9 140 Tryz.underlying122 _ B (ks.length + 1) _ rfl hown1 ?_))
  go_ret
  refine ⟨ret_bool Hs.out, ?_, hgrow1⟩
  unfold OwnsK
  rw [List.map_append, List.map_cons, List.map_nil, setOf_snoc, List.length_append, List.length_cons, List.length_nil]
  exact hown1

theorem ownsK_made (w : World) : OwnsK (w.alloc (.map #[] 0)) w.heap.size [] := World.ownsMap_made _ _ _ _
theorem OwnsK.kept {w w' : World} {B : Nat} {ks : List ByteArray} {row : Option Nat} (h : OwnsK w B ks) (hg : w.grownBy w' row) (hne : some B ≠ row) : OwnsK w' B ks := World.ownsMap.kept h hg hne

/-- has a list one twice? -/
def repL : List ByteArray → List ByteArray → Bool
  | _, [] => false
  | acc, k :: t => hasK acc k || repL (acc ++ [k]) t
def repB (ks : List ByteArray) : Bool := repL [] ks
theorem rep_step (ks : List ByteArray) (j : Nat) (h : j < ks.length) : repL (ks.take j) (ks.drop j) = (hasK (ks.take j) (ks.getD j ByteArray.empty) || repL (ks.take (j + 1)) (ks.drop (j + 1))) := by
  have e : ks.drop j = ks.getD j ByteArray.empty :: ks.drop (j + 1) := by
    rw [List.drop_eq_getElem_cons h, List.getD_eq_getElem?_getD, List.getElem?_eq_getElem h]
    rfl
  rw [e]
  simp only [repL]
  rw [List.take_succ_eq_append_getElem h, List.getD_eq_getElem?_getD, List.getElem?_eq_getElem h]
  rfl
set_option maxRecDepth 10000000 in
set_option maxHeartbeats 4000000 in
theorem repeats_any (ks : List ByteArray) (c2 : Value) (w : World) (hk : IsKeys w 0 ks c2) (hks : ∀ x ∈ ks, x.size ≤ maxLen) (hn : ks.length < maxLen) :
    Calls Tryz.prog 75 #[c2] w fun e w' => e = .returned (.bool (repB ks)) ∧ Below w.heap.size w w' := by
  have hn' := hn
  unfold maxLen at hn'
  obtain ⟨a, cap, rfl, hk⟩ := hk
  have hcell : ∀ j, j < ks.length → ∃ b off, a = some ⟨b, off, none⟩ ∧ b < w.heap.size ∧ w.cell? ⟨b, off + j, none⟩ = some (.string (ks.getD j ByteArray.empty)) := by
    intro j hj
    rcases hk with rfl | ⟨b, off, rfl, _, h⟩
    · simp at hj
    · exact ⟨b, off, rfl, cell_lt (h j hj), h j hj⟩
  have Hcell := Lib.hid hcell
  clear hcell hk
  have hmm := @run_makeMap Tryz.prog
  go_enter Tryz.func75, Tryz.ntmps75
  go_wp2_with fail
  go_loopw [2, 9] (fun r i wr => ∃ j : Nat, j ≤ ks.length ∧ r = .bool false ∧ i = .int .i64 j ∧ OwnsK wr w.heap.size (ks.take j) ∧ Below w.heap.size w wr ∧ repL (ks.take j) (ks.drop j) = repB ks) (fun _ i _ => ks.length - (intOf i).toNat)
  case atStart => exact ⟨0, Nat.zero_le _, rfl, rfl, by rw [List.take_zero]; exact ownsK_made _, (Below.refl _ _).alloc (Nat.le_refl _) _, rfl⟩
  case round =>
    obtain ⟨j, hj, rfl, rfl, hown, acc, hrep⟩ := hrel
    by_cases hlt : j < ks.length
    · obtain ⟨b, off, rfl, hb, hc⟩ := Hcell.out j hlt
      have hcw := (acc.cell (p := ⟨b, off + j, none⟩) hb).trans hc
      have hx : (ks.getD j ByteArray.empty).size ≤ maxLen := hks _ (by rw [List.getD_eq_getElem?_getD, List.getElem?_eq_getElem hlt]; exact List.getElem_mem hlt)
      have htl : (ks.take j).length < maxLen := Nat.lt_of_le_of_lt (by rw [List.length_take]; omega) hn
      rw [rep_step ks j hlt] at hrep
      have Htk := Lib.hid (show ks.take j ++ [ks.getD j ByteArray.empty] = ks.take (j + 1) by rw [List.take_succ_eq_append_getElem hlt, List.getD_eq_getElem?_getD, List.getElem?_eq_getElem hlt]; rfl)
      generalize ks.getD j ByteArray.empty = x at *
      cases hh : hasK (ks.take j) x
      · have Hrep := Lib.hid (show repL (ks.take (j + 1)) (ks.drop (j + 1)) = repB ks by rw [← hrep, hh]; rfl)
        clear hrep hc
        go_wp2_with (go_at_call 103; refine (add_any _ _ _ _ hown hx htl).mono ?_; rintro e w1 ⟨rfl, hown1, hg1⟩)
        go_roundw
        case rel => exact ⟨j + 1, hlt, rfl, by go_num, by rw [← Htk.out]; exact hown1, acc.grown hg1 acc.size (fun k e => by cases e; exact Nat.le_refl _), Hrep.out⟩
        case measure => simp [intOf]; omega
      · have Hrep : Hid (true = repB ks) := by rw [← hrep, hh]; exact rfl
        clear hrep hc
        go_wp2_with (go_at_call 103; refine (add_any _ _ _ _ hown hx htl).mono ?_; rintro e w1 ⟨rfl, hown1, hg1⟩)
        go_ret
        exact ⟨ret_bool Hrep.out, acc.grown hg1 acc.size (fun k e => by cases e; exact Nat.le_refl _)⟩
    · have Hrep : Hid (false = repB ks) := by
        rw [← hrep, List.drop_eq_nil_of_le (by omega)]
        exact rfl
      clear hrep
      go_wp2_with fail
      go_ret
      exact ⟨ret_bool Hrep.out, acc⟩
end Go.Proofs.YtakdhfjlhkejdaaGreatDoor

/-
  MATHEMATICS for package json's check: what it tells of a value, and that what it lets by is written within bounds.
-/
set_option linter.unusedVariables false
namespace Go.Proofs.YtakdhfjlhkejdaaGreatDoor
open Go.RowKit
mutual
def formV : JV → Bool
  | .mk k t ks l => formB (k : Int) t ks.length l.length && formL l
def formL : List JV → Bool
  | [] => true
  | v :: t => formV v && formL t
end
mutual
def utfV : JV → Bool
  | .mk k t ks l => encB t ks && utfL l
def utfL : List JV → Bool
  | [] => true
  | v :: t => utfV v && utfL t
end
mutual
def twiceV : JV → Bool
  | .mk k t ks l => repB ks || twiceL l
def twiceL : List JV → Bool
  | [] => false
  | v :: t => twiceV v || twiceL t
end
mutual
/-- an array or an object lies too deep; d: how many are open around -/
def deepV (d : Nat) : JV → Bool
  | .mk k t ks l => (listB (k : Int) && decide (48 ≤ d)) || deepL (d + 1) l
def deepL (d : Nat) : List JV → Bool
  | [] => false
  | v :: t => deepV d v || deepL d t
end
mutual
def lettV : JV → Nat
  | .mk k t ks l => t.size + sumK ks + lettL l
def lettL : List JV → Nat
  | [] => 0
  | v :: t => lettV v + lettL t
end
/-- what check answers -/
def checkE (v : JV) : Int :=
  if formV v = false then 8 else if utfV v = false then 24 else if twiceV v = true then 25 else if deepV 0 v = true then 26 else if 4096 < sizeV v then 27 else if 65536 < lettV v then 4 else 0
theorem checkE_ok {v : JV} (h : checkE v = 0) : formV v = true ∧ utfV v = true ∧ twiceV v = false ∧ deepV 0 v = false ∧ sizeV v ≤ 4096 ∧ lettV v ≤ 65536 := by
  unfold checkE at h
  split at h
  · cases h
  · rename_i h1
    split at h
    · cases h
    · rename_i h2
      split at h
      · cases h
      · rename_i h3
        split at h
        · cases h
        · rename_i h4
          split at h
          · cases h
          · rename_i h5
            split at h
            · cases h
            · rename_i h6
              exact ⟨by simpa using h1, by simpa using h2, by simpa using h3, by simpa using h4, by omega, by omega⟩
theorem sumK_from (ks : List ByteArray) (n : Nat) : ks.foldl (fun n k => n + k.size) n = n + sumK ks := by
  unfold sumK
  induction ks generalizing n with
  | nil => simp
  | cons k t ih => rw [List.foldl_cons, List.foldl_cons, ih, ih (0 + k.size)]; omega
theorem sumK_drop (ks : List ByteArray) (i : Nat) : (ks.getD i ByteArray.empty).size + sumK (ks.drop (i + 1)) = sumK (ks.drop i) := by
  rcases Nat.lt_or_ge i ks.length with h | h
  · rw [List.drop_eq_getElem_cons h, List.getD_eq_getElem?_getD, List.getElem?_eq_getElem h]
    show _ = (ks[i] :: ks.drop (i + 1)).foldl _ 0
    rw [List.foldl_cons, sumK_from]
    simp
  · rw [List.drop_eq_nil_of_le h, List.drop_eq_nil_of_le (by omega), List.getD_eq_getElem?_getD, List.getElem?_eq_none h]
    rfl
mutual
theorem textV_len : ∀ v : JV, (textV v).length + 4 ≤ 6 * lettV v + 20 * sizeV v
  | .mk k t ks l => by
    have h1 := textI_len false 0 ks l
    have h2 := textI_len true 0 ks l
    have h3 := quoM_len t.data.toList
    rw [← Lib.size_eq] at h3
    have h4 : t.data.toList.length = t.size := (Lib.size_eq t).symm
    simp only [List.drop_zero] at h1 h2
    simp only [textV, lettV, sizeV]
    repeat' split
    all_goals try simp only [quoL, List.length_cons, List.length_append, List.length_nil]
    all_goals omega
theorem textI_len (o : Bool) (i : Nat) (ks : List ByteArray) : ∀ l : List JV, (textI o i ks l).length ≤ 6 * sumK (ks.drop i) + 6 * lettL l + 20 * sizeL l
  | [] => by simp [textI]
  | v :: t => by
    have h1 := textV_len v
    have h2 := textI_len o (i + 1) ks t
    have h3 := quoM_len (ks.getD i ByteArray.empty).data.toList
    rw [← Lib.size_eq] at h3
    have h4 := sumK_drop ks i
    simp only [textI, lettL, sizeL, List.length_append]
    have h5 : (if 0 < i then [(44 : UInt8)] else []).length ≤ 1 := by split <;> simp
    have h6 : (if o = true then quoL (ks.getD i ByteArray.empty).data.toList ++ [58] else []).length ≤ 6 * (ks.getD i ByteArray.empty).size + 3 := by
      split
      · simp only [quoL, List.length_cons, List.length_append, List.length_nil]
        omega
      · simp
    omega
end
mutual
theorem goodV_of : ∀ v : JV, formV v = true → utfV v = true → goodV v
  | .mk k t ks l, h1, h2 => by
    simp only [formV, utfV, Bool.and_eq_true] at h1 h2
    simp only [goodV]
    have he := h2.1
    unfold encB at he
    simp only [Bool.and_eq_true, List.all_eq_true] at he
    refine ⟨valid_all he.2, fun x hx => valid_all (he.1 x hx), ?_, goodL_of l h1.2 h2.2⟩
    rintro rfl
    have hf := h1.1
    unfold formB at hf
    simp at hf
    omega
theorem goodL_of : ∀ l : List JV, formL l = true → utfL l = true → goodL l
  | [], _, _ => by simp only [goodL]
  | v :: t, h1, h2 => by
    simp only [formL, utfL, Bool.and_eq_true] at h1 h2
    simp only [goodL]
    exact ⟨goodV_of v h1.1 h2.1, goodL_of t h1.2 h2.2⟩
end
theorem check_good {v : JV} (h : checkE v = 0) : goodV v ∧ (textV v).length ≤ 1000000000 := by
  obtain ⟨h1, h2, _, _, h5, h6⟩ := checkE_ok h
  have := textV_len v
  exact ⟨goodV_of v h1 h2, by omega⟩
end Go.Proofs.YtakdhfjlhkejdaaGreatDoor

/-
  A RANGE OVER A FUNCTION WHOSE ITERATOR KEEPS STATE OF ITS OWN IN CELLS: the statement's law. The iterator may turn whatever lies at or beyond B (what was laid since its call began); the caller's invariant speaks of what lies below the loop's own two blocks; a round keeps what lies below n₀ and what lay at or beyond the loop's blocks. (Generic.)
-/
namespace Go.Proofs.YtakdhfjlhkejdaaGreatDoor
open Go.RowKit

/-- what a round keeps: what lay below n₀, and what lay at or beyond B -/
structure Kept (n₀ B : Nat) (W W' : World) : Prop where
  below : Below n₀ W W'
  high : ∀ k, B ≤ k → k < W.heap.size → W'.heap[k]? = W.heap[k]?
theorem Kept.refl (n₀ B : Nat) (W : World) : Kept n₀ B W W := ⟨Below.refl _ _, fun _ _ _ => rfl⟩
theorem Kept.trans {n₀ B : Nat} {X Y Z : World} (h : Kept n₀ B X Y) (k : Kept n₀ B Y Z) : Kept n₀ B X Z :=
  ⟨h.below.trans k.below, fun i hB hi => (k.high i hB (Nat.lt_of_lt_of_le hi h.below.size)).trans (h.high i hB hi)⟩
theorem Kept.mono {n₀ B B' : Nat} {X Y : World} (h : Kept n₀ B X Y) (hB : B ≤ B') : Kept n₀ B' X Y := ⟨h.below, fun k hk => h.high k (Nat.le_trans hB hk)⟩
theorem Kept.of_below {n₀ B : Nat} {X Y : World} (h : Below X.heap.size X Y) (hn : n₀ ≤ X.heap.size) : Kept n₀ B X Y := ⟨h.mono hn, fun k _ hk => h.block k hk⟩
theorem Kept.put {n₀ B l : Nat} {W : World} {o o' : Obj} (_ : W.heap[l]? = some o) (hn : n₀ ≤ l) (hB : l < B) : Kept n₀ B W (W.putObj l o') :=
  ⟨⟨rfl, rfl, rfl, by simp, fun k hk => World.putObj_heap_other (by omega)⟩, fun k hk _ => World.putObj_heap_other (by omega)⟩
theorem Kept.set {n₀ B : Nat} {W : World} {a : Addr} (v : Value) (hn : n₀ ≤ a.block) (hB : a.block < B) : Kept n₀ B W (W.setCell a v) :=
  ⟨(Below.refl n₀ W).setCell hn v, fun k hk _ => Below.heap_setCell W a v k (by omega)⟩
theorem Below.put {n₀ l : Nat} {A W : World} {o' : Obj} (h : Below n₀ A W) (hn : n₀ ≤ l) : Below n₀ A (W.putObj l o') :=
  h.trans ⟨rfl, rfl, rfl, by simp, fun k hk => World.putObj_heap_other (by omega)⟩

/-- HOW THE BODY OF A ROUND MAY BE LEFT. -/
def rowPost {α : Type} (n₀ B : Nat) (I Ix : List α → World → Prop) (xs : List α) (W : World) : Exit → Act → World → Prop
  | .normal, _, W' => Kept n₀ B W W' ∧ I xs W'
  | .ret, _, W' => Kept n₀ B W W' ∧ Ix xs W'
  | _, _, _ => False

/-- what the iterator's function promises -/
def RowStops {α : Type} (P : Program) (n n₀ : Nat) (gf : Nat) (lb : Array Value) (Enc : List α → α → Array Value → World → Prop) (S : List α → Prop) (w : World) : Prop :=
  ∀ (l : Nat) (J Jx : List α → World → Prop) (W : World), Below w.heap.size w W → W.heap.size = w.heap.size + 2 →
    (∀ s A A', J s A → Below W.heap.size A A' → J s A') → (∀ s A A', Jx s A → Below W.heap.size A A' → Jx s A') →
    (∀ pre x args W1, J pre W1 → Enc pre x args W1 → YieldAt Fence.wide (n - 1) P l args W1 fun e W' =>
      (e = .returned (.bool true) ∧ J (pre ++ [x]) W' ∧ Kept n₀ W.heap.size W1 W') ∨ (e = .returned (.bool false) ∧ Jx (pre ++ [x]) W')) →
    J [] W →
    CallsIn Fence.wide n P gf (#[.func (.yield l) #[] #[]] ++ lb) W fun e W' => (∃ v, e = .returned v) ∧ ((∃ xs, S xs ∧ J xs W') ∨ (∃ pre, Jx pre W'))

/-- **THE STATEMENT'S LAW** -/
theorem wpIn_rangeFunc_row {α : Type} {P : Program} {n : Nat} {g : Operand} {ps : Array Tmp} {assign body : Code} {Q : Exit → Act → World → Prop} {a : Act} {w : World}
    {gf : Nat} {lb : Array Value} (hg : a.eval g = .func (.func gf) #[] lb) (eg : ∀ args w, (callFunc gf args).run P w = .ok (.enter gf args) w)
    {n₀ : Nat} (hn₀ : n₀ ≤ w.heap.size) {Enc : List α → α → Array Value → World → Prop} {S : List α → Prop} (hseq : RowStops P (n - 1) n₀ gf lb Enc S w)
    (hps : ∀ pre x args W, Enc pre x args W → args.size = ps.size)
    (I Ix : List α → World → Prop) (hI : ∀ s A A', I s A → Below w.heap.size A A' → I s A') (hIx : ∀ s A A', Ix s A → Below w.heap.size A A' → Ix s A') (h0 : I [] w)
    (Ax : List α → α → Act → World → Prop) (hAx : ∀ pre x a₁ W o, Ax pre x a₁ W → Ax pre x a₁ (W.putObj (w.heap.size + 1) o))
    (hassign : ∀ (l : Nat) (pre : List α) (x : α) (args : Array Value) (W : World) (K : Act → World → Prop), I pre W → Enc pre x args W → w.heap.size + 2 ≤ W.heap.size →
      (∀ a₁ W₁, Ax pre x a₁ W₁ → Below W.heap.size W W₁ → K a₁ W₁) →
      assign.wpIn (Fence.wide.inRound l) (n - 1 - 1) P (Exit.then K (fun _ _ _ => False)) { tmps := (ps.zip args).foldl (fun t (p, v) => t.setIfInBounds p v) a.tmps, defers := [] } W)
    (hbody : ∀ (l : Nat) (pre : List α) (x : α) (a₁ : Act) (W : World), Ax pre x a₁ W → w.heap.size + 2 ≤ W.heap.size → body.wpIn (Fence.wide.inRound l) (n - 1 - 1) P (rowPost n₀ w.heap.size I Ix (pre ++ [x]) W) a₁ W)
    (hdone : ∀ (xs : List α) (W : World), S xs → I xs W → w.heap.size < W.heap.size → W.heap[w.heap.size]? = some (.deferred (some [])) → Q .normal { a with defers := { target := .collected w.heap.size, args := #[] } :: a.defers } W)
    (hstop : ∀ (pre : List α) (W : World), Ix pre W → w.heap.size < W.heap.size → W.heap[w.heap.size]? = some (.deferred (some [])) → Code.ret.wpIn Fence.wide n P Q { a with defers := { target := .collected w.heap.size, args := #[] } :: a.defers } W) :
    (Code.rangeFunc g ps assign body).wpIn Fence.wide n P Q a w := by
  refine wpIn_rangeFunc ?_
  intro fn hfn
  obtain ⟨rec, hrec⟩ : ∃ rec : LoopState → Option Code → Loop, rec = fun st pe => { state := st, pending := pe, fn, tmps := a.tmps, params := ps, assign, body, defers := w.heap.size } := ⟨_, rfl⟩
  obtain ⟨W1, hW1⟩ : ∃ W1, (w.alloc (.deferred (some []))).alloc (.loop (rec .ready none)) = W1 := ⟨_, rfl⟩
  have hL1 : W1.heap[w.heap.size + 1]? = some (.loop (rec .ready none)) := by
    rw [← hW1]; have := World.alloc_heap_new (w.alloc (.deferred (some []))) (.loop (rec .ready none)); rwa [World.size_alloc] at this
  have hK1 : W1.heap[w.heap.size]? = some (.deferred (some [])) := by
    rw [← hW1]; exact (Below.heap_alloc _ _ _ (by simp)).trans (World.alloc_heap_new w _)
  have hb1 : Below w.heap.size w W1 := by
    rw [← hW1]; exact ((Below.refl _ w).alloc (Nat.le_refl _) _).alloc (by simp) _
  have hsz : W1.heap.size = w.heap.size + 2 := by rw [← hW1]; simp
  have hI1 : I [] W1 := hI _ _ _ h0 hb1
  refine ⟨w.heap.size + 1, [{ target := .collected w.heap.size, args := #[] }], W1, { target := .fn (.func gf) lb, args := #[.func (.yield (w.heap.size + 1)) #[] #[]] }, W1, gf,
    #[.func (.yield (w.heap.size + 1)) #[] #[]] ++ lb, W1, ?_, ?_, ?_, ?_, (fun h => by cases h), ?_⟩
  · rw [← hW1, hrec]; exact run_enterLoop_outer _ _ _ _ _
  · simp only [resolve, hg]
    simp [go_sem]
  · intro f' _; trivial
  · simp [invoke, go_sem, eg]
  · refine (hseq (w.heap.size + 1)
      (fun pre W => I pre W ∧ W.heap[w.heap.size + 1]? = some (.loop (rec .ready none)) ∧ W.heap[w.heap.size]? = some (.deferred (some [])) ∧ w.heap.size + 2 ≤ W.heap.size)
      (fun pre W => Ix pre W ∧ W.heap[w.heap.size + 1]? = some (.loop (rec .done (some .ret))) ∧ W.heap[w.heap.size]? = some (.deferred (some [])) ∧ w.heap.size + 2 ≤ W.heap.size)
      W1 hb1 hsz ?_ ?_ ?_ ⟨hI1, hL1, hK1, by omega⟩).mono ?_
    · rintro s A A' ⟨h1, h2, h3, h4⟩ hb
      exact ⟨hI s A A' h1 (hb.mono (by omega)), (hb.block _ (by omega)).trans h2, (hb.block _ (by omega)).trans h3, Nat.le_trans h4 hb.size⟩
    · rintro s A A' ⟨h1, h2, h3, h4⟩ hb
      exact ⟨hIx s A A' h1 (hb.mono (by omega)), (hb.block _ (by omega)).trans h2, (hb.block _ (by omega)).trans h3, Nat.le_trans h4 hb.size⟩
    · -- ONE ROUND
      rintro pre x args W ⟨hi, hl, hk, hsW⟩ henc
      have hy := run_yield (P := P) (args := args) hl (by rw [hrec]; exact hps pre x args W henc)
      rw [hrec] at hy
      refine ⟨fn, _, assign, body, hy, roundIn_of_wpIn hfn (hassign _ pre x args W _ hi henc hsW ?_)⟩
      intro a₁ W₁ hax hb₁
      have hl₁ := (hb₁.block _ (by omega)).trans hl
      have hk₁ := (hb₁.block _ (by omega)).trans hk
      have hs₁ := Nat.le_trans hsW hb₁.size
      refine ⟨_, run_beginRound hl₁ (by rw [hrec]), ?_⟩
      have hl2 : (W₁.putObj (w.heap.size + 1) (.loop { rec .ready none with state := .busy })).heap[w.heap.size + 1]? = some (.loop { rec .ready none with state := .busy }) := World.putObj_heap_same (by omega)
      have hk2 : (W₁.putObj (w.heap.size + 1) (.loop { rec .ready none with state := .busy })).heap[w.heap.size]? = some (.deferred (some [])) := (World.putObj_heap_other (by omega)).trans hk₁
      have hkp : Kept n₀ W1.heap.size W (W₁.putObj (w.heap.size + 1) (.loop { rec .ready none with state := .busy })) := (Kept.of_below hb₁ (by omega)).trans (Kept.put hl₁ (by omega) (by omega))
      refine wpIn_mono (hbody _ pre x a₁ _ (hAx _ _ _ _ _ hax) (by simpa using hs₁)) ?_
      have fin : ∀ (jump : Option Code) (W3 : World), Kept n₀ w.heap.size (W₁.putObj (w.heap.size + 1) (.loop { rec .ready none with state := .busy })) W3 →
          (Instr.endRound (w.heap.size + 1) jump).run P W3 = .ok (.bool jump.isNone) (W3.putObj (w.heap.size + 1) (.loop (rec (if jump.isNone then .ready else .done) jump))) ∧
          W3.heap[w.heap.size + 1]? = some (.loop { rec .ready none with state := .busy }) ∧
          (W3.putObj (w.heap.size + 1) (.loop (rec (if jump.isNone then .ready else .done) jump))).heap[w.heap.size + 1]? = some (.loop (rec (if jump.isNone then .ready else .done) jump)) ∧
          (W3.putObj (w.heap.size + 1) (.loop (rec (if jump.isNone then .ready else .done) jump))).heap[w.heap.size]? = some (.deferred (some [])) ∧ w.heap.size + 2 ≤ W3.heap.size := fun jump W3 hk3 => by
        have hl3 := (hk3.high _ (by omega) (by simp; omega)).trans hl2
        have hd3 := (hk3.high _ (by omega) (by simp; omega)).trans hk2
        have hs3 := hk3.below.size
        simp only [World.putObj_size] at hs3
        have := run_endRound (P := P) jump hl3
        rw [hrec] at this ⊢
        exact ⟨this, by rw [hrec] at hl3; exact hl3, World.putObj_heap_same (by omega), (World.putObj_heap_other (by omega)).trans hd3, by omega⟩
      rintro e a3 W3 hp
      cases e with
      | normal =>
        obtain ⟨hk3, hi3⟩ := hp
        obtain ⟨hr, hl3, hl4, hk4, hs4⟩ := fin none W3 hk3
        exact ⟨_, _, hr, .inl ⟨rfl, ⟨hI _ _ _ hi3 (Below.put (Below.refl _ _) (by omega)), hl4, hk4, by simpa using hs4⟩, (hkp.trans (hk3.mono (by omega))).trans (Kept.put hl3 (by omega) (by omega))⟩⟩
      | ret =>
        obtain ⟨hk3, hi3⟩ := hp
        obtain ⟨hr, hl3, hl4, hk4, hs4⟩ := fin (some .ret) W3 hk3
        exact ⟨_, _, hr, .inr ⟨rfl, hIx _ _ _ hi3 (Below.put (Below.refl _ _) (by omega)), hl4, hk4, by simpa using hs4⟩⟩
      | exit id => exact hp.elim
      | goto t => exact hp.elim
      | panic ch => exact hp.elim
      | outgrown => exact hp.elim
    · rintro e W2 ⟨⟨v, rfl⟩, (⟨xs, hS, hi, hl, hk, hs⟩ | ⟨pre, hi, hl, hk, hs⟩)⟩
      · exact ⟨none, _, by have := run_endLoop (P := P) hl (by rw [hrec]; simp); rw [hrec] at this; exact this, hdone xs _ hS (hI _ _ _ hi (Below.put (Below.refl _ _) (by omega))) (by simp; omega) ((World.putObj_heap_other (by omega)).trans hk)⟩
      · exact ⟨some .ret, _, by have := run_endLoop (P := P) hl (by rw [hrec]; simp); rw [hrec] at this; exact this, hstop pre _ (hIx _ _ _ hi (Below.put (Below.refl _ _) (by omega))) (by simp; omega) ((World.putObj_heap_other (by omega)).trans hk)⟩
end Go.Proofs.YtakdhfjlhkejdaaGreatDoor

/-
  MATHEMATICS for package json's all: the parts of a value, each with how many are open around it; lists that are still to be gone through.
-/
set_option linter.unusedVariables false
namespace Go.Proofs.YtakdhfjlhkejdaaGreatDoor
open Go.RowKit
abbrev Nd := Nat × JV
mutual
/-- a value and all within it -/
def nodesV (d : Nat) : JV → List Nd
  | .mk k t ks l => (d, .mk k t ks l) :: nodesL (d + 1) l
def nodesL (d : Nat) : List JV → List Nd
  | [] => []
  | v :: t => nodesV d v ++ nodesL d t
end
theorem nodesL_split {d : Nat} {l : List JV} {i k : Nat} {t : ByteArray} {ks : List ByteArray} {lx : List JV} (h : l[i]? = some (.mk k t ks lx)) :
    nodesL d (l.drop i) = (d, .mk k t ks lx) :: (nodesL (d + 1) lx ++ nodesL d (l.drop (i + 1))) := by
  rw [drop_split h]
  simp [nodesL, nodesV]
mutual
theorem nodesV_len (d : Nat) : ∀ v : JV, (nodesV d v).length = sizeV v
  | .mk k t ks l => by simp only [nodesV, List.length_cons, sizeV, nodesL_len (d + 1) l]
theorem nodesL_len (d : Nat) : ∀ l : List JV, (nodesL d l).length = sizeL l
  | [] => by simp [nodesL, sizeL]
  | v :: t => by simp only [nodesL, List.length_append, sizeL, nodesV_len d v, nodesL_len d t]
end
/-- a list that is still to be gone through: how many are open around, what it holds, the slice -/
abbrev Lst := Nat × List JV × Value
def flatA : List Lst → List Value
  | [] => []
  | e :: t => .int .i64 (e.1 : Nat) :: e.2.2 :: flatA t
theorem flatA_append : ∀ S T : List Lst, flatA (S ++ T) = flatA S ++ flatA T
  | [], T => rfl
  | e :: S, T => by simp [flatA, flatA_append S T]
theorem flatA_len : ∀ S : List Lst, (flatA S).length = S.length * 2
  | [] => rfl
  | e :: S => by simp [flatA, flatA_len S]; omega
def nodesS : List Lst → List Nd
  | [] => []
  | e :: t => nodesL e.1 e.2.1 ++ nodesS t
theorem nodesS_append : ∀ S T : List Lst, nodesS (S ++ T) = nodesS S ++ nodesS T
  | [], T => rfl
  | e :: S, T => by simp [nodesS, nodesS_append S T]
structure LstOK (w : World) (m : Nat) (e : Lst) : Prop where
  l : IsL w e.2.1 e.2.2
  ne : e.2.1 ≠ []
  le : e.1 ≤ m
theorem nodesS_len {w : World} {m : Nat} : ∀ S : List Lst, (∀ e ∈ S, LstOK w m e) → S.length ≤ (nodesS S).length
  | [], _ => by simp
  | e :: S, h => by
    have h1 := nodesS_len S (fun x hx => h x (List.mem_cons_of_mem _ hx))
    have h2 := (h e (List.mem_cons_self ..)).ne
    have h3 := len_sizeL e.2.1
    have h4 : 0 < e.2.1.length := List.length_pos_iff.2 h2
    simp only [nodesS, List.length_cons, List.length_append, nodesL_len]
    omega
/-- the blocks between: the caller's own -/
def hidM (n₀ B : Nat) : Nat → Bool := fun b => decide (n₀ ≤ b) && decide (b < B)
theorem Kept.stays {n₀ B : Nat} {W W' : World} (h : Kept n₀ B W W') : Stays 0 (hideW W (hidM n₀ B)) (hideW W' (hidM n₀ B)) := by
  intro a c _ hc
  rw [hide_cell] at hc ⊢
  split at hc
  · cases hc
  · rename_i hh
    rw [if_neg hh]
    have hlt := cell_lt hc
    unfold hidM at hh
    simp only [Bool.and_eq_true, decide_eq_true_eq, not_and] at hh
    rcases Nat.lt_or_ge a.block n₀ with h1 | h1
    · exact (h.below.cell h1).trans hc
    · have h2 := h.high a.block (by have := hh h1; omega) hlt
      unfold World.cell? at hc ⊢
      rw [h2]
      exact hc
/-- what the round is told of what it is handed -/
def EncA (v : JV) (n₀ B : Nat) (pre : List Nd) (x : Nd) (args : Array Value) (W : World) : Prop :=
  ∃ c0 c1 c2 c3 rest, args = #[.int .i64 (x.1 : Nat), .agg #[c0, c1, c2, c3]] ∧ IsV (hideW W (hidM n₀ B)) 0 x.2 c0 c1 c2 c3 ∧ x.1 ≤ pre.length ∧ (nodesV 0 v).Perm (pre ++ x :: rest)
/-- what stands between two rounds -/
structure AllI (v : JV) (n₀ B : Nat) (wA : World) (J : List Nd → World → Prop) (S : List Lst) (pre : List Nd) (vl : Value) (wr : World) : Prop where
  own : wr.ownsRow wA.heap.size 119 2 vl S.length (flatA S)
  ok : ∀ e ∈ S, LstOK (hideW wA (hidM n₀ B)) pre.length e
  perm : (nodesV 0 v).Perm (pre ++ nodesS S)
  j : J pre wr
  st : Stays 0 (hideW wA (hidM n₀ B)) (hideW wr (hidM n₀ B))
  big : wA.heap.size ≤ wr.heap.size
/-- what stands while a list is gone through -/
structure AllJ (v : JV) (n₀ B : Nat) (wA : World) (J : List Nd → World → Prop) (d : Nat) (l : List JV) (lb lo pb : Nat) (vl : Value) (m0 i : Nat) (S : List Lst) (pre : List Nd) (g cap : Nat) (wr : World) : Prop where
  own : wr.ownsRow wA.heap.size 119 2 (.slice (some ⟨g, 0, none⟩) S.length cap) S.length (flatA S)
  ok : ∀ e ∈ S, LstOK (hideW wA (hidM n₀ B)) pre.length e
  perm : (nodesV 0 v).Perm (pre ++ (nodesL d (l.drop i) ++ nodesS S))
  tot : (nodesS S).length + (nodesL d (l.drop i)).length + i ≤ m0
  j : J pre wr
  st : Stays 0 (hideW wA (hidM n₀ B)) (hideW wr (hidM n₀ B))
  row : IsRow (hideW wA (hidM n₀ B)) 0 l lb lo
  box : wr.heap[pb]? = some (.cells #[.int .i64 (d : Nat), vl] 119 (0, 0))
  far : g ≠ pb
  new : wA.heap.size ≤ pb
  dle : d ≤ pre.length
  big : wA.heap.size ≤ wr.heap.size
theorem infoPart : (Tryz.prog.info? 119).map (fun i => (i.zero, i.size, i.bytes)) = some (some (.agg #[.int .i64 0, .slice none 0 0]), 2, 32) := by kernel_rfl
theorem LstOK.opened {w : World} {m d : Nat} {l : List JV} {vl : Value} (h : LstOK w m (d, l, vl)) (hs : sizeL l ≤ 1000000000000) : ∃ n lb lo cl, vl = .slice (some ⟨lb, lo, none⟩) n cl ∧ IsRow w 0 l lb lo ∧ Hid (l.length = n) ∧ 0 < n ∧ n ≤ 1000000000000 ∧ d ≤ m := by
  obtain ⟨⟨al, cl, h1, hl⟩, hne, hle⟩ := h
  simp only at h1 hl hne hle
  have hpos : 0 < l.length := List.length_pos_iff.2 hne
  obtain ⟨lb, lo, rfl, hrl⟩ := hl.resolve_left hne
  exact ⟨l.length, lb, lo, cl, h1, hrl, Lib.hid rfl, hpos, Nat.le_trans (len_sizeL l) hs, hle⟩
section
variable {v : JV} {n₀ B : Nat} {wA : World} {J : List Nd → World → Prop} {d lb lo pb m0 i g cap g' cap' : Nat} {l : List JV} {vl va : Value} {S : List Lst} {pre : List Nd} {wr w6 w3 w4 w5 : World} {k : Nat} {t : ByteArray} {ks : List ByteArray} {lx : List JV}
theorem AllI.size (h : AllI v n₀ B wA J S pre vl wr) : pre.length + (nodesS S).length = sizeV v := by
  have := h.perm.length_eq
  rw [nodesV_len, List.length_append] at this
  omega
theorem AllJ.size (h : AllJ v n₀ B wA J d l lb lo pb vl m0 i S pre g cap wr) : pre.length + (sizeL (l.drop i) + (nodesS S).length) = sizeV v := by
  have := h.perm.length_eq
  rw [nodesV_len, List.length_append, List.length_append, nodesL_len] at this
  omega
theorem AllI.first {n : Nat} (h : AllI v n₀ B wA J (S ++ [(d, l, vl)]) pre (.slice (some ⟨g, 0, none⟩) (S.length + 1) cap') wr) (hrow : IsRow (hideW wA (hidM n₀ B)) 0 l lb lo)
    (hown : wr.ownsRow wA.heap.size 119 2 (.slice (some ⟨g, 0, none⟩) S.length cap) S.length (flatA S)) (hJ : ∀ s A A', J s A → Below B A A' → J s A') (hB : B ≤ wA.heap.size) (hd : d ≤ pre.length) (hm : (nodesS (S ++ [(d, l, vl)])).length = n) :
    AllJ v n₀ B wA J d l lb lo wr.heap.size vl n 0 S pre g cap (wr.alloc (.cells #[.int .i64 (d : Nat), vl] 119)) := by
  have hb := h.big
  have hg := hown.lt g rfl
  have hbel : Below wr.heap.size wr (wr.alloc (.cells #[.int .i64 (d : Nat), vl] 119)) := (Below.refl _ _).alloc (Nat.le_refl _) _
  have hp := h.perm
  rw [nodesS_append] at hp hm
  simp only [nodesS, List.append_nil] at hp hm
  rw [List.length_append] at hm
  refine ⟨hown.alloc _, fun e he => h.ok e (by simp [he]), ?_, by simp only [List.drop_zero]; omega, hJ _ _ _ h.j (hbel.mono (by omega)), ?_, hrow, heap_alloc_new _ _, by omega, hb, hd, Nat.le_trans hb hbel.size⟩
  · rw [List.drop_zero]
    exact hp.trans (List.Perm.append_left pre List.perm_append_comm)
  · refine h.st.trans ?_
    intro a c _ hc
    rw [hide_cell] at hc ⊢
    split at hc
    · cases hc
    · rename_i hh
      rw [if_neg hh]
      exact (hbel.cell (cell_lt hc)).trans hc
theorem AllJ.last {n : Nat} (h : AllJ v n₀ B wA J d l lb lo pb vl m0 n S pre g cap wr) (hl : l.length = n) (hn : 0 < n) :
    AllI v n₀ B wA J S pre (.slice (some ⟨g, 0, none⟩) S.length cap) wr ∧ (nodesS S).length < m0 := by
  have hp := h.perm
  have ht := h.tot
  subst hl
  rw [List.drop_length] at hp ht
  simp only [nodesL, List.nil_append, List.length_nil] at hp ht
  exact ⟨⟨h.own, h.ok, hp, h.j, h.st, h.big⟩, by omega⟩
theorem nodes_move {P : List Nd} {pre A R C : List Nd} {x : Nd} (h : P.Perm (pre ++ ((x :: (A ++ R)) ++ C))) : P.Perm ((pre ++ [x]) ++ (R ++ (C ++ A))) := by
  refine h.trans ?_
  rw [List.append_assoc, List.singleton_append, List.cons_append]
  refine List.Perm.append_left pre (List.Perm.cons x ?_)
  rw [List.append_assoc, ← List.append_assoc R C A]
  exact List.perm_append_comm
theorem AllJ.enc (h : AllJ v n₀ B wA J d l lb lo pb vl m0 i S pre g cap wr) (hx : l[i]? = some (.mk k t ks lx)) (hw : Below wr.heap.size wr w6) (hn : n₀ ≤ B) (hB : B ≤ wA.heap.size) {c0 c1 c2 c3 : Value} (hv : IsV (hideW wA (hidM n₀ B)) 0 (.mk k t ks lx) c0 c1 c2 c3) :
    EncA v n₀ B pre (d, .mk k t ks lx) #[.int .i64 (d : Nat), .agg #[c0, c1, c2, c3]] w6 := by
  have hb := h.big
  refine ⟨c0, c1, c2, c3, nodesL (d + 1) lx ++ nodesL d (l.drop (i + 1)) ++ nodesS S, rfl, IsV.stays (h.st.trans (Kept.of_below hw (by omega)).stays) (Nat.le_refl _) _ _ _ _ _ hv, h.dle, ?_⟩
  have := h.perm
  rw [nodesL_split hx] at this
  simpa using this
theorem AllJ.go (h : AllJ v n₀ B wA J d l lb lo pb vl m0 i S pre g cap wr) (hx : l[i]? = some (.mk k t ks lx)) (h0 : lx.length = 0) (hn : n₀ ≤ B) (hB : B ≤ wA.heap.size) (hw : Below wr.heap.size wr w6) (hk : Kept n₀ B w6 w3) (hj : J (pre ++ [(d, .mk k t ks lx)]) w3) :
    AllJ v n₀ B wA J d l lb lo pb vl m0 (i + 1) S (pre ++ [(d, .mk k t ks lx)]) g cap w3 := by
  have hb := h.big
  have hg := h.own.lt g rfl
  have hkk : Kept n₀ B wr w3 := (Kept.of_below hw (by omega)).trans hk
  have hpb := (Array.getElem?_eq_some_iff.1 h.box).1
  have e1 : lx = [] := List.length_eq_zero_iff.1 h0
  have ht := h.tot
  rw [nodesL_split hx] at ht
  simp only [List.length_cons, List.length_append] at ht
  have hp := h.perm
  rw [nodesL_split hx, e1] at hp
  have hnew := h.new
  refine ⟨own_eq h.own (hkk.high g (by omega) hg.2), fun e he => ⟨(h.ok e he).l, (h.ok e he).ne, by have := (h.ok e he).le; simp; omega⟩, ?_, by omega, hj, h.st.trans hkk.stays, h.row, (hkk.high pb (by omega) hpb).trans h.box, h.far, h.new, by have := h.dle; simp; omega, Nat.le_trans hb hkk.below.size⟩
  have := nodes_move (A := []) hp
  rw [e1]
  simpa [nodesL] using this
theorem AllJ.push (h : AllJ v n₀ B wA J d l lb lo pb vl m0 i S pre g cap wr) (hx : l[i]? = some (.mk k t ks lx)) (h0 : 0 < lx.length) (hn : n₀ ≤ B) (hB : B ≤ wA.heap.size) (hw : Below wr.heap.size wr w6) (hk : Kept n₀ B w6 w3) (hj : J (pre ++ [(d, .mk k t ks lx)]) w3) (hJ : ∀ s A A', J s A → Below B A A' → J s A')
    (hw4 : Below w3.heap.size w3 w4) (hown : w5.ownsRow wA.heap.size 119 2 (.slice (some ⟨g', 0, none⟩) (S.length + 1) cap') (S.length + 1) (flatA S ++ [.int .i64 ((d + 1 : Nat) : Int), va])) (hgrow : w4.grownBy w5 (some g)) (hat : some g = some g' ∨ g' = w4.heap.size) (hva : IsL (hideW wA (hidM n₀ B)) lx va) :
    AllJ v n₀ B wA J d l lb lo pb vl m0 (i + 1) (S ++ [(d + 1, lx, va)]) (pre ++ [(d, .mk k t ks lx)]) g' cap' w5 := by
  have hb := h.big
  have hg := h.own.lt g rfl
  have hkk : Kept n₀ B wr w3 := (Kept.of_below hw (by omega)).trans hk
  have hpb := (Array.getElem?_eq_some_iff.1 h.box).1
  have hs3 := hkk.below.size
  have hk4 : Kept n₀ B wr w4 := hkk.trans (Kept.of_below hw4 (by omega))
  have hs4 := hk4.below.size
  have hb5 : Below wA.heap.size w4 w5 := (Below.refl _ w4).grown hgrow (by omega) (fun j e => by cases e; exact hg.1)
  have hfar := h.far
  have hnew := h.new
  have hdle := h.dle
  have ht := h.tot
  rw [nodesL_split hx] at ht
  simp only [List.length_cons, List.length_append] at ht
  have hp := h.perm
  rw [nodesL_split hx] at hp
  have hst : Stays 0 (hideW wA (hidM n₀ B)) (hideW w5 (hidM n₀ B)) := by
    intro a c hl hc
    have h4 := (h.st.trans hk4.stays) a c hl hc
    rw [hide_cell] at hc h4 ⊢
    split at hc
    · cases hc
    · rename_i hh
      rw [if_neg hh] at h4 ⊢
      exact (hb5.cell (cell_lt hc)).trans h4
  refine ⟨?_, ?_, ?_, ?_, hJ _ _ _ hj ((hw4.mono (by omega)).trans (hb5.mono (by omega))), hst, h.row, ?_, ?_, h.new, by simp; omega, Nat.le_trans (Nat.le_trans hb hs4) hb5.size⟩
  · rw [List.length_append, flatA_append]
    exact hown
  · intro e hm
    rcases List.mem_append.1 hm with hm | hm
    · exact ⟨(h.ok e hm).l, (h.ok e hm).ne, by have := (h.ok e hm).le; simp; omega⟩
    · rw [List.mem_singleton] at hm
      subst hm
      exact ⟨hva, List.length_pos_iff.1 h0, by simp; omega⟩
  · have := nodes_move hp
    rw [nodesS_append]
    simpa [nodesS] using this
  · rw [nodesS_append]
    simp only [nodesS, List.append_nil, List.length_append]
    omega
  · exact (hgrow.block pb (by omega) (by intro e; cases e; exact hfar rfl)).trans ((hk4.high pb (by omega) hpb).trans h.box)
  · rcases hat with e | e
    · cases e; exact hfar
    · omega
end
end Go.Proofs.YtakdhfjlhkejdaaGreatDoor

/-
  CONTRACT of the iterator that package json's all hands back.
-/
set_option linter.unusedVariables false
namespace Go.Proofs.YtakdhfjlhkejdaaGreatDoor
open Go.RowKit Go.Shelf
attribute [local go_sem] Oper.semAt_some

theorem stays_in {w₀ w : World} (B : Nat) (hb : Below w₀.heap.size w₀ w) : Stays 0 w₀ (hideW w (hidM w₀.heap.size B)) := by
  intro a c _ hc
  have hlt := cell_lt hc
  rw [hide_cell, if_neg (by unfold hidM; simp; omega)]
  exact (hb.cell hlt).trans hc
/-- what stands between two rounds, the number of parts that are left -/
def AllR (v : JV) (n₀ B : Nat) (wA : World) (J : List Nd → World → Prop) (m : Nat) (vl : Value) (wr : World) : Prop :=
  ∃ S pre, AllI v n₀ B wA J S pre vl wr ∧ (nodesS S).length = m
theorem all_start {w₀ w W : World} {v : JV} {c0 c1 c2 c3 : Value} {J : List Nd → World → Prop} (hb : Below w₀.heap.size w₀ w) (hW : Below w.heap.size w W) (hv : IsV w₀ 0 v c0 c1 c2 c3) (hJ : ∀ s A A', J s A → Below W.heap.size A A' → J s A') (h0 : J [] W) :
    AllR v w₀.heap.size W.heap.size (W.alloc (.cells #[c0, c1, c2, c3] 26)) J (sizeV v) (.slice (some ⟨W.heap.size + 1, 0, none⟩) 1 1) ((W.alloc (.cells #[c0, c1, c2, c3] 26)).alloc (.cells #[.int .i64 ((0 : Nat) : Int), .slice (some ⟨W.heap.size, 0, none⟩) 1 1] 119)) := by
  have hA : Below W.heap.size W (W.alloc (.cells #[c0, c1, c2, c3] 26)) := (Below.refl _ _).alloc (Nat.le_refl _) _
  have hB : Below W.heap.size W ((W.alloc (.cells #[c0, c1, c2, c3] 26)).alloc (.cells #[.int .i64 ((0 : Nat) : Int), .slice (some ⟨W.heap.size, 0, none⟩) 1 1] 119)) := hA.alloc (by simp) _
  have hbs := hb.size
  have hws := hW.size
  have hst := stays_in W.heap.size ((hb.trans (hW.mono hbs)).trans (hA.mono (by omega)))
  have q1 : (hideW (W.alloc (.cells #[c0, c1, c2, c3] 26)) (hidM w₀.heap.size W.heap.size)).heap[W.heap.size]? = some (.cells #[c0, c1, c2, c3] 26 (0, 0)) := by
    unfold hideW hidM
    simp
    exact (Array.getElem?_eq_some_iff.1 (heap_alloc_new W (.cells #[c0, c1, c2, c3] 26))).2
  refine ⟨[(0, [v], .slice (some ⟨W.heap.size, 0, none⟩) 1 1)], [], ⟨?_, ?_, ?_, hJ _ _ _ h0 hB, ?_, by simp⟩, by simp [nodesS, nodesL, nodesV_len]⟩
  · refine ⟨rfl, .inr ⟨_, 1, #[.int .i64 ((0 : Nat) : Int), .slice (some ⟨W.heap.size, 0, none⟩) 1 1], rfl, by simp, ?_, Nat.le_refl _, by decide, rfl, by simp [flatA]⟩⟩
    have := heap_alloc_new (W.alloc (.cells #[c0, c1, c2, c3] 26)) (.cells #[.int .i64 ((0 : Nat) : Int), .slice (some ⟨W.heap.size, 0, none⟩) 1 1] 119)
    rw [World.size_alloc] at this
    exact this
  · intro e he
    rw [List.mem_singleton] at he
    subst he
    exact ⟨⟨_, _, rfl, .inr ⟨_, _, rfl, IsRow.one (IsV.stays hst (Nat.le_refl _) _ _ _ _ _ hv) q1⟩⟩, by simp, Nat.zero_le _⟩
  · simp [nodesS, nodesL]
  · intro a c _ hc
    rw [hide_cell] at hc ⊢
    split at hc
    · cases hc
    · rename_i hh
      rw [if_neg hh]
      exact ((((Below.refl _ (W.alloc (.cells #[c0, c1, c2, c3] 26))).alloc (Nat.le_refl _) _).cell (cell_lt hc))).trans hc
set_option maxRecDepth 10000000 in
set_option maxHeartbeats 8000000 in
theorem all1_stops (v : JV) (c0 c1 c2 c3 : Value) (w₀ w : World) (bv : Nat) (hb : Below w₀.heap.size w₀ w) (hv : IsV w₀ 0 v c0 c1 c2 c3) (hbv : w.heap[bv]? = some (.cells #[c0, c1, c2, c3] 26 (0, 0))) (hsz : sizeV v ≤ 1000000000000) :
    RowStops Tryz.prog 2 w₀.heap.size 102 #[.pointer (some ⟨bv, 0, none⟩)] (EncA v w₀.heap.size (w.heap.size + 2)) (fun xs => (nodesV 0 v).Perm xs) w := by
  intro l J Jx W hW hWs hJ hJx hY h0
  refine callsIn_wide.2 ?_
  have hS := all_start hb hW hv hJ h0
  rw [show ((0 : Nat) : Int) = 0 from rfl] at hS
  have hbox := (hW.block bv (Array.getElem?_eq_some_iff.1 hbv).1).trans hbv
  obtain ⟨k0, t0, ka, kl, kc, la, ll, lc, rfl, rfl, rfl, rfl⟩ := hv.shape
  have x0 := Lib.cell_of_heap hbox 0
  have x1 := Lib.cell_of_heap hbox 1
  have x2 := Lib.cell_of_heap hbox 2
  have x3 := Lib.cell_of_heap hbox 3
  have hbs := hb.size
  obtain ⟨B, hB2⟩ : ∃ B, B = w.heap.size + 2 := ⟨_, rfl⟩
  have hB : W.heap.size = B := by omega
  have hn : w₀.heap.size ≤ B := by omega
  rw [← hB2, hB] at hY
  rw [hB] at hJ hJx
  rw [hB] at hS
  clear hB2 hWs
  have hwA : (W.alloc (.cells #[.int .u8 (k0 : Nat), .string t0, .slice ka kl kc, .slice la ll lc] 26)).heap.size = B + 1 := by rw [World.size_alloc, hB]
  go_enter Tryz.func102, Tryz.ntmps102
  go_wp2_with fail
  generalize (W.alloc (.cells #[.int .u8 (k0 : Nat), .string t0, .slice ka kl kc, .slice la ll lc] 26)) = wA at *
  clear x0 x1 x2 x3 hbox
  go_loopw [3] (fun vl wr => ∃ m, AllR v w₀.heap.size B wA J m vl wr) (fun vl wr => leastN fun m => AllR v w₀.heap.size B wA J m vl wr)
  case atStart => exact ⟨_, hS⟩
  case round =>
    clear hS
    have hle := leastN_spec hrel
    generalize hm0 : (leastN fun m => AllR v w₀.heap.size B wA J m u3 wr) = m0 at hle
    have Hm0 := Lib.hid hm0
    clear hm0 hrel
    obtain ⟨S, pre, hI, hm⟩ := hle
    rcases S.eq_nil_or_concat with rfl | ⟨S0, e, rfl⟩
    · have h5 : ∃ a c, u3 = .slice a 0 c := by
        rcases hI.own.2 with ⟨h, _⟩ | ⟨g, cap, _, h, _⟩
        · exact ⟨_, _, h⟩
        · exact ⟨_, _, h⟩
      obtain ⟨a5, c5, rfl⟩ := h5
      have hp : (nodesV 0 v).Perm pre := by simpa [nodesS] using hI.perm
      have hj := hI.j
      clear hY hJ hJx
      go_wp2_with fail
      refine bodyPost_end (results_none rfl _ _ _) rfl ?_
      exact ⟨⟨_, rfl⟩, .inl ⟨pre, hp, hj⟩⟩
    · rw [List.concat_eq_append] at hI hm
      obtain ⟨d, l', vl⟩ := e
      have hsize := hI.size
      have hsl : sizeL l' ≤ 1000000000000 := by
        rw [nodesS_append, List.length_append] at hsize
        simp only [nodesS, List.append_nil, nodesL_len] at hsize
        omega
      obtain ⟨n, lb, lo, cl, rfl, hrow, hll, hpos, hn12, hdle⟩ := (hI.ok (d, l', vl) (by simp)).opened hsl
      have hown := hI.own
      rw [flatA_append, List.length_append] at hown
      simp only [flatA, List.length_singleton] at hown
      obtain ⟨g, cap, rfl, hg, hglt, hcap, hcap2⟩ := own_form2 hown (by omega)
      have hpop := ownsRow_pop (flatA_len S0) hown
      have hc0 := own_cellAt hown (S0.length * 2) _ (by rw [List.getElem?_append_right (by rw [flatA_len]; omega), flatA_len, Nat.sub_self]; rfl)
      have hc1 := own_cellAt hown (S0.length * 2 + 1) _ (by rw [List.getElem?_append_right (by rw [flatA_len]; omega), flatA_len, show S0.length * 2 + 1 - S0.length * 2 = 1 by omega]; rfl)
      clear hown
      go_wp2_with fail
      have hBA : B ≤ wA.heap.size := by omega
      have hF := AllI.first (n := m0) (lo := lo) (lb := lb) (g := g) (cap := cap) hI hrow hpop hJ hBA hdle hm
      clear hI hm hc0 hc1 hpop hsize
      generalize hwq : wr.alloc (.cells #[.int .i64 (d : Nat), .slice (some ⟨lb, lo, none⟩) n cl] 119) = wq at hF ⊢
      clear hwq
      generalize wr.heap.size = pb at *
      go_loopw [3, 28] (fun v3 v28 wr => ∃ (i : Nat) (S : List Lst) (pre : List Nd) (g cap : Nat), v28 = .int .i64 i ∧ i ≤ n ∧ v3 = .slice (some ⟨g, 0, none⟩) S.length cap ∧ AllJ v w₀.heap.size B wA J d l' lb lo pb (.slice (some ⟨lb, lo, none⟩) n cl) m0 i S pre g cap wr) (fun _ v28 _ => n - (intOf v28).toNat)
      case atStart => exact ⟨0, S0, pre, g, cap, rfl, Nat.zero_le _, rfl, hF⟩
      case round =>
        clear hF
        obtain ⟨i, S, pre, g, cap, rfl, hi, rfl, hQ⟩ := hrel
        by_cases hlt : i < n
        · obtain ⟨x, hx⟩ : ∃ x, l'[i]? = some x := ⟨_, List.getElem?_eq_getElem (by rw [hll.out]; exact hlt)⟩
          obtain ⟨kx, tx, ksx, lx⟩ := x
          obtain ⟨q0, q1, q2, q3, ex0, ex1, ex2, ex3, hVx⟩ := hrow.at' l' lb lo i _ hx
          have hVx2 := hVx
          obtain ⟨kxa, kxp, lxa, lxp, rfl, rfl, rfl, rfl, hKx, hLx⟩ := IsV.opened hVx
          have hxin : sizeV (.mk kx tx ksx lx) ≤ sizeL l' := sizeV_in hx
          simp only [sizeV] at hxin
          have hz1 := len_sizeL lx
          have hlxn : lx.length ≤ 1000000000000 := by omega
          have y0 := hide_stays 0 _ _ (Nat.zero_le _) (hQ.st _ _ (Nat.zero_le _) ex0)
          have y1 := hide_stays 0 _ _ (Nat.zero_le _) (hQ.st _ _ (Nat.zero_le _) ex1)
          have y2 := hide_stays 0 _ _ (Nat.zero_le _) (hQ.st _ _ (Nat.zero_le _) ex2)
          have y3 := hide_stays 0 _ _ (Nat.zero_le _) (hQ.st _ _ (Nat.zero_le _) ex3)
          have hpb := (Array.getElem?_eq_some_iff.1 hQ.box).1
          have n0 : (0 : Int) ≤ (i : Int) := Int.natCast_nonneg _
          have n1 : (i : Int) < (n : Int) := by omega
          clear ex0 ex1 ex2 ex3 hxin hz1
          go_upto_region 7 with (fail)
          have hb6 : Below wr.heap.size wr (wr.alloc (.cells #[.int .u8 (kx : Nat), .string tx, .slice kxa ksx.length kxp, .slice lxa lx.length lxp] 26)) := (Below.refl _ _).alloc (Nat.le_refl _) _
          have hx6 := heap_alloc_new wr (.cells #[.int .u8 (kx : Nat), .string tx, .slice kxa ksx.length kxp, .slice lxa lx.length lxp] 26)
          have hp6 := (hb6.block pb hpb).trans hQ.box
          have hxl : wr.heap.size < (wr.alloc (.cells #[.int .u8 (kx : Nat), .string tx, .slice kxa ksx.length kxp, .slice lxa lx.length lxp] 26)).heap.size := by rw [World.size_alloc]; omega
          generalize wr.alloc (.cells #[.int .u8 (kx : Nat), .string tx, .slice kxa ksx.length kxp, .slice lxa lx.length lxp] 26) = w6 at *
          have hbig := hQ.big
          have hj6 := hJ _ _ _ hQ.j (hb6.mono (by omega))
          have hEnc := hQ.enc hx hb6 hn hBA hVx2
          obtain ⟨fn, tmps, assign, body, hy, hR⟩ := hY pre (d, .mk kx tx ksx lx) _ w6 hj6 hEnc
          have p0 := Lib.cell_of_heap hp6 0
          have z0 := Lib.cell_of_heap hx6 0
          have z1 := Lib.cell_of_heap hx6 1
          have z2 := Lib.cell_of_heap hx6 2
          have z3 := Lib.cell_of_heap hx6 3
          refine (wpIn_wide (n := 2)).1 ?_
          gi_wp2
          refine hR.mono ?_
          rintro e W3 (⟨rfl, hJ3, hk3⟩ | ⟨rfl, hJx3⟩)
          · have hx3 := (hk3.high wr.heap.size (by omega) hxl).trans hx6
            have hp3 := (hk3.high pb (by have := hQ.new; omega) (Array.getElem?_eq_some_iff.1 hp6).1).trans hp6
            have e3 := (Lib.cell_of_heap hx3 3).trans rfl
            have pp0 := (Lib.cell_of_heap hp3 0).trans rfl
            have hSl : S.length ≤ 1000000000000 := by have h1 := nodesS_len S hQ.ok; have h2 := hQ.size; omega
            have hd12 : d ≤ 1000000000000 := by have h1 := hQ.dle; have h2 := hQ.size; omega
            have hkw : Kept w₀.heap.size B wr W3 := (Kept.of_below hb6 (by omega)).trans hk3
            have ho3 := own_eq hQ.own (hkw.high g (by have := hQ.own.lt g rfl; omega) (hQ.own.lt g rfl).2)
            have hs3 := hkw.below.size
            clear hy hR hEnc p0 z0 z1 z2 z3 y0 y1 y2 y3
            rcases Nat.eq_zero_or_pos lx.length with h0 | h0
            · have h0' : ¬ ((0 : Int) < (lx.length : Int)) := by omega
              have H0 := Lib.hid h0
              clear h0
              gi_wp2
              go_wp2_with fail
              go_roundw
              case rel => exact ⟨i + 1, S, pre ++ [(d, .mk kx tx ksx lx)], g, cap, by go_num, by omega, rfl, hQ.go hx H0.out hn hBA hb6 hk3 hJ3⟩
              case measure => simp [intOf]; omega
            · obtain ⟨i0, hi0, hz0, hz1, hz2⟩ := info_parts infoPart
              have h0' : (0 : Int) < (lx.length : Int) := by omega
              gi_wp2
              go_wp2_with (at_builtin; go_loud (refine wpList_append_lies _ rfl _ _ _ rfl wA.heap.size 119 i0 _ 2 32 Tryz.underlying120 hi0 hz0 hz1 hz2 rfl (by omega) (.slice (some ⟨g, 0, none⟩) S.length cap) S.length (flatA S) rfl (ho3.alloc _) ⟨W3.heap.size, 0, none⟩ 1 1 [.int .i64 ((d : Int) + 1), .slice lxa lx.length lxp] rfl rfl (World.news_of_block (cs := #[Value.int .i64 ((d : Int) + 1), Value.slice lxa lx.length lxp]) (t := 119) (fr := (0, 0)) (heap_alloc_new W3 _)) (by simp [Value.oneCell']) (by omega) (by unfold maxLen; omega) (by omega) (by rw [World.size_alloc]; omega) (W3.heap.size + 1) (by simp) ?_; intro g2 cap2 w11 hown3 hgrow hat hglt2))
              go_roundw
              case rel => exact ⟨i + 1, S ++ [(d + 1, lx, .slice lxa lx.length lxp)], pre ++ [(d, .mk kx tx ksx lx)], g2, cap2, by go_num, by omega, by rw [List.length_append]; rfl, hQ.push hx h0 hn hBA hb6 hk3 hJ3 hJ ((Below.refl _ W3).alloc (Nat.le_refl _) _) hown3 hgrow (hat.imp id (fun e => by rw [World.size_alloc]; exact e)) hLx⟩
              case measure => simp [intOf]; omega
          · gi_wp2
            go_wp2_with fail
            refine bodyPost_ret (results_none rfl _ _ _) rfl ?_
            exact ⟨⟨_, rfl⟩, .inr ⟨_, hJx3⟩⟩
        · have hin : i = n := by omega
          subst hin
          obtain ⟨hL1, hL2⟩ := hQ.last hll.out hpos
          go_wp2_with fail
          go_roundw
          case rel => exact ⟨_, S, pre, hL1, rfl⟩
          case measure => rw [Hm0.out]; exact Nat.lt_of_le_of_lt (leastN_le ⟨S, pre, hL1, rfl⟩) hL2
end Go.Proofs.YtakdhfjlhkejdaaGreatDoor

/-
  MATHEMATICS for package json's check: what is told over the parts is told of the whole; what stands between two rounds.
-/
set_option linter.unusedVariables false
namespace Go.Proofs.YtakdhfjlhkejdaaGreatDoor
open Go.RowKit
def nForm : Nd → Bool | (_, .mk k t ks l) => formB (k : Int) t ks.length l.length
def nEnc : Nd → Bool | (_, .mk k t ks l) => encB t ks
def nRep : Nd → Bool | (_, .mk k t ks l) => repB ks
def nDeep : Nd → Bool | (d, .mk k t ks l) => listB (k : Int) && decide (48 ≤ d)
def nLet : Nd → Nat | (_, .mk k t ks l) => t.size + sumK ks
mutual
theorem formV_all : ∀ (v : JV) (d : Nat), formV v = (nodesV d v).all nForm
  | .mk k t ks l, d => by simp only [formV, nodesV, List.all_cons, nForm, formL_all l (d + 1)]
theorem formL_all : ∀ (l : List JV) (d : Nat), formL l = (nodesL d l).all nForm
  | [], _ => rfl
  | v :: t, d => by simp only [formL, nodesL, List.all_append, formV_all v d, formL_all t d]
end
mutual
theorem utfV_all : ∀ (v : JV) (d : Nat), (!utfV v) = (nodesV d v).any (fun n => !nEnc n)
  | .mk k t ks l, d => by simp only [utfV, nodesV, List.any_cons, nEnc, Bool.not_and, utfL_all l (d + 1)]
theorem utfL_all : ∀ (l : List JV) (d : Nat), (!utfL l) = (nodesL d l).any (fun n => !nEnc n)
  | [], _ => rfl
  | v :: t, d => by simp only [utfL, nodesL, List.any_append, Bool.not_and, utfV_all v d, utfL_all t d]
end
mutual
theorem twiceV_any : ∀ (v : JV) (d : Nat), twiceV v = (nodesV d v).any nRep
  | .mk k t ks l, d => by simp only [twiceV, nodesV, List.any_cons, nRep, twiceL_any l (d + 1)]
theorem twiceL_any : ∀ (l : List JV) (d : Nat), twiceL l = (nodesL d l).any nRep
  | [], _ => rfl
  | v :: t, d => by simp only [twiceL, nodesL, List.any_append, twiceV_any v d, twiceL_any t d]
end
mutual
theorem deepV_any : ∀ (v : JV) (d : Nat), deepV d v = (nodesV d v).any nDeep
  | .mk k t ks l, d => by simp only [deepV, nodesV, List.any_cons, nDeep, deepL_any l (d + 1)]
theorem deepL_any : ∀ (l : List JV) (d : Nat), deepL d l = (nodesL d l).any nDeep
  | [], _ => rfl
  | v :: t, d => by simp only [deepL, nodesL, List.any_append, deepV_any v d, deepL_any t d]
end
mutual
theorem lettV_sum : ∀ (v : JV) (d : Nat), lettV v = ((nodesV d v).map nLet).sum
  | .mk k t ks l, d => by simp only [lettV, nodesV, List.map_cons, List.sum_cons, nLet, lettL_sum l (d + 1)]
theorem lettL_sum : ∀ (l : List JV) (d : Nat), lettL l = ((nodesL d l).map nLet).sum
  | [], _ => rfl
  | v :: t, d => by simp only [lettL, nodesL, List.map_append, List.sum_append, lettV_sum v d, lettL_sum t d]
end
def nKey : Nd → Nat | (_, .mk k t ks l) => ks.length
mutual
theorem keysV_sum : ∀ (v : JV) (d : Nat), keysV v = ((nodesV d v).map nKey).sum
  | .mk k t ks l, d => by simp only [keysV, nodesV, List.map_cons, List.sum_cons, nKey, keysL_sum l (d + 1)]
theorem keysL_sum : ∀ (l : List JV) (d : Nat), keysL l = ((nodesL d l).map nKey).sum
  | [], _ => rfl
  | v :: t, d => by simp only [keysL, nodesL, List.map_append, List.sum_append, keysV_sum v d, keysL_sum t d]
end
theorem keysV_perm {v : JV} {pre rest : List Nd} {x : Nd} (h : (nodesV 0 v).Perm (pre ++ x :: rest)) : nKey x ≤ keysV v := by
  rw [keysV_sum v 0, (h.map nKey).sum_nat]
  simp
  omega
theorem lettV_perm {v : JV} {pre rest : List Nd} {x : Nd} (h : (nodesV 0 v).Perm (pre ++ x :: rest)) : (pre.map nLet).sum + nLet x ≤ lettV v := by
  rw [lettV_sum v 0, (h.map nLet).sum_nat]
  simp
theorem size_perm {v : JV} {pre rest : List Nd} {x : Nd} (h : (nodesV 0 v).Perm (pre ++ x :: rest)) : pre.length + 1 ≤ sizeV v := by
  have := h.length_eq
  rw [nodesV_len] at this
  simp at this
  omega
theorem form_perm {v : JV} {pre rest : List Nd} {x : Nd} (h : (nodesV 0 v).Perm (pre ++ x :: rest)) (hx : nForm x = false) : formV v = false := by
  rw [formV_all v 0, h.all_eq]
  simp [hx]
theorem sumK_mem {ks : List ByteArray} {k : ByteArray} (h : k ∈ ks) : k.size ≤ sumK ks := by
  induction ks with
  | nil => cases h
  | cons a t ih =>
    have e : sumK (a :: t) = a.size + sumK t := by
      unfold sumK
      rw [List.foldl_cons, sumK_from]
      simp [sumK]
    rcases List.mem_cons.1 h with rfl | h
    · omega
    · have := ih h
      omega
/-- what check's own cells hold -/
structure ChkC (w₀ : World) (u t n : Bool) (c b : Nat) (W : World) : Prop where
  res : W.heap[w₀.heap.size + 1]? = some (.cells #[.int .i64 0] 27 (0, 0))
  utf : W.heap[w₀.heap.size + 2]? = some (.cells #[.bool u] 4 (0, 0))
  twice : W.heap[w₀.heap.size + 3]? = some (.cells #[.bool t] 4 (0, 0))
  nest : W.heap[w₀.heap.size + 4]? = some (.cells #[.bool n] 4 (0, 0))
  vals : W.heap[w₀.heap.size + 5]? = some (.cells #[.int .i64 (c : Nat)] 3 (0, 0))
  byts : W.heap[w₀.heap.size + 6]? = some (.cells #[.int .i64 (b : Nat)] 3 (0, 0))
  bel : Below w₀.heap.size w₀ W
  big : w₀.heap.size + 7 ≤ W.heap.size
theorem ChkC.below {w₀ A A' : World} {u t n : Bool} {c b : Nat} (h : ChkC w₀ u t n c b A) (hb : Below (w₀.heap.size + 7) A A') : ChkC w₀ u t n c b A' :=
  ⟨(hb.block _ (by omega)).trans h.res, (hb.block _ (by omega)).trans h.utf, (hb.block _ (by omega)).trans h.twice, (hb.block _ (by omega)).trans h.nest, (hb.block _ (by omega)).trans h.vals, (hb.block _ (by omega)).trans h.byts, h.bel.trans (hb.mono (by omega)), Nat.le_trans h.big hb.size⟩
theorem set_one {W : World} {b : Nat} {v v' : Value} {T : TypeId} (h : W.heap[b]? = some (.cells #[v] T (0, 0))) : (W.setCell ⟨b, 0, none⟩ v').heap[b]? = some (.cells #[v'] T (0, 0)) := heap_setCell_same W b 0 _ T _ h
theorem set_two {W : World} {b b' : Nat} {v : Value} {o : Obj} (h : W.heap[b]? = some o) (hb : b ≠ b') : (W.setCell ⟨b', 0, none⟩ v).heap[b]? = some o := (heap_setCell_other W ⟨b', 0, none⟩ b v hb).trans h
section
variable {w₀ W : World} {u t n : Bool} {c b : Nat}
theorem ChkC.setU (h : ChkC w₀ u t n c b W) (x : Bool) : ChkC w₀ x t n c b (W.setCell ⟨w₀.heap.size + 2, 0, none⟩ (.bool x)) :=
  ⟨set_two h.res (by omega), set_one h.utf, set_two h.twice (by omega), set_two h.nest (by omega), set_two h.vals (by omega), set_two h.byts (by omega), h.bel.setCell (p := ⟨w₀.heap.size + 2, 0, none⟩) (Nat.le_add_right _ _) _, by simpa using h.big⟩
theorem ChkC.setT (h : ChkC w₀ u t n c b W) (x : Bool) : ChkC w₀ u x n c b (W.setCell ⟨w₀.heap.size + 3, 0, none⟩ (.bool x)) :=
  ⟨set_two h.res (by omega), set_two h.utf (by omega), set_one h.twice, set_two h.nest (by omega), set_two h.vals (by omega), set_two h.byts (by omega), h.bel.setCell (p := ⟨w₀.heap.size + 3, 0, none⟩) (Nat.le_add_right _ _) _, by simpa using h.big⟩
theorem ChkC.setN (h : ChkC w₀ u t n c b W) (x : Bool) : ChkC w₀ u t x c b (W.setCell ⟨w₀.heap.size + 4, 0, none⟩ (.bool x)) :=
  ⟨set_two h.res (by omega), set_two h.utf (by omega), set_two h.twice (by omega), set_one h.nest, set_two h.vals (by omega), set_two h.byts (by omega), h.bel.setCell (p := ⟨w₀.heap.size + 4, 0, none⟩) (Nat.le_add_right _ _) _, by simpa using h.big⟩
theorem ChkC.setV (h : ChkC w₀ u t n c b W) (x : Nat) : ChkC w₀ u t n x b (W.setCell ⟨w₀.heap.size + 5, 0, none⟩ (.int .i64 (x : Nat))) :=
  ⟨set_two h.res (by omega), set_two h.utf (by omega), set_two h.twice (by omega), set_two h.nest (by omega), set_one h.vals, set_two h.byts (by omega), h.bel.setCell (p := ⟨w₀.heap.size + 5, 0, none⟩) (Nat.le_add_right _ _) _, by simpa using h.big⟩
theorem ChkC.setB (h : ChkC w₀ u t n c b W) (x : Nat) : ChkC w₀ u t n c x (W.setCell ⟨w₀.heap.size + 6, 0, none⟩ (.int .i64 (x : Nat))) :=
  ⟨set_two h.res (by omega), set_two h.utf (by omega), set_two h.twice (by omega), set_two h.nest (by omega), set_two h.vals (by omega), set_one h.byts, h.bel.setCell (p := ⟨w₀.heap.size + 6, 0, none⟩) (Nat.le_add_right _ _) _, by simpa using h.big⟩
end
/-- what stands between two rounds -/
structure ChkI (w₀ : World) (pre : List Nd) (W : World) : Prop where
  c : ChkC w₀ (pre.any (fun n => !nEnc n)) (pre.any nRep) (pre.any nDeep) pre.length (pre.map nLet).sum W
  form : pre.all nForm = true
structure ChkX (w₀ : World) (v : JV) (W : World) : Prop where
  res : W.heap[w₀.heap.size + 1]? = some (.cells #[.int .i64 8] 27 (0, 0))
  bel : Below w₀.heap.size w₀ W
  form : formV v = false
  big : w₀.heap.size + 7 ≤ W.heap.size
theorem ChkI.below {w₀ A A' : World} {pre : List Nd} (h : ChkI w₀ pre A) (hb : Below (w₀.heap.size + 7) A A') : ChkI w₀ pre A' := ⟨h.c.below hb, h.form⟩
theorem ChkI.on {w₀ W : World} {pre : List Nd} {x : Nd} {c b : Nat} {u t n : Bool} (hf : pre.all nForm = true) (hx : nForm x = true) (hu : u = (pre.any (fun n => !nEnc n) || !nEnc x)) (ht : t = (pre.any nRep || nRep x)) (hn : n = (pre.any nDeep || nDeep x)) (hc : c = pre.length + 1) (hb : b = (pre.map nLet).sum + nLet x)
    (h : ChkC w₀ u t n c b W) : ChkI w₀ (pre ++ [x]) W := by
  subst hu ht hn hc hb
  refine ⟨?_, by simp [hf, hx]⟩
  simpa using h
theorem ChkX.below {w₀ A A' : World} {v : JV} (h : ChkX w₀ v A) (hb : Below (w₀.heap.size + 7) A A') : ChkX w₀ v A' :=
  ⟨(hb.block _ (by omega)).trans h.res, h.bel.trans (hb.mono (by omega)), h.form, Nat.le_trans h.big hb.size⟩
theorem checkE_of {v : JV} {xs : List Nd} (h : (nodesV 0 v).Perm xs) (hf : xs.all nForm = true) :
    checkE v = if xs.any (fun n => !nEnc n) = true then 24 else if xs.any nRep = true then 25 else if xs.any nDeep = true then 26 else if 4096 < xs.length then 27 else if 65536 < (xs.map nLet).sum then 4 else 0 := by
  have h1 : formV v = true := by rw [formV_all v 0, h.all_eq, hf]
  have h2 : (!utfV v) = xs.any (fun n => !nEnc n) := by rw [utfV_all v 0, h.any_eq]
  have h3 : twiceV v = xs.any nRep := by rw [twiceV_any v 0, h.any_eq]
  have h4 : deepV 0 v = xs.any nDeep := by rw [deepV_any v 0, h.any_eq]
  have h5 : sizeV v = xs.length := by rw [← nodesV_len 0 v, h.length_eq]
  have h6 : lettV v = (xs.map nLet).sum := by rw [lettV_sum v 0, (h.map nLet).sum_nat]
  unfold checkE
  rw [h1, h3, h4, h5, h6, ← h2]
  cases utfV v <;> simp
theorem checkE_no {v : JV} (h : formV v = false) : checkE v = 8 := by unfold checkE; rw [if_pos h]
theorem all_any (k0 : Nat) (t0 : ByteArray) (ka la : Option Addr) (kl kc ll lc : Nat) (w : World) :
    Calls Tryz.prog 72 #[.agg #[.int .u8 (k0 : Nat), .string t0, .slice ka kl kc, .slice la ll lc]] w fun e w' => e = .returned (.func (.func 102) #[] #[.pointer (some ⟨w.heap.size, 0, none⟩)]) ∧ w' = w.alloc (.cells #[.int .u8 (k0 : Nat), .string t0, .slice ka kl kc, .slice la ll lc] 26) := by
  have hmf : ∀ (fn : Fn) (first cap : Array Value) (w : World), (Instr.makeFunc fn first cap).run Tryz.prog w = .ok (.func fn first cap) w := fun _ _ _ _ => rfl
  go_enter Tryz.func72, Tryz.ntmps72
  go_wp2
  go_ret
  exact ⟨rfl, rfl⟩
end Go.Proofs.YtakdhfjlhkejdaaGreatDoor

/-
  CONTRACT of package json's check.
-/
set_option linter.unusedVariables false
namespace Go.Proofs.YtakdhfjlhkejdaaGreatDoor
open Go.RowKit Go.Shelf
attribute [local go_sem] Oper.semAt_some
theorem check_start (w : World) (c0 c1 c2 c3 : Value) (W0 : World) (h : W0 = (((((((w.alloc (.cells #[c0, c1, c2, c3] 26)).alloc (.cells #[.int .i64 0] 27)).alloc (.cells #[.bool false] 4)).alloc (.cells #[.bool false] 4)).alloc (.cells #[.bool false] 4)).alloc (.cells #[.int .i64 0] 3)).alloc (.cells #[.int .i64 0] 3)).alloc (.cells #[c0, c1, c2, c3] 26)) :
    ChkI w [] W0 ∧ W0.heap.size = w.heap.size + 8 ∧ W0.heap[w.heap.size + 7]? = some (.cells #[c0, c1, c2, c3] 26 (0, 0)) := by
  have hh : W0.heap = (((((((w.heap.push (.cells #[c0, c1, c2, c3] 26 (0, 0))).push (.cells #[.int .i64 0] 27 (0, 0))).push (.cells #[.bool false] 4 (0, 0))).push (.cells #[.bool false] 4 (0, 0))).push (.cells #[.bool false] 4 (0, 0))).push (.cells #[.int .i64 0] 3 (0, 0))).push (.cells #[.int .i64 0] 3 (0, 0))).push (.cells #[c0, c1, c2, c3] 26 (0, 0)) := by rw [h]; rfl
  have hb : Below w.heap.size w W0 := by
    rw [h]
    exact ((((((((Below.refl _ w).alloc (Nat.le_refl _) _).alloc (by simp) _).alloc (by simp; omega) _).alloc (by simp; omega) _).alloc (by simp; omega) _).alloc (by simp; omega) _).alloc (by simp; omega) _).alloc (by simp; omega) _
  refine ⟨⟨⟨?_, ?_, ?_, ?_, ?_, ?_, hb, ?_⟩, rfl⟩, ?_, ?_⟩
  all_goals rw [hh]
  all_goals try simp only [Array.getElem?_push, Array.size_push]
  all_goals repeat (first | rw [if_pos (by omega)] | rw [if_neg (by omega)])
  all_goals first | rfl | omega
set_option maxRecDepth 10000000 in
set_option maxHeartbeats 8000000 in
theorem check_any (v : JV) (c0 c1 c2 c3 : Value) (w : World) (hv : IsV w 0 v c0 c1 c2 c3) (hsz : sizeV v ≤ 1000000000000) (hk : keysV v ≤ 1000000000000) (hl : lettV v ≤ 1000000000000) :
    Calls Tryz.prog 39 #[.agg #[c0, c1, c2, c3]] w fun e w' => e = .returned (.int .i64 (checkE v)) ∧ Below w.heap.size w w' := by
  have hv2 := hv
  obtain ⟨k0, t0, ka, kl, kc, la, ll, lc, rfl, rfl, rfl, rfl⟩ := hv.shape
  refine (callsIn_wide (n := 3)).1 ?_
  refine callsIn_of_wp_marks Tryz.func39 rfl trivial ?_ rfl
  simp only [Tryz.ntmps39, List.size_toArray, List.length_cons, List.length_nil, Nat.reduceAdd, Nat.reduceSub, Array.replicate_succ, Array.replicate_zero, List.push_toArray, List.append_toArray, List.nil_append, List.cons_append]
  refine wpIn_wide.2 ?_
  go_wp2_with (go_at_call 72; refine (all_any k0 t0 ka la kl kc ll lc _).mono ?_; rintro e w1 ⟨rfl, rfl⟩)
  have hst : ∃ W0, W0 = (((((((w.alloc (.cells #[.int .u8 (k0 : Nat), .string t0, .slice ka kl kc, .slice la ll lc] 26)).alloc (.cells #[.int .i64 0] 27)).alloc (.cells #[.bool false] 4)).alloc (.cells #[.bool false] 4)).alloc (.cells #[.bool false] 4)).alloc (.cells #[.int .i64 0] 3)).alloc (.cells #[.int .i64 0] 3)).alloc (.cells #[.int .u8 (k0 : Nat), .string t0, .slice ka kl kc, .slice la ll lc] 26) := ⟨_, rfl⟩
  obtain ⟨W0, hW0⟩ := hst
  have hIz := check_start w (.int .u8 (k0 : Nat)) (.string t0) (.slice ka kl kc) (.slice la ll lc) W0 hW0
  rw [← hW0]
  clear hW0
  obtain ⟨hI0, hsz0, hbx0⟩ := hIz
  simp only [Nat.add_assoc, Nat.reduceAdd]
  refine (wpIn_wide (n := 3)).1 ?_
  have hD : W0.heap.size = w.heap.size + 8 := hsz0
  have hseq := all1_stops v _ _ _ _ w W0 (w.heap.size + 7) hI0.c.bel hv hbx0 hsz
  refine wpIn_rangeFunc_row (n := 3) (gf := 102) (lb := #[.pointer (some ⟨w.heap.size + 7, 0, none⟩)]) rfl (enters_of Tryz.func102 (by kernel_rfl) rfl) (by omega) hseq ?hps (ChkI w) (fun _ => ChkX w v) (fun s A A' h hb => h.below (hb.mono (by omega))) (fun s A A' h hb => h.below (hb.mono (by omega))) hI0
    (fun pre x a₁ W => ChkI w pre W ∧ ∃ xb d0 d1 d2 d3 rest, a₁ = { tmps := #[.agg #[.int .u8 (k0 : Nat), .string t0, .slice ka kl kc, .slice la ll lc], .pointer (some ⟨w.heap.size, 0, none⟩), .pointer (some ⟨w.heap.size + 1, 0, none⟩), .pointer (some ⟨w.heap.size + 2, 0, none⟩), .pointer (some ⟨w.heap.size + 3, 0, none⟩), .pointer (some ⟨w.heap.size + 4, 0, none⟩), .pointer (some ⟨w.heap.size + 5, 0, none⟩), .pointer (some ⟨w.heap.size + 6, 0, none⟩), .int .i64 (x.1 : Nat), .pointer (some ⟨xb, 0, none⟩), .agg #[.int .u8 (k0 : Nat), .string t0, .slice ka kl kc, .slice la ll lc], .func (.func 102) #[] #[.pointer (some ⟨w.heap.size + 7, 0, none⟩)], .int .i64 (x.1 : Nat), .agg #[d0, d1, d2, d3], undef, undef, undef, undef, undef, undef, undef, undef, undef, undef, undef, undef, undef, undef, undef, undef, undef, undef, undef, undef, undef, undef, undef, undef, undef, undef, undef, undef, undef, undef, undef, undef, undef, undef, undef, undef, undef, undef, undef, undef, undef, undef, undef], defers := [] } ∧
      W.heap[xb]? = some (.cells #[d0, d1, d2, d3] 26 (0, 0)) ∧ w.heap.size + 10 ≤ xb ∧ IsV (hideW W (hidM w.heap.size (w.heap.size + 10))) 0 x.2 d0 d1 d2 d3 ∧ x.1 ≤ pre.length ∧ (nodesV 0 v).Perm (pre ++ x :: rest)) ?hAx ?assign ?body ?done ?stop
  case hps =>
    rintro pre x args W ⟨d0, d1, d2, d3, rest, rfl, _⟩
    rfl
  case hAx =>
    rintro pre x a₁ W o ⟨h1, xb, d0, d1, d2, d3, rest, rfl, h2, h3, h4, h5, h6⟩
    refine ⟨h1.below (Below.put (Below.refl _ _) (by omega)), xb, d0, d1, d2, d3, rest, rfl, (World.putObj_heap_other (by omega)).trans h2, h3, ?_, h5, h6⟩
    refine IsV.stays ?_ (Nat.le_refl _) _ _ _ _ _ h4
    intro a c _ hc
    rw [hide_cell] at hc ⊢
    split at hc
    · cases hc
    · rename_i hh
      rw [if_neg hh]
      unfold hidM at hh
      simp only [Bool.and_eq_true, decide_eq_true_eq, not_and] at hh
      unfold World.cell? at hc ⊢
      rw [World.putObj_heap_other (by intro e; exact hh (by omega) (by omega))]
      exact hc
  case assign =>
    rintro l pre x args W K hI ⟨d0, d1, d2, d3, rest, rfl, hV, hle, hP⟩ hbig hK
    obtain ⟨k9, t9, ka9, kl9, kc9, la9, ll9, lc9, rfl, rfl, rfl, rfl⟩ := hV.shape
    rw [hD] at hV
    gi_wp2
    exact hK _ _ ⟨hI.below ((Below.refl _ W).alloc (by omega) _), W.heap.size, _, _, _, _, rest, rfl, heap_alloc_new W _, by omega, IsV.stays (Kept.of_below ((Below.refl _ W).alloc (Nat.le_refl _) _) (by omega)).stays (Nat.le_refl _) _ _ _ _ _ hV, hle, hP⟩ ((Below.refl _ W).alloc (Nat.le_refl _) _)
  case body =>
    rintro l pre ⟨d, ⟨k, t, ks, lx⟩⟩ a₁ W ⟨hI, xb, d0, d1, d2, d3, rest, rfl, hxb, hxbB, hV, hle, hP⟩ hbig
    obtain ⟨kxa, kxp, lxa, lxp, rfl, rfl, rfl, rfl, hKx, hLx⟩ := IsV.opened hV
    have hl1 := lettV_perm hP
    have hk1 := keysV_perm hP
    have hs1 := size_perm hP
    have hfno := fun h => form_perm (x := (d, .mk k t ks lx)) hP h
    have hsub : ∀ y ∈ ks, y.size ≤ sumK ks := fun y hy => sumK_mem hy
    simp only [nLet] at hl1
    simp only [nKey] at hk1
    have hbt : t.size ≤ maxLen := by unfold maxLen; omega
    have hbk : ∀ y ∈ ks, y.size ≤ maxLen := fun y hy => by have := hsub y hy; unfold maxLen; omega
    have hbn : ks.length < maxLen := by unfold maxLen; omega
    have hbn2 : ks.length ≤ maxLen := by omega
    have hblt : t.size + sumK ks ≤ 1000000000000000000 := by omega
    have hKeys : ∀ W', Kept w.heap.size (w.heap.size + 8) W W' → IsKeys W' 0 ks (.slice kxa ks.length kxp) := fun W' h => (hKx.stays (h.mono (B' := w.heap.size + 10) (by omega)).stays (Nat.le_refl _)).stays (hide_stays 0) (Nat.le_refl _)
    have hxlt := (Array.getElem?_eq_some_iff.1 hxb).1
    have hBox : ∀ W', Kept w.heap.size (w.heap.size + 8) W W' → W'.heap[xb]? = some (.cells #[.int .u8 (k : Nat), .string t, .slice kxa ks.length kxp, .slice lxa lx.length lxp] 26 (0, 0)) := fun W' h => (h.high xb (by omega) hxlt).trans hxb
    have hC := hI.c
    have hF := hI.form
    obtain ⟨uf, hu⟩ : ∃ x, x = pre.any (fun n => !nEnc n) := ⟨_, rfl⟩
    obtain ⟨tf, ht⟩ : ∃ x, x = pre.any nRep := ⟨_, rfl⟩
    obtain ⟨nf, hnf⟩ : ∃ x, x = pre.any nDeep := ⟨_, rfl⟩
    obtain ⟨bs, hbs⟩ : ∃ x, x = (pre.map nLet).sum := ⟨_, rfl⟩
    obtain ⟨cs, hcs⟩ : ∃ x, x = pre.length := ⟨_, rfl⟩
    rw [← hu, ← ht, ← hnf, ← hbs, ← hcs] at hC
    rw [← hbs] at hl1
    rw [← hcs] at hs1
    have FIN : ∀ W', ChkC w (uf || !encB t ks) (tf || repB ks) (nf || (listB (k : Int) && decide (48 ≤ d))) (cs + 1) (bs + (t.size + sumK ks)) W' → formB (k : Int) t ks.length lx.length = true → ChkI w (pre ++ [(d, .mk k t ks lx)]) W' := fun W' h hfb => ChkI.on hF hfb (by rw [hu]; rfl) (by rw [ht]; rfl) (by rw [hnf]; rfl) (by rw [hcs]) (by rw [hbs]; rfl) h
    have hd12 : d ≤ 1000000000000 := by omega
    have hfm := fun w => formed_any (k : Int) t kxa lxa ks.length kxp lx.length lxp w hbt
    have x0 := Lib.cell_of_heap hxb 0
    have x1 := Lib.cell_of_heap hxb 1
    have x2 := Lib.cell_of_heap hxb 2
    have x3 := Lib.cell_of_heap hxb 3
    have r1 := Lib.cell_of_heap hC.res 0
    have hCbig := hC.big
    clear hu ht hnf hbs hcs hsub hI
    cases hfb : formB (k : Int) t ks.length lx.length
    · rw [hfb] at hfm
      have hno := hfno hfb
      have f1 := frozen_of_row _ (w.heap.size + 1) 0 _ _ hC.res
      gi_wp2_with (refine ⟨trivial, ?_⟩; gi_at_call 73; refine (CallsIn.inRound l (callsIn_wide.2 (hfm _))).mono ?_; rintro e W1 ⟨rfl, hb1⟩; have hC1 := hC.below (hb1.mono (by omega)); have r2 := Lib.cell_of_heap hC1.res 0; have f2 := frozen_of_row _ (w.heap.size + 1) 0 _ _ hC1.res)
      refine ⟨(Kept.of_below hb1 (by omega)).trans (Kept.set (a := ⟨w.heap.size + 1, 0, none⟩) _ (Nat.le_add_right _ _) (by simp; omega)), ⟨set_one hC1.res, hC1.bel.setCell (p := ⟨w.heap.size + 1, 0, none⟩) (Nat.le_add_right _ _) _, hno, by have := hC1.big; simpa using this⟩⟩
    · rw [hfb] at hfm
      have FB := Lib.hid hfb
      clear hfb
      gi_upto_region 8 with (refine ⟨trivial, ?_⟩; gi_at_call 73; refine (CallsIn.inRound l (callsIn_wide.2 (hfm _))).mono ?_; rintro e W1 ⟨rfl, hb1⟩)
      have K1 := Kept.of_below (n₀ := w.heap.size) (B := w.heap.size + 8) hb1 (by omega)
      have hC1 := hC.below (hb1.mono (by omega))
      have hs1 := hb1.size
      clear x0 x1 x2 x3 r1 hb1 hC hxb hxlt
      -- utf
      gi_cut [8] from 14 (fun s8 wx => s8 = .int .i64 (d : Nat) ∧ ChkC w (uf || !encB t ks) tf nf cs bs wx ∧ Kept w.heap.size (w.heap.size + 8) W wx)
      case first =>
        have x0 := Lib.cell_of_heap (hBox _ K1) 0
        have x1 := Lib.cell_of_heap (hBox _ K1) 1
        have x2 := Lib.cell_of_heap (hBox _ K1) 2
        have x3 := Lib.cell_of_heap (hBox _ K1) 3
        have u1 := Lib.cell_of_heap hC1.utf 0
        have f1 := frozen_of_row _ (w.heap.size + 2) 0 _ _ hC1.utf
        cases uf
        · gi_wp2_with (refine ⟨trivial, ?_⟩; gi_at_call 74; refine (CallsIn.inRound l (callsIn_wide.2 (encoded_any (k : Int) t ks _ _ _ hbt (hKeys _ K1) hbk hbn2))).mono ?_; rintro e W2 ⟨rfl, hb2⟩; have hC2 := hC1.below (hb2.mono (by omega)); have u2 := Lib.cell_of_heap hC2.utf 0; have f2 := frozen_of_row W2 (w.heap.size + 2) 0 _ _ hC2.utf)
          go_meet
          exact ⟨rfl, hC2.setU _, (K1.trans (Kept.of_below hb2 (by omega))).trans (Kept.set (a := ⟨w.heap.size + 2, 0, none⟩) _ (Nat.le_add_right _ _) (by simp))⟩
        · gi_wp2
          refine ⟨trivial, ?_⟩
          gi_wp2
          go_meet
          exact ⟨rfl, hC1.setU _, K1.trans (Kept.set (a := ⟨w.heap.size + 2, 0, none⟩) _ (Nat.le_add_right _ _) (by simp))⟩
      case rest =>
        clear hC1 K1 hs1
        generalize (uf || !encB t ks) = uf' at *
        obtain ⟨rfl, hC1, K1⟩ := hcut
        have hs1 := K1.below.size
        -- twice
        gi_upto_region 9 with (fail)
        gi_cut [8] from 14 (fun s8 wx => s8 = .int .i64 (d : Nat) ∧ ChkC w uf' (tf || repB ks) nf cs bs wx ∧ Kept w.heap.size (w.heap.size + 8) W wx)
        case first =>
          have x0 := Lib.cell_of_heap (hBox _ K1) 0
          have x1 := Lib.cell_of_heap (hBox _ K1) 1
          have x2 := Lib.cell_of_heap (hBox _ K1) 2
          have x3 := Lib.cell_of_heap (hBox _ K1) 3
          have u1 := Lib.cell_of_heap hC1.twice 0
          have f1 := frozen_of_row _ (w.heap.size + 3) 0 _ _ hC1.twice
          cases tf
          · gi_wp2_with (refine ⟨trivial, ?_⟩; gi_at_call 75; refine (CallsIn.inRound l (callsIn_wide.2 (repeats_any ks _ _ (hKeys _ K1) hbk hbn))).mono ?_; rintro e W2 ⟨rfl, hb2⟩; have hC2 := hC1.below (hb2.mono (by omega)); have u2 := Lib.cell_of_heap hC2.twice 0; have f2 := frozen_of_row W2 (w.heap.size + 3) 0 _ _ hC2.twice)
            go_meet
            exact ⟨rfl, hC2.setT _, (K1.trans (Kept.of_below hb2 (by omega))).trans (Kept.set (a := ⟨w.heap.size + 3, 0, none⟩) _ (Nat.le_add_right _ _) (by simp))⟩
          · gi_wp2
            refine ⟨trivial, ?_⟩
            gi_wp2
            go_meet
            exact ⟨rfl, hC1.setT _, K1.trans (Kept.set (a := ⟨w.heap.size + 3, 0, none⟩) _ (Nat.le_add_right _ _) (by simp))⟩
        case rest =>
          clear hC1 K1 hs1
          generalize (tf || repB ks) = tf' at *
          obtain ⟨rfl, hC1, K1⟩ := hcut
          have hs1 := K1.below.size
          -- nest
          gi_upto_region 10 with (fail)
          gi_cut [8] from 14 (fun s8 wx => s8 = .int .i64 (d : Nat) ∧ ChkC w uf' tf' (nf || (listB (k : Int) && decide (48 ≤ d))) cs bs wx ∧ Kept w.heap.size (w.heap.size + 8) W wx)
          case first =>
            have x0 := Lib.cell_of_heap (hBox _ K1) 0
            have x1 := Lib.cell_of_heap (hBox _ K1) 1
            have x2 := Lib.cell_of_heap (hBox _ K1) 2
            have x3 := Lib.cell_of_heap (hBox _ K1) 3
            have u1 := Lib.cell_of_heap hC1.nest 0
            have f1 := frozen_of_row _ (w.heap.size + 4) 0 _ _ hC1.nest
            have hhl := fun w => hasList_any (k : Int) w
            generalize listB (k : Int) = lb at *
            cases nf
            · cases lb
              · gi_wp2_with (refine ⟨trivial, ?_⟩; gi_at_call 76; refine (CallsIn.inRound l (callsIn_wide.2 (hhl _))).mono ?_; rintro e W2 ⟨rfl, rfl⟩)
                go_meet
                exact ⟨rfl, hC1.setN _, K1.trans (Kept.set (a := ⟨w.heap.size + 4, 0, none⟩) _ (Nat.le_add_right _ _) (by simp))⟩
              · by_cases h48 : 48 ≤ d
                · have hd48 : (48 : Int) ≤ (d : Int) := by omega
                  have hdd : decide (48 ≤ d) = true := by simp [h48]
                  have DD := Lib.hid hdd
                  clear hdd h48
                  gi_wp2_with (refine ⟨trivial, ?_⟩; gi_at_call 76; refine (CallsIn.inRound l (callsIn_wide.2 (hhl _))).mono ?_; rintro e W2 ⟨rfl, rfl⟩)
                  go_meet
                  exact ⟨rfl, by rw [DD.out]; exact hC1.setN _, K1.trans (Kept.set (a := ⟨w.heap.size + 4, 0, none⟩) _ (Nat.le_add_right _ _) (by simp))⟩
                · have hd48 : (d : Int) < 48 := by omega
                  have hdd : decide (48 ≤ d) = false := by simp; omega
                  have hdi : decide ((48 : Int) ≤ (d : Int)) = false := by simp; omega
                  have DD := Lib.hid hdd
                  clear hdd h48
                  gi_wp2_with (refine ⟨trivial, ?_⟩; gi_at_call 76; refine (CallsIn.inRound l (callsIn_wide.2 (hhl _))).mono ?_; rintro e W2 ⟨rfl, rfl⟩)
                  go_meet
                  exact ⟨rfl, by rw [DD.out]; exact hC1.setN _, K1.trans (Kept.set (a := ⟨w.heap.size + 4, 0, none⟩) _ (Nat.le_add_right _ _) (by simp))⟩
            · gi_wp2
              refine ⟨trivial, ?_⟩
              gi_wp2
              go_meet
              exact ⟨rfl, hC1.setN _, K1.trans (Kept.set (a := ⟨w.heap.size + 4, 0, none⟩) _ (Nat.le_add_right _ _) (by simp))⟩
          case rest =>
            clear hC1 K1 hs1
            generalize (nf || (listB (k : Int) && decide (48 ≤ d))) = nf' at *
            obtain ⟨rfl, hC1, K1⟩ := hcut
            have hs1 := K1.below.size
            -- count
            gi_upto_region 11 with (fail)
            gi_cut [8] from 14 (fun s8 wx => s8 = .int .i64 (d : Nat) ∧ ChkC w uf' tf' nf' (cs + 1) bs wx ∧ Kept w.heap.size (w.heap.size + 8) W wx)
            case first =>
              have u1 := Lib.cell_of_heap hC1.vals 0
              have f1 := frozen_of_row _ (w.heap.size + 5) 0 _ _ hC1.vals
              gi_wp2
              go_meet
              exact ⟨rfl, hC1.setV _, K1.trans (Kept.set (a := ⟨w.heap.size + 5, 0, none⟩) _ (Nat.le_add_right _ _) (by simp))⟩
            case rest =>
              clear hC1 K1 hs1
              obtain ⟨rfl, hC1, K1⟩ := hcut
              have hs1 := K1.below.size
              -- letters
              gi_upto_region 12 with (fail)
              have Kd := K1.trans (Kept.of_below (B := w.heap.size + 8) ((Below.refl _ _).drew) (by omega))
              have hCd := hC1.below (((Below.refl _ _).drew).mono (by omega))
              have x0 := Lib.cell_of_heap (hBox _ K1) 0
              have x1 := Lib.cell_of_heap (hBox _ K1) 1
              have x2 := Lib.cell_of_heap (hBox _ K1) 2
              have x3 := Lib.cell_of_heap (hBox _ K1) 3
              have u1 := Lib.cell_of_heap hC1.byts 0
              have f1 := frozen_of_row _ (w.heap.size + 6) 0 _ _ hC1.byts
              have hsum : (bs : Int) + ((t.size + sumK ks : Nat) : Int) ≤ 1000000000000 := by omega
              have hsum0 : (0 : Int) ≤ (bs : Int) + ((t.size + sumK ks : Nat) : Int) := by omega
              have hwr : IntKind.i64.wrap ((bs : Int) + ((t.size : Int) + (sumK ks : Int))) = ((bs + (t.size + sumK ks) : Nat) : Int) := by rw [IntWalk.i64_in _ (by omega)]; omega
              have HW := Lib.hid hwr
              clear hwr
              have hfo : Tryz.prog.follows Departure.mixedOrders = true := by kernel_rfl
              gi_region_with_o (refine ⟨trivial, ?_⟩; gi_at_call 77; refine (CallsIn.inRound l (callsIn_wide.2 (letters_any (k : Int) t ks _ _ _ (hKeys _ Kd) hbn2 hblt))).mono ?_; rintro e W2 ⟨rfl, hb2⟩; have hC2 := hCd.below (hb2.mono hCd.big); have u2 := Lib.cell_of_heap hC2.byts 0; have f2 := frozen_of_row _ (w.heap.size + 6) 0 _ _ hC2.byts)
              all_goals rw [HW.out]
              all_goals exact ⟨((Kd.trans (Kept.of_below hb2 (by have := hCd.big; omega))).trans (Kept.set (a := ⟨w.heap.size + 6, 0, none⟩) _ (Nat.le_add_right _ _) (by simp))).mono (by omega), FIN _ (hC2.setB _) FB.out⟩
  case done =>
    rintro xs W hP hI hlt hK
    have hE := checkE_of hP hI.form
    have hC := hI.c
    have hlet : (xs.map nLet).sum ≤ 1000000000000 := by rw [← (hP.map nLet).sum_nat, ← lettV_sum]; exact hl
    have hlen : xs.length ≤ 1000000000000 := by rw [← hP.length_eq, nodesV_len]; exact hsz
    generalize xs.any (fun n => !nEnc n) = uf at *
    generalize xs.any nRep = tf at *
    generalize xs.any nDeep = nf at *
    generalize xs.length = cs at *
    generalize (xs.map nLet).sum = bs at *
    have r1 := Lib.cell_of_heap hC.res 0
    have f1 := frozen_of_row _ (w.heap.size + 1) 0 _ _ hC.res
    have u1 := Lib.cell_of_heap hC.utf 0
    have u2 := Lib.cell_of_heap hC.twice 0
    have u3 := Lib.cell_of_heap hC.nest 0
    have u4 := Lib.cell_of_heap hC.vals 0
    have u5 := Lib.cell_of_heap hC.byts 0
    have hend : ∀ (x : Int) (W' : World), x = checkE v → W' = W.setCell ⟨w.heap.size + 1, 0, none⟩ (.int .i64 x) → W'.heap[W0.heap.size]? = some (.deferred (some [])) ∧ (W'.putObj W0.heap.size (.deferred none)).cell? ⟨w.heap.size + 1, 0, none⟩ = some (.int .i64 (checkE v)) ∧ Below w.heap.size w (W'.putObj W0.heap.size (.deferred none)) := by
      rintro x W' rfl rfl
      refine ⟨set_two hK (by omega), ?_, Below.put (hC.bel.setCell (p := ⟨w.heap.size + 1, 0, none⟩) (Nat.le_add_right _ _) _) (by omega)⟩
      exact Lib.cell_of_heap ((World.putObj_heap_other (by omega)).trans (set_one hC.res)) 0
    have HE := Lib.hid hend
    clear hend
    cases uf
    · cases tf
      · cases nf
        · by_cases h5 : 4096 < cs
          · have hx : checkE v = 27 := by rw [hE]; simp [h5]
            have h5' : (4096 : Int) < (cs : Int) := by omega
            clear hE
            have HX := Lib.hid hx
            clear hx
            go_wp2_with fail
            obtain ⟨h1, h2, h3⟩ := HE.out 27 _ HX.out.symm rfl
            refine ⟨by simp, .inl ⟨_, _, rfl, run_takeDeferred h1, ?_⟩⟩
            exact ⟨.int .i64 (checkE v), by simp [results, Tryz.f39, go_sem, h2], rfl, h3⟩
          · have h5' : (cs : Int) ≤ 4096 := by omega
            by_cases h6 : 65536 < bs
            · have hx : checkE v = 4 := by rw [hE]; simp [h5, h6]
              have h6' : (65536 : Int) < (bs : Int) := by omega
              clear hE
              have HX := Lib.hid hx
              clear hx
              go_wp2_with fail
              obtain ⟨h1, h2, h3⟩ := HE.out 4 _ HX.out.symm rfl
              refine ⟨by simp, .inl ⟨_, _, rfl, run_takeDeferred h1, ?_⟩⟩
              exact ⟨.int .i64 (checkE v), by simp [results, Tryz.f39, go_sem, h2], rfl, h3⟩
            · have hx : checkE v = 0 := by rw [hE]; simp [h5, h6]
              have h6' : (bs : Int) ≤ 65536 := by omega
              clear hE
              have HX := Lib.hid hx
              clear hx
              go_wp2_with fail
              obtain ⟨h1, h2, h3⟩ := HE.out 0 _ HX.out.symm rfl
              refine ⟨by simp, .inl ⟨_, _, rfl, run_takeDeferred h1, ?_⟩⟩
              exact ⟨.int .i64 (checkE v), by simp [results, Tryz.f39, go_sem, h2], rfl, h3⟩
        · have hx : checkE v = 26 := by rw [hE]; simp
          clear hE
          have HX := Lib.hid hx
          clear hx
          go_wp2_with fail
          obtain ⟨h1, h2, h3⟩ := HE.out 26 _ HX.out.symm rfl
          refine ⟨by simp, .inl ⟨_, _, rfl, run_takeDeferred h1, ?_⟩⟩
          exact ⟨.int .i64 (checkE v), by simp [results, Tryz.f39, go_sem, h2], rfl, h3⟩
      · have hx : checkE v = 25 := by rw [hE]; simp
        clear hE
        have HX := Lib.hid hx
        clear hx
        go_wp2_with fail
        obtain ⟨h1, h2, h3⟩ := HE.out 25 _ HX.out.symm rfl
        refine ⟨by simp, .inl ⟨_, _, rfl, run_takeDeferred h1, ?_⟩⟩
        exact ⟨.int .i64 (checkE v), by simp [results, Tryz.f39, go_sem, h2], rfl, h3⟩
    · have hx : checkE v = 24 := by rw [hE]; simp
      clear hE
      have HX := Lib.hid hx
      clear hx
      go_wp2_with fail
      obtain ⟨h1, h2, h3⟩ := HE.out 24 _ HX.out.symm rfl
      refine ⟨by simp, .inl ⟨_, _, rfl, run_takeDeferred h1, ?_⟩⟩
      exact ⟨.int .i64 (checkE v), by simp [results, Tryz.f39, go_sem, h2], rfl, h3⟩
  case stop =>
    rintro pre W hX hlt hK
    gi_wp2
    refine ⟨by simp, .inl ⟨_, _, rfl, run_takeDeferred hK, ?_⟩⟩
    have h2 : (W.putObj W0.heap.size (.deferred none)).cell? ⟨w.heap.size + 1, 0, none⟩ = some (.int .i64 8) := Lib.cell_of_heap ((World.putObj_heap_other (by omega)).trans hX.res) 0
    exact ⟨.int .i64 8, by simp [results, Tryz.f39, go_sem, h2], by rw [checkE_no hX.form], Below.put hX.bel (by omega)⟩
end Go.Proofs.YtakdhfjlhkejdaaGreatDoor

/-
  CONTRACTS of slices.Clone as package json calls it: of keys, of values.
-/
set_option linter.unusedVariables false
namespace Go.Proofs.YtakdhfjlhkejdaaGreatDoor
open Go.RowKit Go.Shelf

/-- whether a block holds cells, none of them frozen -/
def plainB (w : World) (b : Nat) : Bool := match w.heap[b]? with
  | some (.cells _ _ (0, 0)) => true
  | _ => false
theorem plainB_of {w : World} {b : Nat} {cs : Array Value} {T : TypeId} (h : w.heap[b]? = some (.cells cs T (0, 0))) : plainB w b = true := by unfold plainB; simp [h]
theorem plainB_eq {w w' : World} {b : Nat} (h : w'.heap[b]? = w.heap[b]?) : plainB w' b = plainB w b := by unfold plainB; rw [h]
theorem plain_frozen {w : World} {b : Nat} (h : plainB w b = true) (j : Nat) : w.frozen? ⟨b, j, none⟩ = false := by
  unfold plainB at h
  split at h
  · rename_i e
    exact Lib.frozen_of_heap e j
  · cases h
/-- a world without some blocks, and without all that is frozen -/
def hideP (w : World) (G : Nat → Bool) : World := hideW w (fun b => G b || !plainB w b)
theorem hideP_cell (w : World) (G : Nat → Bool) (x : Addr) : (hideP w G).cell? x = if G x.block then none else if plainB w x.block then w.cell? x else none := by
  unfold hideP
  rw [hide_cell]
  cases G x.block <;> cases plainB w x.block <;> simp
theorem hideP_some {w : World} {G : Nat → Bool} {x : Addr} {c : Value} (h : (hideP w G).cell? x = some c) : G x.block = false ∧ plainB w x.block = true ∧ w.cell? x = some c := by
  rw [hideP_cell] at h
  split at h
  · cases h
  · rename_i h1
    split at h
    · rename_i h2
      exact ⟨by simpa using h1, h2, h⟩
    · cases h
theorem hideP_of {w : World} {G : Nat → Bool} {x : Addr} {c : Value} (hG : G x.block = false) (hp : plainB w x.block = true) (h : w.cell? x = some c) : (hideP w G).cell? x = some c := by
  rw [hideP_cell, hG, hp]
  simpa using h
theorem hideP_size (w : World) (G : Nat → Bool) : (hideP w G).heap.size = w.heap.size := by simp [hideP, hideW]
abbrev plainW (w : World) : World := hideP w (fun _ => false)
theorem plain_cell {w w' : World} {a : Addr} (h : w'.heap[a.block]? = w.heap[a.block]?) : (plainW w').cell? a = (plainW w).cell? a := by
  rw [hideP_cell, hideP_cell, plainB_eq h, World.cell?_of_block h]
theorem hideP_stays {w : World} {G : Nat → Bool} (lo : Nat) : Stays lo (hideP w G) w := fun _ _ _ h => (hideP_some h).2.2
theorem hideP_plain {w : World} {G : Nat → Bool} (lo : Nat) : Stays lo (hideP w G) (plainW w) := fun _ _ _ h => hideP_of rfl (hideP_some h).2.1 (hideP_some h).2.2
theorem cloneKP_any (ks : List ByteArray) (c : Value) (w : World) (hk : IsKeys w 0 ks c) (hn : ks.length ≤ 1000000000000) :
    Calls Tryz.prog 58 #[c] w fun e w' => ∃ a cap, e = .returned (.slice a ks.length cap) ∧ IsKeys (plainW w') w.heap.size ks (.slice a ks.length cap) ∧ Below w.heap.size w w' := by
  obtain ⟨a, cap, rfl, hk⟩ := hk
  have fin : ∀ (e : Ending) (w' : World) (xs : List Value), xs = ks.map Value.string → (∃ v', e = .returned v' ∧ w'.ownsRow w.heap.size 9 1 v' ks.length xs ∧ v' ≠ .slice none 0 0 ∧ Below w.heap.size w w') → ∃ a cap, e = .returned (.slice a ks.length cap) ∧ IsKeys (plainW w') w.heap.size ks (.slice a ks.length cap) ∧ Below w.heap.size w w' := by
    rintro e w' xs rfl ⟨v', rfl, ho, hv, hb⟩
    rcases ho.2 with ⟨h, _⟩ | ⟨g, cap', cur, rfl, hg, hh, _⟩
    · exact absurd h hv
    · refine ⟨_, _, rfl, ⟨_, _, rfl, .inr ⟨g, 0, rfl, hg, fun j hj => ?_⟩⟩, hb⟩
      rw [Nat.zero_add]
      refine hideP_of rfl (plainB_of hh) (own_cellAt ho j _ (by rw [List.getElem?_map, List.getElem?_eq_getElem hj, List.getD_eq_getElem?_getD, List.getElem?_eq_getElem hj]; rfl))
  rcases a with _ | a
  · rcases hk with rfl | ⟨b, off, h, _⟩
    · refine (Tryz.slices_Clone_string_nil 0 cap w).mono ?_
      rintro e w' ⟨rfl, rfl⟩
      exact ⟨none, 0, rfl, ⟨_, _, rfl, .inl rfl⟩, Below.refl _ _⟩
    · cases h
  · rcases hk with rfl | ⟨b, off, h, _, hc⟩
    · refine (Tryz.slices_Clone_string_zero a cap w).mono ?_
      intro e w' h
      exact fin e w' [] rfl h
    · cases h
      refine (Tryz.slices_Clone_string b off ks.length cap ks w (Nat.le_refl _) (by omega) hc).mono ?_
      intro e w' h
      exact fin e w' _ (by rw [List.take_length]) h
theorem cloneK_any (ks : List ByteArray) (c : Value) (w : World) (hk : IsKeys w 0 ks c) (hn : ks.length ≤ 1000000000000) :
    Calls Tryz.prog 58 #[c] w fun e w' => ∃ a cap, e = .returned (.slice a ks.length cap) ∧ IsKeys w' w.heap.size ks (.slice a ks.length cap) ∧ Below w.heap.size w w' := by
  refine (cloneKP_any ks c w hk hn).mono ?_
  rintro e w' ⟨a, cap, rfl, h, hb⟩
  exact ⟨a, cap, rfl, h.stays (fun y u hl hu => hideP_stays _ y u hl hu) (Nat.le_refl _), hb⟩
/-- a row's cells are values -/
def OldFrom (w0 : World) (l : List JV) (cur : Array Value) (i : Nat) : Prop :=
  ∀ (j : Nat) (x : JV), i ≤ j → l[j]? = some x → ∃ c0 c1 c2 c3, cur[j * 4]? = some c0 ∧ cur[j * 4 + 1]? = some c1 ∧ cur[j * 4 + 2]? = some c2 ∧ cur[j * 4 + 3]? = some c3 ∧ IsV w0 0 x c0 c1 c2 c3
theorem IsV.one {w : World} {lo : Nat} {v : JV} {c0 c1 c2 c3 : Value} (h : IsV w lo v c0 c1 c2 c3) : c0.oneCell' = true ∧ c1.oneCell' = true ∧ c2.oneCell' = true ∧ c3.oneCell' = true := by
  obtain ⟨_, _, _, _, _, _, _, _, rfl, rfl, rfl, rfl⟩ := h.shape
  exact ⟨rfl, rfl, rfl, rfl⟩
/-- the cells of a row as a list -/
theorem row_news {w : World} : ∀ (l : List JV) (b off : Nat), IsRow w 0 l b off → ∃ news : List Value, news.length = l.length * 4 ∧ (∀ j u, news[j]? = some u → w.cell? ⟨b, off + j, none⟩ = some u) ∧ (∀ u ∈ news, u.oneCell' = true) ∧
    ∀ (j : Nat) (x : JV), l[j]? = some x → ∃ c0 c1 c2 c3, news[j * 4]? = some c0 ∧ news[j * 4 + 1]? = some c1 ∧ news[j * 4 + 2]? = some c2 ∧ news[j * 4 + 3]? = some c3 ∧ IsV w 0 x c0 c1 c2 c3
  | [], b, off, _ => ⟨[], rfl, by simp, by simp, by simp⟩
  | v :: t, b, off, h => by
    simp only [IsRow] at h
    obtain ⟨⟨c0, c1, c2, c3, h0, h1, h2, h3, hV⟩, ht⟩ := h
    obtain ⟨ns, hl, hc, ho, hx⟩ := row_news t b (off + 4) ht
    obtain ⟨o0, o1, o2, o3⟩ := hV.one
    refine ⟨c0 :: c1 :: c2 :: c3 :: ns, by simp [hl]; omega, ?_, ?_, ?_⟩
    · intro j u hu
      rcases j with _ | _ | _ | _ | j
      · simp only [List.getElem?_cons_zero, Option.some.injEq] at hu; subst hu; exact h0
      · simp only [List.getElem?_cons_succ, List.getElem?_cons_zero, Option.some.injEq] at hu; subst hu; exact h1
      · simp only [List.getElem?_cons_succ, List.getElem?_cons_zero, Option.some.injEq] at hu; subst hu; exact h2
      · simp only [List.getElem?_cons_succ, List.getElem?_cons_zero, Option.some.injEq] at hu; subst hu; exact h3
      · simp only [List.getElem?_cons_succ] at hu
        have := hc j u hu
        rw [show off + (j + 1 + 1 + 1 + 1) = off + 4 + j by omega]
        exact this
    · intro u hu
      simp only [List.mem_cons] at hu
      rcases hu with rfl | rfl | rfl | rfl | hu
      · exact o0
      · exact o1
      · exact o2
      · exact o3
      · exact ho u hu
    · intro j x hj
      rcases j with _ | j
      · simp only [List.getElem?_cons_zero, Option.some.injEq] at hj
        subst hj
        exact ⟨c0, c1, c2, c3, rfl, rfl, rfl, rfl, hV⟩
      · obtain ⟨e0, e1, e2, e3, q0, q1, q2, q3, hq⟩ := hx j x (by simpa using hj)
        refine ⟨e0, e1, e2, e3, ?_, ?_, ?_, ?_, hq⟩
        · rw [show (j + 1) * 4 = j * 4 + 1 + 1 + 1 + 1 by omega]; simpa using q0
        · rw [show (j + 1) * 4 + 1 = j * 4 + 1 + 1 + 1 + 1 + 1 by omega]; simpa using q1
        · rw [show (j + 1) * 4 + 2 = j * 4 + 2 + 1 + 1 + 1 + 1 by omega]; simpa using q2
        · rw [show (j + 1) * 4 + 3 = j * 4 + 3 + 1 + 1 + 1 + 1 by omega]; simpa using q3
set_option maxRecDepth 10000000 in
set_option maxHeartbeats 4000000 in
theorem cloneV_zero (ad : Addr) (cap : Nat) (w : World) :
    Calls Tryz.prog 59 #[.slice (some ad) 0 cap] w fun e w' => ∃ a' cap', e = .returned (.slice a' 0 cap') ∧ Below w.heap.size w w' := by
  go_enter Tryz.func59, Tryz.ntmps59
  have hu := Tryz.underlying24
  have he : ∀ w : World, (binOp .eql 24 (.slice (some ad) 0 cap) (.slice none 0 0)).run Tryz.prog w = .ok (.bool false) w := fun w => Lib.run_eql_slice_nil w _ _ _ _ _ _ _ hu
  go_wp2
  go_ret
  exact ⟨_, _, rfl, (Below.refl _ w).alloc (Nat.le_refl _) _⟩
/-- a copy of a row of values: its block holds what stood in the row -/
theorem cloneV_any (w0 : World) (l : List JV) (a : Option Addr) (cap : Nat) (w : World) (h : IsL w0 l (.slice a l.length cap)) (hb0 : Below w0.heap.size w0 w) (hn : l.length ≤ 1000000000000) :
    Calls Tryz.prog 59 #[.slice a l.length cap] w fun e w' => ∃ a' cap', e = .returned (.slice a' l.length cap') ∧ Below w.heap.size w w' ∧
      (l = [] ∨ ∃ g cur, a' = some ⟨g, 0, none⟩ ∧ w.heap.size ≤ g ∧ w'.heap[g]? = some (.cells cur 26 (0, 0)) ∧ OldFrom w0 l cur 0) := by
  obtain ⟨i0, hi0, hz0, hz1, hz2⟩ := info_parts infoValue
  have hzz : ∀ w : World, (Go.sizeOf 26).run Tryz.prog w = .ok 4 w := fun w => Tryz.sizeOf26 w
  rcases a with _ | ad
  · obtain ⟨a, c, e, hl⟩ := h
    have hl0 : l = [] := by
      rcases hl with hl | ⟨b, off, e2, _⟩
      · exact hl
      · rw [e2] at e; cases e
    subst hl0
    refine Calls.mono (AnyE.slices_Clone_nil layCloneV 0 cap w) ?_
    rintro e w' ⟨rfl, rfl⟩
    exact ⟨none, 0, rfl, Below.refl _ _, .inl rfl⟩
  · obtain ⟨a, c, e, hl⟩ := h
    rcases hl with rfl | ⟨b, off, e2, hr⟩
    · refine (cloneV_zero ad cap w).mono ?_
      rintro e w' ⟨a', cap', rfl, hb⟩
      exact ⟨a', cap', rfl, hb, .inl rfl⟩
    · rw [e2] at e
      cases e
      obtain ⟨news, hnl, hnc, hno, hnx⟩ := row_news l b off hr
      refine Calls.mono (AnyE.slices_Clone layCloneV i0 _ 4 72 hi0 hz0 hz1 hz2 rfl (by omega) hzz b off l.length cap news w hnl (by unfold maxLen; omega) (by omega) (fun j u hu => cell_on hb0 (hnc j u hu)) hno) ?_
      rintro e w' ⟨v', rfl, ho, hv, hb⟩
      rcases ho.2 with ⟨h, _⟩ | ⟨g, cap', cur, rfl, hg, hh, _, _, _, htk⟩
      · exact absurd h hv
      · refine ⟨_, _, rfl, hb, .inr ⟨g, cur, rfl, hg, hh, ?_⟩⟩
        intro j x _ hx
        obtain ⟨c0, c1, c2, c3, q0, q1, q2, q3, hq⟩ := hnx j x hx
        rw [← htk] at q0 q1 q2 q3
        have up : ∀ (k : Nat) (u : Value), (cur.toList.take (l.length * 4))[k]? = some u → cur[k]? = some u := by
          intro k u h
          rw [List.getElem?_take] at h
          split at h
          · simpa using h
          · cases h
        exact ⟨c0, c1, c2, c3, up _ _ q0, up _ _ q1, up _ _ q2, up _ _ q3, hq⟩
end Go.Proofs.YtakdhfjlhkejdaaGreatDoor

/-
  MATHEMATICS for package json's Copy: a copy of which some rows are still to be gone through.
-/
set_option linter.unusedVariables false
namespace Go.Proofs.YtakdhfjlhkejdaaGreatDoor
open Go.RowKit
mutual
/-- four cells that are a copy, but for the rows that are still to be gone through -/
def CV (w : World) (lo : Nat) (Pn : Nat → List JV → Prop) : JV → Value → Value → Value → Value → Prop
  | .mk k t ks l, c0, c1, c2, c3 => c0 = .int .u8 (k : Nat) ∧ c1 = .string t ∧ IsKeys w lo ks c2 ∧ ∃ a cap, c3 = .slice a l.length cap ∧ (l = [] ∨ ∃ b, a = some ⟨b, 0, none⟩ ∧ lo ≤ b ∧ (Pn b l ∨ CRow w lo Pn l b 0))
def CRow (w : World) (lo : Nat) (Pn : Nat → List JV → Prop) : List JV → Nat → Nat → Prop
  | [], _, _ => True
  | v :: t, b, off => (∃ c0 c1 c2 c3, w.cell? ⟨b, off, none⟩ = some c0 ∧ w.cell? ⟨b, off + 1, none⟩ = some c1 ∧ w.cell? ⟨b, off + 2, none⟩ = some c2 ∧ w.cell? ⟨b, off + 3, none⟩ = some c3 ∧ CV w lo Pn v c0 c1 c2 c3) ∧ CRow w lo Pn t b (off + 4)
end
mutual
theorem CV.step {w w' : World} {lo : Nat} {Pn Pn' : Nat → List JV → Prop} (hs : Stays lo w w') (hp : ∀ b l, Pn b l → Pn' b l ∨ CRow w' lo Pn' l b 0) : ∀ (v : JV) (c0 c1 c2 c3 : Value), CV w lo Pn v c0 c1 c2 c3 → CV w' lo Pn' v c0 c1 c2 c3
  | .mk k t ks l, c0, c1, c2, c3, h => by
    simp only [CV] at h ⊢
    obtain ⟨e0, e1, hk, a, cap, e3, h⟩ := h
    refine ⟨e0, e1, hk.stays hs (Nat.le_refl _), a, cap, e3, ?_⟩
    rcases h with h | ⟨b, e, hb, h⟩
    · exact .inl h
    · refine .inr ⟨b, e, hb, ?_⟩
      rcases h with h | h
      · exact hp b l h
      · exact .inr (CRow.step hs hp l b 0 hb h)
theorem CRow.step {w w' : World} {lo : Nat} {Pn Pn' : Nat → List JV → Prop} (hs : Stays lo w w') (hp : ∀ b l, Pn b l → Pn' b l ∨ CRow w' lo Pn' l b 0) : ∀ (l : List JV) (b off : Nat), lo ≤ b → CRow w lo Pn l b off → CRow w' lo Pn' l b off
  | [], _, _, _, _ => by simp only [CRow]
  | v :: t, b, off, hb, h => by
    simp only [CRow] at h ⊢
    obtain ⟨⟨c0, c1, c2, c3, h0, h1, h2, h3, hv⟩, ht⟩ := h
    exact ⟨⟨c0, c1, c2, c3, hs _ _ hb h0, hs _ _ hb h1, hs _ _ hb h2, hs _ _ hb h3, CV.step hs hp v c0 c1 c2 c3 hv⟩, CRow.step hs hp t b (off + 4) hb ht⟩
end
mutual
theorem CV.done {w : World} {lo : Nat} {Pn : Nat → List JV → Prop} (hp : ∀ b l, ¬ Pn b l) : ∀ (v : JV) (c0 c1 c2 c3 : Value), CV w lo Pn v c0 c1 c2 c3 → IsV w lo v c0 c1 c2 c3
  | .mk k t ks l, c0, c1, c2, c3, h => by
    simp only [CV, IsV] at h ⊢
    obtain ⟨e0, e1, hk, a, cap, e3, h⟩ := h
    refine ⟨e0, e1, hk, a, cap, e3, ?_⟩
    rcases h with h | ⟨b, e, hb, h⟩
    · exact .inl h
    · rcases h with h | h
      · exact absurd h (hp b l)
      · exact .inr ⟨b, 0, e, hb, CRow.done hp l b 0 h⟩
theorem CRow.done {w : World} {lo : Nat} {Pn : Nat → List JV → Prop} (hp : ∀ b l, ¬ Pn b l) : ∀ (l : List JV) (b off : Nat), CRow w lo Pn l b off → IsRow w lo l b off
  | [], _, _, _ => by simp only [IsRow]
  | v :: t, b, off, h => by
    simp only [CRow, IsRow] at h ⊢
    obtain ⟨⟨c0, c1, c2, c3, h0, h1, h2, h3, hv⟩, ht⟩ := h
    exact ⟨⟨c0, c1, c2, c3, h0, h1, h2, h3, CV.done hp v c0 c1 c2 c3 hv⟩, CRow.done hp t b (off + 4) ht⟩
end
theorem CRow.of {w : World} {lo : Nat} {Pn : Nat → List JV → Prop} : ∀ (l : List JV) (b off : Nat), (∀ (j : Nat) (x : JV), l[j]? = some x → ∃ c0 c1 c2 c3, w.cell? ⟨b, off + j * 4, none⟩ = some c0 ∧ w.cell? ⟨b, off + j * 4 + 1, none⟩ = some c1 ∧ w.cell? ⟨b, off + j * 4 + 2, none⟩ = some c2 ∧ w.cell? ⟨b, off + j * 4 + 3, none⟩ = some c3 ∧ CV w lo Pn x c0 c1 c2 c3) → CRow w lo Pn l b off
  | [], _, _, _ => by simp only [CRow]
  | v :: t, b, off, h => by
    simp only [CRow]
    refine ⟨by simpa using h 0 v rfl, CRow.of t b (off + 4) fun j x hx => ?_⟩
    have := h (j + 1) x (by simpa using hx)
    rw [show off + (j + 1) * 4 = off + 4 + j * 4 by omega] at this
    exact this
/-- a row that is still to be gone through: its block, what it holds, its capacity -/
abbrev CE := Nat × List JV × Nat
def Pend (S : List CE) (b : Nat) (l : List JV) : Prop := ∃ c, (b, l, c) ∈ S
def hidS (r : Nat) (S : List CE) : Nat → Bool := fun b => b == r || S.any fun e => e.1 == b
theorem hidS_iff {r b : Nat} {S : List CE} : hidS r S b = true ↔ b = r ∨ ∃ e ∈ S, e.1 = b := by simp [hidS]
theorem hidS_no {r b : Nat} {S : List CE} (h1 : b ≠ r) (h2 : ∀ e ∈ S, e.1 ≠ b) : hidS r S b = false := by
  rw [Bool.eq_false_iff]
  intro h
  rcases hidS_iff.1 h with h | ⟨e, he, h⟩
  · exact h1 h
  · exact h2 e he h
def sliceOf (e : CE) : Value := .slice (some ⟨e.1, 0, none⟩) e.2.1.length e.2.2
def totC : List CE → Nat
  | [] => 0
  | e :: t => sizeL e.2.1 + totC t
theorem totC_append : ∀ S T : List CE, totC (S ++ T) = totC S + totC T
  | [], T => by simp [totC]
  | e :: S, T => by simp [totC, totC_append S T]; omega
/-- one such row -/
structure RowOK (w0 wr : World) (lo r : Nat) (e : CE) : Prop where
  new : lo ≤ e.1
  far : e.1 ≠ r
  ne : e.2.1 ≠ []
  sz : sizeL e.2.1 ≤ 1000000000000
  kz : keysL e.2.1 ≤ 1000000000000
  old : ∃ cur, wr.heap[e.1]? = some (.cells cur 26 (0, 0)) ∧ OldFrom w0 e.2.1 cur 0
theorem RowOK.lt {w0 wr : World} {lo r : Nat} {e : CE} (h : RowOK w0 wr lo r e) : e.1 < wr.heap.size := by
  obtain ⟨cur, hc, _⟩ := h.old
  exact (Array.getElem?_eq_some_iff.1 hc).1
theorem totC_len {w0 wr : World} {lo r : Nat} : ∀ S : List CE, (∀ e ∈ S, RowOK w0 wr lo r e) → S.length ≤ totC S
  | [], _ => by simp [totC]
  | e :: S, h => by
    have h1 := totC_len S (fun x hx => h x (List.mem_cons_of_mem _ hx))
    have h3 := len_sizeL e.2.1
    have h4 : 0 < e.2.1.length := List.length_pos_iff.2 (h e (List.mem_cons_self ..)).ne
    simp only [totC, List.length_cons]
    omega
/-- what stands between two rounds -/
structure CopyI (w0 : World) (lo : Nat) (v : JV) (wb N m : Nat) (S : List CE) (r cap : Nat) (wr : World) : Prop where
  own : wr.ownsRow lo 24 1 (.slice (some ⟨r, 0, none⟩) S.length cap) S.length (S.map sliceOf)
  rows : ∀ e ∈ S, RowOK w0 wr lo r e
  dis : (S.map (·.1)).Nodup
  root : Pend S wb [v] ∨ CRow (hideP wr (hidS r S)) lo (Pend S) [v] wb 0
  wnew : lo ≤ wb
  tot : totC S = m
  le : m ≤ N
  los : lo ≤ w0.heap.size
  bel : Below w0.heap.size w0 wr
def DoneTo (hw : World) (lo : Nat) (Pn : Nat → List JV → Prop) (l : List JV) (cur : Array Value) (i : Nat) : Prop :=
  ∀ (j : Nat) (x : JV), j < i → l[j]? = some x → ∃ c0 c1 c2 c3, cur[j * 4]? = some c0 ∧ cur[j * 4 + 1]? = some c1 ∧ cur[j * 4 + 2]? = some c2 ∧ cur[j * 4 + 3]? = some c3 ∧ CV hw lo Pn x c0 c1 c2 c3
/-- what stands while a row is gone through -/
structure CopyJ (w0 : World) (lo : Nat) (v : JV) (wb m0 : Nat) (l : List JV) (g i : Nat) (S : List CE) (r cap : Nat) (wr : World) (cur : Array Value) : Prop where
  own : wr.ownsRow lo 24 1 (.slice (some ⟨r, 0, none⟩) S.length cap) S.length (S.map sliceOf)
  rows : ∀ e ∈ S, RowOK w0 wr lo r e
  dis : (S.map (·.1)).Nodup
  gnew : lo ≤ g
  gfar : g ≠ r
  gdis : ∀ e ∈ S, e.1 ≠ g
  row : wr.heap[g]? = some (.cells cur 26 (0, 0))
  old : OldFrom w0 l cur i
  don : DoneTo (hideP wr (hidS r ((g, l, 0) :: S))) lo (Pend S) l cur i
  root : Pend ((g, l, 0) :: S) wb [v] ∨ CRow (hideP wr (hidS r ((g, l, 0) :: S))) lo (Pend ((g, l, 0) :: S)) [v] wb 0
  wnew : lo ≤ wb
  tot : totC S + sizeL (l.drop i) + i ≤ m0
  los : lo ≤ w0.heap.size
  bel : Below w0.heap.size w0 wr
theorem hide_mono {w : World} {G G' : Nat → Bool} (h : ∀ b, G' b = true → G b = true) (lo : Nat) : Stays lo (hideP w G) (hideP w G') := by
  intro x c _ hx
  obtain ⟨h1, h2, h3⟩ := hideP_some hx
  refine hideP_of ?_ h2 h3
  cases h' : G' x.block with
  | false => rfl
  | true => rw [h _ h'] at h1; cases h1
/-- a row is taken from the list -/
theorem CopyI.first {w0 wr : World} {lo wb N m g c r cap : Nat} {v : JV} {l : List JV} {S : List CE} (h : CopyI w0 lo v wb N m (S ++ [(g, l, c)]) r cap wr) :
    ∃ cur, CopyJ w0 lo v wb m l g 0 S r cap wr cur := by
  have hg := h.rows (g, l, c) (by simp)
  obtain ⟨cur, hc, ho⟩ := hg.old
  have hd := h.dis
  rw [List.map_append, List.nodup_append] at hd
  have ht := h.tot
  rw [totC_append] at ht
  have hown := h.own
  rw [List.length_append, List.map_append] at hown
  have hh : hidS r (S ++ [(g, l, c)]) = hidS r ((g, l, 0) :: S) := by
    funext b
    simp [hidS, Bool.or_comm]
  have hP : ∀ b m, Pend (S ++ [(g, l, c)]) b m → Pend ((g, l, 0) :: S) b m := by
    rintro b m ⟨k, hk⟩
    rcases List.mem_append.1 hk with hk | hk
    · exact ⟨k, List.mem_cons_of_mem _ hk⟩
    · rw [List.mem_singleton] at hk
      cases hk
      exact ⟨0, List.mem_cons_self ..⟩
  refine ⟨cur, ⟨ownsRow_pop (by simp) hown, fun e he => h.rows e (by simp [he]), hd.1, hg.new, hg.far, ?_, hc, ho, fun j x hj => by omega, ?_, h.wnew, ?_, h.los, h.bel⟩⟩
  · intro e he
    exact hd.2.2 e.1 (List.mem_map_of_mem he) g (by simp)
  · rcases h.root with hr | hr
    · exact .inl (hP _ _ hr)
    · rw [hh] at hr
      exact .inr (CRow.step (Stays.refl _ _) (fun b l hb => .inl (hP b l hb)) _ _ _ h.wnew hr)
  · simp only [totC] at ht
    simp only [List.drop_zero]
    omega
/-- the row is done -/
theorem CopyJ.last {w0 wr : World} {lo wb N m0 g r cap : Nat} {v : JV} {l : List JV} {S : List CE} {cur : Array Value} (h : CopyJ w0 lo v wb m0 l g l.length S r cap wr cur) (hn : 0 < l.length) (hN : m0 ≤ N) :
    ∃ k, k < m0 ∧ CopyI w0 lo v wb N k S r cap wr := by
  have ht := h.tot
  have hst : Stays lo (hideP wr (hidS r ((g, l, 0) :: S))) (hideP wr (hidS r S)) := by
    refine hide_mono (fun b hb => ?_) lo
    rcases hidS_iff.1 hb with e | ⟨e, he, e2⟩
    · exact hidS_iff.2 (.inl e)
    · exact hidS_iff.2 (.inr ⟨e, List.mem_cons_of_mem _ he, e2⟩)
  have hrow : CRow (hideP wr (hidS r S)) lo (Pend S) l g 0 := by
    refine CRow.of l g 0 fun j x hx => ?_
    obtain ⟨c0, c1, c2, c3, q0, q1, q2, q3, hq⟩ := h.don j x (List.getElem?_eq_some_iff.1 hx).1 hx
    have hcell : ∀ (k : Nat) (u : Value), cur[k]? = some u → (hideP wr (hidS r S)).cell? ⟨g, k, none⟩ = some u := by
      intro k u hk
      exact hideP_of (hidS_no h.gfar h.gdis) (plainB_of h.row) ((Lib.cell_of_heap h.row k).trans hk)
    rw [Nat.zero_add]
    exact ⟨c0, c1, c2, c3, hcell _ _ q0, hcell _ _ q1, hcell _ _ q2, hcell _ _ q3, CV.step hst (fun b l hb => .inl hb) _ _ _ _ _ hq⟩
  have hP : ∀ b m, Pend ((g, l, 0) :: S) b m → Pend S b m ∨ CRow (hideP wr (hidS r S)) lo (Pend S) m b 0 := by
    rintro b m ⟨k, hk⟩
    rcases List.mem_cons.1 hk with hk | hk
    · cases hk
      exact .inr hrow
    · exact .inl ⟨k, hk⟩
  refine ⟨totC S, by omega, h.own, h.rows, h.dis, ?_, h.wnew, rfl, by omega, h.los, h.bel⟩
  rcases h.root with hr | hr
  · exact hP _ _ hr
  · exact .inr (CRow.step hst hP _ _ _ h.wnew hr)
end Go.Proofs.YtakdhfjlhkejdaaGreatDoor
