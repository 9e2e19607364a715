/-
  CONTRACT of Alter, over a disk's state.
-/
import Derived.Test.YtlkgfimignlgaaaCDiskWk
import Derived.Laws.BitsAllLaws
set_option linter.unusedSimpArgs false
set_option linter.unusedVariables false
set_option linter.unusedVariables false
set_option linter.unusedSimpArgs false
namespace Go.Proofs.Ytlkgfimignlgaaa
open Go.RowKit
theorem xor_u8 (a b : UInt8) : bits .xor .u8 ((a.toNat : Nat) : Int) ((b.toNat : Nat) : Int) = (((a ^^^ b).toNat : Nat) : Int) := by
  rw [u8_xor_nat _ _ a.toNat_lt b.toNat_lt, UInt8.toNat_xor]
def altB (l : List UInt8) (k : Nat) (b : UInt8) : List UInt8 := l.set k (l.getD k 0 ^^^ b)
/-- the first file of a name, its bytes others -/
def altF (s : ByteArray) (l : List UInt8) : Fs → Fs
  | [] => []
  | p :: r => if eqF s p then (p.1, l) :: r else p :: altF s l r
def altE (s : ByteArray) (l : List UInt8) : List En → List En
  | [] => []
  | x :: r => if eqE s x then { x with data := l } :: r else x :: altE s l r
theorem dat_alt (s : ByteArray) (l : List UInt8) : ∀ E : List En, datF (altE s l E) = altF s l (datF E)
  | [] => rfl
  | x :: r => by
    have ih := dat_alt s l r
    unfold datF at ih ⊢
    simp only [altE, List.map_cons, altF]
    have e : eqF s (x.name, x.data) = eqE s x := rfl
    rw [e]
    cases eqE s x with
    | true => rfl
    | false =>
      simp only [Bool.false_eq_true, if_false, List.map_cons]
      rw [ih]
theorem alt_pairs (s : ByteArray) (l : List UInt8) : ∀ E : List En, (altE s l E).map pairE = E.map pairE
  | [] => rfl
  | x :: r => by
    simp only [altE]
    cases eqE s x with
    | true => rfl
    | false =>
      simp only [Bool.false_eq_true, if_false, List.map_cons]
      rw [alt_pairs s l r]
theorem alt_vals (s : ByteArray) (l : List UInt8) : ∀ E : List En, (altE s l E).map (·.val) = E.map (·.val)
  | [] => rfl
  | x :: r => by
    simp only [altE]
    cases eqE s x with
    | true => rfl
    | false =>
      simp only [Bool.false_eq_true, if_false, List.map_cons]
      rw [alt_vals s l r]
theorem alt_rows {w w' : World} {s : ByteArray} {l : List UInt8} {x : En} {g : Nat} (hw : ∀ j, j ≠ g → w'.heap[j]? = w.heap[j]?) (hx : OB w' x.val l) (hg : x.val.ownBlock = some g) :
    ∀ E : List En, getE E s = some x → (∀ y ∈ E, OB w y.val y.data) → (E.Pairwise fun x y => Apart x.val y.val) → ∀ y ∈ altE s l E, OB w' y.val y.data
  | [], h, _, _ => by simp [getE] at h
  | z :: r, h, hr, hp => by
    have hp' := List.pairwise_cons.1 hp
    unfold getE at h
    rw [List.find?_cons] at h
    simp only [altE]
    cases hz : eqE s z with
    | true =>
      rw [hz] at h
      simp only [Option.some.injEq] at h
      subst h
      intro y hy
      simp only [if_true] at hy
      rcases List.mem_cons.1 hy with rfl | hy
      · exact hx
      · exact (hr y (List.mem_cons_of_mem _ hy)).keep fun j hj => hw j fun e => hp'.1 y hy g hg (e ▸ hj)
    | false =>
      rw [hz] at h
      intro y hy
      simp only [Bool.false_eq_true, if_false] at hy
      rcases List.mem_cons.1 hy with rfl | hy
      · have hxm : x ∈ r := List.mem_of_find?_eq_some h
        exact (hr y (List.mem_cons_self ..)).keep fun j hj => hw j fun e => hp'.1 x hxm j hj (e ▸ hg)
      · exact alt_rows hw hx hg r h (fun y hy => hr y (List.mem_cons_of_mem _ hy)) hp'.2 y hy
theorem FM.alter {w : World} {mb g n c k : Nat} {E : List En} {s : ByteArray} {x : En} (h : FM w mb E) (hx : getE E s = some x) (hv : x.val = .slice (some ⟨g, 0, none⟩) n c) (b : UInt8) :
    FM (w.setCell ⟨g, k, none⟩ (.int .u8 ((b.toNat : Nat) : Int))) mb (altE s (x.data.set k b) E) := by
  have hg : x.val.ownBlock = some g := by rw [hv]; rfl
  have hxm : x ∈ E := List.mem_of_find?_eq_some hx
  have hOB := h.rows x hxm
  have hn : n = x.data.length := by
    obtain ⟨a, cap, e⟩ := hOB.shape
    rw [hv] at e
    injection e
  have hne : mb ≠ g := fun e => h.ne hxm (e ▸ hg)
  have hst : OB (w.setCell ⟨g, k, none⟩ (.int .u8 ((b.toNat : Nat) : Int))) x.val (x.data.set k b) := by
    unfold OB at hOB ⊢
    rw [hv] at hOB ⊢
    rw [← hn] at hOB
    have := (hOB.stored k (.int .u8 ((b.toNat : Nat) : Int))).1
    rw [List.length_set, ← hn]
    have e : (nB (x.data.set k b)).map (Value.int .u8) = ((nB x.data).map (Value.int .u8)).set k (.int .u8 ((b.toNat : Nat) : Int)) := by
      unfold nB
      rw [List.map_set, List.map_set]
    rw [e]
    exact this
  refine ⟨?_, alt_rows (fun j hj => Below.heap_setCell _ _ _ _ hj) hst hg E hx h.rows h.apart, ?_⟩
  · obtain ⟨es, clock, hb, F, hs, hD⟩ := h.map
    have e1 : (altE s (x.data.set k b) E).length = E.length := by
      have := congrArg List.length (alt_vals s (x.data.set k b) E)
      simpa using this
    have e2 : datE (altE s (x.data.set k b) E) = datE E := by
      unfold datE
      rw [alt_pairs]
    rw [e1, e2]
    exact ⟨es, clock, (Below.heap_setCell _ _ _ _ hne).trans hb, F, hs, hD⟩
  · have hp := h.apart
    have e : ∀ E : List En, E.Pairwise (fun x y => Apart x.val y.val) ↔ (E.map (·.val)).Pairwise Apart := fun E => by rw [List.pairwise_map]
    rw [e, alt_vals, ← e]
    exact hp
theorem altE_foot (m : Nat) (s : ByteArray) (l : List UInt8) (E : List En) (j : Nat) : Foot m (altE s l E) j ↔ Foot m E j := by
  unfold Foot
  have e : ∀ E : List En, (∃ x ∈ E, x.val.ownBlock = some j) ↔ (∃ v ∈ E.map (·.val), v.ownBlock = some j) := fun E => ⟨fun ⟨x, h1, h2⟩ => ⟨x.val, List.mem_map.2 ⟨x, h1, rfl⟩, h2⟩, fun ⟨v, h1, h2⟩ => by obtain ⟨x, h3, rfl⟩ := List.mem_map.1 h1; exact ⟨x, h3, h2⟩⟩
  rw [e, alt_vals, ← e]
theorem alt_sum (s : ByteArray) (l : List UInt8) : ∀ F : Fs, l.length = (getF F s).length → sumF (altF s l F) = sumF F
  | [], _ => rfl
  | p :: r, h => by
    unfold getF at h
    rw [List.find?_cons] at h
    simp only [altF]
    cases hp : eqF s p with
    | true =>
      rw [hp] at h
      simp only at h
      simp only [if_true]
      unfold sumF
      simp only [List.map_cons, List.sum_cons]
      rw [h]
    | false =>
      rw [hp] at h
      have ih := alt_sum s l r h
      simp only [Bool.false_eq_true, if_false]
      unfold sumF at ih ⊢
      simp only [List.map_cons, List.sum_cons]
      rw [ih]
theorem alt_len (s : ByteArray) (l : List UInt8) : ∀ F : Fs, (altF s l F).length = F.length
  | [] => rfl
  | p :: r => by
    simp only [altF]
    split
    · rfl
    · rw [List.length_cons, List.length_cons, alt_len s l r]
def altS (st : Ds) (s : ByteArray) (at' : Int) (b : UInt8) : Int × Ds :=
  if hasF st.now s = false then (5, st)
  else if at' < 0 ∨ ((getF st.now s).length : Int) ≤ at' then (2, st)
  else if 0 < st.L.length then (3, st)
  else (0, { st with S := altF s (altB (getF st.now s) at'.toNat b) st.S })
/-- where an entry stands whose bytes are not none -/
theorem ent_at {w : World} {mb : Nat} {E : List En} {s : ByteArray} (h : FM w mb E) {k : Nat} (hk : k < (bytE E s).length) :
    ∃ x g c, getE E s = some x ∧ x.data = bytE E s ∧ x.val = .slice (some ⟨g, 0, none⟩) (bytE E s).length c ∧ valE E s = .slice (some ⟨g, 0, none⟩) (bytE E s).length c ∧ Foot mb E g ∧
      w.cell? ⟨g, k, none⟩ = some (.int .u8 (((bytE E s).getD k 0).toNat : Nat)) ∧ w.frozen? ⟨g, k, none⟩ = false := by
  cases hg : getE E s with
  | none =>
    unfold bytE at hk
    rw [hg] at hk
    simp at hk
  | some x =>
    have hb : bytE E s = x.data := by unfold bytE; rw [hg]
    have hv : valE E s = x.val := by unfold valE; rw [hg]
    have hm : x ∈ E := List.mem_of_find?_eq_some hg
    have hO := h.rows x hm
    rw [hb] at hk ⊢
    rw [hv]
    rcases hO.2 with ⟨_, hn⟩ | ⟨g, cap, cur, e, h1, h2, h3⟩
    · omega
    · refine ⟨x, g, cap, rfl, rfl, e, e, .inr ⟨x, hm, by rw [e]; rfl⟩, ?_, ?_⟩
      · unfold OB at hO
        rw [e] at hO
        rw [hO.cellAt k (by omega)]
        unfold nB
        rw [List.getElem?_map, List.getElem?_map, List.getElem?_eq_getElem hk]
        simp [List.getD, hk]
      · unfold OB at hO
        rw [e] at hO
        exact hO.frozenAt k
theorem turn_cell {w : World} {g k : Nat} {A : Nat → Prop} (hg : A g) (v : Value) : Turn w (w.setCell ⟨g, k, none⟩ v) A := ⟨rfl, rfl, rfl, by simp [World.setCell], fun j hj hn => Below.heap_setCell _ _ _ _ (fun e => hn (by have e' : j = g := e; rw [e']; exact hg))⟩
end Go.Proofs.Ytlkgfimignlgaaa
