/-
  MATHEMATICS of files that are sorted by name: what is put, deleted, altered keeps the order; where a file stands. No conditions.
-/
import Derived.Test.YtlkgfimignlgaaaCDiskRf3
import Derived.Test.YtlkgfimignlgaaaCDiskAl2
set_option linter.unusedSimpArgs false
set_option linter.unusedVariables false
set_option linter.unusedVariables false
set_option linter.unusedSimpArgs false
namespace Go.Proofs.Ytlkgfimignlgaaa
open Go.RowKit
def SortF (F : Fs) : Prop := F.Pairwise fun p q => p.1.data.toList < q.1.data.toList
theorem SortF.del {F : Fs} (h : SortF F) (s : ByteArray) : SortF (delF F s) := List.Pairwise.filter _ h
theorem mem_insF (p q : ByteArray × List UInt8) : ∀ F : Fs, q ∈ insF p F ↔ q = p ∨ q ∈ F
  | [] => by simp [insF]
  | x :: r => by
    have ih := mem_insF p q r
    simp only [insF]
    split
    · simp
    · rw [List.mem_cons, ih, List.mem_cons]
      constructor
      · rintro (h | h | h)
        · exact .inr (.inl h)
        · exact .inl h
        · exact .inr (.inr h)
      · rintro (h | h | h)
        · exact .inr (.inl h)
        · exact .inl h
        · exact .inr (.inr h)
theorem bef_no {s t : ByteArray} (h : ¬ (litE s).before (litE t) = true) (hne : ¬ t.data.toList = s.data.toList) : t.data.toList < s.data.toList := by
  have e := bef_lt s t
  unfold bef at e
  rw [e] at h
  have h : ¬ s.data.toList < t.data.toList := by simpa using h
  rcases List.le_total t.data.toList s.data.toList with h3 | h3
  · exact Std.lt_of_le_of_ne h3 hne
  · exact absurd (Std.lt_of_le_of_ne h3 (Ne.symm hne)) h
theorem bef_is {s t : ByteArray} (h : (litE s).before (litE t) = true) : s.data.toList < t.data.toList := by
  have e := bef_lt s t
  unfold bef at e
  rw [e] at h
  exact of_decide_eq_true h
theorem SortF.ins {p : ByteArray × List UInt8} : ∀ {F : Fs}, SortF F → (∀ q ∈ F, eqF p.1 q = false) → SortF (insF p F)
  | [], _, _ => List.pairwise_singleton _ _
  | x :: r, h, hn => by
    have hx := List.pairwise_cons.1 h
    simp only [insF]
    split
    · rename_i hb
      have hlt := bef_is hb
      exact List.Pairwise.cons (fun q hq => by
        rcases List.mem_cons.1 hq with rfl | hq
        · exact hlt
        · exact List.lt_trans hlt (hx.1 q hq)) h
    · rename_i hb
      refine List.Pairwise.cons (fun q hq => ?_) (SortF.ins hx.2 fun q hq => hn q (List.mem_cons_of_mem _ hq))
      rcases (mem_insF p q r).1 hq with rfl | hq
      · have hne := hn x (List.mem_cons_self ..)
        unfold eqF at hne
        exact bef_no hb (by simpa using hne)
      · exact hx.1 q hq
theorem SortF.put {F : Fs} (h : SortF F) (s : ByteArray) (l : List UInt8) : SortF (putF F s l) :=
  (h.del s).ins fun q hq => by
    unfold delF at hq
    have := (List.mem_filter.1 hq).2
    show eqF s q = false
    cases e : eqF s q
    · rfl
    · rw [e] at this; cases this
theorem SortF.does {F : Fs} (h : SortF F) (k : Nat) (op : Op) : SortF (doF k F op) := by
  cases op with
  | app s d => exact h.put _ _
  | cut s n =>
    show SortF (if k = 16777217 then _ else F)
    split
    · exact h.put _ _
    · exact h
  | ren s t =>
    show SortF (if k = 16777217 then _ else F)
    split
    · exact (h.del _).put _ _
    · exact h
  | rem s =>
    show SortF (if k = 16777217 then _ else F)
    split
    · exact h.del _
    · exact h
theorem SortF.all : ∀ {L : List Op} {F : Fs}, SortF F → SortF (doAll F L)
  | [], _, h => h
  | op :: L, _, h => SortF.all (L := L) (h.does _ op)
theorem SortF.alt {F : Fs} (s : ByteArray) (l : List UInt8) : SortF F → SortF (altF s l F) := by
  intro h
  have hn : ∀ F : Fs, (altF s l F).map (·.1) = F.map (·.1) := by
    intro F
    induction F with
    | nil => rfl
    | cons p r ih =>
      simp only [altF]
      split
      · rfl
      · rw [List.map_cons, ih]; rfl
  have h1 : (F.map (·.1)).Pairwise fun x y => x.data.toList < y.data.toList := List.pairwise_map.2 h
  rw [← hn F, List.pairwise_map] at h1
  exact h1
/-- names that are sorted are the files' -/
theorem names_same {F : Fs} {L : List (List UInt8)} (hp : L.Perm (namesF F)) (hs : L.Pairwise fun x y => x ≤ y) (h : SortF F) : L = namesF F := by
  have h2 : (namesF F).Pairwise fun x y => x ≤ y := by
    unfold namesF
    exact List.pairwise_map.2 (h.imp fun h => List.le_of_lt h)
  exact List.Perm.eq_of_pairwise (fun a b _ _ h1 h2 => List.le_antisymm h1 h2) hs h2 hp
theorem eqF_lt {s : ByteArray} {p q : ByteArray × List UInt8} (h : p.1.data.toList < q.1.data.toList) (hp : eqF s p = true) : eqF s q = false := by
  unfold eqF at hp ⊢
  have e : p.1.data.toList = s.data.toList := by simpa using hp
  rw [e] at h
  have : ¬ q.1.data.toList = s.data.toList := fun e2 => by rw [e2] at h; exact List.lt_irrefl _ h
  simpa using this
theorem del_none {s : ByteArray} : ∀ {F : Fs}, (∀ q ∈ F, eqF s q = false) → delF F s = F
  | [], _ => rfl
  | q :: r, h => by
    unfold delF
    rw [List.filter_cons, h q (List.mem_cons_self ..)]
    simp only [Bool.not_false, if_true]
    congr 1
    exact del_none fun x hx => h x (List.mem_cons_of_mem _ hx)
theorem alt_put {s : ByteArray} {l : List UInt8} : ∀ {F : Fs}, SortF F → hasF F s = true → putF F s l = altF s l F
  | [], _, h => by simp [hasF] at h
  | p :: r, hs, hh => by
    have hp := List.pairwise_cons.1 hs
    simp only [altF]
    cases e : eqF s p with
    | true =>
      have e1 : p.1 = s := eqF_same (by unfold eqF at e; simpa using e)
      have hr : delF (p :: r) s = r := by
        have h2 : delF r s = r := del_none fun q hq => eqF_lt (hp.1 q hq) e
        unfold delF at h2 ⊢
        rw [List.filter_cons, e]
        simpa using h2
      unfold putF
      rw [hr, if_pos rfl, e1]
      cases r with
      | nil => rfl
      | cons q r' =>
        simp only [insF]
        have hlt := hp.1 q (List.mem_cons_self ..)
        have hb : (litE s).before (litE q.1) = true := by
          have e2 := bef_lt s q.1
          unfold bef at e2
          rw [e2, ← e1]
          exact decide_eq_true hlt
        rw [if_pos hb]
    | false =>
      have hh2 : hasF r s = true := by
        unfold hasF at hh ⊢
        rw [List.any_cons, e] at hh
        simpa using hh
      have ih := alt_put (l := l) hp.2 hh2
      have hd : delF (p :: r) s = p :: delF r s := by
        unfold delF
        rw [List.filter_cons, e]
        rfl
      unfold putF at ih ⊢
      rw [hd]
      simp only [insF, Bool.false_eq_true, if_false]
      have hb : ¬ (litE s).before (litE p.1) = true := by
        intro hb
        have h1 := bef_is hb
        unfold hasF at hh2
        obtain ⟨q, hq, hqe⟩ := List.any_eq_true.1 hh2
        have h2 := hp.1 q hq
        unfold eqF at hqe
        have e3 : q.1.data.toList = s.data.toList := by simpa using hqe
        rw [e3] at h2
        exact List.lt_irrefl _ (List.lt_trans h1 h2)
      rw [if_neg hb, ih]
/-! ### Where a file stands -/
theorem at_no {F : Fs} {s : ByteArray} (h : hasF F s = false) : atF F s = -1 := by
  unfold atF
  have : F.findIdx? (eqF s) = none := by
    rw [List.findIdx?_eq_none_iff]
    intro x hx
    unfold hasF at h
    exact Bool.eq_false_iff.2 fun e => by
      have := List.any_eq_true.2 ⟨x, hx, e⟩
      rw [this] at h
      cases h
  rw [this]
theorem at_is {s : ByteArray} : ∀ {F : Fs}, hasF F s = true → ∃ (k : Nat) (p : ByteArray × List UInt8), F[k]? = some p ∧ atF F s = (k : Nat) ∧ getF F s = p.2 ∧ p.1 = s
  | [], h => by simp [hasF] at h
  | p :: r, h => by
    cases e : eqF s p with
    | true =>
      refine ⟨0, p, rfl, ?_, ?_, eqF_same (by unfold eqF at e; simpa using e)⟩
      · unfold atF; simp [List.findIdx?_cons, e]
      · unfold getF; simp [e]
    | false =>
      have h2 : hasF r s = true := by
        unfold hasF at h ⊢
        rw [List.any_cons, e] at h
        simpa using h
      obtain ⟨k, q, h3, h4, h5, h6⟩ := at_is h2
      refine ⟨k + 1, q, by simpa using h3, ?_, ?_, h6⟩
      · unfold atF at h4 ⊢
        rw [List.findIdx?_cons, e]
        cases hf : r.findIdx? (eqF s) with
        | none => rw [hf] at h4; simp only at h4; omega
        | some j =>
          rw [hf] at h4
          simp only at h4
          simp only [Bool.false_eq_true, if_false, Option.map_some]
          omega
      · unfold getF at h5 ⊢
        rw [List.find?_cons, e]
        exact h5
theorem sum_take {F : Fs} {k : Nat} {p : ByteArray × List UInt8} (h : F[k]? = some p) : sumF (F.take (k + 1)) = sumF (F.take k) + p.2.length := by
  obtain ⟨hk, e⟩ := List.getElem?_eq_some_iff.1 h
  unfold sumF
  rw [List.take_succ_eq_append_getElem hk, e, List.map_append, List.sum_append]
  simp
theorem sum_take_le (F : Fs) (k : Nat) : sumF (F.take k) ≤ sumF F := by
  have : sumF F = sumF (F.take k) + sumF (F.drop k) := by
    unfold sumF
    rw [← List.sum_append, ← List.map_append, List.take_append_drop]
  omega
/-- what is appended is all there -/
theorem app_all {room : Int} {F : Fs} {s d : ByteArray} (hr : room ≤ 16777216) (h : FineF room (doF 16777217 F (.app s d))) : d.size ≤ 16777216 ∧ doF 16777217 F (.app s d) = putF F s (getF F s ++ d.data.toList) := by
  have h1 := getF_le (doF 16777217 F (.app s d)) s
  have h2 : (sumF (doF 16777217 F (.app s d)) : Int) ≤ room := h.1
  have e : getF (doF 16777217 F (.app s d)) s = getF F s ++ d.data.toList.take (min 16777217 d.size) := by
    show getF (putF F s _) s = _
    rw [get_put, if_pos rfl]
  rw [e, List.length_append, List.length_take] at h1
  have h3 : d.data.toList.length = d.size := (Lib.size_eq d).symm
  have hd : d.size ≤ 16777216 := by omega
  refine ⟨hd, ?_⟩
  show putF F s _ = _
  rw [List.take_of_length_le (by omega)]
theorem app_part {room : Int} {F : Fs} {s d : ByteArray} {k : Nat} (hr : room ≤ 16777216) (h : FineF room (doF 16777217 F (.app s d))) (hk : k ≤ d.size) : doF k F (.app s d) = doF 16777217 F (.app s (d.extract 0 k)) := by
  have hd := (app_all hr h).1
  have e : (d.extract 0 k).size = k := by rw [ByteArray.size_extract]; omega
  show putF F s _ = putF F s _
  rw [e]
  congr 2
  have e2 : (d.extract 0 k).data.toList = d.data.toList.take k := by
    rw [ByteArray.data_extract, Array.toList_extract]
    simp [List.extract]
  rw [e2, List.take_take]
  congr 1
  omega
end Go.Proofs.Ytlkgfimignlgaaa
