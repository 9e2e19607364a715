/-
  WHAT A CRASH LEAVES where nothing was done but appending: mathematics alone.
-/
import Derived.Test.YtlkgfimignlgaaaCDiskOX
set_option linter.unusedSimpArgs false
set_option linter.unusedVariables false
set_option linter.unusedVariables false
set_option linter.unusedSimpArgs false
namespace Go.Proofs.Ytlkgfimignlgaaa
open Go.RowKit
theorem eqF_same {u s : ByteArray} : u.data.toList = s.data.toList → u = s := fun h => ByteArray.ext (Array.toList_inj.1 h)
theorem find_ins_ne (p : ByteArray × List UInt8) (u : ByteArray) (h : eqF u p = false) : ∀ F : Fs, (insF p F).find? (eqF u) = F.find? (eqF u)
  | [] => by simp [insF, h]
  | q :: r => by
    simp only [insF]
    split
    · rw [List.find?_cons, h]
    · rw [List.find?_cons, List.find?_cons, find_ins_ne p u h r]
theorem find_ins_eq (p : ByteArray × List UInt8) (u : ByteArray) (h : eqF u p = true) : ∀ F : Fs, F.find? (eqF u) = none → (insF p F).find? (eqF u) = some p
  | [], _ => by simp [insF, h]
  | q :: r, hn => by
    rw [List.find?_cons] at hn
    cases hq : eqF u q with
    | true => rw [hq] at hn; cases hn
    | false =>
      rw [hq] at hn
      simp only [insF]
      split
      · rw [List.find?_cons, h]
      · rw [List.find?_cons, hq]
        exact find_ins_eq p u h r hn
theorem find_del_ne (F : Fs) (s u : ByteArray) (h : ¬ u = s) : (delF F s).find? (eqF u) = F.find? (eqF u) := by
  unfold delF
  induction F with
  | nil => rfl
  | cons q r ih =>
    rw [List.filter_cons, List.find?_cons]
    cases hs : eqF s q with
    | true =>
      have hu : eqF u q = false := by
        cases hu : eqF u q with
        | false => rfl
        | true =>
          unfold eqF at hs hu
          exact absurd (eqF_same ((beq_iff_eq.1 hu).symm.trans (beq_iff_eq.1 hs))) h
      rw [hu]
      simpa using ih
    | false =>
      simp only [Bool.not_false, if_true]
      rw [List.find?_cons, ih]
theorem find_del_eq (F : Fs) (s : ByteArray) : (delF F s).find? (eqF s) = none := by
  unfold delF
  rw [List.find?_eq_none]
  intro x hx
  have := (List.mem_filter.1 hx).2
  simpa using this
theorem hasF_find (F : Fs) (u : ByteArray) : hasF F u = (F.find? (eqF u)).isSome := by
  unfold hasF
  induction F with
  | nil => rfl
  | cons q r ih =>
    rw [List.any_cons, List.find?_cons]
    cases eqF u q with
    | true => rfl
    | false => simpa using ih
theorem find_put (F : Fs) (s : ByteArray) (l : List UInt8) (u : ByteArray) : (putF F s l).find? (eqF u) = if u = s then some (s, l) else F.find? (eqF u) := by
  unfold putF
  by_cases h : u = s
  · subst h
    rw [if_pos rfl]
    exact find_ins_eq _ _ (by unfold eqF; simp) _ (find_del_eq F u)
  · rw [if_neg h, find_ins_ne _ _ (by
      unfold eqF
      rw [beq_eq_false_iff_ne]
      exact fun e => h (eqF_same e.symm)), find_del_ne F s u h]
theorem get_put (F : Fs) (s : ByteArray) (l : List UInt8) (u : ByteArray) : getF (putF F s l) u = if u = s then l else getF F u := by
  unfold getF
  rw [find_put]
  by_cases h : u = s
  · rw [if_pos h, if_pos h]
  · rw [if_neg h, if_neg h]
theorem has_put (F : Fs) (s : ByteArray) (l : List UInt8) (u : ByteArray) : hasF (putF F s l) u = (decide (u = s) || hasF F u) := by
  rw [hasF_find, hasF_find, find_put]
  by_cases h : u = s
  · rw [if_pos h, decide_eq_true h]; rfl
  · rw [if_neg h, decide_eq_false h]; rfl
/-- all that is there is there still, and begins as it did -/
def Gr (F G : Fs) : Prop := ∀ u, hasF F u = true → hasF G u = true ∧ getF F u <+: getF G u
theorem Gr.refl (F : Fs) : Gr F F := fun u h => ⟨h, List.prefix_refl _⟩
theorem Gr.trans {F G H : Fs} (h : Gr F G) (k : Gr G H) : Gr F H := fun u hu => ⟨(k u (h u hu).1).1, (h u hu).2.trans (k u (h u hu).1).2⟩
theorem gr_put (F : Fs) (s : ByteArray) (l : List UInt8) (h : getF F s <+: l) : Gr F (putF F s l) := fun u hu => by
  rw [has_put, get_put, hu]
  refine ⟨by simp, ?_⟩
  by_cases e : u = s
  · rw [if_pos e, e]; exact h
  · rw [if_neg e]; exact List.prefix_refl _
theorem gr_app (k : Nat) (F : Fs) (s d : ByteArray) : Gr F (doF k F (.app s d)) := gr_put F s _ (List.prefix_append _ _)
theorem gr_part (k : Nat) (F : Fs) (s d : ByteArray) (hk : k ≤ 16777217) : Gr (doF k F (.app s d)) (doF 16777217 F (.app s d)) := fun u hu => by
  simp only [doF] at hu ⊢
  rw [has_put] at hu ⊢
  rw [get_put, get_put]
  refine ⟨hu, ?_⟩
  by_cases e : u = s
  · rw [if_pos e, if_pos e]
    refine List.prefix_append_right_inj _ |>.2 ?_
    exact List.take_prefix_take_left (by omega)
  · rw [if_neg e, if_neg e]; exact List.prefix_refl _
def AppL (L : List Op) : Prop := ∀ op ∈ L, ∃ s d, op = .app s d
theorem doAll_app : ∀ (L1 : List Op) (S : Fs) (L2 : List Op), doAll S (L1 ++ L2) = doAll (doAll S L1) L2
  | [], _, _ => rfl
  | op :: L1, S, L2 => doAll_app L1 _ L2
theorem gr_all : ∀ (L : List Op) (S : Fs), AppL L → Gr S (doAll S L)
  | [], S, _ => Gr.refl S
  | op :: L, S, h => by
    obtain ⟨s, d, rfl⟩ := h op (List.mem_cons_self ..)
    exact (gr_app _ S s d).trans (gr_all L _ fun x hx => h x (List.mem_cons_of_mem _ hx))
theorem gr_take (L : List Op) (S : Fs) (h : AppL L) (n : Nat) : Gr S (doAll S (L.take n)) ∧ Gr (doAll S (L.take n)) (doAll S L) := by
  refine ⟨gr_all _ _ fun x hx => h x (List.mem_of_mem_take hx), ?_⟩
  conv => rhs; rw [← List.take_append_drop n L]
  rw [doAll_app]
  exact gr_all _ _ fun x hx => h x (List.mem_of_mem_drop hx)
/-- THE MATHEMATICS of a crash behind appends alone -/
theorem gr_crash (st : Ds) (c b : Int) (h : AppL st.L) : Gr st.S (crashF st c b) ∧ Gr (crashF st c b) st.now := by
  unfold crashF Ds.now
  generalize keptN st c = n
  obtain ⟨h1, h2⟩ := gr_take st.L st.S h n
  split
  · rename_i op hop
    split
    · obtain ⟨s, d, rfl⟩ := h op (List.mem_of_getElem? hop)
      refine ⟨h1.trans (gr_app _ _ s d), (gr_part _ _ s d (by have := partN_le b; omega)).trans ?_⟩
      have e : doF 16777217 (doAll st.S (st.L.take n)) (.app s d) = doAll st.S (st.L.take (n + 1)) := by
        obtain ⟨hn, e⟩ := List.getElem?_eq_some_iff.1 hop
        rw [List.take_succ_eq_append_getElem hn, e, doAll_snoc]
      rw [e]
      exact (gr_take st.L st.S h (n + 1)).2
    · exact ⟨h1, h2⟩
  · exact ⟨h1, h2⟩
theorem appL_app (st : Ds) (s d : ByteArray) (h : AppL st.L) : AppL (appS st s d).2.L := by
  unfold appS
  split
  · exact h
  split
  · exact h
  split
  · exact h
  · intro op ho
    rcases List.mem_append.1 ho with ho | ho
    · exact h op ho
    · simp only [List.mem_cons, List.not_mem_nil, or_false] at ho
      exact ⟨s, d, ho⟩
/-- what the laws ask of three texts -/
theorem pre_size {x y : List UInt8} (h : x <+: y) : ¬ (⟨y.toArray⟩ : ByteArray).size < (⟨x.toArray⟩ : ByteArray).size := by
  have := h.length_le
  show ¬ y.toArray.size < x.toArray.size
  simpa using this
theorem pre_ext {x y : List UInt8} (h : x <+: y) : (⟨y.toArray⟩ : ByteArray).extract 0 (⟨x.toArray⟩ : ByteArray).size = ⟨x.toArray⟩ := by
  obtain ⟨t, rfl⟩ := h
  refine ByteArray.ext ?_
  rw [ByteArray.data_extract]
  show ((x ++ t).toArray.extract 0 x.toArray.size) = x.toArray
  apply Array.toList_inj.1
  simp
/-- a name that is told is there -/
theorem named_has {F : Fs} {L : List (List UInt8)} (h : L.Perm (namesF F)) {l : List UInt8} (hl : l ∈ L) : hasF F ⟨l.toArray⟩ = true := by
  have := h.mem_iff.1 hl
  unfold namesF at this
  obtain ⟨p, hp, e⟩ := List.mem_map.1 this
  unfold hasF
  rw [List.any_eq_true]
  refine ⟨p, hp, ?_⟩
  unfold eqF
  rw [e]
  simp
end Go.Proofs.Ytlkgfimignlgaaa
