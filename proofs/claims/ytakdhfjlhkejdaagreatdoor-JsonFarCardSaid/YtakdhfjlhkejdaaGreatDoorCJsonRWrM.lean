/-
  MATHEMATICS for codicilref02's May, Print: how many arrays and objects are open, which lists have one twice, how long a text is.
-/
import Derived.Test.YtakdhfjlhkejdaaGreatDoorN8
import Derived.Test.YtakdhfjlhkejdaaGreatDoorN7
set_option linter.unusedSimpArgs false
set_option linter.unusedVariables false
set_option linter.unusedVariables false
namespace Go.Proofs.YtakdhfjlhkejdaaGreatDoor
open Go.RowKit
mutual
def nestV : JV → Nat
  | .mk k t ks l => nestL l + (if k = 6 ∨ k = 7 then 1 else 0)
def nestL : List JV → Nat
  | [] => 0
  | v :: t => max (nestV v) (nestL t)
end
theorem nestL_drop {l : List JV} {i : Nat} {x : JV} (h : l[i]? = some x) : nestL (l.drop i) = max (nestV x) (nestL (l.drop (i + 1))) := by rw [drop_split h]; simp only [nestL]
mutual
theorem nestV_le : ∀ v : JV, nestV v ≤ sizeV v
  | .mk k t ks l => by
    have := nestL_le l
    simp only [nestV, sizeV]
    split <;> omega
theorem nestL_le : ∀ l : List JV, nestL l ≤ sizeL l
  | [] => by simp [nestL]
  | v :: t => by
    have h1 := nestV_le v
    have h2 := nestL_le t
    simp only [nestL, sizeL]
    omega
end
mutual
theorem deep_nest : ∀ (v : JV) (d : Nat), formV v = true → d ≤ 48 → (deepV d v = true ↔ 48 < d + nestV v)
  | .mk k t ks l, d, h, hd => by
    simp only [formV, Bool.and_eq_true] at h
    simp only [deepV, nestV, Bool.or_eq_true, Bool.and_eq_true, decide_eq_true_eq]
    rcases formB_cases h.1 with ⟨hk, _, _, h0⟩ | ⟨hk, _, _, h0⟩ | ⟨hk, _, h0⟩ | ⟨hk, _, _⟩ | ⟨hk, _, _⟩
    · have e := List.length_eq_zero_iff.1 h0
      subst e
      rw [if_neg (by omega)]
      have : listB (k : Int) = false := by rcases hk with rfl | rfl | rfl <;> rfl
      simp only [this, deepL, nestL, Bool.false_eq_true, false_and, or_self, false_iff]
      omega
    · have e := List.length_eq_zero_iff.1 h0
      subst e hk
      rw [if_neg (by omega)]
      simp only [show listB ((4 : Nat) : Int) = false from rfl, deepL, nestL, Bool.false_eq_true, false_and, or_self, false_iff]
      omega
    · have e := List.length_eq_zero_iff.1 h0
      subst e hk
      rw [if_neg (by omega)]
      simp only [show listB ((5 : Nat) : Int) = false from rfl, deepL, nestL, Bool.false_eq_true, false_and, or_self, false_iff]
      omega
    · subst hk
      rw [if_pos (.inl rfl)]
      simp only [show listB ((6 : Nat) : Int) = true from rfl, true_and]
      rcases Nat.lt_or_ge d 48 with hlt | hge
      · rw [deepL_nest l (d + 1) h.2 (by omega)]
        omega
      · constructor
        · intro _; omega
        · intro _; exact .inl hge
    · subst hk
      rw [if_pos (.inr rfl)]
      simp only [show listB ((7 : Nat) : Int) = true from rfl, true_and]
      rcases Nat.lt_or_ge d 48 with hlt | hge
      · rw [deepL_nest l (d + 1) h.2 (by omega)]
        omega
      · constructor
        · intro _; omega
        · intro _; exact .inl hge
theorem deepL_nest : ∀ (l : List JV) (d : Nat), formL l = true → d ≤ 48 → (deepL d l = true ↔ 48 < d + nestL l)
  | [], d, _, hd => by
    simp only [deepL, nestL, Bool.false_eq_true, false_iff]
    omega
  | v :: t, d, h, hd => by
    simp only [formL, Bool.and_eq_true] at h
    simp only [deepL, nestL, Bool.or_eq_true]
    rw [deep_nest v d h.1 hd, deepL_nest t d h.2 hd]
    omega
end
/-! ### One twice -/
theorem hasK_take {ks : List ByteArray} {j : Nat} {k : ByteArray} : hasK (ks.take j) k = true ↔ ∃ b, b < j ∧ b < ks.length ∧ ks.getD b ByteArray.empty = k := by
  unfold hasK
  rw [List.any_eq_true]
  constructor
  · rintro ⟨x, hx, he⟩
    obtain ⟨b, hb, e⟩ := List.getElem_of_mem hx
    rw [List.length_take] at hb
    refine ⟨b, by omega, by omega, ?_⟩
    rw [List.getElem_take] at e
    rw [List.getD_eq_getElem?_getD, List.getElem?_eq_getElem (by omega : b < ks.length)]
    show ks[b] = k
    rw [e]
    exact ByteArray.ext (Array.toList_inj.mp (beq_iff_eq.1 he))
  · rintro ⟨b, h1, h2, e⟩
    refine ⟨k, ?_, by simp⟩
    rw [← e, List.getD_eq_getElem?_getD, List.getElem?_eq_getElem h2]
    exact List.mem_take_iff_getElem.2 ⟨b, by omega, rfl⟩
theorem repL_iff (ks : List ByteArray) : ∀ (n j : Nat), j + n = ks.length → (repL (ks.take j) (ks.drop j) = true ↔ ∃ a b, b < a ∧ j ≤ a ∧ a < ks.length ∧ ks.getD a ByteArray.empty = ks.getD b ByteArray.empty)
  | 0, j, h => by
    rw [List.drop_eq_nil_of_le (by omega)]
    simp only [repL, Bool.false_eq_true, false_iff]
    rintro ⟨a, b, _, h1, h2, _⟩
    omega
  | n + 1, j, h => by
    rw [rep_step ks j (by omega), Bool.or_eq_true, hasK_take, repL_iff ks n (j + 1) (by omega)]
    constructor
    · rintro (⟨b, h1, h2, e⟩ | ⟨a, b, h1, h2, h3, e⟩)
      · exact ⟨j, b, h1, Nat.le_refl _, by omega, e.symm⟩
      · exact ⟨a, b, h1, by omega, h3, e⟩
    · rintro ⟨a, b, h1, h2, h3, e⟩
      rcases Nat.lt_or_ge j a with h4 | h4
      · exact .inr ⟨a, b, h1, h4, h3, e⟩
      · have : a = j := by omega
        subst this
        exact .inl ⟨b, h1, by omega, e.symm⟩
theorem rep_yes {ks : List ByteArray} {a b : Nat} (h1 : b < a) (h2 : a < ks.length) (e : ks.getD a ByteArray.empty = ks.getD b ByteArray.empty) : repB ks = true := by
  have := (repL_iff ks ks.length 0 (by omega)).2 ⟨a, b, h1, Nat.zero_le _, h2, e⟩
  simpa [repB] using this
theorem rep_no {ks : List ByteArray} (h : ∀ a b, b < a → a < ks.length → ks.getD a ByteArray.empty ≠ ks.getD b ByteArray.empty) : repB ks = false := by
  rw [Bool.eq_false_iff]
  intro hr
  have : repL (ks.take 0) (ks.drop 0) = true := by simpa [repB] using hr
  obtain ⟨a, b, h1, _, h2, e⟩ := (repL_iff ks ks.length 0 (by omega)).1 this
  exact h a b h1 h2 e
theorem twiceL_drop {l : List JV} {i : Nat} {x : JV} (h : l[i]? = some x) : twiceL (l.drop i) = (twiceV x || twiceL (l.drop (i + 1))) := by rw [drop_split h]; simp only [twiceL]
theorem utfL_drop {l : List JV} {i : Nat} {x : JV} (h : l[i]? = some x) : utfL (l.drop i) = (utfV x && utfL (l.drop (i + 1))) := by rw [drop_split h]; simp only [utfL]
theorem formL_drop {l : List JV} {i : Nat} {x : JV} (h : l[i]? = some x) : formL (l.drop i) = (formV x && formL (l.drop (i + 1))) := by rw [drop_split h]; simp only [formL]
theorem keysV_at {l : List JV} {i : Nat} {x : JV} (h : l[i]? = some x) : keysV x ≤ keysL l := by
  induction l generalizing i with
  | nil => simp at h
  | cons v t ih =>
    cases i with
    | zero => simp only [List.getElem?_cons_zero, Option.some.injEq] at h; subst h; simp only [keysL]; omega
    | succ i => have := ih (i := i) (by simpa using h); simp only [keysL]; omega
theorem lettV_at {l : List JV} {i : Nat} {x : JV} (h : l[i]? = some x) : lettV x ≤ lettL l := by
  induction l generalizing i with
  | nil => simp at h
  | cons v t ih =>
    cases i with
    | zero => simp only [List.getElem?_cons_zero, Option.some.injEq] at h; subst h; simp only [lettL]; omega
    | succ i => have := ih (i := i) (by simpa using h); simp only [lettL]; omega
theorem keys_all_drop {ks : List ByteArray} {i : Nat} (h : i < ks.length) : (ks.drop i).all validB = (validB (ks.getD i ByteArray.empty) && (ks.drop (i + 1)).all validB) := by
  rw [List.drop_eq_getElem_cons h, List.all_cons, List.getD_eq_getElem?_getD, List.getElem?_eq_getElem h]
  rfl
/-! ### How long a text is -/
theorem quoL_pos (l : List UInt8) : l.length + 2 ≤ (quoL l).length := by
  have := quoB_pos l
  simp only [quoL, List.length_cons, List.length_append, List.length_nil]
  omega
mutual
theorem lett_text : ∀ v : JV, formV v = true → lettV v ≤ (textV v).length
  | .mk k t ks l, h => by
    simp only [formV, Bool.and_eq_true] at h
    have e0 : sumK [] = 0 := rfl
    have et : t.data.toList = [] → t.size = 0 := fun e => by rw [Lib.size_eq, e]; rfl
    have hq := quoL_pos t.data.toList
    have hts := Lib.size_eq t
    rcases formB_cases h.1 with ⟨hk, h1, h2, h3⟩ | ⟨hk, _, h2, h3⟩ | ⟨hk, h2, h3⟩ | ⟨hk, h1, h2⟩ | ⟨hk, h1, h2⟩
    · have e2 := List.length_eq_zero_iff.1 h2
      have e3 := List.length_eq_zero_iff.1 h3
      subst e2 e3
      have := et h1
      simp only [lettV, lettL, e0]
      omega
    · have e2 := List.length_eq_zero_iff.1 h2
      have e3 := List.length_eq_zero_iff.1 h3
      subst e2 e3 hk
      simp only [lettV, lettL, e0, textV]
      simp
    · have e2 := List.length_eq_zero_iff.1 h2
      have e3 := List.length_eq_zero_iff.1 h3
      subst e2 e3 hk
      simp only [lettV, lettL, e0, textV]
      simp
      omega
    · have e2 := List.length_eq_zero_iff.1 h2
      subst e2 hk
      have := et h1
      have h4 := lettL_textF l 0 [] h.2
      simp only [lettV, e0, textV]
      simp
      omega
    · subst hk
      have := et h1
      have h4 := lettL_textT l 0 ks h.2 (by simp [h2])
      rw [List.drop_zero] at h4
      simp only [lettV, textV]
      simp
      omega
theorem lettL_textF : ∀ (l : List JV) (i : Nat) (ks : List ByteArray), formL l = true → lettL l ≤ (textI false i ks l).length
  | [], _, _, _ => by simp [lettL]
  | v :: t, i, ks, h => by
    simp only [formL, Bool.and_eq_true] at h
    have h1 := lett_text v h.1
    have h2 := lettL_textF t (i + 1) ks h.2
    simp only [lettL, textI, List.length_append]
    omega
theorem lettL_textT : ∀ (l : List JV) (i : Nat) (ks : List ByteArray), formL l = true → (ks.drop i).length = l.length → sumK (ks.drop i) + lettL l ≤ (textI true i ks l).length
  | [], i, ks, _, hl => by
    rw [List.length_nil] at hl
    rw [List.length_eq_zero_iff.1 hl]
    simp [lettL, sumK]
  | v :: t, i, ks, h, hl => by
    simp only [formL, Bool.and_eq_true] at h
    have h1 := lett_text v h.1
    rw [List.length_drop, List.length_cons] at hl
    have h2 := lettL_textT t (i + 1) ks h.2 (by rw [List.length_drop]; omega)
    have h3 := sumK_drop ks i
    have h4 := quoL_pos (ks.getD i ByteArray.empty).data.toList
    rw [← Lib.size_eq] at h4
    simp only [lettL, textI, List.length_append, if_true]
    omega
end
/-! ### What the document's May and Print answer -/
def refE (v : JV) : Int := if formV v = false then 8 else if utfV v = false then 24 else if twiceV v = true then 25 else if 48 < nestV v then 26 else if 4096 < sizeV v then 27 else if 65536 < (textV v).length then 4 else 0
theorem ref_pr (v : JV) : refE v = prE v := by
  unfold refE prE printE checkE
  have hsz : (ByteArray.mk (textV v).toArray).size = (textV v).length := by rw [Lib.size_eq]
  unfold fitE
  rw [hsz]
  cases hf : formV v
  · rfl
  · have hd := deep_nest v 0 hf (by omega)
    rw [Nat.zero_add] at hd
    have hl := lett_text v hf
    cases hu : utfV v
    · rfl
    · cases ht : twiceV v
      · by_cases hn : 48 < nestV v
        · rw [if_pos hn, if_pos (hd.2 hn)]; rfl
        · have : deepV 0 v = false := by rw [Bool.eq_false_iff]; exact fun h => hn (hd.1 h)
          rw [if_neg hn, this]
          simp only [Bool.true_eq_false, Bool.false_eq_true, if_false]
          by_cases hs : 4096 < sizeV v
          · rw [if_pos hs, if_pos hs]; rfl
          · rw [if_neg hs, if_neg hs]
            by_cases h6 : 65536 < lettV v
            · rw [if_pos h6, if_pos (by omega)]; rfl
            · rw [if_neg h6]
              by_cases h7 : 65536 < (textV v).length
              · rw [if_pos h7, if_pos rfl, if_neg (by omega)]
              · rw [if_neg h7, if_pos rfl, if_pos (by omega)]
      · rfl
theorem prS_no {v : JV} (h : prE v ≠ 0) : prS v = ⟨#[]⟩ := by
  unfold prE printE at h
  unfold prS printS
  split
  · rename_i h0
    rw [if_pos h0] at h
    unfold fitE at h
    unfold fitS
    split
    · rename_i hs
      rw [if_pos hs] at h
      exact absurd rfl h
    · rfl
  · rfl
theorem prS_yes {v : JV} (h : prE v = 0) : prS v = ⟨(textV v).toArray⟩ := by
  unfold prE printE at h
  unfold prS printS
  split at h
  · rename_i h0
    rw [if_pos h0]
    unfold fitE at h
    split at h
    · rename_i hs
      exact (fit_yes hs).1
    · cases h
  · rename_i h0
    exact absurd h h0
end Go.Proofs.YtakdhfjlhkejdaaGreatDoor
